/-
  Frames of records, and how they are scanned, on plain lists of bytes.
-/
import Derived.Test.YtjobddbcalafhaaBack
import Derived.Test.YtjobddbcalafhaaSumPlain
namespace Go.Proofs.Ytjobddbcalafhaa
open Go.RowKit

/-- The byte of a frame. -/
def kindOf (first : Bool) : UInt8 := if first = true then 1 else 0
/-- A frame. -/
def frameOf (first : Bool) (r : List UInt8) : List UInt8 := enc (r.length : Nat) 4 ++ (enc (crcOf (kindOf first :: r) : Nat) 4 ++ (kindOf first :: r))
theorem frameOf_length (first : Bool) (r : List UInt8) : (frameOf first r).length = 9 + r.length := by
  simp [frameOf, enc_length]
  omega

/-- The frame that the bytes begin with: its byte, its record, how many bytes it has. -/
def headOf (b : List UInt8) : Option (Bool × List UInt8 × Nat) :=
  if b.length < 9 ∨ 4000 < be (b.take 4) ∨ b.length < 9 + be (b.take 4) ∨ 1 < (b.getD 8 0).toNat ∨ crcOf ((b.drop 8).take (be (b.take 4) + 1)) ≠ be ((b.drop 4).take 4) then none
  else some (decide ((b.getD 8 0).toNat = 1), (b.drop 9).take (be (b.take 4)), 9 + be (b.take 4))

theorem headOf_short {b : List UInt8} (h : b.length < 9) : headOf b = none := by
  unfold headOf
  rw [if_pos (.inl h)]

theorem kindOf_toNat (first : Bool) : (kindOf first).toNat = if first = true then 1 else 0 := by cases first <;> rfl

/-- Bytes that begin with a part of a frame, or with all of it. -/
theorem frame_parts (first : Bool) (r t : List UInt8) (hr : r.length ≤ 4000) :
    be ((frameOf first r ++ t).take 4) = r.length ∧ be (((frameOf first r ++ t).drop 4).take 4) = crcOf (kindOf first :: r) ∧ (frameOf first r ++ t).drop 8 = kindOf first :: (r ++ t) ∧ (frameOf first r ++ t).drop 9 = r ++ t := by
  have l1 := enc_length ((r.length : Nat) : Int) 4
  have l2 := enc_length ((crcOf (kindOf first :: r) : Nat) : Int) 4
  have e : frameOf first r ++ t = enc (r.length : Nat) 4 ++ (enc (crcOf (kindOf first :: r) : Nat) 4 ++ (kindOf first :: (r ++ t))) := by
    simp [frameOf]
  have hc := crcOf_lt (kindOf first :: r)
  have d4 : (frameOf first r ++ t).drop 4 = enc (crcOf (kindOf first :: r) : Nat) 4 ++ (kindOf first :: (r ++ t)) := by rw [e]; exact List.drop_left' l1
  have d8 : (frameOf first r ++ t).drop 8 = kindOf first :: (r ++ t) := by
    rw [show 8 = 4 + 4 from rfl, ← List.drop_drop, d4]
    exact List.drop_left' l2
  refine ⟨?_, ?_, d8, ?_⟩
  · rw [e, List.take_left' l1, be_enc]
    simp
    omega
  · rw [d4, List.take_left' l2, be_enc]
    simp
    omega
  · rw [show 9 = 8 + 1 from rfl, ← List.drop_drop, d8]
    rfl

/-- A frame that stands at the beginning is read. -/
theorem head_frame (first : Bool) (r t : List UInt8) (hr : r.length ≤ 4000) : headOf (frameOf first r ++ t) = some (first, r, 9 + r.length) := by
  obtain ⟨p1, p2, p3, p4⟩ := frame_parts first r t hr
  have hl : (frameOf first r ++ t).length = 9 + r.length + t.length := by rw [List.length_append, frameOf_length]
  have hk : (frameOf first r ++ t).getD 8 0 = kindOf first := by
    have : (frameOf first r ++ t)[8]? = some (kindOf first) := by
      have := congrArg (fun l => l[0]?) p3
      simpa using this
    rw [List.getD_eq_getElem?_getD, this]
    rfl
  unfold headOf
  rw [p1, p2, p3, p4, hk, hl]
  have hc : crcOf ((kindOf first :: (r ++ t)).take (r.length + 1)) = crcOf (kindOf first :: r) := by
    rw [List.take_succ_cons, List.take_left' rfl]
  have hkn := kindOf_toNat first
  rw [if_neg (by
    rintro (h | h | h | h | h)
    · omega
    · omega
    · omega
    · rw [hkn] at h; split at h <;> omega
    · exact h hc), List.take_left' rfl, hkn]
  cases first <;> rfl
/-- A frame that is cut off is none. -/
theorem head_torn (first : Bool) (r : List UInt8) (hr : r.length ≤ 4000) (m : Nat) (hm : m < 9 + r.length) : headOf ((frameOf first r).take m) = none := by
  have hl : ((frameOf first r).take m).length = m := by rw [List.length_take, frameOf_length]; omega
  by_cases h9 : m < 9
  · exact headOf_short (by omega)
  · have p := (frame_parts first r [] hr).1
    rw [List.append_nil] at p
    unfold headOf
    rw [List.take_take, show min 4 m = 4 by omega, p, hl]
    rw [if_pos (.inr (.inr (.inl (by omega))))]

/-- The records from here on, behind those of 'out', and how many bytes their frames have. -/
def scanF : Nat → List (List UInt8) → List UInt8 → List (List UInt8) × Nat
  | 0, out, _ => (out, 0)
  | k + 1, out, b => match headOf b with
    | none => (out, 0)
    | some (f, r, n) => ((scanF k ((if f = true then [] else out) ++ [r]) (b.drop n)).1, n + (scanF k ((if f = true then [] else out) ++ [r]) (b.drop n)).2)
def scanOf (b : List UInt8) : List (List UInt8) × Nat := scanF b.length [] b

theorem scanF_none {k : Nat} {out : List (List UInt8)} {b : List UInt8} (h : headOf b = none) : scanF k out b = (out, 0) := by
  cases k with
  | zero => rfl
  | succ k => unfold scanF; rw [h]
theorem scanF_some {k : Nat} {out : List (List UInt8)} {b : List UInt8} {f : Bool} {r : List UInt8} {n : Nat} (h : headOf b = some (f, r, n)) :
    scanF (k + 1) out b = ((scanF k ((if f = true then [] else out) ++ [r]) (b.drop n)).1, n + (scanF k ((if f = true then [] else out) ++ [r]) (b.drop n)).2) := by
  rw [scanF, h]
theorem headOf_some {b : List UInt8} {f : Bool} {r : List UInt8} {n : Nat} (h : headOf b = some (f, r, n)) : 9 ≤ n ∧ n ≤ b.length := by
  unfold headOf at h
  split at h
  · cases h
  · rename_i hn
    simp only [Option.some.injEq, Prod.mk.injEq] at h
    simp only [not_or] at hn
    omega
/-- How often is no matter, if it is often enough. -/
theorem scanF_more : ∀ (k m : Nat) (out : List (List UInt8)) (b : List UInt8), b.length ≤ k → b.length ≤ m → scanF k out b = scanF m out b
  | 0, m, out, b, hk, _ => by
    have : headOf b = none := headOf_short (by omega)
    rw [scanF_none this, scanF_none this]
  | k + 1, 0, out, b, _, hm => by
    have : headOf b = none := headOf_short (by omega)
    rw [scanF_none this, scanF_none this]
  | k + 1, m + 1, out, b, hk, hm => by
    cases h : headOf b with
    | none => rw [scanF_none h, scanF_none h]
    | some x =>
      obtain ⟨f, r, n⟩ := x
      have hn := headOf_some h
      rw [scanF_some h, scanF_some h, scanF_more k m _ (b.drop n) (by rw [List.length_drop]; omega) (by rw [List.length_drop]; omega)]

/-- What was written, one behind the other: each with 'first' or without. -/
def wbytes (fs : List (Bool × List UInt8)) : List UInt8 := fs.flatMap fun x => frameOf x.1 x.2
/-- The records then. -/
def stateFrom (out : List (List UInt8)) (fs : List (Bool × List UInt8)) : List (List UInt8) := fs.foldl (fun out x => (if x.1 = true then [] else out) ++ [x.2]) out
def Fits (fs : List (Bool × List UInt8)) : Prop := ∀ x ∈ fs, x.2.length ≤ 4000

/-- Frames, and something behind them that is none, are scanned as they were written. -/
theorem scan_all : ∀ (fs : List (Bool × List UInt8)) (out : List (List UInt8)) (t : List UInt8) (k : Nat), Fits fs → headOf t = none → (wbytes fs ++ t).length ≤ k → scanF k out (wbytes fs ++ t) = (stateFrom out fs, (wbytes fs).length)
  | [], out, t, k, _, ht, _ => scanF_none ht
  | (f, r) :: fs, out, t, 0, _, _, hk => by
    exfalso
    have : (wbytes ((f, r) :: fs)).length = 9 + r.length + (wbytes fs).length := by simp [wbytes, frameOf_length]
    rw [List.length_append, this] at hk
    omega
  | (f, r) :: fs, out, t, k + 1, hf, ht, hk => by
    have hr : r.length ≤ 4000 := hf (f, r) (List.mem_cons_self ..)
    have e : wbytes ((f, r) :: fs) ++ t = frameOf f r ++ (wbytes fs ++ t) := by simp [wbytes]
    have hl : (wbytes ((f, r) :: fs)).length = 9 + r.length + (wbytes fs).length := by simp [wbytes, frameOf_length]
    rw [List.length_append] at hk
    rw [e, scanF_some (head_frame f r _ hr), List.drop_left' (frameOf_length f r), scan_all fs _ t k (fun x hx => hf x (List.mem_cons_of_mem _ hx)) ht (by rw [List.length_append]; omega), hl]
    rfl
theorem scan_written (fs : List (Bool × List UInt8)) (t : List UInt8) (hf : Fits fs) (ht : headOf t = none) : scanOf (wbytes fs ++ t) = (stateFrom [] fs, (wbytes fs).length) := scan_all fs [] t _ hf ht (Nat.le_refl _)

/-- How many frames are whole within the first m bytes. -/
def wholeOf : List (Bool × List UInt8) → Nat → Nat
  | [], _ => 0
  | (_, r) :: fs, m => if m < 9 + r.length then 0 else 1 + wholeOf fs (m - (9 + r.length))
theorem wholeOf_le (fs : List (Bool × List UInt8)) (m : Nat) : wholeOf fs m ≤ fs.length := by
  induction fs generalizing m with
  | nil => exact Nat.le_refl _
  | cons x fs ih =>
    obtain ⟨f, r⟩ := x
    unfold wholeOf
    split
    · exact Nat.zero_le _
    · have := ih (m - (9 + r.length))
      simp
      omega
/-- Frames that are cut off anywhere have the first records, whole. -/
theorem scan_torn (fs : List (Bool × List UInt8)) (m : Nat) (hf : Fits fs) : scanOf ((wbytes fs).take m) = (stateFrom [] (fs.take (wholeOf fs m)), (wbytes (fs.take (wholeOf fs m))).length) := by
  suffices h : ∃ t, headOf t = none ∧ (wbytes fs).take m = wbytes (fs.take (wholeOf fs m)) ++ t by
    obtain ⟨t, ht, e⟩ := h
    rw [e]
    exact scan_written _ t (fun x hx => hf x (List.mem_of_mem_take hx)) ht
  induction fs generalizing m with
  | nil => exact ⟨[], headOf_short (by simp), by simp [wbytes, wholeOf]⟩
  | cons x fs ih =>
    obtain ⟨f, r⟩ := x
    have hr : r.length ≤ 4000 := hf (f, r) (List.mem_cons_self ..)
    have e : wbytes ((f, r) :: fs) = frameOf f r ++ wbytes fs := by simp [wbytes]
    rw [e]
    unfold wholeOf
    split
    · rename_i hm
      refine ⟨(frameOf f r).take m, head_torn f r hr m hm, ?_⟩
      rw [List.take_append_of_le_length (by rw [frameOf_length]; omega)]
      simp [wbytes]
    · rename_i hm
      obtain ⟨t, ht, e2⟩ := ih (m - (9 + r.length)) (fun x hx => hf x (List.mem_cons_of_mem _ hx))
      refine ⟨t, ht, ?_⟩
      rw [List.take_append, frameOf_length, List.take_of_length_le (by rw [frameOf_length]; omega), e2, Nat.add_comm 1, List.take_succ_cons]
      simp [wbytes]

theorem whole_fits (fs : List (Bool × List UInt8)) (m : Nat) : (wbytes (fs.take (wholeOf fs m))).length ≤ m := by
  induction fs generalizing m with
  | nil => simp [wbytes]
  | cons x fs ih =>
    obtain ⟨f, r⟩ := x
    unfold wholeOf
    split
    · simp [wbytes]
    · rename_i hm
      have := ih (m - (9 + r.length))
      have e : (wbytes ((f, r) :: fs.take (wholeOf fs (m - (9 + r.length))))).length = 9 + r.length + (wbytes (fs.take (wholeOf fs (m - (9 + r.length))))).length := by simp [wbytes, frameOf_length]
      rw [Nat.add_comm 1, List.take_succ_cons, e]
      omega
theorem whole_most (fs : List (Bool × List UInt8)) (m j : Nat) (hj : j ≤ fs.length) (h : (wbytes (fs.take j)).length ≤ m) : j ≤ wholeOf fs m := by
  induction fs generalizing m j with
  | nil => simp at hj; omega
  | cons x fs ih =>
    obtain ⟨f, r⟩ := x
    cases j with
    | zero => exact Nat.zero_le _
    | succ j =>
      have e : (wbytes ((f, r) :: fs.take j)).length = 9 + r.length + (wbytes (fs.take j)).length := by simp [wbytes, frameOf_length]
      rw [List.take_succ_cons, e] at h
      have := ih (m - (9 + r.length)) j (by simpa using hj) (by omega)
      unfold wholeOf
      rw [if_neg (by omega)]
      omega

/-- Scanning has come to place p, with the records 'out'. -/
structure At (b : List UInt8) (out : List (List UInt8)) (p : Nat) : Prop where
  le : p ≤ b.length
  rest : scanOf b = ((scanF b.length out (b.drop p)).1, p + (scanF b.length out (b.drop p)).2)
theorem At.start (b : List UInt8) : At b [] 0 := ⟨Nat.zero_le _, by rw [List.drop_zero, Nat.zero_add]; rfl⟩
theorem At.stop {b : List UInt8} {out : List (List UInt8)} {p : Nat} (h : At b out p) (hn : headOf (b.drop p) = none) : scanOf b = (out, p) := by
  rw [h.rest, scanF_none hn]
  rfl
theorem At.next {b : List UInt8} {out : List (List UInt8)} {p : Nat} {f : Bool} {r : List UInt8} {n : Nat} (h : At b out p) (hn : headOf (b.drop p) = some (f, r, n)) : At b ((if f = true then [] else out) ++ [r]) (p + n) := by
  have hs := headOf_some hn
  rw [List.length_drop] at hs
  have hp := h.le
  refine ⟨by omega, ?_⟩
  obtain ⟨k, hk⟩ : ∃ k, b.length = k + 1 := ⟨b.length - 1, by omega⟩
  have e : scanF b.length ((if f = true then [] else out) ++ [r]) (b.drop (p + n)) = scanF k ((if f = true then [] else out) ++ [r]) ((b.drop p).drop n) := by
    rw [List.drop_drop]
    exact scanF_more _ _ _ _ (by rw [List.length_drop]; omega) (by rw [List.length_drop]; omega)
  rw [e, h.rest, hk, scanF_some hn, Nat.add_assoc]

end Go.Proofs.Ytjobddbcalafhaa
