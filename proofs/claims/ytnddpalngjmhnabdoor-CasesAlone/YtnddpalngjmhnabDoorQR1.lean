/-
  The document's takes, Number, Name, index, truth.
-/
import Derived.Test.YtnddpalngjmhnabDoorWStr
import Derived.Deep.CutRange
import Derived.Test.YtnddpalngjmhnabDoorSB
import Derived.Test.YtnddpalngjmhnabDoorPInts
namespace Go.Proofs.YtnddpalngjmhnabDoor
open Go.RowKit

def opWords : List (List UInt8) := [[110, 111, 116], [97, 110, 100], [111, 114], [108, 116], [101, 113], [97, 100, 100], [115, 117, 98]]
theorem take_all {l : List UInt8} {f : UInt8 → Bool} {i : Nat} (hi : i < l.length) (h : (l.take i).all f = true) (hf : f l[i] = true) : (l.take (i + 1)).all f = true := by
  rw [List.take_succ_eq_append_getElem hi, List.all_append, h]
  simp [hf]
theorem not_all_at {l : List UInt8} {f : UInt8 → Bool} {i : Nat} (hi : i < l.length) (hf : f l[i] = false) : l.all f = false := by
  rw [← Bool.not_eq_true, List.all_eq_true]
  intro h
  rw [h l[i] (List.getElem_mem hi)] at hf
  cases hf

theorem mag_drop (x : List UInt8) (h : 0 < x.length) : mag x = if x[0] = 45 then x.drop 1 else x := by
  cases x with
  | nil => simp at h
  | cons c r =>
    unfold mag
    by_cases h : c = 45 <;> simp [h]
theorem num_drop (x : List UInt8) (h : 0 < x.length) : num x = if x[0] = 45 then -(digs (mag x) : Int) else (digs (mag x) : Int) := by
  cases x with
  | nil => simp at h
  | cons c r =>
    unfold num
    by_cases h : c = 45 <;> simp [h]

end Go.Proofs.YtnddpalngjmhnabDoor

namespace Go.Proofs.YtnddpalngjmhnabDoor
open Go.RowKit

/-- The two cells of a word. -/
def wlay (x : Nat × List UInt8) : List Value := [.int .i64 (x.1 : Nat), .string ⟨x.2.toArray⟩]
def wrow (xs : List (Nat × List UInt8)) : List Value := xs.flatMap wlay
theorem wrow_cons (x : Nat × List UInt8) (xs : List (Nat × List UInt8)) : wrow (x :: xs) = wlay x ++ wrow xs := rfl
theorem wrow_length (xs : List (Nat × List UInt8)) : (wrow xs).length = xs.length * 2 := by
  induction xs with
  | nil => rfl
  | cons x xs ih => rw [wrow_cons]; simp [ih, wlay]; omega
theorem wrow_append (xs ys : List (Nat × List UInt8)) : wrow (xs ++ ys) = wrow xs ++ wrow ys := by simp [wrow]
theorem wrow_get : ∀ (xs : List (Nat × List UInt8)) (k : Nat) (h : k < xs.length) (j : Nat), j < 2 → (wrow xs)[k * 2 + j]? = (wlay xs[k])[j]?
  | x :: xs, 0, _, j, hj => by
    rw [wrow_cons, Nat.zero_mul, Nat.zero_add, List.getElem?_append_left (by simpa [wlay] using hj)]
    rfl
  | x :: xs, k + 1, h, j, hj => by
    have := wrow_get xs k (by simpa using h) j hj
    rw [wrow_cons, show (k + 1) * 2 + j = 2 + (k * 2 + j) by omega, List.getElem?_append_right (by simp [wlay]), show (wlay x).length = 2 from rfl, Nat.add_sub_cancel_left, this]
    rfl
theorem wrow_one (xs : List (Nat × List UInt8)) : ∀ u ∈ wrow xs, u.oneCell' = true := by
  intro u hu
  obtain ⟨x, _, hm⟩ := List.mem_flatMap.1 hu
  simp [wlay] at hm
  rcases hm with rfl | rfl <;> rfl
theorem cells_rw : (Value.agg #[.int .i64 0, .string .empty]).cells.size = 2 := by simp [Value.cells]

/-- Words that are looked at, from anywhere on. -/
def Wv (w : World) (v : Value) (ws : List (Nat × List UInt8)) : Prop :=
  ∃ ao cap, v = .slice ao ws.length cap ∧ ws.length ≤ cap ∧ (0 < ws.length → ∃ b off, ao = some ⟨b, off, none⟩ ∧ b < w.heap.size ∧ ∀ i (h : i < ws.length), w.cell? ⟨b, off + i * 2, none⟩ = some (.int .i64 ((ws[i]).1 : Nat)) ∧ w.cell? ⟨b, off + i * 2 + 1, none⟩ = some (.string ⟨((ws[i]).2).toArray⟩))
theorem Wv.all {w w' : World} {v : Value} {ws : List (Nat × List UInt8)} (h : Wv w v ws) (k : Kept (fun _ => True) w w') : Wv w' v ws := by
  obtain ⟨ao, cap, e, hc, h⟩ := h
  refine ⟨ao, cap, e, hc, fun h0 => ?_⟩
  obtain ⟨b, off, e, hb, hx⟩ := h h0
  exact ⟨b, off, e, Nat.lt_of_lt_of_le hb k.size, fun i hi => ⟨(kept_cell k hb trivial).trans (hx i hi).1, (kept_cell k hb trivial).trans (hx i hi).2⟩⟩
end Go.Proofs.YtnddpalngjmhnabDoor

namespace Go.Proofs.YtnddpalngjmhnabDoor
open Go.RowKit

theorem wdp_few (s : List UInt8) (p : Nat) : (wdp p s).1.length + (wdp p s).2.length ≤ s.length := by
  induction s generalizing p with
  | nil => simp [wdp]
  | cons c r ih =>
    have := ih (p + 1)
    unfold wdp
    split
    · simp only [flush]
      split
      · simp; omega
      · rename_i h
        have : 0 < (wdp (p + 1) r).1.length := List.length_pos_iff.2 h
        simp; omega
    · simp; omega
/-- No more words than bytes. -/
theorem words_few (s : List UInt8) : (Wo s 0).length ≤ s.length := by
  have := wdp_few s 0
  unfold Wo
  rw [List.drop_zero]
  simp only [flush]
  split
  · omega
  · rename_i h
    have : 0 < (wdp 0 s).1.length := List.length_pos_iff.2 h
    simp; omega

end Go.Proofs.YtnddpalngjmhnabDoor

namespace Go.Proofs.YtnddpalngjmhnabDoor
open Go.RowKit

theorem ar_op (x : List UInt8) : ar (opOf x) = ar (kd x) := by
  by_cases h : opOf x = 0
  · have hk := kd_cases x
    have : kd x < 4 := by
      rcases Nat.lt_or_ge (kd x) 4 with h4 | h4
      · exact h4
      · have := kd_op x h4
        omega
    rw [h]
    unfold ar
    rw [if_neg (by omega), if_neg (by omega), if_neg (by omega), if_neg (by omega)]
  · rw [op_kd x h]
theorem kind_one {x : List UInt8} (h : kd x = 1) : isNum x = false ∧ ar (opOf x) = 0 ∧ isName x = false := by
  refine ⟨?_, by rw [ar_op, h]; rfl, ?_⟩
  · cases hn : isNum x with
    | false => rfl
    | true => rw [(kd_num x).2 hn] at h; cases h
  · cases hn : isName x with
    | false => rfl
    | true => rw [(kd_name x).2 hn] at h; cases h
theorem kind_name {x : List UInt8} (h : kd x = 3) : isNum x = false ∧ ar (opOf x) = 0 ∧ isName x = true := by
  refine ⟨?_, by rw [ar_op, h]; rfl, (kd_name x).1 h⟩
  cases hn : isNum x with
  | false => rfl
  | true => rw [(kd_num x).2 hn] at h; cases h
theorem kind_fine {ns : List (List UInt8)} {x : List UInt8} (h : rf ns x = 0) : isNum x = true ∨ (isNum x = false ∧ 0 < ar (opOf x)) ∨ (isNum x = false ∧ ar (opOf x) = 0 ∧ isName x = true ∧ 0 ≤ ix ns x) := by
  have hk := kd_cases x
  rcases rf_cases ns x with ⟨_, h1⟩ | ⟨_, _, h1⟩ | ⟨h1, h2, _⟩
  · omega
  · omega
  · by_cases h3 : kd x = 3
    · obtain ⟨a, b, c⟩ := kind_name h3
      have hx := h2 h3
      exact .inr (.inr ⟨a, b, c, by rw [ix, if_pos hx]; omega⟩)
    · cases hn : isNum x with
      | true => exact .inl rfl
      | false =>
        have : kd x ≠ 2 := fun e => by rw [(kd_num x).1 e] at hn; cases hn
        refine .inr (.inl ⟨rfl, ?_⟩)
        rw [ar_op]
        unfold ar
        split <;> (try split) <;> omega

/-- All but the last. -/
theorem Its.cut {w : World} {base g cap : Nat} {ks : List Nat} (h : Its w base (.slice (some ⟨g, 0, none⟩) ks.length cap) ks) : Its w base (.slice (some ⟨g, 0, none⟩) ks.dropLast.length cap) ks.dropLast := by
  rcases h.2 with ⟨hv, _⟩ | ⟨g', cap', cur, hv, hb, hh, hc, hm, hs, ht⟩
  · simp at hv
  · simp only [Value.slice.injEq, Option.some.injEq, Addr.mk.injEq, and_true, true_and] at hv
    obtain ⟨rfl, rfl⟩ := hv
    refine ⟨by simp [irow], .inr ⟨g, cap, cur, rfl, hb, hh, by rw [List.length_dropLast]; omega, hm, hs, ?_⟩⟩
    have e : irow ks.dropLast = (irow ks).take ks.dropLast.length := by
      simp only [irow, List.dropLast_eq_take, List.map_take, List.length_take]
      rw [Nat.min_eq_left (by omega)]
    rw [e, ← ht, List.take_take, List.length_dropLast]
    congr 1
    omega
theorem Its.set {w : World} {base g cap : Nat} {ks : List Nat} (h : Its w base (.slice (some ⟨g, 0, none⟩) ks.length cap) ks) (k n : Nat) : Its (w.setCell ⟨g, k, none⟩ (.int .i64 (n : Nat))) base (.slice (some ⟨g, 0, none⟩) (ks.set k n).length cap) (ks.set k n) := by
  have hr := (World.ownsRow.stored h k (.int .i64 (n : Nat))).1
  have e : (irow ks).set k (.int .i64 (n : Nat)) = irow (ks.set k n) := by simp [irow, List.map_set]
  rw [e] at hr
  unfold Its
  rw [List.length_set]
  exact hr
theorem Its.spot {w : World} {base n cap : Nat} {ao : Option Addr} {ks : List Nat} (h : Its w base (.slice ao n cap) ks) (h0 : 0 < ks.length) : ∃ g, ao = some ⟨g, 0, none⟩ ∧ base ≤ g ∧ n = ks.length ∧ ks.length ≤ cap ∧ (∀ j, w.frozen? ⟨g, j, none⟩ = false) := by
  have h' : w.ownsRow base 3 1 (.slice ao n cap) ks.length (irow ks) := h
  rcases h.2 with ⟨hv, e⟩ | ⟨g, cap', cur, hv, hb, hh, hc, _⟩
  · omega
  · injection hv with e1 e2 e3
    subst e1 e2 e3
    exact ⟨g, rfl, hb, rfl, hc, fun j => World.ownsRow.frozenAt h' j⟩
theorem size_int (w0 : World) : (sizeOf (Tryd.prog.elem 29)).run Tryd.prog w0 = .ok 1 w0 := by
  obtain ⟨i, hi, hz0, hz1, hz2⟩ := info_parts Tryd.infoInt
  have e : Tryd.prog.elem 29 = 3 := by kernel_rfl
  rw [e]
  simp [sizeOf, typeInfo, hi, hz1]
set_option maxRecDepth 100000 in
theorem run_cut {g n cap : Nat} (m : Nat) (h : m ≤ cap) (w0 : World) : (Instr.slice 29 (.slice (some ⟨g, 0, none⟩) n cap) none (some (.int .i64 (m : Int))) none).run Tryd.prog w0 = .ok (.slice (some ⟨g, 0, none⟩) m cap) w0 := by
  have := run_slice_h (P := Tryd.prog) w0 29 (some ⟨g, 0, none⟩) n cap Tryd.underlying29 .i64 m (by omega) (by omega)
  rw [this, size_int]
  simp [Result.andThen, sliced, Addr.add]
theorem Its.new (W : World) (k : Nat) : Its (W.alloc (.cells #[.int .i64 (k : Nat)] 3)) W.heap.size (.slice (some ⟨W.heap.size, 0, none⟩) 1 1) [k] :=
  ⟨rfl, .inr ⟨W.heap.size, 1, _, rfl, Nat.le_refl _, heap_alloc_new W _, Nat.le_refl _, by decide, rfl, rfl⟩⟩

theorem wdp_short (s : List UInt8) (p : Nat) : (wdp p s).1.length ≤ s.length ∧ ∀ x ∈ (wdp p s).2, x.2.length ≤ s.length := by
  induction s generalizing p with
  | nil => simp [wdp]
  | cons c r ih =>
    obtain ⟨h1, h2⟩ := ih (p + 1)
    unfold wdp
    split
    · refine ⟨by simp, fun x hx => ?_⟩
      simp only [flush] at hx
      split at hx
      · have := h2 x hx
        simp; omega
      · rcases List.mem_cons.1 hx with rfl | hx
        · simp; omega
        · have := h2 x hx
          simp; omega
    · refine ⟨by simp; omega, fun x hx => ?_⟩
      have := h2 x hx
      simp; omega
/-- No word is longer than the text. -/
theorem texts_short (s : List UInt8) (hs : s.length ≤ 10000) (x : Nat × List UInt8) (hx : x ∈ Wo s 0) : x.2.length ≤ 281474976710656 := by
  obtain ⟨h1, h2⟩ := wdp_short s 0
  unfold Wo at hx
  rw [List.drop_zero] at hx
  simp only [flush] at hx
  split at hx
  · have := h2 x hx
    omega
  · rcases List.mem_cons.1 hx with rfl | hx
    · simp; omega
    · have := h2 x hx
      omega

/-- What is left of a row when noughts are struck. -/
theorem row_step {ns : List (List UInt8)} {L : Nat} {S S' : List Nat} {p : Nat} {x : List UInt8} {r : List (Nat × List UInt8)} (h : rf ns x = 0) (hS : S.dropWhile (fun n => n == 0) = S') :
    rowRun ns L S ((p, x) :: r) = if 17 < S'.length then (22, p) else match S' with
        | [] => (11, p)
        | n :: t => if 0 < ar (kd x) then rowRun ns L (ar (kd x) :: (n - 1) :: t) r else rowRun ns L ((n - 1) :: t) r := by
  simp only [rowRun, hS]
  rw [if_neg (by omega)]
  cases S' <;> rfl

end Go.Proofs.YtnddpalngjmhnabDoor

namespace Go.Proofs.YtnddpalngjmhnabDoor
open Go.RowKit

/-- The row of what is open, in memory order; the innermost last. -/
theorem drop_last {S : List Nat} {k : Nat} {t : List Nat} (h : S = k :: t) : S.reverse.dropLast = t.reverse ∧ S.reverse.length = t.length + 1 ∧ ∀ hk : t.length < S.reverse.length, S.reverse[t.length] = k := by
  subst h
  refine ⟨by simp, by simp, fun hk => ?_⟩
  simp

/-- How long a slice is. -/
def lenOf : Value → Nat
  | .slice _ n _ => n
  | _ => 0

end Go.Proofs.YtnddpalngjmhnabDoor

namespace Go.Proofs.YtnddpalngjmhnabDoor
open Go.RowKit

theorem Wv.drop {w : World} {b off n cap : Nat} {ws : List (Nat × List UInt8)} (h : Wv w (.slice (some ⟨b, off, none⟩) n cap) ws) (m : Nat) (hm : m < ws.length) : Wv w (.slice (some ⟨b, off + m * 2, none⟩) (n - m) (cap - m)) (ws.drop m) := by
  obtain ⟨ao, cap', e, hc, hx⟩ := h
  injection e with e1 e2 e3
  subst e1 e2 e3
  obtain ⟨b', off', e, hb, hx⟩ := hx (by omega)
  cases e
  refine ⟨_, _, by rw [List.length_drop], by rw [List.length_drop]; omega, fun _ => ⟨b, off + m * 2, rfl, hb, fun i hi => ?_⟩⟩
  have := hx (m + i) (by rw [List.length_drop] at hi; omega)
  rw [List.getElem_drop]
  rw [show off + m * 2 + i * 2 = off + (m + i) * 2 by omega]
  exact this
theorem op_word {x : List UInt8} (h : 4 ≤ kd x) : x ∈ opWords := by
  have h1 := kd_op x h
  unfold opOf at h1
  by_cases a1 : x = [110, 111, 116]
  · subst a1; decide
  · by_cases a2 : x = [97, 110, 100]
    · subst a2; decide
    · by_cases a3 : x = [111, 114]
      · subst a3; decide
      · by_cases a4 : x = [108, 116]
        · subst a4; decide
        · by_cases a5 : x = [101, 113]
          · subst a5; decide
          · by_cases a6 : x = [97, 100, 100]
            · subst a6; decide
            · by_cases a7 : x = [115, 117, 98]
              · subst a7; decide
              · simp [a1, a2, a3, a4, a5, a6, a7] at h1
                omega
/-- How many words a guard has. -/
theorem gd_drop (ns : List (List UInt8)) (f : Nat) (xs r : List (List UInt8)) (h : gd ns f xs = .inr r) : ∃ k, 1 ≤ k ∧ k ≤ xs.length ∧ r = xs.drop k := by
  induction f generalizing xs r with
  | zero => cases h
  | succ f ih =>
    obtain ⟨f', x, ys, hf, rfl, h1, h3, ht⟩ := gd_cons h
    obtain rfl : f = f' := by omega
    have hk := kd_cases x
    have ha : ar (kd x) = 0 ∨ ar (kd x) = 1 ∨ ar (kd x) = 2 := by unfold ar; split <;> (try split) <;> omega
    rcases ha with ha | ha | ha
    · rw [ha] at ht
      simp only [times, Sum.inr.injEq] at ht
      exact ⟨1, Nat.le_refl _, by simp, by rw [← ht]; rfl⟩
    · rw [ha] at ht
      obtain ⟨k, k1, k2, rfl⟩ := ih ys r (times_one ht)
      exact ⟨k + 1, by omega, by simp; omega, rfl⟩
    · rw [ha] at ht
      obtain ⟨r1, t1, t2⟩ := times_two ht
      obtain ⟨k, k1, k2, rfl⟩ := ih ys r1 t1
      obtain ⟨m, m1, m2, rfl⟩ := ih _ r t2
      rw [List.length_drop] at m2
      exact ⟨k + m + 1, by omega, by simp; omega, by rw [List.drop_drop]; simp⟩

end Go.Proofs.YtnddpalngjmhnabDoor
