/-
  Slices of bytes that are looked at, and cut; the program's unframe.
-/
import Derived.Test.YtjobddbcalafhaaWFrame
import Derived.Test.YtjobddbcalafhaaXNew
namespace Go.Proofs.Ytjobddbcalafhaa
open Go.RowKit

/-- A slice of the bytes b. -/
structure View (w : World) (ao : Option Addr) (n cap : Nat) (b : List UInt8) : Prop where
  has : Has w ao b
  len : b.length = n
  room : n ≤ cap
  nil : ao = none → cap = 0
theorem View.kept {w w' : World} {ao : Option Addr} {n cap : Nat} {b : List UInt8} (h : View w ao n cap b) (k : Kept (fun _ => True) w w') : View w' ao n cap b := ⟨h.has.kept k (fun _ _ => trivial), h.len, h.room, h.nil⟩
theorem has_from {w : World} {ad : Addr} {b : List UInt8} (h : Has w (some ad) b) (p : Nat) : Has w (some (ad.add (p * 1))) (b.drop p) := by
  intro h0
  simp at h0
  obtain ⟨ad', e, hc⟩ := h (by omega)
  cases e
  have hs := World.cell?_spot (hc 0 (by omega))
  obtain ⟨bk, off, sp⟩ := ad
  have hs' : sp = none := by simpa [Addr.add] using hs
  subst hs'
  refine ⟨_, rfl, fun j hj => ?_⟩
  have hj' : p + j < b.length := by simp at hj; omega
  have := hc (p + j) hj'
  rw [List.getElem_drop]
  rw [← this]
  rw [WideShapes.add_plain, WideShapes.add_plain, WideShapes.add_plain, Nat.mul_one, Nat.add_assoc]
theorem has_short {w : World} {ao : Option Addr} {b : List UInt8} (h : Has w ao b) (k : Nat) : Has w ao (b.take k) := by
  intro h0
  have hl : 0 < b.length := by simp at h0; omega
  obtain ⟨ad, rfl, hc⟩ := h hl
  refine ⟨ad, rfl, fun j hj => ?_⟩
  rw [hc j (by simp at hj; omega), List.getElem_take]

theorem View.front {w : World} {ao : Option Addr} {n cap : Nat} {b : List UInt8} (h : View w ao n cap b) (q : Nat) (hq : q ≤ n) :
    (∀ w0, (Instr.slice 36 (.slice ao n cap) none (some (.int .i64 (q : Int))) none).run Try.prog w0 = .ok (.slice ao q cap) w0) ∧ View w ao q cap (b.take q) := by
  refine ⟨fun w0 => ?_, has_short h.has q, by rw [List.length_take, h.len]; omega, Nat.le_trans hq h.room, h.nil⟩
  have hr := h.room
  rw [run_slice_h (P := Try.prog) w0 36 ao n cap Try.underlying36 .i64 q (by omega) (by omega), size_u8]
  cases ao with
  | none => have := h.nil rfl; simp [Result.andThen, sliced]
  | some ad => simp [Result.andThen, sliced, Addr.add]
theorem View.off {w : World} {ao : Option Addr} {n cap : Nat} {b : List UInt8} (h : View w ao n cap b) (p : Nat) (hp : p ≤ n) :
    View w (if cap = p then ao else ao.map (·.add (p * 1))) (n - p) (cap - p) (b.drop p) := by
  refine ⟨?_, by rw [List.length_drop, h.len], by have := h.room; omega, ?_⟩
  · split
    · rename_i hc
      intro h0
      rw [List.length_drop, h.len] at h0
      have := h.room
      omega
    · cases ao with
      | none =>
        intro h0
        rw [List.length_drop] at h0
        obtain ⟨ad, e, _⟩ := h.has (by omega)
        cases e
      | some ad => exact has_from h.has p
  · split
    · intro _; omega
    · cases ao with
      | none => intro _; have := h.nil rfl; omega
      | some ad => intro e; cases e
theorem View.tail {w : World} {ao : Option Addr} {n cap : Nat} {b : List UInt8} (h : View w ao n cap b) (p : Nat) (hp : p ≤ n) :
    ∃ a', (∀ w0, (Instr.slice 36 (.slice ao n cap) (some (.int .i64 (p : Int))) none none).run Try.prog w0 = .ok (.slice a' (n - p) (cap - p)) w0) ∧ View w a' (n - p) (cap - p) (b.drop p) := by
  refine ⟨_, fun w0 => ?_, h.off p hp⟩
  rw [run_slice_l (P := Try.prog) w0 36 ao n cap Try.underlying36 .i64 p (by omega) (by omega), size_u8]
  simp [Result.andThen, sliced]
theorem View.part {w : World} {ao : Option Addr} {n cap : Nat} {b : List UInt8} (h : View w ao n cap b) (p q : Nat) (hp : p ≤ q) (hq : q ≤ n) :
    ∃ a', (∀ w0, (Instr.slice 36 (.slice ao n cap) (some (.int .i64 (p : Int))) (some (.int .i64 (q : Int))) none).run Try.prog w0 = .ok (.slice a' (q - p) (cap - p)) w0) ∧ View w a' (q - p) (cap - p) ((b.drop p).take (q - p)) := by
  have hr := h.room
  have hv := h.off p (by omega)
  refine ⟨_, fun w0 => ?_, has_short hv.has _, by rw [List.length_take, hv.len]; omega, by omega, hv.nil⟩
  rw [run_slice_lh (P := Try.prog) w0 36 ao n cap Try.underlying36 .i64 .i64 p q (by omega) (by omega) (by omega), size_u8]
  simp [Result.andThen, sliced]
theorem View.conv {w : World} {ao : Option Addr} {n cap : Nat} {b : List UInt8} (h : View w ao n cap b) : (convert 36 9 (.slice ao n cap)).run Try.prog w = .ok (.string ⟨b.toArray⟩) w := by
  have := h.len
  subst this
  exact conv_sl ⟨ao, cap, rfl, h.nil, h.has⟩

theorem newReader_at {w : World} {ao : Option Addr} {n cap : Nat} {b : List UInt8} (h : View w ao n cap b) (hl : n ≤ 140737488355328) :
    Calls Try.prog 29 #[.slice ao n cap] w fun e w' => ∃ B R, e = .returned (.pointer (some ⟨B, 0, none⟩)) ∧ Rs w' B R b b.length ⟨0, 0⟩ ∧ Kept (fun _ => True) w w' ∧ w.heap.size ≤ B ∧ w.heap.size ≤ R := by
  have := h.len
  subst this
  exact newReader_any (by omega) h.has

/-- What unframe answers. -/
def ufOf (b : List UInt8) : List UInt8 × Int × Bool := match headOf b with
  | none => ([], 0, false)
  | some (f, r, _) => (r, (if f = true then 1 else 0), true)
theorem ufOf_none {b : List UInt8} (h : headOf b = none) : ufOf b = ([], 0, false) := by unfold ufOf; rw [h]
theorem ufOf_some {b : List UInt8} {f : Bool} {r : List UInt8} {m : Nat} (h : headOf b = some (f, r, m)) : ufOf b = (r, (if f = true then 1 else 0), true) := by unfold ufOf; rw [h]
theorem be_one (b : List UInt8) (k : Nat) (h : k < b.length) : be ((b.drop k).take 1) = (b.getD k 0).toNat := by
  have e : (b.drop k).take 1 = [b[k]] := by
    rw [List.drop_eq_getElem_cons h]
    rfl
  rw [e]
  simp [be, h]

set_option maxRecDepth 100000 in
set_option maxHeartbeats 1000000 in
theorem unframe_any {w : World} {ao : Option Addr} {n cap : Nat} {b : List UInt8} (h : View w ao n cap b) (hl : n ≤ 1099511627776) :
    Calls Try.prog 23 #[.slice ao n cap] w fun e w' => e = .returned (.tuple #[.string ⟨(ufOf b).1.toArray⟩, .int .i64 (ufOf b).2.1, .bool (ufOf b).2.2]) ∧ Kept (fun _ => True) w w' := by
  have hlen := h.len
  by_cases h9 : n < 9
  · rw [ufOf_none (headOf_short (by omega))]
    have h9' : (n : Int) < 9 := by omega
    clear h hlen
    go_enter Try.func23, Try.ntmps23
    go_wp2
    go_ret3
    exact ⟨rfl, Kept.refl _ _⟩
  · have h9' : ¬ (n : Int) < 9 := by omega
    obtain ⟨s1, v1⟩ := h.front 9 (by omega)
    replace s1 : ∀ w0, (Instr.slice 36 (.slice ao n cap) none (some (.int .i64 9)) none).run Try.prog w0 = .ok (.slice ao 9 cap) w0 := s1
    have l9 : (b.take 9).length = 9 := v1.len
    have n1 : (⟨0, 0⟩ : RS).num (b.take 9) 4 = (be (b.take 4), ⟨4, 0⟩) := by
      unfold RS.num
      rw [if_pos rfl, if_pos (by simp only [l9]; omega)]
      simp [List.take_take]
    have n2 : (⟨4, 0⟩ : RS).num (b.take 9) 4 = (be ((b.drop 4).take 4), ⟨8, 0⟩) := by
      unfold RS.num
      rw [if_pos rfl, if_pos (by simp only [l9]; omega)]
      simp [List.drop_take, List.take_take]
    have n3 : (⟨8, 0⟩ : RS).num (b.take 9) 1 = ((b.getD 8 0).toNat, ⟨9, 0⟩) := by
      unfold RS.num
      rw [if_pos rfl, if_pos (by simp only [l9]; omega), be_one _ _ (by simp only [l9]; omega)]
      simp [show (8 : Nat) < 9 by decide]
    have b1 : be (b.take 4) < 4294967296 := by
      have := RS.num_lt4 ⟨0, 0⟩ (b.take 9); rw [n1] at this; exact this
    have hH : headOf b = if n < 9 ∨ 4000 < be (b.take 4) ∨ n < 9 + be (b.take 4) ∨ 1 < (b.getD 8 0).toNat ∨ crcOf ((b.drop 8).take (be (b.take 4) + 1)) ≠ be ((b.drop 4).take 4) then none
        else some (decide ((b.getD 8 0).toNat = 1), (b.drop 9).take (be (b.take 4)), 9 + be (b.take 4)) := by
      rw [← hlen]; rfl
    generalize hS : be (b.take 4) = S at *
    generalize hC : be ((b.drop 4).take 4) = C at *
    generalize hK : (b.getD 8 0).toNat = K at *
    have HS : Hid (be (b.take 4) = S) := hS
    clear hS hC hK
    go_enter Try.func23, Try.ntmps23
    go_wp2_with fail
    refine Calls.mono (newReader_at v1 (by omega)) ?_
    rintro e w1 ⟨B, R, rfl, r1, k1, hB, hR⟩
    go_wp2_with fail
    refine Calls.mono (four_any r1) ?_
    rintro e w2 ⟨rfl, r2, k2⟩
    rw [n1] at r2 ⊢
    go_wp2_with fail
    refine Calls.mono (four_any r2) ?_
    rintro e w3 ⟨rfl, r3, k3⟩
    rw [n2] at r3 ⊢
    go_wp2_with fail
    refine Calls.mono (byte_any r3) ?_
    rintro e w4 ⟨rfl, r4, k4⟩
    rw [n3]
    have kk : Kept (fun _ => True) w w4 := ((k1.then k2 (fun i hi _ => by omega)).then k3 (fun i hi _ => by omega)).then k4 (fun i hi _ => by omega)
    have v4 := h.kept kk
    clear r1 r2 r3 r4 k1 k2 k3 k4 n1 n2 n3 s1 v1 hB hR h
    dsimp only
    by_cases hA : 4000 < S
    · have hA' : (4000 : Int) < (S : Int) := by omega
      have HU : Hid (ufOf b = ([], 0, false)) := ufOf_none (by rw [hH, if_pos (.inr (.inl hA))])
      clear hH
      go_wp2
      go_ret3
      exact ⟨by rw [HU.out]; rfl, kk⟩
    by_cases hA2 : n < 9 + S
    · have hA' : ¬ (4000 : Int) < (S : Int) := by omega
      have hw : IntKind.i64.wrap ((n : Int) - 9) = (n : Int) - 9 := by simp [IntKind.wrap, IntKind.bits, IntKind.signed]; omega
      have hA2' : (n : Int) - 9 < (S : Int) := by omega
      have HU : Hid (ufOf b = ([], 0, false)) := ufOf_none (by rw [hH, if_pos (.inr (.inr (.inl hA2)))])
      clear hH
      go_wp2
      go_ret3
      exact ⟨by rw [HU.out]; rfl, kk⟩
    obtain ⟨a5, s5, v5⟩ := v4.part 8 (9 + S) (by omega) (by omega)
    have e5 : 9 + S - 8 = S + 1 := by omega
    rw [e5] at v5 s5
    have s5' : ∀ w0, (Instr.slice 36 (.slice ao n cap) (some (.int .i64 8)) (some (.int .i64 (9 + (S : Int)))) none).run Try.prog w0 = .ok (.slice a5 (S + 1) (cap - 8)) w0 := by
      intro w0; have := s5 w0; simpa using this
    have hA' : ¬ (4000 : Int) < (S : Int) := by omega
    have hw : IntKind.i64.wrap ((n : Int) - 9) = (n : Int) - 9 := by simp [IntKind.wrap, IntKind.bits, IntKind.signed]; omega
    have hA2' : ¬ (n : Int) - 9 < (S : Int) := by omega
    have hw2 : IntKind.i64.wrap (9 + (S : Int)) = 9 + (S : Int) := by simp [IntKind.wrap, IntKind.bits, IntKind.signed]; omega
    clear s5
    by_cases hA3 : 1 < K
    · have hA3' : (1 : Int) < (K : Int) := by omega
      have HU : Hid (ufOf b = ([], 0, false)) := ufOf_none (by rw [hH, if_pos (.inr (.inr (.inr (.inl hA3))))])
      clear hH v5
      go_wp2
      go_ret3
      exact ⟨by rw [HU.out]; rfl, kk⟩
    have hA3' : ¬ (1 : Int) < (K : Int) := by omega
    have hcl := crcOf_lt ((b.drop 8).take (S + 1))
    have hw3 : IntKind.i64.wrap ((crcOf ((b.drop 8).take (S + 1)) : Nat) : Int) = (crcOf ((b.drop 8).take (S + 1)) : Nat) := by simp [IntKind.wrap, IntKind.bits, IntKind.signed]; omega
    have c := crc_at v5.has v5.len (cap := cap - 8) (by omega)
    have vt := v5.tail 1 (by omega)
    have et : ((b.drop 8).take (S + 1)).drop 1 = (b.drop 9).take S := by
      rw [List.drop_take, List.drop_drop]
      rfl
    rw [et] at vt
    generalize crcOf ((b.drop 8).take (S + 1)) = X at *
    obtain ⟨a6, s6, v6⟩ := vt
    have hcv := v6.conv
    replace s6 : ∀ w0, (Instr.slice 36 (.slice a5 (S + 1) (cap - 8)) (some (.int .i64 1)) none none).run Try.prog w0 = .ok (.slice a6 (S + 1 - 1) (cap - 8 - 1)) w0 := s6
    rw [Nat.add_sub_cancel] at s6 hcv
    generalize cap - 8 - 1 = c6 at *
    generalize cap - 8 = c5 at *
    clear v6 v5 v4
    by_cases hA4 : X = C
    · have HU : Hid (ufOf b = ((b.drop 9).take S, (if decide (K = 1) = true then 1 else 0), true)) := by
        refine ufOf_some (m := 9 + S) ?_
        rw [hH, if_neg]
        rintro (h | h | h | h | h)
        · exact h9 h
        · exact hA h
        · exact hA2 h
        · exact hA3 h
        · exact h hA4
      subst hA4
      clear hH
      generalize (b.drop 9).take S = r at *
      go_wp2_with fail
      refine Calls.mono c ?_
      rintro e w4 ⟨rfl, rfl⟩
      go_wp2
      go_ret3
      refine ⟨?_, kk⟩
      rw [HU.out]
      rcases (by omega : K = 0 ∨ K = 1) with rfl | rfl <;> rfl
    · have HU : Hid (ufOf b = ([], 0, false)) := ufOf_none (by rw [hH, if_pos (.inr (.inr (.inr (.inr hA4))))])
      clear hH
      have hA4' : ((X : Int) == (C : Int)) = false := by simp; omega
      go_wp2_with fail
      refine Calls.mono c ?_
      rintro e w4 ⟨rfl, rfl⟩
      go_wp2
      go_ret3
      exact ⟨by rw [HU.out]; rfl, kk⟩

end Go.Proofs.Ytjobddbcalafhaa
