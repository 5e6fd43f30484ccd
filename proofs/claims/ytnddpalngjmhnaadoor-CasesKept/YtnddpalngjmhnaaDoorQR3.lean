/-
  The document's Check.
-/
import Derived.Test.YtnddpalngjmhnaaDoorQR2
import Derived.Test.YtnddpalngjmhnaaDoorPInts
import Derived.Test.YtnddpalngjmhnaaDoorQFew
namespace Go.Proofs.YtnddpalngjmhnaaDoor
open Go.RowKit

theorem ar_op (x : List UInt8) : ar (opOf x) = ar (kd x) := by
  by_cases h : opOf x = 0
  · have hk := kd_cases x
    have : kd x < 4 := by
      rcases Nat.lt_or_ge (kd x) 4 with h4 | h4
      · exact h4
      · have := kd_op x h4
        omega
    rw [h]
    unfold ar
    rw [if_neg (by omega), if_neg (by omega), if_neg (by omega), if_neg (by omega)]
  · rw [op_kd x h]
theorem kind_one {x : List UInt8} (h : kd x = 1) : isNum x = false ∧ ar (opOf x) = 0 ∧ isName x = false := by
  refine ⟨?_, by rw [ar_op, h]; rfl, ?_⟩
  · cases hn : isNum x with
    | false => rfl
    | true => rw [(kd_num x).2 hn] at h; cases h
  · cases hn : isName x with
    | false => rfl
    | true => rw [(kd_name x).2 hn] at h; cases h
theorem kind_name {x : List UInt8} (h : kd x = 3) : isNum x = false ∧ ar (opOf x) = 0 ∧ isName x = true := by
  refine ⟨?_, by rw [ar_op, h]; rfl, (kd_name x).1 h⟩
  cases hn : isNum x with
  | false => rfl
  | true => rw [(kd_num x).2 hn] at h; cases h
theorem kind_fine {ns : List (List UInt8)} {x : List UInt8} (h : rf ns x = 0) : isNum x = true ∨ (isNum x = false ∧ 0 < ar (opOf x)) ∨ (isNum x = false ∧ ar (opOf x) = 0 ∧ isName x = true ∧ 0 ≤ ix ns x) := by
  have hk := kd_cases x
  rcases rf_cases ns x with ⟨_, h1⟩ | ⟨_, _, h1⟩ | ⟨h1, h2, _⟩
  · omega
  · omega
  · by_cases h3 : kd x = 3
    · obtain ⟨a, b, c⟩ := kind_name h3
      have hx := h2 h3
      exact .inr (.inr ⟨a, b, c, by rw [ix, if_pos hx]; omega⟩)
    · cases hn : isNum x with
      | true => exact .inl rfl
      | false =>
        have : kd x ≠ 2 := fun e => by rw [(kd_num x).1 e] at hn; cases hn
        refine .inr (.inl ⟨rfl, ?_⟩)
        rw [ar_op]
        unfold ar
        split <;> (try split) <;> omega

/-- All but the last. -/
theorem Its.cut {w : World} {base g cap : Nat} {ks : List Nat} (h : Its w base (.slice (some ⟨g, 0, none⟩) ks.length cap) ks) : Its w base (.slice (some ⟨g, 0, none⟩) ks.dropLast.length cap) ks.dropLast := by
  rcases h.2 with ⟨hv, _⟩ | ⟨g', cap', cur, hv, hb, hh, hc, hm, hs, ht⟩
  · simp at hv
  · simp only [Value.slice.injEq, Option.some.injEq, Addr.mk.injEq, and_true, true_and] at hv
    obtain ⟨rfl, rfl⟩ := hv
    refine ⟨by simp [irow], .inr ⟨g, cap, cur, rfl, hb, hh, by rw [List.length_dropLast]; omega, hm, hs, ?_⟩⟩
    have e : irow ks.dropLast = (irow ks).take ks.dropLast.length := by
      simp only [irow, List.dropLast_eq_take, List.map_take, List.length_take]
      rw [Nat.min_eq_left (by omega)]
    rw [e, ← ht, List.take_take, List.length_dropLast]
    congr 1
    omega
theorem Its.set {w : World} {base g cap : Nat} {ks : List Nat} (h : Its w base (.slice (some ⟨g, 0, none⟩) ks.length cap) ks) (k n : Nat) : Its (w.setCell ⟨g, k, none⟩ (.int .i64 (n : Nat))) base (.slice (some ⟨g, 0, none⟩) (ks.set k n).length cap) (ks.set k n) := by
  have hr := (World.ownsRow.stored h k (.int .i64 (n : Nat))).1
  have e : (irow ks).set k (.int .i64 (n : Nat)) = irow (ks.set k n) := by simp [irow, List.map_set]
  rw [e] at hr
  unfold Its
  rw [List.length_set]
  exact hr
theorem Its.spot {w : World} {base n cap : Nat} {ao : Option Addr} {ks : List Nat} (h : Its w base (.slice ao n cap) ks) (h0 : 0 < ks.length) : ∃ g, ao = some ⟨g, 0, none⟩ ∧ base ≤ g ∧ n = ks.length ∧ ks.length ≤ cap ∧ (∀ j, w.frozen? ⟨g, j, none⟩ = false) := by
  have h' : w.ownsRow base 3 1 (.slice ao n cap) ks.length (irow ks) := h
  rcases h.2 with ⟨hv, e⟩ | ⟨g, cap', cur, hv, hb, hh, hc, _⟩
  · omega
  · injection hv with e1 e2 e3
    subst e1 e2 e3
    exact ⟨g, rfl, hb, rfl, hc, fun j => World.ownsRow.frozenAt h' j⟩
theorem size_int (w0 : World) : (sizeOf (Tryd.prog.elem 28)).run Tryd.prog w0 = .ok 1 w0 := by
  obtain ⟨i, hi, hz0, hz1, hz2⟩ := info_parts Tryd.infoInt
  have e : Tryd.prog.elem 28 = 3 := by kernel_rfl
  rw [e]
  simp [sizeOf, typeInfo, hi, hz1]
set_option maxRecDepth 100000 in
theorem run_cut {g n cap : Nat} (m : Nat) (h : m ≤ cap) (w0 : World) : (Instr.slice 28 (.slice (some ⟨g, 0, none⟩) n cap) none (some (.int .i64 (m : Int))) none).run Tryd.prog w0 = .ok (.slice (some ⟨g, 0, none⟩) m cap) w0 := by
  have := run_slice_h (P := Tryd.prog) w0 28 (some ⟨g, 0, none⟩) n cap Tryd.underlying28 .i64 m (by omega) (by omega)
  rw [this, size_int]
  simp [Result.andThen, sliced, Addr.add]
theorem Its.new (W : World) (k : Nat) : Its (W.alloc (.cells #[.int .i64 (k : Nat)] 3)) W.heap.size (.slice (some ⟨W.heap.size, 0, none⟩) 1 1) [k] :=
  ⟨rfl, .inr ⟨W.heap.size, 1, _, rfl, Nat.le_refl _, heap_alloc_new W _, Nat.le_refl _, by decide, rfl, rfl⟩⟩

theorem wdp_short (s : List UInt8) (p : Nat) : (wdp p s).1.length ≤ s.length ∧ ∀ x ∈ (wdp p s).2, x.2.length ≤ s.length := by
  induction s generalizing p with
  | nil => simp [wdp]
  | cons c r ih =>
    obtain ⟨h1, h2⟩ := ih (p + 1)
    unfold wdp
    split
    · refine ⟨by simp, fun x hx => ?_⟩
      simp only [flush] at hx
      split at hx
      · have := h2 x hx
        simp; omega
      · rcases List.mem_cons.1 hx with rfl | hx
        · simp; omega
        · have := h2 x hx
          simp; omega
    · refine ⟨by simp; omega, fun x hx => ?_⟩
      have := h2 x hx
      simp; omega
/-- No word is longer than the text. -/
theorem texts_short (s : List UInt8) (hs : s.length ≤ 10000) (x : Nat × List UInt8) (hx : x ∈ Wo s 0) : x.2.length ≤ 281474976710656 := by
  obtain ⟨h1, h2⟩ := wdp_short s 0
  unfold Wo at hx
  rw [List.drop_zero] at hx
  simp only [flush] at hx
  split at hx
  · have := h2 x hx
    omega
  · rcases List.mem_cons.1 hx with rfl | hx
    · simp; omega
    · have := h2 x hx
      omega

/-- What is left of a row when noughts are struck. -/
theorem row_step {ns : List (List UInt8)} {L : Nat} {S S' : List Nat} {p : Nat} {x : List UInt8} {r : List (Nat × List UInt8)} (h : rf ns x = 0) (hS : S.dropWhile (fun n => n == 0) = S') :
    rowRun ns L S ((p, x) :: r) = if 17 < S'.length then (22, p) else match S' with
        | [] => (11, p)
        | n :: t => if 0 < ar (kd x) then rowRun ns L (ar (kd x) :: (n - 1) :: t) r else rowRun ns L ((n - 1) :: t) r := by
  simp only [rowRun, hS]
  rw [if_neg (by omega)]
  cases S' <;> rfl

end Go.Proofs.YtnddpalngjmhnaaDoor
