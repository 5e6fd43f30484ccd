/-
  The document's New.
-/
import Derived.Test.YtebpkhemkdgbjaaMR0
import Derived.Test.YtebpkhemkdgbjaaM3
namespace Go.Proofs.Ytebpkhemkdgbjaa
open Go.RowKit

/-- The owners of New, group for group. -/
def nf (n : Nat) : Nat → Nat → Int
  | 0, _ => 0
  | g + 1, h => if 256 * g / n ≤ h then g else nf n g h
theorem nf_own (n : Nat) (h1 : 1 ≤ n) (h3 : n ≤ 3) : ∀ h, h < 256 → nf n n h = ownH (newP n) h := by
  have : n = 1 ∨ n = 2 ∨ n = 3 := by omega
  rcases this with rfl | rfl | rfl <;> decide +kernel
theorem newP_rgt (n : Nat) (h1 : 1 ≤ n) (h3 : n ≤ 3) : rgt 1 (newP n) = true := by
  have : n = 1 ∨ n = 2 ∨ n = 3 := by omega
  rcases this with rfl | rfl | rfl <;> decide +kernel
theorem quo_nat (g n : Nat) (_ : 1 ≤ n) (hg : g ≤ 3) : IntKind.i64.wrap ((256 * (g : Int)).tdiv (n : Int)) = ((256 * g / n : Nat) : Int) ∧ 256 * (g : Int) / (n : Int) = ((256 * g / n : Nat) : Int) ∧ 256 * g / n ≤ 256 * g := by
  have a1 : 256 * g / n ≤ 256 * g := Nat.div_le_self _ _
  have e : 256 * (g : Int) / (n : Int) = ((256 * g / n : Nat) : Int) := by simp
  refine ⟨?_, e, a1⟩
  rw [Int.tdiv_eq_ediv_of_nonneg (by omega), e]
  generalize 256 * g / n = A at *
  simp [IntKind.wrap, IntKind.bits, IntKind.signed]
  omega

set_option maxRecDepth 100000 in
set_option maxHeartbeats 2000000 in
theorem rnew_any {w : World} (n : Nat) (h1 : 1 ≤ n) (h3 : n ≤ 3) :
    Calls Try.prog 23 #[.int .i64 n] w fun e w' => e = .returned (.agg (mcs 1 (ownH (newP n))).toArray) ∧ Kept (fun _ => True) w w' := by
  rw [mcs_congr (f' := nf n n) (fun i hi => (nf_own n h1 h3 i hi).symm)]
  have g1 : (1 : Int) ≤ (n : Int) := by omega
  have g3 : (n : Int) ≤ 3 := by omega
  have gz : ((n : Int) == 0) = false := by simp; omega
  go_enter Try.func23, Try.ntmps23
  go_wp2_with (first
    | ((with_reducible refine w_alloc_m (d := some 2) ?_); intro w2 h2 k2 s2)
    | ((with_reducible refine w_alloc_m (d := some 3) ?_); intro w3 h3' k3 s3)
    | ((with_reducible refine w_build_m (ep := 1) ?hx ?_); (case hx => rfl))
    | ((with_reducible refine w_store_m (ep' := 1) (f' := fun _ => 0) ?hx ?hy h3' ?_); (case hx => rfl); (case hy => rfl); intro w4 h4 k4 s4))
  have H4 : Hid (Rm w4 w2.heap.size 1 (nf n 0)) := h4
  have hne : w.heap.size ≠ w2.heap.size := Nat.ne_of_lt h2.lt
  have H2 : Hid (Rm w4 w.heap.size 0 (fun _ => 0)) := (h2.all k3).kept k4 hne
  have K4 : Hid (Kept (fun _ => True) w w4) := (k2.trans k3).then k4 (fun i hi _ => by have := k2.size; omega)
  have HL : Hid (w.heap.size ≤ w2.heap.size) := k2.size
  have HNe : Hid (w.heap.size ≠ w2.heap.size) := hne
  clear h4 k4 s4 h3' k3 s3 h2 k2 s2 hne
  generalize w2.heap.size = X at *
  go_loopw [4] (fun t wr => ∃ (g : Nat), g ≤ n ∧ t = .int .i64 g ∧ Rm wr X 1 (nf n g) ∧ Rm wr w.heap.size 0 (fun _ => 0) ∧ Kept (fun _ => True) w wr) (fun t _ => n - (intOf t).toNat)
  case atStart => exact ⟨0, Nat.zero_le _, rfl, H4.out, H2.out, K4.out⟩
  case round =>
    obtain ⟨g, hg, rfl, hX, hR, hk⟩ := hrel
    have HX : Hid (Rm wr X 1 (nf n g)) := hX
    have HR : Hid (Rm wr w.heap.size 0 (fun _ => 0)) := hR
    have HK : Hid (Kept (fun _ => True) w wr) := hk
    clear hX hR hk H4 H2 K4
    by_cases hlt : g < n
    · obtain ⟨q1, q2, q3⟩ := quo_nat g n h1 (by omega)
      have HN : Hid (nf n (g + 1) = fun h => if 256 * g / n ≤ h then (g : Int) else nf n g h) := rfl
      have hA : 256 * g / n ≤ 256 := by
        rw [Nat.div_le_iff_le_mul_add_pred (by omega)]
        have := Nat.mul_le_mul_left 256 (Nat.le_of_lt hlt)
        rw [Nat.mul_comm n 256]
        omega
      generalize 256 * g / n = A at *
      have i0 : (0 : Int) ≤ (g : Int) := by omega
      have i1 : (g : Int) < (n : Int) := by omega
      go_wp2_with fail
      go_loopw [5] (fun t wx => ∃ (h : Nat), A ≤ h ∧ h ≤ 256 ∧ t = .int .i64 h ∧ Rm wx X 1 (fun i => if A ≤ i ∧ i < h then (g : Int) else nf n g i) ∧ Rm wx w.heap.size 0 (fun _ => 0) ∧ Kept (fun _ => True) w wx) (fun t _ => 256 - (intOf t).toNat)
      case atStart => exact ⟨A, Nat.le_refl _, hA, rfl, HX.out.congr (fun i hi => by rw [if_neg (by omega)]), HR.out, HK.out⟩
      case round =>
        obtain ⟨h, ha, hh, rfl, hX, hR, hk⟩ := hrel
        have HX' : Hid (Rm _ _ _ _) := hX
        have HR' : Hid (Rm _ _ _ _) := hR
        have HK' : Hid (Kept _ _ _) := hk
        clear HX HR HK hR hk
        have j0 : (0 : Int) ≤ (h : Int) := by omega
        by_cases hl2 : h < 256
        · have j1 : (h : Int) < 256 := by omega
          have c1 := hX.of hl2
          have f1 := hX.free (1 + h)
          clear hX
          go_wp2_with fail
          go_roundw
          case rel =>
            refine ⟨h + 1, by omega, by omega, by go_num, (HX'.out.set hl2 _).congr (fun i hi => ?_), HR'.out.kept (p := (· ≠ X)) ((Kept.refl _ _).setCell (by simp) _) HNe.out, HK'.out.setFresh HL.out _⟩
            by_cases e : i = h
            · subst e
              rw [if_pos rfl, if_pos (by omega)]
            · rw [if_neg e]
              by_cases q : A ≤ i ∧ i < h
              · rw [if_pos q, if_pos (by omega)]
              · rw [if_neg q, if_neg (by omega)]
          case measure => simp [intOf]; omega
        · have j1 : ¬ ((h : Int) < 256) := by omega
          clear hX
          go_wp2_with fail
          go_roundw
          case rel =>
            refine ⟨g + 1, by omega, by go_num, HX'.out.congr (fun i hi => ?_), HR'.out, HK'.out⟩
            rw [HN.out]
            by_cases q : A ≤ i
            · rw [if_pos (by omega)]
              dsimp only
              rw [if_pos q]
            · rw [if_neg (by omega)]
              dsimp only
              rw [if_neg q]
          case measure => simp [intOf]; omega
    · have hge : g = n := by omega
      subst hge
      go_wp2_with (first
        | ((with_reducible refine w_load_m ?hx HX.out ?_); (case hx => rfl))
        | ((with_reducible refine w_store_m (ep' := 1) (f' := nf g g) ?hx ?hy HR.out ?_); (case hx => rfl); (case hy => rfl); intro w4 h4 k4 s4))
      exact bodyPost_ret (results_rm rfl _ _ rfl h4) rfl ⟨rfl, HK.out.then k4 (fun i hi _ => by omega)⟩

end Go.Proofs.Ytebpkhemkdgbjaa
