/-
  formed, and Read.
-/
import Derived.Test.YtbooeabmpdpgpaaU1
import Derived.Test.YtbooeabmpdpgpaaUConv
import Derived.Test.YtbooeabmpdpgpaaXRd1
import Derived.Test.YtbooeabmpdpgpaaXNew
import Derived.Test.YtbooeabmpdpgpaaVOrd
namespace Go.Proofs.Ytbooeabmpdpgpaa
open Go.RowKit

set_option maxRecDepth 100000 in
set_option maxHeartbeats 2000000 in
theorem formed_any {w : World} {r : Ur} {ao : Option Addr} {cap : Nat} (h : Gv w ao r.gs) (hn : r.gs.length ≤ 100000) :
    Calls Try.prog 45 #[r.val ao cap] w fun e w' => e = .returned (.bool (fmd r)) ∧ Kept (fun _ => True) w w' := by
  have HV : Hid (Gv w ao r.gs) := h
  have HF : Hid (fmd r = ((if r.k = 1 then decide (r.tx = []) else if r.k = 2 ∨ r.k = 3 ∨ r.k = 4 then decide (r.tx ≠ []) else false) && upG (-1) r.gs)) := rfl
  obtain ⟨R, hR⟩ : ∃ R, R = fmd r := ⟨_, rfl⟩
  rw [← hR] at HF ⊢
  clear h hR
  obtain ⟨k, tx, gs, bd⟩ := r
  unfold Ur.val
  simp only at HV HF hn ⊢
  have cr := fun (W : World) (q : Kept (fun _ => True) w W) => rising_any (cap := cap) (HV.out.all q) hn
  have kA : ∀ o, Kept (fun _ => True) w (w.alloc o) := fun o => (Kept.refl _ _).alloc o
  generalize upG (-1) gs = G at *
  clear HV
  by_cases ht : tx = []
  · subst ht
    have HF2 : Hid (R = ((if k = 1 then true else false) && G)) := by
      have := HF.out
      show _ = _
      rw [this]
      by_cases h1 : k = 1
      · simp [h1]
      · simp [h1]
    clear HF
    by_cases h1 : k = 1
    · subst h1
      have HF3 : Hid (R = G) := by have := HF2.out; show _ = _; simpa using this
      clear HF2
      go_enter Try.func45, Try.ntmps45
      go_wp2_with (go_at_call 78; (with_reducible refine Calls.mono (cr _ (kA _)) ?_); rintro e w1 ⟨rfl, n1, rfl⟩)
      go_ret
      exact ⟨by rw [HF3.out]; rfl, ((Kept.refl _ _).alloc _).drewN n1⟩
    · have HF3 : Hid (R = false) := by have := HF2.out; show _ = _; simpa [h1] using this
      clear HF2
      have k1 : ((k : Int) == 1) = false := by simp only [beq_eq_false_iff_ne]; omega
      by_cases h2 : k = 2
      · subst h2
        go_enter Try.func45, Try.ntmps45
        go_wp2
        go_ret
        exact ⟨by rw [HF3.out]; rfl, (Kept.refl _ _).alloc _⟩
      by_cases h3 : k = 3
      · subst h3
        go_enter Try.func45, Try.ntmps45
        go_wp2
        go_ret
        exact ⟨by rw [HF3.out]; rfl, (Kept.refl _ _).alloc _⟩
      by_cases h4 : k = 4
      · subst h4
        go_enter Try.func45, Try.ntmps45
        go_wp2
        go_ret
        exact ⟨by rw [HF3.out]; rfl, (Kept.refl _ _).alloc _⟩
      have k2 : ((k : Int) == 2) = false := by simp only [beq_eq_false_iff_ne]; omega
      have k3 : ((k : Int) == 3) = false := by simp only [beq_eq_false_iff_ne]; omega
      have k4 : ((k : Int) == 4) = false := by simp only [beq_eq_false_iff_ne]; omega
      go_enter Try.func45, Try.ntmps45
      go_wp2
      go_ret
      exact ⟨by rw [HF3.out]; rfl, (Kept.refl _ _).alloc _⟩
  · have ht2 : (tx == []) = false := by simpa using ht
    have ht3 : (tx != []) = true := by simpa using ht
    by_cases h1 : k = 1
    · subst h1
      have HF3 : Hid (R = false) := by have := HF.out; show _ = _; simpa [ht] using this
      clear HF ht
      go_enter Try.func45, Try.ntmps45
      go_wp2
      go_ret
      exact ⟨by rw [HF3.out]; rfl, (Kept.refl _ _).alloc _⟩
    have k1 : ((k : Int) == 1) = false := by simp only [beq_eq_false_iff_ne]; omega
    by_cases h2 : k = 2
    · subst h2
      have HF3 : Hid (R = G) := by have := HF.out; show _ = _; simpa [ht] using this
      clear HF ht
      go_enter Try.func45, Try.ntmps45
      go_wp2_with (go_at_call 78; (with_reducible refine Calls.mono (cr _ (kA _)) ?_); rintro e w1 ⟨rfl, n1, rfl⟩)
      go_ret
      exact ⟨by rw [HF3.out]; rfl, ((Kept.refl _ _).alloc _).drewN n1⟩
    by_cases h3 : k = 3
    · subst h3
      have HF3 : Hid (R = G) := by have := HF.out; show _ = _; simpa [ht] using this
      clear HF ht
      go_enter Try.func45, Try.ntmps45
      go_wp2_with (go_at_call 78; (with_reducible refine Calls.mono (cr _ (kA _)) ?_); rintro e w1 ⟨rfl, n1, rfl⟩)
      go_ret
      exact ⟨by rw [HF3.out]; rfl, ((Kept.refl _ _).alloc _).drewN n1⟩
    by_cases h4 : k = 4
    · subst h4
      have HF3 : Hid (R = G) := by have := HF.out; show _ = _; simpa [ht] using this
      clear HF ht
      go_enter Try.func45, Try.ntmps45
      go_wp2_with (go_at_call 78; (with_reducible refine Calls.mono (cr _ (kA _)) ?_); rintro e w1 ⟨rfl, n1, rfl⟩)
      go_ret
      exact ⟨by rw [HF3.out]; rfl, ((Kept.refl _ _).alloc _).drewN n1⟩
    have HF3 : Hid (R = false) := by have := HF.out; show _ = _; simpa [h1, h2, h3, h4] using this
    have k2 : ((k : Int) == 2) = false := by simp only [beq_eq_false_iff_ne]; omega
    have k3 : ((k : Int) == 3) = false := by simp only [beq_eq_false_iff_ne]; omega
    have k4 : ((k : Int) == 4) = false := by simp only [beq_eq_false_iff_ne]; omega
    clear HF
    go_enter Try.func45, Try.ntmps45
    go_wp2
    go_ret
    exact ⟨by rw [HF3.out]; rfl, (Kept.refl _ _).alloc _⟩

end Go.Proofs.Ytbooeabmpdpgpaa
