/-
  Move of a right Map, told whole.
-/
import Derived.Test.YtebpkhemkdgbjaaM6
namespace Go.Proofs.Ytebpkhemkdgbjaa
open Go.RowKit

/-- What Move answers: why not, the epoch, the parts. -/
def mvP (ep : Int) (ps : List Pa) (lo hi g : Int) : Int × Int × List Pa :=
  if lo < 0 ∨ hi ≤ lo ∨ 256 < hi ∨ isG g = false then (1, 0, []) else if ep = 1073741824 then (23, 0, []) else (0, ep + 1, pcs (upd (ownH ps) lo hi g) 256)
set_option maxRecDepth 100000 in
theorem mvP_rgt {ep : Int} {ps : List Pa} {lo hi g : Int} (hr : rgt ep ps = true) (h : (mvP ep ps lo hi g).1 = 0) : rgt (mvP ep ps lo hi g).2.1 (mvP ep ps lo hi g).2.2 = true := by
  obtain ⟨h1, h2, h3⟩ := rgt_iff.1 hr
  unfold mvP at h ⊢
  split
  · rename_i hb
    rw [if_pos hb] at h
    simp at h
  · rename_i hb
    rw [if_neg hb] at h
    split
    · rename_i he
      rw [if_pos he] at h
      simp at h
    · have hg : isG g = true := by
        cases hq : isG g with
        | true => rfl
        | false => exact absurd (.inr (.inr (.inr hq))) hb
      have := isG_iff.1 hg
      have hp := rgt_pcs (upd_gs (lo := lo) (hi := hi) (rgt_gs h3) this.1 this.2)
      generalize pcs (upd (ownH ps) lo hi g) 256 = R at hp ⊢
      exact rgt_iff.2 ⟨by show 1 ≤ ep + 1; omega, by show ep + 1 ≤ 1073741824; omega, hp⟩
set_option maxRecDepth 100000 in
theorem move_told {w : World} {ao : Option Addr} {cap : Nat} {ep : Int} {ps : List Pa} (h : Pv w ao ps) (lo hi g : Int) (hr : rgt ep ps = true) :
    Calls Try.prog 24 #[.agg #[.int .i64 ep, .slice ao ps.length cap], .int .i64 lo, .int .i64 hi, .int .i64 g] w fun e w' => ∃ ao' cap', e = .returned (.tuple #[.agg #[.int .i64 (mvP ep ps lo hi g).2.1, .slice ao' (mvP ep ps lo hi g).2.2.length cap'], .int .i64 (mvP ep ps lo hi g).1]) ∧ Pv w' ao' (mvP ep ps lo hi g).2.2 ∧ Kept (fun _ => True) w w' := by
  obtain ⟨h1, h2, h3⟩ := rgt_iff.1 hr
  have hl := rgt_most h3
  by_cases hb : lo < 0 ∨ hi ≤ lo ∨ 256 < hi ∨ isG g = false
  · have e : mvP ep ps lo hi g = (1, 0, []) := by unfold mvP; rw [if_pos hb]
    rw [e]
    refine (move_bad h (by omega) lo hi g (.inr hb)).mono ?_
    rintro e w' ⟨rfl, k⟩
    exact ⟨none, 0, rfl, Pv.nil _ _, k⟩
  · have hg : isG g = true := by
      cases hq : isG g with
      | true => rfl
      | false => exact absurd (.inr (.inr (.inr hq))) hb
    by_cases he : ep = 1073741824
    · have e : mvP ep ps lo hi g = (23, 0, []) := by unfold mvP; rw [if_neg hb, if_pos he]
      rw [e]
      subst he
      refine (move_last h (by omega) lo hi g hr (by omega) (by omega) (by omega) hg).mono ?_
      rintro e w' ⟨rfl, k⟩
      exact ⟨none, 0, rfl, Pv.nil _ _, k⟩
    · have e : mvP ep ps lo hi g = (0, ep + 1, pcs (upd (ownH ps) lo hi g) 256) := by unfold mvP; rw [if_neg hb, if_neg he]
      rw [e]
      have cm := move_any (cap := cap) h lo hi g hr (by omega) (by omega) (by omega) (by omega) hg
      generalize pcs (upd (ownH ps) lo hi g) 256 = R at cm ⊢
      refine cm.mono ?_
      rintro e w' ⟨ao', cap', rfl, ho, k⟩
      exact ⟨ao', cap', rfl, ho.view, k⟩

end Go.Proofs.Ytebpkhemkdgbjaa
