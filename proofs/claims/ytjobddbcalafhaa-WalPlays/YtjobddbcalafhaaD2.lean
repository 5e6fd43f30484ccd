/-
  The program's disk: Cut and Crash.
-/
import Derived.Test.YtjobddbcalafhaaD1
import Derived.BigRegion
import Derived.Deep.RegionLaw
namespace Go.Proofs.Ytjobddbcalafhaa
open Go.RowKit

set_option maxHeartbeats 400000 in
theorem cut_any {w : World} {B : Nat} {v : Value} {bs : List UInt8} {s : Nat} (h : Dk 44 w B v bs s) (k : Nat) (hk : k ≤ bs.length) :
    Calls Try.prog 18 #[.pointer (some ⟨B, 0, none⟩), .int .i64 k] w fun e w' => e = .returned (.int .i64 0) ∧ ∃ v', Step 44 w w' B v v' (bs.take k) (min s k) := by
  obtain ⟨bo, bcap, rfl, hcap, ho, hsl⟩ := own_cut h.own hk
  obtain ⟨c0, c1, f0, f1⟩ := two_cell h.self
  have HS : Hid (Step 44 w _ B (.slice bo bs.length bcap) _ (bs.take k) (min s k)) := h.short ho hk (min s k) (Nat.min_le_right _ _)
  have h0 : ¬ ((k : Int) < 0) := by omega
  have h1 : ¬ ((bs.length : Int) < (k : Int)) := by omega
  clear h ho
  by_cases hs : k < s
  · rw [Nat.min_eq_right (Nat.le_of_lt hs)] at HS ⊢
    have hs' : (k : Int) < (s : Int) := by omega
    go_enter Try.func18, Try.ntmps18
    go_wp2
    go_ret
    exact ⟨rfl, _, HS.out⟩
  · rw [Nat.min_eq_left (Nat.le_of_not_lt hs)] at HS ⊢
    have hs' : ¬ ((k : Int) < (s : Int)) := by omega
    go_enter Try.func18, Try.ntmps18
    go_wp2
    go_ret
    exact ⟨rfl, _, HS.out⟩

/-- How many bytes a crash leaves. -/
def left (n s : Nat) (keep : Int) : Nat := s + min keep.toNat (n - s)
theorem left_le {n s : Nat} (h : s ≤ n) (keep : Int) : left n s keep ≤ n := by unfold left; omega
theorem le_left (n s : Nat) (keep : Int) : s ≤ left n s keep := by unfold left; omega

/-- The slice is cut. -/
theorem Dk.cutTo {t : TypeId} {w : World} {B : Nat} {ao : Option Addr} {n cap : Nat} {bs : List UInt8} {s k : Nat} (h : Dk t w B (.slice ao n cap) bs s) (ho : w.ownsRow 0 5 1 (.slice ao k cap) k ((cells bs).take k)) (hk : k ≤ bs.length) (hs : s ≤ k) (m : Nat) :
    Step t w ((w.drewN m).setCell ⟨B, 0, none⟩ (.slice ao k cap)) B (.slice ao n cap) (.slice ao k cap) (bs.take k) s := by
  have e : (Value.slice ao k cap).ownBlock = (Value.slice ao n cap).ownBlock := by cases ao <;> rfl
  have hl : (bs.take k).length = k := by simp; omega
  refine ⟨⟨(two_set (h.drewN m).self _).1, ?_, h.ty, by omega, by have := h.most; omega⟩, ((Kept.refl _ _).drewN m).setCell (by simp) _, fun x hx => .inl (by rwa [e] at hx)⟩
  rw [hl, ← cells_take]
  exact ownsRow_setCell_other (w := w.drewN m) ho (a := ⟨B, 0, none⟩) (by rw [e]; exact h.ne) _

set_option maxRecDepth 100000 in
set_option maxHeartbeats 1000000 in
theorem crash_any {w : World} {B : Nat} {v : Value} {bs : List UInt8} {s : Nat} (h : Dk 44 w B v bs s) (keep : Int) :
    Calls Try.prog 13 #[.pointer (some ⟨B, 0, none⟩), .int .i64 keep] w fun e w' => e = .returned (.tuple #[]) ∧ ∃ v', Step 44 w w' B v v' (bs.take (left bs.length s keep)) (left bs.length s keep) := by
  have hk := left_le h.safe keep
  have hsk := le_left bs.length s keep
  obtain ⟨bo, bcap, rfl, hcap, ho, hsl⟩ := own_cut h.own hk
  obtain ⟨c0, c1, f0, f1⟩ := two_cell h.self
  have hm := h.most
  have hsf := h.safe
  have HS : Hid (∀ m, Step 44 w ((w.drewN m).setCell ⟨B, 0, none⟩ (.slice bo (left bs.length s keep) bcap)) B (.slice bo bs.length bcap) (.slice bo (left bs.length s keep) bcap) (bs.take (left bs.length s keep)) s) := fun m => h.cutTo ho hk hsk m
  have hl : (left bs.length s keep : Int) = s + min (max keep 0) (bs.length - s) := by unfold left; omega
  generalize left bs.length s keep = k at *
  have w1 : IntKind.i64.wrap ((bs.length : Int) - s) = (bs.length : Int) - s := by simp [IntKind.wrap, IntKind.bits, IntKind.signed]; omega
  clear h ho
  obtain ⟨K, hK⟩ : ∃ K, (if keep < 0 then 0 else keep) = K := ⟨_, rfl⟩
  obtain ⟨M, hM⟩ : ∃ M, (if (bs.length : Int) - s < K then (bs.length : Int) - s else K) = M := ⟨_, rfl⟩
  have hsum : (s : Int) + M = k := by omega
  have w2 : IntKind.i64.wrap (s + M) = k := by rw [hsum]; simp [IntKind.wrap, IntKind.bits, IntKind.signed]; omega
  clear hl
  go_enter Try.func13, Try.ntmps13
  go_wp2
  go_quiet (fail)
  go_wp2
  go_region
  have hst := HS.out (nq + 1)
  have c := sync_any hst.now
  rw [show (bs.take k).length = k by simp; omega] at c
  clear c0 c1 f0 f1 HS hsl
  go_wp2_with (go_at_call 20; refine Calls.mono c ?_; rintro e w3 ⟨rfl, h3⟩)
  go_end0
  exact ⟨rfl, _, hst.trans h3⟩

end Go.Proofs.Ytjobddbcalafhaa
