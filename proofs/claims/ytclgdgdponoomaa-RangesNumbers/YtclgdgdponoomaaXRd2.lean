/-
  A Reader's has and number: what each answers and leaves, for any Reader.
-/
import Derived.Test.YtclgdgdponoomaaXRd1
import Derived.WalkMore
import Derived.ScopeJumps
namespace Go.Proofs.Ytclgdgdponoomaa
open Go.RowKit

set_option maxRecDepth 100000 in
set_option maxHeartbeats 400000 in
theorem has_yes {w : World} {B R : Nat} {bs : List UInt8} {cap at_ : Nat} {why : Int} (n : Int) (h : Rd w B R bs cap at_ why) (hn : (bs.length : Int) ≤ 140737488355328) (ha : at_ ≤ bs.length) (hl : n ≤ leftOf bs.length at_ why) :
    Calls Try.prog 51 #[.pointer (some ⟨B, 0, none⟩), .int .i64 n] w fun e w' => e = .returned (.bool true) ∧ ∃ n, w' = w.drewN n := by
  generalize hL : leftOf bs.length at_ why = L at hl
  have HL : Hid (leftOf bs.length at_ why = L) := hL
  clear hL
  go_enter Try.func51, Try.ntmps51
  go_wp2_with (go_at_call 47; refine (left_any h hn ha).mono ?_; rintro e w' ⟨rfl, nd, rfl⟩; rw [HL.out])
  go_ret
  exact ⟨rfl, nd, rfl⟩

set_option maxRecDepth 100000 in
set_option maxHeartbeats 400000 in
theorem has_no {w : World} {B R : Nat} {bs : List UInt8} {cap at_ : Nat} {why : Int} (n : Int) (h : Rd w B R bs cap at_ why) (hn : (bs.length : Int) ≤ 140737488355328) (ha : at_ ≤ bs.length) (hl : leftOf bs.length at_ why < n) :
    Calls Try.prog 51 #[.pointer (some ⟨B, 0, none⟩), .int .i64 n] w fun e w' => e = .returned (.bool false) ∧
      (why = 0 → Rd w' B R bs cap bs.length 10) ∧ (why ≠ 0 → Rd w' B R bs cap at_ why) ∧ Kept (· ≠ B) w w' := by
  generalize hL : leftOf bs.length at_ why = L at hl
  have HL : Hid (leftOf bs.length at_ why = L) := hL
  clear hL
  obtain ⟨c0, c1, c2, hf⟩ := wthree_cell h.self
  by_cases hy : why = 0
  · subst hy
    go_enter Try.func51, Try.ntmps51
    go_wp2_with (first
      | (go_at_call 47; refine (left_any h hn ha).mono ?_; rintro e w' ⟨rfl, nd, rfl⟩; rw [HL.out])
      | (go_at_call 46; refine (refuse_yes 10 _ (h.drewN _) (by omega)).mono ?_; rintro e w' ⟨rfl, hr, hk⟩))
    go_ret
    exact ⟨rfl, fun _ => hr, fun hh => absurd rfl hh, (Kept.refl _ _).drewN nd |>.trans hk⟩
  · have HY : Hid (why ≠ 0) := hy
    go_enter Try.func51, Try.ntmps51
    go_wp2_with (first
      | (go_at_call 47; refine (left_any h hn ha).mono ?_; rintro e w' ⟨rfl, nd, rfl⟩; rw [HL.out])
      | (go_at_call 46; refine (refuse_no 10 _ (h.drewN _) (.inl HY.out)).mono ?_; rintro e w' ⟨rfl, rfl⟩))
    go_ret
    exact ⟨rfl, fun hh => absurd hh HY.out, fun _ => h.drewN _, (Kept.refl _ _).drewN nd⟩

end Go.Proofs.Ytclgdgdponoomaa
