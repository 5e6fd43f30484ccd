/-
  A Reader's Left, refuse and has: what each answers and leaves, for any Reader.
-/
import Derived.Test.YtclgdgdponoomaaXBase
namespace Go.Proofs.Ytclgdgdponoomaa
open Go.RowKit

set_option maxRecDepth 100000 in
set_option maxHeartbeats 400000 in
theorem left_any {w : World} {B R : Nat} {bs : List UInt8} {cap at_ : Nat} {why : Int} (h : Rd w B R bs cap at_ why) (hn : (bs.length : Int) ≤ 140737488355328) (ha : at_ ≤ bs.length) :
    Calls Try.prog 47 #[.pointer (some ⟨B, 0, none⟩)] w fun e w' => e = .returned (.int .i64 (leftOf bs.length at_ why)) ∧ ∃ n, w' = w.drewN n := by
  obtain ⟨c0, c1, c2, hf⟩ := wthree_cell h.self
  have ha' : (at_ : Int) ≤ (bs.length : Int) := by omega
  by_cases hy : why = 0
  · subst hy
    go_enter Try.func47, Try.ntmps47
    go_wp2
    go_quiet (fail)
    go_wp2
    go_ret
    exact ⟨by simp [leftOf], _, rfl⟩
  · have hy' : (why == 0) = false := by simp [hy]
    go_enter Try.func47, Try.ntmps47
    go_wp2
    go_ret
    exact ⟨by simp [leftOf, hy], 0, rfl⟩

set_option maxRecDepth 100000 in
set_option maxHeartbeats 400000 in
theorem refuse_yes {w : World} {B R : Nat} {bs : List UInt8} {cap : Nat} {at_ : Int} (why a : Int) (h : Rd w B R bs cap at_ 0) (hw : why ≠ 0) :
    Calls Try.prog 46 #[.pointer (some ⟨B, 0, none⟩), .int .i64 why, .int .i64 a] w fun e w' => e = .returned (.tuple #[]) ∧ Rd w' B R bs cap a why ∧ Kept (· ≠ B) w w' := by
  obtain ⟨c0, c1, c2, hf⟩ := wthree_cell h.self
  have hw' : (why == 0) = false := by simp [hw]
  have hw2 : (why != 0) = true := by simp [hw]
  have c1' : (w.setCell ⟨B, 2, none⟩ (.int .i64 why)).cell? ⟨B, 1, none⟩ = some (.int .i64 at_) := (wthree_cell (h.setWhy why).self).2.1
  go_enter Try.func46, Try.ntmps46
  go_wp2
  go_end0
  exact ⟨rfl, (h.setWhy why).setAt a, ((Kept.refl _ _).setCell (by simp) _).setCell (by simp) _⟩

set_option maxRecDepth 100000 in
set_option maxHeartbeats 400000 in
theorem refuse_no {w : World} {B R : Nat} {bs : List UInt8} {cap : Nat} {at_ y : Int} (why a : Int) (h : Rd w B R bs cap at_ y) (hw : y ≠ 0 ∨ why = 0) :
    Calls Try.prog 46 #[.pointer (some ⟨B, 0, none⟩), .int .i64 why, .int .i64 a] w fun e w' => e = .returned (.tuple #[]) ∧ w' = w := by
  obtain ⟨c0, c1, c2, hf⟩ := wthree_cell h.self
  by_cases hy : y = 0
  · subst hy
    have hz : why = 0 := by omega
    subst hz
    go_enter Try.func46, Try.ntmps46
    go_wp2
    go_end0
    exact ⟨rfl, rfl⟩
  · have hy' : (y == 0) = false := by simp [hy]
    go_enter Try.func46, Try.ntmps46
    go_wp2
    go_end0
    exact ⟨rfl, rfl⟩

end Go.Proofs.Ytclgdgdponoomaa
