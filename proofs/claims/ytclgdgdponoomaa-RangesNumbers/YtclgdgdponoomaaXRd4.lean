/-
  A Reader's number for every Reader, refused or not, and Byte, Four, Eight, Fail, End above it.
-/
import Derived.Test.YtclgdgdponoomaaXRd3
namespace Go.Proofs.Ytclgdgdponoomaa
open Go.RowKit

/-- A Reader in memory whose place lies within its bytes. -/
structure Rs (w : World) (B R : Nat) (bs : List UInt8) (cap : Nat) (s : RS) : Prop where
  rd : Rd w B R bs cap s.pos s.why
  pos : s.pos ≤ bs.length
  big : (bs.length : Int) ≤ 140737488355328

theorem Rs.kept {p : Nat → Prop} {w w' : World} {B R : Nat} {bs : List UInt8} {cap : Nat} {s : RS} (h : Rs w B R bs cap s) (hk : Kept p w w') (hB : p B) (hR : p R) : Rs w' B R bs cap s := ⟨h.rd.kept hk hB hR, h.pos, h.big⟩
theorem Rs.lt {w : World} {B R : Nat} {bs : List UInt8} {cap : Nat} {s : RS} (h : Rs w B R bs cap s) : B < w.heap.size := h.rd.lt
theorem Rs.rowlt {w : World} {B R : Nat} {bs : List UInt8} {cap : Nat} {s : RS} (h : Rs w B R bs cap s) : R < w.heap.size := h.rd.rowlt

set_option maxRecDepth 100000 in
set_option maxHeartbeats 400000 in
theorem number_no {w : World} {B R : Nat} {bs : List UInt8} {cap at_ : Nat} {why : Int} (k : Nat) (h : Rd w B R bs cap at_ why) (hn : (bs.length : Int) ≤ 140737488355328) (ha : at_ ≤ bs.length) (hl : leftOf bs.length at_ why < (k : Int)) :
    Calls Try.prog 44 #[.pointer (some ⟨B, 0, none⟩), .int .i64 k] w fun e w' => e = .returned (.int .u64 0) ∧
      (why = 0 → Rd w' B R bs cap bs.length 10) ∧ (why ≠ 0 → Rd w' B R bs cap at_ why) ∧ Kept (· ≠ B) w w' := by
  have HL : Hid (leftOf bs.length at_ why < (k : Int)) := hl
  clear hl
  go_enter Try.func44, Try.ntmps44
  go_wp2
  refine wp_scope_jumps 0 (fun _ _ => False) (fun _ _ => 0) rfl ?_ (fun _ _ hf => hf.elim)
  go_wp2_with (go_at_call 51; refine (has_no _ h hn ha HL.out).mono ?_; rintro e w' ⟨rfl, h1, h2, h3⟩)
  simp only [Exit.jump]
  go_ret
  exact ⟨rfl, h1, h2, h3⟩

theorem number_any {w : World} {B R : Nat} {bs : List UInt8} {cap : Nat} {s : RS} (k : Nat) (h : Rs w B R bs cap s) (hk1 : 1 ≤ k) (hk8 : k ≤ 8) :
    Calls Try.prog 44 #[.pointer (some ⟨B, 0, none⟩), .int .i64 k] w fun e w' => e = .returned (.int .u64 ((s.num bs k).1 : Nat)) ∧ Rs w' B R bs cap (s.num bs k).2 ∧ Kept (· ≠ B) w w' := by
  obtain ⟨pos, why⟩ := s
  obtain ⟨hr, hp, hbig⟩ := h
  simp only at hr hp
  by_cases hw : why = 0
  · subst hw
    by_cases hl : pos + k ≤ bs.length
    · refine (number_yes k hr hbig hk1 hk8 hl).mono ?_
      rintro e w' ⟨rfl, h1, h2⟩
      simp only [RS.num, if_pos hl, if_true]
      exact ⟨trivial, ⟨h1, hl, hbig⟩, h2⟩
    · refine (number_no k hr hbig hp (by simp [leftOf]; omega)).mono ?_
      rintro e w' ⟨rfl, h1, h2, h3⟩
      simp only [RS.num, if_neg hl, if_true]
      exact ⟨by simp, ⟨h1 rfl, by simp, hbig⟩, h3⟩
  · refine (number_no k hr hbig hp (by simp [leftOf, hw]; omega)).mono ?_
    rintro e w' ⟨rfl, h1, h2, h3⟩
    simp only [RS.num, if_neg hw]
    exact ⟨by simp, ⟨h2 hw, hp, hbig⟩, h3⟩

set_option maxRecDepth 100000 in
set_option maxHeartbeats 400000 in
theorem four_any {w : World} {B R : Nat} {bs : List UInt8} {cap : Nat} {s : RS} (h : Rs w B R bs cap s) :
    Calls Try.prog 45 #[.pointer (some ⟨B, 0, none⟩)] w fun e w' => e = .returned (.int .i64 ((s.num bs 4).1 : Nat)) ∧ Rs w' B R bs cap (s.num bs 4).2 ∧ Kept (· ≠ B) w w' := by
  have hlt := s.num_lt4 bs
  have c := number_any 4 h (by decide) (by decide)
  generalize s.num bs 4 = r at *
  go_enter Try.func45, Try.ntmps45
  go_wp2_with (go_at_call 44; refine Calls.mono c ?_; rintro e w' ⟨rfl, h1, h2⟩)
  go_ret
  exact ⟨by simp, h1, h2⟩

set_option maxRecDepth 100000 in
set_option maxHeartbeats 400000 in
theorem end_any {w : World} {B R : Nat} {bs : List UInt8} {cap : Nat} {s : RS} (h : Rs w B R bs cap s) :
    Calls Try.prog 34 #[.pointer (some ⟨B, 0, none⟩)] w fun e w' => e = .returned (.tuple #[.int .i64 (s.end_ bs).1, .int .i64 (s.end_ bs).2]) ∧ ∃ n, w' = w.drewN n := by
  obtain ⟨pos, y⟩ := s
  obtain ⟨hr, hp, hbig⟩ := h
  simp only at hr hp
  obtain ⟨c0, c1, c2, hf⟩ := wthree_cell hr.self
  by_cases hy : y = 0
  · subst hy
    have c := left_any hr hbig hp
    by_cases hl : pos < bs.length
    · have hL : (0 : Int) < leftOf bs.length pos 0 := by simp [leftOf]; omega
      have HL : Hid (pos < bs.length) := hl
      generalize leftOf bs.length pos 0 = L at *
      go_enter Try.func34, Try.ntmps34
      go_wp2_with (go_at_call 47; refine Calls.mono c ?_; rintro e w' ⟨rfl, nd, rfl⟩)
      go_quiet (fail)
      go_wp2
      go_ret2
      exact ⟨by simp [RS.end_, HL.out], nd + nq, by simp [World.drewN, Nat.add_assoc]⟩
    · have hL : leftOf bs.length pos 0 = 0 := by simp [leftOf]; omega
      rw [hL] at c
      have HL : Hid (¬ pos < bs.length) := hl
      clear hL
      go_enter Try.func34, Try.ntmps34
      go_wp2_with (go_at_call 47; refine Calls.mono c ?_; rintro e w' ⟨rfl, nd, rfl⟩)
      go_ret2
      exact ⟨by simp [RS.end_, HL.out], _, rfl⟩
  · have hy' : (y == 0) = false := by simp [hy]
    go_enter Try.func34, Try.ntmps34
    go_wp2
    go_quiet (fail)
    go_wp2
    go_ret2
    exact ⟨by simp [RS.end_, hy], _, rfl⟩

theorem left_is {w : World} {B R : Nat} {bs : List UInt8} {cap : Nat} {s : RS} (h : Rs w B R bs cap s) :
    Calls Try.prog 47 #[.pointer (some ⟨B, 0, none⟩)] w fun e w' => e = .returned (.int .i64 (s.left bs)) ∧ ∃ n, w' = w.drewN n := left_any h.rd h.big h.pos

end Go.Proofs.Ytclgdgdponoomaa
