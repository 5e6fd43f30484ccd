/-
  A Reader's Left, refuse and has: what each answers and leaves, for any Reader.
-/
import Derived.Test.YtbooeabmpdpgpaaXBase
import Derived.WalkMore
import Derived.ScopeJumps
import Derived.Laws.IdiomStrings
import Derived.Laws.BytesString
namespace Go.Proofs.Ytbooeabmpdpgpaa
open Go.RowKit

set_option maxRecDepth 100000 in
set_option maxHeartbeats 400000 in
theorem left_any {w : World} {B R : Nat} {bs : List UInt8} {cap at_ : Nat} {why : Int} (h : Rd w B R bs cap at_ why) (hn : (bs.length : Int) ≤ 140737488355328) (ha : at_ ≤ bs.length) :
    Calls Try.prog 71 #[.pointer (some ⟨B, 0, none⟩)] w fun e w' => e = .returned (.int .i64 (leftOf bs.length at_ why)) ∧ ∃ n, w' = w.drewN n := by
  obtain ⟨c0, c1, c2, hf⟩ := wthree_cell h.self
  have ha' : (at_ : Int) ≤ (bs.length : Int) := by omega
  by_cases hy : why = 0
  · subst hy
    go_enter Try.func71, Try.ntmps71
    go_wp2
    go_quiet (fail)
    go_wp2
    go_ret
    exact ⟨by simp [leftOf], _, rfl⟩
  · have hy' : (why == 0) = false := by simp [hy]
    go_enter Try.func71, Try.ntmps71
    go_wp2
    go_ret
    exact ⟨by simp [leftOf, hy], 0, rfl⟩

set_option maxRecDepth 100000 in
set_option maxHeartbeats 400000 in
theorem refuse_yes {w : World} {B R : Nat} {bs : List UInt8} {cap : Nat} {at_ : Int} (why a : Int) (h : Rd w B R bs cap at_ 0) (hw : why ≠ 0) :
    Calls Try.prog 90 #[.pointer (some ⟨B, 0, none⟩), .int .i64 why, .int .i64 a] w fun e w' => e = .returned (.tuple #[]) ∧ Rd w' B R bs cap a why ∧ Kept (· ≠ B) w w' := by
  obtain ⟨c0, c1, c2, hf⟩ := wthree_cell h.self
  have hw' : (why == 0) = false := by simp [hw]
  have hw2 : (why != 0) = true := by simp [hw]
  have c1' : (w.setCell ⟨B, 2, none⟩ (.int .i64 why)).cell? ⟨B, 1, none⟩ = some (.int .i64 at_) := (wthree_cell (h.setWhy why).self).2.1
  go_enter Try.func90, Try.ntmps90
  go_wp2
  go_end0
  exact ⟨rfl, (h.setWhy why).setAt a, ((Kept.refl _ _).setCell (by simp) _).setCell (by simp) _⟩

set_option maxRecDepth 100000 in
set_option maxHeartbeats 400000 in
theorem refuse_no {w : World} {B R : Nat} {bs : List UInt8} {cap : Nat} {at_ y : Int} (why a : Int) (h : Rd w B R bs cap at_ y) (hw : y ≠ 0 ∨ why = 0) :
    Calls Try.prog 90 #[.pointer (some ⟨B, 0, none⟩), .int .i64 why, .int .i64 a] w fun e w' => e = .returned (.tuple #[]) ∧ w' = w := by
  obtain ⟨c0, c1, c2, hf⟩ := wthree_cell h.self
  by_cases hy : y = 0
  · subst hy
    have hz : why = 0 := by omega
    subst hz
    go_enter Try.func90, Try.ntmps90
    go_wp2
    go_end0
    exact ⟨rfl, rfl⟩
  · have hy' : (y == 0) = false := by simp [hy]
    go_enter Try.func90, Try.ntmps90
    go_wp2
    go_end0
    exact ⟨rfl, rfl⟩

end Go.Proofs.Ytbooeabmpdpgpaa

namespace Go.Proofs.Ytbooeabmpdpgpaa
open Go.RowKit

set_option maxRecDepth 100000 in
set_option maxHeartbeats 400000 in
theorem has_yes {w : World} {B R : Nat} {bs : List UInt8} {cap at_ : Nat} {why : Int} (n : Int) (h : Rd w B R bs cap at_ why) (hn : (bs.length : Int) ≤ 140737488355328) (ha : at_ ≤ bs.length) (hl : n ≤ leftOf bs.length at_ why) :
    Calls Try.prog 77 #[.pointer (some ⟨B, 0, none⟩), .int .i64 n] w fun e w' => e = .returned (.bool true) ∧ ∃ n, w' = w.drewN n := by
  generalize hL : leftOf bs.length at_ why = L at hl
  have HL : Hid (leftOf bs.length at_ why = L) := hL
  clear hL
  go_enter Try.func77, Try.ntmps77
  go_wp2_with (go_at_call 71; refine (left_any h hn ha).mono ?_; rintro e w' ⟨rfl, nd, rfl⟩; rw [HL.out])
  go_ret
  exact ⟨rfl, nd, rfl⟩

set_option maxRecDepth 100000 in
set_option maxHeartbeats 400000 in
theorem has_no {w : World} {B R : Nat} {bs : List UInt8} {cap at_ : Nat} {why : Int} (n : Int) (h : Rd w B R bs cap at_ why) (hn : (bs.length : Int) ≤ 140737488355328) (ha : at_ ≤ bs.length) (hl : leftOf bs.length at_ why < n) :
    Calls Try.prog 77 #[.pointer (some ⟨B, 0, none⟩), .int .i64 n] w fun e w' => e = .returned (.bool false) ∧
      (why = 0 → Rd w' B R bs cap bs.length 10) ∧ (why ≠ 0 → Rd w' B R bs cap at_ why) ∧ Kept (· ≠ B) w w' := by
  generalize hL : leftOf bs.length at_ why = L at hl
  have HL : Hid (leftOf bs.length at_ why = L) := hL
  clear hL
  obtain ⟨c0, c1, c2, hf⟩ := wthree_cell h.self
  by_cases hy : why = 0
  · subst hy
    go_enter Try.func77, Try.ntmps77
    go_wp2_with (first
      | (go_at_call 71; refine (left_any h hn ha).mono ?_; rintro e w' ⟨rfl, nd, rfl⟩; rw [HL.out])
      | (go_at_call 90; refine (refuse_yes 10 _ (h.drewN _) (by omega)).mono ?_; rintro e w' ⟨rfl, hr, hk⟩))
    go_ret
    exact ⟨rfl, fun _ => hr, fun hh => absurd rfl hh, (Kept.refl _ _).drewN nd |>.trans hk⟩
  · have HY : Hid (why ≠ 0) := hy
    go_enter Try.func77, Try.ntmps77
    go_wp2_with (first
      | (go_at_call 71; refine (left_any h hn ha).mono ?_; rintro e w' ⟨rfl, nd, rfl⟩; rw [HL.out])
      | (go_at_call 90; refine (refuse_no 10 _ (h.drewN _) (.inl HY.out)).mono ?_; rintro e w' ⟨rfl, rfl⟩))
    go_ret
    exact ⟨rfl, fun hh => absurd hh HY.out, fun _ => h.drewN _, (Kept.refl _ _).drewN nd⟩

end Go.Proofs.Ytbooeabmpdpgpaa

namespace Go.Proofs.Ytbooeabmpdpgpaa
open Go.RowKit

/-- What holds at each jump back. -/
def Jm (w : World) (B R : Nat) (bs : List UInt8) (cap at_ k : Nat) (a' : Act) (w' : World) : Prop :=
  ∃ m j : Nat, m + j = k ∧ 1 ≤ m ∧ Rd w' B R bs cap ((at_ + j : Nat) : Int) 0 ∧ Kept (· ≠ B) w w' ∧ ∃ u6 u7 u8 u9 u10 u11 u12 u13 u14 u15 u16 u17 u18 u19 u20 u21 u22 u23 u24 u25 u26 u27 u28 u29 u30 u31 u32 u33 u34 u35 : Value,
    a' = { tmps := #[.pointer (some ⟨B, 0, none⟩), .int .i64 m, undef, undef, .int .u64 0, .int .u64 (be ((bs.drop at_).take j)), u6, u7, u8, u9, u10, u11, u12, u13, u14, u15, u16, u17, u18, u19, u20, u21, u22, u23, u24, u25, u26, u27, u28, u29, u30, u31, u32, u33, u34, u35], defers := [] }

theorem step_be (bs : List UInt8) (a j N : Nat) (h : a + j < bs.length) (hN : be ((bs.drop a).take j) = N) (h56 : N < 72057594037927936) :
    bits BinOp.or .u64 ((N : Int) * 256) (IntKind.u64.wrap ((bs[a + j]).toNat : Int)) = ((be ((bs.drop a).take (j + 1)) : Nat) : Int) := by
  rw [or_byte _ _ h56, take_drop_snoc bs a j h, be_snoc, hN]

set_option maxRecDepth 100000 in
set_option maxHeartbeats 800000 in
theorem number_yes {w : World} {B R : Nat} {bs : List UInt8} {cap at_ : Nat} (k : Nat) (h : Rd w B R bs cap at_ 0) (hn : (bs.length : Int) ≤ 140737488355328) (hk1 : 1 ≤ k) (hk8 : k ≤ 8) (hl : at_ + k ≤ bs.length) :
    Calls Try.prog 76 #[.pointer (some ⟨B, 0, none⟩), .int .i64 k] w fun e w' => e = .returned (.int .u64 (be ((bs.drop at_).take k))) ∧ Rd w' B R bs cap ((at_ + k : Nat) : Int) 0 ∧ Kept (· ≠ B) w w' := by
  have HL : (k : Int) ≤ leftOf bs.length at_ 0 := by simp [leftOf]; omega
  go_enter Try.func76, Try.ntmps76
  go_wp2
  refine wp_scope_jumps 0 (Jm w B R bs cap at_ k) (fun a' _ => (intOf (a'.tmps.getD 1 undef)).toNat) rfl ?_ ?_
  · obtain ⟨c0, c1, c2, hf⟩ := wthree_cell h.self
    have hj : at_ + 0 < bs.length := by omega
    have hb := h.byte at_ (by omega)
    have S := step_be bs at_ 0 0 hj (by simp [be]) (by decide)
    have S' : bits BinOp.or .u64 0 (IntKind.u64.wrap ((bs[at_]).toNat : Int)) = ((be ((bs.drop at_).take 1) : Nat) : Int) := by simpa using S
    clear S
    have w0 : IntKind.u64.wrap 0 = 0 := by decide
    generalize hM : be ((bs.drop at_).take 1) = M at *
    have HM : Hid (be ((bs.drop at_).take 1) = M) := hM
    clear hM
    have hj' : (at_ : Int) < (bs.length : Int) := by omega
    go_wp2_with (go_at_call 77; refine (has_yes _ h hn (by omega) HL).mono ?_; rintro e w' ⟨rfl, nd, rfl⟩)
    go_step3
    go_wp2
    go_quiet (fail)
    go_wp2
    · go_step3
      rw [← HM.out, show (k : Int) - 1 = ((k - 1 : Nat) : Int) from by omega]
      exact ⟨rfl, k - 1, 1, by omega, by omega, (h.drewN _).setAt _, ((Kept.refl _ _).drewN _).setCell (by simp) _, _, _, _, _, _, _, _, _, _, _, _, _, _, _, _, _, _, _, _, _, _, _, _, _, _, _, _, _, _, _, rfl⟩
    · simp only [Exit.jump]
      go_ret
      have hk : k = 1 := by omega
      subst hk
      rw [HM.out]
      exact ⟨rfl, (h.drewN _).setAt _, ((Kept.refl _ _).drewN _).setCell (by simp) _⟩
  · rintro a' w' ⟨m, j, hmj, hm, hr, hk, u6, u7, u8, u9, u10, u11, u12, u13, u14, u15, u16, u17, u18, u19, u20, u21, u22, u23, u24, u25, u26, u27, u28, u29, u30, u31, u32, u33, u34, u35, rfl⟩
    obtain ⟨c0, c1, c2, hf⟩ := wthree_cell hr.self
    have hj : at_ + j < bs.length := by omega
    have hb := hr.byte (at_ + j) hj
    have hN : be ((bs.drop at_).take j) < 72057594037927936 := be_lt56 _ (by simp; omega)
    have S := step_be bs at_ j _ hj rfl hN
    generalize be ((bs.drop at_).take j) = N at *
    generalize hM : be ((bs.drop at_).take (j + 1)) = M at *
    have HM : Hid (be ((bs.drop at_).take (j + 1)) = M) := hM
    clear hM
    go_wp2
    go_quiet (fail)
    go_wp2
    · go_step3
      rw [← HM.out, show (m : Int) - 1 = ((m - 1 : Nat) : Int) from by omega]
      refine ⟨rfl, ⟨m - 1, j + 1, by omega, by omega, (hr.drewN nq).setAt _, (hk.drewN nq).setCell (by simp) _, _, _, _, _, _, _, _, _, _, _, _, _, _, _, _, _, _, _, _, _, _, _, _, _, _, _, _, _, _, _, rfl⟩, ?_⟩
      simp [intOf]; omega
    · simp only [Exit.jump]
      go_ret
      have hk1 : m = 1 := by omega
      subst hk1
      obtain rfl : k = j + 1 := by omega
      rw [HM.out]
      exact ⟨rfl, (hr.drewN nq).setAt _, (hk.drewN nq).setCell (by simp) _⟩
end Go.Proofs.Ytbooeabmpdpgpaa

namespace Go.Proofs.Ytbooeabmpdpgpaa
open Go.RowKit

/-- A Reader in memory whose place lies within its bytes. -/
structure Rs (w : World) (B R : Nat) (bs : List UInt8) (cap : Nat) (s : RS) : Prop where
  rd : Rd w B R bs cap s.pos s.why
  pos : s.pos ≤ bs.length
  big : (bs.length : Int) ≤ 140737488355328

theorem Rs.kept {p : Nat → Prop} {w w' : World} {B R : Nat} {bs : List UInt8} {cap : Nat} {s : RS} (h : Rs w B R bs cap s) (hk : Kept p w w') (hB : p B) (hR : p R) : Rs w' B R bs cap s := ⟨h.rd.kept hk hB hR, h.pos, h.big⟩
theorem Rs.lt {w : World} {B R : Nat} {bs : List UInt8} {cap : Nat} {s : RS} (h : Rs w B R bs cap s) : B < w.heap.size := h.rd.lt
theorem Rs.rowlt {w : World} {B R : Nat} {bs : List UInt8} {cap : Nat} {s : RS} (h : Rs w B R bs cap s) : R < w.heap.size := h.rd.rowlt

set_option maxRecDepth 100000 in
set_option maxHeartbeats 400000 in
theorem number_no {w : World} {B R : Nat} {bs : List UInt8} {cap at_ : Nat} {why : Int} (k : Nat) (h : Rd w B R bs cap at_ why) (hn : (bs.length : Int) ≤ 140737488355328) (ha : at_ ≤ bs.length) (hl : leftOf bs.length at_ why < (k : Int)) :
    Calls Try.prog 76 #[.pointer (some ⟨B, 0, none⟩), .int .i64 k] w fun e w' => e = .returned (.int .u64 0) ∧
      (why = 0 → Rd w' B R bs cap bs.length 10) ∧ (why ≠ 0 → Rd w' B R bs cap at_ why) ∧ Kept (· ≠ B) w w' := by
  have HL : Hid (leftOf bs.length at_ why < (k : Int)) := hl
  clear hl
  go_enter Try.func76, Try.ntmps76
  go_wp2
  refine wp_scope_jumps 0 (fun _ _ => False) (fun _ _ => 0) rfl ?_ (fun _ _ hf => hf.elim)
  go_wp2_with (go_at_call 77; refine (has_no _ h hn ha HL.out).mono ?_; rintro e w' ⟨rfl, h1, h2, h3⟩)
  simp only [Exit.jump]
  go_ret
  exact ⟨rfl, h1, h2, h3⟩

theorem number_any {w : World} {B R : Nat} {bs : List UInt8} {cap : Nat} {s : RS} (k : Nat) (h : Rs w B R bs cap s) (hk1 : 1 ≤ k) (hk8 : k ≤ 8) :
    Calls Try.prog 76 #[.pointer (some ⟨B, 0, none⟩), .int .i64 k] w fun e w' => e = .returned (.int .u64 ((s.num bs k).1 : Nat)) ∧ Rs w' B R bs cap (s.num bs k).2 ∧ Kept (· ≠ B) w w' := by
  obtain ⟨pos, why⟩ := s
  obtain ⟨hr, hp, hbig⟩ := h
  simp only at hr hp
  by_cases hw : why = 0
  · subst hw
    by_cases hl : pos + k ≤ bs.length
    · refine (number_yes k hr hbig hk1 hk8 hl).mono ?_
      rintro e w' ⟨rfl, h1, h2⟩
      simp only [RS.num, if_pos hl, if_true]
      exact ⟨trivial, ⟨h1, hl, hbig⟩, h2⟩
    · refine (number_no k hr hbig hp (by simp [leftOf]; omega)).mono ?_
      rintro e w' ⟨rfl, h1, h2, h3⟩
      simp only [RS.num, if_neg hl, if_true]
      exact ⟨by simp, ⟨h1 rfl, by simp, hbig⟩, h3⟩
  · refine (number_no k hr hbig hp (by simp [leftOf, hw]; omega)).mono ?_
    rintro e w' ⟨rfl, h1, h2, h3⟩
    simp only [RS.num, if_neg hw]
    exact ⟨by simp, ⟨h2 hw, hp, hbig⟩, h3⟩

set_option maxRecDepth 100000 in
set_option maxHeartbeats 400000 in
theorem byte_any {w : World} {B R : Nat} {bs : List UInt8} {cap : Nat} {s : RS} (h : Rs w B R bs cap s) :
    Calls Try.prog 42 #[.pointer (some ⟨B, 0, none⟩)] w fun e w' => e = .returned (.int .i64 ((s.num bs 1).1 : Nat)) ∧ Rs w' B R bs cap (s.num bs 1).2 ∧ Kept (· ≠ B) w w' := by
  have hlt := s.num_lt1 bs
  have c := number_any 1 h (by decide) (by decide)
  generalize s.num bs 1 = r at *
  go_enter Try.func42, Try.ntmps42
  go_wp2_with (go_at_call 76; refine Calls.mono c ?_; rintro e w' ⟨rfl, h1, h2⟩)
  go_ret
  exact ⟨by simp, h1, h2⟩

set_option maxRecDepth 100000 in
set_option maxHeartbeats 400000 in
theorem four_any {w : World} {B R : Nat} {bs : List UInt8} {cap : Nat} {s : RS} (h : Rs w B R bs cap s) :
    Calls Try.prog 89 #[.pointer (some ⟨B, 0, none⟩)] w fun e w' => e = .returned (.int .i64 ((s.num bs 4).1 : Nat)) ∧ Rs w' B R bs cap (s.num bs 4).2 ∧ Kept (· ≠ B) w w' := by
  have hlt := s.num_lt4 bs
  have c := number_any 4 h (by decide) (by decide)
  generalize s.num bs 4 = r at *
  go_enter Try.func89, Try.ntmps89
  go_wp2_with (go_at_call 76; refine Calls.mono c ?_; rintro e w' ⟨rfl, h1, h2⟩)
  go_ret
  exact ⟨by simp, h1, h2⟩

set_option maxRecDepth 100000 in
set_option maxHeartbeats 400000 in
theorem fail_any {w : World} {B R : Nat} {bs : List UInt8} {cap : Nat} {s : RS} (why : Int) (h : Rs w B R bs cap s) :
    Calls Try.prog 73 #[.pointer (some ⟨B, 0, none⟩), .int .i64 why] w fun e w' => e = .returned (.tuple #[]) ∧ Rs w' B R bs cap (s.fail why) ∧ Kept (· ≠ B) w w' := by
  obtain ⟨pos, y⟩ := s
  obtain ⟨hr, hp, hbig⟩ := h
  simp only at hr hp
  obtain ⟨c0, c1, c2, hf⟩ := wthree_cell hr.self
  by_cases hc : y = 0 ∧ why ≠ 0
  · obtain ⟨rfl, hw⟩ := hc
    have c := refuse_yes why pos hr hw
    have HW : Hid (why ≠ 0) := hw
    clear hw
    go_enter Try.func73, Try.ntmps73
    go_wp2_with (go_at_call 90; refine Calls.mono c ?_; rintro e w' ⟨rfl, h1, h2⟩)
    go_end0
    have e : (⟨pos, 0⟩ : RS).fail why = ⟨pos, why⟩ := if_pos ⟨rfl, HW.out⟩
    rw [e]
    exact ⟨rfl, ⟨h1, hp, hbig⟩, h2⟩
  · have c := refuse_no why pos hr (by omega)
    have HC : Hid (¬ (y = 0 ∧ why ≠ 0)) := hc
    clear hc
    go_enter Try.func73, Try.ntmps73
    go_wp2_with (go_at_call 90; refine Calls.mono c ?_; rintro e w' ⟨rfl, rfl⟩)
    go_end0
    have e : (⟨pos, y⟩ : RS).fail why = ⟨pos, y⟩ := if_neg HC.out
    rw [e]
    exact ⟨rfl, ⟨hr, hp, hbig⟩, Kept.refl _ _⟩

set_option maxRecDepth 100000 in
set_option maxHeartbeats 400000 in
theorem end_any {w : World} {B R : Nat} {bs : List UInt8} {cap : Nat} {s : RS} (h : Rs w B R bs cap s) :
    Calls Try.prog 44 #[.pointer (some ⟨B, 0, none⟩)] w fun e w' => e = .returned (.tuple #[.int .i64 (s.end_ bs).1, .int .i64 (s.end_ bs).2]) ∧ ∃ n, w' = w.drewN n := by
  obtain ⟨pos, y⟩ := s
  obtain ⟨hr, hp, hbig⟩ := h
  simp only at hr hp
  obtain ⟨c0, c1, c2, hf⟩ := wthree_cell hr.self
  by_cases hy : y = 0
  · subst hy
    have c := left_any hr hbig hp
    by_cases hl : pos < bs.length
    · have hL : (0 : Int) < leftOf bs.length pos 0 := by simp [leftOf]; omega
      have HL : Hid (pos < bs.length) := hl
      generalize leftOf bs.length pos 0 = L at *
      go_enter Try.func44, Try.ntmps44
      go_wp2_with (go_at_call 71; refine Calls.mono c ?_; rintro e w' ⟨rfl, nd, rfl⟩)
      go_quiet (fail)
      go_wp2
      go_ret2
      exact ⟨by simp [RS.end_, HL.out], nd + nq, by simp [World.drewN, Nat.add_assoc]⟩
    · have hL : leftOf bs.length pos 0 = 0 := by simp [leftOf]; omega
      rw [hL] at c
      have HL : Hid (¬ pos < bs.length) := hl
      clear hL
      go_enter Try.func44, Try.ntmps44
      go_wp2_with (go_at_call 71; refine Calls.mono c ?_; rintro e w' ⟨rfl, nd, rfl⟩)
      go_ret2
      exact ⟨by simp [RS.end_, HL.out], _, rfl⟩
  · have hy' : (y == 0) = false := by simp [hy]
    go_enter Try.func44, Try.ntmps44
    go_wp2
    go_quiet (fail)
    go_wp2
    go_ret2
    exact ⟨by simp [RS.end_, hy], _, rfl⟩

theorem left_is {w : World} {B R : Nat} {bs : List UInt8} {cap : Nat} {s : RS} (h : Rs w B R bs cap s) :
    Calls Try.prog 71 #[.pointer (some ⟨B, 0, none⟩)] w fun e w' => e = .returned (.int .i64 (s.left bs)) ∧ ∃ n, w' = w.drewN n := left_any h.rd h.big h.pos

end Go.Proofs.Ytbooeabmpdpgpaa

namespace Go.Proofs.Ytbooeabmpdpgpaa
open Go.RowKit

set_option maxRecDepth 100000 in
theorem wcut_any {w : World} {R : Nat} {cur : Array Value} {t : TypeId} {fr : Nat × Nat} {bs : List UInt8} {cap : Nat} (hc : w.heap[R]? = some (.cells cur t fr)) (ht : cur.toList.take bs.length = cells bs) (hcap : bs.length ≤ cap) (p n : Nat) (hpn : p + n ≤ bs.length) :
    ∃ SV : Value, (∀ w0, (Instr.slice 25 (.slice (some ⟨R, 0, none⟩) bs.length cap) (some (.int .i64 (p : Int))) (some (.int .i64 ((p : Int) + (n : Int)))) none).run Try.prog w0 = .ok SV w0) ∧
      ∀ k, (convert 25 9 SV).run Try.prog (w.drewN k) = .ok (.string ⟨((bs.drop p).take n).toArray⟩) (w.drewN k) := by
  refine ⟨.slice (some (if cap = p then ⟨R, 0, none⟩ else ⟨R, p, none⟩)) n (cap - p), fun w0 => ?_, fun k => ?_⟩
  · rw [run_slice_lh (P := Try.prog) w0 25 (some ⟨R, 0, none⟩) bs.length cap Try.underlying25 .i64 .i64 p (p + n) (by omega) (by omega) (by omega)]
    have e1 : ((p : Int) + (n : Int)).toNat = p + n := by omega
    rw [size_u8]
    simp only [Result.andThen, sliced, e1, Int.toNat_natCast, Nat.add_sub_cancel_left]
    by_cases hp : cap = p
    · simp [hp]
    · simp [hp, Addr.add]; omega
  · have hl : ((bs.drop p).take n).length = n := by simp; omega
    have := conv_run (w.drewN k) (if cap = p then ⟨R, 0, none⟩ else ⟨R, p, none⟩) (cap - p) ((bs.drop p).take n) (fun j hj => by
      rw [hl] at hj
      rw [if_neg (by omega)]
      have e : (⟨R, p, none⟩ : Addr).add j = ⟨R, p + j, none⟩ := by simp [Addr.add]
      rw [e, List.getElem_take, List.getElem_drop]
      exact row_cells (w := w) hc ht (p + j) (by omega))
    rw [hl] at this
    exact this

end Go.Proofs.Ytbooeabmpdpgpaa

namespace Go.Proofs.Ytbooeabmpdpgpaa
open Go.RowKit

set_option maxRecDepth 100000 in
set_option maxHeartbeats 400000 in
theorem count_any {w : World} {B R : Nat} {bs : List UInt8} {cap : Nat} {s : RS} (most : Int) (h : Rs w B R bs cap s) :
    Calls Try.prog 70 #[.pointer (some ⟨B, 0, none⟩), .int .i64 most] w fun e w' => e = .returned (.int .i64 ((s.count bs most).1 : Nat)) ∧ Rs w' B R bs cap (s.count bs most).2 ∧ Kept (· ≠ B) w w' := by
  have hlt := s.num_lt4 bs
  have hno := s.num_no bs 4
  have c := four_any h
  obtain ⟨c0, c1, c2, hf⟩ := wthree_cell h.rd.self
  have hpos := h.pos
  have hbig := h.big
  unfold RS.count
  generalize s.num bs 4 = r at *
  obtain ⟨n, t⟩ := r
  simp only at *
  by_cases hm : max most 0 < (n : Int)
  · rw [if_pos hm]
    have ht : t.why = 0 := by
      by_cases h0 : t.why = 0
      · exact h0
      · have := hno h0; omega
    clear hno
    have HT : Hid (t.why = 0) := ht
    clear ht
    by_cases h0 : 0 ≤ most
    · have hm' : most < (n : Int) := by omega
      clear hm
      go_enter Try.func70, Try.ntmps70
      go_wp2_with (first
        | (go_at_call 89; refine Calls.mono c ?_; rintro e w1 ⟨rfl, h1, h2⟩)
        | (go_at_call 90; refine (refuse_yes 3 _ (by have := h1.rd; rw [HT.out] at this; exact this) (by decide)).mono ?_; rintro e w2 ⟨rfl, h3, h4⟩))
      go_ret
      exact ⟨by simp, ⟨h3, hpos, hbig⟩, h2.trans h4⟩
    · have hm' : (0 : Int) < (n : Int) := by omega
      clear hm
      go_enter Try.func70, Try.ntmps70
      go_wp2_with (first
        | (go_at_call 89; refine Calls.mono c ?_; rintro e w1 ⟨rfl, h1, h2⟩)
        | (go_at_call 90; refine (refuse_yes 3 _ (by have := h1.rd; rw [HT.out] at this; exact this) (by decide)).mono ?_; rintro e w2 ⟨rfl, h3, h4⟩))
      go_ret
      exact ⟨by simp, ⟨h3, hpos, hbig⟩, h2.trans h4⟩
  · rw [if_neg hm]
    clear hno
    have hm' : (n : Int) ≤ max most 0 := by omega
    clear hm
    go_enter Try.func70, Try.ntmps70
    go_wp2_with (go_at_call 89; refine Calls.mono c ?_; rintro e w1 ⟨rfl, h1, h2⟩)
    all_goals (go_ret; exact ⟨by simp, h1, h2⟩)

set_option maxRecDepth 100000 in
set_option maxHeartbeats 400000 in
theorem text_any {w : World} {B R : Nat} {bs : List UInt8} {cap : Nat} {s : RS} (most : Int) (h : Rs w B R bs cap s)  :
    Calls Try.prog 43 #[.pointer (some ⟨B, 0, none⟩), .int .i64 most] w fun e w' => e = .returned (.string ⟨(s.text bs most).1.toArray⟩) ∧ Rs w' B R bs cap (s.text bs most).2 ∧ Kept (· ≠ B) w w' := by
  have hno := s.count_no bs most
  have hlt := s.count_lt bs most
  have c := count_any most h
  unfold RS.text
  generalize s.count bs most = r at *
  obtain ⟨n, t⟩ := r
  simp only at *
  by_cases hl : t.left bs < (n : Int)
  · rw [if_pos hl]
    have hw : t.why = 0 := by
      by_cases hw : t.why = 0
      · exact hw
      · have h1 := hno hw
        unfold RS.left leftOf at hl
        rw [if_neg hw] at hl
        omega
    have HW : Hid (t.why = 0) := hw
    have HL : Hid (leftOf bs.length t.pos t.why < (n : Int)) := hl
    clear hl hw hno
    go_enter Try.func43, Try.ntmps43
    go_wp2_with (first
      | (go_at_call 70; refine Calls.mono c ?_; rintro e w1 ⟨rfl, h1, h2⟩)
      | (go_at_call 77; refine (has_no _ h1.rd h1.big h1.pos HL.out).mono ?_; rintro e w2 ⟨rfl, h3, h4, h5⟩))
    go_ret
    exact ⟨by simp, ⟨h3 HW.out, Nat.le_refl _, h1.big⟩, h2.trans h5⟩
  · rw [if_neg hl]
    have HL : Hid ((n : Int) ≤ leftOf bs.length t.pos t.why) := Int.not_lt.1 hl
    clear hl
    go_enter Try.func43, Try.ntmps43
    go_wp2_with (first
      | (go_at_call 70; refine Calls.mono c ?_; rintro e w1 ⟨rfl, h1, h2⟩)
      | (go_at_call 77; refine (has_yes _ h1.rd h1.big h1.pos HL.out).mono ?_; rintro e w2 ⟨rfl, nd, rfl⟩))
    obtain ⟨c0, c1, c2, hf⟩ := wthree_cell h1.rd.self
    have hp := h1.pos
    have hb := h1.big
    have hn' : t.pos + n ≤ bs.length := by
      have := HL.out
      unfold leftOf at this
      by_cases hw : t.why = 0
      · rw [if_pos hw] at this; omega
      · have := hno hw; omega
    have hn'' : (t.pos : Int) + (n : Int) ≤ (bs.length : Int) := by omega
    obtain ⟨cur, hcu, htk, hcap⟩ := h1.rd.row
    obtain ⟨SV, hsl, hcv⟩ := wcut_any hcu htk hcap t.pos n hn'
    clear hno hcu htk hcap
    go_quiet (fail)
    go_wp2
    go_ret
    exact ⟨rfl, ⟨(h1.rd.drewN _).setAt _, hn', hb⟩, h2.trans (((Kept.refl _ _).drewN _).setCell (by simp) _)⟩

end Go.Proofs.Ytbooeabmpdpgpaa
