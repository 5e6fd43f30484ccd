/-
  The document's own Reader (conclaveref1) in memory: refuse, Left, Fail, End.
-/
import Derived.Test.YtlkkmggopoknaaaRef1
namespace Go.Proofs.Ytlkkmggopoknaaa
open Go.RowKit

theorem kept_cell {p : Nat → Prop} {w w' : World} (h : Kept p w w') {b o : Nat} (hlt : b < w.heap.size) (hp : p b) : w'.cell? ⟨b, o, none⟩ = w.cell? ⟨b, o, none⟩ := World.cell?_of_block (w := w) (h.block b hlt hp)
theorem kept_frozen {p : Nat → Prop} {w w' : World} (h : Kept p w w') {b o : Nat} (hlt : b < w.heap.size) (hp : p b) : w'.frozen? ⟨b, o, none⟩ = w.frozen? ⟨b, o, none⟩ := World.frozen?_of_block (w := w) (h.block b hlt hp)
theorem drew_two (w : World) (a b : Nat) : (w.drewN a).drewN b = w.drewN (a + b) := by simp [World.drewN, Nat.add_assoc]

/-- The document's Reader in block B over the slice vb of the bytes bs, in the state s. -/
structure Rf (w : World) (B : Nat) (vb : Value) (bs : List UInt8) (s : RS) : Prop where
  self : ∃ at_ why wh : Int, w.heap[B]? = some (.cells #[vb, .int .i64 at_, .bool (decide (s.why ≠ 0)), .int .i64 why, .int .i64 wh] 45 (0, 0)) ∧ (s.why = 0 → at_ = s.pos) ∧ (s.why ≠ 0 → why = s.why ∧ wh = s.pos)
  pos : s.pos ≤ bs.length
  big : (bs.length : Int) ≤ 140737488355328

theorem Rf.lt {w : World} {B : Nat} {vb : Value} {bs : List UInt8} {s : RS} (h : Rf w B vb bs s) : B < w.heap.size := by
  obtain ⟨_, _, _, h, _⟩ := h.self; exact lt_of_block h
theorem Rf.kept {p : Nat → Prop} {w w' : World} {B : Nat} {vb : Value} {bs : List UInt8} {s : RS} (h : Rf w B vb bs s) (hk : Kept p w w') (hB : p B) : Rf w' B vb bs s := by
  have hl := h.lt
  obtain ⟨a, y, z, h1, h2⟩ := h.self
  exact ⟨⟨a, y, z, (hk.block B hl hB).trans h1, h2⟩, h.pos, h.big⟩

theorem five_cell {w : World} {b : Nat} {x0 x1 x2 x3 x4 : Value} {t : TypeId} (h : w.heap[b]? = some (.cells #[x0, x1, x2, x3, x4] t (0, 0))) :
    w.cell? ⟨b, 0, none⟩ = some x0 ∧ w.cell? ⟨b, 1, none⟩ = some x1 ∧ w.cell? ⟨b, 2, none⟩ = some x2 ∧ w.cell? ⟨b, 3, none⟩ = some x3 ∧ w.cell? ⟨b, 4, none⟩ = some x4 ∧ (∀ k, w.frozen? ⟨b, k, none⟩ = false) := by
  refine ⟨by simp [World.cell?, h], by simp [World.cell?, h], by simp [World.cell?, h], by simp [World.cell?, h], by simp [World.cell?, h], fun k => by simp [World.frozen?, h]⟩
theorem five_set1 {w : World} {b : Nat} {x0 x1 x2 x3 x4 : Value} {t : TypeId} (h : w.heap[b]? = some (.cells #[x0, x1, x2, x3, x4] t (0, 0))) (u : Value) : (w.setCell ⟨b, 1, none⟩ u).heap[b]? = some (.cells #[x0, u, x2, x3, x4] t (0, 0)) := by
  have := heap_setCell_same w b 1 _ t u h; simpa using this
theorem five_set2 {w : World} {b : Nat} {x0 x1 x2 x3 x4 : Value} {t : TypeId} (h : w.heap[b]? = some (.cells #[x0, x1, x2, x3, x4] t (0, 0))) (u : Value) : (w.setCell ⟨b, 2, none⟩ u).heap[b]? = some (.cells #[x0, x1, u, x3, x4] t (0, 0)) := by
  have := heap_setCell_same w b 2 _ t u h; simpa using this
theorem five_set3 {w : World} {b : Nat} {x0 x1 x2 x3 x4 : Value} {t : TypeId} (h : w.heap[b]? = some (.cells #[x0, x1, x2, x3, x4] t (0, 0))) (u : Value) : (w.setCell ⟨b, 3, none⟩ u).heap[b]? = some (.cells #[x0, x1, x2, u, x4] t (0, 0)) := by
  have := heap_setCell_same w b 3 _ t u h; simpa using this
theorem five_set4 {w : World} {b : Nat} {x0 x1 x2 x3 x4 : Value} {t : TypeId} (h : w.heap[b]? = some (.cells #[x0, x1, x2, x3, x4] t (0, 0))) (u : Value) : (w.setCell ⟨b, 4, none⟩ u).heap[b]? = some (.cells #[x0, x1, x2, x3, u] t (0, 0)) := by
  have := heap_setCell_same w b 4 _ t u h; simpa using this

set_option maxHeartbeats 400000 in
theorem frefuse_yes {w : World} {B : Nat} {vb : Value} {bs : List UInt8} {s : RS} (why : Int) (p : Nat) (h : Rf w B vb bs s) (hs : s.why = 0) (hw : why ≠ 0) (hp : p ≤ bs.length) :
    Calls Try.prog 46 #[.pointer (some ⟨B, 0, none⟩), .int .i64 why, .int .i64 p] w fun e w' => e = .returned (.tuple #[]) ∧ Rf w' B vb bs ⟨p, why⟩ ∧ Kept (· ≠ B) w w' := by
  obtain ⟨⟨a, y, z, hh, h1, h2⟩, hpos, hbig⟩ := h
  have e0 : decide (s.why ≠ 0) = false := by simp [hs]
  rw [e0] at hh
  obtain ⟨c0, c1, c2, c3, c4, hf⟩ := five_cell hh
  have g1 := five_set2 hh (.bool true)
  obtain ⟨_, _, _, d3, _, _⟩ := five_cell g1
  have g2 := five_set3 g1 (.int .i64 why)
  obtain ⟨_, _, _, _, d4, _⟩ := five_cell g2
  have g3 := five_set4 g2 (.int .i64 (p : Int))
  have HW : Hid (why ≠ 0) := hw
  have G3 := g3
  clear h1 h2 hs e0 hw g1 g2 g3
  go_enter Try.func46, Try.ntmps46
  go_wp2
  go_end0
  refine ⟨rfl, ⟨⟨a, why, p, ?_, fun h => absurd h HW.out, fun _ => ⟨rfl, rfl⟩⟩, hp, hbig⟩, (((Kept.refl _ _).setCell (by simp) _).setCell (by simp) _).setCell (by simp) _⟩
  have e1 : decide ((⟨p, why⟩ : RS).why ≠ 0) = true := by simpa using HW.out
  rw [e1]
  exact G3

set_option maxHeartbeats 400000 in
theorem frefuse_no {w : World} {B : Nat} {vb : Value} {bs : List UInt8} {s : RS} (why p : Int) (h : Rf w B vb bs s) (hs : s.why ≠ 0) :
    Calls Try.prog 46 #[.pointer (some ⟨B, 0, none⟩), .int .i64 why, .int .i64 p] w fun e w' => e = .returned (.tuple #[]) ∧ w' = w := by
  obtain ⟨⟨a, y, z, hh, h1, h2⟩, hpos, hbig⟩ := h
  have e0 : decide (s.why ≠ 0) = true := by simpa using hs
  rw [e0] at hh
  obtain ⟨c0, c1, c2, c3, c4, hf⟩ := five_cell hh
  clear h1 h2 hs e0
  go_enter Try.func46, Try.ntmps46
  go_wp2
  go_end0
  exact ⟨rfl, rfl⟩

set_option maxHeartbeats 400000 in
theorem fleft_any {w : World} {B : Nat} {ao : Option Addr} {cap : Nat} {bs : List UInt8} {s : RS} (h : Rf w B (.slice ao bs.length cap) bs s) :
    Calls Try.prog 33 #[.pointer (some ⟨B, 0, none⟩)] w fun e w' => e = .returned (.int .i64 (s.left bs)) ∧ ∃ n, w' = w.drewN n := by
  obtain ⟨⟨a, y, z, hh, h1, h2⟩, hpos, hbig⟩ := h
  by_cases hs : s.why = 0
  · have e0 : decide (s.why ≠ 0) = false := by simp [hs]
    rw [e0] at hh
    obtain ⟨c0, c1, c2, c3, c4, hf⟩ := five_cell hh
    have ha := h1 hs
    subst ha
    have hpos' : (s.pos : Int) ≤ (bs.length : Int) := by omega
    have HS : Hid (s.why = 0) := hs
    clear h1 h2 hs e0
    go_enter Try.func33, Try.ntmps33
    go_wp2
    go_quiet (fail)
    go_wp2
    go_ret
    exact ⟨by simp [RS.left, leftOf, HS.out], _, rfl⟩
  · have e0 : decide (s.why ≠ 0) = true := by simpa using hs
    rw [e0] at hh
    obtain ⟨c0, c1, c2, c3, c4, hf⟩ := five_cell hh
    have HS : Hid (s.why ≠ 0) := hs
    clear h1 h2 hs e0
    go_enter Try.func33, Try.ntmps33
    go_wp2
    go_ret
    exact ⟨by simp [RS.left, leftOf, HS.out], 0, rfl⟩

set_option maxHeartbeats 400000 in
theorem ffail_any {w : World} {B : Nat} {vb : Value} {bs : List UInt8} {s : RS} (why : Int) (h : Rf w B vb bs s) :
    Calls Try.prog 31 #[.pointer (some ⟨B, 0, none⟩), .int .i64 why] w fun e w' => e = .returned (.tuple #[]) ∧ Rf w' B vb bs (s.fail why) ∧ Kept (· ≠ B) w w' := by
  have hrf := h
  obtain ⟨⟨a, y, z, hh, h1, h2⟩, hpos, hbig⟩ := h
  by_cases hw : why = 0
  · subst hw
    have e : s.fail 0 = s := by simp [RS.fail]
    rw [e]
    clear h1 h2 hh
    go_enter Try.func31, Try.ntmps31
    go_wp2
    go_end0
    exact ⟨rfl, hrf, Kept.refl _ _⟩
  · obtain ⟨c0, c1, c2, c3, c4, hf⟩ := five_cell hh
    have q : (why == 0) = false := by simp [hw]
    have HW : Hid (why ≠ 0) := hw
    by_cases hs : s.why = 0
    · have ha := h1 hs
      subst ha
      have e : s.fail why = ⟨s.pos, why⟩ := if_pos ⟨hs, hw⟩
      rw [e]
      have c := frefuse_yes why s.pos hrf hs hw hpos
      clear h1 h2 hh hs e c0 c2 c3 c4 hw
      go_enter Try.func31, Try.ntmps31
      go_wp2_with (go_at_call 46; refine Calls.mono c ?_; rintro e w' ⟨rfl, g1, g2⟩)
      go_end0
      exact ⟨rfl, g1, g2⟩
    · have e : s.fail why = s := if_neg (fun h => hs h.1)
      rw [e]
      have c := frefuse_no why a hrf hs
      clear h1 h2 hh hs e c0 c2 c3 c4 hw
      go_enter Try.func31, Try.ntmps31
      go_wp2_with (go_at_call 46; refine Calls.mono c ?_; rintro e w' ⟨rfl, rfl⟩)
      go_end0
      exact ⟨rfl, hrf, Kept.refl _ _⟩

set_option maxHeartbeats 400000 in
theorem fend_any {w : World} {B : Nat} {ao : Option Addr} {cap : Nat} {bs : List UInt8} {s : RS} (h : Rf w B (.slice ao bs.length cap) bs s) :
    Calls Try.prog 34 #[.pointer (some ⟨B, 0, none⟩)] w fun e w' => e = .returned (.tuple #[.int .i64 (s.end_ bs).1, .int .i64 (s.end_ bs).2]) ∧ ∃ n, w' = w.drewN n := by
  obtain ⟨⟨a, y, z, hh, h1, h2⟩, hpos, hbig⟩ := h
  by_cases hs : s.why = 0
  · have e0 : decide (s.why ≠ 0) = false := by simp [hs]
    rw [e0] at hh
    obtain ⟨c0, c1, c2, c3, c4, hf⟩ := five_cell hh
    have ha := h1 hs
    subst ha
    have HS : Hid (s.why = 0) := hs
    clear h1 h2 hs e0
    by_cases hl : s.pos < bs.length
    · have hl' : (s.pos : Int) < (bs.length : Int) := by omega
      have HL : Hid (s.pos < bs.length) := hl
      clear hl
      go_enter Try.func34, Try.ntmps34
      go_wp2
      go_quiet (fail)
      go_wp2
      go_quiet (fail)
      go_wp2
      go_ret2
      exact ⟨by simp [RS.end_, HS.out, HL.out], _, drew_two _ _ _⟩
    · have hl' : ¬ ((s.pos : Int) < (bs.length : Int)) := by omega
      have HL : Hid (¬ s.pos < bs.length) := hl
      clear hl
      go_enter Try.func34, Try.ntmps34
      go_wp2
      go_quiet (fail)
      go_wp2
      go_ret2
      exact ⟨by simp [RS.end_, HS.out, HL.out], _, rfl⟩
  · have e0 : decide (s.why ≠ 0) = true := by simpa using hs
    rw [e0] at hh
    obtain ⟨rfl, rfl⟩ := h2 hs
    obtain ⟨c0, c1, c2, c3, c4, hf⟩ := five_cell hh
    have HS : Hid (s.why ≠ 0) := hs
    clear h1 h2 hs e0
    go_enter Try.func34, Try.ntmps34
    go_wp2
    go_quiet (fail)
    go_wp2
    go_ret2
    exact ⟨by simp [RS.end_, HS.out], _, rfl⟩

end Go.Proofs.Ytlkkmggopoknaaa
