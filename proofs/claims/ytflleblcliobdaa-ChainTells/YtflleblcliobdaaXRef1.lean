/-
  The document's own writers (conclaveref1): appends to slices of bytes that were made here.
-/
import Derived.Test.YtflleblcliobdaaXWr1
import Derived.Test.YtflleblcliobdaaXRd1
import Derived.Test.YtflleblcliobdaaBack
import Derived.Test.YtflleblcliobdaaZ2
import Derived.Test.YtflleblcliobdaaZPlain
import Derived.Maps.AppendAt
import Derived.Laws.AppendOwnNone
import Derived.Deep.Onto
namespace Go.Proofs.Ytflleblcliobdaa
open Go.RowKit

theorem byte0 (n : Int) : IntKind.u8.wrap n = ((byteAt (u64 n) 0).toNat : Int) := by
  rw [byteAt_toNat]
  simp [u64, IntKind.wrap, IntKind.bits, IntKind.signed]; omega
theorem byte1 (n : Int) : IntKind.u8.wrap (n / 256) = ((byteAt (u64 n) 1).toNat : Int) := by
  rw [byteAt_toNat]
  simp [u64, IntKind.wrap, IntKind.bits, IntKind.signed]; omega
theorem byte2 (n : Int) : IntKind.u8.wrap (n / 65536) = ((byteAt (u64 n) 2).toNat : Int) := by
  rw [byteAt_toNat]
  simp [u64, IntKind.wrap, IntKind.bits, IntKind.signed]; omega
theorem byte3 (n : Int) : IntKind.u8.wrap (n / 16777216) = ((byteAt (u64 n) 3).toNat : Int) := by
  rw [byteAt_toNat]
  simp [u64, IntKind.wrap, IntKind.bits, IntKind.signed]; omega

/-- A row that lies where a fresh one lay, or in a new block, is fresh. -/
theorem own_up {w1 w2 : World} {b n n1 : Nat} {v v1 : Value} {xs xs1 : List Value} (h : w2.ownsRow 0 5 1 v n xs) (h1 : w1.ownsRow b 5 1 v1 n1 xs1) (hB : b ≤ w1.heap.size) (hat : v1.ownBlock = v.ownBlock ∨ ∃ g, v.ownBlock = some g ∧ w1.heap.size ≤ g) : w2.ownsRow b 5 1 v n xs := by
  refine ⟨h.1, ?_⟩
  rcases h.2 with h0 | ⟨g, cap, cur, rfl, _, rest⟩
  · exact .inl h0
  · refine .inr ⟨g, cap, cur, rfl, ?_, rest⟩
    rcases hat with e | ⟨g', e, hg'⟩
    · exact (h1.lt g e).1
    · have : g = g' := by simpa [Value.ownBlock] using e
      omega

set_option maxHeartbeats 400000 in
theorem rfour_any {w : World} {v : Value} {bs : List UInt8} (n : Int) (h : Sl w v bs) (hb : bs.length + 4 ≤ 140737488355328) :
    Calls Try.prog 41 #[v, .int .i64 n] w fun e w' => ∃ r, e = .returned r ∧ w'.ownsRow w.heap.size 5 1 r (bs ++ enc (u64 n) 4).length (cells (bs ++ enc (u64 n) 4)) ∧ Kept (fun _ => True) w w' := by
  obtain ⟨ao, cap, rfl, hn, hh⟩ := h
  have HN : Hid (ao = none → cap = 0) := hn
  have HH : Hid (Has w ao bs) := hh
  have HW0 := byte0 n
  have HW1 := byte1 n
  have HW2 := byte2 n
  have HW3 := byte3 n
  clear hn hh
  go_enter Try.func41, Try.ntmps41
  go_wp2_with (first
    | (at_builtin; refine wpList_append_has rfl (.tmp 5) (.tmp 6) rfl w.heap.size (.slice (some ⟨w.heap.size, 0, none⟩) 0 0) 0 [] rfl (own_new w _ (Nat.le_refl _)) (by simp) ao bs.length cap rfl bs rfl HN.out (HH.out.kept ((Kept.refl (fun _ => True) w).alloc _) (fun _ _ => trivial)) (by omega) ?_; intro a1 c1 w1 ho1 hg1 hl1; simp only [Nat.zero_add, List.nil_append] at ho1 hl1)
    | (at_builtin; refine wpList_append_has rfl (.tmp 7) (.tmp 19) rfl w.heap.size (.slice a1 bs.length c1) bs.length (cells bs) rfl (ho1.alloc _) (by have := hg1.size; simp at this ⊢; omega) _ 4 4 rfl [byteAt (u64 n) 3, byteAt (u64 n) 2, byteAt (u64 n) 1, byteAt (u64 n) 0] rfl (by simp) (has_row (heap_alloc_new w1 _)) (by omega) ?_; intro a2 c2 w2 ho2 hg2 hl2))
  go_ret
  refine ⟨_, rfl, ?_, ?_⟩
  · rw [cells_append]
    simpa [enc, List.length_append] using ho2
  · exact fresh_two hg1 hg2 hl1

set_option maxHeartbeats 400000 in
theorem rtext_any {w : World} {v : Value} {bs : List UInt8} (s : ByteArray) (h : Sl w v bs) (hb : bs.length + 4 + s.size ≤ 140737488355328) :
    Calls Try.prog 42 #[v, .string s] w fun e w' => ∃ r, e = .returned r ∧ w'.ownsRow w.heap.size 5 1 r (bs ++ enc (u64 s.size) 4 ++ s.data.toList).length (cells (bs ++ enc (u64 s.size) 4 ++ s.data.toList)) ∧ Kept (fun _ => True) w w' := by
  have c := rfour_any s.size h (by omega)
  have HL : Hid ((bs ++ enc (u64 s.size) 4).length + s.size ≤ 140737488355328) := by
    show _ ≤ _
    simp [enc_length]; omega
  generalize bs ++ enc (u64 s.size) 4 = cur at *
  go_enter Try.func42, Try.ntmps42
  go_wp2_with (first
    | (go_at_call 41; refine Calls.mono c ?_; rintro e w1 ⟨r, rfl, h1, h2⟩; obtain ⟨ao, cap, rfl⟩ := own_shape h1)
    | (at_builtin; refine wpList_append_str rfl _ _ rfl (.slice ao cur.length cap) cur.length (cells cur) rfl (h1.mono (Nat.zero_le _)) s rfl HL.out ?_; intro a2 c2 w2 ho hgr hat))
  go_ret
  refine ⟨_, rfl, ?_, ?_⟩
  · rw [cells_append, List.length_append]
    exact own_up ho h1 h2.size hat
  · exact h2.grown hgr (fun k hk e => by have := (h1.lt k e).1; omega)

end Go.Proofs.Ytflleblcliobdaa

namespace Go.Proofs.Ytflleblcliobdaa
open Go.RowKit

/-- The document's Reader in block B over the slice vb of the bytes bs, in the state s. -/
structure Rf (w : World) (B : Nat) (vb : Value) (bs : List UInt8) (s : RS) : Prop where
  self : ∃ at_ why wh : Int, w.heap[B]? = some (.cells #[vb, .int .i64 at_, .bool (decide (s.why ≠ 0)), .int .i64 why, .int .i64 wh] 76 (0, 0)) ∧ (s.why = 0 → at_ = s.pos) ∧ (s.why ≠ 0 → why = s.why ∧ wh = s.pos)
  pos : s.pos ≤ bs.length
  big : (bs.length : Int) ≤ 140737488355328

theorem Rf.lt {w : World} {B : Nat} {vb : Value} {bs : List UInt8} {s : RS} (h : Rf w B vb bs s) : B < w.heap.size := by
  obtain ⟨_, _, _, h, _⟩ := h.self; exact lt_of_block h
theorem Rf.kept {p : Nat → Prop} {w w' : World} {B : Nat} {vb : Value} {bs : List UInt8} {s : RS} (h : Rf w B vb bs s) (hk : Kept p w w') (hB : p B) : Rf w' B vb bs s := by
  have hl := h.lt
  obtain ⟨a, y, z, h1, h2⟩ := h.self
  exact ⟨⟨a, y, z, (hk.block B hl hB).trans h1, h2⟩, h.pos, h.big⟩

theorem five_cell {w : World} {b : Nat} {x0 x1 x2 x3 x4 : Value} {t : TypeId} (h : w.heap[b]? = some (.cells #[x0, x1, x2, x3, x4] t (0, 0))) :
    w.cell? ⟨b, 0, none⟩ = some x0 ∧ w.cell? ⟨b, 1, none⟩ = some x1 ∧ w.cell? ⟨b, 2, none⟩ = some x2 ∧ w.cell? ⟨b, 3, none⟩ = some x3 ∧ w.cell? ⟨b, 4, none⟩ = some x4 ∧ (∀ k, w.frozen? ⟨b, k, none⟩ = false) := by
  refine ⟨by simp [World.cell?, h], by simp [World.cell?, h], by simp [World.cell?, h], by simp [World.cell?, h], by simp [World.cell?, h], fun k => by simp [World.frozen?, h]⟩
theorem five_set1 {w : World} {b : Nat} {x0 x1 x2 x3 x4 : Value} {t : TypeId} (h : w.heap[b]? = some (.cells #[x0, x1, x2, x3, x4] t (0, 0))) (u : Value) : (w.setCell ⟨b, 1, none⟩ u).heap[b]? = some (.cells #[x0, u, x2, x3, x4] t (0, 0)) := by
  have := heap_setCell_same w b 1 _ t u h; simpa using this
theorem five_set2 {w : World} {b : Nat} {x0 x1 x2 x3 x4 : Value} {t : TypeId} (h : w.heap[b]? = some (.cells #[x0, x1, x2, x3, x4] t (0, 0))) (u : Value) : (w.setCell ⟨b, 2, none⟩ u).heap[b]? = some (.cells #[x0, x1, u, x3, x4] t (0, 0)) := by
  have := heap_setCell_same w b 2 _ t u h; simpa using this
theorem five_set3 {w : World} {b : Nat} {x0 x1 x2 x3 x4 : Value} {t : TypeId} (h : w.heap[b]? = some (.cells #[x0, x1, x2, x3, x4] t (0, 0))) (u : Value) : (w.setCell ⟨b, 3, none⟩ u).heap[b]? = some (.cells #[x0, x1, x2, u, x4] t (0, 0)) := by
  have := heap_setCell_same w b 3 _ t u h; simpa using this
theorem five_set4 {w : World} {b : Nat} {x0 x1 x2 x3 x4 : Value} {t : TypeId} (h : w.heap[b]? = some (.cells #[x0, x1, x2, x3, x4] t (0, 0))) (u : Value) : (w.setCell ⟨b, 4, none⟩ u).heap[b]? = some (.cells #[x0, x1, x2, x3, u] t (0, 0)) := by
  have := heap_setCell_same w b 4 _ t u h; simpa using this

set_option maxHeartbeats 400000 in
theorem frefuse_yes {w : World} {B : Nat} {vb : Value} {bs : List UInt8} {s : RS} (why : Int) (p : Nat) (h : Rf w B vb bs s) (hs : s.why = 0) (hw : why ≠ 0) (hp : p ≤ bs.length) :
    Calls Try.prog 58 #[.pointer (some ⟨B, 0, none⟩), .int .i64 why, .int .i64 p] w fun e w' => e = .returned (.tuple #[]) ∧ Rf w' B vb bs ⟨p, why⟩ ∧ Kept (· ≠ B) w w' := by
  obtain ⟨⟨a, y, z, hh, h1, h2⟩, hpos, hbig⟩ := h
  have e0 : decide (s.why ≠ 0) = false := by simp [hs]
  rw [e0] at hh
  obtain ⟨c0, c1, c2, c3, c4, hf⟩ := five_cell hh
  have g1 := five_set2 hh (.bool true)
  obtain ⟨_, _, _, d3, _, _⟩ := five_cell g1
  have g2 := five_set3 g1 (.int .i64 why)
  obtain ⟨_, _, _, _, d4, _⟩ := five_cell g2
  have g3 := five_set4 g2 (.int .i64 (p : Int))
  have HW : Hid (why ≠ 0) := hw
  have G3 := g3
  clear h1 h2 hs e0 hw g1 g2 g3
  go_enter Try.func58, Try.ntmps58
  go_wp2
  go_end0
  refine ⟨rfl, ⟨⟨a, why, p, ?_, fun h => absurd h HW.out, fun _ => ⟨rfl, rfl⟩⟩, hp, hbig⟩, (((Kept.refl _ _).setCell (by simp) _).setCell (by simp) _).setCell (by simp) _⟩
  have e1 : decide ((⟨p, why⟩ : RS).why ≠ 0) = true := by simpa using HW.out
  rw [e1]
  exact G3

set_option maxHeartbeats 400000 in
theorem frefuse_no {w : World} {B : Nat} {vb : Value} {bs : List UInt8} {s : RS} (why p : Int) (h : Rf w B vb bs s) (hs : s.why ≠ 0) :
    Calls Try.prog 58 #[.pointer (some ⟨B, 0, none⟩), .int .i64 why, .int .i64 p] w fun e w' => e = .returned (.tuple #[]) ∧ w' = w := by
  obtain ⟨⟨a, y, z, hh, h1, h2⟩, hpos, hbig⟩ := h
  have e0 : decide (s.why ≠ 0) = true := by simpa using hs
  rw [e0] at hh
  obtain ⟨c0, c1, c2, c3, c4, hf⟩ := five_cell hh
  clear h1 h2 hs e0
  go_enter Try.func58, Try.ntmps58
  go_wp2
  go_end0
  exact ⟨rfl, rfl⟩

set_option maxHeartbeats 400000 in
theorem fend_any {w : World} {B : Nat} {ao : Option Addr} {cap : Nat} {bs : List UInt8} {s : RS} (h : Rf w B (.slice ao bs.length cap) bs s) :
    Calls Try.prog 47 #[.pointer (some ⟨B, 0, none⟩)] w fun e w' => e = .returned (.tuple #[.int .i64 (s.end_ bs).1, .int .i64 (s.end_ bs).2]) ∧ ∃ n, w' = w.drewN n := by
  obtain ⟨⟨a, y, z, hh, h1, h2⟩, hpos, hbig⟩ := h
  by_cases hs : s.why = 0
  · have e0 : decide (s.why ≠ 0) = false := by simp [hs]
    rw [e0] at hh
    obtain ⟨c0, c1, c2, c3, c4, hf⟩ := five_cell hh
    have ha := h1 hs
    subst ha
    have HS : Hid (s.why = 0) := hs
    clear h1 h2 hs e0
    by_cases hl : s.pos < bs.length
    · have hl' : (s.pos : Int) < (bs.length : Int) := by omega
      have HL : Hid (s.pos < bs.length) := hl
      clear hl
      go_enter Try.func47, Try.ntmps47
      go_wp2
      go_quiet (fail)
      go_wp2
      go_quiet (fail)
      go_wp2
      go_ret2
      exact ⟨by simp [RS.end_, HS.out, HL.out], _, drew_two _ _ _⟩
    · have hl' : ¬ ((s.pos : Int) < (bs.length : Int)) := by omega
      have HL : Hid (¬ s.pos < bs.length) := hl
      clear hl
      go_enter Try.func47, Try.ntmps47
      go_wp2
      go_quiet (fail)
      go_wp2
      go_ret2
      exact ⟨by simp [RS.end_, HS.out, HL.out], _, rfl⟩
  · have e0 : decide (s.why ≠ 0) = true := by simpa using hs
    rw [e0] at hh
    obtain ⟨rfl, rfl⟩ := h2 hs
    obtain ⟨c0, c1, c2, c3, c4, hf⟩ := five_cell hh
    have HS : Hid (s.why ≠ 0) := hs
    clear h1 h2 hs e0
    go_enter Try.func47, Try.ntmps47
    go_wp2
    go_quiet (fail)
    go_wp2
    go_ret2
    exact ⟨by simp [RS.end_, HS.out], _, rfl⟩

end Go.Proofs.Ytflleblcliobdaa
