/-
  The document's own writers (conclaveref1): appends to slices of bytes that were made here.
-/
import Derived.Test.YtbooeabmpdpgpaaXWr1
import Derived.Test.YtbooeabmpdpgpaaXRd1
import Derived.Test.YtbooeabmpdpgpaaPlain
import Derived.Test.YtbooeabmpdpgpaaZ2
import Derived.Maps.AppendAt
import Derived.Laws.AppendOwnNone
import Derived.Deep.Onto
namespace Go.Proofs.Ytbooeabmpdpgpaa
open Go.RowKit

theorem byte0 (n : Int) : IntKind.u8.wrap n = ((byteAt (u64 n) 0).toNat : Int) := by
  rw [byteAt_toNat]
  simp [u64, IntKind.wrap, IntKind.bits, IntKind.signed]; omega
theorem byte1 (n : Int) : IntKind.u8.wrap (n / 256) = ((byteAt (u64 n) 1).toNat : Int) := by
  rw [byteAt_toNat]
  simp [u64, IntKind.wrap, IntKind.bits, IntKind.signed]; omega
theorem byte2 (n : Int) : IntKind.u8.wrap (n / 65536) = ((byteAt (u64 n) 2).toNat : Int) := by
  rw [byteAt_toNat]
  simp [u64, IntKind.wrap, IntKind.bits, IntKind.signed]; omega
theorem byte3 (n : Int) : IntKind.u8.wrap (n / 16777216) = ((byteAt (u64 n) 3).toNat : Int) := by
  rw [byteAt_toNat]
  simp [u64, IntKind.wrap, IntKind.bits, IntKind.signed]; omega

/-- A row that lies where a fresh one lay, or in a new block, is fresh. -/
theorem own_up {w1 w2 : World} {b n n1 : Nat} {v v1 : Value} {xs xs1 : List Value} (h : w2.ownsRow 0 5 1 v n xs) (h1 : w1.ownsRow b 5 1 v1 n1 xs1) (hB : b ≤ w1.heap.size) (hat : v1.ownBlock = v.ownBlock ∨ ∃ g, v.ownBlock = some g ∧ w1.heap.size ≤ g) : w2.ownsRow b 5 1 v n xs := by
  refine ⟨h.1, ?_⟩
  rcases h.2 with h0 | ⟨g, cap, cur, rfl, _, rest⟩
  · exact .inl h0
  · refine .inr ⟨g, cap, cur, rfl, ?_, rest⟩
    rcases hat with e | ⟨g', e, hg'⟩
    · exact (h1.lt g e).1
    · have : g = g' := by simpa [Value.ownBlock] using e
      omega

set_option maxHeartbeats 400000 in
theorem rfour_any {w : World} {v : Value} {bs : List UInt8} (n : Int) (h : Sl w v bs) (hb : bs.length + 4 ≤ 140737488355328) :
    Calls Try.prog 55 #[v, .int .i64 n] w fun e w' => ∃ r, e = .returned r ∧ w'.ownsRow w.heap.size 5 1 r (bs ++ enc (u64 n) 4).length (cells (bs ++ enc (u64 n) 4)) ∧ Kept (fun _ => True) w w' := by
  obtain ⟨ao, cap, rfl, hn, hh⟩ := h
  have HN : Hid (ao = none → cap = 0) := hn
  have HH : Hid (Has w ao bs) := hh
  have HW0 := byte0 n
  have HW1 := byte1 n
  have HW2 := byte2 n
  have HW3 := byte3 n
  clear hn hh
  go_enter Try.func55, Try.ntmps55
  go_wp2_with (first
    | (at_builtin; refine wpList_append_has rfl (.tmp 5) (.tmp 6) rfl w.heap.size (.slice (some ⟨w.heap.size, 0, none⟩) 0 0) 0 [] rfl (own_new w _ (Nat.le_refl _)) (by simp) ao bs.length cap rfl bs rfl HN.out (HH.out.kept ((Kept.refl (fun _ => True) w).alloc _) (fun _ _ => trivial)) (by omega) ?_; intro a1 c1 w1 ho1 hg1 hl1; simp only [Nat.zero_add, List.nil_append] at ho1 hl1)
    | (at_builtin; refine wpList_append_has rfl (.tmp 7) (.tmp 19) rfl w.heap.size (.slice a1 bs.length c1) bs.length (cells bs) rfl (ho1.alloc _) (by have := hg1.size; simp at this ⊢; omega) _ 4 4 rfl [byteAt (u64 n) 3, byteAt (u64 n) 2, byteAt (u64 n) 1, byteAt (u64 n) 0] rfl (by simp) (has_row (heap_alloc_new w1 _)) (by omega) ?_; intro a2 c2 w2 ho2 hg2 hl2))
  go_ret
  refine ⟨_, rfl, ?_, ?_⟩
  · rw [cells_append]
    simpa [enc, List.length_append] using ho2
  · exact fresh_two hg1 hg2 hl1

set_option maxHeartbeats 400000 in
theorem rtext_any {w : World} {v : Value} {bs : List UInt8} (s : ByteArray) (h : Sl w v bs) (hb : bs.length + 4 + s.size ≤ 140737488355328) :
    Calls Try.prog 50 #[v, .string s] w fun e w' => ∃ r, e = .returned r ∧ w'.ownsRow w.heap.size 5 1 r (bs ++ enc (u64 s.size) 4 ++ s.data.toList).length (cells (bs ++ enc (u64 s.size) 4 ++ s.data.toList)) ∧ Kept (fun _ => True) w w' := by
  have c := rfour_any s.size h (by omega)
  have HL : Hid ((bs ++ enc (u64 s.size) 4).length + s.size ≤ 140737488355328) := by
    show _ ≤ _
    simp [enc_length]; omega
  generalize bs ++ enc (u64 s.size) 4 = cur at *
  go_enter Try.func50, Try.ntmps50
  go_wp2_with (first
    | (go_at_call 55; refine Calls.mono c ?_; rintro e w1 ⟨r, rfl, h1, h2⟩; obtain ⟨ao, cap, rfl⟩ := own_shape h1)
    | (at_builtin; refine wpList_append_str rfl _ _ rfl (.slice ao cur.length cap) cur.length (cells cur) rfl (h1.mono (Nat.zero_le _)) s rfl HL.out ?_; intro a2 c2 w2 ho hgr hat))
  go_ret
  refine ⟨_, rfl, ?_, ?_⟩
  · rw [cells_append, List.length_append]
    exact own_up ho h1 h2.size hat
  · exact h2.grown hgr (fun k hk e => by have := (h1.lt k e).1; omega)

end Go.Proofs.Ytbooeabmpdpgpaa
