/-
  The program's Hash and the document's: the lowest bits of the sum of a text's bytes; 'known'.
-/
import Derived.Test.YtibghfdafdbgkaaSHex
import Derived.Test.YtibghfdafdbgkaaRCrc
import Derived.Lib.ConvBytes
import Derived.Lib.SlBytesConst
namespace Go.Proofs.Ytibghfdafdbgkaa
open Go.RowKit

/-- []byte(s) of a text. -/
theorem conv_str (w : World) (bs : List UInt8) : ∃ cap w1, (convert 9 24 (.string ⟨bs.toArray⟩)).run Try.prog w = .ok (.slice (some ⟨w.heap.size, 0, none⟩) bs.length cap) w1 ∧ Has w1 (some ⟨w.heap.size, 0, none⟩) bs ∧ Kept (fun _ => True) w w1 := by
  refine ⟨_, _, Lib.run_convert_string_bytes (P := Try.prog) w 9 24 5 ⟨bs.toArray⟩ Try.underlying9 Try.underlying24 Try.underlying5, ?_, ?_⟩
  · intro _
    refine ⟨_, rfl, fun j hj => ?_⟩
    rw [WideShapes.add_plain, Nat.zero_add, Lib.bytesWorld_cell w 5 ⟨bs.toArray⟩ j hj]
    simp [List.getD, List.getElem?_eq_getElem hj]
  · refine ⟨rfl, rfl, rfl, ?_, fun k hk _ => Lib.bytesWorld_at_old w _ _ k hk⟩
    rw [Lib.bytesWorld_size]
    omega

theorem low8_bits (s : Nat) (h : s < 4294967296) : bits BinOp.and .u32 (s : Int) 255 = ((s % 256 : Nat) : Int) := by
  have := and_bits s 255 h (by decide)
  rw [show (255 : Nat) = 2 ^ 8 - 1 from rfl, Nat.and_two_pow_sub_one_eq_mod] at this
  exact this

def hashOf (bs : List UInt8) : Nat := crcOf bs % 256
theorem hashOf_lt (bs : List UInt8) : hashOf bs < 256 := Nat.mod_lt _ (by decide)

set_option maxHeartbeats 400000 in
theorem hash_any {w : World} (bs : List UInt8) (hl : (bs.length : Int) ≤ 140737488355328) :
    Calls Try.prog 11 #[.string ⟨bs.toArray⟩] w fun e w' => e = .returned (.int .i64 (hashOf bs : Nat)) ∧ Kept (fun _ => True) w w' := by
  obtain ⟨cap, w1, hc, hh, hk⟩ := conv_str w bs
  have c := crc_any (cap := cap) hh hl
  have l := low8_bits (crcOf bs) (crcOf_lt bs)
  have hlt := hashOf_lt bs
  rw [show crcOf bs % 256 = hashOf bs from rfl] at l
  have hw : IntKind.i64.wrap (hashOf bs : Int) = (hashOf bs : Int) := by simp [IntKind.wrap, IntKind.bits, IntKind.signed]; omega
  generalize hashOf bs = h at *
  generalize crcOf bs = s at *
  clear hh
  go_enter Try.func11, Try.ntmps11
  go_wp2_with (go_at_call 10; refine Calls.mono c ?_; rintro e _ ⟨rfl, rfl⟩)
  go_ret
  exact ⟨rfl, hk⟩

set_option maxHeartbeats 400000 in
theorem rhash_any {w : World} (bs : List UInt8) (hl : (bs.length : Int) ≤ 140737488355328) :
    Calls Try.prog 17 #[.string ⟨bs.toArray⟩] w fun e w' => e = .returned (.int .i64 (hashOf bs : Nat)) ∧ Kept (fun _ => True) w w' := by
  obtain ⟨cap, w1, hc, hh, hk⟩ := conv_str w bs
  have c := rcrc_any (cap := cap) hh hl
  have l := low8_bits (crcOf bs) (crcOf_lt bs)
  have hlt := hashOf_lt bs
  rw [show crcOf bs % 256 = hashOf bs from rfl] at l
  have hw : IntKind.i64.wrap (hashOf bs : Int) = (hashOf bs : Int) := by simp [IntKind.wrap, IntKind.bits, IntKind.signed]; omega
  generalize hashOf bs = h at *
  generalize crcOf bs = s at *
  clear hh
  go_enter Try.func17, Try.ntmps17
  go_wp2_with (go_at_call 14; refine Calls.mono c ?_; rintro e _ ⟨rfl, rfl⟩)
  go_ret
  exact ⟨rfl, hk⟩

/-- []byte of a constant text: a row that was made just now gets its mark. -/
theorem conv_const (w : World) (bs : List UInt8) (n c : Nat) : (convert 24 24 (.slice (some ⟨w.heap.size, 0, none⟩) n c)).run Try.prog (w.alloc (.cells (cells bs).toArray 5)) = .ok (.slice (some ⟨w.heap.size, 0, none⟩) n c) (w.alloc (.cells (cells bs).toArray 5 ((cells bs).toArray.size, (cells bs).toArray.size + 1))) :=
  Lib.run_convert_bytes_const (P := Try.prog) w 24 5 (cells bs).toArray n c Try.underlying24 Try.underlying5
def kc : List UInt8 := [49, 50, 51, 52, 53, 54, 55, 56, 57]
theorem hex_known : hexOf [0, 175] = [48, 48, 97, 102] := by kernel_rfl

set_option maxRecDepth 100000 in
set_option maxHeartbeats 1000000 in
theorem known_any (w : World) : Calls Try.prog 12 #[] w fun e w' => e = .returned (.bool true) ∧ Kept (fun _ => True) w w' := by
  have cs : (convert 24 24 (.slice (some ⟨w.heap.size, 0, none⟩) 9 9)).run Try.prog (w.alloc (.cells #[.int .u8 49, .int .u8 50, .int .u8 51, .int .u8 52, .int .u8 53, .int .u8 54, .int .u8 55, .int .u8 56, .int .u8 57] 5)) = _ := conv_const w kc 9 9
  have h1 : Has (w.alloc (.cells (cells kc).toArray 5 ((cells kc).toArray.size, (cells kc).toArray.size + 1))) (some ⟨w.heap.size, 0, none⟩) kc := has_row (heap_alloc_new w _)
  have k1 : Kept (fun _ => True) w (w.alloc (.cells (cells kc).toArray 5 ((cells kc).toArray.size, (cells kc).toArray.size + 1))) := (Kept.refl _ _).alloc _
  generalize w.alloc (.cells (cells kc).toArray 5 ((cells kc).toArray.size, (cells kc).toArray.size + 1)) = w1 at *
  have c1 := crc_any (cap := 9) h1 (by decide)
  rw [show crcOf kc = 3421780262 from crc_run] at c1
  clear h1
  go_enter Try.func12, Try.ntmps12
  go_wp2_with fail
  refine Calls.mono c1 ?_
  rintro e w1 ⟨rfl, rfl⟩
  clear c1 cs
  have h2 : Has (w1.alloc (.cells #[.int .u8 0, .int .u8 175] 5)) (some ⟨w1.heap.size, 0, none⟩) [0, 175] := has_row (heap_alloc_new w1 _)
  have c2 := hex_any (cap := 2) h2 (by decide)
  rw [hex_known] at c2
  clear h2
  go_wp2_with fail
  refine Calls.mono c2 ?_
  rintro e w3 ⟨rfl, k3⟩
  clear c2
  go_wp2
  go_ret
  exact ⟨rfl, (k1.alloc _).trans k3⟩

end Go.Proofs.Ytibghfdafdbgkaa
