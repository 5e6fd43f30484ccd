/-
  The program's Hash and the document's: the lowest bits of the sum of a text's bytes; 'known'.
-/
import Derived.Test.YtebpkhemkdgbjaaSHex
import Derived.Test.YtebpkhemkdgbjaaRCrc
import Derived.Lib.ConvBytes
import Derived.Lib.SlBytesConst
namespace Go.Proofs.Ytebpkhemkdgbjaa
open Go.RowKit

/-- []byte(s) of a text. -/
theorem conv_str (w : World) (bs : List UInt8) : ∃ cap w1, (convert 9 42 (.string ⟨bs.toArray⟩)).run Try.prog w = .ok (.slice (some ⟨w.heap.size, 0, none⟩) bs.length cap) w1 ∧ Has w1 (some ⟨w.heap.size, 0, none⟩) bs ∧ Kept (fun _ => True) w w1 := by
  refine ⟨_, _, Lib.run_convert_string_bytes (P := Try.prog) w 9 42 5 ⟨bs.toArray⟩ Try.underlying9 Try.underlying42 Try.underlying5, ?_, ?_⟩
  · intro _
    refine ⟨_, rfl, fun j hj => ?_⟩
    rw [WideShapes.add_plain, Nat.zero_add, Lib.bytesWorld_cell w 5 ⟨bs.toArray⟩ j hj]
    simp [List.getD, List.getElem?_eq_getElem hj]
  · refine ⟨rfl, rfl, rfl, ?_, fun k hk _ => Lib.bytesWorld_at_old w _ _ k hk⟩
    rw [Lib.bytesWorld_size]
    omega

theorem low8_bits (s : Nat) (h : s < 4294967296) : bits BinOp.and .u32 (s : Int) 255 = ((s % 256 : Nat) : Int) := by
  have := and_bits s 255 h (by decide)
  rw [show (255 : Nat) = 2 ^ 8 - 1 from rfl, Nat.and_two_pow_sub_one_eq_mod] at this
  exact this

def hashOf (bs : List UInt8) : Nat := crcOf bs % 256
theorem hashOf_lt (bs : List UInt8) : hashOf bs < 256 := Nat.mod_lt _ (by decide)

set_option maxHeartbeats 400000 in
theorem hash_any {w : World} (bs : List UInt8) (hl : (bs.length : Int) ≤ 140737488355328) :
    Calls Try.prog 70 #[.string ⟨bs.toArray⟩] w fun e w' => e = .returned (.int .i64 (hashOf bs : Nat)) ∧ Kept (fun _ => True) w w' := by
  obtain ⟨cap, w1, hc, hh, hk⟩ := conv_str w bs
  have c := crc_any (cap := cap) hh hl
  have l := low8_bits (crcOf bs) (crcOf_lt bs)
  have hlt := hashOf_lt bs
  rw [show crcOf bs % 256 = hashOf bs from rfl] at l
  have hw : IntKind.i64.wrap (hashOf bs : Int) = (hashOf bs : Int) := by simp [IntKind.wrap, IntKind.bits, IntKind.signed]; omega
  generalize hashOf bs = h at *
  generalize crcOf bs = s at *
  clear hh
  go_enter Try.func70, Try.ntmps70
  go_wp2_with (go_at_call 74; refine Calls.mono c ?_; rintro e _ ⟨rfl, rfl⟩)
  go_ret
  exact ⟨rfl, hk⟩

set_option maxHeartbeats 400000 in
theorem rhash_any {w : World} (bs : List UInt8) (hl : (bs.length : Int) ≤ 140737488355328) :
    Calls Try.prog 73 #[.string ⟨bs.toArray⟩] w fun e w' => e = .returned (.int .i64 (hashOf bs : Nat)) ∧ Kept (fun _ => True) w w' := by
  obtain ⟨cap, w1, hc, hh, hk⟩ := conv_str w bs
  have c := rcrc_any (cap := cap) hh hl
  have l := low8_bits (crcOf bs) (crcOf_lt bs)
  have hlt := hashOf_lt bs
  rw [show crcOf bs % 256 = hashOf bs from rfl] at l
  have hw : IntKind.i64.wrap (hashOf bs : Int) = (hashOf bs : Int) := by simp [IntKind.wrap, IntKind.bits, IntKind.signed]; omega
  generalize hashOf bs = h at *
  generalize crcOf bs = s at *
  clear hh
  go_enter Try.func73, Try.ntmps73
  go_wp2_with (go_at_call 75; refine Calls.mono c ?_; rintro e _ ⟨rfl, rfl⟩)
  go_ret
  exact ⟨rfl, hk⟩

/-- []byte of a constant text: a row that was made just now gets its mark. -/
theorem conv_const (w : World) (bs : List UInt8) (n c : Nat) : (convert 42 42 (.slice (some ⟨w.heap.size, 0, none⟩) n c)).run Try.prog (w.alloc (.cells (cells bs).toArray 5)) = .ok (.slice (some ⟨w.heap.size, 0, none⟩) n c) (w.alloc (.cells (cells bs).toArray 5 ((cells bs).toArray.size, (cells bs).toArray.size + 1))) :=
  Lib.run_convert_bytes_const (P := Try.prog) w 42 5 (cells bs).toArray n c Try.underlying42 Try.underlying5
def kc : List UInt8 := [49, 50, 51, 52, 53, 54, 55, 56, 57]
theorem hex_known : hexOf [0, 175] = [48, 48, 97, 102] := by kernel_rfl

end Go.Proofs.Ytebpkhemkdgbjaa
