/-
  The document's own Eight (conclaveref1).
-/
import Derived.Test.YtlkkmggopoknaaaRef1
namespace Go.Proofs.Ytlkkmggopoknaaa
open Go.RowKit

theorem byte_shr (n : Int) (p : Nat) (hp : p ≤ 7) : IntKind.u8.wrap (n / 2 ^ (8 * p)) = ((byteAt (u64 n) p).toNat : Int) := by
  rw [byteAt_toNat]
  match p, hp with
  | 0, _ => simp [u64, IntKind.wrap, IntKind.bits, IntKind.signed]; omega
  | 1, _ => simp [u64, IntKind.wrap, IntKind.bits, IntKind.signed]; omega
  | 2, _ => simp [u64, IntKind.wrap, IntKind.bits, IntKind.signed]; omega
  | 3, _ => simp [u64, IntKind.wrap, IntKind.bits, IntKind.signed]; omega
  | 4, _ => simp [u64, IntKind.wrap, IntKind.bits, IntKind.signed]; omega
  | 5, _ => simp [u64, IntKind.wrap, IntKind.bits, IntKind.signed]; omega
  | 6, _ => simp [u64, IntKind.wrap, IntKind.bits, IntKind.signed]; omega
  | 7, _ => simp [u64, IntKind.wrap, IntKind.bits, IntKind.signed]; omega

set_option maxRecDepth 100000 in
set_option maxHeartbeats 1000000 in
theorem reight_any {w : World} {v : Value} {bs : List UInt8} (n : Int) (h : Sl w v bs) (hb : bs.length + 8 ≤ 140737488355328) :
    Calls Try.prog 42 #[v, .int .i64 n] w fun e w' => ∃ r, e = .returned r ∧ w'.ownsRow w.heap.size 5 1 r (bs ++ enc (u64 n) 8).length (cells (bs ++ enc (u64 n) 8)) ∧ Kept (fun _ => True) w w' := by
  obtain ⟨ao, cap, rfl, hn, hh⟩ := h
  have HN : Hid (ao = none → cap = 0) := hn
  have HH : Hid (Has w ao bs) := hh
  clear hn hh
  go_enter Try.func42, Try.ntmps42
  go_wp2_with (at_builtin; refine wpList_append_has rfl (.tmp 7) (.tmp 8) rfl w.heap.size (.slice (some ⟨w.heap.size, 0, none⟩) 0 0) 0 [] rfl (own_new w _ (Nat.le_refl _)) (by simp) ao bs.length cap rfl bs rfl HN.out (HH.out.kept ((Kept.refl (fun _ => True) w).alloc _) (fun _ _ => trivial)) (by omega) ?_; intro a1 c1 w1 ho1 hg1 hl1; simp only [Nat.zero_add, List.nil_append] at ho1 hl1)
  have k1 : Kept (fun _ => True) w w1 := fresh_one hg1
  go_loopw [5, 6] (fun r t wr => ∃ (m j : Nat), m + j = 8 ∧ t = .int .i64 ((m : Int) - 1) ∧ wr.ownsRow w.heap.size 5 1 r (bs ++ (enc (u64 n) 8).take j).length (cells (bs ++ (enc (u64 n) 8).take j)) ∧ Kept (fun _ => True) w wr)
    (fun _ t _ => (intOf t + 1).toNat)
  case atStart => exact ⟨8, 0, by omega, rfl, by simpa using ho1, k1⟩
  case round =>
    obtain ⟨m, j, hmj, rfl, hw, hk⟩ := hrel
    obtain ⟨a2, c2, rfl⟩ := own_shape hw
    by_cases hm : 1 ≤ m
    · obtain ⟨p, rfl⟩ : ∃ p, m = p + 1 := ⟨m - 1, by omega⟩
      have hp8 : (p : Int) ≤ 7 := by omega
      have hp0 : (0 : Int) ≤ (p : Int) := by omega
      have HT : Hid (bs ++ (enc (u64 n) 8).take (j + 1) = (bs ++ (enc (u64 n) 8).take j) ++ [byteAt (u64 n) p]) := by
        show _ = _
        rw [enc_take (u64 n) 8 j p hmj, List.append_assoc]
      have hle : (bs ++ (enc (u64 n) 8).take j).length + 1 ≤ 140737488355328 := by simp [enc_length]; omega
      have hZ := byte_shr n p (by omega)
      generalize bs ++ (enc (u64 n) 8).take j = cur at *
      have HK : Hid (p + (j + 1) = 8) := by show _ = _; omega
      rw [show (((p + 1 : Nat) : Int) - 1) = (p : Int) from by omega]
      go_wp2_with (at_builtin; (refine wpList_append_has rfl (.tmp 14) (.tmp 21) rfl w.heap.size (.slice a2 cur.length c2) cur.length (cells cur) rfl (hw.alloc _) (by have := hk.size; simp; omega) _ 1 1 rfl [byteAt (u64 n) p] rfl (by simp) (has_row (heap_alloc_new wr _)) (by omega) ?_; intro a3 c3 w3 ho3 hg3 hl3))
      all_goals
        refine ⟨⟨p, j + 1, HK.out, rfl, ?_, (hk.alloc _).grown hg3 (fun k hk' e => by have := (hw.lt k e).1; omega)⟩, by simp [intOf] <;> omega⟩
        rw [HT.out, cells_append, List.length_append]
        exact ho3
    · have hm0 : m = 0 := by omega
      subst hm0
      go_wp2
      go_ret
      have : (enc (u64 n) 8).take j = enc (u64 n) 8 := List.take_of_length_le (by rw [enc_length]; omega)
      refine ⟨_, rfl, ?_, hk⟩
      show wr.ownsRow w.heap.size 5 1 (.slice a2 (bs ++ (enc (u64 n) 8).take j).length c2) _ _
      rw [this] at hw ⊢
      exact hw

end Go.Proofs.Ytlkkmggopoknaaa
