/-
  Move: the program's.
-/
import Derived.Test.YtebpkhemkdgbjaaM3
namespace Go.Proofs.Ytebpkhemkdgbjaa
open Go.RowKit

set_option maxRecDepth 100000 in
set_option maxHeartbeats 1000000 in
theorem move_bad {w : World} {ao : Option Addr} {cap : Nat} {ep : Int} {ps : List Pa} (h : Pv w ao ps) (hl : ps.length ≤ 140737488355328) (lo hi g : Int) (hbad : rgt ep ps = false ∨ lo < 0 ∨ hi ≤ lo ∨ 256 < hi ∨ isG g = false) :
    Calls Try.prog 24 #[.agg #[.int .i64 ep, .slice ao ps.length cap], .int .i64 lo, .int .i64 hi, .int .i64 g] w fun e w' => e = .returned (.tuple #[.agg #[.int .i64 0, .slice none 0 0], .int .i64 1]) ∧ Kept (fun _ => True) w w' := by
  have k1 : Kept (fun _ => True) w ((w.alloc (.cells #[.int .i64 ep, .slice ao ps.length cap] 24)).alloc (.cells #[.int .i64 0, .slice none 0 0] 24)) := ((Kept.refl _ _).alloc _).alloc _
  have c := right_any (cap := cap) (ep := ep) (h.all k1) hl
  have cg := fun W => isGroup_any (w := W) g
  have hX := heap_alloc_new (w.alloc (.cells #[.int .i64 ep, .slice ao ps.length cap] 24)) (.cells #[.int .i64 0, .slice none 0 0] 24)
  have lX : w.heap.size ≤ (w.alloc (.cells #[.int .i64 ep, .slice ao ps.length cap] 24)).heap.size := by simp
  have e1 : (w.alloc (.cells #[.int .i64 ep, .slice ao ps.length cap] 24)).heap.size = w.heap.size + 1 := by simp
  rw [e1] at hX lX
  have HX : Hid _ := hX
  have K1 : Hid _ := k1
  have HL : Hid _ := lX
  clear h hX k1 lX e1
  have fin : ∀ w2, Kept (fun _ => True) ((w.alloc (.cells #[.int .i64 ep, .slice ao ps.length cap] 24)).alloc (.cells #[.int .i64 0, .slice none 0 0] 24)) w2 → w2.heap[w.heap.size + 1]? = some (.cells #[.int .i64 0, .slice none 0 0] 24 (0, 0)) ∧ w2.cell? ⟨w.heap.size + 1, 0, none⟩ = some (.int .i64 0) ∧ w2.cell? ⟨w.heap.size + 1, 1, none⟩ = some (.slice none 0 0) ∧ w2.frozen? ⟨w.heap.size + 1, 0, none⟩ = false ∧ w2.frozen? ⟨w.heap.size + 1, 1, none⟩ = false := fun w2 k => by
    have hb := (k.block _ (lt_of_block HX.out) trivial).trans HX.out
    exact ⟨hb, (mtwo_cell hb).1, (mtwo_cell hb).2, by simp [World.frozen?, hb], by simp [World.frozen?, hb]⟩
  have FIN : Hid _ := fin
  clear fin
  by_cases q0 : rgt ep ps = true
  · rw [q0] at c
    by_cases q1 : lo < 0
    · go_enter Try.func24, Try.ntmps24
      go_wp2_with (go_at_call 35; refine Calls.mono c ?_; rintro e w2 ⟨rfl, k2⟩; obtain ⟨hb, c0, c1, f0, f1⟩ := FIN.out w2 k2; have HB : Hid _ := hb; have K2 : Hid _ := k2; clear hb k2)
      exact bodyPost_ret (results_cm rfl _ _ rfl (load_map (mset_at (mset_at HB.out 0 _) 1 _))) rfl ⟨rfl, ((K1.out.trans K2.out).setFresh HL.out _).setFresh HL.out _⟩
    by_cases q2 : hi ≤ lo
    · go_enter Try.func24, Try.ntmps24
      go_wp2_with (go_at_call 35; refine Calls.mono c ?_; rintro e w2 ⟨rfl, k2⟩; obtain ⟨hb, c0, c1, f0, f1⟩ := FIN.out w2 k2; have HB : Hid _ := hb; have K2 : Hid _ := k2; clear hb k2)
      exact bodyPost_ret (results_cm rfl _ _ rfl (load_map (mset_at (mset_at HB.out 0 _) 1 _))) rfl ⟨rfl, ((K1.out.trans K2.out).setFresh HL.out _).setFresh HL.out _⟩
    by_cases q3 : 256 < hi
    · go_enter Try.func24, Try.ntmps24
      go_wp2_with (go_at_call 35; refine Calls.mono c ?_; rintro e w2 ⟨rfl, k2⟩; obtain ⟨hb, c0, c1, f0, f1⟩ := FIN.out w2 k2; have HB : Hid _ := hb; have K2 : Hid _ := k2; clear hb k2)
      exact bodyPost_ret (results_cm rfl _ _ rfl (load_map (mset_at (mset_at HB.out 0 _) 1 _))) rfl ⟨rfl, ((K1.out.trans K2.out).setFresh HL.out _).setFresh HL.out _⟩
    have q4 : isG g = false := by
      rcases hbad with h | h | h | h | h
      · rw [q0] at h; cases h
      · exact absurd h q1
      · exact absurd h q2
      · exact absurd h q3
      · exact h
    rw [q4] at cg
    clear hbad q4
    go_enter Try.func24, Try.ntmps24
    go_wp2_with (first | (go_at_call 35; refine Calls.mono c ?_; rintro e w2 ⟨rfl, k2⟩; obtain ⟨hb, c0, c1, f0, f1⟩ := FIN.out w2 k2; have HB : Hid _ := hb; have K2 : Hid _ := k2; clear hb k2) | (go_at_call 53; refine Calls.mono (cg _) ?_; rintro e _ ⟨rfl, rfl⟩))
    exact bodyPost_ret (results_cm rfl _ _ rfl (load_map (mset_at (mset_at HB.out 0 _) 1 _))) rfl ⟨rfl, ((K1.out.trans K2.out).setFresh HL.out _).setFresh HL.out _⟩
  · have q0' : rgt ep ps = false := by simpa using q0
    rw [q0'] at c
    clear hbad q0 q0'
    go_enter Try.func24, Try.ntmps24
    go_wp2_with (go_at_call 35; refine Calls.mono c ?_; rintro e w2 ⟨rfl, k2⟩; obtain ⟨hb, c0, c1, f0, f1⟩ := FIN.out w2 k2; have HB : Hid _ := hb; have K2 : Hid _ := k2; clear hb k2)
    exact bodyPost_ret (results_cm rfl _ _ rfl (load_map (mset_at (mset_at HB.out 0 _) 1 _))) rfl ⟨rfl, ((K1.out.trans K2.out).setFresh HL.out _).setFresh HL.out _⟩

end Go.Proofs.Ytebpkhemkdgbjaa
