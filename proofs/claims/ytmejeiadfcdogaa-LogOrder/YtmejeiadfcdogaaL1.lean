/-
  New, knows, Base, Taken, Next, Get.
-/
import Derived.Test.YtmejeiadfcdogaaLMap
namespace Go.Proofs.Ytmejeiadfcdogaa
open Go.RowKit

set_option maxHeartbeats 400000 in
theorem new_any {w : World} :
    Calls Try.prog 8 #[] w fun e w' => ∃ L M, e = .returned (.pointer (some ⟨L, 0, none⟩)) ∧ Lm w' L M 0 ⟨0, 0, fun _ => none⟩ ∧ Kept (fun _ => True) w w' ∧ w.heap.size ≤ L ∧ w.heap.size ≤ M := by
  have hmm := @run_makeMap Try.prog
  go_enter Try.func8, Try.ntmps8
  go_wp2
  go_ret
  have k1 : Kept (fun _ => True) w (w.alloc (.map #[] 0)) := (Kept.refl _ _).alloc _
  refine ⟨w.heap.size + 1, _, rfl, ⟨⟨heap_alloc2_new _ _ _, (Mp.made w).kept ((Kept.refl (fun _ => True) _).alloc _) trivial⟩, ok_new⟩, k1.alloc _, by omega, Nat.le_refl _⟩

section
variable {w : World} {L M n b t : Nat} {f : Vals} {x : Lo}

set_option maxHeartbeats 400000 in
theorem knows_any (h : Lc w L M n b t f) {z : Int} (hz : Fit64 z) :
    Calls Try.prog 29 #[.pointer (some ⟨L, 0, none⟩), .int .i64 z] w fun e w' => e = .returned (.bool (f z).isSome) ∧ Kept (fun _ => True) w w' := by
  obtain ⟨c0, c1, c2, f0, f1, f2⟩ := lcell h.self
  have hl := h.mp.look hz
  have lt := h.lt
  generalize (f z).isSome = ok at *
  generalize (f z).getD [] = v at *
  clear h hz
  go_enter Try.func29, Try.ntmps29
  go_wp2
  go_ret
  exact ⟨rfl, (Kept.refl _ _).alloc _⟩

set_option maxHeartbeats 400000 in
theorem get_any (h : Lc w L M n b t f) {z : Int} (hz : Fit64 z) :
    Calls Try.prog 14 #[.pointer (some ⟨L, 0, none⟩), .int .i64 z] w fun e w' => e = .returned (.tuple #[.string ⟨((f z).getD []).toArray⟩, .bool (f z).isSome]) ∧ Kept (fun _ => True) w w' := by
  obtain ⟨c0, c1, c2, f0, f1, f2⟩ := lcell h.self
  have hl := h.mp.look hz
  have lt := h.lt
  generalize (f z).isSome = ok at *
  generalize (f z).getD [] = v at *
  clear h hz
  go_enter Try.func14, Try.ntmps14
  go_wp2
  go_ret2
  exact ⟨rfl, (Kept.refl _ _).alloc _⟩

theorem base_any (h : Lc w L M n b t f) :
    Calls Try.prog 18 #[.pointer (some ⟨L, 0, none⟩)] w fun e w' => e = .returned (.int .i64 (b : Nat)) ∧ w' = w := by
  obtain ⟨c0, c1, c2, f0, f1, f2⟩ := lcell h.self
  go_enter Try.func18, Try.ntmps18
  go_wp2
  go_ret
  exact ⟨rfl, rfl⟩
theorem taken_any (h : Lc w L M n b t f) :
    Calls Try.prog 19 #[.pointer (some ⟨L, 0, none⟩)] w fun e w' => e = .returned (.int .i64 (t : Nat)) ∧ w' = w := by
  obtain ⟨c0, c1, c2, f0, f1, f2⟩ := lcell h.self
  go_enter Try.func19, Try.ntmps19
  go_wp2
  go_ret
  exact ⟨rfl, rfl⟩

set_option maxRecDepth 100000 in
set_option maxHeartbeats 1000000 in
theorem next_any (h : Lm w L M n x) :
    Calls Try.prog 13 #[.pointer (some ⟨L, 0, none⟩)] w fun e w' => ∃ m : Nat, e = .returned (.int .i64 (m : Nat)) ∧ IsNext x.f x.taken m ∧ Kept (fun _ => True) w w' := by
  obtain ⟨c0, c1, c2, f0, f1, f2⟩ := lcell h.lc.self
  have H : Hid (Lm w L M n x) := h
  have HT : x.taken ≤ 512 := h.ok.most
  clear h
  go_enter Try.func13, Try.ntmps13
  go_wp2_with fail
  clear c0 c1 c2 f0 f1 f2
  go_loopw [3] (fun u wr => ∃ k : Nat, u = .int .i64 (k : Nat) ∧ x.taken ≤ k ∧ k ≤ 512 ∧ (∀ z : Int, x.taken ≤ z → z < k → x.f z ≠ none) ∧ Kept (fun _ => True) w wr) (fun u _ => 512 - (intOf u).toNat)
  case atStart => exact ⟨x.taken, rfl, Nat.le_refl _, HT, fun z a b => by omega, Kept.refl _ _⟩
  case round =>
    obtain ⟨k, rfl, h1, h2, h3, hk⟩ := hrel
    have c := knows_any (H.out.all hk).lc (z := (k : Int)) ⟨by omega, by omega⟩
    have H3 : Hid (∀ z : Int, x.taken ≤ z → z < k → x.f z ≠ none) := h3
    clear h3
    cases hf : x.f (k : Int) with
    | none =>
      rw [hf] at c
      simp only [Option.isSome_none] at c
      have HF : Hid (x.f (k : Int) = none) := hf
      clear hf
      go_wp2_with (go_at_call 29; refine Calls.mono c ?_; rintro e w1 ⟨rfl, k1⟩)
      go_ret
      exact ⟨k, rfl, ⟨h1, H3.out, HF.out⟩, hk.trans k1⟩
    | some v =>
      rw [hf] at c
      simp only [Option.isSome_some] at c
      have hlt : k < 512 := by
        rcases Nat.lt_or_ge k 512 with l | l
        · exact l
        · have := H.out.ok.high (k : Int) (by omega)
          rw [hf] at this
          cases this
      have HF : Hid (x.f (k : Int) = some v) := hf
      clear hf
      go_wp2_with (go_at_call 29; refine Calls.mono c ?_; rintro e w1 ⟨rfl, k1⟩)
      refine ⟨⟨k + 1, by go_num, by omega, by omega, fun z a b => ?_, hk.trans k1⟩, by simp [intOf]; omega⟩
      by_cases hz : z = (k : Int)
      · rw [hz, HF.out]; simp
      · exact H3.out z a (by omega)
end

end Go.Proofs.Ytmejeiadfcdogaa
