/-
  known: some of the chapter's runs.
-/
import Derived.Test.YtnogpjhcpdngcaaB4
namespace Go.Proofs.Ytnogpjhcpdngcaa
open Go.RowKit

/-- An acceptor that was made behind w0. -/
structure AM (w0 w : World) (A M n : Nat) (p : Bl) (f : Vs) : Prop where
  ac : Ac w A M n p f
  kept : Kept (fun _ => True) w0 w
  a0 : w0.heap.size ≤ A
  m0 : w0.heap.size ≤ M

section
variable {w0 w w' : World} {A M n m : Nat} {p q : Bl} {f g : Vs}
theorem AM.step (h : AM w0 w A M n p f) (h' : Ac w' A M m q g) (k : Kept (fun x => x ≠ A ∧ x ≠ M) w w') : AM w0 w' A M m q g :=
  ⟨h', h.kept.then k (fun i hi _ => by have := h.a0; have := h.m0; omega), h.a0, h.m0⟩
theorem AM.ahead (h : AM w0 w A M n p f) (k : Kept (fun _ => True) w w') : AM w0 w' A M n p f :=
  ⟨h.ac.all k, h.kept.trans k, h.a0, h.m0⟩
/-- What was made by a call of the acceptor's is not the acceptor. -/
theorem AM.vr {v : Value} {xs : List Vo} (h : AM w0 w A M n p f) (hv : VR w v xs) : ∀ k, v.ownBlock = some k → k ≠ A ∧ k ≠ M := by
  intro k hk
  rcases hv.2 with ⟨rfl, _⟩ | ⟨g, cap, cur, rfl, _, hg, _⟩
  · simp [Value.ownBlock] at hk
  · simp [Value.ownBlock] at hk
    subst hk
    refine ⟨fun e => ?_, fun e => ?_⟩
    · subst e
      rw [h.ac.self] at hg
      simp at hg
    · subst e
      obtain ⟨es, clock, hb⟩ := h.ac.mp.isMap
      rw [hb] at hg
      simp at hg
end

/-- A slice of one vote that was written down. -/
theorem VR.one {w : World} {G : Nat} {x : Vo} (h : w.heap[G]? = some (.cells #[.int .i64 x.s, .int .i64 x.b.r, .int .i64 x.b.n, .string x.v] 36 (0, 0))) : VR w (.slice (some ⟨G, 0, none⟩) 1 1) [x] :=
  ⟨rfl, .inr ⟨G, 1, _, rfl, Nat.zero_le _, h, Nat.le_refl _, by decide, rfl, rfl⟩⟩

theorem known_votes : votesFrom (upd (fun _ => none) 3 ⟨1, 0⟩ ⟨#[120]⟩) 0 = [⟨3, ⟨1, 0⟩, ⟨#[120]⟩⟩] := by kernel_rfl

set_option maxRecDepth 100000 in
set_option maxHeartbeats 1000000 in
theorem known_any {w : World} :
    Calls Try.prog 17 #[] w fun e w' => e = .returned (.bool true) ∧ Kept (fun _ => True) w w' := by
  go_enter Try.func17, Try.ntmps17
  go_wp2_with fail
  refine Calls.mono new_any ?_
  rintro e w1 ⟨A, M, rfl, h1, k1, a1, m1⟩
  have H1 : Hid (AM w w1 A M 0 ⟨0, 0⟩ (fun _ => none)) := ⟨h1, k1, a1, m1⟩
  clear h1 k1 a1 m1
  go_wp2_with fail
  refine Calls.mono (prepare_any H1.out.ac ⟨1, 0⟩ 0) ?_
  rintro e w2 ⟨v2, rfl, r2, h2, k2, n2⟩
  have H2 : Hid (AM w w2 A M 0 ⟨1, 0⟩ (fun _ => none)) := H1.out.step (by simpa [less] using h2) k2
  clear h2 k2 n2 r2 H1
  rw [show less ⟨0, 0⟩ ⟨1, 0⟩ = true from by decide]
  go_wp2_with fail
  refine Calls.mono (prepare_any H2.out.ac ⟨1, 0⟩ 0) ?_
  rintro e w3 ⟨v3, rfl, r3, h3, k3, n3⟩
  have H3 : Hid (AM w w3 A M 0 ⟨1, 0⟩ (fun _ => none)) := H2.out.step (by simpa [less] using h3) k3
  clear h3 k3 n3 r3 H2
  rw [show less ⟨1, 0⟩ ⟨1, 0⟩ = false from by decide]
  go_wp2_with fail
  refine Calls.mono (accept_any H3.out.ac (by decide) ⟨1, 0⟩ 3 ⟨#[120]⟩ false (by decide)) ?_
  rintro e w4 ⟨rfl, h4, k4⟩
  have H4 : Hid (AM w w4 A M 1 ⟨1, 0⟩ (upd (fun _ => none) 3 ⟨1, 0⟩ ⟨#[120]⟩)) := H3.out.step (by simpa using h4) k4
  clear h4 k4 H3
  go_wp2_with fail
  refine Calls.mono (prepare_any H4.out.ac ⟨2, 0⟩ 0) ?_
  rintro e w5 ⟨v5, rfl, r5, h5, k5, n5⟩
  rw [show less ⟨1, 0⟩ ⟨2, 0⟩ = true from by decide] at *
  have H5 : Hid (AM w w5 A M 1 ⟨2, 0⟩ (upd (fun _ => none) 3 ⟨1, 0⟩ ⟨#[120]⟩)) := H4.out.step (by simpa using h5) k5
  have R5 : Hid (VR w5 v5 [⟨3, ⟨1, 0⟩, ⟨#[120]⟩⟩]) := by
    show VR _ _ _
    rw [← known_votes]
    exact r5
  clear h5 k5 n5 r5 H4
  go_wp2_with fail
  have k6 : Kept (fun _ => True) w5 (w5.alloc (.cells #[.int .i64 3, .int .i64 1, .int .i64 0, .string ⟨#[120]⟩] 36)) := (Kept.refl _ _).alloc _
  refine Calls.mono (keep_same (R5.out.all k6) (VR.one (x := ⟨3, ⟨1, 0⟩, ⟨#[120]⟩⟩) (heap_alloc_new _ _)) (by decide)) ?_
  rintro e w7 ⟨rfl, m, rfl⟩
  go_wp2
  go_ret
  exact ⟨rfl, (H5.out.kept.trans k6).drewN _⟩

end Go.Proofs.Ytnogpjhcpdngcaa
