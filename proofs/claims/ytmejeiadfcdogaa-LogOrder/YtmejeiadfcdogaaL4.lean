/-
  known: some of the chapter's runs; a log that was made behind w0.
-/
import Derived.Test.YtmejeiadfcdogaaL3
import Derived.Test.YtmejeiadfcdogaaWBook
namespace Go.Proofs.Ytmejeiadfcdogaa
open Go.RowKit

/-- A log that was made behind w0. -/
structure LM (w0 w : World) (L M n : Nat) (x : Lo) : Prop where
  lm : Lm w L M n x
  kept : Kept (fun _ => True) w0 w
  l0 : w0.heap.size ≤ L
  m0 : w0.heap.size ≤ M

section
variable {w0 w w' : World} {L M n m : Nat} {x y : Lo}
theorem LM.step (h : LM w0 w L M n x) (h' : Lm w' L M m y) (k : Kept (fun y => y ≠ L ∧ y ≠ M) w w') : LM w0 w' L M m y :=
  ⟨h', h.kept.then k (fun i hi _ => by have := h.l0; have := h.m0; omega), h.l0, h.m0⟩
theorem LM.ahead (h : LM w0 w L M n x) (k : Kept (fun _ => True) w w') : LM w0 w' L M n x := ⟨h.lm.all k, h.kept.trans k, h.l0, h.m0⟩
theorem LM.side {q : Nat → Prop} (h : LM w0 w L M n x) (k : Kept q w w') (hL : q L) (hM : q M) (h0 : ∀ i, i < w0.heap.size → q i) : LM w0 w' L M n x :=
  ⟨h.lm.kept k hL hM, h.kept.then k (fun i hi _ => h0 i hi), h.l0, h.m0⟩
/-- What a row lies in is not the log. -/
theorem LM.off {b e sz c : Nat} {v : Value} {xs : List Value} (h : LM w0 w L M n x) (hv : w.ownsRow b e sz v c xs) (he : e ≠ 56) : ∀ k, v.ownBlock = some k → k ≠ L ∧ k ≠ M := by
  intro k hk
  rcases hv.2 with ⟨rfl, _⟩ | ⟨g, cap, cur, rfl, _, hg, _⟩
  · simp [Value.ownBlock] at hk
  · simp [Value.ownBlock] at hk
    subst hk
    refine ⟨fun q => ?_, fun q => ?_⟩
    · subst q
      rw [h.lm.lc.self] at hg
      simp only [Option.some.injEq, Obj.cells.injEq] at hg
      exact he hg.2.1.symm
    · subst q
      obtain ⟨es, clock, hb⟩ := h.lm.lc.mp.isMap
      rw [hb] at hg
      simp at hg
theorem LM.txs {b : Nat} {v : Value} {ss : List (List UInt8)} (h : LM w0 w L M n x) (hv : Txs w b v ss) : ∀ k, v.ownBlock = some k → k ≠ L ∧ k ≠ M := h.off hv (by decide)
theorem LM.its {b : Nat} {v : Value} {ss : List Nat} (h : LM w0 w L M n x) (hv : Its w b v ss) : ∀ k, v.ownBlock = some k → k ≠ L ∧ k ≠ M := h.off hv (by decide)
end

/-- Texts that were written down. -/
theorem Txs.block {w : World} {G : Nat} {ss : List (List UInt8)} (h : w.heap[G]? = some (.cells (srow ss).toArray 9 (0, 0))) (hl : ss.length ≤ 1000000) : Txs w 0 (.slice (some ⟨G, 0, none⟩) ss.length ss.length) ss :=
  ⟨by simp [srow_length], .inr ⟨G, ss.length, (srow ss).toArray, rfl, Nat.zero_le _, h, Nat.le_refl _, by unfold maxLen; omega, by simp [srow_length], by rw [Nat.mul_one, List.take_of_length_le (by simp [srow_length])]⟩⟩

/-- The same lists of texts. -/
theorem texts_same {w : World} {b1 b2 : Nat} {v1 v2 : Value} {xs ys : List (List UInt8)} (h1 : Txs w b1 v1 xs) (h2 : Txs w b2 v2 ys) (hl : xs.length ≤ 1000000) :
    Calls Try.prog 17 #[v1, v2] w fun e w' => e = .returned (.bool (decide (xs = ys))) ∧ ∃ m, w' = w.drewN m := by
  obtain ⟨a1, c1, rfl, -, -⟩ := h1.shape
  obtain ⟨a2, c2, rfl, -, -⟩ := h2.shape
  exact texts_any h1 h2 (by omega)

theorem texts_yes {w : World} {b1 b2 : Nat} {v1 v2 : Value} {xs : List (List UInt8)} (h1 : Txs w b1 v1 xs) (h2 : Txs w b2 v2 xs) (hl : xs.length ≤ 1000000) :
    Calls Try.prog 17 #[v1, v2] w fun e w' => e = .returned (.bool true) ∧ ∃ m, w' = w.drewN m := by
  have := texts_same h1 h2 hl
  rwa [decide_eq_true rfl] at this

theorem next_at {f : Vals} {a m k : Nat} (h : IsNext f a m) (h1 : a ≤ k) (h2 : ∀ z : Int, a ≤ z → z < k → f z ≠ none) (h3 : f k = none) : m = k := h.unique ⟨h1, h2, h3⟩

section
variable {w : World} {L M n : Nat} {x y : Lo}
theorem learn_to (h : Lm w L M n x) (hn : n < 1000000) {s : Int} (hs : Fit64 s) {v : List UInt8} {r : Nat} (hr : learn x s v = (r, y)) :
    Calls Try.prog 9 #[.pointer (some ⟨L, 0, none⟩), .int .i64 s, .string ⟨v.toArray⟩] w fun e w' => e = .returned (.int .i64 (r : Nat)) ∧ Lm w' L M (n + 1) y ∧ Kept (fun y => y ≠ L ∧ y ≠ M) w w' := by
  have := learn_any h hn hs v
  rw [hr] at this
  exact this
theorem compact_to (h : Lm w L M n x) {z : Int} {r : Nat} (hr : compact x z = (r, y)) :
    Calls Try.prog 11 #[.pointer (some ⟨L, 0, none⟩), .int .i64 z] w fun e w' => e = .returned (.int .i64 (r : Nat)) ∧ Lm w' L M n y ∧ Kept (fun y => y ≠ L ∧ y ≠ M) w w' := by
  have := compact_any h z
  rw [hr] at this
  exact this
theorem jump_to (h : Lm w L M n x) {z : Int} {r : Nat} (hr : jump x z = (r, y)) :
    Calls Try.prog 12 #[.pointer (some ⟨L, 0, none⟩), .int .i64 z] w fun e w' => e = .returned (.int .i64 (r : Nat)) ∧ Lm w' L M n y ∧ Kept (fun y => y ≠ L ∧ y ≠ M) w w' := by
  have := jump_any h z
  rw [hr] at this
  exact this
end

/-- The run of 'known'. -/
def kn1 : Lo := ⟨0, 0, put (fun _ => none) 1 [98]⟩
def kn2 : Lo := ⟨0, 0, put (put (fun _ => none) 1 [98]) 0 [97]⟩
theorem kn1_next {m : Nat} (h : IsNext kn1.f kn1.taken m) : m = 0 := next_at h (Nat.le_refl _) (fun z a b => by have a' : ((0 : Nat) : Int) ≤ z := a; omega) (by decide)
theorem kn2_next {m : Nat} (h : IsNext kn2.f kn2.taken m) : m = 2 := next_at h (Nat.zero_le _) (fun z a b => by
  have a' : ((0 : Nat) : Int) ≤ z := a
  have : z = 0 ∨ z = 1 := by omega
  rcases this with rfl | rfl <;> decide) (by decide)

set_option maxRecDepth 100000 in
set_option maxHeartbeats 1000000 in
theorem known_any {w : World} :
    Calls Try.prog 20 #[] w fun e w' => e = .returned (.bool true) ∧ Kept (fun _ => True) w w' := by
  go_enter Try.func20, Try.ntmps20
  go_wp2_with fail
  refine Calls.mono new_any ?_
  rintro e w1 ⟨L, M, rfl, h1, k1, a1, m1⟩
  have H1 : Hid (LM w w1 L M 0 ⟨0, 0, fun _ => none⟩) := ⟨h1, k1, a1, m1⟩
  clear h1 k1 a1 m1
  go_wp2_with fail
  refine Calls.mono (learn_any H1.out.lm (by decide) (s := 1) (by constructor <;> decide) [98]) ?_
  rintro e w2 ⟨rfl, h2, k2⟩
  have H2 : Hid (LM w w2 L M 1 kn1) := H1.out.step h2 k2
  clear h2 k2 H1
  go_wp2_with fail
  refine Calls.mono (take_any H2.out.lm) ?_
  rintro e w3 ⟨m3, v3, rfl, n3, t3, h3, k3⟩
  have e3 := kn1_next n3
  subst e3
  obtain ⟨ao3, c3, rfl, -, -⟩ := t3.shape
  have H3 : Hid (LM w w3 L M 1 kn1) := H2.out.step h3 k3
  clear h3 k3 H2 n3 t3
  go_wp2_with fail
  refine Calls.mono (learn_any H3.out.lm (by decide) (s := 0) (by constructor <;> decide) [97]) ?_
  rintro e w4 ⟨rfl, h4, k4⟩
  have H4 : Hid (LM w w4 L M 2 kn2) := H3.out.step h4 k4
  clear h4 k4 H3
  go_wp2_with fail
  refine Calls.mono (learn_any H4.out.lm (by decide) (s := 0) (by constructor <;> decide) [122]) ?_
  rintro e w5 ⟨rfl, h5, k5⟩
  have H5 : Hid (LM w w5 L M 3 kn2) := H4.out.step h5 k5
  clear h5 k5 H4
  have q1 : Hid ((learn kn1 0 [97]).1 = 0) := by show _ = _; decide
  have q2 : Hid ((learn kn2 0 [122]).1 = 37) := by show _ = _; decide
  rw [q1.out, q2.out]
  go_wp2_with (first
    | (go_at_call 15; refine Calls.mono (take_any H5.out.lm) ?_; rintro e w6 ⟨m6, v6, rfl, n6, t6, h6, k6⟩; have e6 := kn2_next n6; subst e6; have H6 : Hid (LM w w6 L M 3 _) := H5.out.step h6 k6; have T6 : Hid (Txs w6 w5.heap.size v6 (vals kn2.f kn2.taken 2)) := t6; clear n6 t6 h6 k6)
    | (go_at_call 17; refine Calls.mono (texts_same (T6.out.kept ((Kept.refl (fun _ => True) _).alloc _) (fun _ _ => trivial)) (Txs.block (ss := [[97], [98]]) (heap_alloc_new _ _) (by decide)) (by decide)) ?_; rintro e w7 ⟨rfl, m7, rfl⟩))
  have q3 : decide (vals kn2.f kn2.taken 2 = [[97], [98]]) = true := by decide
  rw [q3]
  go_ret
  exact ⟨rfl, (H6.out.kept.alloc _).drewN _⟩

end Go.Proofs.Ytmejeiadfcdogaa
