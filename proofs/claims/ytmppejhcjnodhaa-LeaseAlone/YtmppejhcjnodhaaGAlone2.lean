/-
  Three granters, rates, and what two askers know, in memory.
-/
import Derived.Test.YtmppejhcjnodhaaGAlone
import Derived.Test.YtmppejhcjnodhaaGAsks
import Derived.Test.YtmppejhcjnodhaaPArr
namespace Go.Proofs.Ytmppejhcjnodhaa
open Go.RowKit

theorem apart {w : World} {b b' : Nat} {c c' : Array Value} {t t' : TypeId} {f f' : Nat × Nat} (h : w.heap[b]? = some (.cells c t f)) (h' : w.heap[b']? = some (.cells c' t' f')) (ht : t ≠ t') : b ≠ b' := by
  intro e
  subst e
  rw [h] at h'
  simp at h'
  exact ht h'.2.1

/-- While the rates are laid. -/
structure L1 (w0 w : World) (A R : Nat) (r : Int) (rate : Nat → Int) (i : Nat) : Prop where
  kept : Kept (fun _ => True) w0 w
  arr : Af w A 56 3 (fun _ => .pointer none)
  rt : Af w R 57 5 (fun j => .int .i64 (rate j))
  ok : ∀ j, j < i → 1000 - r ≤ rate j ∧ rate j ≤ 1000 + r
  a0 : w0.heap.size ≤ A
  b0 : w0.heap.size ≤ R
section
variable {w0 w w' : World} {A R : Nat} {r : Int} {rate : Nat → Int} {i : Nat}
theorem L1.store (h : L1 w0 w A R r rate i) (x : Int) : L1 w0 (w.setCell ⟨R, i, none⟩ (.int .i64 x)) A R r (put rate i x) i := by
  have k : Kept (· ≠ R) w (w.setCell ⟨R, i, none⟩ (.int .i64 x)) := (Kept.refl _ _).setCell (by simp) _
  refine ⟨h.kept.then k (fun j hj _ => by have := h.b0; omega), h.arr.kept k (apart h.arr h.rt (by decide)), (h.rt.set i _).congr (fun j _ => by unfold put; split <;> rfl), fun j hj => ?_, h.a0, h.b0⟩
  rw [put_other _ _ (by omega)]
  exact h.ok j hj
theorem L1.next (h : L1 w0 w A R r rate i) (h1 : 1000 - r ≤ rate i ∧ rate i ≤ 1000 + r) : L1 w0 w A R r rate (i + 1) :=
  ⟨h.kept, h.arr, h.rt, fun j hj => by
    by_cases e : j = i
    · subst e; exact h1
    · exact h.ok j (by omega), h.a0, h.b0⟩
end

/-- While the granters are made. -/
structure L2 (w0 w : World) (A R : Nat) (bl : Nat → Nat) (rate : Nat → Int) (i : Nat) : Prop where
  kept : Kept (fun _ => True) w0 w
  gr : ∀ n, n < i → Gr w (bl n) Ga.none
  arr : Af w A 56 3 (fun j => if j < i then .pointer (some ⟨bl j, 0, none⟩) else .pointer none)
  rt : Af w R 57 5 (fun j => .int .i64 (rate j))
  bb : ∀ n m, n < i → m < i → bl n = bl m → n = m
  old : ∀ n, n < i → w0.heap.size ≤ bl n
  a0 : w0.heap.size ≤ A
section
variable {w0 w w1 : World} {A R : Nat} {bl : Nat → Nat} {rate : Nat → Int} {i : Nat}
theorem L2.new (h : L2 w0 w A R bl rate i) (g : Gr w1 w.heap.size Ga.none) (k : Kept (fun _ => True) w w1) : L2 w0 (w1.setCell ⟨A, i, none⟩ (.pointer (some ⟨w.heap.size, 0, none⟩))) A R (put bl i w.heap.size) rate (i + 1) := by
  have k2 : Kept (· ≠ A) w1 (w1.setCell ⟨A, i, none⟩ (.pointer (some ⟨w.heap.size, 0, none⟩))) := (Kept.refl _ _).setCell (by simp) _
  have a1 := h.arr.kept k trivial
  have r1 := h.rt.kept k trivial
  have lt : ∀ n, n < i → bl n < w.heap.size := fun n hn => (h.gr n hn).lt
  refine ⟨(h.kept.trans k).then k2 (fun j hj _ => by have := h.a0; omega), fun n hn => ?_, (a1.set i _).congr (fun j _ => ?_), r1.kept k2 (apart r1 a1 (by decide)), fun n m hn hm e => ?_, fun n hn => ?_, h.a0⟩
  · by_cases e : n = i
    · subst e
      rw [put_same]
      exact g.kept k2 (apart g a1 (by decide))
    · rw [put_other _ _ e]
      have g1 := (h.gr n (by omega)).kept k trivial
      exact g1.kept k2 (apart g1 a1 (by decide))
  · simp only [put]
    by_cases e : j = i
    · subst e; simp
    · by_cases e2 : j < i
      · rw [if_neg e, if_pos e2, if_pos (by omega), if_neg e]
      · rw [if_neg e, if_neg e2, if_neg (by omega)]
  · by_cases e1 : n = i <;> by_cases e2 : m = i
    · omega
    · subst e1
      rw [put_same, put_other _ _ e2] at e
      have := lt m (by omega)
      omega
    · subst e2
      rw [put_same, put_other _ _ e1] at e
      have := lt n (by omega)
      omega
    · rw [put_other _ _ e1, put_other _ _ e2] at e
      exact h.bb n m (by omega) (by omega) e
  · by_cases e : n = i
    · subst e
      rw [put_same]
      exact h.kept.size
    · rw [put_other _ _ e]
      exact h.old n (by omega)
end

/-- All of it. -/
structure AL (w0 w : World) (A R K G U : Nat) (bl : Nat → Nat) (rate : Nat → Int) (s : St) : Prop where
  kept : Kept (fun _ => True) w0 w
  gr : ∀ n, n < 3 → Gr w (bl n) (s.g n)
  arr : Af w A 56 3 (fun j => .pointer (some ⟨bl j, 0, none⟩))
  rt : Af w R 57 5 (fun j => .int .i64 (rate j))
  ask : Af w K 58 2 (fun j => .int .i64 (s.asked j))
  got : Af w G 58 2 (fun j => .int .i64 (s.got j : Nat))
  til : Af w U 58 2 (fun j => .int .i64 (s.til j))
  kg : K ≠ G
  ku : K ≠ U
  gu : G ≠ U
  bb : ∀ n m, n < 3 → m < 3 → bl n = bl m → n = m
  old : ∀ n, n < 3 → w0.heap.size ≤ bl n
  k0 : w0.heap.size ≤ K
  g0 : w0.heap.size ≤ G
  u0 : w0.heap.size ≤ U
section
variable {w0 w w' : World} {A R K G U : Nat} {bl : Nat → Nat} {rate : Nat → Int} {s : St}
theorem AL.ahead (h : AL w0 w A R K G U bl rate s) (k : Kept (fun _ => True) w w') : AL w0 w' A R K G U bl rate s :=
  ⟨h.kept.trans k, fun n hn => (h.gr n hn).kept k trivial, h.arr.kept k trivial, h.rt.kept k trivial, h.ask.kept k trivial, h.got.kept k trivial, h.til.kept k trivial, h.kg, h.ku, h.gu, h.bb, h.old, h.k0, h.g0, h.u0⟩
theorem AL.step (h : AL w0 w A R K G U bl rate s) {n : Nat} (hn : n < 3) {g : Ga} (st : GStep w w' (bl n) g) (got : Nat → Nat) (hg : got = s.got) : AL w0 w' A R K G U bl rate ⟨put s.g n g, s.asked, got, s.til⟩ := by
  subst hg
  refine ⟨h.kept.then st.kept (fun j hj _ => by have := h.old n hn; omega), fun m hm => ?_, h.arr.kept st.kept (apart h.arr (h.gr n hn) (by decide)), h.rt.kept st.kept (apart h.rt (h.gr n hn) (by decide)), h.ask.kept st.kept (apart h.ask (h.gr n hn) (by decide)), h.got.kept st.kept (apart h.got (h.gr n hn) (by decide)), h.til.kept st.kept (apart h.til (h.gr n hn) (by decide)), h.kg, h.ku, h.gu, h.bb, h.old, h.k0, h.g0, h.u0⟩
  by_cases e : m = n
  · subst e
    simp only [put_same]
    exact st.now
  · simp only [put_other _ _ e]
    exact (h.gr m hm).kept st.kept (fun q => e (h.bb m n hm hn q))
theorem AL.setAsk (h : AL w0 w A R K G U bl rate s) (k : Nat) (x : Int) : AL w0 (w.setCell ⟨K, k, none⟩ (.int .i64 x)) A R K G U bl rate ⟨s.g, put s.asked k x, s.got, s.til⟩ := by
  have c : Kept (· ≠ K) w (w.setCell ⟨K, k, none⟩ (.int .i64 x)) := (Kept.refl _ _).setCell (by simp) _
  exact ⟨h.kept.then c (fun j hj _ => by have := h.k0; omega), fun n hn => (h.gr n hn).kept c (apart (h.gr n hn) h.ask (by decide)), h.arr.kept c (apart h.arr h.ask (by decide)), h.rt.kept c (apart h.rt h.ask (by decide)), (h.ask.set k _).congr (fun j _ => by simp only [put]; split <;> rfl), h.got.kept c (Ne.symm h.kg), h.til.kept c (Ne.symm h.ku), h.kg, h.ku, h.gu, h.bb, h.old, h.k0, h.g0, h.u0⟩
theorem AL.setGot (h : AL w0 w A R K G U bl rate s) (k x : Nat) : AL w0 (w.setCell ⟨G, k, none⟩ (.int .i64 (x : Nat))) A R K G U bl rate ⟨s.g, s.asked, put s.got k x, s.til⟩ := by
  have c : Kept (· ≠ G) w (w.setCell ⟨G, k, none⟩ (.int .i64 (x : Nat))) := (Kept.refl _ _).setCell (by simp) _
  exact ⟨h.kept.then c (fun j hj _ => by have := h.g0; omega), fun n hn => (h.gr n hn).kept c (apart (h.gr n hn) h.got (by decide)), h.arr.kept c (apart h.arr h.got (by decide)), h.rt.kept c (apart h.rt h.got (by decide)), h.ask.kept c h.kg, (h.got.set k _).congr (fun j _ => by simp only [put]; split <;> rfl), h.til.kept c (Ne.symm h.gu), h.kg, h.ku, h.gu, h.bb, h.old, h.k0, h.g0, h.u0⟩
theorem AL.setTil (h : AL w0 w A R K G U bl rate s) (k : Nat) (x : Int) : AL w0 (w.setCell ⟨U, k, none⟩ (.int .i64 x)) A R K G U bl rate ⟨s.g, s.asked, s.got, put s.til k x⟩ := by
  have c : Kept (· ≠ U) w (w.setCell ⟨U, k, none⟩ (.int .i64 x)) := (Kept.refl _ _).setCell (by simp) _
  exact ⟨h.kept.then c (fun j hj _ => by have := h.u0; omega), fun n hn => (h.gr n hn).kept c (apart (h.gr n hn) h.til (by decide)), h.arr.kept c (apart h.arr h.til (by decide)), h.rt.kept c (apart h.rt h.til (by decide)), h.ask.kept c h.ku, h.got.kept c h.gu, (h.til.set k _).congr (fun j _ => by simp only [put]; split <;> rfl), h.kg, h.ku, h.gu, h.bb, h.old, h.k0, h.g0, h.u0⟩
end

theorem add_bit : ∀ m : Nat, m < 8 → ∀ k, k < 3 → bits .or .i64 (m : Int) (2 ^ k) = ((m ||| 2 ^ k : Nat) : Int) := by decide +kernel
theorem wrap_bit : ∀ k, k < 3 → IntKind.i64.wrap (2 ^ k) = 2 ^ k := by decide +kernel

end Go.Proofs.Ytmppejhcjnodhaa
