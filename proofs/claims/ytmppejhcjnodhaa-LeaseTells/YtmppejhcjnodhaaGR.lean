/-
  The document's Granter.
-/
import Derived.Test.YtmppejhcjnodhaaG2
namespace Go.Proofs.Ytmppejhcjnodhaa
open Go.RowKit

theorem small_any (n : Int) (w : World) : Calls Try.prog 40 #[.int .i64 n] w fun e w' => e = .returned (.bool (decide (Tm n))) ∧ w' = w := by
  unfold Tm
  by_cases c1 : 0 ≤ n <;> by_cases c2 : n ≤ 1073741824
  all_goals
    simp only [c1, c2, decide_true, decide_false, and_true, and_false]
    go_enter Try.func40, Try.ntmps40
    go_wp2
    go_ret
    exact ⟨rfl, rfl⟩

/-- Whom a Granter bars is one of three. -/
def Ga.ok (g : Ga) : Prop := g.whom = 0 ∨ g.whom = 1 ∨ g.whom = 2
/-- The document's Granter in block C: for whom it barred ahead of a Lost it may still know. -/
def Rg (w : World) (C : Nat) (g : Ga) : Prop := ∃ f : Int, (g.whom = 1 → f = g.node) ∧ w.heap[C]? = some (.cells #[.bool (decide (g.whom ≠ 0)), .bool (decide (g.whom = 2)), .int .i64 f, .int .i64 g.til] 51 (0, 0))
theorem Rg.lt {w : World} {C : Nat} {g : Ga} (h : Rg w C g) : C < w.heap.size := by
  obtain ⟨_, _, h⟩ := h
  exact lt_of_block h
theorem Rg.kept {p : Nat → Prop} {w w' : World} {C : Nat} {g : Ga} (h : Rg w C g) (k : Kept p w w') (hp : p C) : Rg w' C g := by
  have hl := h.lt
  obtain ⟨f, hf, h⟩ := h
  exact ⟨f, hf, (k.block C hl hp).trans h⟩
/-- What a call that turns it leaves. -/
structure RStep (w w' : World) (C : Nat) (g : Ga) : Prop where
  now : Rg w' C g
  kept : Kept (· ≠ C) w w'
theorem cells_four {w : World} {b : Nat} {x y z u : Value} {t : TypeId} (h : w.heap[b]? = some (.cells #[x, y, z, u] t (0, 0))) :
    w.cell? ⟨b, 0, none⟩ = some x ∧ w.cell? ⟨b, 1, none⟩ = some y ∧ w.cell? ⟨b, 2, none⟩ = some z ∧ w.cell? ⟨b, 3, none⟩ = some u ∧ (∀ k, w.frozen? ⟨b, k, none⟩ = false) :=
  ⟨by simp [World.cell?, h], by simp [World.cell?, h], by simp [World.cell?, h], by simp [World.cell?, h], fun k => by simp [World.frozen?, h]⟩

theorem rnew_any {w : World} : Calls Try.prog 22 #[] w fun e w' => e = .returned (.pointer (some ⟨w.heap.size, 0, none⟩)) ∧ Rg w' w.heap.size Ga.none ∧ Kept (fun _ => True) w w' := by
  go_enter Try.func22, Try.ntmps22
  go_wp2
  go_ret
  exact ⟨rfl, ⟨0, fun h => absurd h (by decide), heap_alloc_new w _⟩, (Kept.refl _ _).alloc _⟩

theorem rbarred_any {w : World} {C : Nat} {g : Ga} (h : Rg w C g) (hg : g.ok) (node now : Int) : Calls Try.prog 25 #[.pointer (some ⟨C, 0, none⟩), .int .i64 node, .int .i64 now] w fun e w' => e = .returned (.bool (decide (g.bars node now))) ∧ w' = w := by
  obtain ⟨whom, own, til⟩ := g
  obtain ⟨f, hf, h⟩ := h
  obtain ⟨c0, c1, c2, c3, fz⟩ := cells_four h
  unfold Ga.bars
  simp only [Ga.ok] at hf hg c0 c1 c2 c3 ⊢
  clear h fz
  rcases hg with rfl | rfl | rfl
  · go_enter Try.func25, Try.ntmps25
    go_wp2
    go_ret
    exact ⟨by simp, rfl⟩
  · obtain rfl := hf rfl
    by_cases h2 : node = f
    · subst h2
      go_enter Try.func25, Try.ntmps25
      go_wp2
      go_ret
      exact ⟨by simp, rfl⟩
    · have h3 : (f == node) = false := by simpa using Ne.symm h2
      by_cases h4 : now < til
      · go_enter Try.func25, Try.ntmps25
        go_wp2
        go_ret
        exact ⟨by simp [Ne.symm h2], rfl⟩
      · go_enter Try.func25, Try.ntmps25
        go_wp2
        go_ret
        exact ⟨by simp [h4], rfl⟩
  · by_cases h4 : now < til
    · go_enter Try.func25, Try.ntmps25
      go_wp2
      go_ret
      exact ⟨by simp , rfl⟩
    · go_enter Try.func25, Try.ntmps25
      go_wp2
      go_ret
      exact ⟨by simp [h4], rfl⟩

theorem rask_yes {w : World} {C : Nat} {g : Ga} (h : Rg w C g) (hg : g.ok) (node now length : Int) (hm : g.may node now length) : Calls Try.prog 23 #[.pointer (some ⟨C, 0, none⟩), .int .i64 node, .int .i64 now, .int .i64 length] w fun e w' => e = .returned (.bool true) ∧ RStep w w' C (g.on 1 node (now + length)) := by
  obtain ⟨ht, hn, hb⟩ := hm
  have i1 := small_any now w
  have i2 := small_any length w
  have i3 := rbarred_any h hg node now
  rw [decide_eq_true ht.1] at i1
  rw [decide_eq_true ht.2] at i2
  rw [decide_eq_false hb] at i3
  obtain ⟨⟨n0, n1⟩, ⟨l0, l1⟩⟩ := ht
  obtain ⟨f, hf, h⟩ := h
  obtain ⟨c0, c1, c2, c3, fz⟩ := cells_four h
  have f0 := fz 0
  have f1 := fz 1
  have f2 := fz 2
  have f3 := fz 3
  have hH : Hid (w.heap[C]? = some (.cells #[.bool (decide (g.whom ≠ 0)), .bool (decide (g.whom = 2)), .int .i64 f, .int .i64 g.til] 51 (0, 0))) := h
  unfold Ga.on
  clear h fz hb hg hf
  by_cases hl : g.til < now + length
  · rw [if_pos hl]
    go_enter Try.func23, Try.ntmps23
    go_wp2_with fail
    refine i1.mono ?_
    rintro e w ⟨rfl, rfl⟩
    go_wp2_with fail
    refine i2.mono ?_
    rintro e w ⟨rfl, rfl⟩
    go_wp2_with fail
    refine i3.mono ?_
    rintro e w ⟨rfl, rfl⟩
    go_wp2
    go_ret
    exact ⟨rfl, ⟨node, fun _ => rfl, set_at (set_at (set_at (set_at hH.out 0 _) 1 _) 2 _) 3 _⟩, ((((Kept.refl _ _).setCell (by simp) _).setCell (by simp) _).setCell (by simp) _).setCell (by simp) _⟩
  · rw [if_neg hl]
    go_enter Try.func23, Try.ntmps23
    go_wp2_with fail
    refine i1.mono ?_
    rintro e w ⟨rfl, rfl⟩
    go_wp2_with fail
    refine i2.mono ?_
    rintro e w ⟨rfl, rfl⟩
    go_wp2_with fail
    refine i3.mono ?_
    rintro e w ⟨rfl, rfl⟩
    go_wp2
    go_ret
    exact ⟨rfl, ⟨node, fun _ => rfl, set_at (set_at (set_at hH.out 0 _) 1 _) 2 _⟩, (((Kept.refl _ _).setCell (by simp) _).setCell (by simp) _).setCell (by simp) _⟩

theorem rask_no {w : World} {C : Nat} {g : Ga} (h : Rg w C g) (hg : g.ok) (node now length : Int) (hm : ¬ g.may node now length) : Calls Try.prog 23 #[.pointer (some ⟨C, 0, none⟩), .int .i64 node, .int .i64 now, .int .i64 length] w fun e w' => e = .returned (.bool false) ∧ w' = w := by
  have i1 := small_any now w
  have i2 := small_any length w
  have i3 := rbarred_any h hg node now
  by_cases hn : node < 0
  · clear hm h hg i1 i2 i3
    go_enter Try.func23, Try.ntmps23
    go_wp2
    go_ret
    exact ⟨rfl, rfl⟩
  · by_cases h1 : Tm now
    · rw [decide_eq_true h1] at i1
      by_cases h2 : Tm length
      · rw [decide_eq_true h2] at i2
        have hb : g.bars node now := Classical.byContradiction fun hb => hm ⟨⟨h1, h2⟩, by omega, hb⟩
        rw [decide_eq_true hb] at i3
        clear h h1 h2 hb hm hg
        go_enter Try.func23, Try.ntmps23
        go_wp2_with fail
        refine i1.mono ?_
        rintro e w ⟨rfl, rfl⟩
        go_wp2_with fail
        refine i2.mono ?_
        rintro e w ⟨rfl, rfl⟩
        go_wp2_with fail
        refine i3.mono ?_
        rintro e w ⟨rfl, rfl⟩
        go_wp2
        go_ret
        exact ⟨rfl, rfl⟩
      · rw [decide_eq_false h2] at i2
        clear h h1 h2 hm hg i3
        go_enter Try.func23, Try.ntmps23
        go_wp2_with fail
        refine i1.mono ?_
        rintro e w ⟨rfl, rfl⟩
        go_wp2_with fail
        refine i2.mono ?_
        rintro e w ⟨rfl, rfl⟩
        go_wp2
        go_ret
        exact ⟨rfl, rfl⟩
    · rw [decide_eq_false h1] at i1
      clear h h1 hm hg i2 i3
      go_enter Try.func23, Try.ntmps23
      go_wp2_with fail
      refine i1.mono ?_
      rintro e w ⟨rfl, rfl⟩
      go_wp2
      go_ret
      exact ⟨rfl, rfl⟩

theorem rlost_yes {w : World} {C : Nat} {g : Ga} (h : Rg w C g) (now length : Int) (ht : Tm now ∧ Tm length) : Calls Try.prog 24 #[.pointer (some ⟨C, 0, none⟩), .int .i64 now, .int .i64 length] w fun e w' => e = .returned (.tuple #[]) ∧ RStep w w' C (g.on 2 0 (now + length)) := by
  have i1 := small_any now w
  have i2 := small_any length w
  rw [decide_eq_true ht.1] at i1
  rw [decide_eq_true ht.2] at i2
  obtain ⟨⟨n0, n1⟩, ⟨l0, l1⟩⟩ := ht
  obtain ⟨f, hf, h⟩ := h
  obtain ⟨c0, c1, c2, c3, fz⟩ := cells_four h
  have f0 := fz 0
  have f1 := fz 1
  have f3 := fz 3
  have hH : Hid (w.heap[C]? = some (.cells #[.bool (decide (g.whom ≠ 0)), .bool (decide (g.whom = 2)), .int .i64 f, .int .i64 g.til] 51 (0, 0))) := h
  unfold Ga.on
  clear h fz hf
  by_cases hl : g.til < now + length
  · rw [if_pos hl]
    go_enter Try.func24, Try.ntmps24
    go_wp2_with fail
    refine i1.mono ?_
    rintro e w ⟨rfl, rfl⟩
    go_wp2_with fail
    refine i2.mono ?_
    rintro e w ⟨rfl, rfl⟩
    go_wp2
    go_end0
    exact ⟨rfl, ⟨f, fun h => absurd h (by decide : (2 : Int) ≠ 1), set_at (set_at (set_at hH.out 0 _) 1 _) 3 _⟩, (((Kept.refl _ _).setCell (by simp) _).setCell (by simp) _).setCell (by simp) _⟩
  · rw [if_neg hl]
    go_enter Try.func24, Try.ntmps24
    go_wp2_with fail
    refine i1.mono ?_
    rintro e w ⟨rfl, rfl⟩
    go_wp2_with fail
    refine i2.mono ?_
    rintro e w ⟨rfl, rfl⟩
    go_wp2
    go_end0
    exact ⟨rfl, ⟨f, fun h => absurd h (by decide : (2 : Int) ≠ 1), set_at (set_at hH.out 0 _) 1 _⟩, ((Kept.refl _ _).setCell (by simp) _).setCell (by simp) _⟩
theorem rlost_no {w : World} {C : Nat} (now length : Int) (ht : ¬ (Tm now ∧ Tm length)) : Calls Try.prog 24 #[.pointer (some ⟨C, 0, none⟩), .int .i64 now, .int .i64 length] w fun e w' => e = .returned (.tuple #[]) ∧ w' = w := by
  have i1 := small_any now w
  have i2 := small_any length w
  by_cases h1 : Tm now
  · rw [decide_eq_true h1] at i1
    rw [decide_eq_false (fun h2 => ht ⟨h1, h2⟩)] at i2
    clear ht h1
    go_enter Try.func24, Try.ntmps24
    go_wp2_with fail
    refine i1.mono ?_
    rintro e w ⟨rfl, rfl⟩
    go_wp2_with fail
    refine i2.mono ?_
    rintro e w ⟨rfl, rfl⟩
    go_wp2
    exact bodyPost_ret (v := .tuple #[]) (by simp [results, Try.results24, go_sem]) rfl ⟨rfl, rfl⟩
  · rw [decide_eq_false h1] at i1
    clear ht h1 i2
    go_enter Try.func24, Try.ntmps24
    go_wp2_with fail
    refine i1.mono ?_
    rintro e w ⟨rfl, rfl⟩
    go_wp2
    exact bodyPost_ret (v := .tuple #[]) (by simp [results, Try.results24, go_sem]) rfl ⟨rfl, rfl⟩

/-- Both Granters, side by side. -/
structure Two (w0 w : World) (B C : Nat) (g : Ga) : Prop where
  gm : GM w0 w B g
  rg : Rg w C g
  c : w0.heap.size ≤ C
  ok : g.ok
section
variable {w0 w w' w'' : World} {B C : Nat} {g g' : Ga}
theorem Two.ahead (h : Two w0 w B C g) (k : Kept (fun _ => True) w w') : Two w0 w' B C g := ⟨h.gm.ahead k, h.rg.kept k trivial, h.c, h.ok⟩
theorem Two.ne (h : Two w0 w B C g) : C ≠ B := fun e => by
  obtain ⟨_, _, hc⟩ := h.rg
  have hb : w.heap[B]? = _ := h.gm.now
  rw [e, hb] at hc
  simp at hc
theorem Two.left (h : Two w0 w B C g) (s : GStep w w' B g') : Rg w' C g := h.rg.kept s.kept h.ne
theorem Two.both (h : Two w0 w B C g) (s : GStep w w' B g') (r : RStep w' w'' C g') (ok : g'.ok) : Two w0 w'' B C g' :=
  ⟨⟨s.now.kept r.kept (Ne.symm h.ne), (h.gm.step s).kept.then r.kept (fun i hi _ => by have := h.c; omega), h.gm.b⟩, r.now, h.c, ok⟩
end

end Go.Proofs.Ytmppejhcjnodhaa
