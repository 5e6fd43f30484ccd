/-
  A Granter in memory, and its calls.
-/
import Derived.Test.YtmppejhcjnodhaaG1
namespace Go.Proofs.Ytmppejhcjnodhaa
open Go.RowKit

/-- A Granter, plainly: whom it bars (0 nobody, 1 others than node, 2 everybody), and up to when. -/
structure Ga where
  whom : Int
  node : Int
  til : Int

def Ga.none : Ga := ⟨0, 0, 0⟩
/-- Does it bar? -/
abbrev Ga.bars (g : Ga) (node now : Int) : Prop := (g.whom = 1 ∧ node ≠ g.node ∨ g.whom = 2) ∧ now < g.til
theorem Ga.free (node now : Int) : ¬ Ga.none.bars node now := fun h => h.1.elim (fun h => absurd h.1 (by decide)) (fun h => absurd h (by decide))
/-- Up to a later time. -/
def Ga.on (g : Ga) (whom node last : Int) : Ga := ⟨whom, node, if g.til < last then last else g.til⟩
/-- May it grant? -/
abbrev Ga.may (g : Ga) (node now length : Int) : Prop := (Tm now ∧ Tm length) ∧ 0 ≤ node ∧ ¬ g.bars node now

theorem cell_kept {p : Nat → Prop} {w w' : World} {a : Addr} {v : Value} (k : Kept p w w') (h : w.cell? a = some v) (hp : p a.block) : w'.cell? a = some v :=
  (World.cell?_of_block (w := w) (k.block a.block (World.block_lt_of_cell? w _ h) hp)).trans h

/-- A block of plain cells, one of them written. -/
theorem set_at {w : World} {b : Nat} {cs : Array Value} {t : TypeId} {fr : Nat × Nat} (h : w.heap[b]? = some (.cells cs t fr)) (k : Nat) (u : Value) :
    (w.setCell ⟨b, k, none⟩ u).heap[b]? = some (.cells (cs.setIfInBounds k u) t fr) := by
  have hlt := lt_of_block h
  have h' : w.heap[b] = .cells cs t fr := by simpa [Array.getElem?_eq_getElem hlt] using h
  show (w.heap.modify b _)[b]? = _
  rw [Array.getElem?_eq_getElem (by simpa using hlt), Array.getElem_modify_self, h']
  rfl
theorem cells_three {w : World} {b : Nat} {x y z : Value} {t : TypeId} (h : w.heap[b]? = some (.cells #[x, y, z] t (0, 0))) :
    w.cell? ⟨b, 0, none⟩ = some x ∧ w.cell? ⟨b, 1, none⟩ = some y ∧ w.cell? ⟨b, 2, none⟩ = some z ∧ (∀ k, w.frozen? ⟨b, k, none⟩ = false) :=
  ⟨by simp [World.cell?, h], by simp [World.cell?, h], by simp [World.cell?, h], fun k => by simp [World.frozen?, h]⟩

/-- A Granter in block B. -/
def Gr (w : World) (B : Nat) (g : Ga) : Prop := w.heap[B]? = some (.cells #[.int .i64 g.whom, .int .i64 g.node, .int .i64 g.til] 64 (0, 0))
theorem Gr.lt {w : World} {B : Nat} {g : Ga} (h : Gr w B g) : B < w.heap.size := lt_of_block h
theorem Gr.kept {p : Nat → Prop} {w w' : World} {B : Nat} {g : Ga} (h : Gr w B g) (k : Kept p w w') (hp : p B) : Gr w' B g := (k.block B h.lt hp).trans h
/-- What a call that turns a Granter leaves. -/
structure GStep (w w' : World) (B : Nat) (g : Ga) : Prop where
  now : Gr w' B g
  kept : Kept (· ≠ B) w w'

theorem Gr.set {w : World} {B : Nat} {g : Ga} (h : Gr w B g) (a b c : Int) : GStep w (((w.setCell ⟨B, 0, none⟩ (.int .i64 a)).setCell ⟨B, 1, none⟩ (.int .i64 b)).setCell ⟨B, 2, none⟩ (.int .i64 c)) B ⟨a, b, c⟩ :=
  ⟨set_at (set_at (set_at h 0 _) 1 _) 2 _, (((Kept.refl _ _).setCell (by simp) _).setCell (by simp) _).setCell (by simp) _⟩

theorem new_ok (r : Int) (hr : Dr r) {w : World} : Calls Try.prog 9 #[.int .i64 r] w fun e w' => e = .returned (.tuple #[.pointer (some ⟨w.heap.size, 0, none⟩), .int .i64 0]) ∧ Gr w' w.heap.size Ga.none ∧ Kept (fun _ => True) w w' := by
  have i1 := isDrift_any r w
  rw [decide_eq_true hr] at i1
  clear hr
  go_enter Try.func9, Try.ntmps9
  go_wp2_with fail
  refine i1.mono ?_
  rintro e w' ⟨rfl, rfl⟩
  go_wp2
  go_ret2
  exact ⟨rfl, heap_alloc_new w' _, (Kept.refl _ _).alloc _⟩
theorem new_bad (r : Int) (hr : ¬ Dr r) {w : World} : Calls Try.prog 9 #[.int .i64 r] w fun e w' => e = .returned (.tuple #[.pointer none, .int .i64 1]) ∧ w' = w := by
  have i1 := isDrift_any r w
  rw [decide_eq_false hr] at i1
  clear hr
  go_enter Try.func9, Try.ntmps9
  go_wp2_with fail
  refine i1.mono ?_
  rintro e w' ⟨rfl, rfl⟩
  go_wp2
  go_ret2
  exact ⟨rfl, rfl⟩

theorem barred_any {w : World} {B : Nat} {g : Ga} (h : Gr w B g) (node now : Int) : Calls Try.prog 14 #[.pointer (some ⟨B, 0, none⟩), .int .i64 node, .int .i64 now] w fun e w' => e = .returned (.bool (decide (g.bars node now))) ∧ w' = w := by
  obtain ⟨whom, own, til⟩ := g
  obtain ⟨c0, c1, c2, fz⟩ := cells_three h
  unfold Ga.bars
  simp only  at c0 c1 c2 ⊢
  clear h fz
  by_cases h1 : whom = 1
  · subst h1
    by_cases h2 : node = own
    · subst h2
      go_enter Try.func14, Try.ntmps14
      go_wp2
      go_ret
      exact ⟨by simp, rfl⟩
    · have h3 : (node == own) = false := by simpa using h2
      by_cases h4 : now < til
      · go_enter Try.func14, Try.ntmps14
        go_wp2
        go_ret
        exact ⟨by simp [h2, h4], rfl⟩
      · go_enter Try.func14, Try.ntmps14
        go_wp2
        go_ret
        exact ⟨by simp [h4], rfl⟩
  · have h3 : (whom == 1) = false := by simpa using h1
    by_cases h2 : whom = 2
    · subst h2
      by_cases h4 : now < til
      · go_enter Try.func14, Try.ntmps14
        go_wp2
        go_ret
        exact ⟨by simp [h4], rfl⟩
      · go_enter Try.func14, Try.ntmps14
        go_wp2
        go_ret
        exact ⟨by simp [h4], rfl⟩
    · have h5 : (whom == 2) = false := by simpa using h2
      go_enter Try.func14, Try.ntmps14
      go_wp2
      go_ret
      exact ⟨by simp [h1, h2], rfl⟩

theorem until_any {w : World} {B : Nat} {g : Ga} (h : Gr w B g) : Calls Try.prog 12 #[.pointer (some ⟨B, 0, none⟩)] w fun e w' => e = .returned (.int .i64 g.til) ∧ w' = w := by
  obtain ⟨c0, c1, c2, fz⟩ := cells_three h
  clear h
  go_enter Try.func12, Try.ntmps12
  go_wp2
  go_ret
  exact ⟨rfl, rfl⟩

theorem bar_any {w : World} {B : Nat} {g : Ga} (h : Gr w B g) (whom node last : Int) : Calls Try.prog 32 #[.pointer (some ⟨B, 0, none⟩), .int .i64 whom, .int .i64 node, .int .i64 last] w fun e w' => e = .returned (.tuple #[]) ∧ GStep w w' B (g.on whom node last) := by
  obtain ⟨c0, c1, c2, fz⟩ := cells_three h
  have hm : ∀ ts t W, (Builtin.max_ ts t #[.int .i64 g.til, .int .i64 last]).run Try.prog W = .ok (.int .i64 (if g.til < last then last else g.til)) W := fun ts t W => by simp [Builtin.max_, Builtin.max2]
  have f0 := fz 0
  have f1 := fz 1
  have f2 := fz 2
  have hs := h.set whom node (if g.til < last then last else g.til)
  unfold Ga.on
  generalize (if g.til < last then last else g.til) = m at *
  clear h fz
  go_enter Try.func32, Try.ntmps32
  go_wp2
  go_end0
  exact ⟨rfl, hs⟩

theorem ask_yes {w : World} {B : Nat} {g : Ga} (h : Gr w B g) (node now length : Int) (hm : g.may node now length) : Calls Try.prog 13 #[.pointer (some ⟨B, 0, none⟩), .int .i64 node, .int .i64 now, .int .i64 length] w fun e w' => e = .returned (.bool true) ∧ GStep w w' B (g.on 1 node (now + length)) := by
  obtain ⟨ht, hn, hb⟩ := hm
  have i1 := bar_yes now length ht.1 ht.2 w
  have i2 := barred_any h node now
  rw [decide_eq_false hb] at i2
  have i3 := bar_any h 1 node (now + length)
  clear h ht hb
  generalize now + length = x at *
  go_enter Try.func13, Try.ntmps13
  go_wp2_with fail
  refine i1.mono ?_
  rintro e w' ⟨rfl, rfl⟩
  go_wp2_with fail
  refine i2.mono ?_
  rintro e w' ⟨rfl, rfl⟩
  go_wp2_with fail
  refine i3.mono ?_
  rintro e w1 ⟨rfl, hs⟩
  go_wp2
  go_ret
  exact ⟨rfl, hs⟩
theorem ask_no {w : World} {B : Nat} {g : Ga} (h : Gr w B g) (node now length : Int) (hm : ¬ g.may node now length) : Calls Try.prog 13 #[.pointer (some ⟨B, 0, none⟩), .int .i64 node, .int .i64 now, .int .i64 length] w fun e w' => e = .returned (.bool false) ∧ w' = w := by
  have i2 := barred_any h node now
  by_cases ht : Tm now ∧ Tm length
  · have i1 := bar_yes now length ht.1 ht.2 w
    generalize now + length = x at *
    by_cases hn : 0 ≤ node
    · have hb : g.bars node now := Classical.byContradiction fun hb => hm ⟨ht, hn, hb⟩
      rw [decide_eq_true hb] at i2
      clear h ht hb hm
      go_enter Try.func13, Try.ntmps13
      go_wp2_with fail
      refine i1.mono ?_
      rintro e w' ⟨rfl, rfl⟩
      go_wp2_with fail
      refine i2.mono ?_
      rintro e w' ⟨rfl, rfl⟩
      go_wp2
      go_ret
      exact ⟨rfl, rfl⟩
    · have hn : node < 0 := by omega
      clear h ht hm i2
      go_enter Try.func13, Try.ntmps13
      go_wp2_with fail
      refine i1.mono ?_
      rintro e w' ⟨rfl, rfl⟩
      go_wp2
      go_ret
      exact ⟨rfl, rfl⟩
  · have i1 := bar_no now length ht w
    clear h ht hm i2
    go_enter Try.func13, Try.ntmps13
    go_wp2_with fail
    refine i1.mono ?_
    rintro e w' ⟨rfl, rfl⟩
    go_wp2
    go_ret
    exact ⟨rfl, rfl⟩

theorem lost_yes {w : World} {B : Nat} {g : Ga} (h : Gr w B g) (now length : Int) (hm : Tm now ∧ Tm length) : Calls Try.prog 15 #[.pointer (some ⟨B, 0, none⟩), .int .i64 now, .int .i64 length] w fun e w' => e = .returned (.tuple #[]) ∧ GStep w w' B (g.on 2 0 (now + length)) := by
  have i1 := bar_yes now length hm.1 hm.2 w
  have i3 := bar_any h 2 0 (now + length)
  clear h hm
  generalize now + length = x at *
  go_enter Try.func15, Try.ntmps15
  go_wp2_with fail
  refine i1.mono ?_
  rintro e w' ⟨rfl, rfl⟩
  go_wp2_with fail
  refine i3.mono ?_
  rintro e w1 ⟨rfl, hs⟩
  go_wp2
  go_end0
  exact ⟨rfl, hs⟩
theorem lost_no {w : World} {B : Nat} (now length : Int) (hm : ¬ (Tm now ∧ Tm length)) : Calls Try.prog 15 #[.pointer (some ⟨B, 0, none⟩), .int .i64 now, .int .i64 length] w fun e w' => e = .returned (.tuple #[]) ∧ w' = w := by
  have i1 := bar_no now length hm w
  clear hm
  go_enter Try.func15, Try.ntmps15
  go_wp2_with fail
  refine i1.mono ?_
  rintro e w' ⟨rfl, rfl⟩
  go_wp2
  go_end0
  exact ⟨rfl, rfl⟩

/-- A Granter that was made behind w0. -/
structure GM (w0 w : World) (B : Nat) (g : Ga) : Prop where
  now : Gr w B g
  kept : Kept (fun _ => True) w0 w
  b : w0.heap.size ≤ B
theorem GM.step {w0 w w' : World} {B : Nat} {g g' : Ga} (h : GM w0 w B g) (s : GStep w w' B g') : GM w0 w' B g' :=
  ⟨s.now, h.kept.then s.kept (fun i hi _ => by have := h.b; omega), h.b⟩
theorem GM.ahead {w0 w w' : World} {B : Nat} {g : Ga} (h : GM w0 w B g) (k : Kept (fun _ => True) w w') : GM w0 w' B g :=
  ⟨h.now.kept k trivial, h.kept.trans k, h.b⟩

set_option maxHeartbeats 1000000 in
/-- Chapter 11's runs. -/
theorem runs_any (w : World) : Calls Try.prog 17 #[] w fun e w' => e = .returned (.bool true) ∧ Kept (fun _ => True) w w' := by
  have c0 := hold_yes 100 90 100 (by decide) (by decide) (by decide) w
  have e0 : (100 : Int) + share 90 100 = 173 := by decide
  rw [e0] at c0
  clear e0
  go_enter Try.func17, Try.ntmps17
  go_wp2_with fail
  refine c0.mono ?_
  rintro e w0 ⟨rfl, k, rfl⟩
  clear c0
  have k0 : Kept (fun _ => True) w (w.drewN k) := (Kept.refl _ _).drewN k
  generalize w.drewN k = w0 at *
  go_wp2_with fail
  refine (new_ok 100 (by decide)).mono ?_
  rintro e w1 ⟨rfl, h1, k1⟩
  have g1 : Hid (GM w w1 w0.heap.size Ga.none) := ⟨h1, k0.trans k1, k0.size⟩
  clear h1 k1 k0
  generalize w0.heap.size = B at *
  have c := ask_yes g1.out.now 0 5 10 (by decide)
  go_wp2_with fail
  refine c.mono ?_
  rintro e w2 ⟨rfl, s2⟩
  have g2 : Hid (GM w w2 B ⟨1, 0, 15⟩) := g1.out.step s2
  clear c s2 g1
  have c := ask_no g2.out.now 1 14 10 (by decide)
  go_wp2_with fail
  refine c.mono ?_
  rintro e _ ⟨rfl, rfl⟩
  clear c
  have c := ask_yes g2.out.now 1 15 10 (by decide)
  go_wp2_with fail
  refine c.mono ?_
  rintro e w3 ⟨rfl, s3⟩
  have g3 : Hid (GM w w3 B ⟨1, 1, 25⟩) := g2.out.step s3
  clear c s3 g2
  go_wp2
  go_ret
  exact ⟨rfl, g3.out.kept⟩

end Go.Proofs.Ytmppejhcjnodhaa
