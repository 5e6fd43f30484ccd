/-
  Maps by numbers in memory, whatever their elements.
-/
import Derived.Test.YtllopkebamlgeaaKMap
namespace Go.Proofs.Ytllopkebamlgeaa
open Go.RowKit Go.Maps Go.Sort

theorem num_key : Maps.Keyed Try.prog 3 := Maps.int_keyed Try.underlying3
def Fits (z : Int) : Prop := -9223372036854775808 ≤ z ∧ z ≤ 9223372036854775807
theorem num_of {z : Int} (hs : Fits z) : keyOf Try.prog 3 (.int .i64 z) = some (.int .i64 z) :=
  Maps.keyOf_int_mk Try.underlying3 (WalkArith.wf_i64 hs)
theorem numlit_ne {a b : Int} (h : a ≠ b) : (Lit.int .i64 a) ≠ (Lit.int .i64 b) := by
  intro e; simp at e; exact h e
section
variable {α : Type} {C : Cde α}
structure HoldsI (C : Cde α) (D : DataW Unit) (f : Int → Option α) : Prop where
  no : ∀ z : Int, f z = none → Maps.has D (.int .i64 z) = false
  yes : ∀ (z : Int) a, f z = some a → ∀ d, D.atKey (.int .i64 z) d = C.dat a
def MpI (C : Cde α) (w : World) (b n : Nat) (f : Int → Option α) : Prop := ∃ D : DataW Unit, w.ownsMap Try.prog 3 C.R b n D ∧ HoldsI C D f
variable {w w' : World} {b n : Nat} {f : Int → Option α}
theorem MpI.lt (h : MpI C w b n f) : b < w.heap.size := by obtain ⟨D, ho, _⟩ := h; exact ho.lt
theorem MpI.isMap (h : MpI C w b n f) : ∃ es clock, w.heap[b]? = some (.map es clock) := by obtain ⟨D, ⟨es, clock, hb, _⟩, _⟩ := h; exact ⟨es, clock, hb⟩
theorem MpI.kept {p : Nat → Prop} (h : MpI C w b n f) (k : Kept p w w') (hp : p b) : MpI C w' b n f := by
  have hlt := h.lt
  obtain ⟨D, ⟨es, clock, hb, r⟩, hh⟩ := h
  exact ⟨D, ⟨es, clock, (k.block b hlt hp).trans hb, r⟩, hh⟩
theorem MpI.mono {m : Nat} (h : MpI C w b n f) (hm : n ≤ m) : MpI C w b m f := by
  obtain ⟨D, ho, hh⟩ := h; exact ⟨D, ho.mono hm, hh⟩
theorem MpI.made (C : Cde α) (w : World) : MpI C (w.alloc (.map #[] 0)) w.heap.size 0 (fun _ => none) :=
  ⟨.map [], World.ownsMap_made _ _ _ _, fun _ _ => rfl, fun _ _ h => by cases h⟩
theorem MpI.ne (h : MpI C w b n f) {X : Nat} {cs : Array Value} {t : TypeId} {fr : Nat × Nat} (hX : w.heap[X]? = some (.cells cs t fr)) : X ≠ b := fun e => by
  obtain ⟨es, clock, hmm⟩ := h.isMap
  subst e
  rw [hmm] at hX
  cases hX
theorem HoldsI.at {D : DataW Unit} (h : HoldsI C D f) (z : Int) (d : α) : D.atKey (.int .i64 z) (C.dat d) = C.dat ((f z).getD d) ∧ Maps.has D (.int .i64 z) = (f z).isSome := by
  cases hf : f z with
  | none => exact ⟨Maps.atKey_of_not_has (h.no z hf) _, h.no z hf⟩
  | some a => exact ⟨h.yes z a hf _, Maps.has_true_of_atKey (h.yes z a hf)⟩
theorem MpI.look (h : MpI C w b n f) {t e : TypeId} (ht : Try.prog.underlying t = some (.map 3 e)) {d : α} (hd : (zeroValue e).run Try.prog w = .ok (C.enc d) w) {z : Int} (hz : Fits z) :
    (Instr.lookup t (.map (some b)) (.int .i64 z) true).run Try.prog w = .ok (.tuple #[C.enc ((f z).getD d), .bool (f z).isSome]) w := by
  obtain ⟨D, ho, hh⟩ := h
  obtain ⟨v, ps, hr, hv⟩ := ho.look_ok num_key ht hd (C.reads d) (num_of hz)
  rw [(hh.at z d).2] at hr
  rw [(hh.at z d).1] at hv
  obtain ⟨y, rfl, hy⟩ := C.inv _ _ hv
  simp only [Prod.mk.injEq] at hy
  rw [← C.inj _ _ hy.1] at hr
  exact hr
def putI (f : Int → Option α) (x : Int) (a : α) : Int → Option α := fun y => if y = x then some a else f y
theorem HoldsI.put {D : DataW Unit} (hm : Maps.IsMap D) (h : HoldsI C D f) (x : Int) (a : α) : HoldsI C (D.put (.int .i64 x) (C.dat a)) (putI f x a) := by
  have hk : WideAt.IsKeyLit (.int .i64 x) := trivial
  refine ⟨fun y e => ?_, fun y v e d => ?_⟩
  · unfold putI at e
    split at e
    · cases e
    · rename_i hne
      rw [Maps.has_put_other (numlit_ne hne)]
      exact h.no y e
  · unfold putI at e
    split at e
    · rename_i he
      subst he
      cases e
      exact Maps.atKey_put_same hm hk _ _
    · rename_i hne
      rw [Maps.atKey_put_other (numlit_ne hne)]
      exact h.yes y v e d
theorem MpI.store (h : MpI C w b n f) {t e : TypeId} (ht : Try.prog.underlying t = some (.map 3 e)) {x : Int} (hx : Fits x) (hn : n ≤ 1000000) (a : α) :
    ∃ w', (Instr.mapUpdate t (.map (some b)) (.int .i64 x) (C.enc a)).run Try.prog w = .ok () w' ∧ MpI C w' b (n + 1) (putI f x a) ∧ Kept (· ≠ b) w w' ∧ w'.heap.size = w.heap.size := by
  obtain ⟨D, ho, hh⟩ := h
  obtain ⟨w', hr, h1, h2⟩ := ho.store num_key ht (by unfold maxLen; omega) (num_of hx) (C.reads a)
  exact ⟨w', hr, ⟨_, h1, hh.put ho.isMap x a⟩, turned_kept h2, turned_same h2⟩
end

end Go.Proofs.Ytllopkebamlgeaa
