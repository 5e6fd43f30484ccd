/-
  A map of what was chosen, by slots, in memory.
-/
import Derived.Test.YtmejeiadfcdogaaLPlain
import Derived.Maps.OwnSet
namespace Go.Proofs.Ytmejeiadfcdogaa
open Go.RowKit

def cval (v : List UInt8) : Value := .agg #[.string ⟨v.toArray⟩]
theorem cval_inj {x y : List UInt8} (h : cval x = cval y) : x = y := by
  simp [cval] at h
  exact h
def cd (v : List UInt8) : DataW Unit := .agg [.lit (.string v)]
theorem cd_inj {x y : List UInt8} (h : cd x = cd y) : x = y := by
  simp [cd] at h
  exact h
def chosenL : List Value → Option (DataW Unit × List MemPlace)
  | [.string t] => some (cd t.data.toList, [])
  | _ => none
def chosenR : Value → Option (DataW Unit × List MemPlace)
  | .agg a => chosenL a.toList
  | _ => none
theorem chosenR_mk (x : List UInt8) : chosenR (cval x) = some (cd x, []) := rfl
theorem chosenR_inv {v : Value} {z : DataW Unit × List MemPlace} (h : chosenR v = some z) : ∃ x, v = cval x ∧ z = (cd x, []) := by
  unfold chosenR at h
  split at h
  · rename_i a
    obtain ⟨l⟩ := a
    unfold chosenL at h
    split at h
    · rename_i t e
      simp only at e
      subst e
      refine ⟨t.data.toList, ?_, by simpa using h.symm⟩
      obtain ⟨⟨d⟩⟩ := t
      rfl
    · cases h
  · cases h

/-- A number that an int holds. -/
def Fit64 (z : Int) : Prop := -9223372036854775808 ≤ z ∧ z ≤ 9223372036854775807
theorem slot_key : Maps.Keyed Try.prog 3 := Maps.int_keyed Try.underlying3
theorem slot_of {z : Int} (hs : Fit64 z) : keyOf Try.prog 3 (.int .i64 z) = some (.int .i64 z) :=
  Maps.keyOf_int_mk Try.underlying3 (WalkArith.wf_i64 hs)
theorem zeroChosen (w : World) : (zeroValue 58).run Try.prog w = .ok (cval []) w := by kernel_rfl

/-- The datum has these values. -/
structure Holds (D : DataW Unit) (f : Vals) : Prop where
  no : ∀ z : Int, f z = none → Maps.has D (.int .i64 z) = false
  yes : ∀ (z : Int) x, f z = some x → ∀ d, D.atKey (.int .i64 z) d = cd x

/-- Block b is a map with these values. -/
def Mp (w : World) (b n : Nat) (f : Vals) : Prop := ∃ D : DataW Unit, w.ownsMap Try.prog 3 chosenR b n D ∧ Holds D f

theorem Kept.turned {w w' : World} {b : Nat} (h : w.mapTurned w' b) : Kept (· ≠ b) w w' := by
  have g := h.grown
  exact ⟨g.os, g.tape, g.output, g.size, fun k hk hne => g.block k hk (fun e => hne (by cases e; rfl))⟩
theorem turned_size {w w' : World} {b : Nat} (h : w.mapTurned w' b) : w'.heap.size = w.heap.size := by
  obtain ⟨es, clock, es', clock', hb, rfl⟩ := h
  simp [ChangeMaps.setBlock]
theorem lit_ne {a b : Int} (h : a ≠ b) : (Lit.int .i64 a) ≠ (Lit.int .i64 b) := by
  intro e; simp at e; exact h e

section
variable {w w' : World} {b n : Nat} {f : Vals}

theorem Mp.lt (h : Mp w b n f) : b < w.heap.size := by obtain ⟨D, ho, _⟩ := h; exact ho.lt
theorem Mp.isMap (h : Mp w b n f) : ∃ es clock, w.heap[b]? = some (.map es clock) := by obtain ⟨D, ⟨es, clock, hb, _⟩, _⟩ := h; exact ⟨es, clock, hb⟩
theorem Mp.kept {p : Nat → Prop} (h : Mp w b n f) (k : Kept p w w') (hp : p b) : Mp w' b n f := by
  have hlt := h.lt
  obtain ⟨D, ⟨es, clock, hb, r⟩, hh⟩ := h
  exact ⟨D, ⟨es, clock, (k.block b hlt hp).trans hb, r⟩, hh⟩
theorem Mp.mono {m : Nat} (h : Mp w b n f) (hm : n ≤ m) : Mp w b m f := by
  obtain ⟨D, ho, hh⟩ := h; exact ⟨D, ho.mono hm, hh⟩
theorem Mp.made (w : World) : Mp (w.alloc (.map #[] 0)) w.heap.size 0 (fun _ => none) :=
  ⟨.map [], World.ownsMap_made _ _ _ _, fun _ _ => rfl, fun _ _ h => by cases h⟩

theorem Holds.at {D : DataW Unit} (h : Holds D f) (z : Int) : D.atKey (.int .i64 z) (cd []) = cd ((f z).getD []) ∧ Maps.has D (.int .i64 z) = (f z).isSome := by
  cases hf : f z with
  | none => exact ⟨Maps.atKey_of_not_has (h.no z hf) _, h.no z hf⟩
  | some x => exact ⟨h.yes z x hf _, Maps.has_true_of_atKey (h.yes z x hf)⟩
/-- v, ok := m[z] -/
theorem Mp.look (h : Mp w b n f) {z : Int} (hz : Fit64 z) :
    (Instr.lookup 54 (.map (some b)) (.int .i64 z) true).run Try.prog w = .ok (.tuple #[.agg #[.string ⟨((f z).getD []).toArray⟩], .bool (f z).isSome]) w := by
  obtain ⟨D, ho, hh⟩ := h
  obtain ⟨v, ps, hr, hv⟩ := ho.look_ok slot_key Try.underlying54 (zeroChosen w) (chosenR_mk _) (slot_of hz)
  rw [(hh.at z).2] at hr
  rw [(hh.at z).1] at hv
  obtain ⟨y, rfl, hy⟩ := chosenR_inv hv
  simp only [Prod.mk.injEq] at hy
  rw [← cd_inj hy.1] at hr
  exact hr
/-- m[z] -/
theorem Mp.look1 (h : Mp w b n f) {z : Int} (hz : Fit64 z) :
    (Instr.lookup 54 (.map (some b)) (.int .i64 z) false).run Try.prog w = .ok (.agg #[.string ⟨((f z).getD []).toArray⟩]) w := by
  obtain ⟨D, ho, hh⟩ := h
  obtain ⟨v, ps, hr, hv⟩ := ho.lookup slot_key Try.underlying54 (zeroChosen w) (chosenR_mk _) (slot_of hz)
  rw [(hh.at z).1] at hv
  obtain ⟨y, rfl, hy⟩ := chosenR_inv hv
  simp only [Prod.mk.injEq] at hy
  rw [← cd_inj hy.1] at hr
  exact hr

theorem Holds.put {D : DataW Unit} (hm : Maps.IsMap D) (h : Holds D f) (s : Int) (v : List UInt8) : Holds (D.put (.int .i64 s) (cd v)) (put f s v) := by
  have hk : WideAt.IsKeyLit (.int .i64 s) := trivial
  refine ⟨fun z e => ?_, fun z x e d => ?_⟩
  · unfold Proofs.Ytmejeiadfcdogaa.put at e
    split at e
    · cases e
    · rename_i hne
      rw [Maps.has_put_other (lit_ne hne)]
      exact h.no z e
  · unfold Proofs.Ytmejeiadfcdogaa.put at e
    split at e
    · rename_i he
      subst he
      cases e
      exact Maps.atKey_put_same hm hk _ _
    · rename_i hne
      rw [Maps.atKey_put_other (lit_ne hne)]
      exact h.yes z x e d
theorem Holds.strike {D : DataW Unit} (h : Holds D f) (s : Int) : Holds (D.del (.int .i64 s)) (strike f s) := by
  refine ⟨fun z e => ?_, fun z x e d => ?_⟩
  · unfold Proofs.Ytmejeiadfcdogaa.strike at e
    split at e
    · rename_i he
      subst he
      exact Maps.has_del_same
    · rename_i hne
      rw [Maps.has_del_other (lit_ne hne)]
      exact h.no z e
  · unfold Proofs.Ytmejeiadfcdogaa.strike at e
    split at e
    · cases e
    · rename_i hne
      rw [Maps.atKey_del_other (lit_ne hne)]
      exact h.yes z x e d

/-- m[s] = chosen{v} -/
theorem Mp.store (h : Mp w b n f) {s : Int} (hs : Fit64 s) (hn : n < 1000000) (v : List UInt8) :
    ∃ w', (Instr.mapUpdate 54 (.map (some b)) (.int .i64 s) (.agg #[.string ⟨v.toArray⟩])).run Try.prog w = .ok () w' ∧ Mp w' b (n + 1) (put f s v) ∧ Kept (· ≠ b) w w' ∧ w'.heap.size = w.heap.size := by
  obtain ⟨D, ho, hh⟩ := h
  obtain ⟨w', hr, h1, h2⟩ := ho.store slot_key Try.underlying54 (by unfold maxLen; omega) (slot_of hs) (chosenR_mk v)
  exact ⟨w', hr, ⟨_, h1, hh.put ho.isMap s v⟩, Kept.turned h2, turned_size h2⟩
/-- delete(m, s) -/
theorem Mp.drop (h : Mp w b n f) {s : Int} (hs : Fit64 s) (ty : TypeId) :
    ∃ w', (Builtin.delete_ #[54, 3] ty #[.map (some b), .int .i64 s]).run Try.prog w = .ok (.tuple #[]) w' ∧ Mp w' b n (strike f s) ∧ Kept (· ≠ b) w w' ∧ w'.heap.size = w.heap.size := by
  obtain ⟨D, ho, hh⟩ := h
  obtain ⟨w', hr, h1, h2⟩ := ho.drop slot_key Try.underlying54 (slot_of hs) ty
  exact ⟨w', hr, ⟨_, h1, hh.strike s⟩, Kept.turned h2, turned_size h2⟩
end

/-- A log in block L, its values in the map M. -/
structure Lc (w : World) (L M n b t : Nat) (f : Vals) : Prop where
  self : w.heap[L]? = some (.cells #[.int .i64 (b : Nat), .int .i64 (t : Nat), .map (some M)] 56 (0, 0))
  mp : Mp w M n f
structure Lm (w : World) (L M n : Nat) (x : Lo) : Prop where
  lc : Lc w L M n x.base x.taken x.f
  ok : x.Ok

section
variable {w w' : World} {L M n b t : Nat} {f : Vals} {x : Lo}
theorem Lc.ne (h : Lc w L M n b t f) : L ≠ M := by
  intro e
  obtain ⟨es, clock, hb⟩ := h.mp.isMap
  have := h.self
  rw [e, hb] at this
  simp at this
theorem Lc.lt (h : Lc w L M n b t f) : L < w.heap.size := lt_of_block h.self
theorem Lc.mlt (h : Lc w L M n b t f) : M < w.heap.size := h.mp.lt
theorem Lc.kept {q : Nat → Prop} (h : Lc w L M n b t f) (k : Kept q w w') (ha : q L) (hm : q M) : Lc w' L M n b t f :=
  ⟨(k.block L h.lt ha).trans h.self, h.mp.kept k hm⟩
theorem Lc.all (h : Lc w L M n b t f) (k : Kept (fun _ => True) w w') : Lc w' L M n b t f := h.kept k trivial trivial
theorem Lm.all (h : Lm w L M n x) (k : Kept (fun _ => True) w w') : Lm w' L M n x := ⟨h.lc.all k, h.ok⟩
theorem Lm.kept {q : Nat → Prop} (h : Lm w L M n x) (k : Kept q w w') (ha : q L) (hm : q M) : Lm w' L M n x := ⟨h.lc.kept k ha hm, h.ok⟩
theorem Lc.mono {m : Nat} (h : Lc w L M n b t f) (hm : n ≤ m) : Lc w L M m b t f := ⟨h.self, h.mp.mono hm⟩
theorem Lm.mono {m : Nat} (h : Lm w L M n x) (hm : n ≤ m) : Lm w L M m x := ⟨h.lc.mono hm, h.ok⟩
theorem lcell {w : World} {b : Nat} {x y z : Value} {t : TypeId} (h : w.heap[b]? = some (.cells #[x, y, z] t (0, 0))) :
    w.cell? ⟨b, 0, none⟩ = some x ∧ w.cell? ⟨b, 1, none⟩ = some y ∧ w.cell? ⟨b, 2, none⟩ = some z ∧ w.frozen? ⟨b, 0, none⟩ = false ∧ w.frozen? ⟨b, 1, none⟩ = false ∧ w.frozen? ⟨b, 2, none⟩ = false := by
  refine ⟨by simp [World.cell?, h], by simp [World.cell?, h], by simp [World.cell?, h], by simp [World.frozen?, h], by simp [World.frozen?, h], by simp [World.frozen?, h]⟩
theorem lset {w : World} {b : Nat} {x y z : Value} {t : TypeId} (h : w.heap[b]? = some (.cells #[x, y, z] t (0, 0))) (u : Value) :
    (w.setCell ⟨b, 0, none⟩ u).heap[b]? = some (.cells #[u, y, z] t (0, 0)) ∧ (w.setCell ⟨b, 1, none⟩ u).heap[b]? = some (.cells #[x, u, z] t (0, 0)) := by
  constructor
  · rw [heap_setCell_same w b 0 _ t u h]; rfl
  · rw [heap_setCell_same w b 1 _ t u h]; rfl
/-- Base and Taken are written. -/
theorem Lc.setBase (h : Lc w L M n b t f) (k : Nat) : Lc (w.setCell ⟨L, 0, none⟩ (.int .i64 (k : Nat))) L M n k t f ∧ Kept (· ≠ L) w (w.setCell ⟨L, 0, none⟩ (.int .i64 (k : Nat))) := by
  have q : Kept (· ≠ L) w (w.setCell ⟨L, 0, none⟩ (.int .i64 (k : Nat))) := (Kept.refl _ _).setCell (by simp) _
  exact ⟨⟨(lset h.self _).1, h.mp.kept q (Ne.symm h.ne)⟩, q⟩
theorem Lc.setTaken (h : Lc w L M n b t f) (k : Nat) : Lc (w.setCell ⟨L, 1, none⟩ (.int .i64 (k : Nat))) L M n b k f ∧ Kept (· ≠ L) w (w.setCell ⟨L, 1, none⟩ (.int .i64 (k : Nat))) := by
  have q : Kept (· ≠ L) w (w.setCell ⟨L, 1, none⟩ (.int .i64 (k : Nat))) := (Kept.refl _ _).setCell (by simp) _
  exact ⟨⟨(lset h.self _).2, h.mp.kept q (Ne.symm h.ne)⟩, q⟩
end

theorem cell_kept {p : Nat → Prop} {w w' : World} {a : Addr} {v : Value} (k : Kept p w w') (h : w.cell? a = some v) (hp : p a.block) : w'.cell? a = some v :=
  (World.cell?_of_block (w := w) (k.block a.block (World.block_lt_of_cell? w _ h) hp)).trans h

end Go.Proofs.Ytmejeiadfcdogaa
