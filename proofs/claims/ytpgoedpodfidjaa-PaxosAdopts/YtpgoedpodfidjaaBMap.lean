/-
  A map of votes by slots, in memory.
-/
import Derived.Test.YtpgoedpodfidjaaBPlain
import Derived.Maps.OwnSet
import Derived.Maps.RangeWalk
namespace Go.Proofs.Ytpgoedpodfidjaa
open Go.RowKit

theorem vval_inj {x y : Vo} (h : vval x = vval y) : x = y := by
  obtain ⟨s, ⟨r, n⟩, v⟩ := x
  obtain ⟨s', ⟨r', n'⟩, v'⟩ := y
  simp [vval] at h
  obtain ⟨rfl, rfl, rfl, rfl⟩ := h
  rfl
/-- What a vote reads as. -/
def vd (x : Vo) : DataW Unit := .agg [.lit (.int .i64 x.s), .lit (.int .i64 x.b.r), .lit (.int .i64 x.b.n), .lit (.string x.v.data.toList)]
theorem vd_inj {x y : Vo} (h : vd x = vd y) : x = y := by
  obtain ⟨s, ⟨r, n⟩, ⟨v⟩⟩ := x
  obtain ⟨s', ⟨r', n'⟩, ⟨v'⟩⟩ := y
  simp [vd] at h
  obtain ⟨rfl, rfl, rfl, rfl⟩ := h
  rfl
def voteL : List Value → Option (DataW Unit × List MemPlace)
  | [.int .i64 s, .int .i64 r, .int .i64 n, .string t] => some (vd ⟨s, ⟨r, n⟩, t⟩, [])
  | _ => none
def voteR : Value → Option (DataW Unit × List MemPlace)
  | .agg a => voteL a.toList
  | _ => none
theorem voteR_mk (x : Vo) : voteR (vval x) = some (vd x, []) := rfl
theorem voteR_inv {v : Value} {z : DataW Unit × List MemPlace} (h : voteR v = some z) : ∃ x, v = vval x ∧ z = (vd x, []) := by
  unfold voteR at h
  split at h
  · rename_i a
    obtain ⟨l⟩ := a
    unfold voteL at h
    split at h
    · rename_i s r n t e
      simp only at e
      subst e
      exact ⟨⟨s, ⟨r, n⟩, t⟩, rfl, by simpa using h.symm⟩
    · cases h
  · cases h

theorem slot_key : Maps.Keyed Try.prog 3 := Maps.int_keyed Try.underlying3
theorem slot_of {s : Nat} (hs : s < 512) : keyOf Try.prog 3 (.int .i64 s) = some (.int .i64 s) :=
  Maps.keyOf_int_mk Try.underlying3 (WalkArith.wf_i64 (by omega))
theorem zeroVote (w : World) : (zeroValue 33).run Try.prog w = .ok (vval ⟨0, ⟨0, 0⟩, .empty⟩) w := by kernel_rfl

/-- The datum has these votes. -/
structure Holds (D : DataW Unit) (f : Vs) : Prop where
  no : ∀ s : Nat, s < 512 → f s = none → Maps.has D (.int .i64 s) = false
  yes : ∀ (s : Nat) x, s < 512 → f s = some x → ∀ z, D.atKey (.int .i64 s) z = vd ⟨s, x.1, x.2⟩

/-- Block b is a map with these votes. -/
def Mp (w : World) (b n : Nat) (f : Vs) : Prop := ∃ D : DataW Unit, w.ownsMap Try.prog 3 voteR b n D ∧ Holds D f

section
variable {w w' : World} {b n : Nat} {f : Vs}

theorem Mp.lt (h : Mp w b n f) : b < w.heap.size := by obtain ⟨D, ho, _⟩ := h; exact ho.lt
theorem Mp.isMap (h : Mp w b n f) : ∃ es clock, w.heap[b]? = some (.map es clock) := by obtain ⟨D, ⟨es, clock, hb, _⟩, _⟩ := h; exact ⟨es, clock, hb⟩
theorem Mp.kept {p : Nat → Prop} (h : Mp w b n f) (k : Kept p w w') (hp : p b) : Mp w' b n f := by
  have hlt := h.lt
  obtain ⟨D, ⟨es, clock, hb, r⟩, hh⟩ := h
  exact ⟨D, ⟨es, clock, (k.block b hlt hp).trans hb, r⟩, hh⟩
theorem Mp.mono {m : Nat} (h : Mp w b n f) (hm : n ≤ m) : Mp w b m f := by
  obtain ⟨D, ho, hh⟩ := h; exact ⟨D, ho.mono hm, hh⟩
theorem Mp.congr {g : Vs} (h : Mp w b n f) (hg : ∀ s, s < 512 → g s = f s) : Mp w b n g := by
  obtain ⟨D, ho, hh⟩ := h
  exact ⟨D, ho, fun s hs e => hh.no s hs (by rw [← hg s hs]; exact e), fun s x hs e => hh.yes s x hs (by rw [← hg s hs]; exact e)⟩
theorem Mp.made (w : World) : Mp (w.alloc (.map #[] 0)) w.heap.size 0 (fun _ => none) :=
  ⟨.map [], World.ownsMap_made _ _ _ _, fun _ _ _ => rfl, fun _ _ _ h => by cases h⟩
theorem Kept.turned (h : w.mapTurned w' b) : Kept (· ≠ b) w w' := by
  have g := h.grown
  exact ⟨g.os, g.tape, g.output, g.size, fun k hk hne => g.block k hk (fun e => hne (by cases e; rfl))⟩

/-- v, ok := m[s] -/
theorem Mp.look_some (h : Mp w b n f) {s : Nat} (hs : s < 512) {x : Bl × ByteArray} (hx : f s = some x) :
    (Instr.lookup 76 (.map (some b)) (.int .i64 s) true).run Try.prog w = .ok (.tuple #[.agg #[.int .i64 s, .int .i64 x.1.r, .int .i64 x.1.n, .string x.2], .bool true]) w := by
  obtain ⟨D, ho, hh⟩ := h
  obtain ⟨v, ps, hr, hv⟩ := ho.look_ok slot_key Try.underlying76 (zeroVote w) (voteR_mk _) (slot_of hs)
  rw [Maps.has_true_of_atKey (hh.yes s x hs hx)] at hr
  rw [hh.yes s x hs hx] at hv
  obtain ⟨y, rfl, hy⟩ := voteR_inv hv
  simp only [Prod.mk.injEq] at hy
  rw [← vd_inj hy.1] at hr
  exact hr
theorem Mp.look_none (h : Mp w b n f) {s : Nat} (hs : s < 512) (hx : f s = none) :
    (Instr.lookup 76 (.map (some b)) (.int .i64 s) true).run Try.prog w = .ok (.tuple #[.agg #[.int .i64 0, .int .i64 0, .int .i64 0, .string .empty], .bool false]) w := by
  obtain ⟨D, ho, hh⟩ := h
  obtain ⟨v, ps, hr, hv⟩ := ho.look_ok slot_key Try.underlying76 (zeroVote w) (voteR_mk _) (slot_of hs)
  rw [hh.no s hs hx] at hr
  rw [Maps.atKey_of_not_has (hh.no s hs hx)] at hv
  obtain ⟨y, rfl, hy⟩ := voteR_inv hv
  simp only [Prod.mk.injEq] at hy
  rw [← vd_inj hy.1] at hr
  exact hr

theorem lit_ne {a b : Nat} (h : a ≠ b) : (Lit.int .i64 a) ≠ (Lit.int .i64 b) := by
  intro e; simp at e; omega

theorem Holds.put {D : DataW Unit} (hm : Maps.IsMap D) (h : Holds D f) (s : Nat) (hs : s < 512) (bl : Bl) (v : ByteArray) : Holds (D.put (.int .i64 s) (vd ⟨s, bl, v⟩)) (upd f s bl v) := by
  have hk : WideAt.IsKeyLit (.int .i64 s) := trivial
  refine ⟨fun k hk' e => ?_, fun k x hk' e z => ?_⟩
  · unfold upd at e
    split at e
    · cases e
    · rename_i hne
      rw [Maps.has_put_other (lit_ne hne)]
      exact h.no k hk' e
  · unfold upd at e
    split at e
    · rename_i he
      subst he
      cases e
      exact Maps.atKey_put_same hm hk _ _
    · rename_i hne
      rw [Maps.atKey_put_other (lit_ne hne)]
      exact h.yes k x hk' e z

/-- m[s] = vote -/
theorem Mp.store (h : Mp w b n f) {s : Nat} (hs : s < 512) (hn : n < 1000000) (bl : Bl) (v : ByteArray) :
    ∃ w', (Instr.mapUpdate 76 (.map (some b)) (.int .i64 s) (.agg #[.int .i64 s, .int .i64 bl.r, .int .i64 bl.n, .string v])).run Try.prog w = .ok () w' ∧ Mp w' b (n + 1) (upd f s bl v) ∧ Kept (· ≠ b) w w' ∧ w'.heap.size = w.heap.size := by
  obtain ⟨D, ho, hh⟩ := h
  obtain ⟨w', hr, h1, h2⟩ := ho.store slot_key Try.underlying76 (by unfold maxLen; omega) (slot_of hs) (voteR_mk ⟨s, bl, v⟩)
  refine ⟨w', hr, ⟨_, h1, hh.put ho.isMap s hs bl v⟩, Kept.turned h2, ?_⟩
  obtain ⟨es, clock, es', clock', hb, rfl⟩ := h2
  simp [ChangeMaps.setBlock]
end

end Go.Proofs.Ytpgoedpodfidjaa
