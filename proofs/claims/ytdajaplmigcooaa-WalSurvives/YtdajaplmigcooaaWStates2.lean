/-
  States that were kept aside while a Log goes on.
-/
import Derived.Test.YtdajaplmigcooaaWStates
namespace Go.Proofs.Ytdajaplmigcooaa
open Go.RowKit

variable {w0 w w' : World} {L B : Nat} {v v' tv tv' rv : Value} {bs bs' : List UInt8} {s s' base : Nat} {ss ss' : List (List UInt8)} {Ls : List (Nat × List (List UInt8))}
/-- Slices of texts that the Log does not own. -/
def Aside (w0 w : World) (F : Nat → Prop) (Ls : List (Nat × List (List UInt8))) : Prop := ∀ x ∈ Ls, Txs w w0.heap.size (sv x) x.2 ∧ ¬ F x.1
theorem Aside.lt {F : Nat → Prop} (h : Aside w0 w F Ls) {x : Nat × List (List UInt8)} (hx : x ∈ Ls) : w0.heap.size ≤ x.1 ∧ x.1 < w.heap.size := World.ownsRow.lt (h x hx).1 x.1 rfl
theorem Aside.step {F F' : Nat → Prop} (h : Aside w0 w F Ls) (m : Moved F F' w w') : Aside w0 w' F' Ls := by
  intro x hx
  refine ⟨(h x hx).1.kept m.kept (fun k hk => ?_), fun hF => ?_⟩
  · cases hk
    exact (h x hx).2
  · rcases m.new x.1 hF with e | e
    · exact (h x hx).2 e
    · have := (h.lt hx).2; omega
theorem Aside.ahead {F : Nat → Prop} (h : Aside w0 w F Ls) (k : Kept (fun _ => True) w w') : Aside w0 w' F Ls := fun x hx => ⟨(h x hx).1.kept k (fun _ _ => trivial), (h x hx).2⟩
/-- Other blocks are written. -/
theorem Aside.other {p : Nat → Prop} {F : Nat → Prop} (h : Aside w0 w F Ls) (k : Kept p w w') (hp : ∀ x ∈ Ls, p x.1) : Aside w0 w' F Ls := fun x hx => ⟨(h x hx).1.kept k (fun y hy => by cases hy; exact hp x hx), (h x hx).2⟩
theorem Aside.snoc {F : Nat → Prop} (h : Aside w0 w F Ls) {x : Nat × List (List UInt8)} (hx : Txs w w0.heap.size (sv x) x.2) (hF : ¬ F x.1) : Aside w0 w F (Ls ++ [x]) := by
  intro y hy
  rcases List.mem_append.1 hy with hy | hy
  · exact h y hy
  · obtain rfl := List.mem_singleton.1 hy
    exact ⟨hx, hF⟩
/-- The row of the states is none of the Log's blocks. -/
theorem Row2.apart (h : Row2 w base rv Ls) (l : Lg w L B v tv bs s ss) (k : Nat) (hk : rv.ownBlock = some k) : ¬ Foot L B v tv k := by
  obtain ⟨cur, fr, hh⟩ := own_type h hk
  rintro (e | e | e | e)
  · subst e
    have := hh.symm.trans l.self
    simp at this
  · subst e
    have := hh.symm.trans l.dk.self
    simp at this
  · obtain ⟨cur', fr', hh'⟩ := own_type l.dk.own e
    have := hh.symm.trans hh'
    simp at this
  · obtain ⟨cur', fr', hh'⟩ := own_type l.txs e
    have := hh.symm.trans hh'
    simp at this
theorem Row2.off (h : Row2 w base rv Ls) {b2 : Nat} {x : Nat × List (List UInt8)} (hx : Txs w b2 (sv x) x.2) : rv.ownBlock ≠ some x.1 := by
  intro e
  obtain ⟨cur, fr, hh⟩ := own_type h e
  obtain ⟨cur', fr', hh'⟩ := own_type hx (k := x.1) rfl
  have := hh.symm.trans hh'
  simp at this
/-- A Log stays while blocks that are not its own, and not old, are written. -/
theorem LM.other {p : Nat → Prop} (h : LM w0 w L B v tv bs s ss) (k : Kept p w w') (hp : ∀ x, Foot L B v tv x → p x) (ho : ∀ i, i < w0.heap.size → p i) : LM w0 w' L B v tv bs s ss :=
  ⟨h.lg.kept k hp, h.kept.then k (fun i hi _ => ho i hi), h.own⟩
/-- What All has just made is none of the Log's blocks. -/
theorem Lg.fresh (h : Lg w L B v tv bs s ss) : ¬ Foot L B v tv w.heap.size := fun hF => by have := h.size _ hF; omega

/-- A law's Log, with the states that were kept aside. -/
structure Kept2 (w0 w : World) (L B : Nat) (v tv : Value) (bs : List UInt8) (s : Nat) (ss : List (List UInt8)) (rv : Value) (Ls : List (Nat × List (List UInt8))) : Prop where
  lm : LM w0 w L B v tv bs s ss
  row : Row2 w w0.heap.size rv Ls
  each : Aside w0 w (Foot L B v tv) Ls
theorem Kept2.step (h : Kept2 w0 w L B v tv bs s ss rv Ls) (l : Lg w' L B v' tv' bs' s' ss') (m : Moved (Foot L B v tv) (Foot L B v' tv') w w') : Kept2 w0 w' L B v' tv' bs' s' ss' rv Ls :=
  ⟨h.lm.step l m, h.row.kept m.kept (fun k hk => h.row.apart h.lm.lg k hk), h.each.step m⟩
theorem Kept2.ahead (h : Kept2 w0 w L B v tv bs s ss rv Ls) (k : Kept (fun _ => True) w w') : Kept2 w0 w' L B v tv bs s ss rv Ls :=
  ⟨h.lm.ahead k, h.row.kept k (fun _ _ => trivial), h.each.ahead k⟩
/-- One more state is kept aside: what All has made in w1, behind w. -/
theorem Kept2.more {w1 w2 : World} {o : Obj} {rv' : Value} {x : Nat × List (List UInt8)} (h : Kept2 w0 w1 L B v tv bs s ss rv Ls) (hx : Txs w1 w0.heap.size (sv x) x.2) (hF : ¬ Foot L B v tv x.1) (hr : Row2 w2 w0.heap.size rv' (Ls ++ [x])) (hg : (w1.alloc o).grownBy w2 rv.ownBlock) : Kept2 w0 w2 L B v tv bs s ss rv' (Ls ++ [x]) := by
  have k : Kept (fun y => rv.ownBlock ≠ some y) w1 w2 := ((Kept.refl _ _).alloc o).grown hg (fun k _ e hp => hp e)
  refine ⟨h.lm.other k (fun y hy e => h.row.apart h.lm.lg y e hy) (fun i hi e => by have := (World.ownsRow.lt h.row i e).1; omega), hr, (h.each.snoc hx hF).other k ?_⟩
  intro y hy
  rcases List.mem_append.1 hy with hy | hy
  · exact h.row.off (h.each y hy).1
  · obtain rfl := List.mem_singleton.1 hy
    exact h.row.off hx

/-- Behind a crash a Log is opened again: the states are still there. -/
theorem Kept2.reopen {w6 w7 : World} {M : Nat} {v6 v7 t7 : Value} {bs6 bs7 : List UInt8} {s6 s7 : Nat} {ss7 : List (List UInt8)} (h : Kept2 w0 w L B v tv bs s ss rv Ls) (st : Step 60 w w6 B v v6 bs6 s6) (l : Lg w7 M B v7 t7 bs7 s7 ss7)
    (k : Kept (fun x => x ≠ B ∧ v6.ownBlock ≠ some x) w6 w7) (n : ∀ x, Foot M B v7 t7 x → x = B ∨ v6.ownBlock = some x ∨ w6.heap.size ≤ x) : Kept2 w0 w7 M B v7 t7 bs7 s7 ss7 rv Ls := by
  have aux : ∀ y, y < w.heap.size → ¬ Foot L B v tv y → (y ≠ B ∧ v.ownBlock ≠ some y) ∧ (y ≠ B ∧ v6.ownBlock ≠ some y) := by
    intro y hy hF
    have h1 : y ≠ B := fun e => hF (.inr (.inl e))
    have h2 : v.ownBlock ≠ some y := fun e => hF (.inr (.inr (.inl e)))
    refine ⟨⟨h1, h2⟩, h1, fun e => ?_⟩
    rcases st.new y e with e | e
    · exact h2 e
    · omega
  have hrow : ∀ g, rv.ownBlock = some g → (g ≠ B ∧ v.ownBlock ≠ some g) ∧ (g ≠ B ∧ v6.ownBlock ≠ some g) := fun g hg => aux g (World.ownsRow.lt h.row g hg).2 (h.row.apart h.lm.lg g hg)
  have hx : ∀ x ∈ Ls, (x.1 ≠ B ∧ v.ownBlock ≠ some x.1) ∧ (x.1 ≠ B ∧ v6.ownBlock ≠ some x.1) := fun x hx => aux x.1 (h.each.lt hx).2 (h.each x hx).2
  refine ⟨(h.lm.disk.step st).log l k n, (h.row.kept st.kept (fun g hg => (hrow g hg).1)).kept k (fun g hg => (hrow g hg).2), fun x hxm => ⟨((h.each x hxm).1.kept st.kept (fun g hg => by cases hg; exact (hx x hxm).1)).kept k (fun g hg => by cases hg; exact (hx x hxm).2), fun hF => ?_⟩⟩
  rcases n x.1 hF with e | e | e
  · exact (hx x hxm).1.1 e
  · exact (hx x hxm).2.2 e
  · have := (h.each.lt hxm).2
    have := st.kept.size
    omega

end Go.Proofs.Ytdajaplmigcooaa
