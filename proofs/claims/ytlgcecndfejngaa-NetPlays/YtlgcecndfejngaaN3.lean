/-
  The program's net, plainly: which messages are under way, and which blocks are its own; an append of one message.
-/
import Derived.Test.YtlgcecndfejngaaN2
import Derived.Deep.RegionHeldLaw
namespace Go.Proofs.Ytlgcecndfejngaa
open Go.RowKit

/-- The body of a message: bytes in a row of their own, in a block of F. -/
structure Body (w : World) (F : Nat → Prop) (bs : List UInt8) (v : Value) : Prop where
  own : w.ownsRow 0 5 1 v bs.length (cells bs)
  most : bs.length ≤ 140737488355328
  foot : ∀ k, v.ownBlock = some k → F k

/-- A message with the value of its body, as three cells. -/
def cell3 (p : Ms × Value) : Int × Int × Value := (p.1.f, p.1.t, p.2)

/-- The program's net: ms are under way, n nodes, s were sent; all its blocks are of F. -/
structure Net1 (w : World) (B : Nat) (F : Nat → Prop) (v : Value) (ps : List (Ms × Value)) (n s : Int) : Prop where
  nt : Nt 57 30 w B v (ps.map cell3) n s
  body : ∀ p ∈ ps, Body w F p.1.b p.2
  fB : F B
  fv : ∀ x, v.ownBlock = some x → F x
  lt : ∀ x, F x → x < w.heap.size

/-- What owns a row of bytes is neither the net nor the row of messages. -/
theorem Nt.apart {t e : TypeId} {w : World} {B b m : Nat} {v u : Value} {xs : List (Int × Int × Value)} {n s : Int} {l : List Value} (h : Nt t e w B v xs n s) (ht : t ≠ 5) (he : e ≠ 5) (hu : w.ownsRow b 5 1 u m l) : ∀ k, u.ownBlock = some k → k ≠ B ∧ v.ownBlock ≠ some k := by
  intro k hk
  rcases hu.2 with ⟨rfl, _⟩ | ⟨g, cap, cur, rfl, _, hg, _⟩
  · simp [Value.ownBlock] at hk
  · simp [Value.ownBlock] at hk
    subst hk
    refine ⟨fun q => ?_, fun q => ?_⟩
    · subst q
      rw [h.self] at hg
      simp at hg
      exact ht hg.2
    · rcases h.own.2 with ⟨hv, _⟩ | ⟨g', cap', cur', hv, _, hg', _⟩
      · rw [hv] at q; simp [Value.ownBlock] at q
      · rw [hv] at q; simp [Value.ownBlock] at q
        subst q
        rw [hg'] at hg
        simp at hg
        exact he hg.2

theorem Body.kept {p : Nat → Prop} {w w' : World} {F : Nat → Prop} {bs : List UInt8} {v : Value} (h : Body w F bs v) (k : Kept p w w') (hp : ∀ x, v.ownBlock = some x → p x) : Body w' F bs v :=
  ⟨own_kept h.own k hp, h.most, h.foot⟩
theorem Body.wider {w : World} {F G : Nat → Prop} {bs : List UInt8} {v : Value} (h : Body w F bs v) (hg : ∀ x, F x → G x) : Body w G bs v :=
  ⟨h.own, h.most, fun k hk => hg k (h.foot k hk)⟩

section
variable {w : World} {B : Nat} {F : Nat → Prop} {v : Value} {ps : List (Ms × Value)} {n s : Int}

theorem Net1.kept {p : Nat → Prop} {w' : World} (h : Net1 w B F v ps n s) (k : Kept p w w') (hp : ∀ x, F x → p x) : Net1 w' B F v ps n s :=
  ⟨h.nt.kept k (hp B h.fB) (fun x hx => hp x (h.fv x hx)), fun q hq => (h.body q hq).kept k (fun x hx => hp x ((h.body q hq).foot x hx)), h.fB, h.fv, fun x hx => Nat.lt_of_lt_of_le (h.lt x hx) k.size⟩

/-- Behind a step: what is new is of F too; what is not of F is as it was. -/
structure St1 (w w' : World) (B : Nat) (F F' : Nat → Prop) (v : Value) (ps : List (Ms × Value)) (n s : Int) : Prop where
  now : Net1 w' B F' v ps n s
  kept : Kept (fun x => ¬ F x) w w'
  new : ∀ x, F' x → F x ∨ w.heap.size ≤ x

/-- The net's messages have turned, the bodies are among those that there were. -/
theorem Net1.less {w' : World} {v' : Value} {qs : List (Ms × Value)} {n' s' : Int} (h : Net1 w B F v ps n s) (k : NStep 57 30 w w' B v v' (qs.map cell3) n' s') (hat : ∀ x, v'.ownBlock = some x → v.ownBlock = some x) (hq : ∀ q ∈ qs, q ∈ ps) : St1 w w' B F F v' qs n' s' :=
  ⟨⟨k.now, fun q hm => (h.body q (hq q hm)).kept k.kept (h.nt.apart (by decide) (by decide) (h.body q (hq q hm)).own), h.fB, fun x hx => h.fv x (hat x hx), fun x hx => Nat.lt_of_lt_of_le (h.lt x hx) k.kept.size⟩,
   k.kept.mono (fun x _ hx => ⟨fun q => hx (q ▸ h.fB), fun q => hx (h.fv x q)⟩), fun x hx => .inl hx⟩
/-- One message more. -/
theorem Net1.more {w' : World} {v' : Value} {p : Ms × Value} {n' s' : Int} (h : Net1 w B F v ps n s) (k : NStep 57 30 w w' B v v' ((ps ++ [p]).map cell3) n' s') (hp : ∀ G : Nat → Prop, (∀ x, F x → G x) → (∀ x, w.heap.size ≤ x → x < w'.heap.size → G x) → Body w' G p.1.b p.2) :
    St1 w w' B F (fun x => F x ∨ (w.heap.size ≤ x ∧ x < w'.heap.size)) v' (ps ++ [p]) n' s' := by
  refine ⟨⟨k.now, fun q hm => ?_, .inl h.fB, fun x hx => ?_, fun x hx => ?_⟩, k.kept.mono (fun x _ hx => ⟨fun q => hx (q ▸ h.fB), fun q => hx (h.fv x q)⟩), fun x hx => hx.imp id And.left⟩
  · rcases List.mem_append.1 hm with hm | hm
    · exact ((h.body q hm).kept k.kept (h.nt.apart (by decide) (by decide) (h.body q hm).own)).wider (fun x hx => .inl hx)
    · rw [List.mem_singleton.1 hm]
      exact hp _ (fun x hx => .inl hx) (fun x h1 h2 => .inr ⟨h1, h2⟩)
  · rcases k.new x hx with q | q
    · exact .inl (h.fv x q)
    · exact .inr ⟨q, k.now.rowlt x hx⟩
  · rcases hx with hx | hx
    · exact Nat.lt_of_lt_of_le (h.lt x hx) k.kept.size
    · exact hx.2
end

theorem own_zero {e sz : Nat} {w : World} {b n : Nat} {v : Value} {xs : List Value} (h : w.ownsRow b e sz v n xs) : w.ownsRow 0 e sz v n xs := by
  refine ⟨h.1, ?_⟩
  rcases h.2 with h0 | ⟨g, cap, cur, rfl, hb, rest⟩
  · exact .inl h0
  · exact .inr ⟨g, cap, cur, rfl, Nat.zero_le _, rest⟩
theorem shape_any {w : World} {b e sz n : Nat} {v : Value} {xs : List Value} (h : w.ownsRow b e sz v n xs) : ∃ ao cap, v = .slice ao n cap := by
  rcases h.2 with ⟨e, rfl⟩ | ⟨g, cap, _, e, _⟩
  · exact ⟨_, _, e⟩
  · exact ⟨_, _, e⟩

theorem Try.cellsMsg : (Value.agg #[.int .i64 0, .int .i64 0, .slice none 0 0]).cells.size = 3 := by simp [Value.cells]

/-- An append of one message that lies in a block by itself. T: the slice's type, e: the message's. -/
theorem append_msg {T e by' : Nat} {z : Value} (hT : Try.prog.underlying T = some (.slice e)) (hI : (Try.prog.info? e).map (fun i => (i.zero, i.size, i.bytes)) = some (some z, 3, by')) (hz : z.cells.size = 3) (hby : by' ≤ 64)
    (w : World) (ty : TypeId) (v : Value) (n : Nat) (xs : List (Int × Int × Value)) (hn : xs.length = n) (hown : w.ownsRow 0 e 3 v n (row xs)) (G : Nat) (x : Int × Int × Value) (fr : Nat × Nat) (hG : w.heap[G]? = some (.cells #[.int .i64 x.1, .int .i64 x.2.1, x.2.2] e fr)) (h1 : x.2.2.oneCell' = true) (hm : n ≤ 600) :
    ∃ ao' cap' w', (Builtin.append_ #[T, T] ty #[v, .slice (some ⟨G, 0, none⟩) 1 1]).run Try.prog w = .ok (.slice ao' (n + 1) cap') w' ∧ w'.ownsRow 0 e 3 (.slice ao' (n + 1) cap') (n + 1) (row xs ++ row [x]) ∧ w.grownBy w' v.ownBlock ∧
      ((Value.slice ao' (n + 1) cap').ownBlock = v.ownBlock ∨ (Value.slice ao' (n + 1) cap').ownBlock = some w.heap.size) := by
  obtain ⟨i, hi, hz0, hz1, hz2⟩ := info_parts hI
  obtain ⟨v', w', hr, h2, h3, _, h5⟩ := run_append_own_at (P := Try.prog) w 0 T ty e i z 3 by' hT hi hz0 hz1 hz2 hz (by decide) v n (row xs) hown ⟨G, 0, none⟩ 1 1 (row [x]) (by rw [row_length]; rfl) (World.news_of_block (w := w) hG) (row_one (fun y hy => by rw [List.mem_singleton.1 hy]; exact h1)) (by unfold maxLen; omega) (Nat.le_trans (Nat.mul_le_mul (by omega : n + 1 ≤ 601) hby) (by decide)) (Nat.zero_le _)
  obtain ⟨ao', cap', rfl⟩ := shape_any h2
  exact ⟨ao', cap', w', hr, h2, h3, h5⟩

theorem wpList_append_msg {T e by' : Nat} {z : Value} {w : World} {ops : Array Oper} {rest : List Oper} {o : Oper} {a : Act} {Q : Exit → Act → World → Prop} (hT : Try.prog.underlying T = some (.slice e)) (hI : (Try.prog.info? e).map (fun i => (i.zero, i.size, i.bytes)) = some (some z, 3, by')) (hz : z.cells.size = 3) (hby : by' ≤ 64)
    (hgd : o.guard = none) (sl y : Operand) (ho : o.op = .call { callee := .builtin .append, args := #[sl, y], argTypes := #[T, T] })
    (v : Value) (n : Nat) (xs : List (Int × Int × Value)) (hs : a.eval sl = v) (hn : xs.length = n) (hown : w.ownsRow 0 e 3 v n (row xs)) (G : Nat) (hy : a.eval y = .slice (some ⟨G, 0, none⟩) 1 1) (x : Int × Int × Value) (fr : Nat × Nat) (hG : w.heap[G]? = some (.cells #[.int .i64 x.1, .int .i64 x.2.1, x.2.2] e fr)) (h1 : x.2.2.oneCell' = true) (hm : n ≤ 600)
    (h : ∀ ao' cap' w', w'.ownsRow 0 e 3 (.slice ao' (n + 1) cap') (n + 1) (row xs ++ row [x]) → w.grownBy w' v.ownBlock → ((Value.slice ao' (n + 1) cap').ownBlock = v.ownBlock ∨ (Value.slice ao' (n + 1) cap').ownBlock = some w.heap.size) → wpList Try.prog ops Q rest (a.put o.dst (.slice ao' (n + 1) cap')) w') : wpList Try.prog ops Q (o :: rest) a w := by
  refine wpList_plain hgd fun K hK => ?_
  obtain ⟨ao', cap', w', hr, h2, h3, h4⟩ := append_msg hT hI hz hby w o.type v n xs hn hown G x fr hG h1 hm
  unfold Oper.wp execOp
  simp only [ho, resolve, invoke, builtin, Sem.run_bind, Sem.run_pure, Result.andThen_ok, List.map_toArray, List.map_cons, List.map_nil, hs, hy, hr]
  exact hK _ _ (h ao' cap' w' h2 h3 h4)

theorem step_append_msg {T e by' : Nat} {z : Value} {w : World} {ops : Array Oper} {o : Oper} {a : Act} {K : Act → World → Prop} {Q : Exit → Act → World → Prop} {E : Prop} (hT : Try.prog.underlying T = some (.slice e)) (hI : (Try.prog.info? e).map (fun i => (i.zero, i.size, i.bytes)) = some (some z, 3, by')) (hz : z.cells.size = 3) (hby : by' ≤ 64)
    (hgd : o.guard = none) (sl y : Operand) (ho : o.op = .call { callee := .builtin .append, args := #[sl, y], argTypes := #[T, T] })
    (v : Value) (n : Nat) (xs : List (Int × Int × Value)) (hs : a.eval sl = v) (hn : xs.length = n) (hown : w.ownsRow 0 e 3 v n (row xs)) (G : Nat) (hy : a.eval y = .slice (some ⟨G, 0, none⟩) 1 1) (x : Int × Int × Value) (fr : Nat × Nat) (hG : w.heap[G]? = some (.cells #[.int .i64 x.1, .int .i64 x.2.1, x.2.2] e fr)) (h1 : x.2.2.oneCell' = true) (hm : n ≤ 600)
    (h : ∀ ao' cap' w', w'.ownsRow 0 e 3 (.slice ao' (n + 1) cap') (n + 1) (row xs ++ row [x]) → w.grownBy w' v.ownBlock → ((Value.slice ao' (n + 1) cap').ownBlock = v.ownBlock ∨ (Value.slice ao' (n + 1) cap').ownBlock = some w.heap.size) → K (a.put o.dst (.slice ao' (n + 1) cap')) w') : if Region.wanted o (yielded ops a.tmps) = true then Oper.wp Try.prog o a w K Q else E := by
  have hw : Region.wanted o (yielded ops a.tmps) = true := by simp [Region.wanted, hgd]
  rw [if_pos hw]
  obtain ⟨ao', cap', w', hr, h2, h3, h4⟩ := append_msg hT hI hz hby w o.type v n xs hn hown G x fr hG h1 hm
  unfold Oper.wp execOp
  simp only [ho, resolve, invoke, builtin, Sem.run_bind, Sem.run_pure, Result.andThen_ok, List.map_toArray, List.map_cons, List.map_nil, hs, hy, hr]
  exact h ao' cap' w' h2 h3 h4

end Go.Proofs.Ytlgcecndfejngaa
