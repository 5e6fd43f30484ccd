/-
  Own words for the walks over package sum: bytes as cells, a frame that names what a call may write, slices of bytes in memory.
-/
import Derived.Test.YtnddpalngjmhnabDoorRows
import Derived.WalkKit
import Derived.WalkSpells
import Derived.OwnWalk
import Derived.OneCell
import Derived.Laws.Pointers
import Derived.Laws.CopyOwn
import Derived.Laws.IdiomStrings
import Derived.Laws.BytesString
import Derived.Laws.AppendOwnNone
import Derived.Maps.AppendAt
import Derived.Deep.AppendLies
import Derived.Deep.AppendSrc
import Derived.Deep.Onto
import Derived.Deep.RegionHeld3
import Derived.Deep.QuietTactic
import Derived.BigQuiet
import Derived.Deep.DrawnRows
import Derived.KernelRfl
import Derived.ScopeJumps
namespace Go.Proofs.YtnddpalngjmhnabDoor
open Go.RowKit

/-- Bytes as cells of memory. -/
def cells (bs : List UInt8) : List Value := bs.map fun b => Value.int .u8 b.toNat

theorem cells_length (bs : List UInt8) : (cells bs).length = bs.length := by simp [cells]
theorem cells_append (a b : List UInt8) : cells (a ++ b) = cells a ++ cells b := by simp [cells]
theorem cells_one (bs : List UInt8) : ∀ u ∈ cells bs, u.oneCell' = true := by
  intro u hu
  obtain ⟨_, _, rfl⟩ := List.mem_map.1 hu
  rfl
theorem cells_getElem (bs : List UInt8) (k : Nat) (h : k < bs.length) : (cells bs)[k]? = some (.int .u8 (bs[k]).toNat) := by
  simp [cells, h]

/-- Of the blocks that were there, those that p lets through are as they were; no other thing outside has turned. -/
structure Kept (p : Nat → Prop) (w w' : World) : Prop where
  os : w'.os = w.os
  tape : w'.tape = w.tape
  output : w'.output = w.output
  size : w.heap.size ≤ w'.heap.size
  block : ∀ k, k < w.heap.size → p k → w'.heap[k]? = w.heap[k]?

theorem Kept.refl (p : Nat → Prop) (w : World) : Kept p w w := ⟨rfl, rfl, rfl, Nat.le_refl _, fun _ _ _ => rfl⟩
theorem Kept.trans {p : Nat → Prop} {a b c : World} (h : Kept p a b) (k : Kept p b c) : Kept p a c :=
  ⟨k.os.trans h.os, k.tape.trans h.tape, k.output.trans h.output, Nat.le_trans h.size k.size, fun i hi hp => (k.block i (Nat.lt_of_lt_of_le hi h.size) hp).trans (h.block i hi hp)⟩
/-- Two steps, of which the second may write what was made behind the first. -/
theorem Kept.then {p q : Nat → Prop} {a b c : World} (h : Kept p a b) (k : Kept q b c) (hq : ∀ i, i < a.heap.size → p i → q i) : Kept p a c :=
  ⟨k.os.trans h.os, k.tape.trans h.tape, k.output.trans h.output, Nat.le_trans h.size k.size, fun i hi hp => (k.block i (Nat.lt_of_lt_of_le hi h.size) (hq i hi hp)).trans (h.block i hi hp)⟩
theorem Kept.mono {p q : Nat → Prop} {a b : World} (h : Kept p a b) (hq : ∀ i, i < a.heap.size → q i → p i) : Kept q a b :=
  ⟨h.os, h.tape, h.output, h.size, fun i hi hp => h.block i hi (hq i hi hp)⟩
theorem Kept.drew {p : Nat → Prop} {a w : World} (h : Kept p a w) : Kept p a w.drew := ⟨h.os, h.tape, h.output, h.size, h.block⟩
theorem Kept.drewN {p : Nat → Prop} {a w : World} (h : Kept p a w) (n : Nat) : Kept p a (w.drewN n) := ⟨h.os, h.tape, h.output, h.size, h.block⟩
theorem Kept.alloc {p : Nat → Prop} {a w : World} (h : Kept p a w) (o : Obj) : Kept p a (w.alloc o) :=
  h.trans ⟨rfl, rfl, rfl, by simp, fun k hk _ => Below.heap_alloc _ _ _ hk⟩
theorem Kept.setCell {p : Nat → Prop} {a w : World} (h : Kept p a w) {ad : Addr} (hp : ¬ p ad.block) (u : Value) : Kept p a (w.setCell ad u) :=
  h.trans ⟨rfl, rfl, rfl, by simp [World.setCell], fun k _ hk => Below.heap_setCell _ _ _ _ (fun e => hp (e ▸ hk))⟩
theorem Kept.grown {p : Nat → Prop} {a w w' : World} {row : Option Nat} (h : Kept p a w) (hg : w.grownBy w' row) (hr : ∀ k, k < a.heap.size → row = some k → ¬ p k) : Kept p a w' :=
  ⟨hg.os.trans h.os, hg.tape.trans h.tape, hg.output.trans h.output, Nat.le_trans h.size hg.size,
   fun k hk hp => (hg.block k (Nat.lt_of_lt_of_le hk h.size) (fun e => hr k hk e.symm hp)).trans (h.block k hk hp)⟩
/-- From 'Below': everything that was there is as it was. -/
theorem Kept.below {w w' : World} (h : Kept (fun _ => True) w w') : Below w.heap.size w w' :=
  ⟨h.os, h.tape, h.output, h.size, fun k hk => h.block k hk trivial⟩
theorem Kept.ofBelow {w w' : World} (p : Nat → Prop) (h : Below w.heap.size w w') : Kept p w w' :=
  ⟨h.os, h.tape, h.output, h.size, fun k hk _ => h.block k hk⟩

theorem Tryd.infoU8 : (Tryd.prog.info? 5).map (fun i => (i.zero, i.size, i.bytes)) = some (some (.int .u8 0), 1, 1) := by kernel_rfl
theorem Tryd.bytesU8 : Tryd.prog.bytesOf 5 = 1 := by kernel_rfl

theorem Tryd.elemBytes : Tryd.prog.elem 64 = 5 := by kernel_rfl
theorem size_u8 (w0 : World) : (sizeOf (Tryd.prog.elem 64)).run Tryd.prog w0 = .ok 1 w0 := by
  obtain ⟨i, hi, hz0, hz1, hz2⟩ := info_parts Tryd.infoU8
  rw [Tryd.elemBytes]
  simp [sizeOf, typeInfo, hi, hz1]

/-- The cells of a row from p on. -/
theorem row_cells {w : World} {R : Nat} {cur : Array Value} {t : TypeId} {fr : Nat × Nat} {bs : List UInt8} (hc : w.heap[R]? = some (.cells cur t fr)) (ht : cur.toList.take bs.length = cells bs) (k : Nat) (hk : k < bs.length) : w.cell? ⟨R, k, none⟩ = some (.int .u8 (bs[k]).toNat) := by
  rw [cell_of_row w R k cur _ _ hc]
  have := cells_getElem bs k hk
  rw [← ht, List.getElem?_take, if_pos hk] at this
  simpa using this

/-- string(b): b's cells are the bytes l. -/
theorem conv_run (w : World) (a : Addr) (cap : Nat) (l : List UInt8) (hc : ∀ j (hj : j < l.length), w.cell? (a.add j) = some (.int .u8 (l[j].toNat : Int))) :
    (convert 64 9 (.slice (some a) l.length cap)).run Tryd.prog w = .ok (.string ⟨l.toArray⟩) w :=
  run_convert_bytes_back (P := Tryd.prog) w 64 9 5 a cap l Tryd.underlying64 Tryd.underlying5 Tryd.underlying9 hc

/-- What a slice value of bytes reads as. -/
def Has (w : World) (ao : Option Addr) (bs : List UInt8) : Prop := 0 < bs.length → ∃ ad, ao = some ad ∧ ∀ j (hj : j < bs.length), w.cell? (ad.add j) = some (.int .u8 (bs[j].toNat : Int))
theorem Has.src {w : World} {ad : Addr} {bs : List UInt8} (h : ∀ j (hj : j < bs.length), w.cell? (ad.add j) = some (.int .u8 (bs[j].toNat : Int))) : ∀ j v, (cells bs)[j]? = some v → w.cell? (ad.add j) = some v := by
  intro j v hv
  have hj : j < bs.length := by
    have := (List.getElem?_eq_some_iff.1 hv).1
    simpa [cells] using this
  rw [h j hj]
  rw [cells_getElem bs j hj] at hv
  exact hv
theorem Tryd.infoSize : (Tryd.prog.info? 5).map (·.size) = some 1 := by
  obtain ⟨i, hi, hz0, hz1, hz2⟩ := info_parts Tryd.infoU8
  rw [hi]; simp [hz1]

theorem Kept.setRow {p : Nat → Prop} {a w : World} (h : Kept p a w) {g : Nat} (hp : ¬ p g) (cs : Array Value) : Kept p a (w.setRow g cs) :=
  h.trans ⟨rfl, rfl, rfl, by simp [World.setRow], fun k _ hk => setRow_other w g k cs (fun e => hp (e ▸ hk))⟩

/-- copy over a whole row that was made. -/
theorem copy_fill (W : World) (g : Nat) (cur : Array Value) (bs : List UInt8) (ao : Option Addr) (cap : Nat) (hg : W.heap[g]? = some (.cells cur 5 (0, 0))) (hc : cur.size = bs.length) (hs : Has W ao bs) :
    ∃ W', (Builtin.copy_ #[64, 64] 3 #[.slice (some ⟨g, 0, none⟩) bs.length bs.length, .slice ao bs.length cap]).run Tryd.prog W = .ok (.int .i64 bs.length) W' ∧
      W'.heap[g]? = some (.cells (cells bs).toArray 5 (0, 0)) ∧ Kept (· ≠ g) W W' ∧ W'.heap.size = W.heap.size := by
  by_cases h0 : 0 < bs.length
  · obtain ⟨ad, rfl, hcell⟩ := hs h0
    have hrun := run_copy_row (P := Tryd.prog) W 64 64 3 5 g 0 bs.length bs.length ad bs.length cap cur 5 (cells bs) Tryd.underlying64 Tryd.infoSize hg (by simp [cells_length]) (Has.src hcell) (by rw [cells_length]; omega) (cells_one bs)
    refine ⟨_, ?_, setRow_heap W g _ (cells bs).toArray 5 _ hg, (Kept.refl _ _).setRow (by simp) _, by simp [World.setRow]⟩
    rw [hrun]
    have e : (List.take 0 cur.toList ++ cells bs ++ List.drop (0 + (cells bs).length) cur.toList) = cells bs := by
      rw [cells_length, Nat.zero_add, List.drop_eq_nil_of_le (by simp [hc])]
      simp
    rw [e, cells_length]
    rfl
  · have hn : bs = [] := List.eq_nil_of_length_eq_zero (by omega)
    subst hn
    refine ⟨W, run_copy_none (P := Tryd.prog) W 64 64 3 5 _ _ _ _ _ _ Tryd.underlying64 Tryd.infoSize (by simp), ?_, Kept.refl _ _, rfl⟩
    have : cur = #[] := Array.eq_empty_of_size_eq_zero (by simpa using hc)
    rw [hg, this]; rfl

theorem Has.kept {p : Nat → Prop} {w w' : World} {ao : Option Addr} {bs : List UInt8} (h : Has w ao bs) (hk : Kept p w w') (hp : ∀ ad, ao = some ad → p ad.block) : Has w' ao bs := by
  intro h0
  obtain ⟨ad, rfl, hc⟩ := h h0
  refine ⟨ad, rfl, fun j hj => ?_⟩
  have hb : (ad.add j).block = ad.block := by unfold Addr.add; split <;> rfl
  have hlt : ad.block < w.heap.size := by
    have := World.block_lt_of_cell? w _ (hc j hj)
    rwa [hb] at this
  rw [World.cell?_of_block (w := w) (by rw [hb]; exact hk.block ad.block hlt (hp ad rfl))]
  exact hc j hj

/-- What make leaves, as a row that is known whole. -/
theorem made_row {w1 : World} {base g n : Nat} {xs : List Value} (h : w1.ownsRow base 5 1 (.slice (some ⟨g, 0, none⟩) n n) n xs) : ∃ cur : Array Value, w1.heap[g]? = some (.cells cur 5 (0, 0)) ∧ cur.size = n := by
  rcases h.2 with ⟨hv, _⟩ | ⟨g', cap, cur, hv, _, hh, _, _, hs, _⟩
  · simp at hv
  · simp at hv
    obtain ⟨rfl, rfl⟩ := hv
    exact ⟨cur, hh, by simpa using hs⟩

theorem own_shape {w : World} {b e n : Nat} {v : Value} {xs : List Value} (h : w.ownsRow b e 1 v n xs) : ∃ ao cap, v = .slice ao n cap := by
  rcases h.2 with ⟨e, rfl⟩ | ⟨g, cap, _, e, _⟩
  · exact ⟨_, _, e⟩
  · exact ⟨_, _, e⟩

theorem own_has {w : World} {b : Nat} {ao : Option Addr} {n cap : Nat} {bs : List UInt8} (h : w.ownsRow b 5 1 (.slice ao n cap) bs.length (cells bs)) : Has w ao bs := by
  intro h0
  rcases h.2 with ⟨_, h1⟩ | ⟨g, cap', cur, hv, _, hh, _, _, _, ht⟩
  · omega
  · injection hv with e1 e2 e3
    subst e1
    refine ⟨_, rfl, fun j hj => ?_⟩
    have e : (⟨g, 0, none⟩ : Addr).add j = ⟨g, j, none⟩ := by simp [Addr.add]; omega
    rw [e]
    exact row_cells hh (by simpa using ht) j hj

/-- A slice over a row that is known whole. -/
theorem has_row {w : World} {D : Nat} {bs : List UInt8} {fr : Nat × Nat} (h : w.heap[D]? = some (.cells (cells bs).toArray 5 fr)) : Has w (some ⟨D, 0, none⟩) bs := by
  intro _
  refine ⟨_, rfl, fun j hj => ?_⟩
  have e : (⟨D, 0, none⟩ : Addr).add j = ⟨D, j, none⟩ := by simp [Addr.add]; omega
  rw [e]
  exact row_cells h (List.take_of_length_le (by simp [cells_length])) j hj
/-- string(b) of such a slice. -/
theorem conv_row {w : World} {D cap : Nat} {bs : List UInt8} {fr : Nat × Nat} (h : w.heap[D]? = some (.cells (cells bs).toArray 5 fr)) :
    (convert 64 9 (.slice (some ⟨D, 0, none⟩) bs.length cap)).run Tryd.prog w = .ok (.string ⟨bs.toArray⟩) w := by
  refine conv_run w _ cap bs (fun j hj => ?_)
  have e : (⟨D, 0, none⟩ : Addr).add j = ⟨D, j, none⟩ := by simp [Addr.add]; omega
  rw [e]
  exact row_cells h (List.take_of_length_le (by simp [cells_length])) j hj

/-- A slice value of the bytes bs. -/
def Sl (w : World) (v : Value) (bs : List UInt8) : Prop := ∃ ao cap, v = .slice ao bs.length cap ∧ (ao = none → cap = 0) ∧ Has w ao bs

theorem own_sl {w : World} {b : Nat} {v : Value} {bs : List UInt8} (h : w.ownsRow b 5 1 v bs.length (cells bs)) : Sl w v bs := by
  rcases h.2 with ⟨rfl, h0⟩ | ⟨g, cap, cur, rfl, _⟩
  · exact ⟨none, 0, by rw [h0], fun _ => rfl, by intro h; omega⟩
  · exact ⟨_, _, rfl, by simp, own_has h⟩

theorem append_has (w : World) (ty : TypeId) (base : Nat) (v : Value) (n : Nat) (xs : List Value) (hown : w.ownsRow base 5 1 v n xs) (hbase : base ≤ w.heap.size) (ao : Option Addr) (m cap : Nat) (bs : List UInt8) (hm : bs.length = m) (hn : ao = none → cap = 0) (hs : Has w ao bs) (hb : n + m ≤ 140737488355328) :
    ∃ v' w', (Builtin.append_ #[64, 64] ty #[v, .slice ao m cap]).run Tryd.prog w = .ok v' w' ∧ w'.ownsRow base 5 1 v' (n + m) (xs ++ cells bs) ∧ w.grownBy w' v.ownBlock ∧
      (v'.ownBlock = v.ownBlock ∨ v'.ownBlock = some w.heap.size) := by
  obtain ⟨i, hi, hz0, hz1, hz2⟩ := info_parts Tryd.infoU8
  subst hm
  cases ao with
  | none =>
    have hc := hn rfl
    have h0 : bs.length = 0 := by
      rcases Nat.eq_zero_or_pos bs.length with h | h
      · exact h
      · obtain ⟨ad, e, _⟩ := hs h; cases e
    subst hc
    have : bs = [] := List.eq_nil_of_length_eq_zero h0
    subst this
    have hrun := run_append_owned_none (P := Tryd.prog) (w := w) base 64 ty 5 i 1 Tryd.underlying64 hi v n xs hown
    exact ⟨v, w, hrun, by simpa [cells] using hown, ⟨rfl, rfl, rfl, Nat.le_refl _, fun _ _ _ => rfl⟩, .inl rfl⟩
  | some ad =>
    have hsrc : ∀ j u, (cells bs)[j]? = some u → w.cell? (ad.add j) = some u := by
      intro j u hu
      have hj : j < bs.length := by
        have := (List.getElem?_eq_some_iff.1 hu).1
        simpa [cells] using this
      obtain ⟨ad', e, hc⟩ := hs (by omega)
      cases e
      exact Has.src hc j u hu
    obtain ⟨v', w', hr, h1, h2, _, h4⟩ := run_append_own_at (P := Tryd.prog) w base 64 ty 5 i (.int .u8 0) 1 1 Tryd.underlying64 hi hz0 hz1 hz2 rfl (by decide) v n xs hown ad bs.length cap (cells bs) (by simp [cells_length]) hsrc (cells_one bs) (by unfold maxLen; omega) (by omega) hbase
    exact ⟨v', w', hr, h1, h2, h4⟩

/-- The same at the operation, for the walk. -/
theorem wpList_append_has {w : World} {ops : Array Oper} {rest : List Oper} {o : Oper} {a : Act} {Q : Exit → Act → World → Prop} (hgd : o.guard = none) (sl x : Operand)
    (ho : o.op = .call { callee := .builtin .append, args := #[sl, x], argTypes := #[64, 64] })
    (base : Nat) (v : Value) (n : Nat) (xs : List Value) (hs : a.eval sl = v) (hown : w.ownsRow base 5 1 v n xs) (hbase : base ≤ w.heap.size) (ao : Option Addr) (m cap : Nat) (hx : a.eval x = .slice ao m cap) (bs : List UInt8) (hm : bs.length = m) (hn : ao = none → cap = 0) (hh : Has w ao bs) (hb : n + m ≤ 140737488355328)
    (h : ∀ ao' cap' w', w'.ownsRow base 5 1 (.slice ao' (n + m) cap') (n + m) (xs ++ cells bs) → w.grownBy w' v.ownBlock → ((Value.slice ao' (n + m) cap').ownBlock = v.ownBlock ∨ (Value.slice ao' (n + m) cap').ownBlock = some w.heap.size) → wpList Tryd.prog ops Q rest (a.put o.dst (.slice ao' (n + m) cap')) w') : wpList Tryd.prog ops Q (o :: rest) a w := by
  refine wpList_plain hgd fun K hK => ?_
  obtain ⟨v', w', hr, h2, h3, h4⟩ := append_has w o.type base v n xs hown hbase ao m cap bs hm hn hh hb
  obtain ⟨ao', cap', rfl⟩ := own_shape h2
  unfold Oper.wp execOp
  simp only [ho, resolve, invoke, builtin, Sem.run_bind, Sem.run_pure, Result.andThen_ok, List.map_toArray, List.map_cons, List.map_nil, hs, hx, hr]
  exact hK _ _ (h ao' cap' w' h2 h3 h4)

/-- An empty row that has just been made. -/
theorem own_new (w : World) (base : Nat) (hb : base ≤ w.heap.size) : (w.alloc (.cells #[] 5)).ownsRow base 5 1 (.slice (some ⟨w.heap.size, 0, none⟩) 0 0) 0 [] :=
  ⟨by simp, .inr ⟨w.heap.size, 0, #[], rfl, hb, heap_alloc_new w _, Nat.zero_le _, by unfold maxLen; omega, by simp, by simp⟩⟩

/-- An append onto a row that was made just now. -/
theorem fresh_one {w w1 : World} {o : Obj} (hg1 : (w.alloc o).grownBy w1 (some w.heap.size)) : Kept (fun _ => True) w w1 :=
  ((Kept.refl _ _).alloc o).grown hg1 (fun k hk e => by cases e; omega)
/-- Two appends, the first onto a row that was made just now. -/
theorem fresh_two {w w1 w2 : World} {o o1 : Obj} {v : Value} (hg1 : (w.alloc o).grownBy w1 (some w.heap.size)) (hg2 : (w1.alloc o1).grownBy w2 v.ownBlock) (hl : v.ownBlock = some w.heap.size ∨ v.ownBlock = some (w.alloc o).heap.size) : Kept (fun _ => True) w w2 := by
  have k1 : Kept (fun _ => True) w w1 := ((Kept.refl _ _).alloc o).grown hg1 (fun k hk e => by cases e; omega)
  refine (k1.alloc o1).grown hg2 (fun k hk e => ?_)
  rcases hl with h | h
  · rw [h] at e; cases e; omega
  · rw [h] at e; cases e; simp at hk; omega

/-- string(b) of a slice of bytes. -/
theorem conv_own {w : World} {b : Nat} {v : Value} {bs : List UInt8} (h : w.ownsRow b 5 1 v bs.length (cells bs)) :
    (convert 64 9 v).run Tryd.prog w = .ok (.string ⟨bs.toArray⟩) w := by
  rcases h.2 with ⟨rfl, h0⟩ | ⟨g, cap, cur, rfl, _, hh, _, _, _, ht⟩
  · have : bs = [] := List.eq_nil_of_length_eq_zero h0
    subst this
    rw [run_convert_bytes_string w 64 9 5 none 0 0 Tryd.underlying64 Tryd.underlying5 Tryd.underlying9]
    simp [Conv.bytesToString]
    rfl
  · refine conv_run w _ cap bs (fun j hj => ?_)
    have e : (⟨g, 0, none⟩ : Addr).add j = ⟨g, j, none⟩ := by simp [Addr.add]; omega
    rw [e]
    exact row_cells hh (by simpa using ht) j hj

theorem own_kept {p : Nat → Prop} {w w' : World} {b n : Nat} {v : Value} {xs : List Value} (h : w.ownsRow b 5 1 v n xs) (hk : Kept p w w') (hp : ∀ k, v.ownBlock = some k → p k) : w'.ownsRow b 5 1 v n xs := by
  refine ⟨h.1, ?_⟩
  rcases h.2 with h0 | ⟨g, cap, cur, rfl, hb, hh, rest⟩
  · exact .inl h0
  · exact .inr ⟨g, cap, cur, rfl, hb, (hk.block g (lt_of_block hh) (hp g rfl)).trans hh, rest⟩
/-- string(b) of any slice of bytes. -/
theorem conv_sl {w : World} {v : Value} {bs : List UInt8} (h : Sl w v bs) : (convert 64 9 v).run Tryd.prog w = .ok (.string ⟨bs.toArray⟩) w := by
  obtain ⟨ao, cap, rfl, hn, hh⟩ := h
  rcases Nat.eq_zero_or_pos bs.length with h0 | h0
  · have : bs = [] := List.eq_nil_of_length_eq_zero h0
    subst this
    cases ao with
    | none =>
      show (convert 64 9 (.slice none 0 cap)).run Tryd.prog w = _
      rw [run_convert_bytes_string w 64 9 5 none 0 cap Tryd.underlying64 Tryd.underlying5 Tryd.underlying9]
      simp [Conv.bytesToString]
      rfl
    | some ad => exact conv_run w ad cap [] (fun j hj => by simp at hj)
  · obtain ⟨ad, rfl, hc⟩ := hh h0
    exact conv_run w ad cap bs hc
theorem Sl.kept {p : Nat → Prop} {w w' : World} {ao : Option Addr} {n cap : Nat} {bs : List UInt8} (h : Sl w (.slice ao n cap) bs) (hk : Kept p w w') (hp : ∀ k, k < w.heap.size → p k) : Sl w' (.slice ao n cap) bs := by
  obtain ⟨ao', cap', e, hn, hh⟩ := h
  refine ⟨ao', cap', e, hn, fun h0 => ?_⟩
  obtain ⟨ad, rfl, hc⟩ := hh h0
  have hb : ad.block < w.heap.size := by
    have := World.block_lt_of_cell? w _ (hc 0 h0)
    simpa [Addr.add] using this
  exact (Has.kept (fun _ => ⟨ad, rfl, hc⟩ : Has w (some ad) bs) hk (fun x hx => by cases hx; exact hp _ hb)) h0
/-- The cells of such a slice, at a plain address. -/
theorem Sl.plain {w : World} {ao : Option Addr} {n cap : Nat} {bs : List UInt8} (h : Sl w (.slice ao n cap) bs) (h0 : 0 < bs.length) : ∃ b off, ao = some ⟨b, off, none⟩ ∧ b < w.heap.size ∧ ∀ j (hj : j < bs.length), w.cell? ⟨b, off + j, none⟩ = some (.int .u8 (bs[j]).toNat) := by
  obtain ⟨ao', cap', e, hn, hh⟩ := h
  cases e
  obtain ⟨⟨b, off, spot⟩, rfl, hc⟩ := hh h0
  have hs : spot = none := by simpa [Addr.add] using World.cell?_spot (hc 0 h0)
  subst hs
  refine ⟨b, off, rfl, ?_, fun j hj => ?_⟩
  · have := World.block_lt_of_cell? w _ (hc 0 h0)
    simpa [Addr.add] using this
  · rw [← WideShapes.add_plain]; exact hc j hj

theorem kept_cell {p : Nat → Prop} {w w' : World} (h : Kept p w w') {b o : Nat} (hlt : b < w.heap.size) (hp : p b) : w'.cell? ⟨b, o, none⟩ = w.cell? ⟨b, o, none⟩ := World.cell?_of_block (w := w) (h.block b hlt hp)
theorem kept_frozen {p : Nat → Prop} {w w' : World} (h : Kept p w w') {b o : Nat} (hlt : b < w.heap.size) (hp : p b) : w'.frozen? ⟨b, o, none⟩ = w.frozen? ⟨b, o, none⟩ := World.frozen?_of_block (w := w) (h.block b hlt hp)
theorem drew_two (w : World) (a b : Nat) : (w.drewN a).drewN b = w.drewN (a + b) := by simp [World.drewN, Nat.add_assoc]

theorem has_plain {w : World} {ao : Option Addr} {bs : List UInt8} (h : Has w ao bs) (h0 : 0 < bs.length) : ∃ b off, ao = some ⟨b, off, none⟩ ∧ ∀ j (hj : j < bs.length), w.cell? ⟨b, off + j, none⟩ = some (.int .u8 (bs[j]).toNat) := by
  obtain ⟨⟨b, off, spot⟩, rfl, hc⟩ := h h0
  have hs : spot = none := by simpa [Addr.add] using World.cell?_spot (hc 0 h0)
  subst hs
  exact ⟨b, off, rfl, fun j hj => by rw [← WideShapes.add_plain]; exact hc j hj⟩

end Go.Proofs.YtnddpalngjmhnabDoor

namespace Go.Proofs.YtnddpalngjmhnabDoor
open Go.RowKit

/-- The bytes of s from q up to p. -/
def tex (s : List UInt8) (q p : Nat) : List UInt8 := (s.drop q).take (p - q)
theorem tex_length {s : List UInt8} {q p : Nat} (h : p ≤ s.length) : (tex s q p).length = p - q := by simp [tex]; omega
theorem tex_self (s : List UInt8) (q : Nat) : tex s q q = [] := by simp [tex]
theorem tex_all (s : List UInt8) : tex s 0 s.length = s := by simp [tex]
theorem tex_succ {s : List UInt8} {q p : Nat} (h : q ≤ p) (hp : p < s.length) : tex s q (p + 1) = tex s q p ++ [s[p]] := by
  unfold tex
  have e : p + 1 - q = (p - q) + 1 := by omega
  rw [e, List.take_succ_eq_append_getElem (by simp; omega)]
  congr 2
  rw [List.getElem_drop]
  congr 1
  omega
theorem tex_cut {s : List UInt8} {q p e : Nat} (h : q ≤ p) (hp : p ≤ e) (_ : e ≤ s.length) : tex s q e = tex s q p ++ tex s p e := by
  unfold tex
  have e1 : e - q = (p - q) + (e - p) := by omega
  rw [e1, List.take_add, List.drop_drop]
  congr 3
  omega
theorem tex_cons {s : List UInt8} {q e : Nat} (h : q < e) (he : e ≤ s.length) : tex s q e = s[q] :: tex s (q + 1) e := by
  rw [tex_cut (p := q + 1) (by omega) (by omega) he, tex_succ (Nat.le_refl q) (by omega), tex_self]
  rfl
theorem tex_mem {s : List UInt8} {q p : Nat} {c : UInt8} (h : c ∈ tex s q p) : ∃ i, ∃ hi : i < s.length, q ≤ i ∧ i < p ∧ s[i] = c := by
  obtain ⟨k, hk, e⟩ := List.mem_iff_getElem.1 h
  simp only [tex, List.length_take, List.length_drop] at hk
  refine ⟨q + k, by omega, by omega, by omega, ?_⟩
  rw [← e]
  simp [tex]

/-- A word ahead of others, if it has a byte. -/
def flush (p : Nat) (cur : List UInt8) (ws : List (Nat × List UInt8)) : List (Nat × List UInt8) := if cur = [] then ws else (p, cur) :: ws
/-- The bytes up to the first blank, and the words behind it with their places. -/
def wdp : Nat → List UInt8 → List UInt8 × List (Nat × List UInt8)
  | _, [] => ([], [])
  | p, c :: r => if c = 32 then ([], flush (p + 1) (wdp (p + 1) r).1 (wdp (p + 1) r).2) else (c :: (wdp (p + 1) r).1, (wdp (p + 1) r).2)
/-- The words of s from p on, with their places. -/
def Wo (s : List UInt8) (p : Nat) : List (Nat × List UInt8) := flush p (wdp p (s.drop p)).1 (wdp p (s.drop p)).2

theorem Wo_end {s : List UInt8} {p : Nat} (h : s.length ≤ p) : Wo s p = [] := by
  unfold Wo
  rw [List.drop_eq_nil_of_le h]
  rfl
theorem Wo_blank {s : List UInt8} {p : Nat} (h : p < s.length) (hc : s[p] = 32) : Wo s p = Wo s (p + 1) := by
  unfold Wo
  rw [List.drop_eq_getElem_cons h, hc]
  simp [wdp, flush]
theorem wdp_word (a : List UInt8) (ha : ∀ c ∈ a, c ≠ 32) (r : List UInt8) (hr : r = [] ∨ ∃ r', r = 32 :: r') (p : Nat) : wdp p (a ++ r) = (a, (wdp (p + a.length) r).2) ∧ (wdp (p + a.length) r).1 = [] := by
  induction a generalizing p with
  | nil =>
    rcases hr with rfl | ⟨r', rfl⟩
    · exact ⟨rfl, rfl⟩
    · simp [wdp]
  | cons c a ih =>
    have hc := ha c (List.mem_cons_self ..)
    obtain ⟨h1, h2⟩ := ih (fun x hx => ha x (List.mem_cons_of_mem _ hx)) (p + 1)
    have e : p + (c :: a).length = p + 1 + a.length := by simp; omega
    rw [e]
    refine ⟨?_, h2⟩
    rw [List.cons_append]
    simp only [wdp, if_neg hc, h1]
theorem Wo_word {s : List UInt8} {q e : Nat} (h : q < e) (he : e ≤ s.length) (hn : ∀ c ∈ tex s q e, c ≠ 32) (hb : ∀ h : e < s.length, s[e] = 32) : Wo s q = (q, tex s q e) :: Wo s e := by
  have hd : s.drop q = tex s q e ++ s.drop e := by
    have e1 : s.drop e = (s.drop q).drop (e - q) := by rw [List.drop_drop]; congr 1; omega
    rw [e1, tex, List.take_append_drop]
  have hr : s.drop e = [] ∨ ∃ r', s.drop e = 32 :: r' := by
    by_cases hl : e < s.length
    · exact .inr ⟨s.drop (e + 1), by rw [List.drop_eq_getElem_cons hl, hb hl]⟩
    · exact .inl (List.drop_eq_nil_of_le (by omega))
  obtain ⟨h1, h2⟩ := wdp_word (tex s q e) hn (s.drop e) hr q
  have hl : q + (tex s q e).length = e := by rw [tex_length he]; omega
  rw [hl] at h1 h2
  have hne : tex s q e ≠ [] := by
    intro h0
    have := tex_length (q := q) he
    rw [h0] at this
    simp at this
    omega
  unfold Wo
  rw [hd, h1]
  simp only [flush, if_neg hne, h2]
  simp

/-- The same without places. -/
def fl (cur : List UInt8) (ws : List (List UInt8)) : List (List UInt8) := if cur = [] then ws else cur :: ws
def wd : List UInt8 → List UInt8 × List (List UInt8)
  | [] => ([], [])
  | c :: r => if c = 32 then ([], fl (wd r).1 (wd r).2) else (c :: (wd r).1, (wd r).2)
/-- The words of a text. -/
def tx (s : List UInt8) : List (List UInt8) := fl (wd s).1 (wd s).2
theorem flush_snd (p : Nat) (cur : List UInt8) (ws : List (Nat × List UInt8)) : (flush p cur ws).map Prod.snd = fl cur (ws.map Prod.snd) := by
  unfold flush fl
  split <;> rfl
theorem wdp_snd (s : List UInt8) (p : Nat) : (wdp p s).1 = (wd s).1 ∧ (wdp p s).2.map Prod.snd = (wd s).2 := by
  induction s generalizing p with
  | nil => exact ⟨rfl, rfl⟩
  | cons c r ih =>
    obtain ⟨h1, h2⟩ := ih (p + 1)
    unfold wdp wd
    split
    · exact ⟨rfl, by rw [flush_snd, h1, h2]⟩
    · exact ⟨by rw [h1], h2⟩
theorem Wo_tx (s : List UInt8) : (Wo s 0).map Prod.snd = tx s := by
  unfold Wo tx
  rw [List.drop_zero, flush_snd, (wdp_snd s 0).1, (wdp_snd s 0).2]
theorem fl_append (cur : List UInt8) (a b : List (List UInt8)) : fl cur (a ++ b) = fl cur a ++ b := by
  unfold fl
  split <;> rfl
theorem wd_join (a b : List UInt8) : wd (a ++ 32 :: b) = ((wd a).1, (wd a).2 ++ tx b) := by
  induction a with
  | nil => simp [wd, tx]
  | cons c a ih =>
    rw [List.cons_append]
    unfold wd
    rw [ih]
    split
    · rw [fl_append]
    · rfl
/-- What a blank parts. -/
theorem tx_join (a b : List UInt8) : tx (a ++ 32 :: b) = tx a ++ tx b := by
  unfold tx
  rw [wd_join, fl_append]
  rfl
theorem wd_none (a : List UInt8) (h : ∀ c ∈ a, c ≠ 32) : wd a = (a, []) := by
  induction a with
  | nil => rfl
  | cons c a ih =>
    unfold wd
    rw [ih (fun x hx => h x (List.mem_cons_of_mem _ hx)), if_neg (h c (List.mem_cons_self ..))]
theorem tx_one (a : List UInt8) (h : ∀ c ∈ a, c ≠ 32) (h0 : a ≠ []) : tx a = [a] := by
  unfold tx
  rw [wd_none a h]
  simp [fl, h0]

/-- Kinds of bytes. -/
def isL (c : UInt8) : Bool := decide (97 ≤ c.toNat) && decide (c.toNat ≤ 122)
def isD (c : UInt8) : Bool := decide (48 ≤ c.toNat) && decide (c.toNat ≤ 57)
theorem isL_not {c : UInt8} (h : isL c = true) : isD c = false ∧ c ≠ 32 ∧ c ≠ 45 := by
  simp only [isL, Bool.and_eq_true, decide_eq_true_eq] at h
  refine ⟨?_, ?_, ?_⟩
  · simp [isD]; omega
  · rintro rfl; revert h; decide
  · rintro rfl; revert h; decide
theorem isD_not {c : UInt8} (h : isD c = true) : isL c = false ∧ c ≠ 32 ∧ c ≠ 45 := by
  simp only [isD, Bool.and_eq_true, decide_eq_true_eq] at h
  refine ⟨?_, ?_, ?_⟩
  · simp [isL]; omega
  · rintro rfl; revert h; decide
  · rintro rfl; revert h; decide

/-- Which operation a word is; nought: none. -/
def opOf (x : List UInt8) : Nat :=
  if x = [110, 111, 116] then 4 else if x = [97, 110, 100] then 5 else if x = [111, 114] then 6 else if x = [108, 116] then 7 else if x = [101, 113] then 8 else if x = [97, 100, 100] then 9 else if x = [115, 117, 98] then 10 else 0
/-- A word of types. -/
def isT (x : List UInt8) : Bool := decide (x = [116, 121, 112, 101]) || decide (x = [97, 116, 116, 114]) || decide (x = [115, 116, 97, 103, 101]) || decide (x = [109, 97, 114, 107])
def isName (x : List UInt8) : Bool := x.all isL && decide (1 ≤ x.length) && decide (x.length ≤ 12) && decide (opOf x = 0) && !isT x
/-- What stands behind a minus, if there is one. -/
def mag (x : List UInt8) : List UInt8 := if x.head? = some 45 then x.tail else x
def digs (x : List UInt8) : Nat := x.foldl (fun n c => 10 * n + (c.toNat - 48)) 0
def isNum (x : List UInt8) : Bool := (mag x).all isD && decide (1 ≤ (mag x).length) && decide ((mag x).length ≤ 4)
def num (x : List UInt8) : Int := if x.head? = some 45 then -(digs (mag x) : Int) else (digs (mag x) : Int)
/-- Which kind of word: 1 none, 2 a number, 3 a name, else an operation. -/
def kd (x : List UInt8) : Nat := if isNum x = true then 2 else if opOf x ≠ 0 then opOf x else if isName x = true then 3 else 1
/-- Of how many guards. -/
def ar (k : Nat) : Nat := if k = 4 then 1 else if 5 ≤ k then 2 else 0

theorem opOf_cases (x : List UInt8) : opOf x = 0 ∨ (4 ≤ opOf x ∧ opOf x ≤ 10 ∧ x.all isL = true ∧ x ≠ []) := by
  unfold opOf
  repeat' split
  all_goals first
    | (left; rfl)
    | (right; subst_vars; decide)
theorem kd_cases (x : List UInt8) : 1 ≤ kd x ∧ kd x ≤ 10 := by
  unfold kd
  have := opOf_cases x
  repeat' split
  all_goals omega
/-- Small letters are no number. -/
theorem letters_num {x : List UInt8} (h : x.all isL = true) (h0 : x ≠ []) : isNum x = false := by
  cases x with
  | nil => exact absurd rfl h0
  | cons c r =>
    rw [List.all_cons, Bool.and_eq_true] at h
    obtain ⟨h1, h2, h3⟩ := isL_not h.1
    have e : mag (c :: r) = c :: r := by simp [mag, h3]
    unfold isNum
    rw [e, List.all_cons, h1]
    rfl
theorem isName_all {x : List UInt8} (h : isName x = true) : x.all isL = true ∧ 1 ≤ x.length ∧ x.length ≤ 12 ∧ opOf x = 0 ∧ isT x = false := by
  simp only [isName, Bool.and_eq_true, decide_eq_true_eq, Bool.not_eq_true'] at h
  exact ⟨h.1.1.1.1, h.1.1.1.2, h.1.1.2, h.1.2, h.2⟩
theorem kd_name (x : List UInt8) : kd x = 3 ↔ isName x = true := by
  constructor
  · intro h
    unfold kd at h
    split at h
    · cases h
    · split at h
      · have := opOf_cases x; omega
      · split at h
        · assumption
        · cases h
  · intro h
    obtain ⟨h1, h2, _, h3, _⟩ := isName_all h
    have h4 := letters_num h1 (by rintro rfl; simp at h2)
    simp [kd, h3, h4, h]
theorem kd_num (x : List UInt8) : kd x = 2 ↔ isNum x = true := by
  constructor
  · intro h
    unfold kd at h
    split at h
    · assumption
    · split at h
      · have := opOf_cases x; omega
      · split at h <;> cases h
  · intro h
    simp [kd, h]
theorem kd_op (x : List UInt8) (h : 4 ≤ kd x) : opOf x = kd x := by
  unfold kd at h ⊢
  repeat' split
  all_goals first | rfl | simp_all
theorem op_kd (x : List UInt8) (h : opOf x ≠ 0) : kd x = opOf x := by
  have h1 := opOf_cases x
  have h2 := letters_num (x := x) (by rcases h1 with h1 | h1; exact absurd h1 h; exact h1.2.2.1) (by rcases h1 with h1 | h1; exact absurd h1 h; exact h1.2.2.2)
  simp [kd, h2, h]
theorem num_fits (x : List UInt8) : isNum x = true → -9999 ≤ num x ∧ num x ≤ 9999 := by
  intro h
  simp only [isNum, Bool.and_eq_true, decide_eq_true_eq] at h
  obtain ⟨⟨h1, _⟩, h3⟩ := h
  have hb : ∀ (l : List UInt8) (n : Nat), l.all isD = true → l.foldl (fun n c => 10 * n + (c.toNat - 48)) n + 1 ≤ (n + 1) * 10 ^ l.length := by
    intro l
    induction l with
    | nil => intro n _; simp
    | cons c l ih =>
      intro n hl
      rw [List.all_cons, Bool.and_eq_true] at hl
      have hc := hl.1
      simp only [isD, Bool.and_eq_true, decide_eq_true_eq] at hc
      have := ih (10 * n + (c.toNat - 48)) hl.2
      rw [List.foldl_cons, List.length_cons, Nat.pow_succ]
      refine Nat.le_trans this ?_
      rw [Nat.mul_comm (10 ^ l.length) 10, ← Nat.mul_assoc]
      exact Nat.mul_le_mul_right _ (by omega)
  have h4 := hb (mag x) 0 h1
  have h5 : 10 ^ (mag x).length ≤ 10 ^ 4 := Nat.pow_le_pow_right (by decide) h3
  unfold num digs
  split <;> omega

end Go.Proofs.YtnddpalngjmhnabDoor

namespace Go.Proofs.YtnddpalngjmhnabDoor
open Go.RowKit

/-- By a goto: what is asked at its label. -/
def Exit.jumps (J : Nat → Act → World → Prop) (Q : Exit → Act → World → Prop) : Exit → Act → World → Prop
  | .goto l, a, w => J l a w
  | e, a, w => Q e a w
/-- The way from a label on. -/
def From (P : Program) (c : Code) (Q : Exit → Act → World → Prop) (l : Nat) (a : Act) (w : World) : Prop := ∃ rest, findLabel c l = some (Code.skip.seq rest) ∧ rest.wp P Q a w
theorem From.use {P : Program} {c rest : Code} {Q : Exit → Act → World → Prop} {l : Nat} {a : Act} {w : World} (h : From P c Q l a w) (hf : findLabel c l = some (Code.skip.seq rest)) : rest.wp P Q a w := by
  obtain ⟨r, hr, hw⟩ := h
  rw [hf] at hr
  cases hr
  exact hw
theorem Exit.jumps_mono {J K : Nat → Act → World → Prop} {Q : Exit → Act → World → Prop} (h : ∀ l a w, J l a w → K l a w) (e : Exit) (a : Act) (w : World) (hq : Exit.jumps J Q e a w) : Exit.jumps K Q e a w := by
  cases e <;> first | exact hq | exact h _ _ _ hq
/-- A scope of many labels: the way from each label on is walked once; who comes to another label, by a goto or by falling on it, shows what holds there, with a smaller measure. -/
theorem wp_scope_all {P : Program} {a : Act} {w : World} {Q : Exit → Act → World → Prop} {c : Code} (J : Nat → Nat → Act → World → Prop)
    (pass : ∀ m l a w, J m l a w → (∀ m' l' a' w', m' < m → J m' l' a' w' → From P c (Exit.jumps (fun l'' a'' w'' => ∃ m'', m'' < m ∧ J m'' l'' a'' w'') Q) l' a' w') → From P c (Exit.jumps (fun l' a' w' => ∃ m', m' < m ∧ J m' l' a' w') Q) l a w)
    (first : (∀ m l a w, J m l a w → From P c (Exit.jumps (fun l' a' w' => ∃ m', J m' l' a' w') Q) l a w) → c.wp P (Exit.jumps (fun l' a' w' => ∃ m', J m' l' a' w') Q) a w) : (Code.scope c).wp P Q a w := by
  have all : ∀ m l a w, J m l a w → From P c (Exit.jumps (fun l' a' w' => ∃ m', m' < m ∧ J m' l' a' w') Q) l a w := by
    intro m
    induction m using Nat.strongRecOn with
    | _ m ih =>
      intro l a w hJ
      refine pass m l a w hJ fun m' l' a' w' hm hJ' => ?_
      obtain ⟨r, hr, hw⟩ := ih m' hm l' a' w' hJ'
      exact ⟨r, hr, wp_mono hw (Exit.jumps_mono fun _ _ _ ⟨m'', h1, h2⟩ => ⟨m'', by omega, h2⟩)⟩
  intro b k cs
  have key : ∀ m l a w, J m l a w → ∃ rest, findLabel c l = some rest ∧ ∃ e a' w', Q e a' w' ∧ Arrives P (lone (b.at a (.code rest :: .inScope c :: k)) cs w) b k cs e a' w' := by
    intro m
    induction m using Nat.strongRecOn with
    | _ m ih =>
      intro l a w hJ
      obtain ⟨r, hr, hw⟩ := all m l a w hJ
      refine ⟨_, hr, ?_⟩
      obtain ⟨e, a₁, w₁, hq, harr⟩ := (wp_seq (wp_skip hw) : (Code.skip.seq r).wp P _ a w) b (.inScope c :: k) cs
      cases e with
      | normal => exact ⟨.normal, a₁, w₁, hq, Steps.trans harr (.one step_inScope)⟩
      | exit id => exact ⟨.exit id, a₁, w₁, hq, fun k' hk => harr k' (by simp [exitTo, hk])⟩
      | goto l' =>
        obtain ⟨m', hm, hJ'⟩ := hq
        obtain ⟨r', hr', e₂, a₂, w₂, hq₂, harr₂⟩ := ih m' hm l' a₁ w₁ hJ'
        have hg : gotoIn l' (.inScope c :: k) = some (.code r' :: .inScope c :: k) := by simp [gotoIn, hr']
        exact ⟨e₂, a₂, w₂, hq₂, .of_steps (harr _ hg) harr₂⟩
      | ret => exact ⟨_, a₁, w₁, hq, harr⟩
      | panic ch => exact ⟨_, a₁, w₁, hq, harr⟩
      | outgrown => exact ⟨_, a₁, w₁, hq, harr⟩
  have weak : ∀ m l a w, J m l a w → From P c (Exit.jumps (fun l' a' w' => ∃ m', J m' l' a' w') Q) l a w := by
    intro m l a w hJ
    obtain ⟨r, hr, hw⟩ := all m l a w hJ
    exact ⟨r, hr, wp_mono hw (Exit.jumps_mono fun _ _ _ ⟨m'', _, h2⟩ => ⟨m'', h2⟩)⟩
  obtain ⟨e, a₁, w₁, hq, harr⟩ := first weak b (.inScope c :: k) cs
  cases e with
  | normal => exact ⟨.normal, a₁, w₁, hq, .head step_scope (Steps.trans harr (.one step_inScope))⟩
  | exit id => exact ⟨.exit id, a₁, w₁, hq, fun k' hk => .head step_scope (harr k' (by simp [exitTo, hk]))⟩
  | goto l' =>
    obtain ⟨m', hJ'⟩ := hq
    obtain ⟨r', hr', e₂, a₂, w₂, hq₂, harr₂⟩ := key m' l' a₁ w₁ hJ'
    have hg : gotoIn l' (.inScope c :: k) = some (.code r' :: .inScope c :: k) := by simp [gotoIn, hr']
    exact ⟨e₂, a₂, w₂, hq₂, .of_steps (.head step_scope (harr _ hg)) harr₂⟩
  | ret => exact ⟨_, a₁, w₁, hq, .of_steps (.one step_scope) harr⟩
  | panic ch => exact ⟨_, a₁, w₁, hq, .of_steps (.one step_scope) harr⟩
  | outgrown => exact ⟨_, a₁, w₁, hq, .of_steps (.one step_scope) harr⟩

set_option maxHeartbeats 400000 in
theorem isLetter_any {w : World} (c : UInt8) :
    Calls Tryd.prog 58 #[.int .u8 (c.toNat : Nat)] w fun e w' => e = .returned (.bool (isL c)) ∧ w' = w := by
  unfold isL
  by_cases h1 : 97 ≤ c.toNat
  · have g1 : (97 : Int) ≤ (c.toNat : Int) := by omega
    by_cases h2 : c.toNat ≤ 122
    · have g2 : (c.toNat : Int) ≤ 122 := by omega
      rw [decide_eq_true h1, decide_eq_true h2]
      go_enter Tryd.func58, Tryd.ntmps58
      go_wp2
      go_ret
      exact ⟨rfl, rfl⟩
    · have g2 : ¬ (c.toNat : Int) ≤ 122 := by omega
      rw [decide_eq_true h1, decide_eq_false h2]
      go_enter Tryd.func58, Tryd.ntmps58
      go_wp2
      go_ret
      exact ⟨rfl, rfl⟩
  · have g1 : ¬ (97 : Int) ≤ (c.toNat : Int) := by omega
    rw [decide_eq_false h1, Bool.false_and]
    go_enter Tryd.func58, Tryd.ntmps58
    go_wp2
    go_ret
    exact ⟨rfl, rfl⟩

set_option maxHeartbeats 400000 in
theorem isDigit_any {w : World} (c : UInt8) :
    Calls Tryd.prog 59 #[.int .u8 (c.toNat : Nat)] w fun e w' => e = .returned (.bool (isD c)) ∧ w' = w := by
  unfold isD
  by_cases h1 : 48 ≤ c.toNat
  · have g1 : (48 : Int) ≤ (c.toNat : Int) := by omega
    by_cases h2 : c.toNat ≤ 57
    · have g2 : (c.toNat : Int) ≤ 57 := by omega
      rw [decide_eq_true h1, decide_eq_true h2]
      go_enter Tryd.func59, Tryd.ntmps59
      go_wp2
      go_ret
      exact ⟨rfl, rfl⟩
    · have g2 : ¬ (c.toNat : Int) ≤ 57 := by omega
      rw [decide_eq_true h1, decide_eq_false h2]
      go_enter Tryd.func59, Tryd.ntmps59
      go_wp2
      go_ret
      exact ⟨rfl, rfl⟩
  · have g1 : ¬ (48 : Int) ≤ (c.toNat : Int) := by omega
    rw [decide_eq_false h1, Bool.false_and]
    go_enter Tryd.func59, Tryd.ntmps59
    go_wp2
    go_ret
    exact ⟨rfl, rfl⟩

/-- Each word that Go's text spells out, and all others. -/
def spellings : List (List UInt8) := [[110, 111, 116], [97, 110, 100], [111, 114], [108, 116], [101, 113], [97, 100, 100], [115, 117, 98], [116, 121, 112, 101], [97, 116, 116, 114], [115, 116, 97, 103, 101], [109, 97, 114, 107]]

set_option maxHeartbeats 1000000 in
theorem spelt_known {w : World} (x : List UInt8) (h : x ∈ spellings) :
    Calls Tryd.prog 60 #[.string ⟨x.toArray⟩] w fun e w' => e = .returned (.int .i64 (kd x : Nat)) ∧ w' = w := by
  simp only [spellings, List.mem_cons, List.not_mem_nil, or_false] at h
  rcases h with rfl | rfl | rfl | rfl | rfl | rfl | rfl | rfl | rfl | rfl | rfl
  all_goals
    go_enter Tryd.func60, Tryd.ntmps60
    go_wp2
    go_ret
    exact ⟨rfl, rfl⟩

theorem kd_letters {x : List UInt8} (h : x.all isL = true) (h0 : x ≠ []) (hx : x ∉ spellings) : kd x = if x.length ≤ 12 then 3 else 1 := by
  have h1 : opOf x = 0 := by
    simp only [spellings, List.mem_cons, List.not_mem_nil, or_false, not_or] at hx
    simp [opOf, hx]
  have h2 : isT x = false := by
    simp only [spellings, List.mem_cons, List.not_mem_nil, or_false, not_or] at hx
    simp [isT, hx]
  have h3 := letters_num h h0
  have h4 : 1 ≤ x.length := by
    cases x with
    | nil => exact absurd rfl h0
    | cons c r => simp
  simp [kd, h1, h3, isName, h, h2, h4]

set_option maxHeartbeats 1000000 in
theorem spelt_any {w : World} (x : List UInt8) (h : x.all isL = true) (h0 : x ≠ []) :
    Calls Tryd.prog 60 #[.string ⟨x.toArray⟩] w fun e w' => e = .returned (.int .i64 (kd x : Nat)) ∧ w' = w := by
  by_cases hx : x ∈ spellings
  · exact spelt_known x hx
  · rw [kd_letters h h0 hx]
    simp only [spellings, List.mem_cons, List.not_mem_nil, or_false, not_or] at hx
    obtain ⟨n1, n2, n3, n4, n5, n6, n7, n8, n9, n10, n11⟩ := hx
    replace n1 := beq_eq_false_iff_ne.2 n1
    replace n2 := beq_eq_false_iff_ne.2 n2
    replace n3 := beq_eq_false_iff_ne.2 n3
    replace n4 := beq_eq_false_iff_ne.2 n4
    replace n5 := beq_eq_false_iff_ne.2 n5
    replace n6 := beq_eq_false_iff_ne.2 n6
    replace n7 := beq_eq_false_iff_ne.2 n7
    replace n8 := beq_eq_false_iff_ne.2 n8
    replace n9 := beq_eq_false_iff_ne.2 n9
    replace n10 := beq_eq_false_iff_ne.2 n10
    replace n11 := beq_eq_false_iff_ne.2 n11
    clear h h0
    by_cases hl : x.length ≤ 12
    · have hl' : ¬ (12 : Int) < (x.length : Int) := by omega
      rw [if_pos hl]
      go_enter Tryd.func60, Tryd.ntmps60
      go_wp2
      go_ret
      exact ⟨rfl, rfl⟩
    · have hl' : (12 : Int) < (x.length : Int) := by omega
      rw [if_neg hl]
      go_enter Tryd.func60, Tryd.ntmps60
      go_wp2
      go_ret
      exact ⟨rfl, rfl⟩

set_option maxHeartbeats 1000000 in
theorem parts_any {w : World} (k : Nat) (h : k ≤ 10) :
    Calls Tryd.prog 57 #[.int .i64 (k : Nat)] w fun e w' => e = .returned (.int .i64 (ar k : Nat)) ∧ w' = w := by
  have hk : k = 0 ∨ k = 1 ∨ k = 2 ∨ k = 3 ∨ k = 4 ∨ k = 5 ∨ k = 6 ∨ k = 7 ∨ k = 8 ∨ k = 9 ∨ k = 10 := by omega
  rcases hk with rfl | rfl | rfl | rfl | rfl | rfl | rfl | rfl | rfl | rfl | rfl
  all_goals
    go_enter Tryd.func57, Tryd.ntmps57
    go_wp2
    go_ret
    exact ⟨rfl, rfl⟩

/-- 1 or 0. -/
def tr (b : Bool) : Int := if b = true then 1 else 0
set_option maxHeartbeats 400000 in
theorem truth_any {w : World} (b : Bool) :
    Calls Tryd.prog 51 #[.bool b] w fun e w' => e = .returned (.int .i64 (tr b)) ∧ w' = w := by
  cases b
  all_goals
    go_enter Tryd.func51, Tryd.ntmps51
    go_wp2
    go_ret
    exact ⟨rfl, rfl⟩

end Go.Proofs.YtnddpalngjmhnabDoor

namespace Go.Proofs.YtnddpalngjmhnabDoor
open Go.RowKit

/-- What is wrong with a word of kind k. -/
def rfk (ns : List (List UInt8)) (k : Nat) (x : List UInt8) : Nat := if k = 0 then 10 else if k = 1 then 12 else if k = 3 ∧ x ∉ ns then 20 else 0
def rf (ns : List (List UInt8)) (x : List UInt8) : Nat := rfk ns (kd x) x
theorem rf_cases (ns : List (List UInt8)) (x : List UInt8) : (kd x = 1 ∧ rf ns x = 12) ∨ (kd x = 3 ∧ x ∉ ns ∧ rf ns x = 20) ∨ (kd x ≠ 1 ∧ (kd x = 3 → x ∈ ns) ∧ rf ns x = 0) := by
  have h := kd_cases x
  unfold rf rfk
  rw [if_neg (by omega)]
  by_cases h1 : kd x = 1
  · exact .inl ⟨h1, if_pos h1⟩
  · rw [if_neg h1]
    by_cases h3 : kd x = 3 ∧ x ∉ ns
    · exact .inr (.inl ⟨h3.1, h3.2, if_pos h3⟩)
    · exact .inr (.inr ⟨h1, fun h => Classical.byContradiction fun hx => h3 ⟨h, hx⟩, if_neg h3⟩)

/-- So many guards, one behind the other. -/
def times {α β : Type} (g : List α → β ⊕ List α) : Nat → List α → β ⊕ List α
  | 0, ws => .inr ws
  | k + 1, ws => match g ws with
    | .inl e => .inl e
    | .inr r => times g k r
/-- One guard, within so many operations; L: where the text ends. -/
def lk (ns : List (List UInt8)) (L : Nat) : Nat → List (Nat × List UInt8) → (Nat × Nat) ⊕ List (Nat × List UInt8)
  | 0, ws => match ws with
    | [] => .inl (10, L)
    | (p, x) :: _ => .inl (if rf ns x ≠ 0 then rf ns x else 22, p)
  | f + 1, ws => match ws with
    | [] => .inl (10, L)
    | (p, x) :: r => if rf ns x ≠ 0 then .inl (rf ns x, p) else times (lk ns L f) (ar (kd x)) r
/-- What stands behind a whole guard. -/
def tailOf (ns : List (List UInt8)) : List (Nat × List UInt8) → Nat × Nat
  | [] => (0, 0)
  | (p, x) :: _ => (if rf ns x ≠ 0 then rf ns x else 11, p)
/-- Check. -/
def chkW (ns : List (List UInt8)) (L : Nat) (ws : List (Nat × List UInt8)) : Nat × Nat := match lk ns L 17 ws with
  | .inl e => e
  | .inr r => tailOf ns r
def chk (ns : List (List UInt8)) (s : List UInt8) : Nat × Nat := if 120 < s.length then (3, 0) else chkW ns s.length (Wo s 0)

/-- An operation of two. -/
def jn (k : Nat) (a b : Int) : Int :=
  if k = 5 then tr (decide (a ≠ 0 ∧ b ≠ 0)) else if k = 6 then tr (decide (a ≠ 0 ∨ b ≠ 0)) else if k = 7 then tr (decide (a < b)) else if k = 8 then tr (decide (a = b)) else if k = 9 then wrap64 (a + b) else wrap64 (a - b)
/-- What a guard is worth, and what stands behind it. -/
def vl (g : List UInt8 → Int) : Nat → List (List UInt8) → Int × List (List UInt8)
  | 0, xs => (0, xs)
  | f + 1, xs => match xs with
    | [] => (0, [])
    | x :: r => if kd x = 2 then (num x, r) else if kd x = 3 then (g x, r) else
      if kd x = 4 then (tr (decide ((vl g f r).1 = 0)), (vl g f r).2) else (jn (kd x) (vl g f r).1 (vl g f (vl g f r).2).1, (vl g f (vl g f r).2).2)
/-- A guard without places: what stands behind it, if it is whole. -/
def gd (ns : List (List UInt8)) : Nat → List (List UInt8) → Unit ⊕ List (List UInt8)
  | 0, _ => .inl ()
  | f + 1, xs => match xs with
    | [] => .inl ()
    | x :: r => if rf ns x ≠ 0 then .inl () else times (gd ns f) (ar (kd x)) r

theorem lk_gd (ns : List (List UInt8)) (L : Nat) (f : Nat) (ws : List (Nat × List UInt8)) :
    (∀ e, lk ns L f ws = .inl e → gd ns f (ws.map Prod.snd) = .inl ()) ∧ (∀ r, lk ns L f ws = .inr r → gd ns f (ws.map Prod.snd) = .inr (r.map Prod.snd)) := by
  induction f generalizing ws with
  | zero =>
    refine ⟨fun _ _ => rfl, fun r h => ?_⟩
    cases ws with
    | nil => cases h
    | cons p ws => cases h
  | succ f ih =>
    have ht : ∀ k ws, (∀ e, times (lk ns L f) k ws = .inl e → times (gd ns f) k (ws.map Prod.snd) = .inl ()) ∧ (∀ r, times (lk ns L f) k ws = .inr r → times (gd ns f) k (ws.map Prod.snd) = .inr (r.map Prod.snd)) := by
      intro k
      induction k with
      | zero =>
        intro ws
        refine ⟨fun _ h => by simp [times] at h, fun r h => ?_⟩
        simp only [times, Sum.inr.injEq] at h
        subst h
        rfl
      | succ k ihk =>
        intro ws
        cases hw : lk ns L f ws with
        | inl e =>
          have := (ih ws).1 e hw
          refine ⟨fun _ _ => by simp only [times, this], fun r h => by simp only [times, hw] at h; cases h⟩
        | inr r =>
          have := (ih ws).2 r hw
          simp only [times, hw, this]
          exact ihk r
    cases ws with
    | nil => exact ⟨fun _ _ => rfl, fun r h => by cases h⟩
    | cons p ws =>
      obtain ⟨p, x⟩ := p
      simp only [lk, gd, List.map_cons]
      by_cases h : rf ns x ≠ 0
      · rw [if_pos h, if_pos h]
        exact ⟨fun _ _ => rfl, fun r h => by cases h⟩
      · simp only [if_neg h]
        exact ht _ _

/-- What is worth something is what is whole. -/
theorem gd_vl (ns : List (List UInt8)) (g : List UInt8 → Int) (f : Nat) (xs r : List (List UInt8)) (h : gd ns f xs = .inr r) : (vl g f xs).2 = r := by
  induction f generalizing xs r with
  | zero => cases h
  | succ f ih =>
    cases xs with
    | nil => cases h
    | cons x xs =>
      simp only [gd] at h
      by_cases hr : rf ns x ≠ 0
      · rw [if_pos hr] at h; cases h
      · rw [if_neg hr] at h
        have hk := kd_cases x
        have h1 : kd x ≠ 1 := by
          rcases rf_cases ns x with ⟨_, h1⟩ | ⟨_, _, h1⟩ | ⟨h1, _⟩
          · omega
          · omega
          · exact h1
        simp only [vl]
        by_cases h2 : kd x = 2
        · rw [if_pos h2]
          rw [h2] at h
          simpa [ar, times] using h
        · rw [if_neg h2]
          by_cases h3 : kd x = 3
          · rw [if_pos h3]
            rw [h3] at h
            simpa [ar, times] using h
          · rw [if_neg h3]
            by_cases h4 : kd x = 4
            · rw [if_pos h4]
              rw [h4] at h
              simp only [ar, times, if_true] at h
              cases hg : gd ns f xs with
              | inl e => rw [hg] at h; cases h
              | inr r1 =>
                rw [hg] at h
                simp only [Sum.inr.injEq] at h
                rw [← h]
                exact ih xs r1 hg
            · rw [if_neg h4]
              have ha : ar (kd x) = 2 := by unfold ar; rw [if_neg h4, if_pos (by omega)]
              rw [ha] at h
              simp only [times] at h
              cases hg : gd ns f xs with
              | inl e => rw [hg] at h; cases h
              | inr r1 =>
                rw [hg] at h
                simp only at h
                have e1 := ih xs r1 hg
                cases hg2 : gd ns f r1 with
                | inl e => rw [hg2] at h; cases h
                | inr r2 =>
                  rw [hg2] at h
                  simp only [Sum.inr.injEq] at h
                  rw [e1, ← h]
                  exact ih r1 r2 hg2

/-- The document's Check: the row of what each open operation still wants, the innermost first. -/
def rowRun (ns : List (List UInt8)) (L : Nat) : List Nat → List (Nat × List UInt8) → Nat × Nat
  | left, [] => if left.any (fun n => decide (0 < n)) = true then (10, L) else (0, 0)
  | left, (p, x) :: r =>
    if rf ns x ≠ 0 then (rf ns x, p) else
      if 17 < (left.dropWhile (fun n => n == 0)).length then (22, p) else
        match left.dropWhile (fun n => n == 0) with
        | [] => (11, p)
        | n :: t => if 0 < ar (kd x) then rowRun ns L (ar (kd x) :: (n - 1) :: t) r else rowRun ns L ((n - 1) :: t) r
theorem row_nought (ns : List (List UInt8)) (L : Nat) (S : List Nat) (ws : List (Nat × List UInt8)) : rowRun ns L (0 :: S) ws = rowRun ns L S ws := by
  cases ws with
  | nil => simp [rowRun]
  | cons p ws => simp [rowRun]
/-- One guard of it. -/
theorem row_one (ns : List (List UInt8)) (L : Nat) (f : Nat) (S : List Nat) (hf : S.length + f = 17) (k : Nat) (ws : List (Nat × List UInt8)) :
    rowRun ns L ((k + 1) :: S) ws = match lk ns L f ws with
      | .inl e => e
      | .inr r => rowRun ns L (k :: S) r := by
  induction f generalizing S k ws with
  | zero =>
    cases ws with
    | nil => simp [rowRun, lk]
    | cons p ws =>
      obtain ⟨p, x⟩ := p
      simp only [rowRun, lk]
      by_cases h : rf ns x ≠ 0
      · simp [h]
      · have e : ((k + 1) :: S).dropWhile (fun n => n == 0) = (k + 1) :: S := by simp
        rw [if_neg h, if_neg h, e, if_pos (by simp; omega)]
  | succ f ih =>
    cases ws with
    | nil => simp [rowRun, lk]
    | cons p ws =>
      obtain ⟨p, x⟩ := p
      have e : ((k + 1) :: S).dropWhile (fun n => n == 0) = (k + 1) :: S := by simp
      simp only [rowRun, lk]
      by_cases h : rf ns x ≠ 0
      · simp [h]
      · rw [if_neg h, if_neg h, e, if_neg (by simp; omega)]
        simp only [Nat.add_sub_cancel]
        have hn : ∀ n ws, rowRun ns L (n :: k :: S) ws = match times (lk ns L f) n ws with
            | .inl e => e
            | .inr r => rowRun ns L (k :: S) r := by
          intro n
          induction n with
          | zero => intro ws; rw [row_nought]; rfl
          | succ n ihn =>
            intro ws
            rw [ih (k :: S) (by simp; omega) n ws]
            simp only [times]
            cases hw : lk ns L f ws with
            | inl e => rfl
            | inr r => exact ihn r
        by_cases ha : 0 < ar (kd x)
        · rw [if_pos ha, hn]
        · have h0 : ar (kd x) = 0 := by omega
          rw [if_neg ha, h0]
          rfl
theorem row_chk (ns : List (List UInt8)) (L : Nat) (ws : List (Nat × List UInt8)) : rowRun ns L [1] ws = chkW ns L ws := by
  rw [row_one ns L 17 [] rfl 0 ws]
  unfold chkW
  cases lk ns L 17 ws with
  | inl e => rfl
  | inr r =>
    show rowRun ns L [0] r = tailOf ns r
    rw [row_nought]
    cases r with
    | nil => rfl
    | cons p r =>
      obtain ⟨p, x⟩ := p
      simp only [rowRun, tailOf]
      split <;> rfl

end Go.Proofs.YtnddpalngjmhnabDoor
