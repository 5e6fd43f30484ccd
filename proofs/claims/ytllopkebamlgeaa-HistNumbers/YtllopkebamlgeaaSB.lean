/-
  Own words for the walks over package sum: bytes as cells, a frame that names what a call may write, slices of bytes in memory.
-/
import Derived.Test.YtllopkebamlgeaaRows
import Derived.WalkKit
import Derived.WalkSpells
import Derived.OwnWalk
import Derived.OneCell
import Derived.Laws.Pointers
import Derived.Laws.CopyOwn
import Derived.Laws.IdiomStrings
import Derived.Laws.BytesString
import Derived.Laws.AppendOwnNone
import Derived.Maps.AppendAt
import Derived.Deep.AppendLies
import Derived.Deep.AppendSrc
import Derived.Deep.Onto
import Derived.Deep.RegionHeld3
import Derived.Deep.QuietTactic
import Derived.BigQuiet
import Derived.Deep.DrawnRows
import Derived.KernelRfl
namespace Go.Proofs.Ytllopkebamlgeaa
open Go.RowKit

/-- Bytes as cells of memory. -/
def cells (bs : List UInt8) : List Value := bs.map fun b => Value.int .u8 b.toNat

theorem cells_length (bs : List UInt8) : (cells bs).length = bs.length := by simp [cells]
theorem cells_append (a b : List UInt8) : cells (a ++ b) = cells a ++ cells b := by simp [cells]
theorem cells_one (bs : List UInt8) : ∀ u ∈ cells bs, u.oneCell' = true := by
  intro u hu
  obtain ⟨_, _, rfl⟩ := List.mem_map.1 hu
  rfl
theorem cells_getElem (bs : List UInt8) (k : Nat) (h : k < bs.length) : (cells bs)[k]? = some (.int .u8 (bs[k]).toNat) := by
  simp [cells, h]

/-- Of the blocks that were there, those that p lets through are as they were; no other thing outside has turned. -/
structure Kept (p : Nat → Prop) (w w' : World) : Prop where
  os : w'.os = w.os
  tape : w'.tape = w.tape
  output : w'.output = w.output
  size : w.heap.size ≤ w'.heap.size
  block : ∀ k, k < w.heap.size → p k → w'.heap[k]? = w.heap[k]?

theorem Kept.refl (p : Nat → Prop) (w : World) : Kept p w w := ⟨rfl, rfl, rfl, Nat.le_refl _, fun _ _ _ => rfl⟩
theorem Kept.trans {p : Nat → Prop} {a b c : World} (h : Kept p a b) (k : Kept p b c) : Kept p a c :=
  ⟨k.os.trans h.os, k.tape.trans h.tape, k.output.trans h.output, Nat.le_trans h.size k.size, fun i hi hp => (k.block i (Nat.lt_of_lt_of_le hi h.size) hp).trans (h.block i hi hp)⟩
/-- Two steps, of which the second may write what was made behind the first. -/
theorem Kept.then {p q : Nat → Prop} {a b c : World} (h : Kept p a b) (k : Kept q b c) (hq : ∀ i, i < a.heap.size → p i → q i) : Kept p a c :=
  ⟨k.os.trans h.os, k.tape.trans h.tape, k.output.trans h.output, Nat.le_trans h.size k.size, fun i hi hp => (k.block i (Nat.lt_of_lt_of_le hi h.size) (hq i hi hp)).trans (h.block i hi hp)⟩
theorem Kept.mono {p q : Nat → Prop} {a b : World} (h : Kept p a b) (hq : ∀ i, i < a.heap.size → q i → p i) : Kept q a b :=
  ⟨h.os, h.tape, h.output, h.size, fun i hi hp => h.block i hi (hq i hi hp)⟩
theorem Kept.drew {p : Nat → Prop} {a w : World} (h : Kept p a w) : Kept p a w.drew := ⟨h.os, h.tape, h.output, h.size, h.block⟩
theorem Kept.drewN {p : Nat → Prop} {a w : World} (h : Kept p a w) (n : Nat) : Kept p a (w.drewN n) := ⟨h.os, h.tape, h.output, h.size, h.block⟩
theorem Kept.alloc {p : Nat → Prop} {a w : World} (h : Kept p a w) (o : Obj) : Kept p a (w.alloc o) :=
  h.trans ⟨rfl, rfl, rfl, by simp, fun k hk _ => Below.heap_alloc _ _ _ hk⟩
theorem Kept.setCell {p : Nat → Prop} {a w : World} (h : Kept p a w) {ad : Addr} (hp : ¬ p ad.block) (u : Value) : Kept p a (w.setCell ad u) :=
  h.trans ⟨rfl, rfl, rfl, by simp [World.setCell], fun k _ hk => Below.heap_setCell _ _ _ _ (fun e => hp (e ▸ hk))⟩
theorem Kept.grown {p : Nat → Prop} {a w w' : World} {row : Option Nat} (h : Kept p a w) (hg : w.grownBy w' row) (hr : ∀ k, k < a.heap.size → row = some k → ¬ p k) : Kept p a w' :=
  ⟨hg.os.trans h.os, hg.tape.trans h.tape, hg.output.trans h.output, Nat.le_trans h.size hg.size,
   fun k hk hp => (hg.block k (Nat.lt_of_lt_of_le hk h.size) (fun e => hr k hk e.symm hp)).trans (h.block k hk hp)⟩
/-- From 'Below': everything that was there is as it was. -/
theorem Kept.below {w w' : World} (h : Kept (fun _ => True) w w') : Below w.heap.size w w' :=
  ⟨h.os, h.tape, h.output, h.size, fun k hk => h.block k hk trivial⟩
theorem Kept.ofBelow {w w' : World} (p : Nat → Prop) (h : Below w.heap.size w w') : Kept p w w' :=
  ⟨h.os, h.tape, h.output, h.size, fun k hk _ => h.block k hk⟩

theorem Try.infoU8 : (Try.prog.info? 5).map (fun i => (i.zero, i.size, i.bytes)) = some (some (.int .u8 0), 1, 1) := by kernel_rfl
theorem Try.bytesU8 : Try.prog.bytesOf 5 = 1 := by kernel_rfl

/-- The cells of a row from p on. -/
theorem row_cells {w : World} {R : Nat} {cur : Array Value} {t : TypeId} {fr : Nat × Nat} {bs : List UInt8} (hc : w.heap[R]? = some (.cells cur t fr)) (ht : cur.toList.take bs.length = cells bs) (k : Nat) (hk : k < bs.length) : w.cell? ⟨R, k, none⟩ = some (.int .u8 (bs[k]).toNat) := by
  rw [cell_of_row w R k cur _ _ hc]
  have := cells_getElem bs k hk
  rw [← ht, List.getElem?_take, if_pos hk] at this
  simpa using this

/-- What a slice value of bytes reads as. -/
def Has (w : World) (ao : Option Addr) (bs : List UInt8) : Prop := 0 < bs.length → ∃ ad, ao = some ad ∧ ∀ j (hj : j < bs.length), w.cell? (ad.add j) = some (.int .u8 (bs[j].toNat : Int))
theorem Has.src {w : World} {ad : Addr} {bs : List UInt8} (h : ∀ j (hj : j < bs.length), w.cell? (ad.add j) = some (.int .u8 (bs[j].toNat : Int))) : ∀ j v, (cells bs)[j]? = some v → w.cell? (ad.add j) = some v := by
  intro j v hv
  have hj : j < bs.length := by
    have := (List.getElem?_eq_some_iff.1 hv).1
    simpa [cells] using this
  rw [h j hj]
  rw [cells_getElem bs j hj] at hv
  exact hv
theorem Try.infoSize : (Try.prog.info? 5).map (·.size) = some 1 := by
  obtain ⟨i, hi, hz0, hz1, hz2⟩ := info_parts Try.infoU8
  rw [hi]; simp [hz1]

theorem Kept.setRow {p : Nat → Prop} {a w : World} (h : Kept p a w) {g : Nat} (hp : ¬ p g) (cs : Array Value) : Kept p a (w.setRow g cs) :=
  h.trans ⟨rfl, rfl, rfl, by simp [World.setRow], fun k _ hk => setRow_other w g k cs (fun e => hp (e ▸ hk))⟩

theorem Has.kept {p : Nat → Prop} {w w' : World} {ao : Option Addr} {bs : List UInt8} (h : Has w ao bs) (hk : Kept p w w') (hp : ∀ ad, ao = some ad → p ad.block) : Has w' ao bs := by
  intro h0
  obtain ⟨ad, rfl, hc⟩ := h h0
  refine ⟨ad, rfl, fun j hj => ?_⟩
  have hb : (ad.add j).block = ad.block := by unfold Addr.add; split <;> rfl
  have hlt : ad.block < w.heap.size := by
    have := World.block_lt_of_cell? w _ (hc j hj)
    rwa [hb] at this
  rw [World.cell?_of_block (w := w) (by rw [hb]; exact hk.block ad.block hlt (hp ad rfl))]
  exact hc j hj

/-- What make leaves, as a row that is known whole. -/
theorem made_row {w1 : World} {base g n : Nat} {xs : List Value} (h : w1.ownsRow base 5 1 (.slice (some ⟨g, 0, none⟩) n n) n xs) : ∃ cur : Array Value, w1.heap[g]? = some (.cells cur 5 (0, 0)) ∧ cur.size = n := by
  rcases h.2 with ⟨hv, _⟩ | ⟨g', cap, cur, hv, _, hh, _, _, hs, _⟩
  · simp at hv
  · simp at hv
    obtain ⟨rfl, rfl⟩ := hv
    exact ⟨cur, hh, by simpa using hs⟩

theorem own_shape {w : World} {b e n : Nat} {v : Value} {xs : List Value} (h : w.ownsRow b e 1 v n xs) : ∃ ao cap, v = .slice ao n cap := by
  rcases h.2 with ⟨e, rfl⟩ | ⟨g, cap, _, e, _⟩
  · exact ⟨_, _, e⟩
  · exact ⟨_, _, e⟩

theorem own_has {w : World} {b : Nat} {ao : Option Addr} {n cap : Nat} {bs : List UInt8} (h : w.ownsRow b 5 1 (.slice ao n cap) bs.length (cells bs)) : Has w ao bs := by
  intro h0
  rcases h.2 with ⟨_, h1⟩ | ⟨g, cap', cur, hv, _, hh, _, _, _, ht⟩
  · omega
  · injection hv with e1 e2 e3
    subst e1
    refine ⟨_, rfl, fun j hj => ?_⟩
    have e : (⟨g, 0, none⟩ : Addr).add j = ⟨g, j, none⟩ := by simp [Addr.add]; omega
    rw [e]
    exact row_cells hh (by simpa using ht) j hj

/-- A slice over a row that is known whole. -/
theorem has_row {w : World} {D : Nat} {bs : List UInt8} {fr : Nat × Nat} (h : w.heap[D]? = some (.cells (cells bs).toArray 5 fr)) : Has w (some ⟨D, 0, none⟩) bs := by
  intro _
  refine ⟨_, rfl, fun j hj => ?_⟩
  have e : (⟨D, 0, none⟩ : Addr).add j = ⟨D, j, none⟩ := by simp [Addr.add]; omega
  rw [e]
  exact row_cells h (List.take_of_length_le (by simp [cells_length])) j hj
/-- A slice value of the bytes bs. -/
def Sl (w : World) (v : Value) (bs : List UInt8) : Prop := ∃ ao cap, v = .slice ao bs.length cap ∧ (ao = none → cap = 0) ∧ Has w ao bs

theorem own_sl {w : World} {b : Nat} {v : Value} {bs : List UInt8} (h : w.ownsRow b 5 1 v bs.length (cells bs)) : Sl w v bs := by
  rcases h.2 with ⟨rfl, h0⟩ | ⟨g, cap, cur, rfl, _⟩
  · exact ⟨none, 0, by rw [h0], fun _ => rfl, by intro h; omega⟩
  · exact ⟨_, _, rfl, by simp, own_has h⟩

/-- An empty row that has just been made. -/
theorem own_new (w : World) (base : Nat) (hb : base ≤ w.heap.size) : (w.alloc (.cells #[] 5)).ownsRow base 5 1 (.slice (some ⟨w.heap.size, 0, none⟩) 0 0) 0 [] :=
  ⟨by simp, .inr ⟨w.heap.size, 0, #[], rfl, hb, heap_alloc_new w _, Nat.zero_le _, by unfold maxLen; omega, by simp, by simp⟩⟩

/-- An append onto a row that was made just now. -/
theorem fresh_one {w w1 : World} {o : Obj} (hg1 : (w.alloc o).grownBy w1 (some w.heap.size)) : Kept (fun _ => True) w w1 :=
  ((Kept.refl _ _).alloc o).grown hg1 (fun k hk e => by cases e; omega)
/-- Two appends, the first onto a row that was made just now. -/
theorem fresh_two {w w1 w2 : World} {o o1 : Obj} {v : Value} (hg1 : (w.alloc o).grownBy w1 (some w.heap.size)) (hg2 : (w1.alloc o1).grownBy w2 v.ownBlock) (hl : v.ownBlock = some w.heap.size ∨ v.ownBlock = some (w.alloc o).heap.size) : Kept (fun _ => True) w w2 := by
  have k1 : Kept (fun _ => True) w w1 := ((Kept.refl _ _).alloc o).grown hg1 (fun k hk e => by cases e; omega)
  refine (k1.alloc o1).grown hg2 (fun k hk e => ?_)
  rcases hl with h | h
  · rw [h] at e; cases e; omega
  · rw [h] at e; cases e; simp at hk; omega

theorem own_kept {p : Nat → Prop} {w w' : World} {b n : Nat} {v : Value} {xs : List Value} (h : w.ownsRow b 5 1 v n xs) (hk : Kept p w w') (hp : ∀ k, v.ownBlock = some k → p k) : w'.ownsRow b 5 1 v n xs := by
  refine ⟨h.1, ?_⟩
  rcases h.2 with h0 | ⟨g, cap, cur, rfl, hb, hh, rest⟩
  · exact .inl h0
  · exact .inr ⟨g, cap, cur, rfl, hb, (hk.block g (lt_of_block hh) (hp g rfl)).trans hh, rest⟩
theorem Sl.kept {p : Nat → Prop} {w w' : World} {ao : Option Addr} {n cap : Nat} {bs : List UInt8} (h : Sl w (.slice ao n cap) bs) (hk : Kept p w w') (hp : ∀ k, k < w.heap.size → p k) : Sl w' (.slice ao n cap) bs := by
  obtain ⟨ao', cap', e, hn, hh⟩ := h
  refine ⟨ao', cap', e, hn, fun h0 => ?_⟩
  obtain ⟨ad, rfl, hc⟩ := hh h0
  have hb : ad.block < w.heap.size := by
    have := World.block_lt_of_cell? w _ (hc 0 h0)
    simpa [Addr.add] using this
  exact (Has.kept (fun _ => ⟨ad, rfl, hc⟩ : Has w (some ad) bs) hk (fun x hx => by cases hx; exact hp _ hb)) h0
/-- The cells of such a slice, at a plain address. -/
theorem Sl.plain {w : World} {ao : Option Addr} {n cap : Nat} {bs : List UInt8} (h : Sl w (.slice ao n cap) bs) (h0 : 0 < bs.length) : ∃ b off, ao = some ⟨b, off, none⟩ ∧ b < w.heap.size ∧ ∀ j (hj : j < bs.length), w.cell? ⟨b, off + j, none⟩ = some (.int .u8 (bs[j]).toNat) := by
  obtain ⟨ao', cap', e, hn, hh⟩ := h
  cases e
  obtain ⟨⟨b, off, spot⟩, rfl, hc⟩ := hh h0
  have hs : spot = none := by simpa [Addr.add] using World.cell?_spot (hc 0 h0)
  subst hs
  refine ⟨b, off, rfl, ?_, fun j hj => ?_⟩
  · have := World.block_lt_of_cell? w _ (hc 0 h0)
    simpa [Addr.add] using this
  · rw [← WideShapes.add_plain]; exact hc j hj

theorem kept_cell {p : Nat → Prop} {w w' : World} (h : Kept p w w') {b o : Nat} (hlt : b < w.heap.size) (hp : p b) : w'.cell? ⟨b, o, none⟩ = w.cell? ⟨b, o, none⟩ := World.cell?_of_block (w := w) (h.block b hlt hp)
theorem kept_frozen {p : Nat → Prop} {w w' : World} (h : Kept p w w') {b o : Nat} (hlt : b < w.heap.size) (hp : p b) : w'.frozen? ⟨b, o, none⟩ = w.frozen? ⟨b, o, none⟩ := World.frozen?_of_block (w := w) (h.block b hlt hp)
theorem drew_two (w : World) (a b : Nat) : (w.drewN a).drewN b = w.drewN (a + b) := by simp [World.drewN, Nat.add_assoc]

theorem has_plain {w : World} {ao : Option Addr} {bs : List UInt8} (h : Has w ao bs) (h0 : 0 < bs.length) : ∃ b off, ao = some ⟨b, off, none⟩ ∧ ∀ j (hj : j < bs.length), w.cell? ⟨b, off + j, none⟩ = some (.int .u8 (bs[j]).toNat) := by
  obtain ⟨⟨b, off, spot⟩, rfl, hc⟩ := h h0
  have hs : spot = none := by simpa [Addr.add] using World.cell?_spot (hc 0 h0)
  subst hs
  exact ⟨b, off, rfl, fun j hj => by rw [← WideShapes.add_plain]; exact hc j hj⟩

end Go.Proofs.Ytllopkebamlgeaa
