/-
  Own words for the walks over package wire: bytes as cells, a frame that names what a call may write, a Writer and a Reader in memory.
-/
import Derived.Test.YtlkkmggopoknaaaRows
import Derived.Test.YtlkkmggopoknaaaPlain
import Derived.WalkKit
import Derived.WalkSpells
import Derived.OwnWalk
import Derived.OneCell
import Derived.Laws.Pointers
import Derived.Laws.CopyOwn
import Derived.Deep.AppendLies
import Derived.Deep.AppendSrc
import Derived.Deep.RegionHeld3
import Derived.Deep.QuietTactic
import Derived.BigQuiet
import Derived.Deep.DrawnRows
import Derived.KernelRfl
namespace Go.Proofs.Ytlkkmggopoknaaa
open Go.RowKit

/-- Bytes as cells of memory. -/
def cells (bs : List UInt8) : List Value := bs.map fun b => Value.int .u8 b.toNat

theorem cells_length (bs : List UInt8) : (cells bs).length = bs.length := by simp [cells]
theorem cells_append (a b : List UInt8) : cells (a ++ b) = cells a ++ cells b := by simp [cells]
theorem cells_one (bs : List UInt8) : ∀ u ∈ cells bs, u.oneCell' = true := by
  intro u hu
  obtain ⟨_, _, rfl⟩ := List.mem_map.1 hu
  rfl
theorem cells_getElem (bs : List UInt8) (k : Nat) (h : k < bs.length) : (cells bs)[k]? = some (.int .u8 (bs[k]).toNat) := by
  simp [cells, h]

/-- Of the blocks that were there, those that p lets through are as they were; no other thing outside has turned. -/
structure Kept (p : Nat → Prop) (w w' : World) : Prop where
  os : w'.os = w.os
  tape : w'.tape = w.tape
  output : w'.output = w.output
  size : w.heap.size ≤ w'.heap.size
  block : ∀ k, k < w.heap.size → p k → w'.heap[k]? = w.heap[k]?

theorem Kept.refl (p : Nat → Prop) (w : World) : Kept p w w := ⟨rfl, rfl, rfl, Nat.le_refl _, fun _ _ _ => rfl⟩
theorem Kept.trans {p : Nat → Prop} {a b c : World} (h : Kept p a b) (k : Kept p b c) : Kept p a c :=
  ⟨k.os.trans h.os, k.tape.trans h.tape, k.output.trans h.output, Nat.le_trans h.size k.size, fun i hi hp => (k.block i (Nat.lt_of_lt_of_le hi h.size) hp).trans (h.block i hi hp)⟩
/-- Two steps, of which the second may write what was made behind the first. -/
theorem Kept.then {p q : Nat → Prop} {a b c : World} (h : Kept p a b) (k : Kept q b c) (hq : ∀ i, i < a.heap.size → p i → q i) : Kept p a c :=
  ⟨k.os.trans h.os, k.tape.trans h.tape, k.output.trans h.output, Nat.le_trans h.size k.size, fun i hi hp => (k.block i (Nat.lt_of_lt_of_le hi h.size) (hq i hi hp)).trans (h.block i hi hp)⟩
theorem Kept.mono {p q : Nat → Prop} {a b : World} (h : Kept p a b) (hq : ∀ i, i < a.heap.size → q i → p i) : Kept q a b :=
  ⟨h.os, h.tape, h.output, h.size, fun i hi hp => h.block i hi (hq i hi hp)⟩
theorem Kept.drew {p : Nat → Prop} {a w : World} (h : Kept p a w) : Kept p a w.drew := ⟨h.os, h.tape, h.output, h.size, h.block⟩
theorem Kept.drewN {p : Nat → Prop} {a w : World} (h : Kept p a w) (n : Nat) : Kept p a (w.drewN n) := ⟨h.os, h.tape, h.output, h.size, h.block⟩
theorem Kept.alloc {p : Nat → Prop} {a w : World} (h : Kept p a w) (o : Obj) : Kept p a (w.alloc o) :=
  h.trans ⟨rfl, rfl, rfl, by simp, fun k hk _ => Below.heap_alloc _ _ _ hk⟩
theorem Kept.setCell {p : Nat → Prop} {a w : World} (h : Kept p a w) {ad : Addr} (hp : ¬ p ad.block) (u : Value) : Kept p a (w.setCell ad u) :=
  h.trans ⟨rfl, rfl, rfl, by simp [World.setCell], fun k _ hk => Below.heap_setCell _ _ _ _ (fun e => hp (e ▸ hk))⟩
theorem Kept.grown {p : Nat → Prop} {a w w' : World} {row : Option Nat} (h : Kept p a w) (hg : w.grownBy w' row) (hr : ∀ k, k < a.heap.size → row = some k → ¬ p k) : Kept p a w' :=
  ⟨hg.os.trans h.os, hg.tape.trans h.tape, hg.output.trans h.output, Nat.le_trans h.size hg.size,
   fun k hk hp => (hg.block k (Nat.lt_of_lt_of_le hk h.size) (fun e => hr k hk e.symm hp)).trans (h.block k hk hp)⟩
/-- From 'Below': everything that was there is as it was. -/
theorem Kept.below {w w' : World} (h : Kept (fun _ => True) w w') : Below w.heap.size w w' :=
  ⟨h.os, h.tape, h.output, h.size, fun k hk => h.block k hk trivial⟩
theorem Kept.ofBelow {w w' : World} (p : Nat → Prop) (h : Below w.heap.size w w') : Kept p w w' :=
  ⟨h.os, h.tape, h.output, h.size, fun k hk _ => h.block k hk⟩

/-- A Writer in block B, its bytes in block G (none: it has none yet). -/
structure Wr (w : World) (B : Nat) (G : Option Nat) (v : Value) (bs : List UInt8) : Prop where
  self : w.heap[B]? = some (.cells #[v] 58 (0, 0))
  own : w.ownsRow 0 5 1 v bs.length (cells bs)
  row : v.ownBlock = G

theorem Wr.ne {w : World} {B : Nat} {G : Option Nat} {v : Value} {bs : List UInt8} (h : Wr w B G v bs) : G ≠ some B := by
  intro e
  rcases h.own.2 with ⟨hv, _⟩ | ⟨g, cap, cur, hv, _, hh, _⟩
  · have := h.row; rw [hv, e] at this; simp [Value.ownBlock] at this
  · have := h.row; rw [hv, e] at this; simp [Value.ownBlock] at this
    subst this
    rw [h.self] at hh
    simp at hh
theorem Wr.lt {w : World} {B : Nat} {G : Option Nat} {v : Value} {bs : List UInt8} (h : Wr w B G v bs) : B < w.heap.size := lt_of_block h.self
theorem Wr.rowlt {w : World} {B : Nat} {G : Option Nat} {v : Value} {bs : List UInt8} (h : Wr w B G v bs) : ∀ k, G = some k → k < w.heap.size := fun k hk => (h.own.lt k (h.row.trans hk)).2
/-- A Writer stays what it is while other blocks are written. -/
theorem Wr.kept {p : Nat → Prop} {w w' : World} {B : Nat} {G : Option Nat} {v : Value} {bs : List UInt8} (h : Wr w B G v bs) (hk : Kept p w w') (hB : p B) (hG : ∀ k, G = some k → p k) : Wr w' B G v bs := by
  refine ⟨(hk.block B h.lt hB).trans h.self, ⟨h.own.1, ?_⟩, h.row⟩
  rcases h.own.2 with hn | ⟨g, cap, cur, hv, hb, hh, rest⟩
  · exact .inl hn
  · refine .inr ⟨g, cap, cur, hv, hb, ?_, rest⟩
    have hg : G = some g := by rw [← h.row, hv]; rfl
    rw [hk.block g (h.rowlt g hg) (hG g hg)]
    exact hh

/-- A Reader in block B over the bytes in block R. -/
structure Rd (w : World) (B R : Nat) (bs : List UInt8) (cap : Nat) (at_ why : Int) : Prop where
  self : w.heap[B]? = some (.cells #[.slice (some ⟨R, 0, none⟩) bs.length cap, .int .i64 at_, .int .i64 why] 60 (0, 0))
  row : ∃ cur : Array Value, w.heap[R]? = some (.cells cur 5 (0, 0)) ∧ cur.toList.take bs.length = cells bs ∧ bs.length ≤ cap
theorem Rd.lt {w : World} {B R : Nat} {bs : List UInt8} {cap : Nat} {a y : Int} (h : Rd w B R bs cap a y) : B < w.heap.size := lt_of_block h.self
theorem Rd.rowlt {w : World} {B R : Nat} {bs : List UInt8} {cap : Nat} {a y : Int} (h : Rd w B R bs cap a y) : R < w.heap.size := by
  obtain ⟨cur, hc, _⟩ := h.row; exact lt_of_block hc
theorem Rd.ne {w : World} {B R : Nat} {bs : List UInt8} {cap : Nat} {a y : Int} (h : Rd w B R bs cap a y) : B ≠ R := by
  rintro rfl
  obtain ⟨cur, hc, _⟩ := h.row
  rw [h.self] at hc
  simp at hc
theorem Rd.kept {p : Nat → Prop} {w w' : World} {B R : Nat} {bs : List UInt8} {cap : Nat} {a y : Int} (h : Rd w B R bs cap a y) (hk : Kept p w w') (hB : p B) (hR : p R) : Rd w' B R bs cap a y := by
  refine ⟨(hk.block B h.lt hB).trans h.self, ?_⟩
  obtain ⟨cur, hc, r⟩ := h.row
  exact ⟨cur, (hk.block R h.rowlt hR).trans hc, r⟩
/-- A byte of the Reader's row. -/
theorem Rd.byte {w : World} {B R : Nat} {bs : List UInt8} {cap : Nat} {a y : Int} (h : Rd w B R bs cap a y) (k : Nat) (hk : k < bs.length) : w.cell? ⟨R, k, none⟩ = some (.int .u8 (bs[k]).toNat) := by
  obtain ⟨cur, hc, ht, _⟩ := h.row
  rw [cell_of_row w R k cur _ _ hc]
  have := cells_getElem bs k hk
  rw [← ht, List.getElem?_take, if_pos hk] at this
  simpa using this

theorem three_cell {w : World} {b : Nat} {x y z : Value} {t : TypeId} (h : w.heap[b]? = some (.cells #[x, y, z] t (0, 0))) :
    w.cell? ⟨b, 0, none⟩ = some x ∧ w.cell? ⟨b, 1, none⟩ = some y ∧ w.cell? ⟨b, 2, none⟩ = some z ∧ (∀ k, w.frozen? ⟨b, k, none⟩ = false) := by
  refine ⟨by simp [World.cell?, h], by simp [World.cell?, h], by simp [World.cell?, h], fun k => by simp [World.frozen?, h]⟩
theorem three_set {w : World} {b : Nat} {x y z : Value} {t : TypeId} (h : w.heap[b]? = some (.cells #[x, y, z] t (0, 0))) (u : Value) :
    (w.setCell ⟨b, 1, none⟩ u).heap[b]? = some (.cells #[x, u, z] t (0, 0)) ∧ (w.setCell ⟨b, 2, none⟩ u).heap[b]? = some (.cells #[x, y, u] t (0, 0)) := by
  have hlt := lt_of_block h
  have h' : w.heap[b] = .cells #[x, y, z] t (0, 0) := by simpa [Array.getElem?_eq_getElem hlt] using h
  constructor
  · show (w.heap.modify b _)[b]? = _
    rw [Array.getElem?_eq_getElem (by simpa using hlt), Array.getElem_modify_self, h']
    rfl
  · show (w.heap.modify b _)[b]? = _
    rw [Array.getElem?_eq_getElem (by simpa using hlt), Array.getElem_modify_self, h']
    rfl
theorem Rd.setAt {w : World} {B R : Nat} {bs : List UInt8} {cap : Nat} {a y : Int} (h : Rd w B R bs cap a y) (a' : Int) : Rd (w.setCell ⟨B, 1, none⟩ (.int .i64 a')) B R bs cap a' y := by
  refine ⟨(three_set h.self _).1, ?_⟩
  obtain ⟨cur, hc, r⟩ := h.row
  exact ⟨cur, by rw [Below.heap_setCell _ _ _ _ (Ne.symm h.ne)]; exact hc, r⟩
theorem Rd.setWhy {w : World} {B R : Nat} {bs : List UInt8} {cap : Nat} {a y : Int} (h : Rd w B R bs cap a y) (y' : Int) : Rd (w.setCell ⟨B, 2, none⟩ (.int .i64 y')) B R bs cap a y' := by
  refine ⟨(three_set h.self _).2, ?_⟩
  obtain ⟨cur, hc, r⟩ := h.row
  exact ⟨cur, by rw [Below.heap_setCell _ _ _ _ (Ne.symm h.ne)]; exact hc, r⟩
theorem Rd.drew {w : World} {B R : Nat} {bs : List UInt8} {cap : Nat} {a y : Int} (h : Rd w B R bs cap a y) : Rd w.drew B R bs cap a y := ⟨h.self, h.row⟩
theorem Rd.drewN {w : World} {B R : Nat} {bs : List UInt8} {cap : Nat} {a y : Int} (h : Rd w B R bs cap a y) (n : Nat) : Rd (w.drewN n) B R bs cap a y := ⟨h.self, h.row⟩

theorem Try.infoU8 : (Try.prog.info? 5).map (fun i => (i.zero, i.size, i.bytes)) = some (some (.int .u8 0), 1, 1) := by kernel_rfl
theorem Try.bytesU8 : Try.prog.bytesOf 5 = 1 := by kernel_rfl

end Go.Proofs.Ytlkkmggopoknaaa
