/-
  Own words for the walks over package wire: bytes as cells, a frame that names what a call may write, a Writer and a Reader in memory.
-/
import Derived.Test.YtbooeabmpdpgpaaSB
import Derived.Test.YtbooeabmpdpgpaaPlain
import Derived.WalkKit
import Derived.WalkSpells
import Derived.OwnWalk
import Derived.OneCell
import Derived.Laws.Pointers
import Derived.Laws.CopyOwn
import Derived.Deep.AppendLies
import Derived.Deep.AppendSrc
import Derived.Deep.RegionHeld3
import Derived.Deep.QuietTactic
import Derived.BigQuiet
import Derived.Deep.DrawnRows
import Derived.KernelRfl
namespace Go.Proofs.Ytbooeabmpdpgpaa
open Go.RowKit

/-- A Writer in block B, its bytes in block G (none: it has none yet). -/
structure Wr (w : World) (B : Nat) (G : Option Nat) (v : Value) (bs : List UInt8) : Prop where
  self : w.heap[B]? = some (.cells #[v] 142 (0, 0))
  own : w.ownsRow 0 5 1 v bs.length (cells bs)
  row : v.ownBlock = G

theorem Wr.ne {w : World} {B : Nat} {G : Option Nat} {v : Value} {bs : List UInt8} (h : Wr w B G v bs) : G ≠ some B := by
  intro e
  rcases h.own.2 with ⟨hv, _⟩ | ⟨g, cap, cur, hv, _, hh, _⟩
  · have := h.row; rw [hv, e] at this; simp [Value.ownBlock] at this
  · have := h.row; rw [hv, e] at this; simp [Value.ownBlock] at this
    subst this
    rw [h.self] at hh
    simp at hh
theorem Wr.lt {w : World} {B : Nat} {G : Option Nat} {v : Value} {bs : List UInt8} (h : Wr w B G v bs) : B < w.heap.size := lt_of_block h.self
theorem Wr.rowlt {w : World} {B : Nat} {G : Option Nat} {v : Value} {bs : List UInt8} (h : Wr w B G v bs) : ∀ k, G = some k → k < w.heap.size := fun k hk => (h.own.lt k (h.row.trans hk)).2
/-- A Writer stays what it is while other blocks are written. -/
theorem Wr.kept {p : Nat → Prop} {w w' : World} {B : Nat} {G : Option Nat} {v : Value} {bs : List UInt8} (h : Wr w B G v bs) (hk : Kept p w w') (hB : p B) (hG : ∀ k, G = some k → p k) : Wr w' B G v bs := by
  refine ⟨(hk.block B h.lt hB).trans h.self, ⟨h.own.1, ?_⟩, h.row⟩
  rcases h.own.2 with hn | ⟨g, cap, cur, hv, hb, hh, rest⟩
  · exact .inl hn
  · refine .inr ⟨g, cap, cur, hv, hb, ?_, rest⟩
    have hg : G = some g := by rw [← h.row, hv]; rfl
    rw [hk.block g (h.rowlt g hg) (hG g hg)]
    exact hh

/-- A Reader in block B over the bytes in block R. -/
structure Rd (w : World) (B R : Nat) (bs : List UInt8) (cap : Nat) (at_ why : Int) : Prop where
  self : w.heap[B]? = some (.cells #[.slice (some ⟨R, 0, none⟩) bs.length cap, .int .i64 at_, .int .i64 why] 137 (0, 0))
  row : ∃ cur : Array Value, w.heap[R]? = some (.cells cur 5 (0, 0)) ∧ cur.toList.take bs.length = cells bs ∧ bs.length ≤ cap
theorem Rd.lt {w : World} {B R : Nat} {bs : List UInt8} {cap : Nat} {a y : Int} (h : Rd w B R bs cap a y) : B < w.heap.size := lt_of_block h.self
theorem Rd.rowlt {w : World} {B R : Nat} {bs : List UInt8} {cap : Nat} {a y : Int} (h : Rd w B R bs cap a y) : R < w.heap.size := by
  obtain ⟨cur, hc, _⟩ := h.row; exact lt_of_block hc
theorem Rd.ne {w : World} {B R : Nat} {bs : List UInt8} {cap : Nat} {a y : Int} (h : Rd w B R bs cap a y) : B ≠ R := by
  rintro rfl
  obtain ⟨cur, hc, _⟩ := h.row
  rw [h.self] at hc
  simp at hc
theorem Rd.kept {p : Nat → Prop} {w w' : World} {B R : Nat} {bs : List UInt8} {cap : Nat} {a y : Int} (h : Rd w B R bs cap a y) (hk : Kept p w w') (hB : p B) (hR : p R) : Rd w' B R bs cap a y := by
  refine ⟨(hk.block B h.lt hB).trans h.self, ?_⟩
  obtain ⟨cur, hc, r⟩ := h.row
  exact ⟨cur, (hk.block R h.rowlt hR).trans hc, r⟩
/-- A byte of the Reader's row. -/
theorem Rd.byte {w : World} {B R : Nat} {bs : List UInt8} {cap : Nat} {a y : Int} (h : Rd w B R bs cap a y) (k : Nat) (hk : k < bs.length) : w.cell? ⟨R, k, none⟩ = some (.int .u8 (bs[k]).toNat) := by
  obtain ⟨cur, hc, ht, _⟩ := h.row
  rw [cell_of_row w R k cur _ _ hc]
  have := cells_getElem bs k hk
  rw [← ht, List.getElem?_take, if_pos hk] at this
  simpa using this

theorem wthree_cell {w : World} {b : Nat} {x y z : Value} {t : TypeId} (h : w.heap[b]? = some (.cells #[x, y, z] t (0, 0))) :
    w.cell? ⟨b, 0, none⟩ = some x ∧ w.cell? ⟨b, 1, none⟩ = some y ∧ w.cell? ⟨b, 2, none⟩ = some z ∧ (∀ k, w.frozen? ⟨b, k, none⟩ = false) := by
  refine ⟨by simp [World.cell?, h], by simp [World.cell?, h], by simp [World.cell?, h], fun k => by simp [World.frozen?, h]⟩
theorem wthree_set {w : World} {b : Nat} {x y z : Value} {t : TypeId} (h : w.heap[b]? = some (.cells #[x, y, z] t (0, 0))) (u : Value) :
    (w.setCell ⟨b, 1, none⟩ u).heap[b]? = some (.cells #[x, u, z] t (0, 0)) ∧ (w.setCell ⟨b, 2, none⟩ u).heap[b]? = some (.cells #[x, y, u] t (0, 0)) := by
  have hlt := lt_of_block h
  have h' : w.heap[b] = .cells #[x, y, z] t (0, 0) := by simpa [Array.getElem?_eq_getElem hlt] using h
  constructor
  · show (w.heap.modify b _)[b]? = _
    rw [Array.getElem?_eq_getElem (by simpa using hlt), Array.getElem_modify_self, h']
    rfl
  · show (w.heap.modify b _)[b]? = _
    rw [Array.getElem?_eq_getElem (by simpa using hlt), Array.getElem_modify_self, h']
    rfl
theorem Rd.setAt {w : World} {B R : Nat} {bs : List UInt8} {cap : Nat} {a y : Int} (h : Rd w B R bs cap a y) (a' : Int) : Rd (w.setCell ⟨B, 1, none⟩ (.int .i64 a')) B R bs cap a' y := by
  refine ⟨(wthree_set h.self _).1, ?_⟩
  obtain ⟨cur, hc, r⟩ := h.row
  exact ⟨cur, by rw [Below.heap_setCell _ _ _ _ (Ne.symm h.ne)]; exact hc, r⟩
theorem Rd.setWhy {w : World} {B R : Nat} {bs : List UInt8} {cap : Nat} {a y : Int} (h : Rd w B R bs cap a y) (y' : Int) : Rd (w.setCell ⟨B, 2, none⟩ (.int .i64 y')) B R bs cap a y' := by
  refine ⟨(wthree_set h.self _).2, ?_⟩
  obtain ⟨cur, hc, r⟩ := h.row
  exact ⟨cur, by rw [Below.heap_setCell _ _ _ _ (Ne.symm h.ne)]; exact hc, r⟩
theorem Rd.drew {w : World} {B R : Nat} {bs : List UInt8} {cap : Nat} {a y : Int} (h : Rd w B R bs cap a y) : Rd w.drew B R bs cap a y := ⟨h.self, h.row⟩
theorem Rd.drewN {w : World} {B R : Nat} {bs : List UInt8} {cap : Nat} {a y : Int} (h : Rd w B R bs cap a y) (n : Nat) : Rd (w.drewN n) B R bs cap a y := ⟨h.self, h.row⟩

end Go.Proofs.Ytbooeabmpdpgpaa
