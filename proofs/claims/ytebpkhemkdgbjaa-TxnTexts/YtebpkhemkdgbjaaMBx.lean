/-
  A variable of the type Map; New of a number that is in its bounds; bytes in a block by themselves.
-/
import Derived.Test.YtebpkhemkdgbjaaMR4
import Derived.Laws.BitsAllLaws
namespace Go.Proofs.Ytebpkhemkdgbjaa
open Go.RowKit

/-- A Map in a variable. -/
structure Bx (w : World) (B : Nat) (ao : Option Addr) (cap : Nat) (ep : Int) (ps : List Pa) : Prop where
  self : w.heap[B]? = some (.cells #[.int .i64 ep, .slice ao ps.length cap] 24 (0, 0))
  view : Pv w ao ps
theorem Bx.all {w w' : World} {B : Nat} {ao : Option Addr} {cap : Nat} {ep : Int} {ps : List Pa} (h : Bx w B ao cap ep ps) (k : Kept (fun _ => True) w w') : Bx w' B ao cap ep ps :=
  ⟨(k.block _ (lt_of_block h.self) trivial).trans h.self, h.view.all k⟩
theorem Bx.cells {w : World} {B : Nat} {ao : Option Addr} {cap : Nat} {ep : Int} {ps : List Pa} (h : Bx w B ao cap ep ps) : w.cell? ⟨B, 0, none⟩ = some (.int .i64 ep) ∧ w.cell? ⟨B, 1, none⟩ = some (.slice ao ps.length cap) := mtwo_cell h.self
theorem Bx.free {w : World} {B : Nat} {ao : Option Addr} {cap : Nat} {ep : Int} {ps : List Pa} (h : Bx w B ao cap ep ps) (i : Nat) : w.frozen? ⟨B, i, none⟩ = false := by simp [World.frozen?, h.self]
/-- A variable that has just been made for what was answered. -/
theorem Bx.made {w : World} {ao : Option Addr} {cap : Nat} {ep : Int} {ps : List Pa} (h : Pv w ao ps) : Bx (w.alloc (.cells #[.int .i64 ep, .slice ao ps.length cap] 24)) w.heap.size ao cap ep ps :=
  ⟨heap_alloc_new w _, h.all ((Kept.refl _ _).alloc _)⟩

/-- New of one more than k. -/
theorem new_one {w : World} (k : Nat) (hk : k ≤ 2) :
    Calls Try.prog 8 #[.int .i64 (1 + (k : Int))] w fun e w' => ∃ ao cap, e = .returned (.tuple #[.agg #[.int .i64 1, .slice ao (newP (1 + k)).length cap], .int .i64 0]) ∧ Pv w' ao (newP (1 + k)) ∧ Kept (fun _ => True) w w' := by
  have c := new_any (w := w) (1 + k) (by omega) (by omega)
  rw [show ((1 + k : Nat) : Int) = 1 + (k : Int) by omega] at c
  refine c.mono ?_
  rintro e w' ⟨ao, cap, rfl, ho, k'⟩
  exact ⟨ao, cap, rfl, ho.view, k'⟩
theorem new_rgt {k : Nat} (hk : k ≤ 2) : rgt 1 (newP (1 + k)) = true := newP_rgt _ (by omega) (by omega)

theorem xoredm (z : UInt8) (t : Int) (ht : 0 ≤ t ∧ t < 256) : ∃ y : UInt8, bits BinOp.xor .u8 (z.toNat : Int) t = (y.toNat : Int) := by
  obtain ⟨T, rfl⟩ := Int.eq_ofNat_of_zero_le ht.1
  have hz := z.toNat_lt
  refine ⟨UInt8.ofNat (z.toNat ^^^ T), ?_⟩
  have hx : z.toNat ^^^ T < 2 ^ 8 := Nat.xor_lt_two_pow (by omega) (by omega)
  rw [u8_xor_nat z.toNat T (by omega) (by omega)]
  rw [UInt8.toNat_ofNat', Nat.mod_eq_of_lt hx]
/-- Bytes in a block by themselves. -/
def Blm (w : World) (D : Nat) (bs : List UInt8) : Prop := w.heap[D]? = some (.cells (cells bs).toArray 5 (0, 0))
theorem Blm.has {w : World} {D : Nat} {bs : List UInt8} (h : Blm w D bs) : Has w (some ⟨D, 0, none⟩) bs := has_row h
theorem Blm.cell {w : World} {D : Nat} {bs : List UInt8} (h : Blm w D bs) (k : Nat) (hk : k < bs.length) : w.cell? ⟨D, k, none⟩ = some (.int .u8 (bs[k]).toNat) := row_cells (w := w) (bs := bs) h (List.take_of_length_le (by simp [cells_length])) k hk
theorem Blm.kept {p : Nat → Prop} {w w' : World} {D : Nat} {bs : List UInt8} (h : Blm w D bs) (k : Kept p w w') (hp : p D) : Blm w' D bs := (k.block D (lt_of_block h) hp).trans h
theorem Blm.set {w : World} {D : Nat} {bs : List UInt8} (h : Blm w D bs) (k : Nat) (y : UInt8) : Blm (w.setCell ⟨D, k, none⟩ (.int .u8 y.toNat)) D (bs.set k y) := by
  have := mset_at h k (.int .u8 y.toNat)
  unfold Blm
  rw [this]
  simp [Proofs.Ytebpkhemkdgbjaa.cells, List.map_set]

end Go.Proofs.Ytebpkhemkdgbjaa
