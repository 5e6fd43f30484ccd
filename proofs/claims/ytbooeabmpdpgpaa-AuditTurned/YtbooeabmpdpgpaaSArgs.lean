/-
  What the rows' closing steps ask of this program alone.
-/
import Derived.Test.YtbooeabmpdpgpaaSB
import Derived.SizedLaws
import Derived.ProofKit
import Derived.OpenShut
import Derived.ChangeMaps5
import Derived.Below
namespace Go.Proofs.Ytbooeabmpdpgpaa
open Go.ChangeShapes Go.WideShapes Go.ChangeAt Go.RowKit

theorem own : ownKnob Try.prog.godebug = none := by kernel_rfl
theorem laidOut : laidOutB Try.prog = true := by kernel_rfl
theorem cellsU8 : Try.prog.cellsOf 5 = 1 := by kernel_rfl

theorem open_bytes {H : Type} {enc : TypeId × Value → H} {W : World} {a : Option Addr} {len cap : Nat} {d : DataW H} {p : List MemPlace} (h : DataW.Trod enc Try.prog W 0 (fun _ => true) true 25 (.slice a len cap) d p) :
    ∃ bs : List UInt8, bs.length = len ∧ Has W a bs ∧ (∀ ad, a = some ad → 0 < len → ad.block < W.heap.size) ∧ ((d = .nil ∧ len = 0) ∨ ∃ elems spare, d = .slice elems spare ∧ elems = bs.map (fun b => .lit (.int .u8 b.toNat))) := by
  obtain ⟨fuel, hf⟩ := h
  rcases open_ints Try.underlying25 Try.underlying5 cellsU8 hf with ⟨hcs, hx⟩ | ⟨x, l, c, zs, hcs, _, hl, hm, hz, hx, hcell, hwz⟩
  · simp [Value.cells] at hcs
    obtain ⟨rfl, rfl, rfl⟩ := hcs
    exact ⟨[], rfl, by intro h; simp at h, by simp, .inl ⟨(Prod.mk.inj hx).1, rfl⟩⟩
  · simp [Value.cells] at hcs
    obtain ⟨rfl, rfl, rfl⟩ := hcs
    simp only [if_true] at hz
    have hto : ∀ j (hj : j < zs.length), ((UInt8.ofNat (zs[j]).toNat).toNat : Int) = zs[j] := by
      intro j hj
      have hb := bounds_u8 (hwz zs[j] (List.getElem_mem _))
      simp [UInt8.toNat_ofNat']
      omega
    have hb2 : ∀ j (hj : j < zs.length), W.cell? (x.add j) = some (.int .u8 ((UInt8.ofNat (zs[j]).toNat).toNat : Int)) := by
      intro j hj
      rw [hcell j hj, hto j hj]
      simp [List.getD, List.getElem?_eq_getElem hj]
    refine ⟨(zs.take len).map fun z => UInt8.ofNat z.toNat, by simp; omega, ?_, ?_, .inr ⟨_, _, (Prod.mk.inj hx).1, ?_⟩⟩
    · intro _
      refine ⟨x, rfl, fun j hj => ?_⟩
      have hj' : j < zs.length := by simp at hj; omega
      rw [hb2 j hj']
      simp
    · intro ad had h0
      cases had
      have := World.block_lt_of_cell? W _ (hb2 0 (by omega))
      simpa [Addr.add] using this
    · unfold lits
      rw [List.map_map]
      apply List.ext_getElem (by simp)
      intro j h1 h2
      simp at h1 h2 ⊢
      have := hto j (by omega)
      simp at this
      omega

theorem reach_bytes {H : Type} {n : Nat} {d : DataW H} {bs : List UInt8} (h : (d = .nil ∧ n = 0) ∨ ∃ elems spare, d = .slice elems spare ∧ elems = bs.map (fun b => (.lit (.int .u8 b.toNat) : DataW H))) (hn : bs.length = n)
    (hr : ∀ elems spare, d = .slice elems spare → (elems.length + spare.length) * Try.prog.bytesOf 5 ≤ reachBytes) : (bs.length : Int) ≤ 140737488355328 := by
  rcases h with ⟨_, h0⟩ | ⟨elems, spare, rfl, rfl⟩
  · omega
  · have := hr _ _ rfl
    rw [Try.bytesU8] at this
    simp [reachBytes] at this
    omega

theorem nil_cap {H : Type} {enc : TypeId × Value → H} {W : World} {a : Option Addr} {len cap : Nat} {d : DataW H} {p : List MemPlace} (h : DataW.Trod enc Try.prog W 0 (fun _ => true) true 25 (.slice a len cap) d p) : a = none → cap = 0 := by
  obtain ⟨fuel, hf⟩ := h
  rcases open_ints Try.underlying25 Try.underlying5 cellsU8 hf with ⟨hcs, _⟩ | ⟨x, l, c, zs, hcs, _⟩
  · simp [Value.cells] at hcs
    exact fun _ => hcs.2.2
  · simp [Value.cells] at hcs
    intro e; rw [e] at hcs; simp at hcs

theorem len_cap {H : Type} {enc : TypeId × Value → H} {W : World} {a : Option Addr} {len cap : Nat} {d : DataW H} {p : List MemPlace} (h : DataW.Trod enc Try.prog W 0 (fun _ => true) true 25 (.slice a len cap) d p) : len ≤ cap := by
  obtain ⟨fuel, hf⟩ := h
  rcases open_ints Try.underlying25 Try.underlying5 cellsU8 hf with ⟨hcs, _⟩ | ⟨x, l, c, zs, hcs, _, hl, _⟩
  · simp [Value.cells] at hcs
    omega
  · simp [Value.cells] at hcs
    obtain ⟨rfl, rfl, rfl⟩ := hcs
    exact hl

end Go.Proofs.Ytbooeabmpdpgpaa
