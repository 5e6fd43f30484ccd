/-
  What the rows' closing steps ask of this program alone.
-/
import Derived.Test.YtnddpalngjmhnabDoorSB
import Derived.SizedLaws
import Derived.ProofKit
import Derived.OpenShut
import Derived.ChangeMaps5
import Derived.Below
import Derived.Test.YtnddpalngjmhnabDoorT5
import Derived.Test.YtnddpalngjmhnabDoorRows
import Derived.Deep.Slices
import Derived.Deep.Grids
import Derived.Lib.SmallJoins
import Derived.Lib.LaidTab
import Derived.Lay
import Derived.LaidHandle
import Derived.MakeChecks
import Derived.Stop.LaidErr
import Derived.Test.YtnddpalngjmhnabDoorV12
namespace Go.Proofs.YtnddpalngjmhnabDoor
open Go.ChangeShapes Go.WideShapes Go.ChangeAt Go.RowKit

theorem own : ownKnob Tryd.prog.godebug = none := by kernel_rfl
theorem laidOut : laidOutB Tryd.prog = true := by kernel_rfl
theorem cellsU8 : Tryd.prog.cellsOf 5 = 1 := by kernel_rfl

theorem open_bytes {H : Type} {enc : TypeId × Value → H} {W : World} {a : Option Addr} {len cap : Nat} {d : DataW H} {p : List MemPlace} (h : DataW.Trod enc Tryd.prog W 0 (fun _ => true) true 64 (.slice a len cap) d p) :
    ∃ bs : List UInt8, bs.length = len ∧ Has W a bs ∧ (∀ ad, a = some ad → 0 < len → ad.block < W.heap.size) ∧ ((d = .nil ∧ len = 0) ∨ ∃ elems spare, d = .slice elems spare ∧ elems = bs.map (fun b => .lit (.int .u8 b.toNat))) := by
  obtain ⟨fuel, hf⟩ := h
  rcases open_ints Tryd.underlying64 Tryd.underlying5 cellsU8 hf with ⟨hcs, hx⟩ | ⟨x, l, c, zs, hcs, _, hl, hm, hz, hx, hcell, hwz⟩
  · simp [Value.cells] at hcs
    obtain ⟨rfl, rfl, rfl⟩ := hcs
    exact ⟨[], rfl, by intro h; simp at h, by simp, .inl ⟨(Prod.mk.inj hx).1, rfl⟩⟩
  · simp [Value.cells] at hcs
    obtain ⟨rfl, rfl, rfl⟩ := hcs
    simp only [if_true] at hz
    have hto : ∀ j (hj : j < zs.length), ((UInt8.ofNat (zs[j]).toNat).toNat : Int) = zs[j] := by
      intro j hj
      have hb := bounds_u8 (hwz zs[j] (List.getElem_mem _))
      simp [UInt8.toNat_ofNat']
      omega
    have hb2 : ∀ j (hj : j < zs.length), W.cell? (x.add j) = some (.int .u8 ((UInt8.ofNat (zs[j]).toNat).toNat : Int)) := by
      intro j hj
      rw [hcell j hj, hto j hj]
      simp [List.getD, List.getElem?_eq_getElem hj]
    refine ⟨(zs.take len).map fun z => UInt8.ofNat z.toNat, by simp; omega, ?_, ?_, .inr ⟨_, _, (Prod.mk.inj hx).1, ?_⟩⟩
    · intro _
      refine ⟨x, rfl, fun j hj => ?_⟩
      have hj' : j < zs.length := by simp at hj; omega
      rw [hb2 j hj']
      simp
    · intro ad had h0
      cases had
      have := World.block_lt_of_cell? W _ (hb2 0 (by omega))
      simpa [Addr.add] using this
    · unfold lits
      rw [List.map_map]
      apply List.ext_getElem (by simp)
      intro j h1 h2
      simp at h1 h2 ⊢
      have := hto j (by omega)
      simp at this
      omega

theorem reach_bytes {H : Type} {n : Nat} {d : DataW H} {bs : List UInt8} (h : (d = .nil ∧ n = 0) ∨ ∃ elems spare, d = .slice elems spare ∧ elems = bs.map (fun b => (.lit (.int .u8 b.toNat) : DataW H))) (hn : bs.length = n)
    (hr : ∀ elems spare, d = .slice elems spare → (elems.length + spare.length) * Tryd.prog.bytesOf 5 ≤ reachBytes) : (bs.length : Int) ≤ 140737488355328 := by
  rcases h with ⟨_, h0⟩ | ⟨elems, spare, rfl, rfl⟩
  · omega
  · have := hr _ _ rfl
    rw [Tryd.bytesU8] at this
    simp [reachBytes] at this
    omega

theorem nil_cap {H : Type} {enc : TypeId × Value → H} {W : World} {a : Option Addr} {len cap : Nat} {d : DataW H} {p : List MemPlace} (h : DataW.Trod enc Tryd.prog W 0 (fun _ => true) true 64 (.slice a len cap) d p) : a = none → cap = 0 := by
  obtain ⟨fuel, hf⟩ := h
  rcases open_ints Tryd.underlying64 Tryd.underlying5 cellsU8 hf with ⟨hcs, _⟩ | ⟨x, l, c, zs, hcs, _⟩
  · simp [Value.cells] at hcs
    exact fun _ => hcs.2.2
  · simp [Value.cells] at hcs
    intro e; rw [e] at hcs; simp at hcs

theorem len_cap {H : Type} {enc : TypeId × Value → H} {W : World} {a : Option Addr} {len cap : Nat} {d : DataW H} {p : List MemPlace} (h : DataW.Trod enc Tryd.prog W 0 (fun _ => true) true 64 (.slice a len cap) d p) : len ≤ cap := by
  obtain ⟨fuel, hf⟩ := h
  rcases open_ints Tryd.underlying64 Tryd.underlying5 cellsU8 hf with ⟨hcs, _⟩ | ⟨x, l, c, zs, hcs, _, hl, _⟩
  · simp [Value.cells] at hcs
    omega
  · simp [Value.cells] at hcs
    obtain ⟨rfl, rfl, rfl⟩ := hcs
    exact hl

end Go.Proofs.YtnddpalngjmhnabDoor

namespace Go.Proofs.YtnddpalngjmhnabDoor
open Go.RowKit Go.Deep Go.Joins Go.WideShapes Go.ChangeShapes Go.ChangeAt

theorem Tryd.cellsAttr : Tryd.prog.cellsOf 48 = 4 := by kernel_rfl
theorem Tryd.cellsRule : Tryd.prog.cellsOf 50 = 2 := by kernel_rfl
theorem Tryd.cellsType : Tryd.prog.cellsOf 26 = 4 := by kernel_rfl
theorem Tryd.bytesAttr : Tryd.prog.bytesOf 48 = 40 := by kernel_rfl
theorem Tryd.bytesRule : Tryd.prog.bytesOf 50 = 32 := by kernel_rfl

theorem weights_alls {H : Type} {P : Program} {e : TypeId} {ds : List (DataW H)} {d : DataW H} {n : Nat} (hd : d ∈ ds) (hn : n ∈ d.weights P e) : n ∈ DataW.weightsAll P e ds := by
  induction ds with
  | nil => cases hd
  | cons x xs ih =>
    simp only [DataW.weightsAll, List.mem_append]
    rcases List.mem_cons.1 hd with rfl | h
    · exact .inl hn
    · exact .inr (ih h)
theorem i64_fit {n : Int} (h : (Lit.int .i64 n).wf = true) : F64 n := by
  have e1 : IntKind.i64.min = -9223372036854775808 := by decide
  have e2 : IntKind.i64.max = 9223372036854775807 := by decide
  simp [Lit.wf, e1, e2] at h
  exact h
theorem four_of {α : Type} {l : List α} (h : l.length = 4) : ∃ a b c d, l = [a, b, c, d] := by
  match l, h with
  | [a, b, c, d], _ => exact ⟨a, b, c, d, rfl⟩
theorem two_of {α : Type} {l : List α} (h : l.length = 2) : ∃ a b, l = [a, b] := by
  match l, h with
  | [a, b], _ => exact ⟨a, b, rfl⟩
/-- A struct of four. -/
theorem trod_struct4 {H : Type} {enc : TypeId × Value → H} {W : World} {t : TypeId} {f0 f1 f2 f3 : Field} {fuel : Nat} {cs : List Value} {x : DataW H × List MemPlace} (ht : Tryd.prog.underlying t = some (.struct #[f0, f1, f2, f3])) (h : DataW.trod enc Tryd.prog W 0 (fun _ => true) true fuel t cs = some x) :
    ∃ y0 y1 y2 y3 n, x.1 = .agg [y0.1, y1.1, y2.1, y3.1] ∧ DataW.trod enc Tryd.prog W 0 (fun _ => true) true n f0.type ((cs.drop f0.offset).take (Tryd.prog.cellsOf f0.type)) = some y0 ∧
      DataW.trod enc Tryd.prog W 0 (fun _ => true) true n f1.type ((cs.drop f1.offset).take (Tryd.prog.cellsOf f1.type)) = some y1 ∧ DataW.trod enc Tryd.prog W 0 (fun _ => true) true n f2.type ((cs.drop f2.offset).take (Tryd.prog.cellsOf f2.type)) = some y2 ∧
      DataW.trod enc Tryd.prog W 0 (fun _ => true) true n f3.type ((cs.drop f3.offset).take (Tryd.prog.cellsOf f3.type)) = some y3 := by
  obtain ⟨xs, n, _, rfl, hl, hlen, hf⟩ := DataW.trod_struct ht h
  match xs, hlen with
  | [y0, y1, y2, y3], _ => exact ⟨y0, y1, y2, y3, n, by simp, by simpa using hf 0 f0 rfl, by simpa using hf 1 f1 rfl, by simpa using hf 2 f2 rfl, by simpa using hf 3 f3 rfl⟩
/-- A struct of two. -/
theorem trod_two {H : Type} {enc : TypeId × Value → H} {W : World} {t : TypeId} {f0 f1 : Field} {fuel : Nat} {cs : List Value} {x : DataW H × List MemPlace} (ht : Tryd.prog.underlying t = some (.struct #[f0, f1])) (h : DataW.trod enc Tryd.prog W 0 (fun _ => true) true fuel t cs = some x) :
    ∃ y0 y1 n, x.1 = .agg [y0.1, y1.1] ∧ DataW.trod enc Tryd.prog W 0 (fun _ => true) true n f0.type ((cs.drop f0.offset).take (Tryd.prog.cellsOf f0.type)) = some y0 ∧
      DataW.trod enc Tryd.prog W 0 (fun _ => true) true n f1.type ((cs.drop f1.offset).take (Tryd.prog.cellsOf f1.type)) = some y1 := by
  obtain ⟨xs, n, _, rfl, hl, hlen, hf⟩ := DataW.trod_struct ht h
  match xs, hlen with
  | [y0, y1], _ => exact ⟨y0, y1, n, by simp, by simpa using hf 0 f0 rfl, by simpa using hf 1 f1 rfl⟩

/-- What they read as. -/
def dA {H : Type} (a : At) : DataW H := .agg [.lit (.string a.name), .lit (.int .i64 a.start), .lit (.int .i64 a.lo), .lit (.int .i64 a.hi)]
def dR {H : Type} (r : Ru) : DataW H := .agg [.lit (.string r.name), .lit (.string r.guard)]

set_option maxRecDepth 100000 in
theorem open_attrs {H : Type} {enc : TypeId × Value → H} {W : World} {v : Value} {fuel : Nat} {d : DataW H} {p : List MemPlace} (h : DataW.trod enc Tryd.prog W 0 (fun _ => true) true fuel 23 [v] = some (d, p)) (hr : ∀ n ∈ d.weights Tryd.prog 23, n ≤ reachBytes) :
    ∃ xs : List At, Av W v xs ∧ (∀ a ∈ xs, a.name.length ≤ 140737488355328 ∧ F64 a.start ∧ F64 a.lo ∧ F64 a.hi) ∧ ((d = .nil ∧ xs = []) ∨ ∃ spare, d = .slice (xs.map dA) spare) := by
  rcases open_slice Tryd.underlying23 h with ⟨hcs, hx⟩ | ⟨x, len, cap, m, n, D, Pl, hcs, _, hl, hm, hmm, hx, hel⟩
  · simp only [List.cons.injEq, and_true] at hcs
    subst hcs
    exact ⟨[], Av.nil W, fun a ha => (by cases ha), .inl ⟨(Prod.mk.inj hx).1, rfl⟩⟩
  · simp only [List.cons.injEq, and_true] at hcs
    subst hcs
    simp only [if_true] at hmm
    subst hmm
    have hd : d = .slice ((List.range len).map D) ((List.range (m - len)).map fun j => D (len + j)) := (Prod.mk.inj hx).1
    rw [Tryd.cellsAttr] at hel
    have key : ∀ i, i < len → ∃ a : At, W.cell? (x.add (i * 4 + 0)) = some (.string ⟨a.name.toArray⟩) ∧ W.cell? (x.add (i * 4 + 1)) = some (.int .i64 a.start) ∧ W.cell? (x.add (i * 4 + 2)) = some (.int .i64 a.lo) ∧ W.cell? (x.add (i * 4 + 3)) = some (.int .i64 a.hi) ∧ (a.name.length ≤ 140737488355328 ∧ F64 a.start ∧ F64 a.lo ∧ F64 a.hi) ∧ D i = dA a := by
      intro i hi
      obtain ⟨cs', h1, h2⟩ := hel i (by omega)
      obtain ⟨y0, y1, y2, y3, k, hx2, g0, g1, g2, g3⟩ := trod_struct4 Tryd.underlying48 h2
      obtain ⟨_, hl5, hc5⟩ := World.cells?_some h1
      obtain ⟨v0, v1, v2, v3, rfl⟩ := four_of hl5
      have e0 : DataW.trod enc Tryd.prog W 0 (fun _ => true) true k 9 [v0] = some y0 := g0
      have e1 : DataW.trod enc Tryd.prog W 0 (fun _ => true) true k 3 [v1] = some y1 := g1
      have e2 : DataW.trod enc Tryd.prog W 0 (fun _ => true) true k 3 [v2] = some y2 := g2
      have e3 : DataW.trod enc Tryd.prog W 0 (fun _ => true) true k 3 [v3] = some y3 := g3
      obtain ⟨⟨⟨s⟩⟩, q0, rfl, _⟩ := DataW.trod_string Tryd.underlying9 e0
      obtain ⟨z1, q1, rfl, w1⟩ := DataW.trod_int Tryd.underlying3 e1
      obtain ⟨z2, q2, rfl, w2⟩ := DataW.trod_int Tryd.underlying3 e2
      obtain ⟨z3, q3, rfl, w3⟩ := DataW.trod_int Tryd.underlying3 e3
      simp only [List.cons.injEq, and_true] at q0 q1 q2 q3
      subst q0 q1 q2 q3
      have c0 := hc5 0 (by omega)
      have c1 := hc5 1 (by omega)
      have c2 := hc5 2 (by omega)
      have c3 := hc5 3 (by omega)
      simp only [add_add] at c0 c1 c2 c3
      refine ⟨⟨s, z1, z2, z3⟩, c0, c1, c2, c3, ⟨?_, i64_fit w1, i64_fit w2, i64_fit w3⟩, hx2⟩
      have := hr s.length (by
        rw [hd]
        simp only [DataW.weights, Tryd.underlying23, List.mem_cons, List.mem_append]
        refine .inr (.inl (weights_alls (d := D i) (List.mem_map.2 ⟨i, List.mem_range.2 hi, rfl⟩) ?_))
        rw [show D i = _ from hx2]
        simp only [DataW.weights, Tryd.underlying48]
        exact DataW.weights_mem_each (j := 0) rfl rfl s.length (by simp [DataW.weights]))
      simp only [reachBytes] at this
      show s.length ≤ _
      omega
    have hlen : len ≤ 140737488355328 := by
      have := hr ((len + (m - len)) * 40) (by
        rw [hd]
        simp only [DataW.weights, Tryd.underlying23, List.length_map, List.length_range, Tryd.bytesAttr]
        simp)
      simp only [reachBytes] at this
      omega
    obtain ⟨f, hf2⟩ : ∃ f : Nat → At, ∀ i, i < len → W.cell? (x.add (i * 4 + 0)) = some (.string ⟨(f i).name.toArray⟩) ∧ W.cell? (x.add (i * 4 + 1)) = some (.int .i64 (f i).start) ∧ W.cell? (x.add (i * 4 + 2)) = some (.int .i64 (f i).lo) ∧ W.cell? (x.add (i * 4 + 3)) = some (.int .i64 (f i).hi) ∧ ((f i).name.length ≤ 140737488355328 ∧ F64 (f i).start ∧ F64 (f i).lo ∧ F64 (f i).hi) ∧ D i = dA (f i) := by
      classical
      refine ⟨fun i => if hi : i < len then Classical.choose (key i hi) else ⟨[], 0, 0, 0⟩, fun i hi => ?_⟩
      simp only [dif_pos hi]
      exact Classical.choose_spec (key i hi)
    have hmap : (List.range len).map D = ((List.range len).map f).map dA := by
      rw [List.map_map]
      exact List.map_congr_left fun i hi => (hf2 i (List.mem_range.1 hi)).2.2.2.2.2
    refine ⟨(List.range len).map f, ⟨some x, m, by simp, by simp; omega, fun h => (by cases h), fun h0 => ?_⟩, fun a ha => ?_, .inr ⟨_, by rw [hd, hmap]⟩⟩
    · rw [List.length_map, List.length_range] at h0
      obtain ⟨b, off, spot⟩ := x
      have hspot : spot = none := by simpa [Addr.add] using World.cell?_spot (hf2 0 h0).1
      subst hspot
      refine ⟨b, off, rfl, World.block_lt_of_cell? W _ (hf2 0 h0).1, fun i hi => ?_⟩
      have hi' : i < len := by simpa using hi
      obtain ⟨a0, a1, a2, a3, _, _⟩ := hf2 i hi'
      simp only [add_plain] at a0 a1 a2 a3
      simp only [List.getElem_map, List.getElem_range]
      exact ⟨by simpa using a0, by simpa [Nat.add_assoc] using a1, by simpa [Nat.add_assoc] using a2, by simpa [Nat.add_assoc] using a3⟩
    · obtain ⟨i, hi, rfl⟩ := List.mem_map.1 ha
      exact (hf2 i (List.mem_range.1 hi)).2.2.2.2.1

set_option maxRecDepth 100000 in
theorem open_rules {H : Type} {enc : TypeId × Value → H} {W : World} {v : Value} {fuel : Nat} {d : DataW H} {p : List MemPlace} (h : DataW.trod enc Tryd.prog W 0 (fun _ => true) true fuel 24 [v] = some (d, p)) (hr : ∀ n ∈ d.weights Tryd.prog 24, n ≤ reachBytes) :
    ∃ xs : List Ru, Rv W v xs ∧ (∀ a ∈ xs, a.name.length ≤ 140737488355328 ∧ a.guard.length ≤ 140737488355328) ∧ ((d = .nil ∧ xs = []) ∨ ∃ spare, d = .slice (xs.map dR) spare) := by
  rcases open_slice Tryd.underlying24 h with ⟨hcs, hx⟩ | ⟨x, len, cap, m, n, D, Pl, hcs, _, hl, hm, hmm, hx, hel⟩
  · simp only [List.cons.injEq, and_true] at hcs
    subst hcs
    exact ⟨[], Rv.nil W, fun a ha => (by cases ha), .inl ⟨(Prod.mk.inj hx).1, rfl⟩⟩
  · simp only [List.cons.injEq, and_true] at hcs
    subst hcs
    simp only [if_true] at hmm
    subst hmm
    have hd : d = .slice ((List.range len).map D) ((List.range (m - len)).map fun j => D (len + j)) := (Prod.mk.inj hx).1
    rw [Tryd.cellsRule] at hel
    have key : ∀ i, i < len → ∃ a : Ru, W.cell? (x.add (i * 2 + 0)) = some (.string ⟨a.name.toArray⟩) ∧ W.cell? (x.add (i * 2 + 1)) = some (.string ⟨a.guard.toArray⟩) ∧ (a.name.length ≤ 140737488355328 ∧ a.guard.length ≤ 140737488355328) ∧ D i = dR a := by
      intro i hi
      obtain ⟨cs', h1, h2⟩ := hel i (by omega)
      obtain ⟨y0, y1, k, hx2, g0, g1⟩ := trod_two Tryd.underlying50 h2
      obtain ⟨_, hl5, hc5⟩ := World.cells?_some h1
      obtain ⟨v0, v1, rfl⟩ := two_of hl5
      have e0 : DataW.trod enc Tryd.prog W 0 (fun _ => true) true k 9 [v0] = some y0 := g0
      have e1 : DataW.trod enc Tryd.prog W 0 (fun _ => true) true k 9 [v1] = some y1 := g1
      obtain ⟨⟨⟨s⟩⟩, q0, rfl, _⟩ := DataW.trod_string Tryd.underlying9 e0
      obtain ⟨⟨⟨u⟩⟩, q1, rfl, _⟩ := DataW.trod_string Tryd.underlying9 e1
      simp only [List.cons.injEq, and_true] at q0 q1
      subst q0 q1
      have c0 := hc5 0 (by omega)
      have c1 := hc5 1 (by omega)
      simp only [add_add] at c0 c1
      have r0 := hr s.length (by
        rw [hd]
        simp only [DataW.weights, Tryd.underlying24, List.mem_cons, List.mem_append]
        refine .inr (.inl (weights_alls (d := D i) (List.mem_map.2 ⟨i, List.mem_range.2 hi, rfl⟩) ?_))
        rw [show D i = _ from hx2]
        simp only [DataW.weights, Tryd.underlying50]
        exact DataW.weights_mem_each (j := 0) rfl rfl s.length (by simp [DataW.weights]))
      have r1 := hr u.length (by
        rw [hd]
        simp only [DataW.weights, Tryd.underlying24, List.mem_cons, List.mem_append]
        refine .inr (.inl (weights_alls (d := D i) (List.mem_map.2 ⟨i, List.mem_range.2 hi, rfl⟩) ?_))
        rw [show D i = _ from hx2]
        simp only [DataW.weights, Tryd.underlying50]
        exact DataW.weights_mem_each (j := 1) rfl rfl u.length (by simp [DataW.weights]))
      simp only [reachBytes] at r0 r1
      exact ⟨⟨s, u⟩, c0, c1, ⟨by show s.length ≤ _; omega, by show u.length ≤ _; omega⟩, hx2⟩
    have hlen : len ≤ 140737488355328 := by
      have := hr ((len + (m - len)) * 32) (by
        rw [hd]
        simp only [DataW.weights, Tryd.underlying24, List.length_map, List.length_range, Tryd.bytesRule]
        simp)
      simp only [reachBytes] at this
      omega
    obtain ⟨f, hf2⟩ : ∃ f : Nat → Ru, ∀ i, i < len → W.cell? (x.add (i * 2 + 0)) = some (.string ⟨(f i).name.toArray⟩) ∧ W.cell? (x.add (i * 2 + 1)) = some (.string ⟨(f i).guard.toArray⟩) ∧ ((f i).name.length ≤ 140737488355328 ∧ (f i).guard.length ≤ 140737488355328) ∧ D i = dR (f i) := by
      classical
      refine ⟨fun i => if hi : i < len then Classical.choose (key i hi) else ⟨[], []⟩, fun i hi => ?_⟩
      simp only [dif_pos hi]
      exact Classical.choose_spec (key i hi)
    have hmap : (List.range len).map D = ((List.range len).map f).map dR := by
      rw [List.map_map]
      exact List.map_congr_left fun i hi => (hf2 i (List.mem_range.1 hi)).2.2.2
    refine ⟨(List.range len).map f, ⟨some x, m, by simp, by simp; omega, fun h => (by cases h), fun h0 => ?_⟩, fun a ha => ?_, .inr ⟨_, by rw [hd, hmap]⟩⟩
    · rw [List.length_map, List.length_range] at h0
      obtain ⟨b, off, spot⟩ := x
      have hspot : spot = none := by simpa [Addr.add] using World.cell?_spot (hf2 0 h0).1
      subst hspot
      refine ⟨b, off, rfl, World.block_lt_of_cell? W _ (hf2 0 h0).1, fun i hi => ?_⟩
      have hi' : i < len := by simpa using hi
      obtain ⟨a0, a1, _, _⟩ := hf2 i hi'
      simp only [add_plain] at a0 a1
      simp only [List.getElem_map, List.getElem_range]
      exact ⟨by simpa using a0, by simpa [Nat.add_assoc] using a1⟩
    · obtain ⟨i, hi, rfl⟩ := List.mem_map.1 ha
      exact (hf2 i (List.mem_range.1 hi)).2.2.1

set_option maxRecDepth 100000 in
theorem open_type {H : Type} {enc : TypeId × Value → H} {W : World} {base : Nat} {v : Value} {d : DataW H} {p : List MemPlace} (hv : Value.okWide Tryd.prog W .any base 26 v) (h : DataW.Trod enc Tryd.prog W 0 (fun _ => true) true 26 v d p) (hr : ∀ n ∈ d.weights Tryd.prog 26, n ≤ reachBytes) :
    ∃ t : Ty, TyV W v t ∧ Tsz t ∧ Tfit t ∧ ∃ d1 d2 d3, d = .agg [.lit (.string t.name), d1, d2, d3] ∧ ((d1 = .nil ∧ t.attrs = []) ∨ ∃ spare, d1 = .slice (t.attrs.map dA) spare) ∧ ((d2 = .nil ∧ t.stages = []) ∨ ∃ spare, d2 = .slice (t.stages.map dR) spare) ∧ ((d3 = .nil ∧ t.marks = []) ∨ ∃ spare, d3 = .slice (t.marks.map dR) spare) := by
  obtain ⟨c0, c1, c2, c3, y0, ⟨d1, p1⟩, ⟨d2, p2⟩, ⟨d3, p3⟩, m, rfl, rfl, _, hy0, hy1, hy2, hy3⟩ := open_agg4 Tryd.underlying26 (by kernel_rfl) Tryd.cellsType hv h
  obtain ⟨⟨⟨s⟩⟩, q0, rfl, _⟩ := DataW.trod_string Tryd.underlying9 hy0
  simp only [List.cons.injEq, and_true] at q0
  subst q0
  obtain ⟨ats, a1, a2, a3⟩ := open_attrs hy1 (fun n hn => hr n (by
    simp only [DataW.weights, Tryd.underlying26]
    exact DataW.weights_mem_each (j := 1) rfl rfl n hn))
  obtain ⟨ss, s1, s2, s3⟩ := open_rules hy2 (fun n hn => hr n (by
    simp only [DataW.weights, Tryd.underlying26]
    exact DataW.weights_mem_each (j := 2) rfl rfl n hn))
  obtain ⟨ms, m1, m2, m3⟩ := open_rules hy3 (fun n hn => hr n (by
    simp only [DataW.weights, Tryd.underlying26]
    exact DataW.weights_mem_each (j := 3) rfl rfl n hn))
  have r0 := hr s.length (by
    simp only [DataW.weights, Tryd.underlying26]
    exact DataW.weights_mem_each (j := 0) rfl rfl s.length (by simp [DataW.weights]))
  simp only [reachBytes] at r0
  refine ⟨⟨s, ats, ss, ms⟩, ⟨_, _, _, rfl, a1, s1, m1⟩, ⟨?_, fun a ha => ?_, fun a ha => ?_, fun a ha => ?_⟩, fun a ha => (a2 a ha).2, _, _, _, rfl, a3, s3, m3⟩
  · show s.length ≤ _; omega
  · have := (a2 a ha).1; omega
  · obtain ⟨x1, x2⟩ := s2 a ha; exact ⟨by omega, by omega⟩
  · obtain ⟨x1, x2⟩ := m2 a ha; exact ⟨by omega, by omega⟩

end Go.Proofs.YtnddpalngjmhnabDoor

namespace Go.Proofs.YtnddpalngjmhnabDoor
open Go.RowKit Go.Deep Go.Joins Go.WideShapes Go.ChangeShapes Go.ChangeAt

/-- What the rows list. -/
def listed : List (String × DataW Unit) := [("math/bits.deBruijn32tab", Rows.laid_math_bits_deBruijn32tab), ("math/bits.deBruijn64tab", Rows.laid_math_bits_deBruijn64tab), ("internal/strconv.uint64pow10", Rows.laid_internal_strconv_uint64pow10)]
theorem listed_tab {W : World} (h : laidMetH Tryd.prog listed W) : Tab W := by
  rw [MakeChecks.laidMetH_plain _ _ _ (by kernel_rfl)] at h
  have h3 : laidMet Tryd.prog (("internal/strconv.uint64pow10", Lib.tabData .u64 Lib.pow10Tab) :: []) W := h.tail.tail
  exact Lib.tabIs_of_head (g := 0) (t := 104) (e := 95) (n := 20) (by kernel_rfl) (by kernel_rfl) Tryd.underlying104 Tryd.underlying95 (by kernel_rfl) (by kernel_rfl) h3
theorem witness_met (os : Os) (args : Array Value) : laidMetH Tryd.prog listed ((World.laidAll Tryd.prog os listed).forCall (fun _ _ => 0) ⟨#[], args, []⟩).memory := by
  rw [MakeChecks.laidMetH_plain _ _ _ (by kernel_rfl)]
  exact laidMet_laidAll _ (by kernel_rfl) (by kernel_rfl)

end Go.Proofs.YtnddpalngjmhnabDoor

namespace Go.Proofs.YtnddpalngjmhnabDoor
open Go.RowKit Go.Deep Go.Joins Go.WideShapes Go.ChangeShapes Go.ChangeAt

/-- A row of operations that is looked at. -/
def Ov (w : World) (v : Value) (xs : List Oq) : Prop :=
  ∃ ao cap, v = .slice ao xs.length cap ∧ xs.length ≤ 281474976710656 ∧ (0 < xs.length → ∃ b off, ao = some ⟨b, off, none⟩ ∧ b < w.heap.size ∧ ∀ i (h : i < xs.length), w.cell? ⟨b, off + i * 4, none⟩ = some (.int .i64 (xs[i]).kind) ∧ w.cell? ⟨b, off + i * 4 + 1, none⟩ = some (.string ⟨(xs[i]).cas.toArray⟩) ∧ w.cell? ⟨b, off + i * 4 + 2, none⟩ = some (.string ⟨(xs[i]).name.toArray⟩) ∧ w.cell? ⟨b, off + i * 4 + 3, none⟩ = some (.int .i64 (xs[i]).n))
theorem Ov.kept {p : Nat → Prop} {w w' : World} {v : Value} {xs : List Oq} (h : Ov w v xs) (k : Kept p w w') (hp : ∀ b, b < w.heap.size → p b) : Ov w' v xs := by
  obtain ⟨ao, cap, e, hl, h⟩ := h
  refine ⟨ao, cap, e, hl, fun h0 => ?_⟩
  obtain ⟨b, off, e, hb, hc⟩ := h h0
  refine ⟨b, off, e, Nat.lt_of_lt_of_le hb k.size, fun i hi => ?_⟩
  simp only [kept_cell k hb (hp b hb)]
  exact hc i hi
theorem Ov.all {w w' : World} {v : Value} {xs : List Oq} (h : Ov w v xs) (k : Kept (fun _ => True) w w') : Ov w' v xs := h.kept k (fun _ _ => trivial)
theorem Ov.form {w : World} {v : Value} {xs : List Oq} (h : Ov w v xs) : ∃ ao cap, v = .slice ao xs.length cap ∧ xs.length ≤ 281474976710656 := by
  obtain ⟨ao, cap, e, hl, _⟩ := h
  exact ⟨ao, cap, e, hl⟩
theorem Ov.at {w : World} {ao : Option Addr} {n cap : Nat} {xs : List Oq} (h : Ov w (.slice ao n cap) xs) (i : Nat) (hi : i < xs.length) : ∃ b off, ao = some ⟨b, off, none⟩ ∧ b < w.heap.size ∧
    w.cell? ⟨b, off + i * 4, none⟩ = some (.int .i64 (xs[i]).kind) ∧ w.cell? ⟨b, off + i * 4 + 1, none⟩ = some (.string ⟨(xs[i]).cas.toArray⟩) ∧ w.cell? ⟨b, off + i * 4 + 2, none⟩ = some (.string ⟨(xs[i]).name.toArray⟩) ∧ w.cell? ⟨b, off + i * 4 + 3, none⟩ = some (.int .i64 (xs[i]).n) := by
  obtain ⟨ao', cap', e, hl, h⟩ := h
  cases e
  obtain ⟨b, off, e, hb, hc⟩ := h (by omega)
  exact ⟨b, off, e, hb, hc i hi⟩
theorem Tryd.cellsOp : Tryd.prog.cellsOf 38 = 4 := by kernel_rfl
theorem Tryd.bytesOp : Tryd.prog.bytesOf 38 = 48 := by kernel_rfl

set_option maxRecDepth 100000 in
theorem open_ops {H : Type} {enc : TypeId × Value → H} {W : World} {v : Value} {fuel : Nat} {d : DataW H} {p : List MemPlace} (h : DataW.trod enc Tryd.prog W 0 (fun _ => true) true fuel 22 [v] = some (d, p)) (hr : ∀ n ∈ d.weights Tryd.prog 22, n ≤ reachBytes) :
    ∃ xs : List Oq, Ov W v xs := by
  rcases open_slice Tryd.underlying22 h with ⟨hcs, hx⟩ | ⟨x, len, cap, m, n, D, Pl, hcs, _, hl, hm, hmm, hx, hel⟩
  · simp only [List.cons.injEq, and_true] at hcs
    subst hcs
    exact ⟨[], none, 0, rfl, by simp, fun h => by simp at h⟩
  · simp only [List.cons.injEq, and_true] at hcs
    subst hcs
    simp only [if_true] at hmm
    subst hmm
    have hd : d = .slice ((List.range len).map D) ((List.range (m - len)).map fun j => D (len + j)) := (Prod.mk.inj hx).1
    rw [Tryd.cellsOp] at hel
    have key : ∀ i, i < len → ∃ a : Oq, W.cell? (x.add (i * 4 + 0)) = some (.int .i64 a.kind) ∧ W.cell? (x.add (i * 4 + 1)) = some (.string ⟨a.cas.toArray⟩) ∧ W.cell? (x.add (i * 4 + 2)) = some (.string ⟨a.name.toArray⟩) ∧ W.cell? (x.add (i * 4 + 3)) = some (.int .i64 a.n) := by
      intro i hi
      obtain ⟨cs', h1, h2⟩ := hel i (by omega)
      obtain ⟨y0, y1, y2, y3, k, hx2, g0, g1, g2, g3⟩ := trod_struct4 Tryd.underlying38 h2
      obtain ⟨_, hl5, hc5⟩ := World.cells?_some h1
      obtain ⟨v0, v1, v2, v3, rfl⟩ := four_of hl5
      have e0 : DataW.trod enc Tryd.prog W 0 (fun _ => true) true k 3 [v0] = some y0 := g0
      have e1 : DataW.trod enc Tryd.prog W 0 (fun _ => true) true k 9 [v1] = some y1 := g1
      have e2 : DataW.trod enc Tryd.prog W 0 (fun _ => true) true k 9 [v2] = some y2 := g2
      have e3 : DataW.trod enc Tryd.prog W 0 (fun _ => true) true k 3 [v3] = some y3 := g3
      obtain ⟨z0, q0, rfl, w0⟩ := DataW.trod_int Tryd.underlying3 e0
      obtain ⟨⟨⟨s1⟩⟩, q1, rfl, _⟩ := DataW.trod_string Tryd.underlying9 e1
      obtain ⟨⟨⟨s2⟩⟩, q2, rfl, _⟩ := DataW.trod_string Tryd.underlying9 e2
      obtain ⟨z3, q3, rfl, w3⟩ := DataW.trod_int Tryd.underlying3 e3
      simp only [List.cons.injEq, and_true] at q0 q1 q2 q3
      subst q0 q1 q2 q3
      have c0 := hc5 0 (by omega)
      have c1 := hc5 1 (by omega)
      have c2 := hc5 2 (by omega)
      have c3 := hc5 3 (by omega)
      simp only [add_add] at c0 c1 c2 c3
      exact ⟨⟨z0, s1, s2, z3⟩, c0, c1, c2, c3⟩
    have hlen : len ≤ 140737488355328 := by
      have := hr ((len + (m - len)) * 48) (by
        rw [hd]
        simp only [DataW.weights, Tryd.underlying22, List.length_map, List.length_range, Tryd.bytesOp]
        simp)
      simp only [reachBytes] at this
      omega
    obtain ⟨f, hf2⟩ : ∃ f : Nat → Oq, ∀ i, i < len → W.cell? (x.add (i * 4 + 0)) = some (.int .i64 (f i).kind) ∧ W.cell? (x.add (i * 4 + 1)) = some (.string ⟨(f i).cas.toArray⟩) ∧ W.cell? (x.add (i * 4 + 2)) = some (.string ⟨(f i).name.toArray⟩) ∧ W.cell? (x.add (i * 4 + 3)) = some (.int .i64 (f i).n) := by
      classical
      refine ⟨fun i => if hi : i < len then Classical.choose (key i hi) else ⟨0, [], [], 0⟩, fun i hi => ?_⟩
      simp only [dif_pos hi]
      exact Classical.choose_spec (key i hi)
    refine ⟨(List.range len).map f, some x, m, by simp, by simp; omega, fun h0 => ?_⟩
    rw [List.length_map, List.length_range] at h0
    obtain ⟨b, off, spot⟩ := x
    have hspot : spot = none := by simpa [Addr.add] using World.cell?_spot (hf2 0 h0).1
    subst hspot
    refine ⟨b, off, rfl, World.block_lt_of_cell? W _ (hf2 0 h0).1, fun i hi => ?_⟩
    have hi' : i < len := by simpa using hi
    obtain ⟨a0, a1, a2, a3⟩ := hf2 i hi'
    simp only [add_plain] at a0 a1 a2 a3
    simp only [List.getElem_map, List.getElem_range]
    exact ⟨by simpa using a0, by simpa [Nat.add_assoc] using a1, by simpa [Nat.add_assoc] using a2, by simpa [Nat.add_assoc] using a3⟩

end Go.Proofs.YtnddpalngjmhnabDoor
