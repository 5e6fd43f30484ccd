/-
  Records that came in.
-/
import Derived.Test.YtbooeabmpdpgpaaSArgs
import Derived.Test.YtbooeabmpdpgpaaU16p
import Derived.Deep.Slices
import Derived.Lib.SmallJoins
namespace Go.Proofs.Ytbooeabmpdpgpaa
open Go.RowKit Go.Deep Go.Joins Go.WideShapes Go.ChangeShapes Go.ChangeAt

theorem Try.cellsIntu : Try.prog.cellsOf 3 = 1 := by kernel_rfl
theorem Try.cellsRec : Try.prog.cellsOf 24 = 4 := by kernel_rfl
/-- A record's groups may be cut. -/
def Cp (x : Rr) : Prop := x.1.gs.length ≤ x.2.2 ∧ (x.2.1 = none → x.2.2 = 0)
theorem trod_rec4 {H : Type} {enc : TypeId × Value → H} {W : World} {t : TypeId} {f0 f1 f2 f3 : Field} {fuel : Nat} {cs : List Value} {x : DataW H × List MemPlace} (ht : Try.prog.underlying t = some (.struct #[f0, f1, f2, f3])) (h : DataW.trod enc Try.prog W 0 (fun _ => true) true fuel t cs = some x) :
    ∃ y0 y1 y2 y3 n, DataW.trod enc Try.prog W 0 (fun _ => true) true n f0.type ((cs.drop f0.offset).take (Try.prog.cellsOf f0.type)) = some y0 ∧
      DataW.trod enc Try.prog W 0 (fun _ => true) true n f1.type ((cs.drop f1.offset).take (Try.prog.cellsOf f1.type)) = some y1 ∧ DataW.trod enc Try.prog W 0 (fun _ => true) true n f2.type ((cs.drop f2.offset).take (Try.prog.cellsOf f2.type)) = some y2 ∧
      DataW.trod enc Try.prog W 0 (fun _ => true) true n f3.type ((cs.drop f3.offset).take (Try.prog.cellsOf f3.type)) = some y3 := by
  obtain ⟨xs, n, _, rfl, hl, hlen, hf⟩ := DataW.trod_struct ht h
  match xs, hlen with
  | [y0, y1, y2, y3], _ => exact ⟨y0, y1, y2, y3, n, by simpa using hf 0 f0 rfl, by simpa using hf 1 f1 rfl, by simpa using hf 2 f2 rfl, by simpa using hf 3 f3 rfl⟩
theorem open_gi {H : Type} {enc : TypeId × Value → H} {W : World} {v : Value} {fuel : Nat} {z : DataW H × List MemPlace} (h : DataW.trod enc Try.prog W 0 (fun _ => true) true fuel 22 [v] = some z) : ∃ (gs : List Int) (a : Option Addr) (c : Nat), v = .slice a gs.length c ∧ Gi W a gs ∧ gs.length ≤ c ∧ (a = none → c = 0) := by
  rcases open_ints Try.underlying22 Try.underlying3 Try.cellsIntu h with ⟨hcs, hx⟩ | ⟨x, l, c, zs, hcs, _, hl, hm, hz, hx, hcell, hwz⟩
  · simp only [List.cons.injEq, and_true] at hcs
    exact ⟨[], none, 0, hcs, fun h => by simp at h, Nat.le_refl _, fun _ => rfl⟩
  · simp only [List.cons.injEq, and_true] at hcs
    simp only [if_true] at hz
    refine ⟨zs.take l, some x, c, by rw [hcs, List.length_take]; congr 1; omega, fun h0 => ?_, by rw [List.length_take]; omega, fun e => by cases e⟩
    rw [List.length_take] at h0
    obtain ⟨b, off, spot⟩ := x
    have hspot : spot = none := by simpa [Addr.add] using World.cell?_spot (hcell 0 (by omega))
    subst hspot
    have c0 := hcell 0 (by omega)
    rw [add_plain] at c0
    refine ⟨b, off, rfl, World.block_lt_of_cell? W _ c0, fun i hi => ?_⟩
    rw [List.length_take] at hi
    have ci := hcell i (by omega)
    rw [add_plain] at ci
    rw [ci, List.getElem_take]
    simp [List.getD, show i < zs.length by omega]
theorem four_ofu {α : Type} {l : List α} (h : l.length = 4) : ∃ a b c d, l = [a, b, c, d] := by
  match l, h with
  | [a, b, c, d], _ => exact ⟨a, b, c, d, rfl⟩
set_option maxRecDepth 100000 in
theorem open_four {H : Type} {enc : TypeId × Value → H} {W : World} {fuel : Nat} {vs : List Value} {z : DataW H × List MemPlace} (hl : vs.length = 4) (h : DataW.trod enc Try.prog W 0 (fun _ => true) true fuel 24 vs = some z) : ∃ x : Rr, vs = rcell x ∧ Gi W x.2.1 x.1.gs ∧ Cp x := by
  obtain ⟨v0, v1, v2, v3, rfl⟩ := four_ofu hl
  obtain ⟨y0, y1, y2, y3, k, g0, g1, g2, g3⟩ := trod_rec4 Try.underlying24 h
  have e0 : DataW.trod enc Try.prog W 0 (fun _ => true) true k 3 [v0] = some y0 := g0
  have e1 : DataW.trod enc Try.prog W 0 (fun _ => true) true k 9 [v1] = some y1 := g1
  have e2 : DataW.trod enc Try.prog W 0 (fun _ => true) true k 22 [v2] = some y2 := g2
  have e3 : DataW.trod enc Try.prog W 0 (fun _ => true) true k 9 [v3] = some y3 := g3
  obtain ⟨z0, q0, rfl, _⟩ := DataW.trod_int Try.underlying3 e0
  obtain ⟨⟨⟨s1⟩⟩, q1, rfl, hs1⟩ := DataW.trod_string Try.underlying9 e1
  obtain ⟨gs, a, c, rfl, hg, hc1, hc2⟩ := open_gi e2
  obtain ⟨⟨⟨s3⟩⟩, q3, rfl, hs3⟩ := DataW.trod_string Try.underlying9 e3
  simp only [List.cons.injEq, and_true] at q0 q1 q3
  subst q0 q1 q3
  exact ⟨(⟨z0, s1, gs, s3⟩, (a, c)), rfl, hg, hc1, hc2⟩
set_option maxRecDepth 100000 in
/-- A record by value. -/
theorem open_recw {H : Type} {enc : TypeId × Value → H} {W : World} {base : Nat} {v : Value} {d : DataW H} {p : List MemPlace} (hv : Value.okWide Try.prog W .any base 24 v) (h : DataW.Trod enc Try.prog W 0 (fun _ => true) true 24 v d p) :
    ∃ x : Rr, v = .agg (rcell x).toArray ∧ Gi W x.2.1 x.1.gs ∧ Cp x := by
  obtain ⟨cs, rfl, hsz⟩ := okWide_struct Try.underlying24 hv
  obtain ⟨fuel, hf⟩ := h
  have hf' : DataW.trod enc Try.prog W 0 (fun _ => true) true fuel 24 cs.toList = some (d, p) := by simpa [Value.cells] using hf
  obtain ⟨x, e, hg, hc⟩ := open_four (by rw [Array.length_toList, hsz]; exact Try.cellsRec) hf'
  refine ⟨x, ?_, hg, hc⟩
  rw [← e]
set_option maxRecDepth 100000 in
/-- Records in a slice. -/
theorem open_recs {H : Type} {enc : TypeId × Value → H} {W : World} {a : Option Addr} {len cap : Nat} {d : DataW H} {p : List MemPlace} (h : DataW.Trod enc Try.prog W 0 (fun _ => true) true 29 (.slice a len cap) d p) : ∃ rs : List Rr, rs.length = len ∧ Rrv W a rs ∧ ∀ r ∈ rs, Cp r := by
  obtain ⟨fuel, hf⟩ := h
  rcases open_slice Try.underlying29 hf with ⟨hcs, hx⟩ | ⟨x, l, c, m, n, D, Pl, hcs, _, hl, hm, hmm, hx, hel⟩
  · simp [Value.cells] at hcs
    obtain ⟨rfl, rfl, rfl⟩ := hcs
    exact ⟨[], rfl, Rrv.nil _ _, fun _ h => by cases h⟩
  · simp [Value.cells] at hcs
    obtain ⟨rfl, rfl, rfl⟩ := hcs
    simp only [if_true] at hmm
    subst hmm
    rw [Try.cellsRec] at hel
    have key : ∀ i, i < len → ∃ r : Rr, (W.cell? (x.add (i * 4 + 0)) = some (.int .i64 r.1.k) ∧ W.cell? (x.add (i * 4 + 1)) = some (.string ⟨r.1.tx.toArray⟩) ∧ W.cell? (x.add (i * 4 + 2)) = some (.slice r.2.1 r.1.gs.length r.2.2) ∧ W.cell? (x.add (i * 4 + 3)) = some (.string ⟨r.1.bd.toArray⟩)) ∧ Gi W r.2.1 r.1.gs ∧ Cp r := by
      intro i hi
      obtain ⟨cs', h1, h2⟩ := hel i (by omega)
      obtain ⟨_, hl5, hc5⟩ := World.cells?_some h1
      obtain ⟨r, rfl, hg, hc⟩ := open_four hl5 h2
      have q0 := hc5 0 (by omega)
      have q1 := hc5 1 (by omega)
      have q2 := hc5 2 (by omega)
      have q3 := hc5 3 (by omega)
      simp only [add_add] at q0 q1 q2 q3
      exact ⟨r, ⟨q0, q1, q2, q3⟩, hg, hc⟩
    obtain ⟨f, hf2⟩ : ∃ f : Nat → Rr, ∀ i, i < len → (W.cell? (x.add (i * 4 + 0)) = some (.int .i64 (f i).1.k) ∧ W.cell? (x.add (i * 4 + 1)) = some (.string ⟨(f i).1.tx.toArray⟩) ∧ W.cell? (x.add (i * 4 + 2)) = some (.slice (f i).2.1 (f i).1.gs.length (f i).2.2) ∧ W.cell? (x.add (i * 4 + 3)) = some (.string ⟨(f i).1.bd.toArray⟩)) ∧ Gi W (f i).2.1 (f i).1.gs ∧ Cp (f i) := by
      classical
      refine ⟨fun i => if hi : i < len then Classical.choose (key i hi) else (⟨0, [], [], []⟩, (none, 0)), fun i hi => ?_⟩
      simp only [dif_pos hi]
      exact Classical.choose_spec (key i hi)
    refine ⟨(List.range len).map f, by rw [List.length_map, List.length_range], ⟨⟨fun h0 => ?_⟩, fun r hr => ?_⟩, fun r hr => ?_⟩
    · rw [List.length_map, List.length_range] at h0
      obtain ⟨b, off, spot⟩ := x
      have w0 := (hf2 0 h0).1.1
      have hspot : spot = none := by simpa [Addr.add] using World.cell?_spot w0
      subst hspot
      rw [add_plain] at w0
      refine ⟨b, off, rfl, World.block_lt_of_cell? W _ w0, fun i hi => ?_⟩
      have hi' : i < len := by simpa using hi
      obtain ⟨⟨a0, a1, a2, a3⟩, _⟩ := hf2 i hi'
      simp only [add_plain] at a0 a1 a2 a3
      simp only [List.getElem_map, List.getElem_range]
      intro j u hu
      show W.cell? ⟨b, off + i * 4 + j, none⟩ = some u
      match j, hu with
      | 0, hu => cases hu; rw [show off + i * 4 + 0 = off + (i * 4 + 0) by omega]; exact a0
      | 1, hu => cases hu; rw [show off + i * 4 + 1 = off + (i * 4 + 1) by omega]; exact a1
      | 2, hu => cases hu; rw [show off + i * 4 + 2 = off + (i * 4 + 2) by omega]; exact a2
      | 3, hu => cases hu; rw [show off + i * 4 + 3 = off + (i * 4 + 3) by omega]; exact a3
      | j + 4, hu => cases hu
    · obtain ⟨i, hi, rfl⟩ := List.mem_map.1 hr
      exact (hf2 i (List.mem_range.1 hi)).2.1
    · obtain ⟨i, hi, rfl⟩ := List.mem_map.1 hr
      exact (hf2 i (List.mem_range.1 hi)).2.2

end Go.Proofs.Ytbooeabmpdpgpaa

namespace Go.Proofs.Ytbooeabmpdpgpaa
open Go.RowKit Go.Deep Go.Joins Go.WideShapes Go.ChangeShapes Go.ChangeAt

theorem bulk_mem {H : Type} {l : List (DataW H)} (hk : Rows.uptoSmall H l = true) : Rows.uptoBulkAll l ≤ 1048576 := of_decide_eq_true hk
theorem trod_rec4b {H : Type} {enc : TypeId × Value → H} {W : World} {t : TypeId} {f0 f1 f2 f3 : Field} {fuel : Nat} {cs : List Value} {x : DataW H × List MemPlace} (ht : Try.prog.underlying t = some (.struct #[f0, f1, f2, f3])) (h : DataW.trod enc Try.prog W 0 (fun _ => true) true fuel t cs = some x) :
    ∃ y0 y1 y2 y3 n, x.1 = .agg [y0.1, y1.1, y2.1, y3.1] ∧ DataW.trod enc Try.prog W 0 (fun _ => true) true n f0.type ((cs.drop f0.offset).take (Try.prog.cellsOf f0.type)) = some y0 ∧
      DataW.trod enc Try.prog W 0 (fun _ => true) true n f1.type ((cs.drop f1.offset).take (Try.prog.cellsOf f1.type)) = some y1 ∧ DataW.trod enc Try.prog W 0 (fun _ => true) true n f2.type ((cs.drop f2.offset).take (Try.prog.cellsOf f2.type)) = some y2 ∧
      DataW.trod enc Try.prog W 0 (fun _ => true) true n f3.type ((cs.drop f3.offset).take (Try.prog.cellsOf f3.type)) = some y3 := by
  obtain ⟨xs, n, _, rfl, hl, hlen, hf⟩ := DataW.trod_struct ht h
  match xs, hlen with
  | [y0, y1, y2, y3], _ => exact ⟨y0, y1, y2, y3, n, by simp, by simpa using hf 0 f0 rfl, by simpa using hf 1 f1 rfl, by simpa using hf 2 f2 rfl, by simpa using hf 3 f3 rfl⟩
set_option maxRecDepth 100000 in
theorem open_fourb {H : Type} {enc : TypeId × Value → H} {W : World} {fuel : Nat} {vs : List Value} {z : DataW H × List MemPlace} (hl : vs.length = 4) (h : DataW.trod enc Try.prog W 0 (fun _ => true) true fuel 24 vs = some z) : ∃ x : Rr, vs = rcell x ∧ Gi W x.2.1 x.1.gs ∧ Cp x ∧ x.1.tx.length + x.1.bd.length ≤ Rows.uptoBulk z.1 := by
  obtain ⟨v0, v1, v2, v3, rfl⟩ := four_ofu hl
  obtain ⟨y0, y1, y2, y3, k, hz, g0, g1, g2, g3⟩ := trod_rec4b Try.underlying24 h
  have e0 : DataW.trod enc Try.prog W 0 (fun _ => true) true k 3 [v0] = some y0 := g0
  have e1 : DataW.trod enc Try.prog W 0 (fun _ => true) true k 9 [v1] = some y1 := g1
  have e2 : DataW.trod enc Try.prog W 0 (fun _ => true) true k 22 [v2] = some y2 := g2
  have e3 : DataW.trod enc Try.prog W 0 (fun _ => true) true k 9 [v3] = some y3 := g3
  obtain ⟨z0, q0, rfl, _⟩ := DataW.trod_int Try.underlying3 e0
  obtain ⟨⟨⟨s1⟩⟩, q1, rfl, hs1⟩ := DataW.trod_string Try.underlying9 e1
  obtain ⟨gs, a, c, rfl, hg, hc1, hc2⟩ := open_gi e2
  obtain ⟨⟨⟨s3⟩⟩, q3, rfl, hs3⟩ := DataW.trod_string Try.underlying9 e3
  simp only [List.cons.injEq, and_true] at q0 q1 q3
  subst q0 q1 q3
  refine ⟨(⟨z0, s1, gs, s3⟩, (a, c)), rfl, hg, ⟨hc1, hc2⟩, ?_⟩
  rw [hz]
  simp only [Rows.uptoBulk, Rows.uptoBulkAll]
  omega
set_option maxRecDepth 100000 in
/-- A record by value. -/
theorem open_recb {H : Type} {enc : TypeId × Value → H} {W : World} {base : Nat} {v : Value} {d : DataW H} {p : List MemPlace} (hv : Value.okWide Try.prog W .any base 24 v) (h : DataW.Trod enc Try.prog W 0 (fun _ => true) true 24 v d p) :
    ∃ x : Rr, v = .agg (rcell x).toArray ∧ Gi W x.2.1 x.1.gs ∧ Cp x ∧ x.1.tx.length + x.1.bd.length ≤ Rows.uptoBulk d := by
  obtain ⟨cs, rfl, hsz⟩ := okWide_struct Try.underlying24 hv
  obtain ⟨fuel, hf⟩ := h
  have hf' : DataW.trod enc Try.prog W 0 (fun _ => true) true fuel 24 cs.toList = some (d, p) := by simpa [Value.cells] using hf
  obtain ⟨x, e, hg, hc, hb⟩ := open_fourb (by rw [Array.length_toList, hsz]; exact Try.cellsRec) hf'
  refine ⟨x, ?_, hg, hc, hb⟩
  rw [← e]
/-- Numbers in a slice. -/
theorem open_gis {H : Type} {enc : TypeId × Value → H} {W : World} {a : Option Addr} {len cap : Nat} {d : DataW H} {p : List MemPlace} (h : DataW.Trod enc Try.prog W 0 (fun _ => true) true 22 (.slice a len cap) d p) : ∃ gs : List Int, gs.length = len ∧ Gi W a gs := by
  obtain ⟨fuel, hf⟩ := h
  have hf' : DataW.trod enc Try.prog W 0 (fun _ => true) true fuel 22 [.slice a len cap] = some (d, p) := by simpa [Value.cells] using hf
  obtain ⟨gs, a', c, e, hg, _⟩ := open_gi hf'
  injection e with e1 e2 e3
  subst e1 e2
  exact ⟨gs, rfl, hg⟩

end Go.Proofs.Ytbooeabmpdpgpaa
