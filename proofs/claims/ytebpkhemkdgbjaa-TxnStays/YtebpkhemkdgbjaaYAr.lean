/-
  Slices of Asks of stage 18 that came in.
-/
import Derived.Test.YtebpkhemkdgbjaaSArgs
import Derived.Test.YtebpkhemkdgbjaaYAs
import Derived.Deep.Slices
import Derived.Deep.Grids
import Derived.Lib.SmallJoins
namespace Go.Proofs.Ytebpkhemkdgbjaa
open Go.RowKit Go.Deep Go.Joins Go.WideShapes Go.ChangeShapes Go.ChangeAt

theorem ti64_wf {n : Int} (h : (Lit.int .i64 n).wf = true) : -9223372036854775808 ≤ n ∧ n ≤ 9223372036854775807 := by
  have e1 : IntKind.i64.min = -9223372036854775808 := by decide
  have e2 : IntKind.i64.max = 9223372036854775807 := by decide
  simp [Lit.wf, e1, e2] at h
  exact h
theorem tbulk_elem {H : Type} {x : DataW H} : ∀ {l : List (DataW H)}, x ∈ l → Rows.uptoBulk x ≤ Rows.uptoBulkAll l
  | y :: l, h => by
    simp only [Rows.uptoBulkAll]
    rcases List.mem_cons.1 h with rfl | h
    · omega
    · have := tbulk_elem h
      omega
theorem tbulk_mem {H : Type} {l : List (DataW H)} (hk : Rows.uptoSmall H l = true) : Rows.uptoBulkAll l ≤ 1048576 := of_decide_eq_true hk
theorem Try.cellsStrt : Try.prog.cellsOf 9 = 1 := by kernel_rfl
theorem Try.cellsAskt : Try.prog.cellsOf 66 = 7 := by kernel_rfl
/-- A struct of seven. -/
theorem trod_hept {H : Type} {enc : TypeId × Value → H} {W : World} {t : TypeId} {f0 f1 f2 f3 f4 f5 f6 : Field} {fuel : Nat} {cs : List Value} {x : DataW H × List MemPlace} (ht : Try.prog.underlying t = some (.struct #[f0, f1, f2, f3, f4, f5, f6])) (h : DataW.trod enc Try.prog W 0 (fun _ => true) true fuel t cs = some x) :
    ∃ y0 y1 y2 y3 y4 y5 y6 n, x.1 = .agg [y0.1, y1.1, y2.1, y3.1, y4.1, y5.1, y6.1] ∧ DataW.trod enc Try.prog W 0 (fun _ => true) true n f0.type ((cs.drop f0.offset).take (Try.prog.cellsOf f0.type)) = some y0 ∧
      DataW.trod enc Try.prog W 0 (fun _ => true) true n f1.type ((cs.drop f1.offset).take (Try.prog.cellsOf f1.type)) = some y1 ∧ DataW.trod enc Try.prog W 0 (fun _ => true) true n f2.type ((cs.drop f2.offset).take (Try.prog.cellsOf f2.type)) = some y2 ∧ DataW.trod enc Try.prog W 0 (fun _ => true) true n f3.type ((cs.drop f3.offset).take (Try.prog.cellsOf f3.type)) = some y3 ∧
      DataW.trod enc Try.prog W 0 (fun _ => true) true n f4.type ((cs.drop f4.offset).take (Try.prog.cellsOf f4.type)) = some y4 ∧ DataW.trod enc Try.prog W 0 (fun _ => true) true n f5.type ((cs.drop f5.offset).take (Try.prog.cellsOf f5.type)) = some y5 ∧ DataW.trod enc Try.prog W 0 (fun _ => true) true n f6.type ((cs.drop f6.offset).take (Try.prog.cellsOf f6.type)) = some y6 := by
  obtain ⟨xs, n, _, rfl, hl, hlen, hf⟩ := DataW.trod_struct ht h
  match xs, hlen with
  | [y0, y1, y2, y3, y4, y5, y6], _ => exact ⟨y0, y1, y2, y3, y4, y5, y6, n, by simp, by simpa using hf 0 f0 rfl, by simpa using hf 1 f1 rfl, by simpa using hf 2 f2 rfl, by simpa using hf 3 f3 rfl, by simpa using hf 4 f4 rfl, by simpa using hf 5 f5 rfl, by simpa using hf 6 f6 rfl⟩
theorem seven_of {α : Type} {l : List α} (h : l.length = 7) : ∃ a b c d e f g, l = [a, b, c, d, e, f, g] := by
  match l, h with
  | [a, b, c, d, e, f, g], _ => exact ⟨a, b, c, d, e, f, g, rfl⟩
/-- A slice of texts in a field. -/
theorem open_inner {H : Type} {enc : TypeId × Value → H} {W : World} {v : Value} {fuel : Nat} {z : DataW H × List MemPlace} (h : DataW.trod enc Try.prog W 0 (fun _ => true) true fuel 37 [v] = some z) :
    ∃ (ss : List (List UInt8)) (ta : Option Addr) (tc : Nat), v = .slice ta ss.length tc ∧ Xv (fun _ => True) W ta tc ss ∧ ∀ s ∈ ss, s.length ≤ Rows.uptoBulk z.1 := by
  rcases open_slice1 Try.underlying37 Try.cellsStrt h with ⟨hcs, hx⟩ | ⟨x, l, c, m, n, V, D, Pl, hcs, _, hl, hm, hmm, hx, hel⟩
  · simp only [List.cons.injEq, and_true] at hcs
    subst hcs
    exact ⟨[], none, 0, rfl, ⟨fun h => by simp at h, Nat.zero_le _⟩, by simp⟩
  · simp only [List.cons.injEq, and_true] at hcs
    subst hcs
    simp only [if_true] at hmm
    subst hmm
    have hd : z.1 = .slice ((List.range l).map D) ((List.range (m - l)).map fun j => D (l + j)) := by rw [hx]
    have key : ∀ i, i < l → ∃ s : List UInt8, W.cell? (x.add i) = some (.string ⟨s.toArray⟩) ∧ s.length ≤ Rows.uptoBulk z.1 := by
      intro i hi
      obtain ⟨h1, h2⟩ := hel i (by omega)
      obtain ⟨s, e1, e2, _⟩ := DataW.trod_string Try.underlying9 h2
      obtain ⟨⟨s⟩⟩ := s
      have eV : V i = .string ⟨s.toArray⟩ := by simpa using e1
      have eD : D i = .lit (.string s) := (Prod.mk.inj e2).1
      refine ⟨s, by rw [h1, eV], ?_⟩
      have hb := tbulk_elem (x := D i) (l := (List.range l).map D) (List.mem_map.2 ⟨i, List.mem_range.2 hi, rfl⟩)
      rw [eD] at hb
      rw [hd]
      simp only [Rows.uptoBulk] at hb ⊢
      omega
    obtain ⟨f, hf2⟩ : ∃ f : Nat → List UInt8, ∀ i, i < l → W.cell? (x.add i) = some (.string ⟨(f i).toArray⟩) ∧ (f i).length ≤ Rows.uptoBulk z.1 := by
      classical
      refine ⟨fun i => if hi : i < l then Classical.choose (key i hi) else [], fun i hi => ?_⟩
      simp only [dif_pos hi]
      exact Classical.choose_spec (key i hi)
    refine ⟨(List.range l).map f, some x, m, by simp, ⟨fun h0 => ?_, by simpa using hl⟩, fun s hs => ?_⟩
    · rw [List.length_map, List.length_range] at h0
      obtain ⟨b, off, spot⟩ := x
      have hspot : spot = none := by simpa [Addr.add] using World.cell?_spot (hf2 0 h0).1
      subst hspot
      refine ⟨b, off, rfl, trivial, ?_, fun i hi => ?_⟩
      · have := (hf2 0 h0).1
        rw [add_plain] at this
        exact World.block_lt_of_cell? W _ this
      · have := (hf2 i (by simpa using hi)).1
        rw [add_plain] at this
        simpa using this
    · obtain ⟨i, hi, rfl⟩ := List.mem_map.1 hs
      exact (hf2 i (List.mem_range.1 hi)).2

set_option maxRecDepth 100000 in
theorem open_askt {H : Type} {enc : TypeId × Value → H} {W : World} {a : Option Addr} {len cap : Nat} {d : DataW H} {p : List MemPlace} (h : DataW.Trod enc Try.prog W 0 (fun _ => true) true 49 (.slice a len cap) d p) :
    ∃ qs : List Aq, qs.length = len ∧ IsAskt W a qs ∧ ∀ q ∈ qs, (-9223372036854775808 ≤ q.ar ∧ q.ar ≤ 9223372036854775807) ∧ (-9223372036854775808 ≤ q.wy ∧ q.wy ≤ 9223372036854775807) ∧ ∀ s ∈ q.tx, s.length ≤ Rows.uptoBulk d := by
  obtain ⟨fuel, hf⟩ := h
  rcases open_slice Try.underlying49 hf with ⟨hcs, hx⟩ | ⟨x, l, c, m, n, D, Pl, hcs, _, hl, hm, hmm, hx, hel⟩
  · simp [Value.cells] at hcs
    obtain ⟨rfl, rfl, rfl⟩ := hcs
    exact ⟨[], rfl, ⟨fun h => by simp at h, fun i hi => by simp at hi⟩, by simp⟩
  · simp [Value.cells] at hcs
    obtain ⟨rfl, rfl, rfl⟩ := hcs
    simp only [if_true] at hmm
    subst hmm
    have hd : d = .slice ((List.range len).map D) ((List.range (m - len)).map fun j => D (len + j)) := (Prod.mk.inj hx).1
    rw [Try.cellsAskt] at hel
    have key : ∀ i, i < len → ∃ q : Aq, (W.cell? (x.add (i * 7 + 0)) = some (.int .i64 q.kind) ∧ W.cell? (x.add (i * 7 + 1)) = some (.int .i64 q.group) ∧ W.cell? (x.add (i * 7 + 2)) = some (.int .i64 q.ar) ∧ W.cell? (x.add (i * 7 + 3)) = some (.int .i64 q.wy) ∧ W.cell? (x.add (i * 7 + 4)) = some (.bool q.yes) ∧ W.cell? (x.add (i * 7 + 5)) = some (.bool q.fits) ∧ W.cell? (x.add (i * 7 + 6)) = some (.slice q.ta q.tx.length q.tc)) ∧ Xv (fun _ => True) W q.ta q.tc q.tx ∧ (-9223372036854775808 ≤ q.ar ∧ q.ar ≤ 9223372036854775807) ∧ (-9223372036854775808 ≤ q.wy ∧ q.wy ≤ 9223372036854775807) ∧ ∀ s ∈ q.tx, s.length ≤ Rows.uptoBulk d := by
      intro i hi
      obtain ⟨cs', h1, h2⟩ := hel i (by omega)
      obtain ⟨y0, y1, y2, y3, y4, y5, y6, k, hx2, g0, g1, g2, g3, g4, g5, g6⟩ := trod_hept Try.underlying66 h2
      obtain ⟨_, hl7, hc7⟩ := World.cells?_some h1
      obtain ⟨v0, v1, v2, v3, v4, v5, v6, rfl⟩ := seven_of hl7
      have e0 : DataW.trod enc Try.prog W 0 (fun _ => true) true k 3 [v0] = some y0 := g0
      have e1 : DataW.trod enc Try.prog W 0 (fun _ => true) true k 3 [v1] = some y1 := g1
      have e2 : DataW.trod enc Try.prog W 0 (fun _ => true) true k 3 [v2] = some y2 := g2
      have e3 : DataW.trod enc Try.prog W 0 (fun _ => true) true k 3 [v3] = some y3 := g3
      have e4 : DataW.trod enc Try.prog W 0 (fun _ => true) true k 4 [v4] = some y4 := g4
      have e5 : DataW.trod enc Try.prog W 0 (fun _ => true) true k 4 [v5] = some y5 := g5
      have e6 : DataW.trod enc Try.prog W 0 (fun _ => true) true k 37 [v6] = some y6 := g6
      obtain ⟨z0, q0, rfl, _⟩ := DataW.trod_int Try.underlying3 e0
      obtain ⟨z1, q1, rfl, _⟩ := DataW.trod_int Try.underlying3 e1
      obtain ⟨z2, q2, rfl, w2⟩ := DataW.trod_int Try.underlying3 e2
      obtain ⟨z3, q3, rfl, w3⟩ := DataW.trod_int Try.underlying3 e3
      obtain ⟨b4, q4, rfl⟩ := DataW.trod_bool Try.underlying4 e4
      obtain ⟨b5, q5, rfl⟩ := DataW.trod_bool Try.underlying4 e5
      obtain ⟨ss, ta, tc, rfl, hX, hSs⟩ := open_inner e6
      simp only [List.cons.injEq, and_true] at q0 q1 q2 q3 q4 q5
      subst q0 q1 q2 q3 q4 q5
      have c0 := hc7 0 (by omega)
      have c1 := hc7 1 (by omega)
      have c2 := hc7 2 (by omega)
      have c3 := hc7 3 (by omega)
      have c4 := hc7 4 (by omega)
      have c5 := hc7 5 (by omega)
      have c6 := hc7 6 (by omega)
      simp only [add_add] at c0 c1 c2 c3 c4 c5 c6
      have hb := tbulk_elem (x := D i) (l := (List.range len).map D) (List.mem_map.2 ⟨i, List.mem_range.2 hi, rfl⟩)
      rw [show D i = _ from hx2] at hb
      refine ⟨⟨z0, z1, z2, z3, b4, b5, ta, tc, ss⟩, ⟨c0, c1, c2, c3, c4, c5, c6⟩, hX, ti64_wf w2, ti64_wf w3, fun s hs => ?_⟩
      have := hSs s hs
      rw [hd]
      simp only [Rows.uptoBulk, Rows.uptoBulkAll] at hb ⊢
      omega
    obtain ⟨f, hf2⟩ : ∃ f : Nat → Aq, ∀ i, i < len → (W.cell? (x.add (i * 7 + 0)) = some (.int .i64 (f i).kind) ∧ W.cell? (x.add (i * 7 + 1)) = some (.int .i64 (f i).group) ∧ W.cell? (x.add (i * 7 + 2)) = some (.int .i64 (f i).ar) ∧ W.cell? (x.add (i * 7 + 3)) = some (.int .i64 (f i).wy) ∧ W.cell? (x.add (i * 7 + 4)) = some (.bool (f i).yes) ∧ W.cell? (x.add (i * 7 + 5)) = some (.bool (f i).fits) ∧ W.cell? (x.add (i * 7 + 6)) = some (.slice (f i).ta (f i).tx.length (f i).tc)) ∧ Xv (fun _ => True) W (f i).ta (f i).tc (f i).tx ∧ (-9223372036854775808 ≤ (f i).ar ∧ (f i).ar ≤ 9223372036854775807) ∧ (-9223372036854775808 ≤ (f i).wy ∧ (f i).wy ≤ 9223372036854775807) ∧ ∀ s ∈ (f i).tx, s.length ≤ Rows.uptoBulk d := by
      classical
      refine ⟨fun i => if hi : i < len then Classical.choose (key i hi) else ⟨0, 0, 0, 0, false, false, none, 0, []⟩, fun i hi => ?_⟩
      simp only [dif_pos hi]
      exact Classical.choose_spec (key i hi)
    refine ⟨(List.range len).map f, by simp, ⟨fun h0 => ?_, fun i hi => ?_⟩, fun q hq => ?_⟩
    · rw [List.length_map, List.length_range] at h0
      obtain ⟨b, off, spot⟩ := x
      have hspot : spot = none := by simpa [Addr.add] using World.cell?_spot (hf2 0 h0).1.1
      subst hspot
      refine ⟨b, off, rfl, ?_, fun i hi => ?_⟩
      · have := (hf2 0 h0).1.1
        rw [add_plain] at this
        exact World.block_lt_of_cell? W _ this
      · obtain ⟨a0, a1, a2, a3, a4, a5, a6⟩ := (hf2 i (by simpa using hi)).1
        simp only [add_plain] at a0 a1 a2 a3 a4 a5 a6
        simp only [List.getElem_map, List.getElem_range]
        exact ⟨by simpa using a0, by simpa [Nat.add_assoc] using a1, by simpa [Nat.add_assoc] using a2, by simpa [Nat.add_assoc] using a3, by simpa [Nat.add_assoc] using a4, by simpa [Nat.add_assoc] using a5, by simpa [Nat.add_assoc] using a6⟩
    · have := (hf2 i (by simpa using hi)).2.1
      simpa using this
    · obtain ⟨i, hi, rfl⟩ := List.mem_map.1 hq
      exact (hf2 i (List.mem_range.1 hi)).2.2

end Go.Proofs.Ytebpkhemkdgbjaa
