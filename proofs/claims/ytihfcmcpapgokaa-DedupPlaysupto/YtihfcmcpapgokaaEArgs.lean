/-
  Slices of numbers, of texts, of Asks as arguments; what the bound on their bulk gives.
-/
import Derived.Test.YtihfcmcpapgokaaSArgs
import Derived.Test.YtihfcmcpapgokaaEAsks
import Derived.Deep.Slices
import Derived.Deep.Grids
import Derived.Lib.SmallJoins
namespace Go.Proofs.Ytihfcmcpapgokaa
open Go.RowKit Go.Deep Go.Joins Go.WideShapes Go.ChangeShapes Go.ChangeAt

theorem i64_wf {n : Int} (h : (Lit.int .i64 n).wf = true) : Fit64 n := by
  have e1 : IntKind.i64.min = -9223372036854775808 := by decide
  have e2 : IntKind.i64.max = 9223372036854775807 := by decide
  simp [Lit.wf, e1, e2] at h
  exact h

theorem Try.cellsInt : Try.prog.cellsOf 3 = 1 := by kernel_rfl
theorem open_nums {H : Type} {enc : TypeId × Value → H} {W : World} {a : Option Addr} {len cap : Nat} {d : DataW H} {p : List MemPlace} (h : DataW.Trod enc Try.prog W 0 (fun _ => true) true 43 (.slice a len cap) d p) : IsInts W a len := by
  obtain ⟨fuel, hf⟩ := h
  rcases open_ints Try.underlying43 Try.underlying3 Try.cellsInt hf with ⟨hcs, hx⟩ | ⟨x, l, c, zs, hcs, _, hl, hm, hz, hx, hcell, hwz⟩
  · simp [Value.cells] at hcs
    obtain ⟨rfl, rfl, rfl⟩ := hcs
    intro i hi
    omega
  · simp [Value.cells] at hcs
    obtain ⟨rfl, rfl, rfl⟩ := hcs
    simp only [if_true] at hz
    intro i hi
    obtain ⟨b, off, spot⟩ := x
    have hspot : spot = none := by simpa [Addr.add] using World.cell?_spot (hcell 0 (by omega))
    subst hspot
    have c0 := hcell i (by omega)
    rw [add_plain] at c0
    refine ⟨b, off, _, rfl, World.block_lt_of_cell? W _ c0, c0, ?_⟩
    have hi' : i < zs.length := by omega
    rw [List.getD_eq_getElem?_getD, List.getElem?_eq_getElem hi', Option.getD_some]
    exact i64_wf (hwz _ (List.getElem_mem hi'))

theorem bulk_elem {H : Type} {x : DataW H} : ∀ {l : List (DataW H)}, x ∈ l → Rows.uptoBulk x ≤ Rows.uptoBulkAll l
  | y :: l, h => by
    simp only [Rows.uptoBulkAll]
    rcases List.mem_cons.1 h with rfl | h
    · omega
    · have := bulk_elem h
      omega
theorem bulk_mem {H : Type} {l : List (DataW H)} (hk : Rows.uptoSmall H l = true) : Rows.uptoBulkAll l ≤ 1048576 := of_decide_eq_true hk
theorem bulk_bytes {H : Type} {d : DataW H} {bs : List UInt8} {n : Nat} (hn : bs.length = n) (h : (d = .nil ∧ n = 0) ∨ ∃ elems spare, d = .slice elems spare ∧ elems = bs.map (fun b => (.lit (.int .u8 b.toNat) : DataW H))) : bs.length ≤ Rows.uptoBulk d := by
  rcases h with ⟨_, h0⟩ | ⟨elems, spare, rfl, rfl⟩
  · omega
  · have : ∀ l : List UInt8, l.length ≤ Rows.uptoBulkAll (l.map (fun b => (.lit (.int .u8 b.toNat) : DataW H))) := by
      intro l
      induction l with
      | nil => simp
      | cons b l ih => simp only [List.map_cons, List.length_cons, Rows.uptoBulkAll, Rows.uptoBulk]; omega
    have := this bs
    simp only [Rows.uptoBulk]
    omega

theorem Try.cellsStr : Try.prog.cellsOf 9 = 1 := by kernel_rfl
theorem open_texts {H : Type} {enc : TypeId × Value → H} {W : World} {a : Option Addr} {len cap : Nat} {d : DataW H} {p : List MemPlace} (h : DataW.Trod enc Try.prog W 0 (fun _ => true) true 33 (.slice a len cap) d p) : ∃ ss : List (List UInt8), ss.length = len ∧ IsStrs W a ss ∧ ∀ s ∈ ss, s.length ≤ Rows.uptoBulk d := by
  obtain ⟨fuel, hf⟩ := h
  rcases open_slice1 Try.underlying33 Try.cellsStr hf with ⟨hcs, hx⟩ | ⟨x, l, c, m, n, V, D, Pl, hcs, _, hl, hm, hmm, hx, hel⟩
  · simp [Value.cells] at hcs
    obtain ⟨rfl, rfl, rfl⟩ := hcs
    exact ⟨[], rfl, fun h => by simp at h, by simp⟩
  · simp [Value.cells] at hcs
    obtain ⟨rfl, rfl, rfl⟩ := hcs
    simp only [if_true] at hmm
    subst hmm
    have hd : d = .slice ((List.range len).map D) ((List.range (m - len)).map fun j => D (len + j)) := (Prod.mk.inj hx).1
    have key : ∀ i, i < len → ∃ s : List UInt8, W.cell? (x.add i) = some (.string ⟨s.toArray⟩) ∧ s.length ≤ Rows.uptoBulk d := by
      intro i hi
      obtain ⟨h1, h2⟩ := hel i (by omega)
      obtain ⟨s, e1, e2, _⟩ := DataW.trod_string Try.underlying9 h2
      obtain ⟨⟨s⟩⟩ := s
      have eV : V i = .string ⟨s.toArray⟩ := by simpa using e1
      have eD : D i = .lit (.string s) := (Prod.mk.inj e2).1
      refine ⟨s, by rw [h1, eV], ?_⟩
      have hb := bulk_elem (x := D i) (l := (List.range len).map D) (List.mem_map.2 ⟨i, List.mem_range.2 hi, rfl⟩)
      rw [eD] at hb
      rw [hd]
      simp only [Rows.uptoBulk] at hb ⊢
      omega
    obtain ⟨f, hf2⟩ : ∃ f : Nat → List UInt8, ∀ i, i < len → W.cell? (x.add i) = some (.string ⟨(f i).toArray⟩) ∧ (f i).length ≤ Rows.uptoBulk d := by
      classical
      refine ⟨fun i => if hi : i < len then Classical.choose (key i hi) else [], fun i hi => ?_⟩
      simp only [dif_pos hi]
      exact Classical.choose_spec (key i hi)
    refine ⟨(List.range len).map f, by simp, fun h0 => ?_, fun s hs => ?_⟩
    · rw [List.length_map, List.length_range] at h0
      obtain ⟨b, off, spot⟩ := x
      have hspot : spot = none := by simpa [Addr.add] using World.cell?_spot (hf2 0 h0).1
      subst hspot
      refine ⟨b, off, rfl, ?_, fun i hi => ?_⟩
      · have := (hf2 0 h0).1
        rw [add_plain] at this
        exact World.block_lt_of_cell? W _ this
      · have := (hf2 i (by simpa using hi)).1
        rw [add_plain] at this
        simpa using this
    · obtain ⟨i, hi, rfl⟩ := List.mem_map.1 hs
      exact (hf2 i (List.mem_range.1 hi)).2

theorem Try.cellsAsk : Try.prog.cellsOf 40 = 4 := by kernel_rfl
/-- A struct of four. -/
theorem trod_quad {H : Type} {enc : TypeId × Value → H} {W : World} {t : TypeId} {f0 f1 f2 f3 : Field} {fuel : Nat} {cs : List Value} {x : DataW H × List MemPlace} (ht : Try.prog.underlying t = some (.struct #[f0, f1, f2, f3])) (h : DataW.trod enc Try.prog W 0 (fun _ => true) true fuel t cs = some x) :
    ∃ y0 y1 y2 y3 n, x.1 = .agg [y0.1, y1.1, y2.1, y3.1] ∧ DataW.trod enc Try.prog W 0 (fun _ => true) true n f0.type ((cs.drop f0.offset).take (Try.prog.cellsOf f0.type)) = some y0 ∧
      DataW.trod enc Try.prog W 0 (fun _ => true) true n f1.type ((cs.drop f1.offset).take (Try.prog.cellsOf f1.type)) = some y1 ∧ DataW.trod enc Try.prog W 0 (fun _ => true) true n f2.type ((cs.drop f2.offset).take (Try.prog.cellsOf f2.type)) = some y2 ∧ DataW.trod enc Try.prog W 0 (fun _ => true) true n f3.type ((cs.drop f3.offset).take (Try.prog.cellsOf f3.type)) = some y3 := by
  obtain ⟨xs, n, _, rfl, hl, hlen, hf⟩ := DataW.trod_struct ht h
  match xs, hlen with
  | [y0, y1, y2, y3], _ => exact ⟨y0, y1, y2, y3, n, by simp, by simpa using hf 0 f0 rfl, by simpa using hf 1 f1 rfl, by simpa using hf 2 f2 rfl, by simpa using hf 3 f3 rfl⟩
theorem four_of {α : Type} {l : List α} (h : l.length = 4) : ∃ a b c d, l = [a, b, c, d] := by
  match l, h with
  | [a, b, c, d], _ => exact ⟨a, b, c, d, rfl⟩

theorem open_asks {H : Type} {enc : TypeId × Value → H} {W : World} {a : Option Addr} {len cap M : Nat} {d : DataW H} {p : List MemPlace} (h : DataW.Trod enc Try.prog W 0 (fun _ => true) true 36 (.slice a len cap) d p) (hM : Rows.uptoBulk d ≤ M) : IsAsks W a len M := by
  obtain ⟨fuel, hf⟩ := h
  rcases open_slice Try.underlying36 hf with ⟨hcs, hx⟩ | ⟨x, l, c, m, n, D, Pl, hcs, _, hl, hm, hmm, hx, hel⟩
  · simp [Value.cells] at hcs
    obtain ⟨rfl, rfl, rfl⟩ := hcs
    intro i hi
    omega
  · simp [Value.cells] at hcs
    obtain ⟨rfl, rfl, rfl⟩ := hcs
    simp only [if_true] at hmm
    subst hmm
    have hd : d = .slice ((List.range len).map D) ((List.range (m - len)).map fun j => D (len + j)) := (Prod.mk.inj hx).1
    rw [Try.cellsAsk] at hel
    have key : ∀ i, i < len → ∃ v : AskV, W.cell? (x.add (i * 4 + 0)) = some (.int .i64 v.kind) ∧ W.cell? (x.add (i * 4 + 1)) = some (.int .i64 v.id) ∧ W.cell? (x.add (i * 4 + 2)) = some (.string ⟨v.c.toArray⟩) ∧ W.cell? (x.add (i * 4 + 3)) = some (.string ⟨v.r.toArray⟩) ∧ Fit64 v.id ∧ v.c.length ≤ M ∧ v.r.length ≤ M := by
      intro i hi
      obtain ⟨cs', h1, h2⟩ := hel i (by omega)
      obtain ⟨y0, y1, y2, y3, k, hx2, g0, g1, g2, g3⟩ := trod_quad Try.underlying40 h2
      obtain ⟨_, hl3, hc3⟩ := World.cells?_some h1
      obtain ⟨v0, v1, v2, v3, rfl⟩ := four_of hl3
      have e0 : DataW.trod enc Try.prog W 0 (fun _ => true) true k 3 [v0] = some y0 := g0
      have e1 : DataW.trod enc Try.prog W 0 (fun _ => true) true k 3 [v1] = some y1 := g1
      have e2 : DataW.trod enc Try.prog W 0 (fun _ => true) true k 9 [v2] = some y2 := g2
      have e3 : DataW.trod enc Try.prog W 0 (fun _ => true) true k 9 [v3] = some y3 := g3
      obtain ⟨z0, q0, rfl, w0⟩ := DataW.trod_int Try.underlying3 e0
      obtain ⟨z1, q1, rfl, w1⟩ := DataW.trod_int Try.underlying3 e1
      obtain ⟨⟨⟨s⟩⟩, q2, rfl, _⟩ := DataW.trod_string Try.underlying9 e2
      obtain ⟨⟨⟨r⟩⟩, q3, rfl, _⟩ := DataW.trod_string Try.underlying9 e3
      simp only [List.cons.injEq, and_true] at q0 q1 q2 q3
      subst q0 q1 q2 q3
      have c0 := hc3 0 (by omega)
      have c1 := hc3 1 (by omega)
      have c2 := hc3 2 (by omega)
      have c3 := hc3 3 (by omega)
      simp only [add_add] at c0 c1 c2 c3
      have hb := bulk_elem (x := D i) (l := (List.range len).map D) (List.mem_map.2 ⟨i, List.mem_range.2 hi, rfl⟩)
      rw [show D i = _ from hx2] at hb
      rw [hd] at hM
      simp only [Rows.uptoBulk, Rows.uptoBulkAll] at hb hM
      exact ⟨⟨z0, z1, s, r⟩, c0, c1, c2, c3, i64_wf w1, by show s.length ≤ M; omega, by show r.length ≤ M; omega⟩
    intro i hi
    obtain ⟨b, off, spot⟩ := x
    obtain ⟨_, c0, _⟩ := key 0 (by omega)
    have hspot : spot = none := by simpa [Addr.add] using World.cell?_spot c0
    subst hspot
    obtain ⟨v, c0, c1, c2, c3, hs⟩ := key i hi
    rw [add_plain] at c0 c1 c2 c3
    refine ⟨b, off, v, rfl, World.block_lt_of_cell? W _ c0, by simpa using c0, by simpa [Nat.add_assoc] using c1, by simpa [Nat.add_assoc] using c2, by simpa [Nat.add_assoc] using c3, hs⟩

end Go.Proofs.Ytihfcmcpapgokaa
