/-
  A slice of Parts that came in: what the walk is told of it.
-/
import Derived.Test.YtlkkmggopoknaaaBase
import Derived.Deep.Slices
import Derived.Lib.SmallJoins
import Derived.SizedLaws
import Derived.ProofKit
import Derived.OpenShut
namespace Go.Proofs.Ytlkkmggopoknaaa
open Go.RowKit Go.Deep Go.Joins Go.WideShapes Go.ChangeShapes

/-- A Part as plain data. -/
structure PartV where
  kind : Int
  n : Int
  wide : Int
  s : ByteArray

/-- It lies in four cells from o on. -/
def PartAt (w : World) (b o : Nat) (p : PartV) : Prop :=
  w.cell? ⟨b, o, none⟩ = some (.int .i64 p.kind) ∧ w.cell? ⟨b, o + 1, none⟩ = some (.int .i64 p.n) ∧ w.cell? ⟨b, o + 2, none⟩ = some (.int .i64 p.wide) ∧ w.cell? ⟨b, o + 3, none⟩ = some (.string p.s)
/-- The reading of one. -/
def PartV.dat (H : Type) (p : PartV) : DataW H := .agg [.lit (.int .i64 p.kind), .lit (.int .i64 p.n), .lit (.int .i64 p.wide), .lit (.string p.s.data.toList)]
def PartV.fits (p : PartV) : Prop := (Lit.int .i64 p.kind).wf = true ∧ (Lit.int .i64 p.n).wf = true ∧ (Lit.int .i64 p.wide).wf = true ∧ p.s.size ≤ maxLen

/-- The slice a, of len Parts: ps. -/
def IsParts (w : World) (a : Option Addr) (len : Nat) (ps : List PartV) : Prop :=
  ps.length = len ∧ (∀ p ∈ ps, p.fits) ∧ (0 < len → ∃ b off, a = some ⟨b, off, none⟩ ∧ b < w.heap.size ∧ ∀ i (h : i < ps.length), PartAt w b (off + i * 4) ps[i])

theorem Try.cellsPart : Try.prog.cellsOf 38 = 4 := by kernel_rfl

theorem open_parts {H : Type} {enc : TypeId × Value → H} {W : World} {a : Option Addr} {len cap : Nat} {d : DataW H} {p : List MemPlace} (h : DataW.Trod enc Try.prog W 0 (fun _ => true) true 36 (.slice a len cap) d p) :
    ∃ ps, IsParts W a len ps ∧ len ≤ maxLen ∧ ((d = .nil ∧ len = 0) ∨ ∃ rest, d = .slice (ps.map (PartV.dat H)) rest) := by
  obtain ⟨fuel, hf⟩ := h
  rcases open_slice Try.underlying36 hf with ⟨hcs, hx⟩ | ⟨x, l, c, m, n, D, Pl, hcs, _, hl, hm, hmm, hx, hel⟩
  · simp [Value.cells] at hcs
    obtain ⟨rfl, rfl, rfl⟩ := hcs
    exact ⟨[], ⟨rfl, by simp, by simp⟩, by simp, .inl ⟨by simpa using (Prod.mk.inj hx).1, rfl⟩⟩
  · simp [Value.cells] at hcs
    obtain ⟨rfl, rfl, rfl⟩ := hcs
    simp only [if_true] at hmm
    subst hmm
    rw [Try.cellsPart] at hel
    have hx0 : 0 < m → ∃ b off, x = ⟨b, off, none⟩ := by
      intro h0
      obtain ⟨cs', h1, h2⟩ := hel 0 h0
      obtain ⟨_, hl4, hc4⟩ := World.cells?_some h1
      match cs', hl4 with
      | [v0, v1, v2, v3], _ =>
        have c0 := hc4 0 (by omega)
        obtain ⟨b, off, spot⟩ := x
        have hspot : spot = none := by simpa [Addr.add] using World.cell?_spot (v := v0) (c0.trans rfl)
        subst hspot
        exact ⟨b, off, rfl⟩
    have key : ∀ i, i < m → ∃ q : PartV, q.fits ∧ D i = q.dat H ∧ x.block < W.heap.size ∧ ∃ b off, x = ⟨b, off, none⟩ ∧ PartAt W b (off + i * 4) q := by
      intro i hi
      obtain ⟨cs', h1, h2⟩ := hel i hi
      obtain ⟨y0, y1, y2, y3, k, hx2, hlen, g0, g1, g2, g3⟩ := trod_struct4 Try.underlying38 h2
      obtain ⟨_, hl4, hc4⟩ := World.cells?_some h1
      match cs', hl4 with
      | [v0, v1, v2, v3], _ =>
        have e0 : DataW.trod enc Try.prog W 0 (fun _ => true) true k 3 [v0] = some y0 := g0
        have e1 : DataW.trod enc Try.prog W 0 (fun _ => true) true k 3 [v1] = some y1 := g1
        have e2 : DataW.trod enc Try.prog W 0 (fun _ => true) true k 2 [v2] = some y2 := g2
        have e3 : DataW.trod enc Try.prog W 0 (fun _ => true) true k 9 [v3] = some y3 := g3
        obtain ⟨z0, q0, rfl, w0⟩ := DataW.trod_int Try.underlying3 e0
        obtain ⟨z1, q1, rfl, w1⟩ := DataW.trod_int Try.underlying3 e1
        obtain ⟨z2, q2, rfl, w2⟩ := DataW.trod_int Try.underlying2 e2
        obtain ⟨s, q3, rfl, w3⟩ := DataW.trod_string Try.underlying9 e3
        simp at q0 q1 q2 q3
        subst q0 q1 q2 q3
        have c0 := hc4 0 (by omega)
        have c1 := hc4 1 (by omega)
        have c2 := hc4 2 (by omega)
        have c3 := hc4 3 (by omega)
        simp only [add_add] at c0 c1 c2 c3
        obtain ⟨b, off, rfl⟩ := hx0 (by omega)
        rw [add_plain] at c0 c1 c2 c3
        refine ⟨⟨z0, z1, z2, s⟩, ⟨w0, w1, w2, w3⟩, ?_, ?_, b, off, rfl, ?_⟩
        · have := (Prod.mk.inj hx2).1
          simpa [PartV.dat] using this
        · exact World.block_lt_of_cell? W ⟨b, off + (i * 4 + 0), none⟩ (c0.trans rfl)
        · exact ⟨by simpa using c0, by simpa [Nat.add_assoc] using c1, by simpa [Nat.add_assoc] using c2, by simpa [Nat.add_assoc] using c3⟩
    obtain ⟨f, hf2⟩ : ∃ f : Nat → PartV, ∀ i, i < m → (f i).fits ∧ D i = (f i).dat H ∧ x.block < W.heap.size ∧ ∃ b off, x = ⟨b, off, none⟩ ∧ PartAt W b (off + i * 4) (f i) := by
      classical
      refine ⟨fun i => if hi : i < m then Classical.choose (key i hi) else ⟨0, 0, 0, ByteArray.empty⟩, fun i hi => ?_⟩
      simp only [dif_pos hi]
      exact Classical.choose_spec (key i hi)
    refine ⟨(List.range len).map f, ⟨by simp, ?_, ?_⟩, by omega, .inr ⟨(List.range (m - len)).map fun j => D (len + j), ?_⟩⟩
    · intro q hq
      obtain ⟨i, hi, rfl⟩ := List.mem_map.1 hq
      exact (hf2 i (by have := List.mem_range.1 hi; omega)).1
    · intro h0
      obtain ⟨_, _, hlt, b, off, rfl, _⟩ := hf2 0 (by omega)
      refine ⟨b, off, rfl, hlt, fun i hi => ?_⟩
      have hi' : i < len := by simpa using hi
      obtain ⟨_, _, _, b', off', e, hp⟩ := hf2 i (by omega)
      cases e
      simpa using hp
    · have := (Prod.mk.inj hx).1
      rw [this]
      congr 1
      rw [List.map_map]
      exact List.map_congr_left fun i hi => (hf2 i (by have := List.mem_range.1 hi; omega)).2.1

theorem IsParts.kept {w w' : World} {a : Option Addr} {len : Nat} {ps : List PartV} (h : IsParts w a len ps) (hk : Kept (fun k => k < w.heap.size) w w') : IsParts w' a len ps := by
  refine ⟨h.1, h.2.1, fun h0 => ?_⟩
  obtain ⟨b, off, e, hlt, hp⟩ := h.2.2 h0
  refine ⟨b, off, e, Nat.lt_of_lt_of_le hlt hk.size, fun i hi => ?_⟩
  have hc : ∀ o, w'.cell? ⟨b, o, none⟩ = w.cell? ⟨b, o, none⟩ := fun o => World.cell?_of_block (w := w) (hk.block b hlt hlt)
  obtain ⟨p0, p1, p2, p3⟩ := hp i hi
  exact ⟨(hc _).trans p0, (hc _).trans p1, (hc _).trans p2, (hc _).trans p3⟩

theorem parts_cell {w : World} {a : Option Addr} {len : Nat} {ps : List PartV} (h : IsParts w a len ps) (k : Nat) (hk : k < len) : ∃ b off, a = some ⟨b, off, none⟩ ∧ b < w.heap.size ∧ ∃ p : PartV, p.fits ∧ PartAt w b (off + k * 4) p ∧ ps[k]? = some p := by
  obtain ⟨b, off, e, hlt, hp⟩ := h.2.2 (by omega)
  have hk' : k < ps.length := by rw [h.1]; exact hk
  exact ⟨b, off, e, hlt, ps[k], h.2.1 _ (List.getElem_mem _), hp k hk', List.getElem?_eq_getElem hk'⟩

theorem Kept.cell {p : Nat → Prop} {w w' : World} (h : Kept p w w') {b o : Nat} (hlt : b < w.heap.size) (hp : p b) : w'.cell? ⟨b, o, none⟩ = w.cell? ⟨b, o, none⟩ := World.cell?_of_block (w := w) (h.block b hlt hp)

end Go.Proofs.Ytlkkmggopoknaaa
