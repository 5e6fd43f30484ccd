/-
  Operations that came in.
-/
import Derived.Test.YtnddpalngjmhnaaDoorV12
import Derived.Test.YtnddpalngjmhnaaDoorVLis
namespace Go.Proofs.YtnddpalngjmhnaaDoor
open Go.RowKit Go.Deep Go.Joins Go.WideShapes Go.ChangeShapes Go.ChangeAt

/-- A row of operations that is looked at. -/
def Ov (w : World) (v : Value) (xs : List Oq) : Prop :=
  ∃ ao cap, v = .slice ao xs.length cap ∧ xs.length ≤ 281474976710656 ∧ (0 < xs.length → ∃ b off, ao = some ⟨b, off, none⟩ ∧ b < w.heap.size ∧ ∀ i (h : i < xs.length), w.cell? ⟨b, off + i * 4, none⟩ = some (.int .i64 (xs[i]).kind) ∧ w.cell? ⟨b, off + i * 4 + 1, none⟩ = some (.string ⟨(xs[i]).cas.toArray⟩) ∧ w.cell? ⟨b, off + i * 4 + 2, none⟩ = some (.string ⟨(xs[i]).name.toArray⟩) ∧ w.cell? ⟨b, off + i * 4 + 3, none⟩ = some (.int .i64 (xs[i]).n))
theorem Ov.kept {p : Nat → Prop} {w w' : World} {v : Value} {xs : List Oq} (h : Ov w v xs) (k : Kept p w w') (hp : ∀ b, b < w.heap.size → p b) : Ov w' v xs := by
  obtain ⟨ao, cap, e, hl, h⟩ := h
  refine ⟨ao, cap, e, hl, fun h0 => ?_⟩
  obtain ⟨b, off, e, hb, hc⟩ := h h0
  refine ⟨b, off, e, Nat.lt_of_lt_of_le hb k.size, fun i hi => ?_⟩
  simp only [kept_cell k hb (hp b hb)]
  exact hc i hi
theorem Ov.all {w w' : World} {v : Value} {xs : List Oq} (h : Ov w v xs) (k : Kept (fun _ => True) w w') : Ov w' v xs := h.kept k (fun _ _ => trivial)
theorem Ov.form {w : World} {v : Value} {xs : List Oq} (h : Ov w v xs) : ∃ ao cap, v = .slice ao xs.length cap ∧ xs.length ≤ 281474976710656 := by
  obtain ⟨ao, cap, e, hl, _⟩ := h
  exact ⟨ao, cap, e, hl⟩
theorem Ov.at {w : World} {ao : Option Addr} {n cap : Nat} {xs : List Oq} (h : Ov w (.slice ao n cap) xs) (i : Nat) (hi : i < xs.length) : ∃ b off, ao = some ⟨b, off, none⟩ ∧ b < w.heap.size ∧
    w.cell? ⟨b, off + i * 4, none⟩ = some (.int .i64 (xs[i]).kind) ∧ w.cell? ⟨b, off + i * 4 + 1, none⟩ = some (.string ⟨(xs[i]).cas.toArray⟩) ∧ w.cell? ⟨b, off + i * 4 + 2, none⟩ = some (.string ⟨(xs[i]).name.toArray⟩) ∧ w.cell? ⟨b, off + i * 4 + 3, none⟩ = some (.int .i64 (xs[i]).n) := by
  obtain ⟨ao', cap', e, hl, h⟩ := h
  cases e
  obtain ⟨b, off, e, hb, hc⟩ := h (by omega)
  exact ⟨b, off, e, hb, hc i hi⟩
theorem Tryd.cellsOp : Tryd.prog.cellsOf 34 = 4 := by kernel_rfl
theorem Tryd.bytesOp : Tryd.prog.bytesOf 34 = 48 := by kernel_rfl

set_option maxRecDepth 100000 in
theorem open_ops {H : Type} {enc : TypeId × Value → H} {W : World} {v : Value} {fuel : Nat} {d : DataW H} {p : List MemPlace} (h : DataW.trod enc Tryd.prog W 0 (fun _ => true) true fuel 38 [v] = some (d, p)) (hr : ∀ n ∈ d.weights Tryd.prog 38, n ≤ reachBytes) :
    ∃ xs : List Oq, Ov W v xs := by
  rcases open_slice Tryd.underlying38 h with ⟨hcs, hx⟩ | ⟨x, len, cap, m, n, D, Pl, hcs, _, hl, hm, hmm, hx, hel⟩
  · simp only [List.cons.injEq, and_true] at hcs
    subst hcs
    exact ⟨[], none, 0, rfl, by simp, fun h => by simp at h⟩
  · simp only [List.cons.injEq, and_true] at hcs
    subst hcs
    simp only [if_true] at hmm
    subst hmm
    have hd : d = .slice ((List.range len).map D) ((List.range (m - len)).map fun j => D (len + j)) := (Prod.mk.inj hx).1
    rw [Tryd.cellsOp] at hel
    have key : ∀ i, i < len → ∃ a : Oq, W.cell? (x.add (i * 4 + 0)) = some (.int .i64 a.kind) ∧ W.cell? (x.add (i * 4 + 1)) = some (.string ⟨a.cas.toArray⟩) ∧ W.cell? (x.add (i * 4 + 2)) = some (.string ⟨a.name.toArray⟩) ∧ W.cell? (x.add (i * 4 + 3)) = some (.int .i64 a.n) := by
      intro i hi
      obtain ⟨cs', h1, h2⟩ := hel i (by omega)
      obtain ⟨y0, y1, y2, y3, k, hx2, g0, g1, g2, g3⟩ := trod_struct4 Tryd.underlying34 h2
      obtain ⟨_, hl5, hc5⟩ := World.cells?_some h1
      obtain ⟨v0, v1, v2, v3, rfl⟩ := four_of hl5
      have e0 : DataW.trod enc Tryd.prog W 0 (fun _ => true) true k 3 [v0] = some y0 := g0
      have e1 : DataW.trod enc Tryd.prog W 0 (fun _ => true) true k 9 [v1] = some y1 := g1
      have e2 : DataW.trod enc Tryd.prog W 0 (fun _ => true) true k 9 [v2] = some y2 := g2
      have e3 : DataW.trod enc Tryd.prog W 0 (fun _ => true) true k 3 [v3] = some y3 := g3
      obtain ⟨z0, q0, rfl, w0⟩ := DataW.trod_int Tryd.underlying3 e0
      obtain ⟨⟨⟨s1⟩⟩, q1, rfl, _⟩ := DataW.trod_string Tryd.underlying9 e1
      obtain ⟨⟨⟨s2⟩⟩, q2, rfl, _⟩ := DataW.trod_string Tryd.underlying9 e2
      obtain ⟨z3, q3, rfl, w3⟩ := DataW.trod_int Tryd.underlying3 e3
      simp only [List.cons.injEq, and_true] at q0 q1 q2 q3
      subst q0 q1 q2 q3
      have c0 := hc5 0 (by omega)
      have c1 := hc5 1 (by omega)
      have c2 := hc5 2 (by omega)
      have c3 := hc5 3 (by omega)
      simp only [add_add] at c0 c1 c2 c3
      exact ⟨⟨z0, s1, s2, z3⟩, c0, c1, c2, c3⟩
    have hlen : len ≤ 140737488355328 := by
      have := hr ((len + (m - len)) * 48) (by
        rw [hd]
        simp only [DataW.weights, Tryd.underlying38, List.length_map, List.length_range, Tryd.bytesOp]
        simp)
      simp only [reachBytes] at this
      omega
    obtain ⟨f, hf2⟩ : ∃ f : Nat → Oq, ∀ i, i < len → W.cell? (x.add (i * 4 + 0)) = some (.int .i64 (f i).kind) ∧ W.cell? (x.add (i * 4 + 1)) = some (.string ⟨(f i).cas.toArray⟩) ∧ W.cell? (x.add (i * 4 + 2)) = some (.string ⟨(f i).name.toArray⟩) ∧ W.cell? (x.add (i * 4 + 3)) = some (.int .i64 (f i).n) := by
      classical
      refine ⟨fun i => if hi : i < len then Classical.choose (key i hi) else ⟨0, [], [], 0⟩, fun i hi => ?_⟩
      simp only [dif_pos hi]
      exact Classical.choose_spec (key i hi)
    refine ⟨(List.range len).map f, some x, m, by simp, by simp; omega, fun h0 => ?_⟩
    rw [List.length_map, List.length_range] at h0
    obtain ⟨b, off, spot⟩ := x
    have hspot : spot = none := by simpa [Addr.add] using World.cell?_spot (hf2 0 h0).1
    subst hspot
    refine ⟨b, off, rfl, World.block_lt_of_cell? W _ (hf2 0 h0).1, fun i hi => ?_⟩
    have hi' : i < len := by simpa using hi
    obtain ⟨a0, a1, a2, a3⟩ := hf2 i hi'
    simp only [add_plain] at a0 a1 a2 a3
    simp only [List.getElem_map, List.getElem_range]
    exact ⟨by simpa using a0, by simpa [Nat.add_assoc] using a1, by simpa [Nat.add_assoc] using a2, by simpa [Nat.add_assoc] using a3⟩

end Go.Proofs.YtnddpalngjmhnaaDoor
