/-
  Slices of numbers, of ballots and of steps, that came in.
-/
import Derived.Test.YtpgoedpodfidjaaSArgs
import Derived.Test.YtpgoedpodfidjaaPSteps
import Derived.Deep.Slices
import Derived.Lib.SmallJoins
namespace Go.Proofs.Ytpgoedpodfidjaa
open Go.RowKit Go.Deep Go.Joins Go.WideShapes Go.ChangeShapes Go.ChangeAt

theorem Try.cellsBal : Try.prog.cellsOf 27 = 2 := by kernel_rfl
theorem Try.cellsInt : Try.prog.cellsOf 3 = 1 := by kernel_rfl
theorem Try.cellsStep : Try.prog.cellsOf 51 = 4 := by kernel_rfl

/-- A struct of four. -/
theorem trod_struct4 {H : Type} {enc : TypeId × Value → H} {W : World} {t : TypeId} {f0 f1 f2 f3 : Field} {fuel : Nat} {cs : List Value} {x : DataW H × List MemPlace} (ht : Try.prog.underlying t = some (.struct #[f0, f1, f2, f3])) (h : DataW.trod enc Try.prog W 0 (fun _ => true) true fuel t cs = some x) :
    ∃ y0 y1 y2 y3 n, x.1 = .agg [y0.1, y1.1, y2.1, y3.1] ∧ DataW.trod enc Try.prog W 0 (fun _ => true) true n f0.type ((cs.drop f0.offset).take (Try.prog.cellsOf f0.type)) = some y0 ∧
      DataW.trod enc Try.prog W 0 (fun _ => true) true n f1.type ((cs.drop f1.offset).take (Try.prog.cellsOf f1.type)) = some y1 ∧ DataW.trod enc Try.prog W 0 (fun _ => true) true n f2.type ((cs.drop f2.offset).take (Try.prog.cellsOf f2.type)) = some y2 ∧
      DataW.trod enc Try.prog W 0 (fun _ => true) true n f3.type ((cs.drop f3.offset).take (Try.prog.cellsOf f3.type)) = some y3 := by
  obtain ⟨xs, n, _, rfl, hl, hlen, hf⟩ := DataW.trod_struct ht h
  match xs, hlen with
  | [y0, y1, y2, y3], _ => exact ⟨y0, y1, y2, y3, n, by simp, by simpa using hf 0 f0 rfl, by simpa using hf 1 f1 rfl, by simpa using hf 2 f2 rfl, by simpa using hf 3 f3 rfl⟩
/-- A struct of two. -/
theorem trod_two {H : Type} {enc : TypeId × Value → H} {W : World} {t : TypeId} {f0 f1 : Field} {fuel : Nat} {cs : List Value} {x : DataW H × List MemPlace} (ht : Try.prog.underlying t = some (.struct #[f0, f1])) (h : DataW.trod enc Try.prog W 0 (fun _ => true) true fuel t cs = some x) :
    ∃ y0 y1 n, DataW.trod enc Try.prog W 0 (fun _ => true) true n f0.type ((cs.drop f0.offset).take (Try.prog.cellsOf f0.type)) = some y0 ∧
      DataW.trod enc Try.prog W 0 (fun _ => true) true n f1.type ((cs.drop f1.offset).take (Try.prog.cellsOf f1.type)) = some y1 := by
  obtain ⟨xs, n, _, rfl, hl, hlen, hf⟩ := DataW.trod_struct ht h
  match xs, hlen with
  | [y0, y1], _ => exact ⟨y0, y1, n, by simpa using hf 0 f0 rfl, by simpa using hf 1 f1 rfl⟩

theorem open_nums {H : Type} {enc : TypeId × Value → H} {W : World} {a : Option Addr} {len cap : Nat} {d : DataW H} {p : List MemPlace} (h : DataW.Trod enc Try.prog W 0 (fun _ => true) true 38 (.slice a len cap) d p) : IsInts W a len := by
  obtain ⟨fuel, hf⟩ := h
  rcases open_ints Try.underlying38 Try.underlying3 Try.cellsInt hf with ⟨hcs, hx⟩ | ⟨x, l, c, zs, hcs, _, hl, hm, hz, hx, hcell, hwz⟩
  · simp [Value.cells] at hcs
    obtain ⟨rfl, rfl, rfl⟩ := hcs
    intro i hi
    omega
  · simp [Value.cells] at hcs
    obtain ⟨rfl, rfl, rfl⟩ := hcs
    simp only [if_true] at hz
    intro i hi
    obtain ⟨b, off, spot⟩ := x
    have hspot : spot = none := by simpa [Addr.add] using World.cell?_spot (hcell 0 (by omega))
    subst hspot
    have c0 := hcell i (by omega)
    rw [add_plain] at c0
    exact ⟨b, off, _, rfl, World.block_lt_of_cell? W _ c0, c0⟩


theorem open_bals {H : Type} {enc : TypeId × Value → H} {W : World} {a : Option Addr} {len cap : Nat} {d : DataW H} {p : List MemPlace} (h : DataW.Trod enc Try.prog W 0 (fun _ => true) true 58 (.slice a len cap) d p) : IsBals W a len := by
  obtain ⟨fuel, hf⟩ := h
  rcases open_slice Try.underlying58 hf with ⟨hcs, hx⟩ | ⟨x, l, c, m, n, D, Pl, hcs, _, hl, hm, hmm, hx, hel⟩
  · simp [Value.cells] at hcs
    obtain ⟨rfl, rfl, rfl⟩ := hcs
    intro i hi
    omega
  · simp [Value.cells] at hcs
    obtain ⟨rfl, rfl, rfl⟩ := hcs
    simp only [if_true] at hmm
    subst hmm
    rw [Try.cellsBal] at hel
    have key : ∀ i, i < len → ∃ r n : Int, W.cell? (x.add (i * 2 + 0)) = some (.int .i64 r) ∧ W.cell? (x.add (i * 2 + 1)) = some (.int .i64 n) := by
      intro i hi
      obtain ⟨cs', h1, h2⟩ := hel i (by omega)
      obtain ⟨u0, u1, k2, b0, b1⟩ := trod_two Try.underlying27 h2
      obtain ⟨_, hl2, hc2⟩ := World.cells?_some h1
      obtain ⟨v0, v1, rfl⟩ : ∃ v0 v1, cs' = [v0, v1] := by
        match cs', hl2 with
        | [v0, v1], _ => exact ⟨v0, v1, rfl⟩
      have b0' : DataW.trod enc Try.prog W 0 (fun _ => true) true k2 3 [v0] = some u0 := b0
      have b1' : DataW.trod enc Try.prog W 0 (fun _ => true) true k2 3 [v1] = some u1 := b1
      obtain ⟨z2, q2, rfl, w2⟩ := DataW.trod_int Try.underlying3 b0'
      obtain ⟨z3, q3, rfl, w3⟩ := DataW.trod_int Try.underlying3 b1'
      simp only [List.cons.injEq, and_true] at q2 q3
      subst q2 q3
      have c0 := hc2 0 (by omega)
      have c1 := hc2 1 (by omega)
      simp only [add_add] at c0 c1
      exact ⟨z2, z3, c0, c1⟩
    intro i hi
    obtain ⟨b, off, spot⟩ := x
    obtain ⟨_, _, c0, _⟩ := key 0 (by omega)
    have hspot : spot = none := by simpa [Addr.add] using World.cell?_spot c0
    subst hspot
    obtain ⟨r, n, c0, c1⟩ := key i hi
    rw [add_plain] at c0 c1
    exact ⟨b, off, r, n, rfl, World.block_lt_of_cell? W _ c0, by simpa using c0, by simpa [Nat.add_assoc] using c1⟩

theorem open_steps {H : Type} {enc : TypeId × Value → H} {W : World} {a : Option Addr} {len cap : Nat} {d : DataW H} {p : List MemPlace} (h : DataW.Trod enc Try.prog W 0 (fun _ => true) true 42 (.slice a len cap) d p) : IsSteps W a len := by
  obtain ⟨fuel, hf⟩ := h
  rcases open_slice Try.underlying42 hf with ⟨hcs, hx⟩ | ⟨x, l, c, m, n, D, Pl, hcs, _, hl, hm, hmm, hx, hel⟩
  · simp [Value.cells] at hcs
    obtain ⟨rfl, rfl, rfl⟩ := hcs
    intro i hi
    omega
  · simp [Value.cells] at hcs
    obtain ⟨rfl, rfl, rfl⟩ := hcs
    simp only [if_true] at hmm
    subst hmm
    rw [Try.cellsStep] at hel
    have key : ∀ i, i < len → ∃ q0 q1 q2 q3 : Int, W.cell? (x.add (i * 4 + 0)) = some (.int .i64 q0) ∧ W.cell? (x.add (i * 4 + 1)) = some (.int .i64 q1) ∧ W.cell? (x.add (i * 4 + 2)) = some (.int .i64 q2) ∧ W.cell? (x.add (i * 4 + 3)) = some (.int .i64 q3) := by
      intro i hi
      obtain ⟨cs', h1, h2⟩ := hel i (by omega)
      obtain ⟨u0, u1, u2, u3, k2, _, b0, b1, b2, b3⟩ := trod_struct4 Try.underlying51 h2
      obtain ⟨_, hl2, hc2⟩ := World.cells?_some h1
      obtain ⟨v0, v1, v2, v3, rfl⟩ : ∃ v0 v1 v2 v3, cs' = [v0, v1, v2, v3] := by
        match cs', hl2 with
        | [v0, v1, v2, v3], _ => exact ⟨v0, v1, v2, v3, rfl⟩
      have b0' : DataW.trod enc Try.prog W 0 (fun _ => true) true k2 3 [v0] = some u0 := b0
      have b1' : DataW.trod enc Try.prog W 0 (fun _ => true) true k2 3 [v1] = some u1 := b1
      have b2' : DataW.trod enc Try.prog W 0 (fun _ => true) true k2 3 [v2] = some u2 := b2
      have b3' : DataW.trod enc Try.prog W 0 (fun _ => true) true k2 3 [v3] = some u3 := b3
      obtain ⟨z0, q0, rfl, w0⟩ := DataW.trod_int Try.underlying3 b0'
      obtain ⟨z1, q1, rfl, w1⟩ := DataW.trod_int Try.underlying3 b1'
      obtain ⟨z2, q2, rfl, w2⟩ := DataW.trod_int Try.underlying3 b2'
      obtain ⟨z3, q3, rfl, w3⟩ := DataW.trod_int Try.underlying3 b3'
      simp only [List.cons.injEq, and_true] at q0 q1 q2 q3
      subst q0 q1 q2 q3
      have c0 := hc2 0 (by omega)
      have c1 := hc2 1 (by omega)
      have c2 := hc2 2 (by omega)
      have c3 := hc2 3 (by omega)
      simp only [add_add] at c0 c1 c2 c3
      exact ⟨z0, z1, z2, z3, c0, c1, c2, c3⟩
    intro i hi
    obtain ⟨b, off, spot⟩ := x
    obtain ⟨_, _, _, _, c0, _⟩ := key 0 (by omega)
    have hspot : spot = none := by simpa [Addr.add] using World.cell?_spot c0
    subst hspot
    obtain ⟨q0, q1, q2, q3, c0, c1, c2, c3⟩ := key i hi
    rw [add_plain] at c0 c1 c2 c3
    exact ⟨b, off, q0, q1, q2, q3, rfl, World.block_lt_of_cell? W _ c0, by simpa using c0, by simpa [Nat.add_assoc] using c1, by simpa [Nat.add_assoc] using c2, by simpa [Nat.add_assoc] using c3⟩

end Go.Proofs.Ytpgoedpodfidjaa
