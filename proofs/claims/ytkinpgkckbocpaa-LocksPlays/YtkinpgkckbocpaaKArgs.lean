/-
  Slices of Asks, each with a slice of Wants, that came in.
-/
import Derived.Test.YtkinpgkckbocpaaSArgs
import Derived.Test.YtkinpgkckbocpaaKAsk
import Derived.Deep.Slices
import Derived.Lib.SmallJoins
namespace Go.Proofs.Ytkinpgkckbocpaa
open Go.RowKit Go.Deep Go.Joins Go.WideShapes Go.ChangeShapes Go.ChangeAt

theorem Try.cellsWant : Try.prog.cellsOf 27 = 2 := by kernel_rfl
theorem Try.cellsAskK : Try.prog.cellsOf 43 = 3 := by kernel_rfl
theorem trod_two {H : Type} {enc : TypeId × Value → H} {W : World} {t : TypeId} {f0 f1 : Field} {fuel : Nat} {cs : List Value} {x : DataW H × List MemPlace} (ht : Try.prog.underlying t = some (.struct #[f0, f1])) (h : DataW.trod enc Try.prog W 0 (fun _ => true) true fuel t cs = some x) :
    ∃ y0 y1 n, DataW.trod enc Try.prog W 0 (fun _ => true) true n f0.type ((cs.drop f0.offset).take (Try.prog.cellsOf f0.type)) = some y0 ∧ DataW.trod enc Try.prog W 0 (fun _ => true) true n f1.type ((cs.drop f1.offset).take (Try.prog.cellsOf f1.type)) = some y1 := by
  obtain ⟨xs, n, _, rfl, hl, hlen, hf⟩ := DataW.trod_struct ht h
  match xs, hlen with
  | [y0, y1], _ => exact ⟨y0, y1, n, by simpa using hf 0 f0 rfl, by simpa using hf 1 f1 rfl⟩
theorem trod_three {H : Type} {enc : TypeId × Value → H} {W : World} {t : TypeId} {f0 f1 f2 : Field} {fuel : Nat} {cs : List Value} {x : DataW H × List MemPlace} (ht : Try.prog.underlying t = some (.struct #[f0, f1, f2])) (h : DataW.trod enc Try.prog W 0 (fun _ => true) true fuel t cs = some x) :
    ∃ y0 y1 y2 n, DataW.trod enc Try.prog W 0 (fun _ => true) true n f0.type ((cs.drop f0.offset).take (Try.prog.cellsOf f0.type)) = some y0 ∧ DataW.trod enc Try.prog W 0 (fun _ => true) true n f1.type ((cs.drop f1.offset).take (Try.prog.cellsOf f1.type)) = some y1 ∧ DataW.trod enc Try.prog W 0 (fun _ => true) true n f2.type ((cs.drop f2.offset).take (Try.prog.cellsOf f2.type)) = some y2 := by
  obtain ⟨xs, n, _, rfl, hl, hlen, hf⟩ := DataW.trod_struct ht h
  match xs, hlen with
  | [y0, y1, y2], _ => exact ⟨y0, y1, y2, n, by simpa using hf 0 f0 rfl, by simpa using hf 1 f1 rfl, by simpa using hf 2 f2 rfl⟩
theorem two_of {α : Type} {l : List α} (h : l.length = 2) : ∃ a b, l = [a, b] := by
  match l, h with
  | [a, b], _ => exact ⟨a, b, rfl⟩
theorem three_of {α : Type} {l : List α} (h : l.length = 3) : ∃ a b c, l = [a, b, c] := by
  match l, h with
  | [a, b, c], _ => exact ⟨a, b, c, rfl⟩

set_option maxRecDepth 100000 in
theorem open_wants {H : Type} {enc : TypeId × Value → H} {W : World} {v : Value} {fuel : Nat} {z : DataW H × List MemPlace} (h : DataW.trod enc Try.prog W 0 (fun _ => true) true fuel 28 [v] = some z) :
    ∃ (l : List (List UInt8 × Bool)) (wa : Option Addr) (wc : Nat), v = .slice wa l.length wc ∧ Wn W (.slice wa l.length wc) l ∧ (wa = none → wc = 0) ∧ l.length ≤ wc ∧ ∀ y ∈ l, y.1.length ≤ 9223372036854775807 := by
  rcases open_slice Try.underlying28 h with ⟨hcs, hx⟩ | ⟨x, len, cap, m, n, D, Pl, hcs, _, hl, hm, hmm, hx, hel⟩
  · simp only [List.cons.injEq, and_true] at hcs
    subst hcs
    exact ⟨[], none, 0, rfl, Wn.nil W, fun _ => rfl, Nat.le_refl _, by simp⟩
  · simp only [List.cons.injEq, and_true] at hcs
    subst hcs
    simp only [if_true] at hmm
    subst hmm
    rw [Try.cellsWant] at hel
    have key : ∀ i, i < len → ∃ a : List UInt8 × Bool, W.cell? (x.add (i * 2 + 0)) = some (.string ⟨a.1.toArray⟩) ∧ W.cell? (x.add (i * 2 + 1)) = some (.bool a.2) ∧ a.1.length ≤ 9223372036854775807 := by
      intro i hi
      obtain ⟨cs', h1, h2⟩ := hel i (by omega)
      obtain ⟨y0, y1, k, g0, g1⟩ := trod_two Try.underlying27 h2
      obtain ⟨_, hl5, hc5⟩ := World.cells?_some h1
      obtain ⟨v0, v1, rfl⟩ := two_of hl5
      have e0 : DataW.trod enc Try.prog W 0 (fun _ => true) true k 9 [v0] = some y0 := g0
      have e1 : DataW.trod enc Try.prog W 0 (fun _ => true) true k 4 [v1] = some y1 := g1
      obtain ⟨⟨⟨s0⟩⟩, q0, rfl, hs0⟩ := DataW.trod_string Try.underlying9 e0
      obtain ⟨b1, q1, rfl⟩ := DataW.trod_bool Try.underlying4 e1
      simp only [List.cons.injEq, and_true] at q0 q1
      subst q0 q1
      have c0 := hc5 0 (by omega)
      have c1 := hc5 1 (by omega)
      simp only [add_add] at c0 c1
      exact ⟨(s0, b1), c0, c1, hs0⟩
    obtain ⟨f, hf2⟩ : ∃ f : Nat → List UInt8 × Bool, ∀ i, i < len → W.cell? (x.add (i * 2 + 0)) = some (.string ⟨(f i).1.toArray⟩) ∧ W.cell? (x.add (i * 2 + 1)) = some (.bool (f i).2) ∧ (f i).1.length ≤ 9223372036854775807 := by
      classical
      refine ⟨fun i => if hi : i < len then Classical.choose (key i hi) else ([], false), fun i hi => ?_⟩
      simp only [dif_pos hi]
      exact Classical.choose_spec (key i hi)
    refine ⟨(List.range len).map f, some x, m, by simp, ⟨some x, m, rfl, fun h0 => ?_⟩, fun e => (by cases e), by simpa using hl, fun y hy => ?_⟩
    · rw [List.length_map, List.length_range] at h0
      obtain ⟨b, off, spot⟩ := x
      have hspot : spot = none := by simpa [Addr.add] using World.cell?_spot (hf2 0 h0).1
      subst hspot
      refine ⟨b, off, rfl, fun i hi => ?_⟩
      have hi' : i < len := by simpa using hi
      obtain ⟨a0, a1, _⟩ := hf2 i hi'
      simp only [add_plain] at a0 a1
      simp only [List.getElem_map, List.getElem_range]
      exact ⟨by simpa using a0, by simpa [Nat.add_assoc] using a1⟩
    · obtain ⟨i, hi, rfl⟩ := List.mem_map.1 hy
      exact (hf2 i (List.mem_range.1 hi)).2.2

set_option maxRecDepth 100000 in
theorem open_asks {H : Type} {enc : TypeId × Value → H} {W : World} {a : Option Addr} {len cap : Nat} {d : DataW H} {p : List MemPlace} (h : DataW.Trod enc Try.prog W 0 (fun _ => true) true 37 (.slice a len cap) d p) : IsAsks W a len := by
  obtain ⟨fuel, hf⟩ := h
  rcases open_slice Try.underlying37 hf with ⟨hcs, hx⟩ | ⟨x, l, c, m, n, D, Pl, hcs, _, hl, hm, hmm, hx, hel⟩
  · simp [Value.cells] at hcs
    obtain ⟨rfl, rfl, rfl⟩ := hcs
    intro i hi
    omega
  · simp [Value.cells] at hcs
    obtain ⟨rfl, rfl, rfl⟩ := hcs
    simp only [if_true] at hmm
    subst hmm
    rw [Try.cellsAskK] at hel
    have key : ∀ i, i < len → ∃ z : AskK, W.cell? (x.add (i * 3 + 0)) = some (.int .i64 z.kind) ∧ W.cell? (x.add (i * 3 + 1)) = some (.string ⟨z.x.toArray⟩) ∧ W.cell? (x.add (i * 3 + 2)) = some (.slice z.wa z.l.length z.wc) ∧ AskOk W z := by
      intro i hi
      obtain ⟨cs', h1, h2⟩ := hel i (by omega)
      obtain ⟨y0, y1, y2, k, g0, g1, g2⟩ := trod_three Try.underlying43 h2
      obtain ⟨_, hl3, hc3⟩ := World.cells?_some h1
      obtain ⟨v0, v1, v2, rfl⟩ := three_of hl3
      have e0 : DataW.trod enc Try.prog W 0 (fun _ => true) true k 3 [v0] = some y0 := g0
      have e1 : DataW.trod enc Try.prog W 0 (fun _ => true) true k 9 [v1] = some y1 := g1
      have e2 : DataW.trod enc Try.prog W 0 (fun _ => true) true k 28 [v2] = some y2 := g2
      obtain ⟨z0, q0, rfl, w0⟩ := DataW.trod_int Try.underlying3 e0
      obtain ⟨⟨⟨s⟩⟩, q1, rfl, hs⟩ := DataW.trod_string Try.underlying9 e1
      obtain ⟨l2, wa, wc, rfl, hw1, hw2, hw3, hw4⟩ := open_wants e2
      simp only [List.cons.injEq, and_true] at q0 q1
      subst q0 q1
      have c0 := hc3 0 (by omega)
      have c1 := hc3 1 (by omega)
      have c2 := hc3 2 (by omega)
      simp only [add_add] at c0 c1 c2
      exact ⟨⟨z0, s, l2, wa, wc⟩, c0, c1, c2, hw1, hw2, hw3, hs, hw4⟩
    intro i hi
    obtain ⟨b, off, spot⟩ := x
    obtain ⟨_, c0, _⟩ := key 0 (by omega)
    have hspot : spot = none := by simpa [Addr.add] using World.cell?_spot c0
    subst hspot
    obtain ⟨z, c0, c1, c2, hz⟩ := key i hi
    rw [add_plain] at c0 c1 c2
    exact ⟨b, off, z, rfl, by simpa using c0, by simpa [Nat.add_assoc] using c1, by simpa [Nat.add_assoc] using c2, hz⟩

end Go.Proofs.Ytkinpgkckbocpaa
