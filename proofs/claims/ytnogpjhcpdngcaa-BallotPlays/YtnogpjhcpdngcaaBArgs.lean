/-
  Ballots, and slices of Asks, that came in.
-/
import Derived.Test.YtnogpjhcpdngcaaSArgs
import Derived.Test.YtnogpjhcpdngcaaBAsks
import Derived.Deep.Slices
import Derived.Lib.SmallJoins
namespace Go.Proofs.Ytnogpjhcpdngcaa
open Go.RowKit Go.Deep Go.Joins Go.WideShapes Go.ChangeShapes Go.ChangeAt

theorem Try.cellsBal : Try.prog.cellsOf 26 = 2 := by kernel_rfl

theorem open_bal {H : Type} {enc : TypeId × Value → H} {W : World} {base : Nat} {v : Value} {d : DataW H} {p : List MemPlace} (hv : Value.okWide Try.prog W .any base 26 v) (h : DataW.Trod enc Try.prog W 0 (fun _ => true) true 26 v d p) :
    ∃ r n, v = .agg #[.int .i64 r, .int .i64 n] ∧ p = [] ∧ d = .agg [.lit (.int .i64 r), .lit (.int .i64 n)] ∧ (Lit.int .i64 r).wf = true ∧ (Lit.int .i64 n).wf = true := by
  obtain ⟨c0, c1, y0, y1, m, rfl, rfl, rfl, hy0, hy1⟩ := open_agg2 Try.underlying26 (by kernel_rfl) Try.cellsBal hv h
  obtain ⟨a, e0, rfl, wa⟩ := DataW.trod_int Try.underlying3 hy0
  obtain ⟨b, e1, rfl, wb⟩ := DataW.trod_int Try.underlying3 hy1
  simp at e0 e1
  subst e0 e1
  exact ⟨a, b, rfl, rfl, rfl, wa, wb⟩
theorem shut_bal {H : Type} {enc : TypeId × Value → H} {w : World} {base : Nat} {spare : Nat → Bool} {held : Bool} {r n : Int} (hr : (Lit.int .i64 r).wf = true) (hn : (Lit.int .i64 n).wf = true) :
    DataW.Trod enc Try.prog w base spare held 26 (.agg #[.int .i64 r, .int .i64 n]) (.agg [.lit (.int .i64 r), .lit (.int .i64 n)]) [] :=
  shut_agg2 (y0 := (.lit (.int .i64 r), [])) (y1 := (.lit (.int .i64 n), [])) Try.underlying26 (by kernel_rfl) Try.cellsBal ⟨1, by simp [DataW.trod, Try.underlying3, hr]⟩ ⟨1, by simp [DataW.trod, Try.underlying3, hn]⟩

theorem weights_alls {H : Type} {P : Program} {e : TypeId} {ds : List (DataW H)} {d : DataW H} {n : Nat} (hd : d ∈ ds) (hn : n ∈ d.weights P e) : n ∈ DataW.weightsAll P e ds := by
  induction ds with
  | nil => cases hd
  | cons x xs ih =>
    simp only [DataW.weightsAll, List.mem_append]
    rcases List.mem_cons.1 hd with rfl | h
    · exact .inl hn
    · exact .inr (ih h)

theorem Try.cellsAsk : Try.prog.cellsOf 45 = 5 := by kernel_rfl

/-- A struct of four. -/
theorem trod_struct4 {H : Type} {enc : TypeId × Value → H} {W : World} {t : TypeId} {f0 f1 f2 f3 : Field} {fuel : Nat} {cs : List Value} {x : DataW H × List MemPlace} (ht : Try.prog.underlying t = some (.struct #[f0, f1, f2, f3])) (h : DataW.trod enc Try.prog W 0 (fun _ => true) true fuel t cs = some x) :
    ∃ y0 y1 y2 y3 n, x.1 = .agg [y0.1, y1.1, y2.1, y3.1] ∧ DataW.trod enc Try.prog W 0 (fun _ => true) true n f0.type ((cs.drop f0.offset).take (Try.prog.cellsOf f0.type)) = some y0 ∧
      DataW.trod enc Try.prog W 0 (fun _ => true) true n f1.type ((cs.drop f1.offset).take (Try.prog.cellsOf f1.type)) = some y1 ∧ DataW.trod enc Try.prog W 0 (fun _ => true) true n f2.type ((cs.drop f2.offset).take (Try.prog.cellsOf f2.type)) = some y2 ∧
      DataW.trod enc Try.prog W 0 (fun _ => true) true n f3.type ((cs.drop f3.offset).take (Try.prog.cellsOf f3.type)) = some y3 := by
  obtain ⟨xs, n, _, rfl, hl, hlen, hf⟩ := DataW.trod_struct ht h
  match xs, hlen with
  | [y0, y1, y2, y3], _ => exact ⟨y0, y1, y2, y3, n, by simp, by simpa using hf 0 f0 rfl, by simpa using hf 1 f1 rfl, by simpa using hf 2 f2 rfl, by simpa using hf 3 f3 rfl⟩
/-- A struct of two. -/
theorem trod_two {H : Type} {enc : TypeId × Value → H} {W : World} {t : TypeId} {f0 f1 : Field} {fuel : Nat} {cs : List Value} {x : DataW H × List MemPlace} (ht : Try.prog.underlying t = some (.struct #[f0, f1])) (h : DataW.trod enc Try.prog W 0 (fun _ => true) true fuel t cs = some x) :
    ∃ y0 y1 n, DataW.trod enc Try.prog W 0 (fun _ => true) true n f0.type ((cs.drop f0.offset).take (Try.prog.cellsOf f0.type)) = some y0 ∧
      DataW.trod enc Try.prog W 0 (fun _ => true) true n f1.type ((cs.drop f1.offset).take (Try.prog.cellsOf f1.type)) = some y1 := by
  obtain ⟨xs, n, _, rfl, hl, hlen, hf⟩ := DataW.trod_struct ht h
  match xs, hlen with
  | [y0, y1], _ => exact ⟨y0, y1, n, by simpa using hf 0 f0 rfl, by simpa using hf 1 f1 rfl⟩

theorem i64_wf {n : Int} (h : (Lit.int .i64 n).wf = true) : -9223372036854775808 ≤ n ∧ n ≤ 9223372036854775807 := by
  have e1 : IntKind.i64.min = -9223372036854775808 := by decide
  have e2 : IntKind.i64.max = 9223372036854775807 := by decide
  simp [Lit.wf, e1, e2] at h
  exact h
theorem five {α : Type} {l : List α} (h : l.length = 5) : ∃ a b c d e, l = [a, b, c, d, e] := by
  match l, h with
  | [a, b, c, d, e], _ => exact ⟨a, b, c, d, e, rfl⟩

theorem open_asks {H : Type} {enc : TypeId × Value → H} {W : World} {a : Option Addr} {len cap : Nat} {d : DataW H} {p : List MemPlace} (h : DataW.Trod enc Try.prog W 0 (fun _ => true) true 40 (.slice a len cap) d p) (hr : ∀ n ∈ d.weights Try.prog 40, n ≤ reachBytes) : IsAsks W a len := by
  obtain ⟨fuel, hf⟩ := h
  rcases open_slice Try.underlying40 hf with ⟨hcs, hx⟩ | ⟨x, l, c, m, n, D, Pl, hcs, _, hl, hm, hmm, hx, hel⟩
  · simp [Value.cells] at hcs
    obtain ⟨rfl, rfl, rfl⟩ := hcs
    intro i hi
    omega
  · simp [Value.cells] at hcs
    obtain ⟨rfl, rfl, rfl⟩ := hcs
    simp only [if_true] at hmm
    subst hmm
    have hd : d = .slice ((List.range len).map D) ((List.range (m - len)).map fun j => D (len + j)) := (Prod.mk.inj hx).1
    rw [Try.cellsAsk] at hel
    have key : ∀ i, i < len → ∃ v : AskV, W.cell? (x.add (i * 5 + 0)) = some (.int .i64 v.kind) ∧ W.cell? (x.add (i * 5 + 1)) = some (.int .i64 v.slot) ∧ W.cell? (x.add (i * 5 + 2)) = some (.int .i64 v.r) ∧ W.cell? (x.add (i * 5 + 3)) = some (.int .i64 v.n) ∧ W.cell? (x.add (i * 5 + 4)) = some (.string v.s) ∧ v.s.size ≤ 140737488355328 ∧ (-9223372036854775808 ≤ v.r ∧ v.r ≤ 9223372036854775807) ∧ (-9223372036854775808 ≤ v.n ∧ v.n ≤ 9223372036854775807) := by
      intro i hi
      obtain ⟨cs', h1, h2⟩ := hel i (by omega)
      obtain ⟨y0, y1, y2, y3, k, hx2, g0, g1, g2, g3⟩ := trod_struct4 Try.underlying45 h2
      obtain ⟨_, hl5, hc5⟩ := World.cells?_some h1
      obtain ⟨v0, v1, v2, v3, v4, rfl⟩ := five hl5
      have e0 : DataW.trod enc Try.prog W 0 (fun _ => true) true k 3 [v0] = some y0 := g0
      have e1 : DataW.trod enc Try.prog W 0 (fun _ => true) true k 3 [v1] = some y1 := g1
      have e2 : DataW.trod enc Try.prog W 0 (fun _ => true) true k 26 [v2, v3] = some y2 := g2
      have e3 : DataW.trod enc Try.prog W 0 (fun _ => true) true k 9 [v4] = some y3 := g3
      obtain ⟨z0, q0, rfl, w0⟩ := DataW.trod_int Try.underlying3 e0
      obtain ⟨z1, q1, rfl, w1⟩ := DataW.trod_int Try.underlying3 e1
      obtain ⟨u0, u1, k2, b0, b1⟩ := trod_two Try.underlying26 e2
      have b0' : DataW.trod enc Try.prog W 0 (fun _ => true) true k2 3 [v2] = some u0 := b0
      have b1' : DataW.trod enc Try.prog W 0 (fun _ => true) true k2 3 [v3] = some u1 := b1
      obtain ⟨z2, q2, rfl, w2⟩ := DataW.trod_int Try.underlying3 b0'
      obtain ⟨z3, q3, rfl, w3⟩ := DataW.trod_int Try.underlying3 b1'
      obtain ⟨⟨⟨s⟩⟩, q4, rfl, _⟩ := DataW.trod_string Try.underlying9 e3
      simp only [List.cons.injEq, and_true] at q0 q1 q2 q3 q4
      subst q0 q1 q2 q3 q4
      have c0 := hc5 0 (by omega)
      have c1 := hc5 1 (by omega)
      have c2 := hc5 2 (by omega)
      have c3 := hc5 3 (by omega)
      have c4 := hc5 4 (by omega)
      simp only [add_add] at c0 c1 c2 c3 c4
      refine ⟨⟨z0, z1, z2, z3, ⟨⟨s⟩⟩⟩, c0, c1, c2, c3, c4, ?_, i64_wf w2, i64_wf w3⟩
      have := hr s.length (by
        rw [hd]
        simp only [DataW.weights, Try.underlying40, List.mem_cons, List.mem_append]
        refine .inr (.inl (weights_alls (d := D i) (List.mem_map.2 ⟨i, List.mem_range.2 hi, rfl⟩) ?_))
        rw [show D i = _ from hx2]
        simp only [DataW.weights, Try.underlying45]
        exact DataW.weights_mem_each (j := 3) rfl rfl s.length (by simp [DataW.weights]))
      simp only [reachBytes] at this
      show s.length ≤ _
      omega
    intro i hi
    obtain ⟨b, off, spot⟩ := x
    obtain ⟨_, c0, _⟩ := key 0 (by omega)
    have hspot : spot = none := by simpa [Addr.add] using World.cell?_spot c0
    subst hspot
    obtain ⟨v, c0, c1, c2, c3, c4, hs⟩ := key i hi
    rw [add_plain] at c0 c1 c2 c3 c4
    refine ⟨b, off, v, rfl, World.block_lt_of_cell? W _ c0, by simpa using c0, by simpa [Nat.add_assoc] using c1, by simpa [Nat.add_assoc] using c2, by simpa [Nat.add_assoc] using c3, by simpa [Nat.add_assoc] using c4, hs⟩

end Go.Proofs.Ytnogpjhcpdngcaa
