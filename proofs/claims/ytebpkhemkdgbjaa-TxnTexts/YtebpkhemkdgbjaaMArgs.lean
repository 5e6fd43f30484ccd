/-
  A slice of texts that came in.
-/
import Derived.Test.YtebpkhemkdgbjaaSArgs
import Derived.Deep.Slices
import Derived.Lib.SmallJoins
namespace Go.Proofs.Ytebpkhemkdgbjaa
open Go.RowKit Go.Deep Go.Joins Go.WideShapes Go.ChangeShapes Go.ChangeAt

/-- Texts that are looked at. -/
structure IsNames (w : World) (a : Option Addr) (ss : List (List UInt8)) : Prop where
  row : 0 < ss.length → ∃ b off, a = some ⟨b, off, none⟩ ∧ b < w.heap.size ∧ ∀ i (h : i < ss.length), w.cell? ⟨b, off + i, none⟩ = some (.string ⟨(ss[i]).toArray⟩)
theorem IsNames.all {w w' : World} {a : Option Addr} {ss : List (List UInt8)} (h : IsNames w a ss) (k : Kept (fun _ => True) w w') : IsNames w' a ss := by
  refine ⟨fun h0 => ?_⟩
  obtain ⟨b, off, e, hb, hc⟩ := h.row h0
  exact ⟨b, off, e, Nat.lt_of_lt_of_le hb k.size, fun i hi => (kept_cell k hb trivial).trans (hc i hi)⟩

theorem mweights_all {H : Type} {P : Program} {e : TypeId} {ds : List (DataW H)} {d : DataW H} {n : Nat} (hd : d ∈ ds) (hn : n ∈ d.weights P e) : n ∈ DataW.weightsAll P e ds := by
  induction ds with
  | nil => cases hd
  | cons x xs ih =>
    simp only [DataW.weightsAll, List.mem_append]
    rcases List.mem_cons.1 hd with rfl | h
    · exact .inl hn
    · exact .inr (ih h)

theorem Try.cellsStrm : Try.prog.cellsOf 9 = 1 := by kernel_rfl

theorem open_strs {H : Type} {enc : TypeId × Value → H} {W : World} {a : Option Addr} {len cap : Nat} {d : DataW H} {p : List MemPlace} (h : DataW.Trod enc Try.prog W 0 (fun _ => true) true 37 (.slice a len cap) d p) (hr : ∀ n ∈ d.weights Try.prog 37, n ≤ reachBytes) :
    ∃ ss : List (List UInt8), ss.length = len ∧ len ≤ cap ∧ (IsNames W a ss ∧ ∀ s ∈ ss, s.length ≤ 140737488355328) := by
  obtain ⟨fuel, hf⟩ := h
  rcases open_slice1 Try.underlying37 Try.cellsStrm hf with ⟨hcs, hx⟩ | ⟨x, l, c, m, n, V, D, Pl, hcs, _, hl, hm, hmm, hx, hel⟩
  · simp [Value.cells] at hcs
    obtain ⟨rfl, rfl, rfl⟩ := hcs
    exact ⟨[], rfl, Nat.le_refl _, ⟨fun h => by simp at h⟩, by simp⟩
  · simp [Value.cells] at hcs
    obtain ⟨rfl, rfl, rfl⟩ := hcs
    simp only [if_true] at hmm
    subst hmm
    have hd : d = .slice ((List.range len).map D) ((List.range (m - len)).map fun j => D (len + j)) := (Prod.mk.inj hx).1
    have key : ∀ i, i < len → ∃ s : List UInt8, W.cell? (x.add i) = some (.string ⟨s.toArray⟩) ∧ s.length ≤ 140737488355328 := by
      intro i hi
      obtain ⟨h1, h2⟩ := hel i (by omega)
      obtain ⟨s, e1, e2, _⟩ := DataW.trod_string Try.underlying9 h2
      obtain ⟨⟨s⟩⟩ := s
      have eV : V i = .string ⟨s.toArray⟩ := by simpa using e1
      have eD : D i = .lit (.string s) := (Prod.mk.inj e2).1
      refine ⟨s, by rw [h1, eV], ?_⟩
      have := hr s.length (by
        rw [hd]
        simp only [DataW.weights, Try.underlying37, List.mem_cons, List.mem_append]
        exact .inr (.inl (mweights_all (d := D i) (List.mem_map.2 ⟨i, List.mem_range.2 hi, rfl⟩) (by rw [eD]; simp [DataW.weights]))))
      simp only [reachBytes] at this
      omega
    obtain ⟨f, hf2⟩ : ∃ f : Nat → List UInt8, ∀ i, i < len → W.cell? (x.add i) = some (.string ⟨(f i).toArray⟩) ∧ (f i).length ≤ 140737488355328 := by
      classical
      refine ⟨fun i => if hi : i < len then Classical.choose (key i hi) else [], fun i hi => ?_⟩
      simp only [dif_pos hi]
      exact Classical.choose_spec (key i hi)
    refine ⟨(List.range len).map f, by simp, hl, ⟨fun h0 => ?_⟩, fun s hs => ?_⟩
    · rw [List.length_map, List.length_range] at h0
      obtain ⟨b, off, spot⟩ := x
      have hspot : spot = none := by simpa [Addr.add] using World.cell?_spot (hf2 0 h0).1
      subst hspot
      refine ⟨b, off, rfl, ?_, fun i hi => ?_⟩
      · have := (hf2 0 h0).1
        rw [add_plain] at this
        exact World.block_lt_of_cell? W _ this
      · have := (hf2 i (by simpa using hi)).1
        rw [add_plain] at this
        rw [this]
        simp
    · obtain ⟨i, hi, rfl⟩ := List.mem_map.1 hs
      exact (hf2 i (List.mem_range.1 hi)).2

end Go.Proofs.Ytebpkhemkdgbjaa
