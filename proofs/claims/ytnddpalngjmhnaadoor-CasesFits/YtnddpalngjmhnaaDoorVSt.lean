/-
  A state that came in.
-/
import Derived.Test.YtnddpalngjmhnaaDoorSArgs
namespace Go.Proofs.YtnddpalngjmhnaaDoor
open Go.RowKit Go.Deep Go.Joins Go.WideShapes Go.ChangeShapes Go.ChangeAt

theorem Tryd.cells_nums : Tryd.prog.cellsOf 3 = 1 := by kernel_rfl
theorem Tryd.bytes_nums : Tryd.prog.bytesOf 3 = 8 := by kernel_rfl
theorem Tryd.cells_truths : Tryd.prog.cellsOf 4 = 1 := by kernel_rfl
theorem Tryd.bytes_truths : Tryd.prog.bytesOf 4 = 1 := by kernel_rfl
theorem Tryd.cells_state : Tryd.prog.cellsOf 31 = 4 := by kernel_rfl

set_option maxRecDepth 100000 in
theorem open_nums {H : Type} {enc : TypeId × Value → H} {W : World} {v : Value} {fuel : Nat} {d : DataW H} {p : List MemPlace} (h : DataW.trod enc Tryd.prog W 0 (fun _ => true) true fuel 28 [v] = some (d, p)) (hr : ∀ n ∈ d.weights Tryd.prog 28, n ≤ reachBytes) :
    ∃ xs : List Int, Cv W v (iv xs) := by
  rcases open_slice Tryd.underlying28 h with ⟨hcs, hx⟩ | ⟨x, len, cap, m, n, D, Pl, hcs, _, hl, hm, hmm, hx, hel⟩
  · simp only [List.cons.injEq, and_true] at hcs
    subst hcs
    exact ⟨[], Cv.nil W⟩
  · simp only [List.cons.injEq, and_true] at hcs
    subst hcs
    simp only [if_true] at hmm
    subst hmm
    have hd : d = .slice ((List.range len).map D) ((List.range (m - len)).map fun j => D (len + j)) := (Prod.mk.inj hx).1
    rw [Tryd.cells_nums] at hel
    have key : ∀ i, i < len → ∃ a : Int, W.cell? (x.add (i * 1 + 0)) = some (.int .i64 a) := by
      intro i hi
      obtain ⟨cs', h1, h2⟩ := hel i (by omega)
      obtain ⟨z, q0, _, _⟩ := DataW.trod_int Tryd.underlying3 h2
      subst q0
      have hc5 := (World.cells?_some h1).2.2 0 (by simp)
      simp only [add_add] at hc5
      exact ⟨z, hc5⟩
    have hlen : len ≤ 281474976710656 := by
      have := hr ((len + (m - len)) * 8) (by
        rw [hd]
        simp only [DataW.weights, Tryd.underlying28, List.length_map, List.length_range, Tryd.bytes_nums]
        simp)
      simp only [reachBytes] at this
      omega
    obtain ⟨f, hf⟩ : ∃ f : Nat → Int, ∀ i, i < len → W.cell? (x.add (i * 1 + 0)) = some (.int .i64 (f i)) := by
      classical
      refine ⟨fun i => if hi : i < len then Classical.choose (key i hi) else 0, fun i hi => ?_⟩
      simp only [dif_pos hi]
      exact Classical.choose_spec (key i hi)
    refine ⟨(List.range len).map f, some x, m, by simp [iv], by simp [iv]; omega, fun h => (by cases h), fun h0 => ?_⟩
    simp only [iv, List.length_map, List.length_range] at h0
    obtain ⟨b, off, spot⟩ := x
    have hspot : spot = none := by simpa [Addr.add] using World.cell?_spot (hf 0 h0)
    subst hspot
    refine ⟨b, off, rfl, World.block_lt_of_cell? W _ (hf 0 h0), fun i hi => ?_⟩
    have hi' : i < len := by simpa [iv] using hi
    have a0 := hf i hi'
    simp only [add_plain] at a0
    simp only [iv, List.getElem_map, List.getElem_range]
    simpa using a0

set_option maxRecDepth 100000 in
theorem open_truths {H : Type} {enc : TypeId × Value → H} {W : World} {v : Value} {fuel : Nat} {d : DataW H} {p : List MemPlace} (h : DataW.trod enc Tryd.prog W 0 (fun _ => true) true fuel 29 [v] = some (d, p)) (hr : ∀ n ∈ d.weights Tryd.prog 29, n ≤ reachBytes) :
    ∃ xs : List Bool, Cv W v (bv xs) := by
  rcases open_slice Tryd.underlying29 h with ⟨hcs, hx⟩ | ⟨x, len, cap, m, n, D, Pl, hcs, _, hl, hm, hmm, hx, hel⟩
  · simp only [List.cons.injEq, and_true] at hcs
    subst hcs
    exact ⟨[], Cv.nil W⟩
  · simp only [List.cons.injEq, and_true] at hcs
    subst hcs
    simp only [if_true] at hmm
    subst hmm
    have hd : d = .slice ((List.range len).map D) ((List.range (m - len)).map fun j => D (len + j)) := (Prod.mk.inj hx).1
    rw [Tryd.cells_truths] at hel
    have key : ∀ i, i < len → ∃ a : Bool, W.cell? (x.add (i * 1 + 0)) = some (.bool a) := by
      intro i hi
      obtain ⟨cs', h1, h2⟩ := hel i (by omega)
      obtain ⟨z, q0, _⟩ := DataW.trod_bool Tryd.underlying4 h2
      subst q0
      have hc5 := (World.cells?_some h1).2.2 0 (by simp)
      simp only [add_add] at hc5
      exact ⟨z, hc5⟩
    have hlen : len ≤ 281474976710656 := by
      have := hr ((len + (m - len)) * 1) (by
        rw [hd]
        simp only [DataW.weights, Tryd.underlying29, List.length_map, List.length_range, Tryd.bytes_truths]
        simp)
      simp only [reachBytes] at this
      omega
    obtain ⟨f, hf⟩ : ∃ f : Nat → Bool, ∀ i, i < len → W.cell? (x.add (i * 1 + 0)) = some (.bool (f i)) := by
      classical
      refine ⟨fun i => if hi : i < len then Classical.choose (key i hi) else false, fun i hi => ?_⟩
      simp only [dif_pos hi]
      exact Classical.choose_spec (key i hi)
    refine ⟨(List.range len).map f, some x, m, by simp [bv], by simp [bv]; omega, fun h => (by cases h), fun h0 => ?_⟩
    simp only [bv, List.length_map, List.length_range] at h0
    obtain ⟨b, off, spot⟩ := x
    have hspot : spot = none := by simpa [Addr.add] using World.cell?_spot (hf 0 h0)
    subst hspot
    refine ⟨b, off, rfl, World.block_lt_of_cell? W _ (hf 0 h0), fun i hi => ?_⟩
    have hi' : i < len := by simpa [bv] using hi
    have a0 := hf i hi'
    simp only [add_plain] at a0
    simp only [bv, List.getElem_map, List.getElem_range]
    simpa using a0

set_option maxRecDepth 100000 in
theorem open_state {H : Type} {enc : TypeId × Value → H} {W : World} {base : Nat} {v : Value} {d : DataW H} {p : List MemPlace} (hv : Value.okWide Tryd.prog W .any base 31 v) (h : DataW.Trod enc Tryd.prog W 0 (fun _ => true) true 31 v d p) (hr : ∀ n ∈ d.weights Tryd.prog 31, n ≤ reachBytes) :
    ∃ s : Sa, StV W v s := by
  obtain ⟨c0, c1, c2, c3, y0, ⟨d1, p1⟩, ⟨d2, p2⟩, ⟨d3, p3⟩, m, rfl, rfl, _, hy0, hy1, hy2, hy3⟩ := open_agg4 Tryd.underlying31 (by kernel_rfl) Tryd.cells_state hv h
  obtain ⟨⟨⟨s⟩⟩, q0, rfl, _⟩ := DataW.trod_string Tryd.underlying9 hy0
  simp only [List.cons.injEq, and_true] at q0
  subst q0
  obtain ⟨xs, a1⟩ := open_nums hy1 (fun n hn => hr n (by
    simp only [DataW.weights, Tryd.underlying31]
    exact DataW.weights_mem_each (j := 1) rfl rfl n hn))
  obtain ⟨ys, a2⟩ := open_truths hy2 (fun n hn => hr n (by
    simp only [DataW.weights, Tryd.underlying31]
    exact DataW.weights_mem_each (j := 2) rfl rfl n hn))
  obtain ⟨zs, a3⟩ := open_truths hy3 (fun n hn => hr n (by
    simp only [DataW.weights, Tryd.underlying31]
    exact DataW.weights_mem_each (j := 3) rfl rfl n hn))
  exact ⟨⟨s, xs, ys, zs⟩, _, _, _, rfl, a1, a2, a3⟩

end Go.Proofs.YtnddpalngjmhnaaDoor
