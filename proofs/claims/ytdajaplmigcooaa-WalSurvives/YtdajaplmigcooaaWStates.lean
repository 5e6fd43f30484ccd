/-
  Rows of slices of texts; records behind a crash.
-/
import Derived.Test.YtdajaplmigcooaaWStrs
namespace Go.Proofs.Ytdajaplmigcooaa
open Go.RowKit

/-- A slice of texts that fills its block. -/
def sv (x : Nat × List (List UInt8)) : Value := .slice (some ⟨x.1, 0, none⟩) x.2.length x.2.length
theorem sv_one (Ls : List (Nat × List (List UInt8))) : ∀ u ∈ Ls.map sv, u.oneCell' = true := by
  intro u hu
  obtain ⟨_, _, rfl⟩ := List.mem_map.1 hu
  rfl
theorem Try.infoTexts : (Try.prog.info? 33).map (fun i => (i.zero, i.size, i.bytes)) = some (some (.slice none 0 0), 1, 24) := by kernel_rfl

/-- A slice of such slices, in a row of its own behind 'base'. -/
def Row2 (w : World) (base : Nat) (v : Value) (Ls : List (Nat × List (List UInt8))) : Prop := w.ownsRow base 33 1 v Ls.length (Ls.map sv)
theorem Row2.kept {p : Nat → Prop} {w w' : World} {base : Nat} {v : Value} {Ls : List (Nat × List (List UInt8))} (h : Row2 w base v Ls) (hk : Kept p w w') (hp : ∀ k, v.ownBlock = some k → p k) : Row2 w' base v Ls := by
  refine ⟨h.1, ?_⟩
  rcases h.2 with h0 | ⟨g, cap, cur, rfl, hb, hh, rest⟩
  · exact .inl h0
  · exact .inr ⟨g, cap, cur, rfl, hb, (hk.block g (lt_of_block hh) (hp g rfl)).trans hh, rest⟩
theorem Row2.one (w : World) (base : Nat) (x : Nat × List (List UInt8)) (hb : base ≤ w.heap.size) : Row2 (w.alloc (.cells #[sv x] 33)) base (.slice (some ⟨w.heap.size, 0, none⟩) 1 1) [x] :=
  ⟨by simp, .inr ⟨w.heap.size, 1, _, rfl, hb, heap_alloc_new w _, Nat.le_refl _, by unfold maxLen; omega, by simp, by simp⟩⟩
theorem Row2.at {w : World} {base n cap : Nat} {ao : Option Addr} {Ls : List (Nat × List (List UInt8))} (h : Row2 w base (.slice ao n cap) Ls) (k : Nat) (hk : k < Ls.length) : ∃ g, ao = some ⟨g, 0, none⟩ ∧ n = Ls.length ∧ w.cell? ⟨g, k, none⟩ = some (sv Ls[k]) := by
  rcases h.2 with ⟨hv, h0⟩ | ⟨g, cap', cur, hv, _⟩
  · omega
  · injection hv with e1 e2 e3
    subst e1 e2 e3
    have h' : w.ownsRow base 33 1 (.slice (some ⟨g, 0, none⟩) Ls.length cap) Ls.length (Ls.map sv) := h
    exact ⟨g, rfl, rfl, (h'.cellAt k (by omega)).trans (by simp [hk])⟩
theorem append_row2 (w : World) (ty : TypeId) (base : Nat) (v : Value) (Ls : List (Nat × List (List UInt8))) (h : Row2 w base v Ls) (hb : base ≤ w.heap.size) (G : Nat) (x : Nat × List (List UInt8)) (fr : Nat × Nat) (hG : w.heap[G]? = some (.cells #[sv x] 33 fr)) (hm : Ls.length ≤ 1099511627776) :
    ∃ ao' cap' w', (Builtin.append_ #[51, 51] ty #[v, .slice (some ⟨G, 0, none⟩) 1 1]).run Try.prog w = .ok (.slice ao' (Ls.length + 1) cap') w' ∧ Row2 w' base (.slice ao' (Ls.length + 1) cap') (Ls ++ [x]) ∧ w.grownBy w' v.ownBlock ∧
      ((Value.slice ao' (Ls.length + 1) cap').ownBlock = v.ownBlock ∨ (Value.slice ao' (Ls.length + 1) cap').ownBlock = some w.heap.size) := by
  obtain ⟨i, hi, hz0, hz1, hz2⟩ := info_parts Try.infoTexts
  obtain ⟨v', w', hr, h2, h3, _, h5⟩ := run_append_own_at (P := Try.prog) w base 51 ty 33 i (.slice none 0 0) 1 24 Try.underlying51 hi hz0 hz1 hz2 rfl (by decide) v Ls.length (Ls.map sv) h ⟨G, 0, none⟩ 1 1 ([x].map sv) (by simp) (World.news_of_block (w := w) hG) (sv_one [x]) (by unfold maxLen; omega) (by omega) hb
  obtain ⟨ao', cap', rfl⟩ := own_shape_any h2
  refine ⟨ao', cap', w', hr, ?_, h3, h5⟩
  unfold Row2
  rw [List.map_append, List.length_append]
  exact h2
theorem wpList_append_row2 {w : World} {ops : Array Oper} {rest : List Oper} {o : Oper} {a : Act} {Q : Exit → Act → World → Prop} (hgd : o.guard = none) (sl y : Operand) (ho : o.op = .call { callee := .builtin .append, args := #[sl, y], argTypes := #[51, 51] })
    (base : Nat) (v : Value) (Ls : List (Nat × List (List UInt8))) (hs : a.eval sl = v) (h : Row2 w base v Ls) (hb : base ≤ w.heap.size) (G : Nat) (hy : a.eval y = .slice (some ⟨G, 0, none⟩) 1 1) (x : Nat × List (List UInt8)) (fr : Nat × Nat) (hG : w.heap[G]? = some (.cells #[sv x] 33 fr)) (hm : Ls.length ≤ 1099511627776)
    (hK : ∀ ao' cap' w', Row2 w' base (.slice ao' (Ls.length + 1) cap') (Ls ++ [x]) → w.grownBy w' v.ownBlock → ((Value.slice ao' (Ls.length + 1) cap').ownBlock = v.ownBlock ∨ (Value.slice ao' (Ls.length + 1) cap').ownBlock = some w.heap.size) → wpList Try.prog ops Q rest (a.put o.dst (.slice ao' (Ls.length + 1) cap')) w') : wpList Try.prog ops Q (o :: rest) a w := by
  refine wpList_plain hgd fun K hK' => ?_
  obtain ⟨ao', cap', w', hr, h2, h3, h4⟩ := append_row2 w o.type base v Ls h hb G x fr hG hm
  unfold Oper.wp execOp
  simp only [ho, resolve, invoke, builtin, Sem.run_bind, Sem.run_pure, Result.andThen_ok, List.map_toArray, List.map_cons, List.map_nil, hs, hy, hr]
  exact hK' _ _ (hK ao' cap' w' h2 h3 h4)

/-- The frames behind: each a Reset or an Append. -/
def gfs (F : Nat → Bool) (ss : List (List UInt8)) (k : Nat) : List (Bool × List UInt8) := (List.range k).map fun i => (F i, (ss.getD i []).take 100)
theorem gfs_succ (F : Nat → Bool) (ss : List (List UInt8)) (k : Nat) : gfs F ss (k + 1) = gfs F ss k ++ [(F k, (ss.getD k []).take 100)] := by
  unfold gfs
  rw [List.range_succ, List.map_append]
  rfl
theorem gfs_length (F : Nat → Bool) (ss : List (List UInt8)) (k : Nat) : (gfs F ss k).length = k := by simp [gfs]
theorem gfs_take (F : Nat → Bool) (ss : List (List UInt8)) (k j : Nat) (h : j ≤ k) : (gfs F ss k).take j = gfs F ss j := by
  unfold gfs
  rw [← List.map_take, List.take_range, Nat.min_eq_left h]
theorem gfs_fits (F : Nat → Bool) (ss : List (List UInt8)) (k : Nat) : Fits (gfs F ss k) := by
  intro x hx
  obtain ⟨i, _, rfl⟩ := List.mem_map.1 hx
  rw [List.length_take]
  omega
theorem state_snoc (fs : List (Bool × List UInt8)) (x : Bool × List UInt8) : stateFrom [] (fs ++ [x]) = (if x.1 = true then [] else stateFrom [] fs) ++ [x.2] := by
  unfold stateFrom
  rw [List.foldl_append]
  rfl
/-- What is there behind a crash: the state at some time behind the last Sync. -/
theorem behind_crash (fs0 gs : List (Bool × List UInt8)) (K : Nat) (hf : Fits (fs0 ++ gs)) (hK : (wbytes fs0).length ≤ K) : ∃ j, j ≤ gs.length ∧ scanOf ((wbytes (fs0 ++ gs)).take K) = (stateFrom [] (fs0 ++ gs.take j), (wbytes (fs0 ++ gs.take j)).length) := by
  have h1 : fs0.length ≤ wholeOf (fs0 ++ gs) K := whole_most _ _ _ (by simp) (by rw [List.take_left]; exact hK)
  have h2 := wholeOf_le (fs0 ++ gs) K
  rw [List.length_append] at h2
  refine ⟨wholeOf (fs0 ++ gs) K - fs0.length, by omega, ?_⟩
  rw [scan_torn _ _ hf, List.take_append, List.take_of_length_le h1]

end Go.Proofs.Ytdajaplmigcooaa
