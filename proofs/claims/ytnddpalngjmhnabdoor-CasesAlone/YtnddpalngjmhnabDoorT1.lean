/-
  Texts: strings.Cut at one byte, TrimLeft, Trim, Clone; word, trim, number of package schema.
-/
import Derived.Test.YtnddpalngjmhnabDoorTPlain
import Derived.Test.YtnddpalngjmhnabDoorTLay
import Derived.Test.YtnddpalngjmhnabDoorWStr
import Derived.Laws.ResultCell
namespace Go.Proofs.YtnddpalngjmhnabDoor
open Go.RowKit

theorem index_byte (s : List UInt8) (c : UInt8) : Lib.indexByte s c = if s.any (fun x => x == c) = true then ((s.takeWhile (fun x => x != c)).length : Int) else -1 := by
  induction s with
  | nil => rfl
  | cons x r ih =>
    unfold Lib.indexByte
    by_cases hx : x = c
    · subst hx
      simp
    · have h1 : (x == c) = false := by simpa using hx
      have h2 : (x != c) = true := by simpa using hx
      rw [h1, ih]
      simp only [List.any_cons, h1, Bool.false_or, List.takeWhile_cons, h2, if_true, List.length_cons]
      by_cases h3 : r.any (fun x => x == c) = true
      · rw [if_pos h3, if_pos h3]
        have : ((((r.takeWhile (fun x => x != c)).length : Int)) == -1) = false := by rw [beq_eq_false_iff_ne]; omega
        rw [this]
        simp
      · rw [if_neg h3, if_neg h3]
        simp
theorem cut_hit {s : List UInt8} {c : UInt8} (h : s.any (fun x => x == c) = true) : (s.takeWhile (fun x => x != c)).length + 1 ≤ s.length ∧ s.take (s.takeWhile (fun x => x != c)).length = s.takeWhile (fun x => x != c) ∧ s.drop ((s.takeWhile (fun x => x != c)).length + 1) = (s.dropWhile (fun x => x != c)).drop 1 := by
  have h3 := (cut_len c s).2.2 h
  simp only [cutAt] at h3
  have h0 := List.takeWhile_append_dropWhile (p := fun x => x != c) (l := s)
  refine ⟨by omega, ?_, ?_⟩
  · have h4 : (s.takeWhile (fun x => x != c) ++ s.dropWhile (fun x => x != c)).take (s.takeWhile (fun x => x != c)).length = s.takeWhile (fun x => x != c) := List.take_left ..
    rwa [h0] at h4
  · have h4 : (s.takeWhile (fun x => x != c) ++ s.dropWhile (fun x => x != c)).drop (s.takeWhile (fun x => x != c)).length = s.dropWhile (fun x => x != c) := List.drop_left ..
    rw [h0] at h4
    rw [← List.drop_drop, h4]
theorem cut_miss {s : List UInt8} {c : UInt8} (h : s.any (fun x => x == c) = false) : cutAt c s = (s, [], false) := by
  have h1 : ∀ x ∈ s, (x != c) = true := by
    intro x hx
    have := List.any_eq_false.1 h x hx
    simpa using this
  obtain ⟨e1, e2⟩ : s.takeWhile (fun x => x != c) = s ∧ s.dropWhile (fun x => x != c) = [] := by
    clear h
    induction s with
    | nil => exact ⟨rfl, rfl⟩
    | cons y r ih =>
      obtain ⟨i1, i2⟩ := ih (fun x hx => h1 x (List.mem_cons_of_mem _ hx))
      have hy := h1 y (List.mem_cons_self ..)
      rw [List.takeWhile_cons, List.dropWhile_cons, if_pos hy, if_pos hy, i1, i2]
      exact ⟨rfl, rfl⟩
  simp [cutAt, e1, e2, h]

theorem from_text (s : List UInt8) (k : Nat) (hk : k ≤ s.length) (w0 : World) : (Instr.slice 9 (.string ⟨s.toArray⟩) (some (.int .i64 (k : Int))) none none).run Tryd.prog w0 = .ok (.string ⟨(s.drop k).toArray⟩) w0 := by
  rw [run_slice_string_from_if (P := Tryd.prog) w0 9 ⟨s.toArray⟩ .i64 k Tryd.underlying9, if_pos ⟨by omega, by simp [ByteArray.size]; omega⟩]
  congr 2
  apply ByteArray.ext
  have hz : (⟨s.toArray⟩ : ByteArray).size = s.length := by simp [ByteArray.size]
  simp [hz, List.take_of_length_le]

/-- A guard of one word without a name. -/
theorem evl_word (x : List UInt8) (h : ∀ c ∈ x, c ≠ 32) : (isNum x = true → evl [] [] x = (num x, 0)) ∧ (isNum x = false → (evl [] [] x).1 = 0 ∧ (evl [] [] x).2 ≠ 0) := by
  have hlen : isNum x = true → x.length ≤ 5 := by
    intro hn
    simp only [isNum, Bool.and_eq_true, decide_eq_true_eq] at hn
    have := hn.2
    unfold mag at this
    split at this
    · rw [List.length_tail] at this; omega
    · omega
  by_cases h0 : x = []
  · subst h0
    refine ⟨fun h => by simp [isNum, mag] at h, fun _ => ?_⟩
    decide +kernel
  · have hW : Wo x 0 = [(0, x)] := by
      have := Wo_word (s := x) (q := 0) (e := x.length) (List.length_pos_iff.2 h0) (Nat.le_refl _) (by rw [tex_all]; exact h) (fun h => absurd h (Nat.lt_irrefl _))
      rw [tex_all, Wo_end (Nat.le_refl _)] at this
      exact this
    have hT : tx x = [x] := tx_one x h h0
    refine ⟨fun hn => ?_, fun hn => ?_⟩
    · have hk := (kd_num x).2 hn
      have hr : rf [] x = 0 := by simp [rf, rfk, hk]
      have hc : chk [] x = (0, 0) := by
        have := hlen hn
        rw [chk, if_neg (by omega), chkW, hW]
        simp [lk, hr, hk, ar, times, tailOf]
      rw [evl, hc, hT]
      simp [vl, hk]
    · have hc : (chk [] x).1 ≠ 0 := by
        by_cases hl : 120 < x.length
        · rw [chk, if_pos hl]; simp
        · rw [chk, if_neg hl, chkW, hW]
          have hk := kd_cases x
          have hk2 : kd x ≠ 2 := fun h => by rw [(kd_num x).1 h] at hn; cases hn
          by_cases hr : rf [] x = 0
          · have har : ar (kd x) = 1 ∨ ar (kd x) = 2 := by
              have h1 : kd x ≠ 1 ∧ kd x ≠ 3 := by
                rcases rf_cases [] x with ⟨_, h1⟩ | ⟨_, _, h1⟩ | ⟨h1, h2, _⟩
                · omega
                · omega
                · exact ⟨h1, fun h => by simpa using h2 h⟩
              unfold ar
              split
              · exact .inl rfl
              · rw [if_pos (by omega)]; exact .inr rfl
            rcases har with har | har
            · simp [lk, hr, har, times]
            · simp [lk, hr, har, times]
          · simp [lk, hr]
      rw [evl, if_pos hc]
      exact ⟨rfl, hc⟩
/-- What number answers of a word. -/
def nm (x : List UInt8) : Int := if isNum x = true then num x else 0
end Go.Proofs.YtnddpalngjmhnabDoor

namespace Go.Proofs.YtnddpalngjmhnabDoor
open Go.RowKit

/-- Their cells. -/
def alay (a : At) : List Value := [.string ⟨a.name.toArray⟩, .int .i64 a.start, .int .i64 a.lo, .int .i64 a.hi]
def rlay (r : Ru) : List Value := [.string ⟨r.name.toArray⟩, .string ⟨r.guard.toArray⟩]
def arow (xs : List At) : List Value := xs.flatMap alay
def rrow (xs : List Ru) : List Value := xs.flatMap rlay
theorem flat_length {α : Type} {lay : α → List Value} {sz : Nat} (hl : ∀ x, (lay x).length = sz) (xs : List α) : (xs.flatMap lay).length = xs.length * sz := by
  induction xs with
  | nil => simp
  | cons x xs ih => rw [List.flatMap_cons, List.length_append, ih, hl, List.length_cons, Nat.succ_mul]; omega
theorem flat_get {α : Type} {lay : α → List Value} {sz : Nat} (hl : ∀ x, (lay x).length = sz) : ∀ (xs : List α) (k : Nat) (h : k < xs.length) (j : Nat), j < sz → (xs.flatMap lay)[k * sz + j]? = (lay xs[k])[j]?
  | x :: xs, 0, _, j, hj => by
    rw [List.flatMap_cons, Nat.zero_mul, Nat.zero_add, List.getElem?_append_left (by rw [hl]; exact hj)]
    rfl
  | x :: xs, k + 1, h, j, hj => by
    have := flat_get hl xs k (by simpa using h) j hj
    rw [List.flatMap_cons, Nat.succ_mul, show k * sz + sz + j = sz + (k * sz + j) by omega, List.getElem?_append_right (by rw [hl]; omega), hl, Nat.add_sub_cancel_left, this]
    rfl
theorem flat_one {α : Type} {lay : α → List Value} (h1 : ∀ x, ∀ u ∈ lay x, u.oneCell' = true) (xs : List α) : ∀ u ∈ xs.flatMap lay, u.oneCell' = true := by
  intro u hu
  obtain ⟨x, _, hm⟩ := List.mem_flatMap.1 hu
  exact h1 x u hm
theorem alay_len (x : At) : (alay x).length = 4 := rfl
theorem rlay_len (x : Ru) : (rlay x).length = 2 := rfl
theorem alay_one (x : At) : ∀ u ∈ alay x, u.oneCell' = true := by
  intro u hu
  simp only [alay, List.mem_cons, List.not_mem_nil, or_false] at hu
  rcases hu with rfl | rfl | rfl | rfl <;> rfl
theorem rlay_one (x : Ru) : ∀ u ∈ rlay x, u.oneCell' = true := by
  intro u hu
  simp only [rlay, List.mem_cons, List.not_mem_nil, or_false] at hu
  rcases hu with rfl | rfl <;> rfl

/-- Attributes that are looked at. -/
def Av (w : World) (v : Value) (xs : List At) : Prop :=
  ∃ ao cap, v = .slice ao xs.length cap ∧ xs.length ≤ 281474976710656 ∧ (ao = none → cap = 0) ∧ (0 < xs.length → ∃ b off, ao = some ⟨b, off, none⟩ ∧ b < w.heap.size ∧ ∀ i (h : i < xs.length),
    w.cell? ⟨b, off + i * 4, none⟩ = some (.string ⟨(xs[i]).name.toArray⟩) ∧ w.cell? ⟨b, off + i * 4 + 1, none⟩ = some (.int .i64 (xs[i]).start) ∧ w.cell? ⟨b, off + i * 4 + 2, none⟩ = some (.int .i64 (xs[i]).lo) ∧ w.cell? ⟨b, off + i * 4 + 3, none⟩ = some (.int .i64 (xs[i]).hi))
/-- Stages or marks that are looked at. -/
def Rv (w : World) (v : Value) (xs : List Ru) : Prop :=
  ∃ ao cap, v = .slice ao xs.length cap ∧ xs.length ≤ 281474976710656 ∧ (ao = none → cap = 0) ∧ (0 < xs.length → ∃ b off, ao = some ⟨b, off, none⟩ ∧ b < w.heap.size ∧ ∀ i (h : i < xs.length),
    w.cell? ⟨b, off + i * 2, none⟩ = some (.string ⟨(xs[i]).name.toArray⟩) ∧ w.cell? ⟨b, off + i * 2 + 1, none⟩ = some (.string ⟨(xs[i]).guard.toArray⟩))
theorem Av.all {w w' : World} {v : Value} {xs : List At} (h : Av w v xs) (k : Kept (fun _ => True) w w') : Av w' v xs := by
  obtain ⟨ao, cap, e, hl, hn, h⟩ := h
  refine ⟨ao, cap, e, hl, hn, fun h0 => ?_⟩
  obtain ⟨b, off, e, hb, hc⟩ := h h0
  refine ⟨b, off, e, Nat.lt_of_lt_of_le hb k.size, fun i hi => ?_⟩
  obtain ⟨h1, h2, h3, h4⟩ := hc i hi
  exact ⟨(kept_cell k hb trivial).trans h1, (kept_cell k hb trivial).trans h2, (kept_cell k hb trivial).trans h3, (kept_cell k hb trivial).trans h4⟩
theorem Rv.all {w w' : World} {v : Value} {xs : List Ru} (h : Rv w v xs) (k : Kept (fun _ => True) w w') : Rv w' v xs := by
  obtain ⟨ao, cap, e, hl, hn, h⟩ := h
  refine ⟨ao, cap, e, hl, hn, fun h0 => ?_⟩
  obtain ⟨b, off, e, hb, hc⟩ := h h0
  refine ⟨b, off, e, Nat.lt_of_lt_of_le hb k.size, fun i hi => ?_⟩
  obtain ⟨h1, h2⟩ := hc i hi
  exact ⟨(kept_cell k hb trivial).trans h1, (kept_cell k hb trivial).trans h2⟩
theorem Av.kept {p : Nat → Prop} {w w' : World} {v : Value} {xs : List At} (h : Av w v xs) (k : Kept p w w') (hp : ∀ i, v.ownBlock = some i → p i) : Av w' v xs := by
  obtain ⟨ao, cap, rfl, hl, hn, h⟩ := h
  refine ⟨ao, cap, rfl, hl, hn, fun h0 => ?_⟩
  obtain ⟨b, off, rfl, hb, hc⟩ := h h0
  refine ⟨b, off, rfl, Nat.lt_of_lt_of_le hb k.size, fun i hi => ?_⟩
  have hpb := hp b rfl
  obtain ⟨h1, h2, h3, h4⟩ := hc i hi
  exact ⟨(kept_cell k hb hpb).trans h1, (kept_cell k hb hpb).trans h2, (kept_cell k hb hpb).trans h3, (kept_cell k hb hpb).trans h4⟩
theorem Rv.kept {p : Nat → Prop} {w w' : World} {v : Value} {xs : List Ru} (h : Rv w v xs) (k : Kept p w w') (hp : ∀ i, v.ownBlock = some i → p i) : Rv w' v xs := by
  obtain ⟨ao, cap, rfl, hl, hn, h⟩ := h
  refine ⟨ao, cap, rfl, hl, hn, fun h0 => ?_⟩
  obtain ⟨b, off, rfl, hb, hc⟩ := h h0
  refine ⟨b, off, rfl, Nat.lt_of_lt_of_le hb k.size, fun i hi => ?_⟩
  have hpb := hp b rfl
  obtain ⟨h1, h2⟩ := hc i hi
  exact ⟨(kept_cell k hb hpb).trans h1, (kept_cell k hb hpb).trans h2⟩
theorem Av.nil (w : World) : Av w (.slice none 0 0) [] := ⟨none, 0, rfl, by simp, fun _ => rfl, fun h => by simp at h⟩
theorem Rv.nil (w : World) : Rv w (.slice none 0 0) [] := ⟨none, 0, rfl, by simp, fun _ => rfl, fun h => by simp at h⟩

/-- Rows of one's own, behind 'base'. -/
def Ao (w : World) (base : Nat) (v : Value) (xs : List At) : Prop := w.ownsRow base 48 4 v xs.length (arow xs)
def Ro (w : World) (base : Nat) (v : Value) (xs : List Ru) : Prop := w.ownsRow base 50 2 v xs.length (rrow xs)
theorem Ao.nil (w : World) (base : Nat) : Ao w base (.slice none 0 0) [] := World.ownsRow_nil _ _ _ _
theorem Ro.nil (w : World) (base : Nat) : Ro w base (.slice none 0 0) [] := World.ownsRow_nil _ _ _ _
theorem own_keep {p : Nat → Prop} {w w' : World} {b e sz n : Nat} {v : Value} {xs : List Value} (h : w.ownsRow b e sz v n xs) (hk : Kept p w w') (hp : ∀ k, v.ownBlock = some k → p k) : w'.ownsRow b e sz v n xs := by
  refine ⟨h.1, ?_⟩
  rcases h.2 with h0 | ⟨g, cap, cur, rfl, hb, hh, rest⟩
  · exact .inl h0
  · exact .inr ⟨g, cap, cur, rfl, hb, (hk.block g (lt_of_block hh) (hp g rfl)).trans hh, rest⟩
theorem own_form {w : World} {b e sz n : Nat} {v : Value} {xs : List Value} (h : w.ownsRow b e sz v n xs) : ∃ ao cap, v = .slice ao n cap ∧ n ≤ cap ∧ (ao = none → cap = 0) ∧ (0 < n → ∃ g, ao = some ⟨g, 0, none⟩) := by
  rcases h.2 with ⟨hv, h0⟩ | ⟨g, cap, cur, hv, _, hh, hc, _⟩
  · exact ⟨none, 0, by rw [hv, h0], by omega, fun _ => rfl, fun hp => by omega⟩
  · exact ⟨_, cap, hv, hc, by simp, fun _ => ⟨g, rfl⟩⟩
theorem Ao.view {w : World} {base : Nat} {v : Value} {xs : List At} (h : Ao w base v xs) (hl : xs.length ≤ 281474976710656) : Av w v xs := by
  obtain ⟨ao, cap, rfl, _, hn, hg⟩ := own_form h
  refine ⟨ao, cap, rfl, hl, hn, fun h0 => ?_⟩
  obtain ⟨g, rfl⟩ := hg h0
  have hc : ∀ i (_ : i < xs.length) (j : Nat), j < 4 → w.cell? ⟨g, i * 4 + j, none⟩ = (alay xs[i])[j]? := fun i hi j hj =>
    (World.ownsRow.cellAt h _ (by omega)).trans (flat_get alay_len xs i hi j hj)
  refine ⟨g, 0, rfl, ?_, fun i hi => ?_⟩
  · have := hc 0 h0 0 (by omega)
    exact World.block_lt_of_cell? w _ this
  · simp only [Nat.zero_add]
    exact ⟨hc i hi 0 (by omega), hc i hi 1 (by omega), hc i hi 2 (by omega), hc i hi 3 (by omega)⟩
theorem Ro.view {w : World} {base : Nat} {v : Value} {xs : List Ru} (h : Ro w base v xs) (hl : xs.length ≤ 281474976710656) : Rv w v xs := by
  obtain ⟨ao, cap, rfl, _, hn, hg⟩ := own_form h
  refine ⟨ao, cap, rfl, hl, hn, fun h0 => ?_⟩
  obtain ⟨g, rfl⟩ := hg h0
  have hc : ∀ i (_ : i < xs.length) (j : Nat), j < 2 → w.cell? ⟨g, i * 2 + j, none⟩ = (rlay xs[i])[j]? := fun i hi j hj =>
    (World.ownsRow.cellAt h _ (by omega)).trans (flat_get rlay_len xs i hi j hj)
  refine ⟨g, 0, rfl, ?_, fun i hi => ?_⟩
  · have := hc 0 h0 0 (by omega)
    exact World.block_lt_of_cell? w _ this
  · simp only [Nat.zero_add]
    exact ⟨hc i hi 0 (by omega), hc i hi 1 (by omega)⟩

theorem Tryd.infoAttr : (Tryd.prog.info? 48).map (fun i => (i.zero, i.size, i.bytes)) = some (some (.agg #[.string .empty, .int .i64 0, .int .i64 0, .int .i64 0]), 4, 40) := by kernel_rfl
theorem Tryd.infoRule : (Tryd.prog.info? 50).map (fun i => (i.zero, i.size, i.bytes)) = some (some (.agg #[.string .empty, .string .empty]), 2, 32) := by kernel_rfl
theorem Tryd.sizeAttr : (Tryd.prog.info? 48).map (·.size) = some 4 := by kernel_rfl
theorem Tryd.sizeRule : (Tryd.prog.info? 50).map (·.size) = some 2 := by kernel_rfl
theorem Tryd.sizeType : (Tryd.prog.info? 26).map (·.size) = some 4 := by kernel_rfl
theorem cells_attr : (Value.agg #[.string .empty, .int .i64 0, .int .i64 0, .int .i64 0]).cells.size = 4 := by simp [Value.cells]
theorem cells_rule : (Value.agg #[.string .empty, .string .empty]).cells.size = 2 := by simp [Value.cells]

theorem append_attr (w : World) (ty : TypeId) (base : Nat) (v : Value) (xs : List At) (h : Ao w base v xs) (hb : base ≤ w.heap.size) (G : Nat) (x : At) (fr : Nat × Nat) (hG : w.heap[G]? = some (.cells (alay x).toArray 48 fr)) (hm : xs.length ≤ 1000000) :
    ∃ ao' cap' w', (Builtin.append_ #[23, 23] ty #[v, .slice (some ⟨G, 0, none⟩) 1 1]).run Tryd.prog w = .ok (.slice ao' (xs.length + 1) cap') w' ∧ Ao w' base (.slice ao' (xs.length + 1) cap') (xs ++ [x]) ∧ w.grownBy w' v.ownBlock ∧
      ((Value.slice ao' (xs.length + 1) cap').ownBlock = v.ownBlock ∨ (Value.slice ao' (xs.length + 1) cap').ownBlock = some w.heap.size) := by
  obtain ⟨i, hi, hz0, hz1, hz2⟩ := info_parts Tryd.infoAttr
  have hG' : w.heap[G]? = some (.cells (arow [x]).toArray 48 fr) := by rw [hG]; simp [arow]
  obtain ⟨v', w', hr, h2, h3, _, h5⟩ := run_append_own_at (P := Tryd.prog) w base 23 ty 48 i (.agg #[.string .empty, .int .i64 0, .int .i64 0, .int .i64 0]) 4 40 Tryd.underlying23 hi hz0 hz1 hz2 cells_attr (by decide) v xs.length (arow xs) h ⟨G, 0, none⟩ 1 1 (arow [x]) (by simp [arow, alay]) (World.news_of_block (w := w) hG') (flat_one alay_one [x]) (by unfold maxLen; omega) (by omega) hb
  obtain ⟨ao', cap', rfl, _⟩ := own_form h2
  refine ⟨ao', cap', w', hr, ?_, h3, h5⟩
  unfold Ao
  rw [arow, List.flatMap_append, List.length_append]
  exact h2
theorem append_rule (w : World) (ty : TypeId) (base : Nat) (v : Value) (xs : List Ru) (h : Ro w base v xs) (hb : base ≤ w.heap.size) (G : Nat) (x : Ru) (fr : Nat × Nat) (hG : w.heap[G]? = some (.cells (rlay x).toArray 50 fr)) (hm : xs.length ≤ 1000000) :
    ∃ ao' cap' w', (Builtin.append_ #[24, 24] ty #[v, .slice (some ⟨G, 0, none⟩) 1 1]).run Tryd.prog w = .ok (.slice ao' (xs.length + 1) cap') w' ∧ Ro w' base (.slice ao' (xs.length + 1) cap') (xs ++ [x]) ∧ w.grownBy w' v.ownBlock ∧
      ((Value.slice ao' (xs.length + 1) cap').ownBlock = v.ownBlock ∨ (Value.slice ao' (xs.length + 1) cap').ownBlock = some w.heap.size) := by
  obtain ⟨i, hi, hz0, hz1, hz2⟩ := info_parts Tryd.infoRule
  have hG' : w.heap[G]? = some (.cells (rrow [x]).toArray 50 fr) := by rw [hG]; simp [rrow]
  obtain ⟨v', w', hr, h2, h3, _, h5⟩ := run_append_own_at (P := Tryd.prog) w base 24 ty 50 i (.agg #[.string .empty, .string .empty]) 2 32 Tryd.underlying24 hi hz0 hz1 hz2 cells_rule (by decide) v xs.length (rrow xs) h ⟨G, 0, none⟩ 1 1 (rrow [x]) (by simp [rrow, rlay]) (World.news_of_block (w := w) hG') (flat_one rlay_one [x]) (by unfold maxLen; omega) (by omega) hb
  obtain ⟨ao', cap', rfl, _⟩ := own_form h2
  refine ⟨ao', cap', w', hr, ?_, h3, h5⟩
  unfold Ro
  rw [rrow, List.flatMap_append, List.length_append]
  exact h2
theorem wpList_append_attr {w : World} {ops : Array Oper} {rest : List Oper} {o : Oper} {a : Act} {Q : Exit → Act → World → Prop} (hgd : o.guard = none) (sl y : Operand) (ho : o.op = .call { callee := .builtin .append, args := #[sl, y], argTypes := #[23, 23] })
    (base : Nat) (v : Value) (xs : List At) (hs : a.eval sl = v) (h : Ao w base v xs) (hb : base ≤ w.heap.size) (G : Nat) (hy : a.eval y = .slice (some ⟨G, 0, none⟩) 1 1) (x : At) (fr : Nat × Nat) (hG : w.heap[G]? = some (.cells (alay x).toArray 48 fr)) (hm : xs.length ≤ 1000000)
    (hK : ∀ ao' cap' w', Ao w' base (.slice ao' (xs.length + 1) cap') (xs ++ [x]) → w.grownBy w' v.ownBlock → ((Value.slice ao' (xs.length + 1) cap').ownBlock = v.ownBlock ∨ (Value.slice ao' (xs.length + 1) cap').ownBlock = some w.heap.size) → wpList Tryd.prog ops Q rest (a.put o.dst (.slice ao' (xs.length + 1) cap')) w') : wpList Tryd.prog ops Q (o :: rest) a w := by
  refine wpList_plain hgd fun K hK' => ?_
  obtain ⟨ao', cap', w', hr, h2, h3, h4⟩ := append_attr w o.type base v xs h hb G x fr hG hm
  unfold Oper.wp execOp
  simp only [ho, resolve, invoke, builtin, Sem.run_bind, Sem.run_pure, Result.andThen_ok, List.map_toArray, List.map_cons, List.map_nil, hs, hy, hr]
  exact hK' _ _ (hK ao' cap' w' h2 h3 h4)
theorem wpList_append_rule {w : World} {ops : Array Oper} {rest : List Oper} {o : Oper} {a : Act} {Q : Exit → Act → World → Prop} (hgd : o.guard = none) (sl y : Operand) (ho : o.op = .call { callee := .builtin .append, args := #[sl, y], argTypes := #[24, 24] })
    (base : Nat) (v : Value) (xs : List Ru) (hs : a.eval sl = v) (h : Ro w base v xs) (hb : base ≤ w.heap.size) (G : Nat) (hy : a.eval y = .slice (some ⟨G, 0, none⟩) 1 1) (x : Ru) (fr : Nat × Nat) (hG : w.heap[G]? = some (.cells (rlay x).toArray 50 fr)) (hm : xs.length ≤ 1000000)
    (hK : ∀ ao' cap' w', Ro w' base (.slice ao' (xs.length + 1) cap') (xs ++ [x]) → w.grownBy w' v.ownBlock → ((Value.slice ao' (xs.length + 1) cap').ownBlock = v.ownBlock ∨ (Value.slice ao' (xs.length + 1) cap').ownBlock = some w.heap.size) → wpList Tryd.prog ops Q rest (a.put o.dst (.slice ao' (xs.length + 1) cap')) w') : wpList Tryd.prog ops Q (o :: rest) a w := by
  refine wpList_plain hgd fun K hK' => ?_
  obtain ⟨ao', cap', w', hr, h2, h3, h4⟩ := append_rule w o.type base v xs h hb G x fr hG hm
  unfold Oper.wp execOp
  simp only [ho, resolve, invoke, builtin, Sem.run_bind, Sem.run_pure, Result.andThen_ok, List.map_toArray, List.map_cons, List.map_nil, hs, hy, hr]
  exact hK' _ _ (hK ao' cap' w' h2 h3 h4)

/-- Results, the first of which lies in a variable of a struct's type. -/
theorem results_pair {fn : Func} {p u : Nat} {ty : TypeId} (h : fn.results = #[.cell p ty, .tmp u]) (tmps : Array Value) (w : World) {g : Nat} {v : Value} (hp : tmps.getD p undef = .pointer (some ⟨g, 0, none⟩)) (hl : (loadVar ty ⟨g, 0, none⟩).run Tryd.prog w = .ok v w) :
    (results fn tmps).run Tryd.prog w = .ok (.tuple #[v, tmps.getD u undef]) w := by
  rw [results_cell_tmp h, hp]
  simp [asAddr, Result.andThen, hl]
theorem load_attr {w : World} {g : Nat} {cs : Array Value} {t : TypeId} {fr : Nat × Nat} (hg : w.heap[g]? = some (.cells cs t fr)) (hc : cs.size = 4) : (loadVar 48 ⟨g, 0, none⟩).run Tryd.prog w = .ok (.agg cs) w :=
  run_loadVar_row w g t 48 cs fr _ hg Tryd.underlying48 rfl (by rw [hc]; exact Tryd.sizeAttr)
theorem load_rule {w : World} {g : Nat} {cs : Array Value} {t : TypeId} {fr : Nat × Nat} (hg : w.heap[g]? = some (.cells cs t fr)) (hc : cs.size = 2) : (loadVar 50 ⟨g, 0, none⟩).run Tryd.prog w = .ok (.agg cs) w :=
  run_loadVar_row w g t 50 cs fr _ hg Tryd.underlying50 rfl (by rw [hc]; exact Tryd.sizeRule)
theorem load_type {w : World} {g : Nat} {cs : Array Value} {t : TypeId} {fr : Nat × Nat} (hg : w.heap[g]? = some (.cells cs t fr)) (hc : cs.size = 4) : (loadVar 26 ⟨g, 0, none⟩).run Tryd.prog w = .ok (.agg cs) w :=
  run_loadVar_row w g t 26 cs fr _ hg Tryd.underlying26 rfl (by rw [hc]; exact Tryd.sizeType)
theorem set_cell {w : World} {b : Nat} {cs : Array Value} {t : TypeId} {fr : Nat × Nat} (h : w.heap[b]? = some (.cells cs t fr)) (k : Nat) (u : Value) : (w.setCell ⟨b, k, none⟩ u).heap[b]? = some (.cells (cs.setIfInBounds k u) t fr) := by
  have hlt := lt_of_block h
  have h' : w.heap[b] = .cells cs t fr := by simpa [Array.getElem?_eq_getElem hlt] using h
  show (w.heap.modify b _)[b]? = _
  rw [Array.getElem?_eq_getElem (by simpa using hlt), Array.getElem_modify_self, h']
  rfl
theorem Kept.setNew {p : Nat → Prop} {a w : World} (h : Kept p a w) {ad : Addr} (hp : a.heap.size ≤ ad.block) (u : Value) : Kept p a (w.setCell ad u) :=
  ⟨h.os, h.tape, h.output, by simpa [World.setCell] using h.size, fun k hk hpk => (Below.heap_setCell _ _ _ _ (by omega)).trans (h.block k hk hpk)⟩
theorem four_cell {w : World} {b : Nat} {x y z u : Value} {t : TypeId} (h : w.heap[b]? = some (.cells #[x, y, z, u] t (0, 0))) :
    (w.cell? ⟨b, 0, none⟩ = some x ∧ w.cell? ⟨b, 1, none⟩ = some y ∧ w.cell? ⟨b, 2, none⟩ = some z ∧ w.cell? ⟨b, 3, none⟩ = some u) ∧ (w.frozen? ⟨b, 0, none⟩ = false ∧ w.frozen? ⟨b, 1, none⟩ = false ∧ w.frozen? ⟨b, 2, none⟩ = false ∧ w.frozen? ⟨b, 3, none⟩ = false) :=
  ⟨⟨by simp [World.cell?, h], by simp [World.cell?, h], by simp [World.cell?, h], by simp [World.cell?, h]⟩, by simp [World.frozen?, h], by simp [World.frozen?, h], by simp [World.frozen?, h], by simp [World.frozen?, h]⟩
theorem pair_cell {w : World} {b : Nat} {x y : Value} {t : TypeId} (h : w.heap[b]? = some (.cells #[x, y] t (0, 0))) :
    (w.cell? ⟨b, 0, none⟩ = some x ∧ w.cell? ⟨b, 1, none⟩ = some y) ∧ (w.frozen? ⟨b, 0, none⟩ = false ∧ w.frozen? ⟨b, 1, none⟩ = false) :=
  ⟨⟨by simp [World.cell?, h], by simp [World.cell?, h]⟩, by simp [World.frozen?, h], by simp [World.frozen?, h]⟩

def At.none : At := ⟨[], 0, 0, 0⟩
def Ru.none : Ru := ⟨[], []⟩
/-- A number word that is none: what stands behind it does not matter. -/
theorem rdA_none1 {s : List UInt8} (h : isNum (wrd (wrd s).2).1 = false) : rdA s = none := by
  unfold rdA
  rw [if_neg (fun h' => by rw [h'.1] at h; cases h)]
theorem rdA_none2 {s : List UInt8} (h : isNum (wrd (wrd (wrd s).2).2).1 = false) : rdA s = none := by
  unfold rdA
  rw [if_neg (fun h' => by rw [h'.2.1] at h; cases h)]
theorem rdA_none3 {s : List UInt8} (h : isNum (wrd (wrd (wrd (wrd s).2).2).2).1 = false) : rdA s = none := by
  unfold rdA
  rw [if_neg (fun h' => by rw [h'.2.2.1] at h; cases h)]
theorem rdA_none4 {s : List UInt8} (h : ¬ (wrd (wrd (wrd (wrd s).2).2).2).2 = []) : rdA s = none := by
  unfold rdA
  rw [if_neg (fun h' => h h'.2.2.2)]
theorem rdA_some {s : List UInt8} (h1 : isNum (wrd (wrd s).2).1 = true) (h2 : isNum (wrd (wrd (wrd s).2).2).1 = true) (h3 : isNum (wrd (wrd (wrd (wrd s).2).2).2).1 = true) (h4 : (wrd (wrd (wrd (wrd s).2).2).2).2 = []) :
    rdA s = some ⟨(wrd s).1, nm (wrd (wrd s).2).1, nm (wrd (wrd (wrd s).2).2).1, nm (wrd (wrd (wrd (wrd s).2).2).2).1⟩ := by
  unfold rdA nm
  rw [if_pos ⟨h1, h2, h3, h4⟩, if_pos h1, if_pos h2, if_pos h3]
/-- What keep leaves. -/
structure Put (w w' : World) (base : Nat) (v v' : Value) : Prop where
  kept : Kept (fun k => v.ownBlock ≠ some k) w w'
  row : ∀ k, v'.ownBlock = some k → v.ownBlock = some k ∨ w.heap.size ≤ k
end Go.Proofs.YtnddpalngjmhnabDoor

namespace Go.Proofs.YtnddpalngjmhnabDoor
open Go.RowKit

/-- A type that is looked at. -/
def TyV (w : World) (v : Value) (t : Ty) : Prop := ∃ va vs vm, v = .agg #[.string ⟨t.name.toArray⟩, va, vs, vm] ∧ Av w va t.attrs ∧ Rv w vs t.stages ∧ Rv w vm t.marks
theorem TyV.all {w w' : World} {v : Value} {t : Ty} (h : TyV w v t) (k : Kept (fun _ => True) w w') : TyV w' v t := by
  obtain ⟨va, vs, vm, e, h1, h2, h3⟩ := h
  exact ⟨va, vs, vm, e, h1.all k, h2.all k, h3.all k⟩
theorem TyV.none (w : World) : TyV w (.agg #[.string ⟨#[]⟩, .slice none 0 0, .slice none 0 0, .slice none 0 0]) Ty.none := ⟨_, _, _, rfl, Av.nil w, Rv.nil w, Rv.nil w⟩

/-- Four blocks that were made one behind the other. -/
theorem alloc_four (w : World) (a b c d : Obj) : ((((w.alloc a).alloc b).alloc c).alloc d).heap[w.heap.size]? = some a ∧ ((((w.alloc a).alloc b).alloc c).alloc d).heap[w.heap.size + 1]? = some b ∧ ((((w.alloc a).alloc b).alloc c).alloc d).heap[w.heap.size + 2]? = some c ∧ ((((w.alloc a).alloc b).alloc c).alloc d).heap[w.heap.size + 3]? = some d := by
  have e1 : (w.alloc a).heap.size = w.heap.size + 1 := by simp
  have e2 : ((w.alloc a).alloc b).heap.size = w.heap.size + 2 := by simp
  have e3 : (((w.alloc a).alloc b).alloc c).heap.size = w.heap.size + 3 := by simp
  refine ⟨?_, ?_, ?_, ?_⟩
  · rw [heap_alloc_old _ _ (by omega), heap_alloc_old _ _ (by omega), heap_alloc_old _ _ (by omega)]
    exact heap_alloc_new w a
  · rw [heap_alloc_old _ _ (by omega), heap_alloc_old _ _ (by omega), ← e1]
    exact heap_alloc_new _ b
  · rw [heap_alloc_old _ _ (by omega), ← e2]
    exact heap_alloc_new _ c
  · rw [← e3]
    exact heap_alloc_new _ d

end Go.Proofs.YtnddpalngjmhnabDoor

namespace Go.Proofs.YtnddpalngjmhnabDoor
open Go.RowKit

theorem Av.at {w : World} {ao : Option Addr} {n cap : Nat} {xs : List At} (h : Av w (.slice ao n cap) xs) (i : Nat) (hi : i < xs.length) : ∃ b off, ao = some ⟨b, off, none⟩ ∧ b < w.heap.size ∧
    w.cell? ⟨b, off + i * 4, none⟩ = some (.string ⟨(xs[i]).name.toArray⟩) ∧ w.cell? ⟨b, off + i * 4 + 1, none⟩ = some (.int .i64 (xs[i]).start) ∧ w.cell? ⟨b, off + i * 4 + 2, none⟩ = some (.int .i64 (xs[i]).lo) ∧ w.cell? ⟨b, off + i * 4 + 3, none⟩ = some (.int .i64 (xs[i]).hi) := by
  obtain ⟨ao', cap', e, hl, hn, h⟩ := h
  cases e
  obtain ⟨b, off, e, hb, hc⟩ := h (by omega)
  exact ⟨b, off, e, hb, hc i hi⟩
theorem Rv.at {w : World} {ao : Option Addr} {n cap : Nat} {xs : List Ru} (h : Rv w (.slice ao n cap) xs) (i : Nat) (hi : i < xs.length) : ∃ b off, ao = some ⟨b, off, none⟩ ∧ b < w.heap.size ∧
    w.cell? ⟨b, off + i * 2, none⟩ = some (.string ⟨(xs[i]).name.toArray⟩) ∧ w.cell? ⟨b, off + i * 2 + 1, none⟩ = some (.string ⟨(xs[i]).guard.toArray⟩) := by
  obtain ⟨ao', cap', e, hl, hn, h⟩ := h
  cases e
  obtain ⟨b, off, e, hb, hc⟩ := h (by omega)
  exact ⟨b, off, e, hb, hc i hi⟩
/-- The slice's own parts. -/
theorem Av.form {w : World} {v : Value} {xs : List At} (h : Av w v xs) : ∃ ao cap, v = .slice ao xs.length cap ∧ xs.length ≤ 281474976710656 := by
  obtain ⟨ao, cap, e, hl, _⟩ := h
  exact ⟨ao, cap, e, hl⟩
theorem Rv.form {w : World} {v : Value} {xs : List Ru} (h : Rv w v xs) : ∃ ao cap, v = .slice ao xs.length cap ∧ xs.length ≤ 281474976710656 := by
  obtain ⟨ao, cap, e, hl, _⟩ := h
  exact ⟨ao, cap, e, hl⟩
theorem TyV.parts {w : World} {v : Value} {t : Ty} (h : TyV w v t) : ∃ ao an ac so sn sc mo mn mc, v = .agg #[.string ⟨t.name.toArray⟩, .slice ao an ac, .slice so sn sc, .slice mo mn mc] := by
  obtain ⟨va, vs, vm, rfl, h1, h2, h3⟩ := h
  obtain ⟨ao, ac, rfl, _⟩ := h1.form
  obtain ⟨so, sc, rfl, _⟩ := h2.form
  obtain ⟨mo, mc, rfl, _⟩ := h3.form
  exact ⟨_, _, _, _, _, _, _, _, _, rfl⟩
theorem map_take_succ {α β : Type} (f : α → β) (l : List α) (i : Nat) (h : i < l.length) : (l.take (i + 1)).map f = (l.take i).map f ++ [f l[i]] := by
  rw [List.take_succ_eq_append_getElem h, List.map_append]
  rfl

theorem ownsRow_low {w : World} {b b' e sz n : Nat} {v : Value} {xs : List Value} (h : w.ownsRow b e sz v n xs) (hb : b' ≤ b) : w.ownsRow b' e sz v n xs := by
  refine ⟨h.1, ?_⟩
  rcases h.2 with h0 | ⟨g, cap, cur, rfl, hg, rest⟩
  · exact .inl h0
  · exact .inr ⟨g, cap, cur, rfl, by omega, rest⟩

set_option maxRecDepth 100000 in
set_option maxHeartbeats 8000000 in
theorem names_any {w : World} {v : Value} {t : Ty} (h : TyV w v t) (hm : (nms t).length ≤ 100000000) :
    Calls Tryd.prog 36 #[v] w fun e w' => ∃ v', e = .returned v' ∧ Txs w' w.heap.size v' (nms t) ∧ Kept (fun _ => True) w w' := by
  obtain ⟨va, vs, vm, rfl, ha, hs, hk⟩ := h
  obtain ⟨ao, ac, rfl, la⟩ := ha.form
  obtain ⟨so, sc, rfl, ls⟩ := hs.form
  obtain ⟨mo, mc, rfl, lm⟩ := hk.form
  have hnl : (nms t).length = t.attrs.length + t.stages.length + t.marks.length := by simp [nms]; omega
  rw [hnl] at hm
  have k0 : Kept (fun _ => True) w (w.alloc (.cells #[.string ⟨t.name.toArray⟩, .slice ao t.attrs.length ac, .slice so t.stages.length sc, .slice mo t.marks.length mc] 26)) := (Kept.refl _ _).alloc _
  have hX := heap_alloc_new w (.cells #[.string ⟨t.name.toArray⟩, .slice ao t.attrs.length ac, .slice so t.stages.length sc, .slice mo t.marks.length mc] 26)
  replace ha := ha.all k0
  replace hs := hs.all k0
  replace hk := hk.all k0
  have hsz : w.heap.size ≤ (w.alloc (.cells #[.string ⟨t.name.toArray⟩, .slice ao t.attrs.length ac, .slice so t.stages.length sc, .slice mo t.marks.length mc] 26)).heap.size := k0.size
  obtain ⟨⟨z0, z1, z2, z3⟩, _⟩ := four_cell hX
  clear hnl
  go_enter Tryd.func36, Tryd.ntmps36
  go_wp2_with fail
  generalize w.alloc (.cells #[.string ⟨t.name.toArray⟩, .slice ao t.attrs.length ac, .slice so t.stages.length sc, .slice mo t.marks.length mc] 26) = w1 at *
  obtain ⟨B, hB⟩ : ∃ B, B = w.heap.size := ⟨_, rfl⟩
  have HBw : Hid (w.heap.size ≤ B) := Nat.le_of_eq hB.symm
  rw [← hB] at hX z0 z1 z2 z3 ⊢
  have HB : Hid (B = w.heap.size) := hB
  have K0 : Hid (Kept (fun _ => True) w w1) := k0
  have HSZ : Hid (w.heap.size ≤ w1.heap.size) := hsz
  have HA : Hid (Av w1 (.slice ao t.attrs.length ac) t.attrs) := ha
  have HS : Hid (Rv w1 (.slice so t.stages.length sc) t.stages) := hs
  have HM : Hid (Rv w1 (.slice mo t.marks.length mc) t.marks) := hk
  have HX : Hid (w1.heap[B]? = some (.cells #[.string ⟨t.name.toArray⟩, .slice ao t.attrs.length ac, .slice so t.stages.length sc, .slice mo t.marks.length mc] 26 (0, 0))) := hX
  clear hB ha hs hk hX k0 hsz
  go_loopw [3, 5, 13] (fun t3 _ ti wr => ∃ i : Nat, i ≤ t.attrs.length ∧ ti = .int .i64 i ∧ Txs wr w1.heap.size t3 ((t.attrs.take i).map At.name) ∧ Kept (fun _ => True) w1 wr) (fun _ _ ti _ => t.attrs.length - (intOf ti).toNat)
  case atStart => exact ⟨0, Nat.zero_le _, rfl, Txs.nil _ _, Kept.refl _ _⟩
  case round =>
    obtain ⟨i, hi, rfl, hT, hk⟩ := hrel
    obtain ⟨to, tc, rfl, _, _⟩ := hT.shape
    have hln : ((t.attrs.take i).map At.name).length ≤ 100000000 := by simp only [List.length_map, List.length_take]; omega
    have HLN : Hid _ := hln
    have HT : Hid (Txs wr w1.heap.size (.slice to ((t.attrs.take i).map At.name).length tc) ((t.attrs.take i).map At.name)) := hT
    have HKr : Hid (Kept (fun _ => True) w1 wr) := hk
    clear hT hk hln
    by_cases hlt : i < t.attrs.length
    · obtain ⟨b, off, rfl, hb, hc0, hc1, hc2, hc3⟩ := (HA.out.all HKr.out).at i hlt
      have HST : Hid ((t.attrs.take (i + 1)).map At.name = (t.attrs.take i).map At.name ++ [(t.attrs[i]).name]) := map_take_succ _ _ _ hlt
      have i1 : (i : Int) < (t.attrs.length : Int) := by omega
      have i0 : (0 : Int) ≤ (i : Int) := by omega
      generalize t.attrs[i] = x at *
      have HK4 : Hid (Kept (fun _ => True) wr (wr.alloc (.cells #[Value.string ⟨x.name.toArray⟩, Value.int .i64 x.start, Value.int .i64 x.lo, Value.int .i64 x.hi] 48))) := (Kept.refl _ _).alloc _
      have HNB : Hid (∀ o : Obj, ((wr.alloc (.cells #[Value.string ⟨x.name.toArray⟩, Value.int .i64 x.start, Value.int .i64 x.lo, Value.int .i64 x.hi] 48)).alloc o).heap[wr.heap.size + 1]? = some o) := fun o => heap_alloc2_new wr _ o
      generalize hNs : ((t.attrs.take i).map At.name) = ns at *
      have HNS : Hid _ := hNs
      clear hNs
      go_wp2_with (at_builtin; refine wpList_append_text rfl (.tmp 17) (.tmp 20) rfl w1.heap.size (.slice to ns.length tc) ns rfl (HT.out.kept (p := fun _ => True) (HK4.out.alloc _) (fun _ _ => trivial)) (by have h1 := HKr.out.size; have h2 := (HK4.out.alloc (.cells #[.string ⟨x.name.toArray⟩] 9)).size; omega) (wr.heap.size + 1) rfl x.name (0, 0) (HNB.out _) (by have := HLN.out; omega) ?_; intro ao' cap' w' hW hG hO; have HW : Hid _ := hW; have HGr : Hid _ := hG; clear hW hG hO)
      go_roundw
      case rel =>
        refine ⟨i + 1, by omega, by go_num, ?_, ?_⟩
        · rw [HST.out]
          exact HW.out
        · exact ((HKr.out.trans HK4.out).alloc _).grown HGr.out (fun k hk e => by have := (World.ownsRow.lt HT.out k e).1; omega)
      case measure => simp [intOf]; omega
    · have i1 : ¬ (i : Int) < (t.attrs.length : Int) := by omega
      have hie : i = t.attrs.length := by omega
      have hX2 := (HKr.out.block B (lt_of_block HX.out) trivial).trans HX.out
      obtain ⟨⟨y0, y1, y2, y3⟩, _⟩ := four_cell hX2
      have HT2 : Hid (Txs wr w1.heap.size (.slice to ((t.attrs.take i).map At.name).length tc) (t.attrs.map At.name)) := by
        have := HT.out
        rw [hie] at this ⊢
        rw [List.take_length] at this ⊢
        exact this
      generalize ((t.attrs.take i).map At.name).length = tl at *
      clear hX2 HT hie hlt
      go_wp2_with fail
      go_loopw [3, 7, 26] (fun t3 _ ti wr => ∃ i : Nat, i ≤ t.stages.length ∧ ti = .int .i64 i ∧ Txs wr w1.heap.size t3 (t.attrs.map At.name ++ (t.stages.take i).map Ru.name) ∧ Kept (fun _ => True) w1 wr) (fun _ _ ti _ => t.stages.length - (intOf ti).toNat)
      case atStart => exact ⟨0, Nat.zero_le _, rfl, by simpa using HT2.out, HKr.out⟩
      case round =>
        obtain ⟨i, hi, rfl, hT, hk⟩ := hrel
        obtain ⟨to, tc, rfl, _, _⟩ := hT.shape
        have hln : (t.attrs.map At.name ++ (t.stages.take i).map Ru.name).length ≤ 100000000 := by simp only [List.length_append, List.length_map, List.length_take]; omega
        have HLN : Hid _ := hln
        have HT : Hid (Txs wr w1.heap.size (.slice to (t.attrs.map At.name ++ (t.stages.take i).map Ru.name).length tc) (t.attrs.map At.name ++ (t.stages.take i).map Ru.name)) := hT
        have HKr : Hid (Kept (fun _ => True) w1 wr) := hk
        clear hT hk hln
        by_cases hlt : i < t.stages.length
        · obtain ⟨b, off, rfl, hb, hc0, hc1⟩ := (HS.out.all HKr.out).at i hlt
          have HST : Hid ((t.stages.take (i + 1)).map Ru.name = (t.stages.take i).map Ru.name ++ [(t.stages[i]).name]) := map_take_succ _ _ _ hlt
          have i1 : (i : Int) < (t.stages.length : Int) := by omega
          have i0 : (0 : Int) ≤ (i : Int) := by omega
          generalize t.stages[i] = x at *
          have HK4 : Hid (Kept (fun _ => True) wr (wr.alloc (.cells #[Value.string ⟨x.name.toArray⟩, Value.string ⟨x.guard.toArray⟩] 50))) := (Kept.refl _ _).alloc _
          have HNB : Hid (∀ o : Obj, ((wr.alloc (.cells #[Value.string ⟨x.name.toArray⟩, Value.string ⟨x.guard.toArray⟩] 50)).alloc o).heap[wr.heap.size + 1]? = some o) := fun o => heap_alloc2_new wr _ o
          generalize hNs : (t.attrs.map At.name ++ (t.stages.take i).map Ru.name) = ns at *
          have HNS : Hid _ := hNs
          clear hNs
          go_wp2_with (at_builtin; refine wpList_append_text rfl (.tmp 30) (.tmp 33) rfl w1.heap.size (.slice to ns.length tc) ns rfl (HT.out.kept (p := fun _ => True) (HK4.out.alloc _) (fun _ _ => trivial)) (by have h1 := HKr.out.size; have h2 := (HK4.out.alloc (.cells #[.string ⟨x.name.toArray⟩] 9)).size; omega) (wr.heap.size + 1) rfl x.name (0, 0) (HNB.out _) (by have := HLN.out; omega) ?_; intro ao' cap' w' hW hG hO; have HW : Hid _ := hW; have HGr : Hid _ := hG; clear hW hG hO)
          go_roundw
          case rel =>
            refine ⟨i + 1, by omega, by go_num, ?_, ?_⟩
            · rw [HST.out, ← List.append_assoc, HNS.out]
              exact HW.out
            · exact ((HKr.out.trans HK4.out).alloc _).grown HGr.out (fun k hk e => by have := (World.ownsRow.lt HT.out k e).1; omega)
          case measure => simp [intOf]; omega
        · have i1 : ¬ (i : Int) < (t.stages.length : Int) := by omega
          have hie : i = t.stages.length := by omega
          have hX2 := (HKr.out.block B (lt_of_block HX.out) trivial).trans HX.out
          obtain ⟨⟨y0, y1, y2, y3⟩, _⟩ := four_cell hX2
          have HT2 : Hid (Txs wr w1.heap.size (.slice to (t.attrs.map At.name ++ (t.stages.take i).map Ru.name).length tc) (t.attrs.map At.name ++ t.stages.map Ru.name)) := by
            have := HT.out
            rw [hie] at this ⊢
            rw [List.take_length] at this ⊢
            exact this
          generalize (t.attrs.map At.name ++ (t.stages.take i).map Ru.name).length = tl at *
          clear hX2 HT hie hlt
          go_wp2_with fail
          go_loopw [3, 9, 39] (fun t3 _ ti wr => ∃ i : Nat, i ≤ t.marks.length ∧ ti = .int .i64 i ∧ Txs wr w1.heap.size t3 (t.attrs.map At.name ++ t.stages.map Ru.name ++ (t.marks.take i).map Ru.name) ∧ Kept (fun _ => True) w1 wr) (fun _ _ ti _ => t.marks.length - (intOf ti).toNat)
          case atStart => exact ⟨0, Nat.zero_le _, rfl, by simpa using HT2.out, HKr.out⟩
          case round =>
            obtain ⟨i, hi, rfl, hT, hk⟩ := hrel
            obtain ⟨to, tc, rfl, _, _⟩ := hT.shape
            have hln : (t.attrs.map At.name ++ t.stages.map Ru.name ++ (t.marks.take i).map Ru.name).length ≤ 100000000 := by simp only [List.length_append, List.length_map, List.length_take]; omega
            have HLN : Hid _ := hln
            have HT : Hid (Txs wr w1.heap.size (.slice to (t.attrs.map At.name ++ t.stages.map Ru.name ++ (t.marks.take i).map Ru.name).length tc) (t.attrs.map At.name ++ t.stages.map Ru.name ++ (t.marks.take i).map Ru.name)) := hT
            have HKr : Hid (Kept (fun _ => True) w1 wr) := hk
            clear hT hk hln
            by_cases hlt : i < t.marks.length
            · obtain ⟨b, off, rfl, hb, hc0, hc1⟩ := (HM.out.all HKr.out).at i hlt
              have HST : Hid ((t.marks.take (i + 1)).map Ru.name = (t.marks.take i).map Ru.name ++ [(t.marks[i]).name]) := map_take_succ _ _ _ hlt
              have i1 : (i : Int) < (t.marks.length : Int) := by omega
              have i0 : (0 : Int) ≤ (i : Int) := by omega
              generalize t.marks[i] = x at *
              have HK4 : Hid (Kept (fun _ => True) wr (wr.alloc (.cells #[Value.string ⟨x.name.toArray⟩, Value.string ⟨x.guard.toArray⟩] 50))) := (Kept.refl _ _).alloc _
              have HNB : Hid (∀ o : Obj, ((wr.alloc (.cells #[Value.string ⟨x.name.toArray⟩, Value.string ⟨x.guard.toArray⟩] 50)).alloc o).heap[wr.heap.size + 1]? = some o) := fun o => heap_alloc2_new wr _ o
              generalize hNs : (t.attrs.map At.name ++ t.stages.map Ru.name ++ (t.marks.take i).map Ru.name) = ns at *
              have HNS : Hid _ := hNs
              clear hNs
              go_wp2_with (at_builtin; refine wpList_append_text rfl (.tmp 43) (.tmp 46) rfl w1.heap.size (.slice to ns.length tc) ns rfl (HT.out.kept (p := fun _ => True) (HK4.out.alloc _) (fun _ _ => trivial)) (by have h1 := HKr.out.size; have h2 := (HK4.out.alloc (.cells #[.string ⟨x.name.toArray⟩] 9)).size; omega) (wr.heap.size + 1) rfl x.name (0, 0) (HNB.out _) (by have := HLN.out; omega) ?_; intro ao' cap' w' hW hG hO; have HW : Hid _ := hW; have HGr : Hid _ := hG; clear hW hG hO)
              go_roundw
              case rel =>
                refine ⟨i + 1, by omega, by go_num, ?_, ?_⟩
                · rw [HST.out, ← List.append_assoc, HNS.out]
                  exact HW.out
                · exact ((HKr.out.trans HK4.out).alloc _).grown HGr.out (fun k hk e => by have := (World.ownsRow.lt HT.out k e).1; omega)
              case measure => simp [intOf]; omega
            · have i1 : ¬ (i : Int) < (t.marks.length : Int) := by omega
              have hie : i = t.marks.length := by omega
              have hX2 := (HKr.out.block B (lt_of_block HX.out) trivial).trans HX.out
              obtain ⟨⟨y0, y1, y2, y3⟩, _⟩ := four_cell hX2
              have HT2 : Hid (Txs wr w1.heap.size (.slice to (t.attrs.map At.name ++ t.stages.map Ru.name ++ (t.marks.take i).map Ru.name).length tc) (t.attrs.map At.name ++ t.stages.map Ru.name ++ t.marks.map Ru.name)) := by
                have := HT.out
                rw [hie] at this ⊢
                rw [List.take_length] at this ⊢
                exact this
              generalize (t.attrs.map At.name ++ t.stages.map Ru.name ++ (t.marks.take i).map Ru.name).length = tl at *
              clear hX2 HT hie hlt
              go_wp2_with fail
              go_ret
              refine ⟨.slice to tl tc, rfl, ?_, K0.out.trans HKr.out⟩
              exact ownsRow_low HT2.out HSZ.out

end Go.Proofs.YtnddpalngjmhnabDoor
