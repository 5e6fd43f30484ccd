/-
  What read knows on its way, plainly.
-/
import Derived.Test.YtnddpalngjmhnabDoorSB
import Derived.Lib.SmallJoins
import Derived.Laws.DeepStrings4
namespace Go.Proofs.YtnddpalngjmhnabDoor
open Go.RowKit

/-- The first word from p on lies from q up to e. -/
structure At1 (s : List UInt8) (p q e : Nat) : Prop where
  ahead : p ≤ q
  some : q < e
  within : e ≤ s.length
  whole : ∀ c ∈ tex s q e, c ≠ 32
  ends : ∀ h : e < s.length, s[e] = 32
  words : Wo s p = (q, tex s q e) :: Wo s e

theorem word_end (s : List UInt8) (q : Nat) (hq : q ≤ s.length) : ∃ e, q ≤ e ∧ e ≤ s.length ∧ (∀ c ∈ tex s q e, c ≠ 32) ∧ ∀ h : e < s.length, s[e] = 32 := by
  obtain ⟨k, hk⟩ : ∃ k, s.length - q = k := ⟨_, rfl⟩
  induction k generalizing q with
  | zero => exact ⟨q, Nat.le_refl _, hq, by simp [tex_self], fun h => by omega⟩
  | succ k ih =>
    by_cases hc : s[q]'(by omega) = 32
    · exact ⟨q, Nat.le_refl _, hq, by simp [tex_self], fun _ => hc⟩
    · obtain ⟨e, h1, h2, h3, h4⟩ := ih (q + 1) (by omega) (by omega)
      refine ⟨e, by omega, h2, ?_, h4⟩
      rw [tex_cons (by omega) h2]
      intro c hm
      rcases List.mem_cons.1 hm with rfl | hm
      · exact hc
      · exact h3 c hm
theorem At1.mk' {s : List UInt8} {p q : Nat} (h : p ≤ q) (hq : q < s.length) (hc : s[q] ≠ 32) (hw : Wo s p = Wo s q) : ∃ e, At1 s p q e := by
  obtain ⟨e, h1, h2, h3, h4⟩ := word_end s q (by omega)
  have hlt : q < e := by
    rcases Nat.lt_or_ge q e with h | h
    · exact h
    · have : e = q := by omega
      subst this
      exact absurd (h4 hq) hc
  exact ⟨e, h, hlt, h2, h3, h4, hw.trans (Wo_word hlt h2 h3 h4)⟩
/-- Within the word there is no blank; behind it there is one, or nothing. -/
theorem At1.in {s : List UInt8} {p q e i : Nat} (h : At1 s p q e) (h1 : q ≤ i) (h2 : i < e) : ∃ hi : i < s.length, s[i] ≠ 32 := by
  have hi : i < s.length := Nat.lt_of_lt_of_le h2 h.within
  refine ⟨hi, h.whole _ ?_⟩
  rw [tex_cut h1 (Nat.le_of_lt h2) h.within, tex_cons h2 h.within]
  simp
theorem all_tex {s : List UInt8} {q i : Nat} {f : UInt8 → Bool} (h1 : q ≤ i) (hi : i < s.length) (h : (tex s q i).all f = true) (hf : f s[i] = true) : (tex s q (i + 1)).all f = true := by
  rw [tex_succ h1 hi, List.all_append, h]
  simp [hf]
theorem not_all {s : List UInt8} {q e i : Nat} {f : UInt8 → Bool} (h1 : q ≤ i) (h2 : i < e) (he : e ≤ s.length) (hf : f (s[i]'(by omega)) = false) : (tex s q e).all f = false := by
  rw [tex_cut h1 (Nat.le_of_lt h2) he, tex_cons h2 he, List.all_append, List.all_cons, hf]
  simp

/-- A word that does not begin with a letter is a number, or none. -/
theorem kd_noletter {x : List UInt8} {c : UInt8} {r : List UInt8} (e : x = c :: r) (h : isL c = false) : kd x = if isNum x = true then 2 else 1 := by
  have ha : x.all isL = false := by rw [e, List.all_cons, h]; rfl
  have h1 : opOf x = 0 := by
    rcases opOf_cases x with h1 | h1
    · exact h1
    · rw [ha] at h1; exact absurd h1.2.2.1 (by decide)
  simp [kd, h1, isName, ha]
/-- A word that begins with a letter, and has something else, is none. -/
theorem kd_mixed {x : List UInt8} {c : UInt8} {r : List UInt8} (e : x = c :: r) (h : isL c = true) (ha : x.all isL = false) : kd x = 1 := by
  have h1 : opOf x = 0 := by
    rcases opOf_cases x with h1 | h1
    · exact h1
    · rw [ha] at h1; exact absurd h1.2.2.1 (by decide)
  obtain ⟨g1, g2, g3⟩ := isL_not h
  have h2 : isNum x = false := by
    have e2 : mag x = c :: r := by rw [e]; simp [mag, g3]
    unfold isNum
    rw [e2, List.all_cons, g1]
    rfl
  simp [kd, h1, h2, isName, ha]

/-- Where digits begin. -/
structure Dg (s : List UInt8) (q e dg : Nat) : Prop where
  letter : ∀ h : q < s.length, isL s[q] = false
  spot : (dg = q ∧ ∀ h : q < s.length, s[q] ≠ 45) ∨ (dg = q + 1 ∧ ∀ h : q < s.length, s[q] = 45)
  le : dg ≤ e
theorem Dg.mag {s : List UInt8} {p q e dg : Nat} (h : Dg s q e dg) (hw : At1 s p q e) : mag (tex s q e) = tex s dg e := by
  have hq := Nat.lt_of_lt_of_le hw.some hw.within
  rw [tex_cons hw.some hw.within]
  rcases h.spot with ⟨rfl, h1⟩ | ⟨rfl, h1⟩
  · rw [← tex_cons hw.some hw.within]
    unfold Go.Proofs.YtnddpalngjmhnabDoor.mag
    rw [tex_cons hw.some hw.within]
    simp [h1 hq]
  · simp [Go.Proofs.YtnddpalngjmhnabDoor.mag, h1 hq]

theorem Dg.head {s : List UInt8} {p q e dg : Nat} (h : Dg s q e dg) (hw : At1 s p q e) : num (tex s q e) = if dg = q then (digs (tex s dg e) : Int) else -(digs (tex s dg e) : Int) := by
  have hq := Nat.lt_of_lt_of_le hw.some hw.within
  unfold num
  rw [h.mag hw, tex_cons hw.some hw.within]
  rcases h.spot with ⟨rfl, h1⟩ | ⟨rfl, h1⟩
  · simp [h1 hq]
  · simp [h1 hq]
theorem Dg.kind {s : List UInt8} {p q e dg : Nat} (h : Dg s q e dg) (hw : At1 s p q e) : kd (tex s q e) = if (tex s dg e).all isD = true ∧ 1 ≤ e - dg ∧ e - dg ≤ 4 then 2 else 1 := by
  have hq := Nat.lt_of_lt_of_le hw.some hw.within
  rw [kd_noletter (tex_cons hw.some hw.within) (h.letter hq)]
  unfold isNum
  rw [h.mag hw, tex_length hw.within]
  simp [and_assoc]
/-- No digit at all. -/
theorem Dg.none {s : List UInt8} {p q e dg : Nat} (h : Dg s q e dg) (hw : At1 s p q e) (hd : dg = e ∨ ∃ hi : dg < s.length, isD s[dg] = false) : kd (tex s q e) = 1 := by
  rw [h.kind hw]
  rcases hd with rfl | ⟨hi, hd⟩
  · simp
  · rcases Nat.lt_or_ge dg e with hl | hl
    · rw [not_all (Nat.le_refl _) hl hw.within hd]
      simp
    · have := h.le
      have : e - dg = 0 := by omega
      simp [this]
/-- What is known behind digits. -/
theorem Dg.some {s : List UInt8} {p q e dg i : Nat} (h : Dg s q e dg) (hw : At1 s p q e) (h1 : dg < i) (h2 : i ≤ e) (h4 : i ≤ dg + 4) (ha : (tex s dg i).all isD = true) (hd : i = e ∨ i = dg + 4 ∨ ∃ hi : i < s.length, isD s[i] = false) :
    (i = e → kd (tex s q e) = 2 ∧ num (tex s q e) = if dg = q then (digs (tex s dg i) : Int) else -(digs (tex s dg i) : Int)) ∧ (i < e → kd (tex s q e) = 1) := by
  constructor
  · rintro rfl
    rw [h.kind hw, h.head hw]
    refine ⟨if_pos ⟨ha, by omega, by omega⟩, rfl⟩
  · intro hl
    rw [h.kind hw, if_neg]
    rintro ⟨g1, g2, g3⟩
    rcases hd with rfl | rfl | ⟨hi, hd⟩
    · omega
    · omega
    · rw [not_all (by omega) hl hw.within hd] at g1
      cases g1
/-- What is known behind letters. -/
theorem letters_some {s : List UInt8} {p q e i : Nat} (hw : At1 s p q e) (h1 : q < i) (h2 : i ≤ e) (hl : ∀ h : q < s.length, isL s[q] = true) (hd : i = e ∨ ∃ hi : i < s.length, isL s[i] = false) :
    (i = e → kd (tex s q e) = kd (tex s q i)) ∧ (i < e → kd (tex s q e) = 1) := by
  refine ⟨fun h => by rw [h], fun h => ?_⟩
  rcases hd with rfl | ⟨hi, hd⟩
  · omega
  · exact kd_mixed (tex_cons hw.some hw.within) (hl _) (not_all (by omega) h hw.within hd)
theorem digs_snoc (l : List UInt8) (c : UInt8) : digs (l ++ [c]) = 10 * digs l + (c.toNat - 48) := by simp [digs]
theorem digs_lt (l : List UInt8) (h : l.all isD = true) : digs l < 10 ^ l.length := by
  obtain ⟨k, hk⟩ : ∃ k, l.length = k := ⟨_, rfl⟩
  rw [hk]
  induction k generalizing l with
  | zero => rw [List.eq_nil_of_length_eq_zero hk]; decide
  | succ k ih =>
    have hne : l ≠ [] := by rintro rfl; simp at hk
    have e : l = l.dropLast ++ [l.getLast hne] := (List.dropLast_concat_getLast hne).symm
    rw [e, List.all_append, Bool.and_eq_true] at h
    have h1 := ih l.dropLast h.1 (by simp [hk])
    have h2 := h.2
    simp only [List.all_cons, List.all_nil, Bool.and_true, isD, Bool.and_eq_true, decide_eq_true_eq] at h2
    rw [e, digs_snoc, Nat.pow_succ]
    omega

end Go.Proofs.YtnddpalngjmhnabDoor

namespace Go.Proofs.YtnddpalngjmhnabDoor
open Go.RowKit

theorem Tryd.infoWord : (Tryd.prog.info? 90).map (·.size) = some 4 := by
  have h : (Tryd.prog.info? 90).map (fun i => i.size) = some 4 := by kernel_rfl
  exact h
theorem results_word {fn : Func} {p : Nat} (h : fn.results = #[.cell p 90]) (tmps : Array Value) (w : World) {g : Nat} {x y z u : Value} {t : TypeId} {fr : Nat × Nat} (hp : tmps.getD p undef = .pointer (some ⟨g, 0, none⟩)) (hg : w.heap[g]? = some (.cells #[x, y, z, u] t fr)) :
    (results fn tmps).run Tryd.prog w = .ok (.agg #[x, y, z, u]) w :=
  results_cell_row h tmps w g t #[x, y, z, u] fr _ hp hg Tryd.underlying90 rfl Tryd.infoWord

/-- The frame of read. -/
def Fr (s : List UInt8) (R B i dg : Nat) (a : Act) : Prop :=
  ∃ u : Nat → Value, a = { tmps := List.toArray (.string ⟨s.toArray⟩ :: .int .i64 (i : Nat) :: u 2 :: u 3 :: .pointer (some ⟨R, 0, none⟩) :: .pointer (some ⟨B, 0, none⟩) :: .int .i64 (dg : Nat) :: u 7 :: u 8 :: u 9 :: u 10 :: u 11 :: u 12 :: u 13 :: u 14 :: u 15 :: u 16 :: u 17 :: u 18 :: u 19 :: u 20 :: u 21 :: u 22 :: u 23 :: u 24 :: u 25 :: u 26 :: u 27 :: u 28 :: u 29 :: u 30 :: u 31 :: u 32 :: u 33 :: u 34 :: u 35 :: u 36 :: u 37 :: u 38 :: u 39 :: u 40 :: u 41 :: u 42 :: u 43 :: u 44 :: u 45 :: u 46 :: u 47 :: u 48 :: u 49 :: u 50 :: u 51 :: u 52 :: u 53 :: u 54 :: u 55 :: u 56 :: u 57 :: u 58 :: u 59 :: u 60 :: u 61 :: u 62 :: u 63 :: u 64 :: u 65 :: u 66 :: u 67 :: u 68 :: u 69 :: u 70 :: u 71 :: u 72 :: u 73 :: u 74 :: u 75 :: u 76 :: u 77 :: u 78 :: u 79 :: u 80 :: u 81 :: u 82 :: u 83 :: u 84 :: u 85 :: u 86 :: u 87 :: u 88 :: u 89 :: u 90 :: u 91 :: u 92 :: u 93 :: u 94 :: u 95 :: u 96 :: u 97 :: u 98 :: u 99 :: u 100 :: u 101 :: u 102 :: u 103 :: u 104 :: u 105 :: u 106 :: u 107 :: u 108 :: u 109 :: u 110 :: u 111 :: []), defers := [] }
set_option maxRecDepth 100000 in
theorem arr112 (u : Nat → Value) : ((List.range 112).map u).toArray = List.toArray (u 0 :: u 1 :: u 2 :: u 3 :: u 4 :: u 5 :: u 6 :: u 7 :: u 8 :: u 9 :: u 10 :: u 11 :: u 12 :: u 13 :: u 14 :: u 15 :: u 16 :: u 17 :: u 18 :: u 19 :: u 20 :: u 21 :: u 22 :: u 23 :: u 24 :: u 25 :: u 26 :: u 27 :: u 28 :: u 29 :: u 30 :: u 31 :: u 32 :: u 33 :: u 34 :: u 35 :: u 36 :: u 37 :: u 38 :: u 39 :: u 40 :: u 41 :: u 42 :: u 43 :: u 44 :: u 45 :: u 46 :: u 47 :: u 48 :: u 49 :: u 50 :: u 51 :: u 52 :: u 53 :: u 54 :: u 55 :: u 56 :: u 57 :: u 58 :: u 59 :: u 60 :: u 61 :: u 62 :: u 63 :: u 64 :: u 65 :: u 66 :: u 67 :: u 68 :: u 69 :: u 70 :: u 71 :: u 72 :: u 73 :: u 74 :: u 75 :: u 76 :: u 77 :: u 78 :: u 79 :: u 80 :: u 81 :: u 82 :: u 83 :: u 84 :: u 85 :: u 86 :: u 87 :: u 88 :: u 89 :: u 90 :: u 91 :: u 92 :: u 93 :: u 94 :: u 95 :: u 96 :: u 97 :: u 98 :: u 99 :: u 100 :: u 101 :: u 102 :: u 103 :: u 104 :: u 105 :: u 106 :: u 107 :: u 108 :: u 109 :: u 110 :: u 111 :: []) := by
  kernel_rfl
theorem Fr.mk' {s : List UInt8} {R B i dg : Nat} {t : Array Value} (hn : t.size = 112) (h0 : t.getD 0 undef = .string ⟨s.toArray⟩) (h1 : t.getD 1 undef = .int .i64 (i : Nat)) (h4 : t.getD 4 undef = .pointer (some ⟨R, 0, none⟩)) (h5 : t.getD 5 undef = .pointer (some ⟨B, 0, none⟩)) (h6 : t.getD 6 undef = .int .i64 (dg : Nat)) : Fr s R B i dg { tmps := t, defers := [] } := by
  refine ⟨fun j => t.getD j undef, ?_⟩
  congr 1
  rw [← h0, ← h1, ← h4, ← h5, ← h6]
  refine Eq.trans ?_ (arr112 fun j => t.getD j undef)
  refine Array.ext (by simp [hn]) fun j hj hj' => ?_
  simp [Array.getD, hj]

/-- What is known at each label: m: how far it is to the end. -/
def Rs (s : List UInt8) (p m l i q k : Nat) (n : Int) (dg : Nat) : Prop :=
  (l = 0 ∧ m = 6 * (s.length - i) + 5 ∧ p ≤ i ∧ i ≤ s.length ∧ Wo s p = Wo s i ∧ k = 0 ∧ q = 0 ∧ n = 0 ∧ dg = 0) ∨
  (l = 3 ∧ m = 6 * (s.length - i) + 4 ∧ ∃ e, At1 s p q e ∧ Dg s q e dg ∧ dg ≤ i ∧ i ≤ e ∧ i ≤ dg + 4 ∧ (tex s dg i).all isD = true ∧ k = 0 ∧ n = digs (tex s dg i)) ∨
  (l = 2 ∧ m = 6 * (s.length - i) + 3 ∧ ∃ e, At1 s p q e ∧ q ≤ i ∧ i ≤ e ∧ (tex s q i).all isL = true ∧ (∀ h : q < s.length, isL s[q] = true) ∧ k = 0 ∧ n = 0) ∨
  (l = 4 ∧ m = 6 * (s.length - i) + 2 ∧ ∃ e, At1 s p q e ∧ q ≤ i ∧ i ≤ e ∧ kd (tex s q e) = 1) ∨
  (l = 5 ∧ m = 6 * (s.length - i) + 1 ∧ ∃ e, At1 s p q e ∧ q ≤ i ∧ i ≤ e ∧ (i = e → k = kd (tex s q e) ∧ (k = 2 → n = num (tex s q e))) ∧ (i < e → kd (tex s q e) = 1)) ∨
  (l = 1 ∧ m = 6 * (s.length - i) ∧ ((q = s.length ∧ i = s.length ∧ k = 0 ∧ Wo s p = []) ∨ ∃ e, At1 s p q e ∧ i = e ∧ k = kd (tex s q e) ∧ (k = 2 → n = num (tex s q e))))

/-- The two words of read in memory: what it answers, and what it has so far. -/
structure Mm (w0 w : World) (k q t n : Int) : Prop where
  kept : Kept (fun _ => True) w0 w
  res : w.heap[w0.heap.size]? = some (.cells #[.int .i64 0, .int .i64 0, .int .i64 0, .int .i64 0] 90 (0, 0))
  cur : w.heap[w0.heap.size + 1]? = some (.cells #[.int .i64 k, .int .i64 q, .int .i64 t, .int .i64 n] 90 (0, 0))
theorem set_word {w : World} {b : Nat} {cs : Array Value} {t : TypeId} {fr : Nat × Nat} (h : w.heap[b]? = some (.cells cs t fr)) (k : Nat) (u : Value) :
    (w.setCell ⟨b, k, none⟩ u).heap[b]? = some (.cells (cs.setIfInBounds k u) t fr) := Go.Joins.block_setCell h u
theorem Mm.set {w0 w : World} {k q t n : Int} (h : Mm w0 w k q t n) {k' q' t' n' : Int} (j : Nat) (u : Value) (he : (#[Value.int .i64 k, .int .i64 q, .int .i64 t, .int .i64 n] : Array Value).setIfInBounds j u = #[.int .i64 k', .int .i64 q', .int .i64 t', .int .i64 n']) : Mm w0 (w.setCell ⟨w0.heap.size + 1, j, none⟩ u) k' q' t' n' := by
  refine ⟨⟨h.kept.os, h.kept.tape, h.kept.output, Nat.le_trans h.kept.size (by simp [World.setCell]), fun i hi hp => (heap_setCell_other w _ i u (by simp; omega)).trans (h.kept.block i hi hp)⟩, (heap_setCell_other w _ _ u (by simp)).trans h.res, ?_⟩
  rw [set_word h.cur, he]
theorem Mm.cells {w0 w : World} {k q t n : Int} (h : Mm w0 w k q t n) :
    w.cell? ⟨w0.heap.size + 1, 0, none⟩ = some (.int .i64 k) ∧ w.cell? ⟨w0.heap.size + 1, 1, none⟩ = some (.int .i64 q) ∧ w.cell? ⟨w0.heap.size + 1, 2, none⟩ = some (.int .i64 t) ∧ w.cell? ⟨w0.heap.size + 1, 3, none⟩ = some (.int .i64 n) ∧ (∀ j, w.frozen? ⟨w0.heap.size + 1, j, none⟩ = false) :=
  ⟨by simp [World.cell?, h.cur], by simp [World.cell?, h.cur], by simp [World.cell?, h.cur], by simp [World.cell?, h.cur], fun j => by simp [World.frozen?, h.cur]⟩
theorem Mm.drewN {w0 w : World} {k q t n : Int} (h : Mm w0 w k q t n) (c : Nat) : Mm w0 (w.drewN c) k q t n := ⟨h.kept.drewN c, h.res, h.cur⟩

/-- What holds at each label. -/
def Rj (w0 : World) (s : List UInt8) (p m l : Nat) (a : Act) (w : World) : Prop :=
  ∃ (i q k : Nat) (n : Int) (dg : Nat), Rs s p m l i q k n dg ∧ Fr s w0.heap.size (w0.heap.size + 1) i dg a ∧ Mm w0 w k q 0 n

/-- The body of a function's scope. -/
def scopeIn : Option Code → Code
  | some (.seq _ (.scope c)) => c
  | _ => .skip
/-- What read answers. -/
def Rd (s : List UInt8) (p k q t : Nat) (n : Int) : Prop :=
  (k = 0 ∧ q = s.length ∧ t = s.length ∧ Wo s p = []) ∨ (At1 s p q t ∧ k = kd (tex s q t) ∧ (k = 2 → n = num (tex s q t)))
abbrev Rp (w : World) (s : List UInt8) (p : Nat) : Exit → Act → World → Prop :=
  bodyPost Tryd.prog Tryd.f48 fun e w' => (∃ (k q t : Nat) (n : Int), e = .returned (.agg #[.int .i64 (k : Nat), .int .i64 (q : Nat), .int .i64 (t : Nat), .int .i64 n]) ∧ Rd s p k q t n) ∧ Kept (fun _ => True) w w'
/-- The way from a label on, as all six are asked. -/
abbrev Rw (w : World) (s : List UInt8) (p M l : Nat) (a : Act) (w1 : World) : Prop :=
  From Tryd.prog (scopeIn Tryd.f48.body) (Exit.jumps (fun l' a' w' => ∃ m', m' < M ∧ Rj w s p m' l' a' w') (Rp w s p)) l a w1

theorem at_text (s : List UInt8) (i : Nat) (_ : i < s.length) (h' : i < (⟨s.toArray⟩ : ByteArray).size) : (⟨s.toArray⟩ : ByteArray)[i]'h' = s[i] := rfl
theorem cut_text (s : List UInt8) (q i : Nat) (h : q ≤ i) (hi : i ≤ s.length) (w0 : World) : (Instr.slice 9 (.string ⟨s.toArray⟩) (some (.int .i64 (q : Int))) (some (.int .i64 (i : Int))) none).run Tryd.prog w0 = .ok (.string ⟨(tex s q i).toArray⟩) w0 := by
  have hs : ((⟨s.toArray⟩ : ByteArray).size : Int) = (s.length : Int) := by simp [ByteArray.size]
  rw [run_slice_string_if (P := Tryd.prog) w0 9 ⟨s.toArray⟩ .i64 .i64 q i Tryd.underlying9, if_pos ⟨by omega, by omega⟩, if_pos ⟨by omega, by omega⟩]
  congr 2
  apply ByteArray.ext
  simp [tex]
/-- Behind the word there is a blank, or nothing. -/
theorem At1.out {s : List UInt8} {p q e i : Nat} (h : At1 s p q e) (h1 : q ≤ i) (h2 : i ≤ e) : (∃ hi : i < s.length, i < e ∧ s[i] ≠ 32) ∨ (i = e ∧ i = s.length) ∨ (i = e ∧ ∃ hi : i < s.length, s[i] = 32) := by
  rcases Nat.lt_or_ge i e with h3 | h3
  · obtain ⟨hi, hc⟩ := h.in h1 h3
    exact .inl ⟨hi, h3, hc⟩
  · have : i = e := by omega
    subst this
    rcases Nat.lt_or_ge i s.length with h4 | h4
    · exact .inr (.inr ⟨rfl, h4, h.ends h4⟩)
    · have := h.within
      exact .inr (.inl ⟨rfl, by omega⟩)

set_option maxRecDepth 100000 in
set_option maxHeartbeats 1000000 in
theorem rd0a {w w1 : World} {s : List UInt8} (_ : s.length ≤ 281474976710656) {p i : Nat} {a : Act} (h1 : p ≤ i) (hlt : i < s.length) (h3 : Wo s p = Wo s i) (hc : s[i] = 32) (hF : Fr s w.heap.size (w.heap.size + 1) i 0 a) (hM : Mm w w1 0 0 0 0) :
    Rw w s p (6 * (s.length - i) + 5) 0 a w1 := by
  obtain ⟨u, rfl⟩ := hF
  have HM : Hid (Mm w w1 0 0 0 0) := hM
  have HW : Hid (Wo s p = Wo s (i + 1)) := h3.trans (Wo_blank hlt hc)
  clear hM h3
  have hx := at_text s i hlt (by simpa [ByteArray.size] using hlt)
  rw [hc] at hx
  clear hc
  have i1 : (i : Int) < (s.length : Int) := by omega
  have i0 : (0 : Int) ≤ (i : Int) := by omega
  refine ⟨_, rfl, ?_⟩
  go_wp2_with fail
  go_step3
  exact ⟨_, by omega, i + 1, 0, 0, 0, 0, .inl ⟨rfl, rfl, by omega, by omega, HW.out, rfl, rfl, rfl, rfl⟩, Fr.mk' rfl rfl rfl rfl rfl rfl, HM.out⟩

set_option maxRecDepth 100000 in
set_option maxHeartbeats 1000000 in
theorem rd0b {w w1 : World} {s : List UInt8} (_ : s.length ≤ 281474976710656) {p i : Nat} {a : Act} (hlt : i = s.length) (h3 : Wo s p = Wo s i) (hF : Fr s w.heap.size (w.heap.size + 1) i 0 a) (hM : Mm w w1 0 0 0 0) :
    Rw w s p (6 * (s.length - i) + 5) 0 a w1 := by
  obtain ⟨u, rfl⟩ := hF
  subst hlt
  have HM : Hid (Mm w (w1.setCell ⟨w.heap.size + 1, 1, none⟩ (.int .i64 (s.length : Nat))) 0 s.length 0 0) := hM.set 1 _ rfl
  have HW : Hid (Wo s p = []) := h3.trans (Wo_end (by omega))
  obtain ⟨c0, c1, c2, c3, hfz⟩ := hM.cells
  have hf1 := hfz 1
  clear hM h3 hfz
  refine ⟨_, rfl, ?_⟩
  go_wp2_with fail
  go_step3
  exact ⟨_, by omega, s.length, s.length, 0, 0, 0, .inr (.inr (.inr (.inr (.inr ⟨rfl, rfl, .inl ⟨rfl, rfl, rfl, HW.out⟩⟩)))), Fr.mk' rfl rfl rfl rfl rfl rfl, HM.out⟩

/-- What may be used of labels that are nearer to the end. -/
abbrev Ri (w : World) (s : List UInt8) (p M : Nat) : Prop := Hid (∀ m' l' a' w', m' < M → Rj w s p m' l' a' w' → Rw w s p M l' a' w')

set_option maxRecDepth 100000 in
set_option maxHeartbeats 1000000 in
theorem rd0c {w w1 : World} {s : List UInt8} (_ : s.length ≤ 281474976710656) {p i : Nat} {a : Act} (h1 : p ≤ i) (hlt : i < s.length) (h3 : Wo s p = Wo s i) (hc : s[i] ≠ 32) (hF : Fr s w.heap.size (w.heap.size + 1) i 0 a) (hM : Mm w w1 0 0 0 0) (IH : Ri w s p (6 * (s.length - i) + 5)) :
    Rw w s p (6 * (s.length - i) + 5) 0 a w1 := by
  obtain ⟨u, rfl⟩ := hF
  obtain ⟨e, hE⟩ := At1.mk' h1 hlt hc h3
  have HE : Hid (At1 s p i e) := hE
  have hie := hE.some
  have hel := hE.within
  have HM : Hid (Mm w (w1.setCell ⟨w.heap.size + 1, 1, none⟩ (.int .i64 (i : Nat))) 0 i 0 0) := hM.set 1 _ rfl
  obtain ⟨c0, c1, c2, c3, hfz⟩ := hM.cells
  have hf1 := hfz 1
  clear hM h3 hE hfz
  have hx := at_text s i hlt (by simpa [ByteArray.size] using hlt)
  have i1 : (i : Int) < (s.length : Int) := by omega
  have i2 : ((i : Int) == (s.length : Int)) = false := by simp; omega
  have i0 : (0 : Int) ≤ (i : Int) := by omega
  by_cases hl : isL s[i] = true
  · have HT : Hid (∀ h : i < s.length, isL s[i] = true) := fun _ => hl
    have cl := fun W => isLetter_any (w := W) s[i]
    rw [hl] at cl
    have hc' : ((s[i].toNat : Int) == 32) = false := by simp only [beq_eq_false_iff_ne, ne_eq]; intro q; exact hc (UInt8.toNat_inj.1 (by simpa using (by omega : s[i].toNat = 32)))
    clear hc hl
    generalize s[i] = c at hx cl hc'
    refine ⟨_, rfl, ?_⟩
    go_wp2_with fail
    refine Calls.mono (cl _) ?_
    rintro e' w2 ⟨rfl, rfl⟩
    go_wp2_with fail
    go_step3
    exact ⟨_, by omega, i, i, 0, 0, 0, .inr (.inr (.inl ⟨rfl, rfl, e, HE.out, Nat.le_refl _, by omega, by simp [tex_self], HT.out, rfl, rfl⟩)), Fr.mk' rfl rfl rfl rfl rfl rfl, HM.out⟩
  · have hl' : isL s[i] = false := by simpa using hl
    have HT : Hid (∀ h : i < s.length, isL s[i] = false) := fun _ => hl'
    have cl := fun W => isLetter_any (w := W) s[i]
    rw [hl'] at cl
    have hc' : ((s[i].toNat : Int) == 32) = false := by simp only [beq_eq_false_iff_ne, ne_eq]; intro q; exact hc (UInt8.toNat_inj.1 (by simpa using (by omega : s[i].toNat = 32)))
    clear hc hl hl'
    by_cases hm : s[i] = 45
    · have HD : Hid (Dg s i e (i + 1)) := ⟨HT.out, .inr ⟨rfl, fun _ => hm⟩, by omega⟩
      rw [hm] at hx cl
      clear hm hc'
      refine ⟨_, rfl, ?_⟩
      go_wp2_with fail
      refine Calls.mono (cl _) ?_
      rintro e' w2 ⟨rfl, rfl⟩
      go_wp2_with fail
      go_step3
      iterate 2 (first | go_values | go_skip | go_guarded | go_step | go_upon | go_back)
      refine From.use (IH.out (6 * (s.length - (i + 1)) + 4) 3 _ _ (by omega) ⟨i + 1, i, 0, 0, i + 1, .inr (.inl ⟨rfl, rfl, e, HE.out, HD.out, Nat.le_refl _, by omega, by omega, by simp [tex_self], rfl, by simp [tex_self, digs]⟩), ?_, ?_⟩) rfl
      · exact Fr.mk' rfl rfl rfl rfl rfl rfl
      · exact HM.out
    · have HD : Hid (Dg s i e i) := ⟨HT.out, .inl ⟨rfl, fun _ => hm⟩, by omega⟩
      have hm' : ((s[i].toNat : Int) == 45) = false := by simp only [beq_eq_false_iff_ne, ne_eq]; intro q; exact hm (UInt8.toNat_inj.1 (by simpa using (by omega : s[i].toNat = 45)))
      clear hm
      generalize s[i] = c at hx cl hc' hm'
      refine ⟨_, rfl, ?_⟩
      go_wp2_with fail
      refine Calls.mono (cl _) ?_
      rintro e' w2 ⟨rfl, rfl⟩
      go_wp2_with fail
      go_step3
      iterate 2 (first | go_values | go_skip | go_guarded | go_step | go_upon | go_back)
      refine From.use (IH.out (6 * (s.length - i) + 4) 3 _ _ (by omega) ⟨i, i, 0, 0, i, .inr (.inl ⟨rfl, rfl, e, HE.out, HD.out, Nat.le_refl _, by omega, by omega, by simp [tex_self], rfl, by simp [tex_self, digs]⟩), ?_, ?_⟩) rfl
      · exact Fr.mk' rfl rfl rfl rfl rfl rfl
      · exact HM.out

end Go.Proofs.YtnddpalngjmhnabDoor

namespace Go.Proofs.YtnddpalngjmhnabDoor
open Go.RowKit

theorem alloc_two (w : World) (o o' : Obj) : ((w.alloc o).alloc o').heap[w.heap.size]? = some o ∧ ((w.alloc o).alloc o').heap[w.heap.size + 1]? = some o' := by
  refine ⟨(((Kept.refl (fun _ => True) _).alloc _).block w.heap.size (by simp) trivial).trans (heap_alloc_new w _), ?_⟩
  have hz := heap_alloc_new (w.alloc o) o'
  have hy : (w.alloc o).heap.size = w.heap.size + 1 := by simp
  rw [hy] at hz
  exact hz
theorem Mm.drew {w0 w : World} {k q t n : Int} (h : Mm w0 w k q t n) : Mm w0 w.drew k q t n := ⟨h.kept.drew, h.res, h.cur⟩

set_option maxRecDepth 100000 in
set_option maxHeartbeats 1000000 in
theorem rd3a {w w1 : World} {s : List UInt8} (_ : s.length ≤ 281474976710656) {p q e i dg : Nat} {a : Act} (hE : At1 s p q e) (hD : Dg s q e dg) (h1 : dg ≤ i) (h2 : i < e) (h4 : i < dg + 4) (ha : (tex s dg i).all isD = true) (hlt : i < s.length) (hc : isD s[i] = true)
    (hF : Fr s w.heap.size (w.heap.size + 1) i dg a) (hM : Mm w w1 0 q 0 (digs (tex s dg i))) : Rw w s p (6 * (s.length - i) + 4) 3 a w1 := by
  obtain ⟨u, rfl⟩ := hF
  have HE : Hid (At1 s p q e) := hE
  have HD : Hid (Dg s q e dg) := hD
  have HA : Hid ((tex s dg (i + 1)).all isD = true) := all_tex h1 hlt ha hc
  have hb : digs (tex s dg i) < 1000 := by
    have := digs_lt _ ha
    have hl := tex_length (q := dg) (Nat.le_of_lt hlt)
    rw [hl] at this
    exact Nat.lt_of_lt_of_le this (Nat.pow_le_pow_right (n := 10) (by decide) (show i - dg ≤ 3 by omega))
  have HN : Hid (digs (tex s dg (i + 1)) = 10 * digs (tex s dg i) + (s[i].toNat - 48)) := by
    show _ = _
    rw [tex_succ h1 hlt, digs_snoc]
  have hd := hc
  simp only [isD, Bool.and_eq_true, decide_eq_true_eq] at hd
  obtain ⟨d1, d2⟩ := hd
  have cl := fun W => isDigit_any (w := W) s[i]
  rw [hc] at cl
  have hx := at_text s i hlt (by simpa [ByteArray.size] using hlt)
  clear hE hD ha hc
  generalize digs (tex s dg i) = N at *
  generalize s[i] = c at *
  have HM : Hid (Mm w (w1.setCell ⟨w.heap.size + 1, 3, none⟩ (.int .i64 (10 * (N : Int) + ((c.toNat : Int) - 48)))).drew 0 q 0 (10 * (N : Int) + ((c.toNat : Int) - 48))) := (hM.set 3 _ rfl).drew
  obtain ⟨c0, c1, c2, c3, hfz⟩ := hM.cells
  have hf3 := hfz 3
  clear hM hfz
  have i1 : (i : Int) < (s.length : Int) := by omega
  have i0 : (0 : Int) ≤ (i : Int) := by omega
  have i4 : (i : Int) < (dg : Int) + 4 := by omega
  refine ⟨_, rfl, ?_⟩
  go_wp2_with fail
  refine Calls.mono (cl _) ?_
  rintro e' w2 ⟨rfl, rfl⟩
  go_wp2_with fail
  go_region
  all_goals
    go_wp2_with fail
    go_step3
    exact ⟨_, by omega, i + 1, q, 0, 10 * (N : Int) + ((c.toNat : Int) - 48), dg, .inr (.inl ⟨rfl, rfl, e, HE.out, HD.out, by omega, by omega, by omega, HA.out, rfl, by rw [HN.out]; omega⟩), Fr.mk' rfl rfl rfl rfl rfl rfl, HM.out⟩

set_option maxRecDepth 100000 in
set_option maxHeartbeats 1000000 in
theorem rd3na {w w1 : World} {s : List UInt8} (_ : s.length ≤ 281474976710656) {p q e i dg : Nat} {a : Act} (hE : At1 s p q e) (hq : q ≤ i) (h2 : i ≤ e) (h0 : i = dg) (hk : kd (tex s q e) = 1) (hlt : i = s.length)
    (hF : Fr s w.heap.size (w.heap.size + 1) i dg a) {n : Int} (hM : Mm w w1 0 q 0 n) : Rw w s p (6 * (s.length - i) + 4) 3 a w1 := by
  subst h0
  obtain ⟨u, rfl⟩ := hF
  have HE : Hid (At1 s p q e) := hE
  have HC : Hid (kd (tex s q e) = 1) := hk
  have HM : Hid (Mm w w1 0 q 0 n) := hM
  clear hE hk hM
  subst hlt
  refine ⟨_, rfl, ?_⟩
  go_wp2_with fail
  go_step3
  exact ⟨_, by omega, s.length, q, 0, n, s.length, .inr (.inr (.inr (.inl ⟨rfl, rfl, e, HE.out, hq, h2, HC.out⟩))), Fr.mk' rfl rfl rfl rfl rfl rfl, HM.out⟩

set_option maxRecDepth 100000 in
set_option maxHeartbeats 1000000 in
theorem rd3pa {w w1 : World} {s : List UInt8} (_ : s.length ≤ 281474976710656) {p q e i dg : Nat} {a : Act} (hE : At1 s p q e) (h1 : dg < i) (_ : q ≤ dg) (h2 : i ≤ e) {n : Int} (hn : 0 ≤ n ∧ n < 10000) (hk : (i = e → kd (tex s q e) = 2 ∧ num (tex s q e) = n) ∧ (i < e → kd (tex s q e) = 1)) (hm : ∀ h : q < s.length, s[q] ≠ 45) (hlt : i = s.length)
    (hF : Fr s w.heap.size (w.heap.size + 1) i dg a) (hM : Mm w w1 0 q 0 n) : Rw w s p (6 * (s.length - i) + 4) 3 a w1 := by
  obtain ⟨u, rfl⟩ := hF
  have hql : q < s.length := Nat.lt_of_lt_of_le hE.some hE.within
  have HE : Hid (At1 s p q e) := hE
  have HC : Hid ((i = e → kd (tex s q e) = 2 ∧ num (tex s q e) = n) ∧ (i < e → kd (tex s q e) = 1)) := hk
  have HM : Hid (Mm w (w1.setCell ⟨w.heap.size + 1, 0, none⟩ (.int .i64 2)) 2 q 0 (n)) := hM.set 0 _ rfl
  obtain ⟨c0, c1, c2, c3, hfz⟩ := hM.cells
  have hf0 := hfz 0
  have hf3 := hfz 3
  obtain ⟨n0, n1⟩ := hn
  clear hE hk hM hfz
  have hqx := at_text s q hql (by simpa [ByteArray.size] using hql)
  have hm' : ((s[q].toNat : Int) == 45) = false := by simp only [beq_eq_false_iff_ne, ne_eq]; intro x; exact hm hql (UInt8.toNat_inj.1 (by simpa using (by omega : s[q].toNat = 45)))
  clear hm
  generalize s[q] = cq at *
  subst hlt
  have g1 : ((s.length : Int) == (dg : Int)) = false := by simp; omega
  have g0 : (0 : Int) ≤ (q : Int) := by omega
  have gq : (q : Int) < (s.length : Int) := by omega
  refine ⟨_, rfl, ?_⟩
  go_wp2_with fail
  go_step3
  exact ⟨_, by omega, s.length, q, 2, n, dg, .inr (.inr (.inr (.inr (.inl ⟨rfl, rfl, e, HE.out, by omega, h2, fun x => ⟨(HC.out.1 x).1.symm, fun _ => (HC.out.1 x).2.symm⟩, HC.out.2⟩)))), Fr.mk' rfl rfl rfl rfl rfl rfl, HM.out⟩

set_option maxRecDepth 100000 in
set_option maxHeartbeats 1000000 in
theorem rd3ma {w w1 : World} {s : List UInt8} (_ : s.length ≤ 281474976710656) {p q e i dg : Nat} {a : Act} (hE : At1 s p q e) (h1 : dg < i) (_ : q ≤ dg) (h2 : i ≤ e) {n : Int} (hn : 0 ≤ n ∧ n < 10000) (hk : (i = e → kd (tex s q e) = 2 ∧ num (tex s q e) = -n) ∧ (i < e → kd (tex s q e) = 1)) (hm : ∀ h : q < s.length, s[q] = 45) (hlt : i = s.length)
    (hF : Fr s w.heap.size (w.heap.size + 1) i dg a) (hM : Mm w w1 0 q 0 n) : Rw w s p (6 * (s.length - i) + 4) 3 a w1 := by
  obtain ⟨u, rfl⟩ := hF
  have hql : q < s.length := Nat.lt_of_lt_of_le hE.some hE.within
  have HE : Hid (At1 s p q e) := hE
  have HC : Hid ((i = e → kd (tex s q e) = 2 ∧ num (tex s q e) = -n) ∧ (i < e → kd (tex s q e) = 1)) := hk
  have HM : Hid (Mm w ((w1.setCell ⟨w.heap.size + 1, 3, none⟩ (.int .i64 (-n))).setCell ⟨w.heap.size + 1, 0, none⟩ (.int .i64 2)) 2 q 0 (-n)) := (hM.set 3 _ rfl).set 0 _ rfl
  obtain ⟨c0, c1, c2, c3, hfz⟩ := hM.cells
  have hf0 := hfz 0
  have hf3 := hfz 3
  obtain ⟨n0, n1⟩ := hn
  clear hE hk hM hfz
  have hqx := at_text s q hql (by simpa [ByteArray.size] using hql)
  rw [hm hql] at hqx
  clear hm
  subst hlt
  have g1 : ((s.length : Int) == (dg : Int)) = false := by simp; omega
  have g0 : (0 : Int) ≤ (q : Int) := by omega
  have gq : (q : Int) < (s.length : Int) := by omega
  refine ⟨_, rfl, ?_⟩
  go_wp2_with fail
  go_step3
  exact ⟨_, by omega, s.length, q, 2, -n, dg, .inr (.inr (.inr (.inr (.inl ⟨rfl, rfl, e, HE.out, by omega, h2, fun x => ⟨(HC.out.1 x).1.symm, fun _ => (HC.out.1 x).2.symm⟩, HC.out.2⟩)))), Fr.mk' rfl rfl rfl rfl rfl rfl, HM.out⟩

set_option maxRecDepth 100000 in
set_option maxHeartbeats 1000000 in
theorem rd3pb {w w1 : World} {s : List UInt8} (_ : s.length ≤ 281474976710656) {p q e i dg : Nat} {a : Act} (hE : At1 s p q e) (_ : dg < i) (hqd : q ≤ dg) (h2 : i ≤ e) {n : Int} (hn : 0 ≤ n ∧ n < 10000) (hk : (i = e → kd (tex s q e) = 2 ∧ num (tex s q e) = n) ∧ (i < e → kd (tex s q e) = 1)) (hm : ∀ h : q < s.length, s[q] ≠ 45) (hlt : i < s.length) (hd : i = dg + 4)
    (hF : Fr s w.heap.size (w.heap.size + 1) i dg a) (hM : Mm w w1 0 q 0 n) : Rw w s p (6 * (s.length - i) + 4) 3 a w1 := by
  obtain ⟨u, rfl⟩ := hF
  have hql : q < s.length := Nat.lt_of_lt_of_le hE.some hE.within
  have HE : Hid (At1 s p q e) := hE
  have HC : Hid ((i = e → kd (tex s q e) = 2 ∧ num (tex s q e) = n) ∧ (i < e → kd (tex s q e) = 1)) := hk
  have HM : Hid (Mm w (w1.setCell ⟨w.heap.size + 1, 0, none⟩ (.int .i64 2)) 2 q 0 (n)) := hM.set 0 _ rfl
  obtain ⟨c0, c1, c2, c3, hfz⟩ := hM.cells
  have hf0 := hfz 0
  have hf3 := hfz 3
  obtain ⟨n0, n1⟩ := hn
  clear hE hk hM hfz
  have hqx := at_text s q hql (by simpa [ByteArray.size] using hql)
  have hm' : ((s[q].toNat : Int) == 45) = false := by simp only [beq_eq_false_iff_ne, ne_eq]; intro x; exact hm hql (UInt8.toNat_inj.1 (by simpa using (by omega : s[q].toNat = 45)))
  clear hm
  generalize s[q] = cq at *
  have i1 : (i : Int) < (s.length : Int) := by omega
  have i4 : ¬ (i : Int) < (dg : Int) + 4 := by omega
  have HI : Hid (i = dg + 4) := hd
  clear hd
  have g1 : ((i : Int) == (dg : Int)) = false := by simp; omega
  have g0 : (0 : Int) ≤ (q : Int) := by omega
  have gq : (q : Int) < (s.length : Int) := by omega
  refine ⟨_, rfl, ?_⟩
  go_wp2_with fail
  go_step3
  exact ⟨_, by omega, i, q, 2, n, dg, .inr (.inr (.inr (.inr (.inl ⟨rfl, rfl, e, HE.out, by omega, h2, fun x => ⟨(HC.out.1 x).1.symm, fun _ => (HC.out.1 x).2.symm⟩, HC.out.2⟩)))), Fr.mk' rfl rfl rfl rfl rfl rfl, HM.out⟩

set_option maxRecDepth 100000 in
set_option maxHeartbeats 1000000 in
theorem rd3mb {w w1 : World} {s : List UInt8} (_ : s.length ≤ 281474976710656) {p q e i dg : Nat} {a : Act} (hE : At1 s p q e) (_ : dg < i) (hqd : q ≤ dg) (h2 : i ≤ e) {n : Int} (hn : 0 ≤ n ∧ n < 10000) (hk : (i = e → kd (tex s q e) = 2 ∧ num (tex s q e) = -n) ∧ (i < e → kd (tex s q e) = 1)) (hm : ∀ h : q < s.length, s[q] = 45) (hlt : i < s.length) (hd : i = dg + 4)
    (hF : Fr s w.heap.size (w.heap.size + 1) i dg a) (hM : Mm w w1 0 q 0 n) : Rw w s p (6 * (s.length - i) + 4) 3 a w1 := by
  obtain ⟨u, rfl⟩ := hF
  have hql : q < s.length := Nat.lt_of_lt_of_le hE.some hE.within
  have HE : Hid (At1 s p q e) := hE
  have HC : Hid ((i = e → kd (tex s q e) = 2 ∧ num (tex s q e) = -n) ∧ (i < e → kd (tex s q e) = 1)) := hk
  have HM : Hid (Mm w ((w1.setCell ⟨w.heap.size + 1, 3, none⟩ (.int .i64 (-n))).setCell ⟨w.heap.size + 1, 0, none⟩ (.int .i64 2)) 2 q 0 (-n)) := (hM.set 3 _ rfl).set 0 _ rfl
  obtain ⟨c0, c1, c2, c3, hfz⟩ := hM.cells
  have hf0 := hfz 0
  have hf3 := hfz 3
  obtain ⟨n0, n1⟩ := hn
  clear hE hk hM hfz
  have hqx := at_text s q hql (by simpa [ByteArray.size] using hql)
  rw [hm hql] at hqx
  clear hm
  have i1 : (i : Int) < (s.length : Int) := by omega
  have i4 : ¬ (i : Int) < (dg : Int) + 4 := by omega
  have HI : Hid (i = dg + 4) := hd
  clear hd
  have g1 : ((i : Int) == (dg : Int)) = false := by simp; omega
  have g0 : (0 : Int) ≤ (q : Int) := by omega
  have gq : (q : Int) < (s.length : Int) := by omega
  refine ⟨_, rfl, ?_⟩
  go_wp2_with fail
  go_step3
  exact ⟨_, by omega, i, q, 2, -n, dg, .inr (.inr (.inr (.inr (.inl ⟨rfl, rfl, e, HE.out, by omega, h2, fun x => ⟨(HC.out.1 x).1.symm, fun _ => (HC.out.1 x).2.symm⟩, HC.out.2⟩)))), Fr.mk' rfl rfl rfl rfl rfl rfl, HM.out⟩

set_option maxRecDepth 100000 in
set_option maxHeartbeats 1000000 in
theorem rd3nc {w w1 : World} {s : List UInt8} (_ : s.length ≤ 281474976710656) {p q e i dg : Nat} {a : Act} (hE : At1 s p q e) (hq : q ≤ i) (h2 : i ≤ e) (h0 : i = dg) (hk : kd (tex s q e) = 1) (hlt : i < s.length) (hd : i < dg + 4) (hc : isD s[i] = false)
    (hF : Fr s w.heap.size (w.heap.size + 1) i dg a) {n : Int} (hM : Mm w w1 0 q 0 n) : Rw w s p (6 * (s.length - i) + 4) 3 a w1 := by
  subst h0
  obtain ⟨u, rfl⟩ := hF
  have HE : Hid (At1 s p q e) := hE
  have HC : Hid (kd (tex s q e) = 1) := hk
  have HM : Hid (Mm w w1 0 q 0 n) := hM
  clear hE hk hM
  have i1 : (i : Int) < (s.length : Int) := by omega
  have i0 : (0 : Int) ≤ (i : Int) := by omega
  have i4 : (i : Int) < (i : Int) + 4 := by omega
  have cl := fun W => isDigit_any (w := W) s[i]
  rw [hc] at cl
  have hx := at_text s i hlt (by simpa [ByteArray.size] using hlt)
  clear hc
  generalize s[i] = c at *
  refine ⟨_, rfl, ?_⟩
  go_wp2_with fail
  refine Calls.mono (cl _) ?_
  rintro e' w2 ⟨rfl, rfl⟩
  go_wp2_with fail
  go_step3
  exact ⟨_, by omega, i, q, 0, n, i, .inr (.inr (.inr (.inl ⟨rfl, rfl, e, HE.out, hq, h2, HC.out⟩))), Fr.mk' rfl rfl rfl rfl rfl rfl, HM.out⟩

set_option maxRecDepth 100000 in
set_option maxHeartbeats 1000000 in
theorem rd3pc {w w1 : World} {s : List UInt8} (_ : s.length ≤ 281474976710656) {p q e i dg : Nat} {a : Act} (hE : At1 s p q e) (h1 : dg < i) (hqd : q ≤ dg) (h2 : i ≤ e) {n : Int} (hn : 0 ≤ n ∧ n < 10000) (hk : (i = e → kd (tex s q e) = 2 ∧ num (tex s q e) = n) ∧ (i < e → kd (tex s q e) = 1)) (hm : ∀ h : q < s.length, s[q] ≠ 45) (hlt : i < s.length) (hd : i < dg + 4) (hc : isD s[i] = false)
    (hF : Fr s w.heap.size (w.heap.size + 1) i dg a) (hM : Mm w w1 0 q 0 n) : Rw w s p (6 * (s.length - i) + 4) 3 a w1 := by
  obtain ⟨u, rfl⟩ := hF
  have hql : q < s.length := Nat.lt_of_lt_of_le hE.some hE.within
  have HE : Hid (At1 s p q e) := hE
  have HC : Hid ((i = e → kd (tex s q e) = 2 ∧ num (tex s q e) = n) ∧ (i < e → kd (tex s q e) = 1)) := hk
  have HM : Hid (Mm w (w1.setCell ⟨w.heap.size + 1, 0, none⟩ (.int .i64 2)) 2 q 0 (n)) := hM.set 0 _ rfl
  obtain ⟨c0, c1, c2, c3, hfz⟩ := hM.cells
  have hf0 := hfz 0
  have hf3 := hfz 3
  obtain ⟨n0, n1⟩ := hn
  clear hE hk hM hfz
  have hqx := at_text s q hql (by simpa [ByteArray.size] using hql)
  have hm' : ((s[q].toNat : Int) == 45) = false := by simp only [beq_eq_false_iff_ne, ne_eq]; intro x; exact hm hql (UInt8.toNat_inj.1 (by simpa using (by omega : s[q].toNat = 45)))
  clear hm
  generalize s[q] = cq at *
  have i1 : (i : Int) < (s.length : Int) := by omega
  have i0 : (0 : Int) ≤ (i : Int) := by omega
  have i4 : (i : Int) < (dg : Int) + 4 := by omega
  have cl := fun W => isDigit_any (w := W) s[i]
  rw [hc] at cl
  have hx := at_text s i hlt (by simpa [ByteArray.size] using hlt)
  clear hc
  generalize s[i] = c at *
  have g1 : ((i : Int) == (dg : Int)) = false := by simp; omega
  have g0 : (0 : Int) ≤ (q : Int) := by omega
  have gq : (q : Int) < (s.length : Int) := by omega
  refine ⟨_, rfl, ?_⟩
  go_wp2_with fail
  refine Calls.mono (cl _) ?_
  rintro e' w2 ⟨rfl, rfl⟩
  go_wp2_with fail
  go_step3
  exact ⟨_, by omega, i, q, 2, n, dg, .inr (.inr (.inr (.inr (.inl ⟨rfl, rfl, e, HE.out, by omega, h2, fun x => ⟨(HC.out.1 x).1.symm, fun _ => (HC.out.1 x).2.symm⟩, HC.out.2⟩)))), Fr.mk' rfl rfl rfl rfl rfl rfl, HM.out⟩

set_option maxRecDepth 100000 in
set_option maxHeartbeats 1000000 in
theorem rd3mc {w w1 : World} {s : List UInt8} (_ : s.length ≤ 281474976710656) {p q e i dg : Nat} {a : Act} (hE : At1 s p q e) (h1 : dg < i) (hqd : q ≤ dg) (h2 : i ≤ e) {n : Int} (hn : 0 ≤ n ∧ n < 10000) (hk : (i = e → kd (tex s q e) = 2 ∧ num (tex s q e) = -n) ∧ (i < e → kd (tex s q e) = 1)) (hm : ∀ h : q < s.length, s[q] = 45) (hlt : i < s.length) (hd : i < dg + 4) (hc : isD s[i] = false)
    (hF : Fr s w.heap.size (w.heap.size + 1) i dg a) (hM : Mm w w1 0 q 0 n) : Rw w s p (6 * (s.length - i) + 4) 3 a w1 := by
  obtain ⟨u, rfl⟩ := hF
  have hql : q < s.length := Nat.lt_of_lt_of_le hE.some hE.within
  have HE : Hid (At1 s p q e) := hE
  have HC : Hid ((i = e → kd (tex s q e) = 2 ∧ num (tex s q e) = -n) ∧ (i < e → kd (tex s q e) = 1)) := hk
  have HM : Hid (Mm w ((w1.setCell ⟨w.heap.size + 1, 3, none⟩ (.int .i64 (-n))).setCell ⟨w.heap.size + 1, 0, none⟩ (.int .i64 2)) 2 q 0 (-n)) := (hM.set 3 _ rfl).set 0 _ rfl
  obtain ⟨c0, c1, c2, c3, hfz⟩ := hM.cells
  have hf0 := hfz 0
  have hf3 := hfz 3
  obtain ⟨n0, n1⟩ := hn
  clear hE hk hM hfz
  have hqx := at_text s q hql (by simpa [ByteArray.size] using hql)
  rw [hm hql] at hqx
  clear hm
  have i1 : (i : Int) < (s.length : Int) := by omega
  have i0 : (0 : Int) ≤ (i : Int) := by omega
  have i4 : (i : Int) < (dg : Int) + 4 := by omega
  have cl := fun W => isDigit_any (w := W) s[i]
  rw [hc] at cl
  have hx := at_text s i hlt (by simpa [ByteArray.size] using hlt)
  clear hc
  generalize s[i] = c at *
  have g1 : ((i : Int) == (dg : Int)) = false := by simp; omega
  have g0 : (0 : Int) ≤ (q : Int) := by omega
  have gq : (q : Int) < (s.length : Int) := by omega
  refine ⟨_, rfl, ?_⟩
  go_wp2_with fail
  refine Calls.mono (cl _) ?_
  rintro e' w2 ⟨rfl, rfl⟩
  go_wp2_with fail
  go_step3
  exact ⟨_, by omega, i, q, 2, -n, dg, .inr (.inr (.inr (.inr (.inl ⟨rfl, rfl, e, HE.out, by omega, h2, fun x => ⟨(HC.out.1 x).1.symm, fun _ => (HC.out.1 x).2.symm⟩, HC.out.2⟩)))), Fr.mk' rfl rfl rfl rfl rfl rfl, HM.out⟩

set_option maxRecDepth 100000 in
set_option maxHeartbeats 1000000 in
theorem rd2a {w w1 : World} {s : List UInt8} (_ : s.length ≤ 281474976710656) {p q e i dg : Nat} {a : Act} (hE : At1 s p q e) (h1 : q ≤ i) (h2 : i < e) (ha : (tex s q i).all isL = true) (hl : ∀ h : q < s.length, isL s[q] = true) (hlt : i < s.length) (hc : isL s[i] = true)
    (hF : Fr s w.heap.size (w.heap.size + 1) i dg a) (hM : Mm w w1 0 q 0 0) : Rw w s p (6 * (s.length - i) + 3) 2 a w1 := by
  obtain ⟨u, rfl⟩ := hF
  have HE : Hid (At1 s p q e) := hE
  have HL : Hid (∀ h : q < s.length, isL s[q] = true) := hl
  have HA : Hid ((tex s q (i + 1)).all isL = true) := all_tex h1 hlt ha hc
  have HM : Hid (Mm w w1 0 q 0 0) := hM
  have cl := fun W => isLetter_any (w := W) s[i]
  rw [hc] at cl
  have hx := at_text s i hlt (by simpa [ByteArray.size] using hlt)
  clear hE ha hc hl hM
  generalize s[i] = c at *
  have i1 : (i : Int) < (s.length : Int) := by omega
  have i0 : (0 : Int) ≤ (i : Int) := by omega
  refine ⟨_, rfl, ?_⟩
  go_wp2_with fail
  refine Calls.mono (cl _) ?_
  rintro e' w2 ⟨rfl, rfl⟩
  go_wp2_with fail
  go_step3
  exact ⟨_, by omega, i + 1, q, 0, 0, dg, .inr (.inr (.inl ⟨rfl, rfl, e, HE.out, by omega, by omega, HA.out, HL.out, rfl, rfl⟩)), Fr.mk' rfl rfl rfl rfl rfl rfl, HM.out⟩

set_option maxRecDepth 100000 in
set_option maxHeartbeats 1000000 in
theorem rd2b {w w1 : World} {s : List UInt8} (_ : s.length ≤ 281474976710656) {p q e i dg : Nat} {a : Act} (hE : At1 s p q e) (h1 : q < i) (h2 : i ≤ e) (ha : (tex s q i).all isL = true) (hk : (i = e → kd (tex s q e) = kd (tex s q i)) ∧ (i < e → kd (tex s q e) = 1)) (hlt : i = s.length)
    (hF : Fr s w.heap.size (w.heap.size + 1) i dg a) (hM : Mm w w1 0 q 0 0) : Rw w s p (6 * (s.length - i) + 3) 2 a w1 := by
  obtain ⟨u, rfl⟩ := hF
  have hie := Nat.le_trans h2 hE.within
  have HE : Hid (At1 s p q e) := hE
  have HC : Hid ((i = e → kd (tex s q e) = kd (tex s q i)) ∧ (i < e → kd (tex s q e) = 1)) := hk
  have HM : Hid (Mm w (w1.setCell ⟨w.heap.size + 1, 0, none⟩ (.int .i64 (kd (tex s q i) : Nat))) (kd (tex s q i) : Nat) q 0 0) := hM.set 0 _ rfl
  have hne : tex s q i ≠ [] := by
    intro h0
    have := tex_length (q := q) hie
    rw [h0] at this
    simp at this
    omega
  have H2 : Hid (kd (tex s q i) ≠ 2) := by
    show kd (tex s q i) ≠ 2
    intro h
    rw [kd_num, letters_num ha hne] at h
    cases h
  have cs := fun W => spelt_any (w := W) (tex s q i) ha hne
  have hcut := cut_text s q i (Nat.le_of_lt h1) hie
  obtain ⟨c0, c1, c2, c3, hfz⟩ := hM.cells
  have hf0 := hfz 0
  clear hE hk hM hfz ha hne
  have i1 : ¬ (i : Int) < (s.length : Int) := by omega
  have HI : Hid (i = s.length) := hlt
  clear hlt
  generalize tex s q i = x at *
  generalize kd x = kx at *
  refine ⟨_, rfl, ?_⟩
  go_wp2_with fail
  refine Calls.mono (cs _) ?_
  rintro e'' w3 ⟨rfl, rfl⟩
  go_wp2_with fail
  go_step3
  exact ⟨_, by omega, i, q, kx, 0, dg, .inr (.inr (.inr (.inr (.inl ⟨rfl, rfl, e, HE.out, by omega, h2, fun y => ⟨(HC.out.1 y).symm, fun z => absurd z H2.out⟩, HC.out.2⟩)))), Fr.mk' rfl rfl rfl rfl rfl rfl, HM.out⟩

set_option maxRecDepth 100000 in
set_option maxHeartbeats 1000000 in
theorem rd2c {w w1 : World} {s : List UInt8} (_ : s.length ≤ 281474976710656) {p q e i dg : Nat} {a : Act} (hE : At1 s p q e) (h1 : q < i) (h2 : i ≤ e) (ha : (tex s q i).all isL = true) (hk : (i = e → kd (tex s q e) = kd (tex s q i)) ∧ (i < e → kd (tex s q e) = 1)) (hlt : i < s.length) (hc : isL s[i] = false)
    (hF : Fr s w.heap.size (w.heap.size + 1) i dg a) (hM : Mm w w1 0 q 0 0) : Rw w s p (6 * (s.length - i) + 3) 2 a w1 := by
  obtain ⟨u, rfl⟩ := hF
  have hie := Nat.le_trans h2 hE.within
  have HE : Hid (At1 s p q e) := hE
  have HC : Hid ((i = e → kd (tex s q e) = kd (tex s q i)) ∧ (i < e → kd (tex s q e) = 1)) := hk
  have HM : Hid (Mm w (w1.setCell ⟨w.heap.size + 1, 0, none⟩ (.int .i64 (kd (tex s q i) : Nat))) (kd (tex s q i) : Nat) q 0 0) := hM.set 0 _ rfl
  have hne : tex s q i ≠ [] := by
    intro h0
    have := tex_length (q := q) hie
    rw [h0] at this
    simp at this
    omega
  have H2 : Hid (kd (tex s q i) ≠ 2) := by
    show kd (tex s q i) ≠ 2
    intro h
    rw [kd_num, letters_num ha hne] at h
    cases h
  have cs := fun W => spelt_any (w := W) (tex s q i) ha hne
  have hcut := cut_text s q i (Nat.le_of_lt h1) hie
  obtain ⟨c0, c1, c2, c3, hfz⟩ := hM.cells
  have hf0 := hfz 0
  clear hE hk hM hfz ha hne
  have i1 : (i : Int) < (s.length : Int) := by omega
  have i0 : (0 : Int) ≤ (i : Int) := by omega
  have cl := fun W => isLetter_any (w := W) s[i]
  rw [hc] at cl
  have hx := at_text s i hlt (by simpa [ByteArray.size] using hlt)
  clear hc
  generalize s[i] = c at *
  generalize tex s q i = x at *
  generalize kd x = kx at *
  refine ⟨_, rfl, ?_⟩
  go_wp2_with fail
  refine Calls.mono (cl _) ?_
  rintro e' w2 ⟨rfl, rfl⟩
  go_wp2_with fail
  refine Calls.mono (cs _) ?_
  rintro e'' w3 ⟨rfl, rfl⟩
  go_wp2_with fail
  go_step3
  exact ⟨_, by omega, i, q, kx, 0, dg, .inr (.inr (.inr (.inr (.inl ⟨rfl, rfl, e, HE.out, by omega, h2, fun y => ⟨(HC.out.1 y).symm, fun z => absurd z H2.out⟩, HC.out.2⟩)))), Fr.mk' rfl rfl rfl rfl rfl rfl, HM.out⟩

set_option maxRecDepth 100000 in
set_option maxHeartbeats 1000000 in
theorem rd4 {w w1 : World} {s : List UInt8} (_ : s.length ≤ 281474976710656) {p q e i dg k : Nat} {n : Int} {a : Act} (hE : At1 s p q e) (h1 : q ≤ i) (h2 : i ≤ e) (hk : kd (tex s q e) = 1)
    (hF : Fr s w.heap.size (w.heap.size + 1) i dg a) (hM : Mm w w1 (k : Nat) q 0 n) (IH : Ri w s p (6 * (s.length - i) + 2)) : Rw w s p (6 * (s.length - i) + 2) 4 a w1 := by
  obtain ⟨u, rfl⟩ := hF
  have HE : Hid (At1 s p q e) := hE
  have HC : Hid (kd (tex s q e) = 1) := hk
  have HM : Hid (Mm w (w1.setCell ⟨w.heap.size + 1, 0, none⟩ (.int .i64 1)) 1 q 0 n) := hM.set 0 _ rfl
  obtain ⟨c0, c1, c2, c3, hfz⟩ := hM.cells
  have hf0 := hfz 0
  clear hE hk hM hfz
  refine ⟨_, rfl, ?_⟩
  go_wp2_with fail
  go_step3
  iterate 2 (first | go_values | go_skip | go_guarded | go_step | go_upon | go_back)
  refine From.use (IH.out (6 * (s.length - i) + 1) 5 _ _ (by omega) ⟨i, q, 1, n, dg, .inr (.inr (.inr (.inr (.inl ⟨rfl, rfl, e, HE.out, h1, h2, fun _ => ⟨HC.out.symm, fun h => absurd h (by decide)⟩, fun _ => HC.out⟩)))), ?_, ?_⟩) rfl
  · exact Fr.mk' rfl rfl rfl rfl rfl rfl
  · exact HM.out

set_option maxRecDepth 100000 in
set_option maxHeartbeats 1000000 in
theorem rd5a {w w1 : World} {s : List UInt8} (_ : s.length ≤ 281474976710656) {p q e i dg k : Nat} {n : Int} {a : Act} (hE : At1 s p q e) (h1 : q ≤ i) (h2 : i < e) (hk : kd (tex s q e) = 1) (hlt : i < s.length) (hc : s[i] ≠ 32)
    (hF : Fr s w.heap.size (w.heap.size + 1) i dg a) (hM : Mm w w1 (k : Nat) q 0 n) : Rw w s p (6 * (s.length - i) + 1) 5 a w1 := by
  obtain ⟨u, rfl⟩ := hF
  have HE : Hid (At1 s p q e) := hE
  have HC : Hid (kd (tex s q e) = 1) := hk
  have HM : Hid (Mm w w1 (k : Nat) q 0 n) := hM
  have hx := at_text s i hlt (by simpa [ByteArray.size] using hlt)
  have hc' : ((s[i].toNat : Int) == 32) = false := by simp only [beq_eq_false_iff_ne, ne_eq]; intro q; exact hc (UInt8.toNat_inj.1 (by simpa using (by omega : s[i].toNat = 32)))
  clear hE hk hM hc
  generalize s[i] = c at *
  have i1 : (i : Int) < (s.length : Int) := by omega
  have i0 : (0 : Int) ≤ (i : Int) := by omega
  refine ⟨_, rfl, ?_⟩
  go_wp2_with fail
  go_step3
  exact ⟨_, by omega, i + 1, q, k, n, dg, .inr (.inr (.inr (.inl ⟨rfl, rfl, e, HE.out, by omega, by omega, HC.out⟩))), Fr.mk' rfl rfl rfl rfl rfl rfl, HM.out⟩

set_option maxRecDepth 100000 in
set_option maxHeartbeats 1000000 in
theorem rd5b {w w1 : World} {s : List UInt8} (_ : s.length ≤ 281474976710656) {p q e i dg k : Nat} {n : Int} {a : Act} (hE : At1 s p q e) (h2 : i = e) (hk : k = kd (tex s q e) ∧ (k = 2 → n = num (tex s q e))) (hlt : i = s.length)
    (hF : Fr s w.heap.size (w.heap.size + 1) i dg a) (hM : Mm w w1 (k : Nat) q 0 n) (IH : Ri w s p (6 * (s.length - i) + 1)) : Rw w s p (6 * (s.length - i) + 1) 5 a w1 := by
  obtain ⟨u, rfl⟩ := hF
  have HE : Hid (At1 s p q e ∧ i = e ∧ k = kd (tex s q e) ∧ (k = 2 → n = num (tex s q e))) := ⟨hE, h2, hk⟩
  have HM : Hid (Mm w w1 (k : Nat) q 0 n) := hM
  clear hE hk hM h2
  have i1 : ¬ (i : Int) < (s.length : Int) := by omega
  have HI : Hid (i = s.length) := hlt
  clear hlt
  refine ⟨_, rfl, ?_⟩
  go_wp2_with fail
  go_step3
  iterate 2 (first | go_values | go_skip | go_guarded | go_step | go_upon | go_back)
  refine From.use (IH.out (6 * (s.length - i)) 1 _ _ (by omega) ⟨i, q, k, n, dg, .inr (.inr (.inr (.inr (.inr ⟨rfl, rfl, .inr ⟨e, HE.out⟩⟩)))), ?_, ?_⟩) rfl
  · exact Fr.mk' rfl rfl rfl rfl rfl rfl
  · exact HM.out

set_option maxRecDepth 100000 in
set_option maxHeartbeats 1000000 in
theorem rd5c {w w1 : World} {s : List UInt8} (_ : s.length ≤ 281474976710656) {p q e i dg k : Nat} {n : Int} {a : Act} (hE : At1 s p q e) (h2 : i = e) (hk : k = kd (tex s q e) ∧ (k = 2 → n = num (tex s q e))) (hlt : i < s.length) (hc : s[i] = 32)
    (hF : Fr s w.heap.size (w.heap.size + 1) i dg a) (hM : Mm w w1 (k : Nat) q 0 n) (IH : Ri w s p (6 * (s.length - i) + 1)) : Rw w s p (6 * (s.length - i) + 1) 5 a w1 := by
  obtain ⟨u, rfl⟩ := hF
  have HE : Hid (At1 s p q e ∧ i = e ∧ k = kd (tex s q e) ∧ (k = 2 → n = num (tex s q e))) := ⟨hE, h2, hk⟩
  have HM : Hid (Mm w w1 (k : Nat) q 0 n) := hM
  clear hE hk hM h2
  have i1 : (i : Int) < (s.length : Int) := by omega
  have i0 : (0 : Int) ≤ (i : Int) := by omega
  have hx := at_text s i hlt (by simpa [ByteArray.size] using hlt)
  rw [hc] at hx
  clear hc
  refine ⟨_, rfl, ?_⟩
  go_wp2_with fail
  go_step3
  iterate 2 (first | go_values | go_skip | go_guarded | go_step | go_upon | go_back)
  refine From.use (IH.out (6 * (s.length - i)) 1 _ _ (by omega) ⟨i, q, k, n, dg, .inr (.inr (.inr (.inr (.inr ⟨rfl, rfl, .inr ⟨e, HE.out⟩⟩)))), ?_, ?_⟩) rfl
  · exact Fr.mk' rfl rfl rfl rfl rfl rfl
  · exact HM.out

set_option maxRecDepth 100000 in
set_option maxHeartbeats 1000000 in
theorem rd1 {w w1 : World} {s : List UInt8} (_ : s.length ≤ 281474976710656) {p q i dg k : Nat} {n : Int} {a : Act} (hR : Rd s p k q i n)
    (hF : Fr s w.heap.size (w.heap.size + 1) i dg a) (hM : Mm w w1 (k : Nat) q 0 n) : Rw w s p (6 * (s.length - i)) 1 a w1 := by
  obtain ⟨u, rfl⟩ := hF
  have HR : Hid (Rd s p k q i n) := hR
  have HM : Hid (Mm w (w1.setCell ⟨w.heap.size + 1, 2, none⟩ (.int .i64 (i : Nat))) (k : Nat) q i n) := hM.set 2 _ rfl
  obtain ⟨c0, c1, c2, c3, hfz⟩ := hM.cells
  have hf2 := hfz 2
  have r0 : w1.cell? ⟨w.heap.size, 0, none⟩ = some (.int .i64 0) := by simp [World.cell?, hM.res]
  have r1 : w1.cell? ⟨w.heap.size, 1, none⟩ = some (.int .i64 0) := by simp [World.cell?, hM.res]
  have r2 : w1.cell? ⟨w.heap.size, 2, none⟩ = some (.int .i64 0) := by simp [World.cell?, hM.res]
  have r3 : w1.cell? ⟨w.heap.size, 3, none⟩ = some (.int .i64 0) := by simp [World.cell?, hM.res]
  have rf : ∀ j, w1.frozen? ⟨w.heap.size, j, none⟩ = false := fun j => by simp [World.frozen?, hM.res]
  have rf0 := rf 0
  have rf1 := rf 1
  have rf2 := rf 2
  have rf3 := rf 3
  clear hR hM hfz rf
  refine ⟨_, rfl, ?_⟩
  go_wp2_with fail
  simp only [Exit.jumps]
  refine bodyPost_ret (results_word rfl _ _ rfl (set_word (set_word (set_word (set_word HM.out.res 0 _) 1 _) 2 _) 3 _)) rfl ⟨⟨k, q, i, n, rfl, HR.out⟩, ?_⟩
  have := HM.out.kept
  refine ⟨this.os, this.tape, this.output, Nat.le_trans this.size (by simp [World.setCell]), fun j hj hp => ?_⟩
  rw [heap_setCell_other _ _ j _ (by simp; omega), heap_setCell_other _ _ j _ (by simp; omega), heap_setCell_other _ _ j _ (by simp; omega), heap_setCell_other _ _ j _ (by simp; omega)]
  exact this.block j hj hp

set_option maxRecDepth 100000 in
set_option maxHeartbeats 1000000 in
theorem read_any {w : World} {s : List UInt8} (hs : s.length ≤ 281474976710656) (p : Nat) (hp : p ≤ s.length) :
    Calls Tryd.prog 48 #[.string ⟨s.toArray⟩, .int .i64 (p : Nat)] w fun e w' => (∃ (k q t : Nat) (n : Int), e = .returned (.agg #[.int .i64 (k : Nat), .int .i64 (q : Nat), .int .i64 (t : Nat), .int .i64 n]) ∧ Rd s p k q t n) ∧ Kept (fun _ => True) w w' := by
  go_enter Tryd.func48, Tryd.ntmps48
  go_wp2
  refine wp_scope_all (c := scopeIn Tryd.f48.body) (Rj w s p) ?_ ?_
  · rintro m l a w1 ⟨i, q, k, n, dg, hR, hF, hM⟩ IH
    rcases hR with ⟨rfl, rfl, h1, h2, h3, rfl, rfl, rfl, rfl⟩ | ⟨rfl, rfl, e, hE, hD, h1, h2, h4, ha, rfl, rfl⟩ | ⟨rfl, rfl, e, hE, h1, h2, ha, hl, rfl, rfl⟩ | ⟨rfl, rfl, e, hE, h1, h2, hk⟩ | ⟨rfl, rfl, e, hE, h1, h2, hk1, hk2⟩ | ⟨rfl, rfl, hR⟩
    · rcases Nat.lt_or_ge i s.length with hlt | hge
      · by_cases hc : s[i] = 32
        · exact rd0a hs h1 hlt h3 hc hF hM
        · exact rd0c hs h1 hlt h3 hc hF hM IH
      · exact rd0b hs (by omega) h3 hF hM
    · have hql := Nat.lt_of_lt_of_le hE.some hE.within
      have hdq : q ≤ dg := by rcases hD.spot with ⟨x, _⟩ | ⟨x, _⟩ <;> omega
      have hb : (digs (tex s dg i) : Int) < 10000 := by
        have := digs_lt _ ha
        have hl := tex_length (q := dg) (Nat.le_trans h2 hE.within)
        rw [hl] at this
        have := Nat.lt_of_lt_of_le this (Nat.pow_le_pow_right (n := 10) (by decide) (show i - dg ≤ 4 by omega))
        omega
      have out : (i = e ∨ i = dg + 4 ∨ ∃ hi : i < s.length, isD s[i] = false) → ((i = s.length) ∨ (∃ _ : i < s.length, i = dg + 4) ∨ (∃ hi : i < s.length, i < dg + 4 ∧ isD s[i] = false)) → Rw w s p (6 * (s.length - i) + 4) 3 a w1 := by
        intro hd how
        rcases Nat.eq_or_lt_of_le h1 with h0 | h0
        · have hd' : dg = e ∨ ∃ hi : dg < s.length, isD s[dg] = false := by
            subst h0
            rcases hd with hd | hd | hd
            · exact .inl hd
            · omega
            · exact .inr hd
          have hk := hD.none hE hd'
          rcases how with hw | ⟨_, hw⟩ | ⟨hi, hw, hc⟩
          · exact rd3na hs hE (by omega) h2 h0.symm hk hw hF hM
          · omega
          · exact rd3nc hs hE (by omega) h2 h0.symm hk hi hw hc hF hM
        · have hk := hD.some hE h0 h2 h4 ha hd
          rcases hD.spot with ⟨hq, hm⟩ | ⟨hq, hm⟩
          · rw [if_pos hq] at hk
            rcases how with hw | ⟨hi, hw⟩ | ⟨hi, hw, hc⟩
            · exact rd3pa hs hE h0 hdq h2 ⟨by omega, hb⟩ hk hm hw hF hM
            · exact rd3pb hs hE h0 hdq h2 ⟨by omega, hb⟩ hk hm hi hw hF hM
            · exact rd3pc hs hE h0 hdq h2 ⟨by omega, hb⟩ hk hm hi hw hc hF hM
          · rw [if_neg (by omega)] at hk
            rcases how with hw | ⟨hi, hw⟩ | ⟨hi, hw, hc⟩
            · exact rd3ma hs hE h0 hdq h2 ⟨by omega, hb⟩ hk hm hw hF hM
            · exact rd3mb hs hE h0 hdq h2 ⟨by omega, hb⟩ hk hm hi hw hF hM
            · exact rd3mc hs hE h0 hdq h2 ⟨by omega, hb⟩ hk hm hi hw hc hF hM
      rcases hE.out (Nat.le_trans hdq h1) h2 with ⟨hi, h5, h6⟩ | ⟨h5, h6⟩ | ⟨h5, hi, h6⟩
      · by_cases h7 : i = dg + 4
        · exact out (.inr (.inl h7)) (.inr (.inl ⟨hi, h7⟩))
        · by_cases hc : isD s[i] = true
          · exact rd3a hs hE hD h1 h5 (by omega) ha hi hc hF hM
          · have hc' : isD s[i] = false := by simpa using hc
            exact out (.inr (.inr ⟨hi, hc'⟩)) (.inr (.inr ⟨hi, by omega, hc'⟩))
      · exact out (.inl h5) (.inl h6)
      · by_cases h7 : i = dg + 4
        · exact out (.inl h5) (.inr (.inl ⟨hi, h7⟩))
        · exact out (.inl h5) (.inr (.inr ⟨hi, by omega, by rw [h6]; decide⟩))
    · have hql := Nat.lt_of_lt_of_le hE.some hE.within
      have out : (i = e ∨ ∃ hi : i < s.length, isL s[i] = false) → ((i = s.length) ∨ (∃ hi : i < s.length, isL s[i] = false)) → Rw w s p (6 * (s.length - i) + 3) 2 a w1 := by
        intro hd how
        have h0 : q < i := by
          rcases Nat.eq_or_lt_of_le h1 with h0 | h0
          · subst h0
            rcases how with hw | ⟨hi, hw⟩
            · omega
            · rw [hl hi] at hw; cases hw
          · exact h0
        have hk := letters_some hE h0 h2 hl hd
        rcases how with hw | ⟨hi, hw⟩
        · exact rd2b hs hE h0 h2 ha hk hw hF hM
        · exact rd2c hs hE h0 h2 ha hk hi hw hF hM
      rcases hE.out h1 h2 with ⟨hi, h5, h6⟩ | ⟨h5, h6⟩ | ⟨h5, hi, h6⟩
      · by_cases hc : isL s[i] = true
        · exact rd2a hs hE h1 h5 ha hl hi hc hF hM
        · have hc' : isL s[i] = false := by simpa using hc
          exact out (.inr ⟨hi, hc'⟩) (.inr ⟨hi, hc'⟩)
      · exact out (.inl h5) (.inl h6)
      · exact out (.inl h5) (.inr ⟨hi, by rw [h6]; decide⟩)
    · exact rd4 hs hE h1 h2 hk hF hM IH
    · rcases hE.out h1 h2 with ⟨hi, h5, h6⟩ | ⟨h5, h6⟩ | ⟨h5, hi, h6⟩
      · exact rd5a hs hE h1 h5 (hk2 h5) hi h6 hF hM
      · exact rd5b hs hE h5 (hk1 h5) h6 hF hM IH
      · exact rd5c hs hE h5 (hk1 h5) hi h6 hF hM IH
    · refine rd1 hs ?_ hF hM
      rcases hR with ⟨x1, x2, x3, x4⟩ | ⟨e, x1, x2, x3⟩
      · exact .inl ⟨x3, x1, x2, x4⟩
      · subst x2
        exact .inr ⟨x1, x3⟩
  · intro H
    have HH : Hid _ := H
    clear H
    conv => arg 2; whnf
    go_wp2
    go_step3
    iterate 2 (first | go_values | go_skip | go_guarded | go_step | go_upon | go_back)
    refine From.use (HH.out (6 * (s.length - p) + 5) 0 _ _ ⟨p, 0, 0, 0, 0, .inl ⟨rfl, rfl, Nat.le_refl _, hp, rfl, rfl, rfl, rfl, rfl⟩, ?_, ?_⟩) rfl
    · exact Fr.mk' rfl rfl rfl rfl rfl rfl
    · exact ⟨((Kept.refl _ _).alloc _).alloc _, (alloc_two w _ _).1, (alloc_two w _ _).2⟩

end Go.Proofs.YtnddpalngjmhnabDoor
