/-
  The document's Accept.
-/
import Derived.Test.YtnogpjhcpdngcaaB11
namespace Go.Proofs.Ytnogpjhcpdngcaa
open Go.RowKit

/-- One vote of the old ones is passed. -/
def ins1 (s : Int) (x : Vo) (st : List Vo × Bool) (y : Vo) : List Vo × Bool := if (!st.2 && decide (s ≤ y.s)) = true then (st.1 ++ [x], true) else st
def ins2 (s : Int) (st : List Vo × Bool) (y : Vo) : List Vo × Bool := if y.s = s then st else (st.1 ++ [y], st.2)
def insAll (s : Int) (x : Vo) (L : List Vo) : List Vo × Bool := L.foldl (fun st y => ins2 s (ins1 s x st y) y) ([], false)
def inserted (s : Int) (x : Vo) (L : List Vo) : List Vo := if (insAll s x L).2 = true then (insAll s x L).1 else (insAll s x L).1 ++ [x]

theorem insAll_step (s : Int) (x : Vo) {L : List Vo} {i : Nat} (hi : i < L.length) : insAll s x (L.take (i + 1)) = ins2 s (ins1 s x (insAll s x (L.take i)) L[i]) L[i] := by
  rw [List.take_succ_eq_append_getElem hi]
  unfold insAll
  rw [List.foldl_append]
  rfl
theorem insAll_snoc (s : Int) (x : Vo) (L : List Vo) (y : Vo) : insAll s x (L ++ [y]) = ins2 s (ins1 s x (insAll s x L) y) y := by
  unfold insAll
  rw [List.foldl_append]
  rfl

theorem ins1_yes {s : Int} {x : Vo} {st : List Vo × Bool} {y : Vo} (h : st.2 = false) (hs : s ≤ y.s) : ins1 s x st y = (st.1 ++ [x], true) := by simp [ins1, h, hs]
theorem ins1_no {s : Int} {x : Vo} {st : List Vo × Bool} {y : Vo} (h : st.2 = true ∨ ¬ s ≤ y.s) : ins1 s x st y = st := by
  unfold ins1
  rw [if_neg]
  rcases h with h | h <;> simp [h]
theorem ins2_same {s : Int} {st : List Vo × Bool} {y : Vo} (h : y.s = s) : ins2 s st y = st := by simp [ins2, h]
theorem ins2_other {s : Int} {st : List Vo × Bool} {y : Vo} (h : y.s ≠ s) : ins2 s st y = (st.1 ++ [y], st.2) := by simp [ins2, h]

/-- The document's row is that of the map with one vote more. -/
theorem insAll_votes (f : Vs) (s : Nat) (b : Bl) (v : ByteArray) : ∀ k : Nat, (k ≤ s → insAll s ⟨s, b, v⟩ (votesUp f 0 k) = (votesUp f 0 k, false)) ∧ (s < k → ((insAll s ⟨s, b, v⟩ (votesUp f 0 k)).2 = true ∧ (insAll s ⟨s, b, v⟩ (votesUp f 0 k)).1 = votesUp (upd f s b v) 0 k) ∨ ((insAll s ⟨s, b, v⟩ (votesUp f 0 k)).2 = false ∧ (insAll s ⟨s, b, v⟩ (votesUp f 0 k)).1 ++ [⟨s, b, v⟩] = votesUp (upd f s b v) 0 k))
  | 0 => ⟨fun _ => by rw [votesUp_none]; rfl, fun h => by omega⟩
  | k + 1 => by
    obtain ⟨h1, h2⟩ := insAll_votes f s b v k
    have e1 := votesUp_step f (Nat.zero_le k)
    have e2 := votesUp_step (upd f s b v) (Nat.zero_le k)
    refine ⟨fun hk => ?_, fun hk => ?_⟩
    · rw [e1]
      have h0 := h1 (by omega)
      cases hv : voteAt f k with
      | none => simpa using h0
      | some y =>
        have hy : y.s = k := by
          unfold voteAt at hv
          cases hf : f k with
          | none => rw [hf] at hv; cases hv
          | some z => rw [hf] at hv; simp only [Option.map_some, Option.some.injEq] at hv; rw [← hv]
        simp only [Option.toList_some]
        rw [insAll_snoc, h0]
        rw [ins1_no (.inr (by omega)), ins2_other (by omega)]
    · by_cases hks : k = s
      · subst hks
        have h0 := h1 (Nat.le_refl _)
        have eu : voteAt (upd f k b v) k = some ⟨k, b, v⟩ := by simp [voteAt, upd]
        have ec : votesUp (upd f k b v) 0 k = votesUp f 0 k := votesUp_congr (fun s _ hs => by unfold upd; rw [if_neg (by omega)])
        rw [e2, eu, ec]
        simp only [Option.toList_some]
        rw [e1]
        cases hv : voteAt f k with
        | none => simp only [Option.toList_none, List.append_nil]; rw [h0]; exact .inr ⟨rfl, rfl⟩
        | some y =>
          have hy : y.s = k := by
            unfold voteAt at hv
            cases hf : f k with
            | none => rw [hf] at hv; cases hv
            | some z => rw [hf] at hv; simp only [Option.map_some, Option.some.injEq] at hv; rw [← hv]
          simp only [Option.toList_some]
          rw [insAll_snoc, h0]
          rw [ins1_yes rfl (by omega), ins2_same hy]
          exact .inl ⟨rfl, rfl⟩
      · have h0 := h2 (by omega)
        have eu : voteAt (upd f s b v) k = voteAt f k := by simp [voteAt, upd, hks]
        rw [e2, eu, e1]
        cases hv : voteAt f k with
        | none => simpa using h0
        | some y =>
          have hy : y.s = k := by
            unfold voteAt at hv
            cases hf : f k with
            | none => rw [hf] at hv; cases hv
            | some z => rw [hf] at hv; simp only [Option.map_some, Option.some.injEq] at hv; rw [← hv]
          simp only [Option.toList_some]
          rw [insAll_snoc]
          left
          rcases h0 with ⟨hd, ho⟩ | ⟨hd, ho⟩
          · rw [ins1_no (.inl hd), ins2_other (by omega)]
            exact ⟨hd, by rw [ho]⟩
          · rw [ins1_yes hd (by omega), ins2_other (by omega)]
            exact ⟨rfl, by rw [← ho]⟩
theorem inserted_votes (f : Vs) {s : Nat} (hs : s < 512) (b : Bl) (v : ByteArray) : inserted s ⟨s, b, v⟩ (votesUp f 0 512) = votesUp (upd f s b v) 0 512 := by
  unfold inserted
  rcases (insAll_votes f s b v 512).2 hs with ⟨h1, h2⟩ | ⟨h1, h2⟩
  · rw [if_pos h1, h2]
  · rw [if_neg (by rw [h1]; simp), h2]
theorem fromOn_votes (f : Vs) (a : Int) : fromOn (votesUp f 0 512) a = votesFrom f a := by
  have key : ∀ k : Nat, fromOn (votesUp f 0 k) a = votesUp f a.toNat k := by
    intro k
    induction k with
    | zero => rw [votesUp_none, votesUp_over f (Nat.zero_le _)]; rfl
    | succ k ih =>
      rw [votesUp_step f (Nat.zero_le k)]
      unfold fromOn at *
      rw [List.filter_append, ih]
      by_cases hk : a.toNat ≤ k
      · rw [votesUp_step f hk]
        congr 1
        cases hv : voteAt f k with
        | none => rfl
        | some y =>
          have hy : y.s = k := by
            unfold voteAt at hv
            cases hf : f k with
            | none => rw [hf] at hv; cases hv
            | some z => rw [hf] at hv; simp only [Option.map_some, Option.some.injEq] at hv; rw [← hv]
          simp [hy]
          omega
      · rw [votesUp_over f (by omega : k ≤ a.toNat), votesUp_over f (by omega : k + 1 ≤ a.toNat)]
        cases hv : voteAt f k with
        | none => rfl
        | some y =>
          have hy : y.s = k := by
            unfold voteAt at hv
            cases hf : f k with
            | none => rw [hf] at hv; cases hv
            | some z => rw [hf] at hv; simp only [Option.map_some, Option.some.injEq] at hv; rw [← hv]
          simp [hy]
          omega
  exact key 512
theorem forgot_votes (f : Vs) (a : Int) : votesFrom f a = votesUp (forgot f a) 0 512 := by
  rw [← fromOn_votes]
  have key : ∀ k : Nat, fromOn (votesUp f 0 k) a = votesUp (forgot f a) 0 k := by
    intro k
    induction k with
    | zero => rw [votesUp_none, votesUp_none]; rfl
    | succ k ih =>
      rw [votesUp_step f (Nat.zero_le k), votesUp_step (forgot f a) (Nat.zero_le k), ← ih]
      unfold fromOn
      rw [List.filter_append]
      congr 1
      unfold voteAt forgot
      cases hf : f k with
      | none => simp
      | some z =>
        by_cases hk : (k : Int) < a
        · simp [hk]
        · simp [hk]; omega
  exact key 512

end Go.Proofs.Ytnogpjhcpdngcaa
