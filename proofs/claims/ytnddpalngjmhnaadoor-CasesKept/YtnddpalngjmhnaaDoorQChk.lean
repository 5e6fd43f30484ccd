/-
  What Check tells and what a guard is worth, plainly; the same by a row of what is open.
-/
import Derived.Test.YtnddpalngjmhnaaDoorQ1
namespace Go.Proofs.YtnddpalngjmhnaaDoor
open Go.RowKit

/-- What is wrong with a word of kind k. -/
def rfk (ns : List (List UInt8)) (k : Nat) (x : List UInt8) : Nat := if k = 0 then 10 else if k = 1 then 12 else if k = 3 ∧ x ∉ ns then 20 else 0
def rf (ns : List (List UInt8)) (x : List UInt8) : Nat := rfk ns (kd x) x
theorem rf_cases (ns : List (List UInt8)) (x : List UInt8) : (kd x = 1 ∧ rf ns x = 12) ∨ (kd x = 3 ∧ x ∉ ns ∧ rf ns x = 20) ∨ (kd x ≠ 1 ∧ (kd x = 3 → x ∈ ns) ∧ rf ns x = 0) := by
  have h := kd_cases x
  unfold rf rfk
  rw [if_neg (by omega)]
  by_cases h1 : kd x = 1
  · exact .inl ⟨h1, if_pos h1⟩
  · rw [if_neg h1]
    by_cases h3 : kd x = 3 ∧ x ∉ ns
    · exact .inr (.inl ⟨h3.1, h3.2, if_pos h3⟩)
    · exact .inr (.inr ⟨h1, fun h => Classical.byContradiction fun hx => h3 ⟨h, hx⟩, if_neg h3⟩)

/-- So many guards, one behind the other. -/
def times {α β : Type} (g : List α → β ⊕ List α) : Nat → List α → β ⊕ List α
  | 0, ws => .inr ws
  | k + 1, ws => match g ws with
    | .inl e => .inl e
    | .inr r => times g k r
/-- One guard, within so many operations; L: where the text ends. -/
def lk (ns : List (List UInt8)) (L : Nat) : Nat → List (Nat × List UInt8) → (Nat × Nat) ⊕ List (Nat × List UInt8)
  | 0, ws => match ws with
    | [] => .inl (10, L)
    | (p, x) :: _ => .inl (if rf ns x ≠ 0 then rf ns x else 22, p)
  | f + 1, ws => match ws with
    | [] => .inl (10, L)
    | (p, x) :: r => if rf ns x ≠ 0 then .inl (rf ns x, p) else times (lk ns L f) (ar (kd x)) r
/-- What stands behind a whole guard. -/
def tailOf (ns : List (List UInt8)) : List (Nat × List UInt8) → Nat × Nat
  | [] => (0, 0)
  | (p, x) :: _ => (if rf ns x ≠ 0 then rf ns x else 11, p)
/-- Check. -/
def chkW (ns : List (List UInt8)) (L : Nat) (ws : List (Nat × List UInt8)) : Nat × Nat := match lk ns L 17 ws with
  | .inl e => e
  | .inr r => tailOf ns r
def chk (ns : List (List UInt8)) (s : List UInt8) : Nat × Nat := if 120 < s.length then (3, 0) else chkW ns s.length (Wo s 0)

/-- An operation of two. -/
def jn (k : Nat) (a b : Int) : Int :=
  if k = 5 then tr (decide (a ≠ 0 ∧ b ≠ 0)) else if k = 6 then tr (decide (a ≠ 0 ∨ b ≠ 0)) else if k = 7 then tr (decide (a < b)) else if k = 8 then tr (decide (a = b)) else if k = 9 then wrap64 (a + b) else wrap64 (a - b)
/-- What a guard is worth, and what stands behind it. -/
def vl (g : List UInt8 → Int) : Nat → List (List UInt8) → Int × List (List UInt8)
  | 0, xs => (0, xs)
  | f + 1, xs => match xs with
    | [] => (0, [])
    | x :: r => if kd x = 2 then (num x, r) else if kd x = 3 then (g x, r) else
      if kd x = 4 then (tr (decide ((vl g f r).1 = 0)), (vl g f r).2) else (jn (kd x) (vl g f r).1 (vl g f (vl g f r).2).1, (vl g f (vl g f r).2).2)
/-- A guard without places: what stands behind it, if it is whole. -/
def gd (ns : List (List UInt8)) : Nat → List (List UInt8) → Unit ⊕ List (List UInt8)
  | 0, _ => .inl ()
  | f + 1, xs => match xs with
    | [] => .inl ()
    | x :: r => if rf ns x ≠ 0 then .inl () else times (gd ns f) (ar (kd x)) r

theorem lk_gd (ns : List (List UInt8)) (L : Nat) (f : Nat) (ws : List (Nat × List UInt8)) :
    (∀ e, lk ns L f ws = .inl e → gd ns f (ws.map Prod.snd) = .inl ()) ∧ (∀ r, lk ns L f ws = .inr r → gd ns f (ws.map Prod.snd) = .inr (r.map Prod.snd)) := by
  induction f generalizing ws with
  | zero =>
    refine ⟨fun _ _ => rfl, fun r h => ?_⟩
    cases ws with
    | nil => cases h
    | cons p ws => cases h
  | succ f ih =>
    have ht : ∀ k ws, (∀ e, times (lk ns L f) k ws = .inl e → times (gd ns f) k (ws.map Prod.snd) = .inl ()) ∧ (∀ r, times (lk ns L f) k ws = .inr r → times (gd ns f) k (ws.map Prod.snd) = .inr (r.map Prod.snd)) := by
      intro k
      induction k with
      | zero =>
        intro ws
        refine ⟨fun _ h => by simp [times] at h, fun r h => ?_⟩
        simp only [times, Sum.inr.injEq] at h
        subst h
        rfl
      | succ k ihk =>
        intro ws
        cases hw : lk ns L f ws with
        | inl e =>
          have := (ih ws).1 e hw
          refine ⟨fun _ _ => by simp only [times, this], fun r h => by simp only [times, hw] at h; cases h⟩
        | inr r =>
          have := (ih ws).2 r hw
          simp only [times, hw, this]
          exact ihk r
    cases ws with
    | nil => exact ⟨fun _ _ => rfl, fun r h => by cases h⟩
    | cons p ws =>
      obtain ⟨p, x⟩ := p
      simp only [lk, gd, List.map_cons]
      by_cases h : rf ns x ≠ 0
      · rw [if_pos h, if_pos h]
        exact ⟨fun _ _ => rfl, fun r h => by cases h⟩
      · simp only [if_neg h]
        exact ht _ _

/-- What is worth something is what is whole. -/
theorem gd_vl (ns : List (List UInt8)) (g : List UInt8 → Int) (f : Nat) (xs r : List (List UInt8)) (h : gd ns f xs = .inr r) : (vl g f xs).2 = r := by
  induction f generalizing xs r with
  | zero => cases h
  | succ f ih =>
    cases xs with
    | nil => cases h
    | cons x xs =>
      simp only [gd] at h
      by_cases hr : rf ns x ≠ 0
      · rw [if_pos hr] at h; cases h
      · rw [if_neg hr] at h
        have hk := kd_cases x
        have h1 : kd x ≠ 1 := by
          rcases rf_cases ns x with ⟨_, h1⟩ | ⟨_, _, h1⟩ | ⟨h1, _⟩
          · omega
          · omega
          · exact h1
        simp only [vl]
        by_cases h2 : kd x = 2
        · rw [if_pos h2]
          rw [h2] at h
          simpa [ar, times] using h
        · rw [if_neg h2]
          by_cases h3 : kd x = 3
          · rw [if_pos h3]
            rw [h3] at h
            simpa [ar, times] using h
          · rw [if_neg h3]
            by_cases h4 : kd x = 4
            · rw [if_pos h4]
              rw [h4] at h
              simp only [ar, times, if_true] at h
              cases hg : gd ns f xs with
              | inl e => rw [hg] at h; cases h
              | inr r1 =>
                rw [hg] at h
                simp only [Sum.inr.injEq] at h
                rw [← h]
                exact ih xs r1 hg
            · rw [if_neg h4]
              have ha : ar (kd x) = 2 := by unfold ar; rw [if_neg h4, if_pos (by omega)]
              rw [ha] at h
              simp only [times] at h
              cases hg : gd ns f xs with
              | inl e => rw [hg] at h; cases h
              | inr r1 =>
                rw [hg] at h
                simp only at h
                have e1 := ih xs r1 hg
                cases hg2 : gd ns f r1 with
                | inl e => rw [hg2] at h; cases h
                | inr r2 =>
                  rw [hg2] at h
                  simp only [Sum.inr.injEq] at h
                  rw [e1, ← h]
                  exact ih r1 r2 hg2

/-- The document's Check: the row of what each open operation still wants, the innermost first. -/
def rowRun (ns : List (List UInt8)) (L : Nat) : List Nat → List (Nat × List UInt8) → Nat × Nat
  | left, [] => if left.any (fun n => decide (0 < n)) = true then (10, L) else (0, 0)
  | left, (p, x) :: r =>
    if rf ns x ≠ 0 then (rf ns x, p) else
      if 17 < (left.dropWhile (fun n => n == 0)).length then (22, p) else
        match left.dropWhile (fun n => n == 0) with
        | [] => (11, p)
        | n :: t => if 0 < ar (kd x) then rowRun ns L (ar (kd x) :: (n - 1) :: t) r else rowRun ns L ((n - 1) :: t) r
theorem row_nought (ns : List (List UInt8)) (L : Nat) (S : List Nat) (ws : List (Nat × List UInt8)) : rowRun ns L (0 :: S) ws = rowRun ns L S ws := by
  cases ws with
  | nil => simp [rowRun]
  | cons p ws => simp [rowRun]
/-- One guard of it. -/
theorem row_one (ns : List (List UInt8)) (L : Nat) (f : Nat) (S : List Nat) (hf : S.length + f = 17) (k : Nat) (ws : List (Nat × List UInt8)) :
    rowRun ns L ((k + 1) :: S) ws = match lk ns L f ws with
      | .inl e => e
      | .inr r => rowRun ns L (k :: S) r := by
  induction f generalizing S k ws with
  | zero =>
    cases ws with
    | nil => simp [rowRun, lk]
    | cons p ws =>
      obtain ⟨p, x⟩ := p
      simp only [rowRun, lk]
      by_cases h : rf ns x ≠ 0
      · simp [h]
      · have e : ((k + 1) :: S).dropWhile (fun n => n == 0) = (k + 1) :: S := by simp
        rw [if_neg h, if_neg h, e, if_pos (by simp; omega)]
  | succ f ih =>
    cases ws with
    | nil => simp [rowRun, lk]
    | cons p ws =>
      obtain ⟨p, x⟩ := p
      have e : ((k + 1) :: S).dropWhile (fun n => n == 0) = (k + 1) :: S := by simp
      simp only [rowRun, lk]
      by_cases h : rf ns x ≠ 0
      · simp [h]
      · rw [if_neg h, if_neg h, e, if_neg (by simp; omega)]
        simp only [Nat.add_sub_cancel]
        have hn : ∀ n ws, rowRun ns L (n :: k :: S) ws = match times (lk ns L f) n ws with
            | .inl e => e
            | .inr r => rowRun ns L (k :: S) r := by
          intro n
          induction n with
          | zero => intro ws; rw [row_nought]; rfl
          | succ n ihn =>
            intro ws
            rw [ih (k :: S) (by simp; omega) n ws]
            simp only [times]
            cases hw : lk ns L f ws with
            | inl e => rfl
            | inr r => exact ihn r
        by_cases ha : 0 < ar (kd x)
        · rw [if_pos ha, hn]
        · have h0 : ar (kd x) = 0 := by omega
          rw [if_neg ha, h0]
          rfl
theorem row_chk (ns : List (List UInt8)) (L : Nat) (ws : List (Nat × List UInt8)) : rowRun ns L [1] ws = chkW ns L ws := by
  rw [row_one ns L 17 [] rfl 0 ws]
  unfold chkW
  cases lk ns L 17 ws with
  | inl e => rfl
  | inr r =>
    show rowRun ns L [0] r = tailOf ns r
    rw [row_nought]
    cases r with
    | nil => rfl
    | cons p r =>
      obtain ⟨p, x⟩ := p
      simp only [rowRun, tailOf]
      split <;> rfl

end Go.Proofs.YtnddpalngjmhnaaDoor
