/-
  Types of cases on plain texts: what is right, how they are written and read.
-/
import Derived.Test.YtnddpalngjmhnabDoorSB
import Derived.Lib.ItoaNum
import Derived.Lib.TrimByte
namespace Go.Proofs.YtnddpalngjmhnabDoor
open Go.RowKit

/-- An attribute, a stage or mark, a type. -/
structure At where
  name : List UInt8
  start : Int
  lo : Int
  hi : Int
structure Ru where
  name : List UInt8
  guard : List UInt8
structure Ty where
  name : List UInt8
  attrs : List At
  stages : List Ru
  marks : List Ru
def Ty.none : Ty := ⟨[], [], [], []⟩

def ranged (a : At) : Bool := decide (-1000 ≤ a.lo) && decide (a.lo ≤ a.start) && decide (a.start ≤ a.hi) && decide (a.hi ≤ 1000)
def nms (t : Ty) : List (List UInt8) := t.attrs.map At.name ++ t.stages.map Ru.name ++ t.marks.map Ru.name
/-- What is wrong with the names that come, behind those that are had. -/
def rns : List At → List (List UInt8) → List (List UInt8) → Nat
  | _, _, [] => 0
  | ats, had, n :: r => if isName n = false then 20 else if n ∈ had then 21 else if ats.head?.any (fun a => !ranged a) = true then 23 else rns ats.tail (had ++ [n]) r
/-- What is wrong with the guards. -/
def rgs (ns : List (List UInt8)) : List Ru → Nat
  | [] => 0
  | r :: l => if (chk ns r.guard).1 ≠ 0 then (chk ns r.guard).1 else rgs ns l
def right (t : Ty) : Nat :=
  if isName t.name = false then 20 else if 6 < t.attrs.length ∨ 6 < t.stages.length ∨ 6 < t.marks.length then 4
  else if rns t.attrs [] (nms t) ≠ 0 then rns t.attrs [] (nms t) else rgs (nms t) (t.stages ++ t.marks)

/-- What a part says, behind its semicolon. -/
def pA (a : At) : List UInt8 := [32, 97, 116, 116, 114, 32] ++ a.name ++ [32] ++ Lib.itoa a.start ++ [32] ++ Lib.itoa a.lo ++ [32] ++ Lib.itoa a.hi
def pS (r : Ru) : List UInt8 := [32, 115, 116, 97, 103, 101, 32] ++ r.name ++ [32] ++ r.guard
def pM (r : Ru) : List UInt8 := [32, 109, 97, 114, 107, 32] ++ r.name ++ [32] ++ r.guard
def pT (n : List UInt8) : List UInt8 := [116, 121, 112, 101, 32] ++ n
def semi (p : List UInt8) : List UInt8 := 59 :: p
def write (t : Ty) : List UInt8 := pT t.name ++ (t.attrs.flatMap (fun a => semi (pA a)) ++ t.stages.flatMap (fun a => semi (pS a)) ++ t.marks.flatMap (fun a => semi (pM a)))

/-- The bytes up to the first c; those behind it; is there one? -/
def cutAt (c : UInt8) (s : List UInt8) : List UInt8 × List UInt8 × Bool := (s.takeWhile (fun x => x != c), (s.dropWhile (fun x => x != c)).drop 1, s.any (fun x => x == c))
/-- The first word, and what stands behind it and its blanks. -/
def wrd (s : List UInt8) : List UInt8 × List UInt8 := ((cutAt 32 s).1, Lib.trimLeftB (cutAt 32 s).2.1 32)
def rdA (s : List UInt8) : Option At :=
  if isNum (wrd (wrd s).2).1 = true ∧ isNum (wrd (wrd (wrd s).2).2).1 = true ∧ isNum (wrd (wrd (wrd (wrd s).2).2).2).1 = true ∧ (wrd (wrd (wrd (wrd s).2).2).2).2 = [] then
    some ⟨(wrd s).1, num (wrd (wrd s).2).1, num (wrd (wrd (wrd s).2).2).1, num (wrd (wrd (wrd (wrd s).2).2).2).1⟩ else none
def rdR (s : List UInt8) : Option Ru := if (wrd s).2 = [] then none else some ⟨(wrd s).1, (wrd s).2⟩
/-- The first part, trimmed. -/
def fst0 (s : List UInt8) : Option (List UInt8) := if (wrd s).1 = [116, 121, 112, 101] ∧ (wrd (wrd s).2).1 ≠ [] ∧ (wrd (wrd s).2).2 = [] then some (wrd (wrd s).2).1 else none
/-- Another one, trimmed. -/
def par0 (t : Ty) (s : List UInt8) : Option Ty :=
  if (wrd s).1 = [97, 116, 116, 114] then (rdA (wrd s).2).map fun a => { t with attrs := t.attrs ++ [a] }
  else if (wrd s).1 = [115, 116, 97, 103, 101] then (rdR (wrd s).2).map fun a => { t with stages := t.stages ++ [a] }
  else if (wrd s).1 = [109, 97, 114, 107] then (rdR (wrd s).2).map fun a => { t with marks := t.marks ++ [a] }
  else none
def fst1 (p : List UInt8) : Option (List UInt8) := fst0 (Lib.trimB p 32)
def par (t : Ty) (p : List UInt8) : Option Ty := par0 t (Lib.trimB p 32)
/-- The first part, and the others. -/
def spl : List UInt8 → List UInt8 × List (List UInt8)
  | [] => ([], [])
  | c :: r => if c = 59 then ([], (spl r).1 :: (spl r).2) else (c :: (spl r).1, (spl r).2)
/-- Parts that come, the first at k: where one is wrong, or the type. -/
def rdp (t : Ty) (k : Nat) : List (List UInt8) → Nat ⊕ Ty
  | [] => .inr t
  | p :: r => match par t p with
    | none => .inl k
    | some u => rdp u (k + p.length + 1) r
def rd (s : List UInt8) : Nat ⊕ Ty := match fst1 (spl s).1 with
  | none => .inl 0
  | some n => rdp ⟨n, [], [], []⟩ ((spl s).1.length + 1) (spl s).2
def read (s : List UInt8) : Ty × Nat × Nat := match rd s with
  | .inl k => (Ty.none, 12, k)
  | .inr t => if right t ≠ 0 then (Ty.none, right t, 0) else (t, 0, 0)

/-- The first seven of each kind. -/
def cap7 (t : Ty) : Ty := ⟨t.name, t.attrs.take 7, t.stages.take 7, t.marks.take 7⟩
def keep7 {α : Type} (l : List α) (x : α) : List α := if 6 < l.length then l else l ++ [x]
theorem keep7_take {α : Type} (l : List α) (x : α) : keep7 (l.take 7) x = (l ++ [x]).take 7 := by
  unfold keep7
  by_cases h : 6 < l.length
  · rw [if_pos (by rw [List.length_take]; omega), List.take_append_of_le_length (by omega)]
  · rw [if_neg (by rw [List.length_take]; omega), List.take_of_length_le (by omega), List.take_of_length_le (by simp; omega)]
theorem cap7_right (t : Ty) : right (cap7 t) = right t := by
  by_cases h : 6 < t.attrs.length ∨ 6 < t.stages.length ∨ 6 < t.marks.length
  · unfold right
    by_cases hn : isName t.name = false
    · rw [if_pos hn, if_pos (show isName (cap7 t).name = false from hn)]
    · rw [if_neg hn, if_neg (show ¬ isName (cap7 t).name = false from hn), if_pos h, if_pos]
      simp only [cap7, List.length_take]
      omega
  · have e : cap7 t = t := by
      unfold cap7
      rw [List.take_of_length_le (by omega), List.take_of_length_le (by omega), List.take_of_length_le (by omega)]
    rw [e]
theorem right_few {t : Ty} (h : right t = 0) : isName t.name = true ∧ t.attrs.length ≤ 6 ∧ t.stages.length ≤ 6 ∧ t.marks.length ≤ 6 ∧ rns t.attrs [] (nms t) = 0 ∧ rgs (nms t) (t.stages ++ t.marks) = 0 := by
  unfold right at h
  by_cases h1 : isName t.name = false
  · rw [if_pos h1] at h; cases h
  · rw [if_neg h1] at h
    by_cases h2 : 6 < t.attrs.length ∨ 6 < t.stages.length ∨ 6 < t.marks.length
    · rw [if_pos h2] at h; cases h
    · rw [if_neg h2] at h
      by_cases h3 : rns t.attrs [] (nms t) ≠ 0
      · rw [if_pos h3] at h; exact absurd h h3
      · rw [if_neg h3] at h
        exact ⟨by simpa using h1, by omega, by omega, by omega, by omega, h⟩
theorem cap7_same {t : Ty} (h : right t = 0) : cap7 t = t := by
  obtain ⟨_, h1, h2, h3, _⟩ := right_few h
  unfold cap7
  rw [List.take_of_length_le (by omega), List.take_of_length_le (by omega), List.take_of_length_le (by omega)]
/-- What Read answers, by a reader that keeps seven of a kind. -/
theorem read_cap (s : List UInt8) : read s = match rd s with
    | .inl k => (Ty.none, 12, k)
    | .inr t => if right (cap7 t) ≠ 0 then (Ty.none, right (cap7 t), 0) else (cap7 t, 0, 0) := by
  unfold read
  cases rd s with
  | inl k => rfl
  | inr t =>
    simp only [cap7_right]
    by_cases h : right t ≠ 0
    · rw [if_pos h, if_pos h]
    · rw [if_neg h, if_neg h, cap7_same (by omega)]

/-- Cutting at a semicolon. -/
theorem spl_cut (s : List UInt8) : ((cutAt 59 s).2.2 = false → spl s = ((cutAt 59 s).1, [])) ∧ ((cutAt 59 s).2.2 = true → spl s = ((cutAt 59 s).1, (spl (cutAt 59 s).2.1).1 :: (spl (cutAt 59 s).2.1).2)) := by
  induction s with
  | nil => exact ⟨fun _ => rfl, fun h => by simp [cutAt] at h⟩
  | cons c r ih =>
    by_cases hc : c = 59
    · subst hc
      refine ⟨fun h => by simp [cutAt] at h, fun _ => ?_⟩
      simp [cutAt, spl]
    · have e1 : cutAt 59 (c :: r) = (c :: (cutAt 59 r).1, (cutAt 59 r).2.1, (cutAt 59 r).2.2) := by
        have : (c != 59) = true := by simpa using hc
        have h2 : (c == 59) = false := by simpa using hc
        simp only [cutAt, List.takeWhile_cons, List.dropWhile_cons, this, List.any_cons, h2, Bool.false_or, if_true]
      rw [e1]
      simp only [spl, if_neg hc]
      refine ⟨fun h => ?_, fun h => ?_⟩
      · rw [ih.1 h]
      · rw [ih.2 h]
theorem cut_len (c : UInt8) (s : List UInt8) : (cutAt c s).1.length ≤ s.length ∧ (cutAt c s).2.1.length ≤ s.length ∧ ((cutAt c s).2.2 = true → (cutAt c s).1.length + 1 + (cutAt c s).2.1.length = s.length) := by
  induction s with
  | nil => simp [cutAt]
  | cons x r ih =>
    by_cases hx : x = c
    · subst hx
      simp [cutAt]
      omega
    · have h1 : (x != c) = true := by simpa using hx
      have h2 : (x == c) = false := by simpa using hx
      simp only [cutAt, List.takeWhile_cons, List.dropWhile_cons, h1, List.any_cons, h2, Bool.false_or, if_true, List.length_cons] at ih ⊢
      refine ⟨by omega, by omega, fun h => ?_⟩
      have := ih.2.2 h
      omega
theorem trimLeft_len (s : List UInt8) (c : UInt8) : (Lib.trimLeftB s c).length ≤ s.length := by
  unfold Lib.trimLeftB
  exact (List.dropWhile_sublist _).length_le
theorem trim_len (s : List UInt8) (c : UInt8) : (Lib.trimB s c).length ≤ s.length := by
  unfold Lib.trimB
  refine Nat.le_trans (trimLeft_len _ _) ?_
  unfold Lib.trimRightB
  rw [List.length_reverse]
  have := (List.dropWhile_sublist (l := s.reverse) (fun x => x == c)).length_le
  rwa [List.length_reverse] at this
theorem wrd_len (s : List UInt8) : (wrd s).1.length ≤ s.length ∧ (wrd s).2.length ≤ s.length := by
  obtain ⟨h1, h2, _⟩ := cut_len 32 s
  exact ⟨h1, Nat.le_trans (trimLeft_len _ _) h2⟩
theorem wrd_word (s : List UInt8) : ∀ c ∈ (wrd s).1, c ≠ 32 := by
  intro c hc
  have h := List.all_takeWhile (l := s) (p := fun x => x != 32)
  have := List.all_eq_true.1 h c hc
  simpa using this

end Go.Proofs.YtnddpalngjmhnabDoor
