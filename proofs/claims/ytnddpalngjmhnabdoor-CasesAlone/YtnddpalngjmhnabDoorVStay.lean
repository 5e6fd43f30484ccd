/-
  What Apply keeps, plainly: what is done and got stays; what is refused answers nothing; who may be fired.
-/
import Derived.Test.YtnddpalngjmhnabDoorVPlain
namespace Go.Proofs.YtnddpalngjmhnabDoor
open Go.RowKit

structure Stays (s s' : Sa) : Prop where
  done : ∀ k : Nat, s.done[k]? = some true → s'.done[k]? = some true
  got : ∀ k : Nat, s.got[k]? = some true → s'.got[k]? = some true
theorem Stays.refl (s : Sa) : Stays s s := ⟨fun _ h => h, fun _ h => h⟩
theorem Stays.grows {s x y : Sa} (h : Stays s x) (g : Grows x y) : Stays s y := ⟨fun k hk => by rw [g.done]; exact h.done k hk, fun k hk => g.stays k (h.got k hk)⟩
theorem Stays.put (t : Ty) (s : Sa) (k : Nat) (n : Int) : Stays s (putP t s k n).1 := by
  unfold putP
  split
  · exact ⟨fun _ h => h, fun _ h => h⟩
  · exact Stays.refl s
theorem Stays.set (t : Ty) (s : Sa) (o : Oq) : Stays s (setP t s o).1 := by
  unfold setP
  cases spot (t.attrs.map At.name) o.name with
  | none => exact Stays.refl s
  | some k => exact Stays.put t s k _
theorem Stays.add (t : Ty) (s : Sa) (o : Oq) : Stays s (addP t s o).1 := by
  unfold addP
  cases spot (t.attrs.map At.name) o.name with
  | none => exact Stays.refl s
  | some k =>
    show Stays s (if o.n < -2000 ∨ 2000 < o.n then (s, 34) else putP t s k (s.vals.getD k 0 + o.n)).1
    split
    · exact Stays.refl s
    · exact Stays.put t s k _
theorem Stays.fire (t : Ty) (s : Sa) (o : Oq) : Stays s (fireP t s o).1 := by
  unfold fireP
  cases spot (t.stages.map Ru.name) o.name with
  | none => exact Stays.refl s
  | some k =>
    show Stays s (if rdy t s k = true then (({ s with done := s.done.set k true } : Sa), 0) else (s, 32)).1
    split
    · refine ⟨fun j hj => ?_, fun _ h => h⟩
      show (s.done.set k true)[j]? = some true
      rw [List.getElem?_set]
      by_cases h : k = j
      · subst h
        have : k < s.done.length := by
          rcases Nat.lt_or_ge k s.done.length with h | h
          · exact h
          · rw [List.getElem?_eq_none h] at hj; cases hj
        simp [this]
      · rw [if_neg h]; exact hj
    · exact Stays.refl s
theorem fin_facts {t : Ty} {s : Sa} {x : Sa × Nat} (h : Stays s x.1) : ((fin t x).2.2 = 0 → Stays s (fin t x).1) ∧ (fin t x).2.1 = [] ∧ ((fin t x).2.2 ≠ 0 → (fin t x).1 = Sa.none) := by
  unfold fin
  by_cases hx : x.2 = 0
  · rw [if_pos hx]
    exact ⟨fun _ => h.grows (settled_grows t x.1), rfl, fun h => absurd rfl h⟩
  · rw [if_neg hx]
    exact ⟨fun h => absurd h hx, rfl, fun _ => rfl⟩
/-- All that Stays asks. -/
theorem apply_facts (t : Ty) (s : Sa) (o : Oq) : ((applyP t s o).2.2 = 0 → Stays s (applyP t s o).1) ∧ ((applyP t s o).2.2 ≠ 0 → (applyP t s o).1 = Sa.none ∧ (applyP t s o).2.1 = []) ∧ (o.kind = 5 → applyP t s o = (s, textP t s, 0)) ∧ (o.kind ≠ 5 → (applyP t s o).2.1 = []) := by
  unfold applyP
  by_cases h2 : o.kind = 2
  · rw [if_pos h2]
    obtain ⟨a, b, c⟩ := fin_facts (t := t) (Stays.set t s o)
    exact ⟨a, fun h => ⟨c h, b⟩, fun h => (by omega), fun _ => b⟩
  rw [if_neg h2]
  by_cases h3 : o.kind = 3
  · rw [if_pos h3]
    obtain ⟨a, b, c⟩ := fin_facts (t := t) (Stays.add t s o)
    exact ⟨a, fun h => ⟨c h, b⟩, fun h => (by omega), fun _ => b⟩
  rw [if_neg h3]
  by_cases h4 : o.kind = 4
  · rw [if_pos h4]
    obtain ⟨a, b, c⟩ := fin_facts (t := t) (Stays.fire t s o)
    exact ⟨a, fun h => ⟨c h, b⟩, fun h => (by omega), fun _ => b⟩
  rw [if_neg h4]
  by_cases h5 : o.kind = 5
  · rw [if_pos h5]
    exact ⟨fun _ => Stays.refl s, fun h => absurd rfl h, fun _ => rfl, fun h => absurd h5 h⟩
  · rw [if_neg h5]
    exact ⟨fun h => (by cases h), fun _ => ⟨rfl, rfl⟩, fun h => absurd h h5, fun _ => rfl⟩
/-- Firing stage k by its name: it goes just where the stage is ready, and then it is done. -/
theorem fire_facts {t : Ty} {s : Sa} (g : Good t) (f : Fit t s) {k : Nat} (hk : k < t.stages.length) (c : List UInt8) : ((applyP t s ⟨4, c, (t.stages[k]).name, 0⟩).2.2 = 0 ↔ rdy t s k = true) ∧ (rdy t s k = true → (applyP t s ⟨4, c, (t.stages[k]).name, 0⟩).1.done[k]? = some true) := by
  have e1 : spot (t.stages.map Ru.name) (t.stages[k]).name = some k := spot_at g.stageN k (by simpa using hk) (by simp)
  have e2 : applyP t s ⟨4, c, (t.stages[k]).name, 0⟩ = fin t (if rdy t s k = true then ({ s with done := s.done.set k true }, 0) else (s, 32)) := by
    unfold applyP
    rw [if_neg (by show ¬ (4 : Int) = 2; decide), if_neg (by show ¬ (4 : Int) = 3; decide), if_pos rfl, fireP, e1]
    rfl
  rw [e2]
  by_cases hr : rdy t s k = true
  · rw [if_pos hr]
    refine ⟨⟨fun _ => hr, fun _ => rfl⟩, fun _ => ?_⟩
    show (settled t { s with done := s.done.set k true }).done[k]? = some true
    rw [(settled_grows t _).done]
    have : k < s.done.length := by rw [f.sz.done]; exact hk
    simp [this]
  · rw [if_neg hr]
    exact ⟨⟨fun h => by simp [fin] at h, fun h => absurd h hr⟩, fun h => absurd h hr⟩
/-- Just the stages that may be fired are told. -/
theorem ready_mem {t : Ty} {s : Sa} (g : Good t) (f : Fit t s) {k : Nat} (hk : k < t.stages.length) : (t.stages[k]).name ∈ readyP t s ↔ rdy t s k = true := by
  have hd : k < s.done.length := by rw [f.sz.done]; exact hk
  have e : rdy t s k = (!(s.done[k]) && hld t s (t.stages[k]).guard) := by simp [rdy, List.getD_eq_getElem?_getD, hk, hd]
  rw [e]
  constructor
  · intro h
    obtain ⟨p, hp, hn⟩ := List.mem_map.1 h
    obtain ⟨hm, hq⟩ := List.mem_filter.1 hp
    obtain ⟨j, hj, rfl⟩ := List.getElem_of_mem hm
    have hj1 : j < t.stages.length := by simp at hj; omega
    have hj2 : j < s.done.length := by simp at hj; omega
    simp only [List.getElem_zip] at hn hq
    have s1 := spot_at g.stageN k (x := (t.stages[k]).name) (by simpa using hk) (by simp)
    have s2 := spot_at g.stageN j (x := (t.stages[k]).name) (by simpa using hj1) (by simpa using hn)
    rw [s1] at s2
    cases s2
    exact hq
  · intro h
    refine List.mem_map.2 ⟨(t.stages[k], s.done[k]), List.mem_filter.2 ⟨?_, h⟩, rfl⟩
    have hz : k < (t.stages.zip s.done).length := by simp; omega
    have := List.getElem_mem hz
    simpa using this

end Go.Proofs.YtnddpalngjmhnabDoor
