/-
  Chapter 15's runs, plainly.
-/
import Derived.Test.YtkinpgkckbocpaaK9
import Derived.Test.YtkinpgkckbocpaaWBook
namespace Go.Proofs.Ytkinpgkckbocpaa
open Go.RowKit

def k1 : Lk := gives (fun _ _ => none) [97] [([120], false)]
def k2 : Lk := gives k1 [98] [([121], true), ([120], false)]
def k3 : Lk := gives k2 [98] [([121], false)]
theorem k1_at (c y : List UInt8) : k1 c y = if c = [120] ∧ y = [97] then some false else none := by
  simp [k1, gives, give]
theorem k2_at (c y : List UInt8) : k2 c y = if c = [121] ∧ y = [98] then some true else if c = [120] ∧ (y = [97] ∨ y = [98]) then some false else none := by
  simp only [k2, gives, give, k1_at]
  by_cases h1 : c = [120]
  · subst h1
    by_cases h2 : y = [98]
    · subst h2
      simp
    · simp [h2]
  · by_cases h3 : c = [121]
    · subst h3
      by_cases h2 : y = [98]
      · subst h2
        simp
      · simp [h2]
    · simp [h1, h3]
theorem k3_at (c y : List UInt8) : k3 c y = if c = [121] ∧ y = [98] then some true else if c = [120] ∧ (y = [97] ∨ y = [98]) then some false else none := by
  simp only [k3, gives, give, k2_at]
  by_cases h3 : c = [121] ∧ y = [98]
  · simp [h3]
  · simp [h3]
theorem k1_free : ∀ z ∈ [(([120] : List UInt8), false)], ¬ Ill (fun _ _ => none) [97] z.1 z.2 := fun _ _ => not_ill_free (fun _ _ => rfl) _
theorem k2_free : ∀ z ∈ [(([121] : List UInt8), true), ([120], false)], ¬ Ill k1 [98] z.1 z.2 := by
  intro z hz
  simp at hz
  rcases hz with rfl | rfl
  · exact not_ill_free (fun y _ => by rw [k1_at]; simp) _
  · exact not_ill_read (fun y _ => by rw [k1_at]; split <;> simp)
theorem k2_busy : ∃ z ∈ [(([122] : List UInt8), false), ([120], true)], Ill k2 [97] z.1 z.2 := ⟨([120], true), by simp, [98], false, by decide, by rw [k2_at]; simp, .inr rfl⟩
theorem k3_free : ∀ z ∈ [(([121] : List UInt8), false)], ¬ Ill k2 [98] z.1 z.2 := by
  intro z hz
  simp at hz
  subst hz
  exact not_ill_free (fun y hy => by rw [k2_at]; simp [hy]) _
theorem k3_writer {v : List UInt8} {ok : Bool} (ha : Alone k3) (h : Writes k3 [121] v ok) : v = [98] ∧ ok = true := h.unique ha (.inl ⟨rfl, by rw [k3_at]; simp⟩)
theorem k3_nobody {v : List UInt8} {ok : Bool} (ha : Alone k3) (h : Writes k3 [120] v ok) : v = [] ∧ ok = false := h.unique ha (.inr ⟨rfl, rfl, fun y => by rw [k3_at]; simp⟩)
theorem rises_two : Rises [[97], [98]] := by unfold Rises; decide
theorem rises_xy : Rises [[120], [121]] := by unfold Rises; decide
theorem rises_one (x : List UInt8) : Rises [x] := by simp [Rises]
theorem k3_holders : Hol k3 [120] [[97], [98]] := ⟨rises_two, fun y => by
  rw [k3_at]
  by_cases h : y = [97] <;> by_cases h' : y = [98] <;> simp [h, h']⟩
theorem k3_heldb : Hel k3 [98] [[120], [121]] := ⟨rises_xy, fun c => by
  rw [k3_at]
  by_cases h1 : c = [121]
  · simp [h1]
  · simp [h1]⟩
theorem k3_helda : Hel k3 [97] [[120]] := ⟨rises_one _, fun c => by rw [k3_at]; simp⟩
theorem k3_all : Als k3 [[97], [98]] := by
  refine ⟨rises_two, fun y => ?_⟩
  constructor
  · intro h
    exact ⟨[120], (k3_holders.2 y).1 h⟩
  · rintro ⟨c, h⟩
    rw [k3_at] at h
    split at h
    · rename_i e
      simp [e.2]
    · split at h
      · rename_i e
        simpa using e.2
      · exact absurd rfl h
theorem k3_n : ¬ Some1 k3 [110] := by
  rintro ⟨c, h⟩
  rw [k3_at] at h
  simp at h
theorem k3_z : Hol (freed k3 [110]) [122] [] := ⟨by simp [Rises], fun y => by
  rw [freed_none, k3_at]
  simp⟩
theorem Takes.empty {h h' : Lk} {l : List (List UInt8 × Bool)} {r : Int} (t : Takes h [] l r h') : r = 1 ∧ h' = h := by
  rcases t with ⟨_, h1⟩ | ⟨h1, _⟩ | ⟨h1, _⟩
  · exact h1
  · exact absurd rfl h1
  · exact absurd rfl h1
theorem lit_texts {w : World} {g : Nat} (ss : List (List UInt8)) (hl : ss.length ≤ 1000000) (hg : w.heap[g]? = some (.cells (srow ss).toArray 9 (0, 0))) : Txs w 0 (.slice (some ⟨g, 0, none⟩) ss.length ss.length) ss := by
  refine ⟨by simp [srow], .inr ⟨g, ss.length, _, rfl, Nat.zero_le _, hg, Nat.le_refl _, by unfold maxLen; omega, by simp [srow], ?_⟩⟩
  have : (srow ss).toArray.toList = srow ss := rfl
  rw [this, Nat.mul_one, List.take_of_length_le (by simp [srow])]
theorem texts_yesK {w : World} {b1 b2 : Nat} {a1 : Option Addr} {n1 c1 : Nat} {v2 : Value} {xs : List (List UInt8)} (h1 : Txs w b1 (.slice a1 n1 c1) xs) (h2 : Txs w b2 v2 xs) (hl : xs.length ≤ 1000000) :
    Calls Try.prog 11 #[.slice a1 n1 c1, v2] w fun e w' => e = .returned (.bool true) ∧ Kept (fun _ => True) w w' := by
  obtain ⟨a2, c2, rfl, _, _⟩ := h2.shape
  have hn : n1 ≤ 140737488355328 := by
    obtain ⟨a, c, e, _, _⟩ := h1.shape
    injection e with _ e _
    omega
  refine Calls.mono (texts_any h1 h2 hn) ?_
  rintro e w' ⟨rfl, m, rfl⟩
  exact ⟨by simp, (Kept.refl _ _).drewN m⟩

end Go.Proofs.Ytkinpgkckbocpaa
