/-
  Clocks, plainly: readings that are fair.
-/
import Derived.Test.YtmppejhcjnodhaaGPlain
namespace Go.Proofs.Ytmppejhcjnodhaa

/-- The clock may have gone from a to b (real time and its own). -/
def Goes (r : Int) (a b : Int × Int) : Prop := (1000 - r) * (b.1 - a.1) ≤ 1000 * (b.2 - a.2) ∧ 1000 * (b.2 - a.2) ≤ (1000 + r) * (b.1 - a.1)

theorem Goes.refl (r : Int) (a : Int × Int) : Goes r a a := by
  unfold Goes
  simp
theorem Goes.trans {r : Int} {a b c : Int × Int} (h : Goes r a b) (k : Goes r b c) : Goes r a c := by
  have e1 : (1000 - r) * (c.1 - a.1) = (1000 - r) * (b.1 - a.1) + (1000 - r) * (c.1 - b.1) := by
    rw [← Int.mul_add]
    congr 1
    omega
  have e2 : (1000 + r) * (c.1 - a.1) = (1000 + r) * (b.1 - a.1) + (1000 + r) * (c.1 - b.1) := by
    rw [← Int.mul_add]
    congr 1
    omega
  unfold Goes at *
  omega
/-- At one real time a clock shows one time. -/
theorem Goes.back {r : Int} {a b : Int × Int} (h : Goes r a b) (e : a.1 = b.1) : Goes r b a := by
  unfold Goes at *
  have e1 : b.1 - a.1 = 0 := by omega
  have e2 : a.1 - b.1 = 0 := by omega
  rw [e1] at h
  rw [e2]
  simp only [Int.mul_zero] at *
  omega

/-- Each two readings go together. -/
def Fairly (r : Int) (xs : List (Int × Int)) : Prop := ∀ x ∈ xs, ∀ y ∈ xs, y.1 ≤ x.1 → Goes r y x
theorem Fairly.perm {r : Int} {xs ys : List (Int × Int)} (h : Fairly r xs) (p : ys.Perm xs) : Fairly r ys :=
  fun x hx y hy => h x (p.mem_iff.1 hx) y (p.mem_iff.1 hy)

theorem fairly_of_steps {r : Int} {ys : List (Int × Int)} (hs : ∀ i j (_ : i < j) (hj : j < ys.length), ys[i].1 ≤ ys[j].1) (h : ∀ i (hi : i + 1 < ys.length), Goes r ys[i] ys[i + 1]) : Fairly r ys := by
  have key : ∀ d i (hd : i + d < ys.length), Goes r ys[i] ys[i + d] := by
    intro d
    induction d with
    | zero => intro i hd; exact Goes.refl r _
    | succ d ih => intro i hd; exact (ih i (by omega)).trans (h (i + d) (by omega))
  intro x hx y hy hxy
  obtain ⟨i, hi, rfl⟩ := List.getElem_of_mem hx
  obtain ⟨j, hj, rfl⟩ := List.getElem_of_mem hy
  rcases Nat.lt_trichotomy i j with e | e | e
  · have k := key (j - i) i (by omega)
    simp only [show i + (j - i) = j by omega] at k
    exact k.back (by have := hs i j e hj; omega)
  · subst e
    exact Goes.refl r _
  · have k := key (i - j) j (by omega)
    simp only [show j + (i - j) = i by omega] at k
    exact k
theorem Fairly.step {r : Int} {ys : List (Int × Int)} (hf : Fairly r ys) (hs : ∀ i j (_ : i < j) (hj : j < ys.length), ys[i].1 ≤ ys[j].1) (i : Nat) (hi : i + 1 < ys.length) : Goes r ys[i] ys[i + 1] :=
  hf _ (List.getElem_mem _) _ (List.getElem_mem _) (hs i (i + 1) (by omega) hi)

/-- What a step of spans says. -/
theorem goes_iff (r : Int) (a b : Int × Int) : (least (b.1 - a.1) r ≤ b.2 - a.2 ∧ b.2 - a.2 ≤ most (b.1 - a.1) r) ↔ Goes r a b := by
  unfold least most Goes
  rw [Int.mul_comm (b.1 - a.1) (1000 - r), Int.mul_comm (b.1 - a.1) (1000 + r)]
  omega

/-- All readings are times. -/
def AllTm (xs : List (Int × Int)) : Prop := ∀ x ∈ xs, Tm x.1 ∧ Tm x.2
/-- What Fair tells. -/
def Fr (xs : List (Int × Int)) (r : Int) : Prop := Dr r ∧ AllTm xs ∧ Fairly r xs

/-- A truth that tells something. -/
theorem tells_yes {q : Bool} {p : Prop} (hq : q = true ↔ p) (h : p) : q = true := hq.2 h
theorem tells_no {q : Bool} {p : Prop} (hq : q = true ↔ p) (h : ¬ p) : q = false := by
  cases q with
  | false => rfl
  | true => exact absurd (hq.1 rfl) h
theorem true_tells {p : Prop} (h : p) : (true = true ↔ p) := ⟨fun _ => h, fun _ => rfl⟩
theorem false_tells {p : Prop} (h : ¬ p) : (false = true ↔ p) := ⟨fun q => absurd q (by decide), fun q => absurd q h⟩
theorem told (p : Prop) : ∃ q : Bool, (q = true ↔ p) := by
  by_cases h : p
  · exact ⟨true, true_tells h⟩
  · exact ⟨false, false_tells h⟩

end Go.Proofs.Ytmppejhcjnodhaa
