/-
  What Decode answers is few and short.
-/
import Derived.Test.YtbooeabmpdpgpaaZ6
namespace Go.Proofs.Ytbooeabmpdpgpaa
open Go.RowKit

theorem rdN_few (bs : List UInt8) : ∀ (n : Nat) (s : RS) (xs : List Li), (∀ x ∈ xs, x.t.length ≤ 4000) → (rdN bs n s xs).1.length ≤ xs.length + n ∧ ∀ x ∈ (rdN bs n s xs).1, x.t.length ≤ 4000
  | 0, s, xs, h => by
    rw [rdN]
    exact ⟨Nat.le_refl _, h⟩
  | n + 1, s, xs, h => by
    rw [rdN]
    split
    · exact ⟨by simp only; omega, h⟩
    · have hs : ∀ x ∈ xs ++ [(rdOne bs s).1], x.t.length ≤ 4000 := fun x hx => by
        rcases List.mem_append.1 hx with h1 | h1
        · exact h x h1
        · rw [List.mem_singleton.1 h1]
          have := text_len bs s 4000
          show ((s.text bs 4000).1).length ≤ 4000
          omega
      obtain ⟨h1, h2⟩ := rdN_few bs n (rdOne bs s).2 (xs ++ [(rdOne bs s).1]) hs
      rw [List.length_append] at h1
      exact ⟨by simp only [List.length_singleton] at h1; omega, h2⟩
theorem IsDec.few {bs : List UInt8} {xs : List Li} {y z : Int} (h : IsDec bs xs y z) : xs.length ≤ 4096 ∧ ∀ x ∈ xs, x.t.length ≤ 4000 := by
  have hc := count_len bs ⟨0, 0⟩ 4096
  obtain ⟨h1, h2⟩ := rdN_few bs ((⟨0, 0⟩ : RS).count bs 4096).1 ((⟨0, 0⟩ : RS).count bs 4096).2 [] (fun x hx => by cases hx)
  have ha : (rdAll bs).1.length ≤ 4096 ∧ ∀ x ∈ (rdAll bs).1, x.t.length ≤ 4000 := ⟨by
    unfold rdAll
    simp only [List.length_nil, Nat.zero_add] at h1
    omega, h2⟩
  by_cases e : ((rdAll bs).2.end_ bs).1 = 0
  · obtain ⟨n, hn, q1, q2⟩ := h.yes e
    have hle := hn.le
    rcases Nat.lt_or_ge n (rdAll bs).1.length with q | q
    · rw [(q1 q).1]
      exact ⟨by simp, fun x hx => by cases hx⟩
    · rw [(q2 (by omega)).1]
      exact ha
  · rw [(h.no e).1]
    exact ⟨by simp, fun x hx => by cases hx⟩

end Go.Proofs.Ytbooeabmpdpgpaa
