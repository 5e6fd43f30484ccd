/-
  What was saved is loaded as it was.
-/
import Derived.Test.YtihfcmcpapgokaaE6
import Derived.Test.YtihfcmcpapgokaaBack
namespace Go.Proofs.Ytihfcmcpapgokaa
open Go.RowKit

/-- A number of 64 bits. -/
def I64 (n : Int) : Prop := -9223372036854775808 ≤ n ∧ n ≤ 9223372036854775807

theorem i64_u64 {n : Int} (h : I64 n) : i64 (((u64 n).toNat % 256 ^ 8 : Nat)) = n := by
  unfold I64 at h
  have e : (256 : Nat) ^ 8 = 18446744073709551616 := by decide
  rw [e]
  unfold u64 i64
  simp only [IntKind.wrap, IntKind.bits, IntKind.signed, wrap64]
  simp
  omega
theorem u64_nat {n : Nat} (h : n < 4294967296) : u64 n = n := by
  unfold u64
  simp [IntKind.wrap, IntKind.bits, IntKind.signed]
  omega

theorem rtext_back (pre post t : List UInt8) (h : t.length < 4294967296) : (⟨pre.length, 0⟩ : RS).text (pre ++ encText t ++ post) ((⟨pre.length, 0⟩ : RS).left (pre ++ encText t ++ post)) = (t, ⟨(pre ++ encText t).length, 0⟩) := by
  have q : pre ++ enc (t.length : Nat) 4 ++ t ++ post = pre ++ encText t ++ post := by
    unfold encText
    rw [u64_nat h]
    simp
  have l : (pre ++ encText t).length = pre.length + 4 + t.length := by rw [List.length_append, encText_length]; omega
  have hleft : (t.length : Int) ≤ (⟨pre.length, 0⟩ : RS).left (pre ++ encText t ++ post) := by
    unfold RS.left leftOf
    rw [if_pos rfl, List.length_append, l]
    simp only
    omega
  have e := text_back pre post t _ h hleft
  rw [q] at e
  rw [e, l]

/-- A client that can be saved. -/
structure Fine (x : La) : Prop where
  i : I64 x.i
  c : x.c.length < 4294967296
  r : x.r.length < 4294967296

theorem rlast_back (pre post : List UInt8) {x : La} (h : Fine x) : rlast ⟨pre.length, 0⟩ (pre ++ encLast x ++ post) = (x, ⟨(pre ++ encLast x).length, 0⟩) := by
  obtain ⟨c, i, r⟩ := x
  have e1 := rtext_back pre (enc (u64 i) 8 ++ encText r ++ post) c h.c
  have q1 : pre ++ encText c ++ (enc (u64 i) 8 ++ encText r ++ post) = pre ++ encLast ⟨c, i, r⟩ ++ post := by simp [encLast]
  rw [q1] at e1
  have e2 := num_back (pre ++ encText c) (encText r ++ post) (u64 i) 8
  have q2 : pre ++ encText c ++ enc (u64 i) 8 ++ (encText r ++ post) = pre ++ encLast ⟨c, i, r⟩ ++ post := by simp [encLast]
  rw [q2] at e2
  have e3 := rtext_back (pre ++ encText c ++ enc (u64 i) 8) post r h.r
  have q3 : pre ++ encText c ++ enc (u64 i) 8 ++ encText r ++ post = pre ++ encLast ⟨c, i, r⟩ ++ post := by simp [encLast]
  rw [q3] at e3
  have l2 : (pre ++ encText c ++ enc (u64 i) 8).length = (pre ++ encText c).length + 8 := by rw [List.length_append, enc_length]
  rw [l2] at e3
  unfold rlast
  rw [e1]
  simp only
  rw [e2]
  simp only
  rw [e3]
  simp only [i64_u64 h.i]
  have l3 : (pre ++ encText c ++ enc (u64 i) 8 ++ encText r).length = (pre ++ encLast ⟨c, i, r⟩).length := by simp [encLast]
  rw [l3]

theorem loads_back : ∀ (ys xs : List La) (pre post : List UInt8), (∀ x ∈ ys, Fine x) → Once (xs ++ ys) →
    loads (pre ++ ys.flatMap encLast ++ post) ys.length ⟨pre.length, 0⟩ xs = some (⟨(pre ++ ys.flatMap encLast).length, 0⟩, xs ++ ys)
  | [], xs, pre, post, _, _ => by simp [loads]
  | y :: ys, xs, pre, post, hf, ho => by
    have q : pre ++ (y :: ys).flatMap encLast ++ post = pre ++ encLast y ++ (ys.flatMap encLast ++ post) := by simp
    have er := rlast_back pre (ys.flatMap encLast ++ post) (hf y (by simp))
    rw [← q] at er
    have ho' : Once (xs ++ [y] ++ ys) := by simpa using ho
    have ih := loads_back ys (xs ++ [y]) (pre ++ encLast y) post (fun x hx => hf x (by simp [hx])) ho'
    have q2 : pre ++ encLast y ++ ys.flatMap encLast ++ post = pre ++ (y :: ys).flatMap encLast ++ post := by simp
    have q3 : pre ++ encLast y ++ ys.flatMap encLast = pre ++ (y :: ys).flatMap encLast := by simp
    rw [q2, q3] at ih
    have hn : xs.any (isC y.c) = false := by
      rw [List.any_eq_false]
      intro x hx hc
      unfold Once at ho
      rw [List.map_append, List.nodup_append] at ho
      refine ho.2.2 x.c (List.mem_map.2 ⟨x, hx, rfl⟩) y.c (by simp) ?_
      simpa [isC] using hc
    rw [List.length_cons]
    unfold loads
    rw [er]
    simp only
    rw [hn, if_neg (by simp), ih]
    simp

theorem load_saved {m : Nat} {xs : List La} (h1 : 1 ≤ m) (h64 : m ≤ 64) (hl : xs.length ≤ m) (hf : ∀ x ∈ xs, Fine x) (ho : Once xs) : load (saved m xs) = some (m, xs) := by
  have e1 := count_back [] (enc (u64 xs.length) 4 ++ xs.flatMap encLast) m 64 (by omega) (by omega)
  have q1 : [] ++ enc m 4 ++ (enc (u64 xs.length) 4 ++ xs.flatMap encLast) = saved m xs := by
    simp [saved, savedHead, u64_nat (show m < 4294967296 by omega)]
  rw [q1] at e1
  have e2 := count_back (enc (u64 m) 4) (xs.flatMap encLast) xs.length m (by omega) (by omega)
  have q2 : enc (u64 m) 4 ++ enc (xs.length : Nat) 4 ++ xs.flatMap encLast = saved m xs := by
    simp [saved, savedHead, u64_nat (show xs.length < 4294967296 by omega)]
  rw [q2, enc_length] at e2
  have e3 := loads_back xs [] (savedHead m xs.length) [] hf (by simpa using ho)
  have q3 : savedHead m xs.length ++ xs.flatMap encLast = saved m xs := rfl
  rw [List.append_nil, q3, savedHead_length] at e3
  unfold load
  simp only [List.length_nil, Nat.zero_add] at e1
  rw [e1]
  simp only
  rw [if_neg (by omega), e2]
  simp only
  rw [e3]
  simp [RS.end_]

end Go.Proofs.Ytihfcmcpapgokaa
