/-
  What was saved is loaded as it was.
-/
import Derived.Test.YtnogpjhcpdngcaaB8
import Derived.Test.YtnogpjhcpdngcaaBack
namespace Go.Proofs.Ytnogpjhcpdngcaa
open Go.RowKit

/-- A number of 64 bits. -/
def I64 (n : Int) : Prop := -9223372036854775808 ≤ n ∧ n ≤ 9223372036854775807

theorem i64_u64 {n : Int} (h : I64 n) : i64 (((u64 n).toNat % 256 ^ 8 : Nat)) = n := by
  unfold I64 at h
  have e : (256 : Nat) ^ 8 = 18446744073709551616 := by decide
  rw [e]
  unfold u64 i64
  simp only [IntKind.wrap, IntKind.bits, IntKind.signed, wrap64]
  simp
  omega
theorem u64_nat {n : Nat} (h : n < 4294967296) : u64 n = n := by
  unfold u64
  simp [IntKind.wrap, IntKind.bits, IntKind.signed]
  omega

theorem rbal_back (pre post : List UInt8) {b : Bl} (h1 : I64 b.r) (h2 : I64 b.n) : rbal ⟨pre.length, 0⟩ (pre ++ encBal b ++ post) = (b, ⟨pre.length + 16, 0⟩) := by
  unfold rbal encBal
  have e1 := num_back pre (enc (u64 b.n) 8 ++ post) (u64 b.r) 8
  have q1 : pre ++ enc (u64 b.r) 8 ++ (enc (u64 b.n) 8 ++ post) = pre ++ (enc (u64 b.r) 8 ++ enc (u64 b.n) 8) ++ post := by simp
  rw [q1] at e1
  have e2 := num_back (pre ++ enc (u64 b.r) 8) post (u64 b.n) 8
  have q2 : pre ++ enc (u64 b.r) 8 ++ enc (u64 b.n) 8 ++ post = pre ++ (enc (u64 b.r) 8 ++ enc (u64 b.n) 8) ++ post := by simp
  rw [q2] at e2
  have q3 : (pre ++ enc (u64 b.r) 8).length = pre.length + 8 := by simp [enc_length]
  rw [q3] at e2
  rw [e1]
  simp only
  rw [e2]
  simp only [i64_u64 h1, i64_u64 h2]

theorem rvote_back (pre post : List UInt8) {x : Vo} {s : Nat} (hs : x.s = s) (h5 : s < 512) (h1 : I64 x.b.r) (h2 : I64 x.b.n) (hv : x.v.size < 4294967296) : rvote ⟨pre.length, 0⟩ (pre ++ encVote x ++ post) = (x, ⟨(pre ++ encVote x).length, 0⟩) := by
  obtain ⟨xs, b, v⟩ := x
  simp only at hs h1 h2 hv
  subst hs
  have e1 := count_back pre (encBal b ++ enc (u64 v.size) 4 ++ v.data.toList ++ post) s 511 (by omega) (by omega)
  have q1 : pre ++ enc s 4 ++ (encBal b ++ enc (u64 v.size) 4 ++ v.data.toList ++ post) = pre ++ encVote ⟨s, b, v⟩ ++ post := by
    simp [encVote, u64_nat (show s < 4294967296 by omega)]
  rw [q1] at e1
  have e2 := rbal_back (pre ++ enc s 4) (enc (u64 v.size) 4 ++ v.data.toList ++ post) h1 h2
  have q2 : pre ++ enc s 4 ++ encBal b ++ (enc (u64 v.size) 4 ++ v.data.toList ++ post) = pre ++ encVote ⟨s, b, v⟩ ++ post := by
    simp [encVote, u64_nat (show s < 4294967296 by omega)]
  rw [q2] at e2
  have l2 : (pre ++ enc s 4).length = pre.length + 4 := by simp [enc_length]
  rw [l2] at e2
  have hlen : v.data.toList.length = v.size := rfl
  have q3 : pre ++ enc s 4 ++ encBal b ++ enc (v.data.toList.length : Nat) 4 ++ v.data.toList ++ post = pre ++ encVote ⟨s, b, v⟩ ++ post := by
    rw [hlen]
    simp [encVote, u64_nat (show s < 4294967296 by omega), u64_nat hv]
  have l3 : (pre ++ enc s 4 ++ encBal b).length = pre.length + 4 + 16 := by simp [enc_length, encBal_length]
  have lall : (pre ++ encVote ⟨s, b, v⟩).length = pre.length + 4 + 16 + 4 + v.size := by
    rw [List.length_append, encVote_length]
    simp only
    omega
  have hleft : (v.data.toList.length : Int) ≤ (⟨pre.length + 4 + 16, 0⟩ : RS).left (pre ++ encVote ⟨s, b, v⟩ ++ post) := by
    unfold RS.left leftOf
    rw [if_pos rfl, List.length_append, lall, hlen]
    simp only
    omega
  have e3 := text_back (pre ++ enc s 4 ++ encBal b) post v.data.toList ((⟨pre.length + 4 + 16, 0⟩ : RS).left (pre ++ encVote ⟨s, b, v⟩ ++ post)) (by rw [hlen]; exact hv) hleft
  rw [q3, l3] at e3
  unfold rvote
  rw [e1]
  simp only
  rw [e2]
  simp only
  rw [e3]
  simp only [lall, hlen]

/-- A saved vote: its slot and its ballot are such as an acceptor has. -/
structure Fine (p : Bl) (f : Vs) : Prop where
  i : ∀ s x, f s = some x → I64 x.1.r ∧ I64 x.1.n ∧ x.2.size < 4294967296
  up : ∀ s x, f s = some x → less ⟨0, 0⟩ x.1 = true
  low : ∀ s x, f s = some x → less p x.1 = false

theorem loads_back {p : Bl} {f : Vs} (h : Fine p f) : ∀ (m a : Nat) (pre post : List UInt8) (last : Int) (g : Vs), a + m ≤ 512 → last < a →
    ∃ g', loads p (pre ++ (votesUp f a (a + m)).flatMap encVote ++ post) (votesUp f a (a + m)).length ⟨pre.length, 0⟩ last g = some (⟨(pre ++ (votesUp f a (a + m)).flatMap encVote).length, 0⟩, g') ∧ (∀ s, a ≤ s → s < a + m → (f s).isSome = true → g' s = f s) ∧ (∀ s, (s < a ∨ a + m ≤ s ∨ f s = none) → g' s = g s)
  | 0, a, pre, post, last, g, _, _ => by
    rw [Nat.add_zero, votesUp_none]
    exact ⟨g, by simp [loads], fun s h1 h2 => by omega, fun s _ => rfl⟩
  | m + 1, a, pre, post, last, g, h5, hl => by
    have e : votesUp f a (a + (m + 1)) = (voteAt f a).toList ++ votesUp f (a + 1) (a + 1 + m) := by
      unfold votesUp
      rw [show a + (m + 1) - a = m + 1 by omega, show a + 1 + m - (a + 1) = m by omega, List.range'_succ, List.filterMap_cons]
      cases voteAt f a <;> simp
    rw [e]
    cases hf : f a with
    | none =>
      have hv : voteAt f a = none := by simp [voteAt, hf]
      rw [hv]
      simp only [Option.toList_none, List.nil_append]
      obtain ⟨g', h1, h2, h3⟩ := loads_back h m (a + 1) pre post last g (by omega) (by omega)
      refine ⟨g', h1, fun s hs1 hs2 hs3 => ?_, fun s hs => ?_⟩
      · by_cases hsa : s = a
        · subst hsa; rw [hf] at hs3; cases hs3
        · exact h2 s (by omega) (by omega) hs3
      · apply h3
        rcases hs with hs | hs | hs
        · exact .inl (by omega)
        · exact .inr (.inl (by omega))
        · exact .inr (.inr hs)
    | some x =>
      have hv : voteAt f a = some ⟨a, x.1, x.2⟩ := by simp [voteAt, hf]
      obtain ⟨i1, i2, i3⟩ := h.i a x hf
      rw [hv]
      simp only [Option.toList_some, List.singleton_append, List.flatMap_cons, List.length_cons]
      have q : pre ++ (encVote ⟨a, x.1, x.2⟩ ++ (votesUp f (a + 1) (a + 1 + m)).flatMap encVote) ++ post = pre ++ encVote ⟨a, x.1, x.2⟩ ++ ((votesUp f (a + 1) (a + 1 + m)).flatMap encVote ++ post) := by simp
      have er := rvote_back pre ((votesUp f (a + 1) (a + 1 + m)).flatMap encVote ++ post) (x := ⟨a, x.1, x.2⟩) (s := a) rfl (by omega) i1 i2 i3
      rw [← q] at er
      obtain ⟨g', h1, h2, h3⟩ := loads_back h m (a + 1) (pre ++ encVote ⟨a, x.1, x.2⟩) post a (upd g a x.1 x.2) (by omega) (by omega)
      have q2 : pre ++ encVote ⟨a, x.1, x.2⟩ ++ (votesUp f (a + 1) (a + 1 + m)).flatMap encVote ++ post = pre ++ (encVote ⟨a, x.1, x.2⟩ ++ (votesUp f (a + 1) (a + 1 + m)).flatMap encVote) ++ post := by simp
      rw [q2] at h1
      unfold loads
      rw [er]
      simp only [h.up a x hf, h.low a x hf, Int.toNat_natCast]
      rw [if_neg (by simp; omega)]
      refine ⟨g', ?_, fun s hs1 hs2 hs3 => ?_, fun s hs => ?_⟩
      · rw [h1]; simp
      · by_cases hsa : s = a
        · subst hsa
          rw [h3 s (.inl (by omega)), hf]
          simp [upd]
        · exact h2 s (by omega) (by omega) hs3
      · have hne : s ≠ a := by
          rintro rfl
          rcases hs with hs | hs | hs
          · omega
          · omega
          · rw [hf] at hs; cases hs
        rw [h3 s (by rcases hs with hs | hs | hs; exact .inl (by omega); exact .inr (.inl (by omega)); exact .inr (.inr hs))]
        unfold upd
        rw [if_neg hne]

theorem load_saved {p : Bl} {f : Vs} (h : Fine p f) (hp : less p ⟨0, 0⟩ = false) (h1 : I64 p.r) (h2 : I64 p.n) : ∃ g, load (saved p (votesUp f 0 512)) = some (p, g) ∧ ∀ s, s < 512 → g s = f s := by
  have hn := votesUp_len f 0 512
  have e1 := rbal_back [] (enc (u64 (votesUp f 0 512).length) 4 ++ (votesUp f 0 512).flatMap encVote) h1 h2
  have q1 : [] ++ encBal p ++ (enc (u64 (votesUp f 0 512).length) 4 ++ (votesUp f 0 512).flatMap encVote) = saved p (votesUp f 0 512) := by simp [saved, savedHead]
  rw [q1] at e1
  have e2 := count_back (encBal p) ((votesUp f 0 512).flatMap encVote) (votesUp f 0 512).length 512 (by omega) (by omega)
  have q2 : encBal p ++ enc ((votesUp f 0 512).length : Nat) 4 ++ (votesUp f 0 512).flatMap encVote = saved p (votesUp f 0 512) := by
    simp [saved, savedHead, u64_nat (show (votesUp f 0 512).length < 4294967296 by omega)]
  rw [q2, encBal_length] at e2
  obtain ⟨g, h3, h4, h5⟩ := loads_back h 512 0 (savedHead p (votesUp f 0 512).length) [] (-1) (fun _ => none) (by omega) (by omega)
  simp only [Nat.zero_add, List.append_nil] at h3
  have q3 : savedHead p (votesUp f 0 512).length ++ (votesUp f 0 512).flatMap encVote = saved p (votesUp f 0 512) := rfl
  rw [q3, savedHead_length] at h3
  refine ⟨g, ?_, fun s hs => ?_⟩
  · unfold load
    simp only [List.length_nil, Nat.zero_add] at e1
    rw [e1]
    simp only [hp]
    rw [e2]
    simp only
    rw [h3]
    simp [RS.end_]
  · cases hf : f s with
    | none => rw [h5 s (.inr (.inr hf))]
    | some x => rw [h4 s (by omega) (by omega) (by rw [hf]; rfl), hf]

end Go.Proofs.Ytnogpjhcpdngcaa
