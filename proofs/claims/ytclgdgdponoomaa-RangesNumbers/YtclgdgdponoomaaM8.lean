/-
  Load plainly; what was saved is loaded as it was.
-/
import Derived.Test.YtclgdgdponoomaaM7
import Derived.Test.YtclgdgdponoomaaXRd6
import Derived.Test.YtclgdgdponoomaaBack
namespace Go.Proofs.Ytclgdgdponoomaa
open Go.RowKit

/-- The next part. -/
def rpart (s : RS) (bs : List UInt8) : Pa × RS :=
  (⟨i64 ((s.num bs 8).1 : Nat), i64 (((s.num bs 8).2.num bs 8).1 : Nat), i64 ((((s.num bs 8).2.num bs 8).2.num bs 8).1 : Nat)⟩, (((s.num bs 8).2.num bs 8).2.num bs 8).2)
def rparts (bs : List UInt8) : Nat → RS → List Pa → RS × List Pa
  | 0, s, xs => (s, xs)
  | k + 1, s, xs => rparts bs k (rpart s bs).2 (xs ++ [(rpart s bs).1])
def loadM (bs : List UInt8) : Option (Int × List Pa) :=
  if ((rparts bs ((((⟨0, 0⟩ : RS).num bs 8).2.count bs 256).1) (((⟨0, 0⟩ : RS).num bs 8).2.count bs 256).2 []).1.end_ bs).1 = 0 ∧ rgt (i64 (((⟨0, 0⟩ : RS).num bs 8).1 : Nat)) (rparts bs ((((⟨0, 0⟩ : RS).num bs 8).2.count bs 256).1) (((⟨0, 0⟩ : RS).num bs 8).2.count bs 256).2 []).2 = true
  then some (i64 (((⟨0, 0⟩ : RS).num bs 8).1 : Nat), (rparts bs ((((⟨0, 0⟩ : RS).num bs 8).2.count bs 256).1) (((⟨0, 0⟩ : RS).num bs 8).2.count bs 256).2 []).2)
  else none
theorem count_most256 (s : RS) (bs : List UInt8) : (s.count bs 256).1 ≤ 256 := by
  unfold RS.count
  split
  · simp
  · rename_i h; omega
theorem loadM_rgt {bs : List UInt8} {ep : Int} {ps : List Pa} (h : loadM bs = some (ep, ps)) : rgt ep ps = true := by
  unfold loadM at h
  split at h
  · rename_i hc
    simp only [Option.some.injEq, Prod.mk.injEq] at h
    obtain ⟨rfl, rfl⟩ := h
    exact hc.2
  · cases h

theorem mi64_u64 {n : Int} (h : -9223372036854775808 ≤ n ∧ n ≤ 9223372036854775807) : i64 (((u64 n).toNat % 256 ^ 8 : Nat)) = n := by
  have e : (256 : Nat) ^ 8 = 18446744073709551616 := by decide
  rw [e]
  unfold u64 i64
  simp only [IntKind.wrap, IntKind.bits, IntKind.signed, wrap64]
  simp
  omega
theorem mu64_nat {n : Nat} (h : n < 4294967296) : u64 n = n := by
  unfold u64
  simp [IntKind.wrap, IntKind.bits, IntKind.signed]
  omega
/-- A part that can be saved. -/
def Small (p : Pa) : Prop := (-9223372036854775808 ≤ p.lo ∧ p.lo ≤ 9223372036854775807) ∧ (-9223372036854775808 ≤ p.hi ∧ p.hi ≤ 9223372036854775807) ∧ (-9223372036854775808 ≤ p.g ∧ p.g ≤ 9223372036854775807)
theorem rpart_back (pre post : List UInt8) {p : Pa} (h : Small p) : rpart ⟨pre.length, 0⟩ (pre ++ encPa p ++ post) = (p, ⟨(pre ++ encPa p).length, 0⟩) := by
  obtain ⟨lo, hi, g⟩ := p
  have e1 := num_back pre (enc (u64 hi) 8 ++ enc (u64 g) 8 ++ post) (u64 lo) 8
  have q1 : pre ++ enc (u64 lo) 8 ++ (enc (u64 hi) 8 ++ enc (u64 g) 8 ++ post) = pre ++ encPa ⟨lo, hi, g⟩ ++ post := by simp [encPa]
  rw [q1] at e1
  have e2 := num_back (pre ++ enc (u64 lo) 8) (enc (u64 g) 8 ++ post) (u64 hi) 8
  have q2 : pre ++ enc (u64 lo) 8 ++ enc (u64 hi) 8 ++ (enc (u64 g) 8 ++ post) = pre ++ encPa ⟨lo, hi, g⟩ ++ post := by simp [encPa]
  rw [q2] at e2
  have e3 := num_back (pre ++ enc (u64 lo) 8 ++ enc (u64 hi) 8) post (u64 g) 8
  have q3 : pre ++ enc (u64 lo) 8 ++ enc (u64 hi) 8 ++ enc (u64 g) 8 ++ post = pre ++ encPa ⟨lo, hi, g⟩ ++ post := by simp [encPa]
  rw [q3] at e3
  have l1 : (pre ++ enc (u64 lo) 8).length = pre.length + 8 := by rw [List.length_append, enc_length]
  have l2 : (pre ++ enc (u64 lo) 8 ++ enc (u64 hi) 8).length = pre.length + 8 + 8 := by rw [List.length_append, enc_length, l1]
  rw [l1] at e2
  rw [l2] at e3
  unfold rpart
  rw [e1]
  simp only
  rw [e2]
  simp only
  rw [e3]
  simp only [mi64_u64 h.1, mi64_u64 h.2.1, mi64_u64 h.2.2]
  rw [List.length_append, encPa_length]
theorem rparts_back : ∀ (ys xs : List Pa) (pre post : List UInt8), (∀ p ∈ ys, Small p) →
    rparts (pre ++ ys.flatMap encPa ++ post) ys.length ⟨pre.length, 0⟩ xs = (⟨(pre ++ ys.flatMap encPa).length, 0⟩, xs ++ ys)
  | [], xs, pre, post, _ => by simp [rparts]
  | y :: ys, xs, pre, post, hf => by
    have q : pre ++ (y :: ys).flatMap encPa ++ post = pre ++ encPa y ++ (ys.flatMap encPa ++ post) := by simp
    have er := rpart_back pre (ys.flatMap encPa ++ post) (hf y (by simp))
    rw [← q] at er
    have ih := rparts_back ys (xs ++ [y]) (pre ++ encPa y) post (fun x hx => hf x (by simp [hx]))
    have q2 : pre ++ encPa y ++ ys.flatMap encPa ++ post = pre ++ (y :: ys).flatMap encPa ++ post := by simp
    have q3 : pre ++ encPa y ++ ys.flatMap encPa = pre ++ (y :: ys).flatMap encPa := by simp
    rw [q2, q3] at ih
    rw [List.length_cons, rparts, er]
    simp only
    rw [ih]
    simp
theorem rgtE_small : ∀ (ps : List Pa) (e l : Int), 0 ≤ e → rgtE e l ps = true → e ≤ 256 ∧ ∀ p ∈ ps, (0 ≤ p.lo ∧ p.lo ≤ 256) ∧ (0 ≤ p.hi ∧ p.hi ≤ 256) ∧ (0 ≤ p.g ∧ p.g < 3)
  | [], e, l, h0, h => by
    have : e = 256 := by simpa [rgtE] using h
    exact ⟨by omega, by simp⟩
  | p :: ps, e, l, h0, h => by
    obtain ⟨k0, k1, k2, k3, k4⟩ := rgtE_cons.1 h
    obtain ⟨m0, m1⟩ := rgtE_small ps p.hi p.g (by omega) k4
    have := isG_iff.1 k2
    refine ⟨by omega, fun q hq => ?_⟩
    rcases List.mem_cons.1 hq with rfl | hq
    · exact ⟨by omega, by omega, by omega⟩
    · exact m1 q hq
theorem load_saved {ep : Int} {ps : List Pa} (h : rgt ep ps = true) : loadM (savedM ep ps) = some (ep, ps) := by
  obtain ⟨h1, h2, h3⟩ := rgt_iff.1 h
  have hn := rgt_most h3
  have hs : ∀ p ∈ ps, Small p := fun p hp => by
    obtain ⟨a, b, c⟩ := (rgtE_small ps 0 (-1) (by omega) h3).2 p hp
    exact ⟨by omega, by omega, by omega⟩
  have e1 := num_back [] (enc (u64 ps.length) 4 ++ ps.flatMap encPa) (u64 ep) 8
  have q1 : [] ++ enc (u64 ep) 8 ++ (enc (u64 ps.length) 4 ++ ps.flatMap encPa) = savedM ep ps := by simp [savedM, headM]
  rw [q1] at e1
  have e2 := count_back (enc (u64 ep) 8) (ps.flatMap encPa) ps.length 256 (by omega) (by omega)
  have q2 : enc (u64 ep) 8 ++ enc (ps.length : Nat) 4 ++ ps.flatMap encPa = savedM ep ps := by
    rw [savedM, headM, mu64_nat (by omega)]
  rw [q2] at e2
  have e3 := rparts_back ps [] (headM ep ps.length) [] hs
  rw [List.append_nil] at e3
  have q3 : headM ep ps.length ++ ps.flatMap encPa = savedM ep ps := rfl
  rw [q3, headM_length] at e3
  have l1 : (enc (u64 ep) 8).length = 8 := enc_length _ _
  rw [l1] at e2
  simp only [List.length_nil, Nat.zero_add] at e1
  unfold loadM
  rw [e1]
  simp only
  rw [e2]
  simp only
  rw [e3]
  simp only [mi64_u64 (n := ep) ⟨by omega, by omega⟩, List.nil_append]
  rw [if_pos ⟨by simp [RS.end_], h⟩]
theorem saved_inj {e1 e2 : Int} {p1 p2 : List Pa} (h1 : rgt e1 p1 = true) (h2 : rgt e2 p2 = true) (h : savedM e1 p1 = savedM e2 p2) : e1 = e2 ∧ p1 = p2 := by
  have a := load_saved h1
  rw [h, load_saved h2] at a
  simp only [Option.some.injEq, Prod.mk.injEq] at a
  exact ⟨a.1.symm, a.2.symm⟩

end Go.Proofs.Ytclgdgdponoomaa
