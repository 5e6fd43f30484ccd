/-
  Whether a text is among others (the law's has).
-/
import Derived.Test.YtkinpgkckbocpaaKAsk
import Derived.Sort.Walk0
namespace Go.Proofs.Ytkinpgkckbocpaa
open Go.RowKit

set_option maxRecDepth 100000 in
set_option maxHeartbeats 1000000 in
theorem has_any {w : World} {base : Nat} {a : Option Addr} {n cap : Nat} {ss : List (List UInt8)} (h : Txs w base (.slice a n cap) ss) (hl : ss.length ≤ 1000000) (s : List UInt8) :
    Calls Try.prog 24 #[.slice a n cap, .string ⟨s.toArray⟩] w fun e w' => e = .returned (.bool (decide (s ∈ ss))) ∧ w' = w := by
  obtain ⟨a', cap', e, -, hg⟩ := h.shape
  cases e
  have HG : Hid (0 < ss.length → ∃ g, a = some ⟨g, 0, none⟩) := hg
  have HT : Hid (Txs w base (.slice a ss.length cap) ss) := h
  clear h hg
  go_enter Try.func24, Try.ntmps24
  go_wp2_with fail
  go_loopw [5] (fun t wr => ∃ k : Nat, k ≤ ss.length ∧ (∀ y ∈ ss.take k, y ≠ s) ∧ t = .int .i64 (k : Nat) ∧ wr = w) (fun t _ => ss.length - (intOf t).toNat)
  case atStart => exact ⟨0, Nat.zero_le _, by simp, rfl, rfl⟩
  case round =>
    obtain ⟨k, hk, hn, rfl, rfl⟩ := hrel
    have HN : Hid (∀ y ∈ ss.take k, y ≠ s) := hn
    clear hn
    by_cases hlt : k < ss.length
    · obtain ⟨g, rfl⟩ := HG.out (by omega)
      have q := HT.out.cell k hlt
      have k1 : (k : Int) < (ss.length : Int) := by omega
      have k0 : (0 : Int) ≤ (k : Int) := by omega
      have kb : (k : Int) ≤ 1000000 := by omega
      have HE : Hid (ss.take (k + 1) = ss.take k ++ [ss[k]] ∧ ss[k] ∈ ss) := ⟨List.take_succ_eq_append_getElem hlt, List.getElem_mem hlt⟩
      generalize ss[k] = y at *
      by_cases he : y = s
      · subst he
        go_wp2_with fail
        go_ret
        exact ⟨by rw [decide_eq_true HE.out.2]; rfl, rfl⟩
      · have hne : (y == s) = false := beq_eq_false_iff_ne.2 he
        have HY : Hid (y ≠ s) := he
        clear he
        go_wp2_with fail
        go_roundw
        case rel =>
          refine ⟨k + 1, by omega, ?_, by go_num, by trivial⟩
          intro z hz
          rw [HE.out.1, List.mem_append, List.mem_singleton] at hz
          rcases hz with hz | rfl
          · exact HN.out z hz
          · exact HY.out
        case measure => simp [intOf]; omega
    · have k1 : ¬ (k : Int) < (ss.length : Int) := by omega
      have HE : Hid (s ∉ ss) := by
        intro hs
        have := HN.out s (by rw [List.take_of_length_le (by omega)]; exact hs)
        exact this rfl
      go_wp2_with fail
      go_ret
      exact ⟨by rw [decide_eq_false HE.out]; rfl, rfl⟩

theorem rises_less {us : List (List UInt8)} (h : Rises us) {i : Nat} (h0 : 0 < i) (hi : i < us.length) : Op.bytesLess (us[i - 1]'(by omega)) us[i] = true := by
  have := List.pairwise_iff_getElem.1 h (i - 1) i (by omega) hi (by omega)
  rw [bytesLess_eq, decide_eq_true_eq]
  rcases List.le_total us[i] (us[i - 1]'(by omega)) with h1 | h1
  · exact absurd (List.le_antisymm this.1 h1) this.2
  · rcases Decidable.em (us[i - 1]'(by omega) < us[i]) with h2 | h2
    · exact h2
    · exact absurd (List.le_antisymm this.1 (List.not_lt.1 h2)) this.2

/-- A table that is looked at, with the cases that were named and those who hold something. -/
structure LookK (w0 w : World) (T n : Nat) (B : Lab → Option Nat) (h : Lk) (vn va : Value) (ns us : List (List UInt8)) : Prop where
  tm : TM w0 w T n B h
  names : Txs w w0.heap.size vn ns
  all : Txs w w0.heap.size va us
  als : Als h us
  named : ∀ c y, h c y ≠ none → c ∈ ns
  few : n ≤ 1000 ∧ ns.length ≤ 1000 ∧ us.length ≤ 1000
  sh : ∀ c ∈ ns, c.length ≤ 9223372036854775807
theorem LookK.on {w0 w w' : World} {T n : Nat} {B : Lab → Option Nat} {h : Lk} {vn va : Value} {ns us : List (List UInt8)} (a : LookK w0 w T n B h vn va ns us) (k : Kept (fun _ => True) w w') : LookK w0 w' T n B h vn va ns us :=
  ⟨a.tm.all k, a.names.kept k (fun _ _ => trivial), a.all.kept k (fun _ _ => trivial), a.als, a.named, a.few, a.sh⟩

end Go.Proofs.Ytkinpgkckbocpaa
