/-
  The document's Digits.
-/
import Derived.Test.YtnddpalngjmhnaaDoorTR1
namespace Go.Proofs.YtnddpalngjmhnaaDoor
open Go.RowKit

theorem digit_cut (d : Nat) (h : d < 10) (W : World) : (Instr.slice 9 (.string ⟨#[48, 49, 50, 51, 52, 53, 54, 55, 56, 57]⟩) (some (.int .u64 (d : Int))) (some (.int .u64 ((d : Int) + 1))) none).run Tryd.prog W = .ok (.string ⟨[UInt8.ofNat (48 + d)].toArray⟩) W := by
  have hd : d = 0 ∨ d = 1 ∨ d = 2 ∨ d = 3 ∨ d = 4 ∨ d = 5 ∨ d = 6 ∨ d = 7 ∨ d = 8 ∨ d = 9 := by omega
  have hs : (((⟨#[48, 49, 50, 51, 52, 53, 54, 55, 56, 57]⟩ : ByteArray).size : Nat) : Int) = 10 := rfl
  rw [run_slice_string_if (P := Tryd.prog) W 9 _ .u64 .u64 d (d + 1) Tryd.underlying9, if_pos ⟨by omega, by omega⟩, if_pos ⟨by omega, by omega⟩]
  rcases hd with rfl | rfl | rfl | rfl | rfl | rfl | rfl | rfl | rfl | rfl <;> rfl
/-- Digits are told from behind. -/
def Dq (m u : Nat) (s : List UInt8) : Prop := (s = [] ∧ u = m) ∨ (s ≠ [] ∧ u = 0 ∧ Lib.decDigits m = s) ∨ (s ≠ [] ∧ 0 < u ∧ Lib.decDigits m = Lib.decDigits u ++ s)
theorem Dq.step {m u : Nat} {s : List UInt8} (h : Dq m u s) (hu : 0 < u ∨ s = []) : Dq m (u / 10) ([UInt8.ofNat (48 + u % 10)] ++ s) := by
  have key : Lib.decDigits m = Lib.decDigits u ++ s := by
    rcases h with ⟨rfl, rfl⟩ | ⟨h1, h2, _⟩ | ⟨_, _, h3⟩
    · simp
    · rcases hu with hu | hu
      · omega
      · exact absurd hu h1
    · exact h3
  by_cases h10 : u < 10
  · refine .inr (.inl ⟨by simp, by omega, ?_⟩)
    rw [key, Lib.decDigits, dif_pos h10, Nat.mod_eq_of_lt h10]
  · refine .inr (.inr ⟨by simp, by omega, ?_⟩)
    rw [key]
    conv => lhs; rw [Lib.decDigits, dif_neg h10]
    simp
theorem Dq.len {m u : Nat} {s : List UInt8} (h : Dq m u s) (hm : m < 18446744073709551616) : s.length ≤ 64 := by
  have h1 : (Lib.decDigits m).length ≤ 64 := by
    rw [Lib.decDigits_length]
    have := Lib.nDigits_pos m
    rcases Nat.lt_or_ge (Lib.nDigits m) 65 with h | h
    · omega
    · exfalso
      have h2 : ∀ (k u : Nat), u < 10 ^ (k + 1) → Lib.nDigits u ≤ k + 1 := by
        intro k
        induction k with
        | zero => intro u hu; rw [Lib.nDigits_small (by simpa using hu)]; omega
        | succ k ih =>
          intro u hu
          by_cases h10 : u < 10
          · rw [Lib.nDigits_small h10]; omega
          · rw [Lib.nDigits_big h10]
            have := ih (u / 10) (by rw [Nat.div_lt_iff_lt_mul (by decide)]; rw [Nat.pow_succ] at hu; exact hu)
            omega
      have := h2 19 m (by omega)
      omega
  rcases h with ⟨rfl, _⟩ | ⟨_, _, h3⟩ | ⟨_, _, h3⟩
  · simp
  · rw [← h3]; exact h1
  · rw [h3, List.length_append] at h1; omega
theorem Dq.done {m u : Nat} {s : List UInt8} (h : Dq m u s) (hu : ¬ 0 < u) (hs : s ≠ []) : Lib.decDigits m = s := by
  rcases h with ⟨h1, _⟩ | ⟨_, _, h3⟩ | ⟨_, h2, _⟩
  · exact absurd h1 hs
  · exact h3
  · exact absurd h2 hu

def noneS : Value → Nat
  | .string b => if b.size = 0 then 1 else 0
  | _ => 0
theorem noneS_some {y : List UInt8} (h : y ≠ []) : noneS (.string ⟨y.toArray⟩) = 0 := by
  have : 0 < y.length := List.length_pos_iff.2 h
  simp only [noneS, ByteArray.size, List.size_toArray]
  rw [if_neg (by omega)]

set_option maxRecDepth 100000 in
set_option maxHeartbeats 4000000 in
theorem digits_loop {w : World} (n : Int) (hn : F64 n) : Calls Tryd.prog 49 #[.int .i64 n] w fun e w' => e = .returned (.string ⟨(Lib.itoa n).toArray⟩) ∧ w' = w := by
  obtain ⟨h0, h1⟩ := hn
  by_cases hneg : n < 0
  · obtain ⟨m, rfl⟩ : ∃ m : Nat, n = -((m : Int) + 1) := ⟨(-n - 1).toNat, by omega⟩
    have e1 : Lib.itoa (-((m : Int) + 1)) = [45] ++ Lib.decDigits (m + 1) := by
      unfold Lib.itoa
      rw [if_pos hneg]
      have : (-((m : Int) + 1)).natAbs = m + 1 := by omega
      rw [this]
      rfl
    rw [e1]
    clear e1
    go_enter Tryd.func49, Tryd.ntmps49
    go_wp2_with fail
    go_loop [3, 4, 5] (fun t3 t4 _ => ∃ (u : Nat) (s : List UInt8), t3 = .int .u64 (u : Nat) ∧ t4 = .string ⟨s.toArray⟩ ∧ Dq (m + 1) u s ∧ u ≤ 9223372036854775808) (fun t3 t4 _ => 2 * (intOf t3).toNat + noneS t4)
    case atStart => exact ⟨m + 1, [], by rw [show (-(-((m : Int) + 1) + 1) + 1) = ((m + 1 : Nat) : Int) by omega], rfl, .inl ⟨rfl, rfl⟩, by omega⟩
    case round =>
    obtain ⟨u, s, rfl, rfl, hD, hu⟩ := hrel
    have HD : Hid (Dq (m + 1) u s) := hD
    have HL : Hid (s.length ≤ 64) := hD.len (by omega)
    have hsl : s.length ≤ 64 := HL.out
    clear hD
    have hm : (u : Int) % 10 = ((u % 10 : Nat) : Int) := by omega
    have hm' : Int.tmod (u : Int) 10 = ((u % 10 : Nat) : Int) := by rw [Int.tmod_eq_emod_of_nonneg (by omega)]; omega
    have hq : Int.tdiv (u : Int) 10 = ((u / 10 : Nat) : Int) := by rw [Int.tdiv_eq_ediv_of_nonneg (by omega)]; omega
    have hd10 : u % 10 < 10 := by omega
    have hc := digit_cut (u % 10) hd10
    obtain ⟨y, hy, j1⟩ := text_joins [UInt8.ofNat (48 + u % 10)] s (by simp; omega)
    have HY : Hid (y = [UInt8.ofNat (48 + u % 10)] ++ s) := hy
    have hdl : ((u % 10 : Nat) : Int) + 1 ≤ 10 := by omega
    have hdl0 : (0 : Int) ≤ ((u % 10 : Nat) : Int) := by omega
    clear hy
    have HG : Hid (0 < u ∨ s = [] → Dq (m + 1) (u / 10) y) := fun h => by rw [HY.out]; exact HD.out.step h
    have HNE : Hid (y ≠ []) := by show _ ≠ _; rw [HY.out]; simp
    by_cases h0 : 0 < u
    · have h0' : (0 : Int) < (u : Int) := by omega
      have HG2 : Hid _ := HG.out (.inl h0)
      generalize u % 10 = d at *
      generalize [UInt8.ofNat (48 + d)] = dd at *
      clear HG HD
      go_wp2_with fail
      go_round
      case rel => exact ⟨u / 10, y, by first | rfl | (rw [hq]), rfl, HG2.out, by omega⟩
      case measure =>
        have := noneS_some HNE.out
        simp only [intOf]
        omega
    · have h0' : ¬ (0 : Int) < (u : Int) := by omega
      by_cases hs : s = []
      · have HG2 : Hid _ := HG.out (.inr hs)
        have HU0 : Hid (u = 0) := by show _ = _; omega
        generalize u % 10 = d at *
        generalize [UInt8.ofNat (48 + d)] = dd at *
        subst hs
        clear HG HD
        go_wp2_with fail
        go_round
        case rel => exact ⟨u / 10, y, by first | rfl | (rw [hq]), rfl, HG2.out, by omega⟩
        case measure =>
          have := noneS_some HNE.out
          have e : noneS (.string ⟨([] : List UInt8).toArray⟩) = 1 := rfl
          have e2 := HU0.out
          have e3 : noneS (.string ⟨#[]⟩) = 1 := rfl
          simp only [intOf]
          omega
      · have hs' : (s == ([] : List UInt8)) = false := beq_eq_false_iff_ne.2 hs
        have HFin : Hid (Lib.decDigits (m + 1) = s) := HD.out.done h0 hs
        obtain ⟨y5, hy5, j5⟩ := text_joins [45] s (by simp; omega)
        have HY5 : Hid (y5 = [45] ++ s) := hy5
        clear HG HD hc j1 HY hy5
        go_wp2_with fail
        go_ret
        refine ⟨?_, rfl⟩
        rw [HFin.out]
        show _ = Ending.returned (.string ⟨([45] ++ s).toArray⟩)
        rw [← HY5.out]
        rfl
  · obtain ⟨m, rfl⟩ : ∃ m : Nat, n = (m : Int) := ⟨n.toNat, by omega⟩
    have e1 : Lib.itoa (m : Int) = Lib.decDigits m := by
      unfold Lib.itoa
      rw [if_neg hneg]
      simp
    rw [e1]
    clear e1
    go_enter Tryd.func49, Tryd.ntmps49
    go_wp2_with fail
    go_loop [3, 4, 5] (fun t3 t4 _ => ∃ (u : Nat) (s : List UInt8), t3 = .int .u64 (u : Nat) ∧ t4 = .string ⟨s.toArray⟩ ∧ Dq (m) u s ∧ u ≤ 9223372036854775808) (fun t3 t4 _ => 2 * (intOf t3).toNat + noneS t4)
    case atStart => exact ⟨m, [], rfl, rfl, .inl ⟨rfl, rfl⟩, by omega⟩
    case round =>
    obtain ⟨u, s, rfl, rfl, hD, hu⟩ := hrel
    have HD : Hid (Dq (m) u s) := hD
    have HL : Hid (s.length ≤ 64) := hD.len (by omega)
    have hsl : s.length ≤ 64 := HL.out
    clear hD
    have hm : (u : Int) % 10 = ((u % 10 : Nat) : Int) := by omega
    have hm' : Int.tmod (u : Int) 10 = ((u % 10 : Nat) : Int) := by rw [Int.tmod_eq_emod_of_nonneg (by omega)]; omega
    have hq : Int.tdiv (u : Int) 10 = ((u / 10 : Nat) : Int) := by rw [Int.tdiv_eq_ediv_of_nonneg (by omega)]; omega
    have hd10 : u % 10 < 10 := by omega
    have hc := digit_cut (u % 10) hd10
    obtain ⟨y, hy, j1⟩ := text_joins [UInt8.ofNat (48 + u % 10)] s (by simp; omega)
    have HY : Hid (y = [UInt8.ofNat (48 + u % 10)] ++ s) := hy
    have hdl : ((u % 10 : Nat) : Int) + 1 ≤ 10 := by omega
    have hdl0 : (0 : Int) ≤ ((u % 10 : Nat) : Int) := by omega
    clear hy
    have HG : Hid (0 < u ∨ s = [] → Dq (m) (u / 10) y) := fun h => by rw [HY.out]; exact HD.out.step h
    have HNE : Hid (y ≠ []) := by show _ ≠ _; rw [HY.out]; simp
    by_cases h0 : 0 < u
    · have h0' : (0 : Int) < (u : Int) := by omega
      have HG2 : Hid _ := HG.out (.inl h0)
      generalize u % 10 = d at *
      generalize [UInt8.ofNat (48 + d)] = dd at *
      clear HG HD
      go_wp2_with fail
      go_round
      case rel => exact ⟨u / 10, y, by first | rfl | (rw [hq]), rfl, HG2.out, by omega⟩
      case measure =>
        have := noneS_some HNE.out
        simp only [intOf]
        omega
    · have h0' : ¬ (0 : Int) < (u : Int) := by omega
      by_cases hs : s = []
      · have HG2 : Hid _ := HG.out (.inr hs)
        have HU0 : Hid (u = 0) := by show _ = _; omega
        generalize u % 10 = d at *
        generalize [UInt8.ofNat (48 + d)] = dd at *
        subst hs
        clear HG HD
        go_wp2_with fail
        go_round
        case rel => exact ⟨u / 10, y, by first | rfl | (rw [hq]), rfl, HG2.out, by omega⟩
        case measure =>
          have := noneS_some HNE.out
          have e : noneS (.string ⟨([] : List UInt8).toArray⟩) = 1 := rfl
          have e2 := HU0.out
          have e3 : noneS (.string ⟨#[]⟩) = 1 := rfl
          simp only [intOf]
          omega
      · have hs' : (s == ([] : List UInt8)) = false := beq_eq_false_iff_ne.2 hs
        have HFin : Hid (Lib.decDigits (m) = s) := HD.out.done h0 hs
        clear HG HD hc j1 HY
        go_wp2_with fail
        go_ret
        refine ⟨?_, rfl⟩
        rw [HFin.out]
        rfl

end Go.Proofs.YtnddpalngjmhnaaDoor
