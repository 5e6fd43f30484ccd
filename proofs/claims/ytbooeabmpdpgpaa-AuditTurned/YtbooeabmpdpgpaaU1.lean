/-
  A set of kinds in the program; groups that are looked at; rising, formed.
-/
import Derived.Test.YtbooeabmpdpgpaaPlain
import Derived.Test.YtbooeabmpdpgpaaPInts
namespace Go.Proofs.Ytbooeabmpdpgpaa
open Go.RowKit

set_option maxRecDepth 100000 in
set_option maxHeartbeats 2000000 in
theorem with_any {w : World} (K : K4) (k : Nat) (hk : k = 1 ∨ k = 2 ∨ k = 3 ∨ k = 4) :
    Calls Try.prog 39 #[.int .i64 (K.val : Nat), .int .i64 (k : Nat)] w fun e w' => e = .returned (.int .i64 ((K.put k).val : Nat)) ∧ w' = w := by
  obtain ⟨n, hn⟩ : ∃ n : Nat, n = K.val := ⟨_, rfl⟩
  obtain ⟨m, hm⟩ : ∃ m : Nat, m = (K.put k).val := ⟨_, rfl⟩
  rw [← hn, ← hm]
  have hb : bits BinOp.or .i64 (n : Int) ((2 ^ k : Nat) : Int) = (m : Int) := by
    subst hn hm
    obtain ⟨o, p, c, a⟩ := K
    rcases hk with rfl | rfl | rfl | rfl <;> cases o <;> cases p <;> cases c <;> cases a <;> decide
  clear hn hm
  rcases hk with rfl | rfl | rfl | rfl
  all_goals
    simp only [Nat.reducePow] at hb
    go_enter Try.func39, Try.ntmps39
    go_wp2
    go_ret
    exact ⟨congrArg (fun z => Ending.returned (.int .i64 z)) hb, rfl⟩
set_option maxRecDepth 100000 in
set_option maxHeartbeats 2000000 in
theorem has_any {w : World} (K : K4) (k : Nat) (hk : k = 1 ∨ k = 2 ∨ k = 3 ∨ k = 4) :
    Calls Try.prog 40 #[.int .i64 (K.val : Nat), .int .i64 (k : Nat)] w fun e w' => e = .returned (.bool (K.has k)) ∧ w' = w := by
  obtain ⟨n, hn⟩ : ∃ n : Nat, n = K.val := ⟨_, rfl⟩
  obtain ⟨m, hm⟩ : ∃ m : Bool, m = K.has k := ⟨_, rfl⟩
  rw [← hn, ← hm]
  have hb : (bits BinOp.and .i64 ((n / 2 ^ k : Nat) : Int) 1 == 1) = m := by
    subst hn hm
    obtain ⟨o, p, c, a⟩ := K
    rcases hk with rfl | rfl | rfl | rfl <;> cases o <;> cases p <;> cases c <;> cases a <;> decide
  clear hn hm
  rcases hk with rfl | rfl | rfl | rfl
  all_goals
    simp only [Nat.reducePow] at hb
    go_enter Try.func40, Try.ntmps40
    go_wp2
    go_ret
    exact ⟨congrArg (fun z => Ending.returned (.bool z)) hb, rfl⟩

/-- Numbers that are looked at. -/
def Gv (w : World) (a : Option Addr) (gs : List Nat) : Prop :=
  0 < gs.length → ∃ b off, a = some ⟨b, off, none⟩ ∧ b < w.heap.size ∧ ∀ i (h : i < gs.length), w.cell? ⟨b, off + i, none⟩ = some (.int .i64 (gs[i] : Nat))
theorem Gv.nil (w : World) (a : Option Addr) : Gv w a [] := fun h => by simp at h
theorem Gv.all {w w' : World} {a : Option Addr} {gs : List Nat} (h : Gv w a gs) (k : Kept (fun _ => True) w w') : Gv w' a gs := fun h0 => by
  obtain ⟨b, off, e, hb, hc⟩ := h h0
  exact ⟨b, off, e, Nat.lt_of_lt_of_le hb k.size, fun i hi => (kept_cell k hb trivial).trans (hc i hi)⟩
theorem Its.gv {w : World} {base n cap : Nat} {ao : Option Addr} {gs : List Nat} (h : Its w base (.slice ao n cap) gs) : Gv w ao gs := fun h0 => by
  obtain ⟨g, rfl, h1⟩ := h.at 0 h0
  refine ⟨g, 0, rfl, World.block_lt_of_cell? w _ h1, fun i hi => ?_⟩
  obtain ⟨g', e, h2⟩ := h.at i hi
  injection e with e
  injection e with e
  subst e
  rw [Nat.zero_add]
  exact h2
/-- A record's value. -/
def Ur.val (r : Ur) (a : Option Addr) (c : Nat) : Value := .agg #[.int .i64 (r.k : Nat), .string ⟨r.tx.toArray⟩, .slice a r.gs.length c, .string ⟨r.bd.toArray⟩]

theorem upG_cons (a : Int) (g : Nat) (t : List Nat) : upG a (g :: t) = (decide (a < (g : Int)) && decide (g < 3) && upG g t) := rfl
set_option maxRecDepth 100000 in
set_option maxHeartbeats 2000000 in
theorem rising_any {w : World} {ao : Option Addr} {cap : Nat} {gs : List Nat} (h : Gv w ao gs) (hn : gs.length ≤ 100000) :
    Calls Try.prog 78 #[.slice ao gs.length cap] w fun e w' => e = .returned (.bool (upG (-1) gs)) ∧ ∃ n, w' = w.drewN n := by
  have HV : Hid (Gv w ao gs) := h
  clear h
  obtain ⟨R, hR⟩ : ∃ R, R = upG (-1) gs := ⟨_, rfl⟩
  rw [← hR]
  have HR : Hid (upG (-1) gs = R) := hR.symm
  clear hR
  go_enter Try.func78, Try.ntmps78
  go_wp2
  go_loopw [8, 3] (fun t u wr => ∃ (i m : Nat) (q : Int), i ≤ gs.length ∧ t = .int .i64 i ∧ u = .int .i64 q ∧ upG q (gs.drop i) = R ∧ -1 ≤ q ∧ q < 1000 ∧ wr = w.drewN m) (fun t _ _ => gs.length - (intOf t).toNat)
  case atStart => exact ⟨0, 0, -1, Nat.zero_le _, rfl, rfl, by rw [List.drop_zero, HR.out], by omega, by omega, rfl⟩
  case round =>
    obtain ⟨i, m, q, hi, rfl, rfl, hq, q0, q1, rfl⟩ := hrel
    by_cases hlt : i < gs.length
    · obtain ⟨b, off, rfl, hb, hc⟩ := HV.out (by omega)
      have c0 := hc i hlt
      have i0 : (0 : Int) ≤ (i : Int) := by omega
      have i1 : (i : Int) < (gs.length : Int) := by omega
      rw [← List.getElem_cons_drop hlt, upG_cons] at hq
      clear hc
      generalize gs[i] = g at *
      have HQ : Hid ((decide (q < (g : Int)) && decide (g < 3) && upG g (gs.drop (i + 1))) = R) := hq
      clear hq
      by_cases h1 : q < (g : Int)
      · by_cases h2 : g < 3
        · have n1 : ¬ (g : Int) ≤ q := by omega
          have n2 : ¬ (g : Int) ≥ 3 := by omega
          have n3 : ¬ (3 : Int) ≤ (g : Int) := by omega
          have HQ2 : Hid (upG g (gs.drop (i + 1)) = R) := by have := HQ.out; show _ = _; simpa [h1, h2] using this
          clear HQ
          go_wp2
          go_roundw
          case rel => exact ⟨i + 1, m, (g : Int), by omega, by go_num, rfl, HQ2.out, by omega, by omega, rfl⟩
          case measure => simp [intOf]; omega
        · have n1 : ¬ (g : Int) ≤ q := by omega
          have n2 : (g : Int) ≥ 3 := by omega
          have n3 : (3 : Int) ≤ (g : Int) := by omega
          have HQ2 : false = R := by have := HQ.out; simpa [h2] using this
          subst HQ2
          clear HQ
          go_wp2
          go_ret
          exact ⟨rfl, m, rfl⟩
      · have n1 : (g : Int) ≤ q := by omega
        have HQ2 : false = R := by have := HQ.out; simpa [h1] using this
        subst HQ2
        clear HQ
        go_wp2
        go_ret
        exact ⟨rfl, m, rfl⟩
    · have i1 : ¬ (i : Int) < (gs.length : Int) := by omega
      have HQ2 : true = R := by rw [← hq, List.drop_eq_nil_of_le (by omega)]; rfl
      subst HQ2
      go_wp2
      go_ret
      exact ⟨rfl, m, rfl⟩

end Go.Proofs.Ytbooeabmpdpgpaa
