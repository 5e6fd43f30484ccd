/-
  What CasesAlone asks, plainly; the books' Within and Same of truths.
-/
import Derived.Test.YtnddpalngjmhnabDoorV12
import Derived.Test.YtnddpalngjmhnabDoorVOps
namespace Go.Proofs.YtnddpalngjmhnabDoor
open Go.RowKit

set_option maxHeartbeats 1000000 in
theorem bwithin_any {w : World} (n : Int) (m : Nat) (hm : m ≤ 1000000000000) :
    Calls Tryd.prog 7 #[.int .i64 n, .int .i64 0, .int .i64 m] w fun e w' => (∃ k : Nat, k ≤ m ∧ e = .returned (.int .i64 k)) ∧ w' = w := by
  have hz : ((m : Int) + 1 == 0) = false := by simp; omega
  have hz2 : ¬ ((m : Int) + 1 = 0) := by omega
  have hz3 : ¬ ((m : Int) + 1 = -1) := by omega
  have h1 : n.tmod ((m : Int) + 1) < (m : Int) + 1 := Int.tmod_lt_of_pos n (by omega)
  have h2 : -((m : Int) + 1) < n.tmod ((m : Int) + 1) := by
    have := Int.tmod_lt_of_pos (-n) (show (0 : Int) < (m : Int) + 1 by omega)
    rw [Int.neg_tmod] at this
    omega
  generalize hr : n.tmod ((m : Int) + 1) = r at *
  by_cases hn : r < 0
  · go_enter Tryd.func7, Tryd.ntmps7
    go_wp2
    go_ret
    refine ⟨⟨(r + (m : Int) + 1).toNat, by omega, ?_⟩, rfl⟩
    rw [Int.toNat_of_nonneg (by omega)]
    rfl
  · go_enter Tryd.func7, Tryd.ntmps7
    go_wp2
    go_ret
    refine ⟨⟨r.toNat, by omega, ?_⟩, rfl⟩
    rw [Int.toNat_of_nonneg (by omega)]
    rfl


set_option maxRecDepth 100000 in
set_option maxHeartbeats 4000000 in
theorem same_bookB {w : World} {u v : Value} {xs : List Bool} (h : Cv w u (bv xs)) (h' : Cv w v (bv xs)) (hl : xs.length ≤ 1000000) :
    Calls Tryd.prog 11 #[u, v] w fun e w' => e = .returned (.bool true) ∧ Kept (fun _ => True) w w' := by
  have HU : Hid (Cv w u (bv xs)) := h
  have HV : Hid (Cv w v (bv xs)) := h'
  obtain ⟨uo, uc, rfl, -, -⟩ := h.bools
  obtain ⟨vo, vc, rfl, -, -⟩ := h'.bools
  clear h h'
  go_enter Tryd.func11, Tryd.ntmps11
  go_wp2_with fail
  go_loopw [5] (fun ti wr => ∃ i : Nat, i ≤ xs.length ∧ ti = .int .i64 i ∧ Kept (fun _ => True) w wr) (fun ti _ => xs.length - (intOf ti).toNat)
  case atStart => exact ⟨0, Nat.zero_le _, rfl, Kept.refl _ _⟩
  case round =>
  obtain ⟨i, hi, rfl, hk⟩ := hrel
  have HK : Hid (Kept (fun _ => True) w wr) := hk
  by_cases hlt : i < xs.length
  · obtain ⟨b, off, rfl, hb, c0⟩ := (HU.out.all hk).boolAt i hlt
    obtain ⟨b2, off2, rfl, hb2, c1⟩ := (HV.out.all hk).boolAt i hlt
    have i1 : (i : Int) < (xs.length : Int) := by omega
    have i0 : (0 : Int) ≤ (i : Int) := by omega
    clear hk hb hb2
    generalize xs[i] = x at *
    skip
    go_wp2_with fail
    go_quiet (fail)
    go_wp2_with fail
    go_roundw
    case rel => exact ⟨i + 1, by omega, by go_num, HK.out.drewN _⟩
    case measure => simp [intOf]; omega
  · have i1 : ¬ (i : Int) < (xs.length : Int) := by omega
    clear hk
    go_wp2_with fail
    go_ret
    exact ⟨rfl, HK.out⟩


theorem pair_of {α : Type} {l : List α} (h : l.length = 2) : ∃ a b, l = [a, b] := by
  match l, h with
  | [a, b], _ => exact ⟨a, b, rfl⟩
theorem triple_of {α : Type} {l : List α} (h : l.length = 3) : ∃ a b c, l = [a, b, c] := by
  match l, h with
  | [a, b, c], _ => exact ⟨a, b, c, rfl⟩
theorem loan_shape {s : Sa} (f : Fit loan s) : ∃ ty p q d0 d1 h0 h1 h2, s = ⟨ty, [p, q], [d0, d1], [h0, h1, h2]⟩ ∧ -1000 ≤ q ∧ q ≤ 1000 := by
  obtain ⟨ty, vs, ds, gs⟩ := s
  obtain ⟨p, q, rfl⟩ := pair_of (l := vs) f.sz.vals
  obtain ⟨d0, d1, rfl⟩ := pair_of (l := ds) f.sz.done
  obtain ⟨h0, h1, h2, rfl⟩ := triple_of (l := gs) f.sz.got
  have := f.within 1 (by decide)
  simp only [loan, List.getD_eq_getElem?_getD, List.getElem?_cons_succ, List.getElem?_cons_zero, Option.getD_some, wthn, Bool.and_eq_true, decide_eq_true_eq] at this
  exact ⟨ty, p, q, d0, d1, h0, h1, h2, rfl, by omega, by omega⟩
theorem spot_risk : spot (loan.attrs.map At.name) [114, 105, 115, 107] = some 1 := by kernel_rfl
theorem spot_pay : spot (loan.stages.map Ru.name) [112, 97, 121] = some 1 := by kernel_rfl
/-- Add is a Set of the sum. -/
theorem add_is_set {ty : List UInt8} {p q n : Int} {ds gs : List Bool} (c : List UInt8) (h1 : -30 ≤ n) (h2 : n ≤ 30) : applyP loan ⟨ty, [p, q], ds, gs⟩ ⟨3, c, [114, 105, 115, 107], n⟩ = applyP loan ⟨ty, [p, q], ds, gs⟩ ⟨2, c, [114, 105, 115, 107], q + n⟩ := by
  unfold applyP
  rw [if_neg (by show ¬ (3 : Int) = 2; decide), if_pos rfl, if_pos rfl, addP, setP, spot_risk]
  show fin loan (if n < -2000 ∨ 2000 < n then _ else putP loan _ 1 (q + n)) = _
  rw [if_neg (by omega)]
  rfl
theorem set_alone {ty : List UInt8} {p q N : Int} {ds gs : List Bool} (c : List UInt8) {X : Sa} {tx : List UInt8} (h : applyP loan ⟨ty, [p, q], ds, gs⟩ ⟨2, c, [114, 105, 115, 107], N⟩ = (X, tx, 0)) : X.vals = [p, N] ∧ X.done = ds := by
  unfold applyP at h
  rw [if_pos rfl, setP, spot_risk] at h
  have h' : fin loan (putP loan ⟨ty, [p, q], ds, gs⟩ 1 N) = (X, tx, 0) := h
  unfold putP at h'
  split at h'
  · have := (Prod.mk.inj (show (settled loan _, ([] : List UInt8), 0) = (X, tx, 0) from h')).1
    rw [← this]
    exact ⟨(settled_grows loan _).vals, (settled_grows loan _).done⟩
  · have := (Prod.mk.inj (Prod.mk.inj (show (Sa.none, ([] : List UInt8), 34) = (X, tx, 0) from h')).2).2
    cases this
theorem pay_seen (ty : List UInt8) (p q : Int) (d0 g0 g1 g2 : Bool) : hld loan ⟨ty, [p, q], [d0, true], [g0, g1, g2]⟩ [112, 97, 121] = true := by
  unfold hld sees
  kernel_rfl
theorem fire_alone {ty : List UInt8} {p q : Int} {d0 d1 g0 g1 g2 : Bool} (c : List UInt8) {Z : Sa} {tx : List UInt8} (h : applyP loan ⟨ty, [p, q], [d0, d1], [g0, g1, g2]⟩ ⟨4, c, [112, 97, 121], 0⟩ = (Z, tx, 0)) : ∃ k1 k2, Z = ⟨Z.type, [p, q], [d0, true], [true, k1, k2]⟩ := by
  unfold applyP at h
  rw [if_neg (by show ¬ (4 : Int) = 2; decide), if_neg (by show ¬ (4 : Int) = 3; decide), if_pos rfl, fireP, spot_pay] at h
  have h' : fin loan (if rdy loan ⟨ty, [p, q], [d0, d1], [g0, g1, g2]⟩ 1 = true then (⟨ty, [p, q], [d0, true], [g0, g1, g2]⟩, 0) else (⟨ty, [p, q], [d0, d1], [g0, g1, g2]⟩, 32)) = (Z, tx, 0) := h
  split at h'
  · have hz := (Prod.mk.inj (show (settled loan ⟨ty, [p, q], [d0, true], [g0, g1, g2]⟩, ([] : List UInt8), 0) = (Z, tx, 0) from h')).1
    have g := settled_grows loan ⟨ty, [p, q], [d0, true], [g0, g1, g2]⟩
    have n := settled_none loan ⟨ty, [p, q], [d0, true], [g0, g1, g2]⟩ 0 (by decide)
    rw [hz] at g n
    obtain ⟨zt, zv, zd, zg⟩ := Z
    obtain rfl : zv = [p, q] := g.vals
    obtain rfl : zd = [d0, true] := g.done
    obtain ⟨k0, k1, k2, rfl⟩ := triple_of (l := zg) g.got
    cases k0 with
    | true => exact ⟨k1, k2, rfl⟩
    | false =>
      have := n rfl
      rw [show (loan.marks[0]'(by decide)).guard = [112, 97, 121] from rfl, pay_seen] at this
      cases this
  · have := (Prod.mk.inj (Prod.mk.inj (show (Sa.none, ([] : List UInt8), 32) = (Z, tx, 0) from h')).2).2
    cases this

end Go.Proofs.YtnddpalngjmhnabDoor
