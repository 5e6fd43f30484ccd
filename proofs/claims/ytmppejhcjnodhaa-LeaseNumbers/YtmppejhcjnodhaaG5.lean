/-
  Fair, walked.
-/
import Derived.Test.YtmppejhcjnodhaaG4
import Derived.Deep.RegionHeld
namespace Go.Proofs.Ytmppejhcjnodhaa
open Go.RowKit

set_option maxRecDepth 100000 in
set_option maxHeartbeats 2000000 in
theorem fair_yes {w : World} {ao : Option Addr} {n cap : Nat} {xs : List (Int × Int)} (hl : xs.length = n) (h : Rd w ao xs) (hn : ao = none → cap = 0 ∧ xs = []) (hm : n ≤ 1000) (r : Int) (hr : Dr r) (hA : AllTm xs) (F : Bool) (hF : F = true ↔ Fairly r xs) :
    Calls Try.prog 16 #[.slice ao n cap, .int .i64 r] w fun e w' => e = .returned (.bool F) ∧ Kept (fun _ => True) w w' := by
  have HR : Hid (Dr r) := hr
  have HA : Hid (AllTm xs) := hA
  have HL : Hid (xs.length = n) := hl
  have i1 := isDrift_any r w
  rw [decide_eq_true hr] at i1
  have i2 := contains_any (cap := cap) h (by omega) true (true_tells hA)
  rw [hl] at i2
  have i3 := fun W (k : Kept (fun _ => True) w W) => clone_any (cap := cap) (h.kept k (fun _ _ => trivial)) hn (by omega)
  simp only [hl] at i3
  have HF0 : Hid (F = true ↔ Fairly r xs) := hF
  clear h hr hA hl hF
  go_enter Try.func16, Try.ntmps16
  go_wp2_with fail
  refine i1.mono ?_
  rintro e w ⟨rfl, rfl⟩
  go_wp2_with fail
  refine i2.mono ?_
  rintro e w1 ⟨rfl, k1⟩
  go_wp2_with fail
  refine (i3 _ k1).mono ?_
  rintro e w2 ⟨v, rfl, o2, k2⟩
  clear i1 i2 i3
  -- the sorted row
  rw [← HL.out] at o2
  obtain ⟨bo, bcap, hv, hc, hrd, hat, hnil⟩ := own_rd o2
  subst hv
  have k12 := k1.trans k2
  have hsort : Calls Try.prog 36 #[.slice bo xs.length bcap, .func (.func 37) #[] #[]] w2 fun e w' => e = .returned (.tuple #[]) ∧ ∃ ys : List (Int × Int), ys.length = xs.length ∧ ys.Perm xs ∧ (∀ i j (_ : i < j) (hj : j < ys.length), ys[i].1 ≤ ys[j].1) ∧ Rd w' bo ys ∧ Kept (fun _ => True) w w' := by
    cases bo with
    | none =>
      obtain ⟨rfl, rfl⟩ := hnil rfl
      refine sort_none.mono ?_
      rintro e w' ⟨rfl, rfl⟩
      exact ⟨rfl, [], rfl, List.Perm.refl _, fun i j _ hj => by simp at hj, ⟨fun h => by simp at h⟩, k12⟩
    | some ad =>
      obtain ⟨blk, off, spot⟩ := ad
      obtain ⟨q1, q2, q3⟩ := hat _ rfl
      simp only at q1 q2 q3
      subst q2 q3
      refine (sort_any o2 (by have := HL.out; omega)).mono ?_
      rintro e w' ⟨rfl, ys, hl, hp, hs, hR, hk⟩
      refine ⟨rfl, ys, hl, hp, hs, hR, k12.then hk (fun i hi _ => ?_)⟩
      have := own_ge o2 q1
      have := k1.size
      omega
  rw [HL.out] at hsort ⊢
  clear o2 hrd hat hnil hc k12 k1 k2
  go_wp2_with fail
  refine hsort.mono ?_
  rintro e w3 ⟨rfl, ys, hl, hp, hs, hR, hk⟩
  clear hsort
  have HF : Hid (F = true ↔ Fairly r ys) := HF0.out.trans ⟨fun q => q.perm hp, fun q => q.perm hp.symm⟩
  have HT : Hid (AllTm ys) := fun x hx => HA.out x (hp.mem_iff.1 hx)
  have HS : Hid (∀ i j (_ : i < j) (hj : j < ys.length), ys[i].1 ≤ ys[j].1) := hs
  have HRd : Hid (Rd w3 bo ys) := hR
  have HK : Hid (Kept (fun _ => True) w w3) := hk
  have HY : Hid (ys.length = n) := hl
  clear hp hs hR hk HA hn HF0 hl HL
  go_wp2_with fail
  go_loopw [6] (fun t wr => ∃ (k K : Nat), k ≤ n ∧ K = k + 1 ∧ t = .int .i64 K ∧ (∀ i (_ : i < k) (hi : i + 1 < ys.length), Goes r ys[i] ys[i + 1]) ∧ Kept (fun _ => True) w3 wr) (fun t _ => n + 1 - (intOf t).toNat)
  case atStart => exact ⟨0, 1, Nat.zero_le _, rfl, rfl, fun i hi => by omega, Kept.refl _ _⟩
  case round =>
    obtain ⟨k, K, hk, hK, rfl, hg, kk⟩ := hrel
    have HG : Hid (∀ i (_ : i < k) (hi : i + 1 < ys.length), Goes r ys[i] ys[i + 1]) := hg
    have HKk : Hid (K = k + 1) := hK
    have hKk : (K : Int) - 1 = (k : Int) := by omega
    clear hg
    by_cases hlt : K < n
    · have hlt' : k + 1 < ys.length := by have := HY.out; omega
      obtain ⟨b, off, rfl, hb, hc⟩ := (HRd.out.kept kk (fun _ _ => trivial)).row (by omega)
      obtain ⟨y0, y1⟩ := hc k (by omega)
      obtain ⟨z0, z1⟩ := hc (k + 1) hlt'
      have cs := fun (W : World) (q : Bool) (hq : q = true ↔ Goes r ys[k] ys[k + 1]) => fairStep_any ys[k] ys[k + 1] r q hq (HT.out _ (List.getElem_mem _)) (HT.out _ (List.getElem_mem _)) HR.out (HS.out k (k + 1) (by omega) hlt') W
      have HQ : Hid (Goes r ys[k] ys[k + 1] → ∀ i (_ : i < k + 1) (hi : i + 1 < ys.length), Goes r ys[i] ys[i + 1]) := fun q i hi1 hi2 => by
        by_cases e : i = k
        · subst e; exact q
        · exact HG.out i (by omega) hi2
      have HN : Hid (¬ Goes r ys[k] ys[k + 1] → F = false) := fun q => tells_no HF.out fun hf => q (hf.step HS.out k hlt')
      clear hc
      generalize ys[k] = x at *
      generalize ys[k + 1] = y at *
      rw [← hK] at z0 z1
      have i1 : (K : Int) < (n : Int) := by omega
      have i0 : (0 : Int) ≤ (K : Int) := by omega
      have j1 : (k : Int) < (n : Int) := by omega
      have j0 : (0 : Int) ≤ (k : Int) := by omega
      have wk : IntKind.i64.wrap (k : Int) = (k : Int) := wrap_ok (by omega) (by omega)
      obtain ⟨x1, x2⟩ := x
      obtain ⟨y1', y2'⟩ := y
      simp only at y0 y1 z0 z1 cs
      have kd : Kept (fun _ => True) wr wr.drew := (Kept.refl _ _).drew
      have u0 : ∀ W, Kept (fun _ => True) wr W → W.cell? ⟨b, off + k * 2, none⟩ = some (.int .i64 x1) := fun W q => cell_kept q y0 trivial
      have u1 : ∀ W, Kept (fun _ => True) wr W → W.cell? ⟨b, off + k * 2 + 1, none⟩ = some (.int .i64 x2) := fun W q => cell_kept q y1 trivial
      have u2 : ∀ W, Kept (fun _ => True) wr W → W.cell? ⟨b, off + K * 2, none⟩ = some (.int .i64 y1') := fun W q => cell_kept q z0 trivial
      have u3 : ∀ W, Kept (fun _ => True) wr W → W.cell? ⟨b, off + K * 2 + 1, none⟩ = some (.int .i64 y2') := fun W q => cell_kept q z1 trivial
      clear hK hlt' hlt y0 y1 z0 z1
      by_cases he : Goes r (x1, x2) (y1', y2')
      · have hq := HQ.out he
        replace cs := fun W => cs W true (true_tells he)
        have hgo : Hid (∀ i (_ : i < k + 1) (hi : i + 1 < ys.length), Goes r ys[i] ys[i + 1]) := hq
        clear hq HQ HN he
        go_wp2_with fail
        go_region_held (fun W => Kept (fun _ => True) wr W) (assumption) ((go_at_call 39; refine Calls.mono (cs _) ?_; rintro e w5 ⟨rfl, k5⟩; have k5' : Kept (fun _ => True) wr w5 := kd.trans k5))
        all_goals
          go_wp2_with fail
          go_roundw
          case rel => exact ⟨k + 1, K + 1, by have := HKk.out; omega, by have := HKk.out; omega, by go_num, hgo.out, kk.trans k5'⟩
          case measure => simp [intOf]; omega
      · replace cs := fun W => cs W false (false_tells he)
        have hF := HN.out he
        subst hF
        clear HQ HN he
        go_wp2_with fail
        go_region_held (fun W => Kept (fun _ => True) wr W) (assumption) ((go_at_call 39; refine Calls.mono (cs _) ?_; rintro e w5 ⟨rfl, k5⟩; have k5' : Kept (fun _ => True) wr w5 := kd.trans k5))
        all_goals
          go_wp2
          go_ret
          exact ⟨rfl, (HK.out.trans kk).trans k5'⟩
    · have i1 : ¬ (K : Int) < (n : Int) := by omega
      have hF : F = true := tells_yes HF.out (fairly_of_steps HS.out (fun i hi => HG.out i (by have := HY.out; omega) hi))
      subst hF
      go_wp2
      go_ret
      exact ⟨rfl, HK.out.trans kk⟩

end Go.Proofs.Ytmppejhcjnodhaa
