/-
  Right.
-/
import Derived.Test.YtahbfffhkpojmaaDoorT5
import Derived.Laws.Cover1
namespace Go.Proofs.YtahbfffhkpojmaaDoor
open Go.RowKit

theorem max_three (a b c : Nat) : ∃ M : Int, (∀ W, (Builtin.max_ #[3, 3, 3] 3 #[.int .i64 (a : Nat), .int .i64 (b : Nat), .int .i64 (c : Nat)]).run Tryd.prog W = .ok (.int .i64 M) W) ∧ (6 < M ↔ (6 < a ∨ 6 < b ∨ 6 < c)) := by
  refine ⟨_, fun W => run_max_int3 _ _ _ _ _ _ _ _ _, ?_⟩
  repeat' split
  all_goals omega

set_option maxRecDepth 100000 in
set_option maxHeartbeats 8000000 in
theorem right_any {w : World} {v : Value} {t : Ty} (h : TyV w v t) (hz : Tsz t) :
    Calls Tryd.prog 11 #[v] w fun e w' => e = .returned (.int .i64 (right t : Nat)) ∧ Kept (fun _ => True) w w' := by
  obtain ⟨C, hC⟩ : ∃ C, C = right t := ⟨_, rfl⟩
  rw [← hC]
  unfold right at hC
  have HC : Hid _ := hC
  clear hC
  obtain ⟨va, vs, vm, rfl, ha, hs, hk⟩ := h
  obtain ⟨ao, ac, rfl, la⟩ := ha.form
  obtain ⟨so, sc, rfl, ls⟩ := hs.form
  obtain ⟨mo, mc, rfl, lm⟩ := hk.form
  have cn := fun W => name_any (w := W) (s := t.name) hz.name
  have HZ : Hid (Tsz t) := hz
  have k0 : Kept (fun _ => True) w (w.alloc (.cells #[.string ⟨t.name.toArray⟩, .slice ao t.attrs.length ac, .slice so t.stages.length sc, .slice mo t.marks.length mc] 26)) := (Kept.refl _ _).alloc _
  have hX := heap_alloc_new w (.cells #[.string ⟨t.name.toArray⟩, .slice ao t.attrs.length ac, .slice so t.stages.length sc, .slice mo t.marks.length mc] 26)
  replace ha := ha.all k0
  replace hs := hs.all k0
  replace hk := hk.all k0
  obtain ⟨⟨z0, z1, z2, z3⟩, _⟩ := four_cell hX
  clear hz
  go_enter Tryd.func11, Tryd.ntmps11
  go_wp2_with fail
  generalize w.alloc (.cells #[.string ⟨t.name.toArray⟩, .slice ao t.attrs.length ac, .slice so t.stages.length sc, .slice mo t.marks.length mc] 26) = w1 at *
  obtain ⟨B, hB⟩ : ∃ B, B = w.heap.size := ⟨_, rfl⟩
  rw [← hB] at hX z0 z1 z2 z3 ⊢
  have K0 : Hid (Kept (fun _ => True) w w1) := k0
  have HA : Hid (Av w1 (.slice ao t.attrs.length ac) t.attrs) := ha
  have HS : Hid (Rv w1 (.slice so t.stages.length sc) t.stages) := hs
  have HM : Hid (Rv w1 (.slice mo t.marks.length mc) t.marks) := hk
  have HX : Hid (w1.heap[B]? = some (.cells #[.string ⟨t.name.toArray⟩, .slice ao t.attrs.length ac, .slice so t.stages.length sc, .slice mo t.marks.length mc] 26 (0, 0))) := hX
  clear hB ha hs hk hX k0
  refine Calls.mono (cn _) ?_
  rintro e w2 ⟨rfl, k2⟩
  have HK2 : Hid (Kept (fun _ => True) w1 w2) := k2
  obtain ⟨⟨y0, y1, y2, y3⟩, _⟩ := four_cell ((k2.block B (lt_of_block HX.out) trivial).trans HX.out)
  clear k2 cn z0 z1 z2 z3
  cases hN : isName t.name with
  | false =>
    have HE : Hid (C = 20) := by show _ = _; rw [HC.out, if_pos hN]
    clear HC hN
    go_wp2_with fail
    go_ret
    exact ⟨by rw [HE.out]; rfl, K0.out.trans HK2.out⟩
  | true =>
  have HC2 : Hid (C = if 6 < t.attrs.length ∨ 6 < t.stages.length ∨ 6 < t.marks.length then 4 else if rns t.attrs [] (nms t) ≠ 0 then rns t.attrs [] (nms t) else rgs (nms t) (t.stages ++ t.marks)) := by
    show _ = _
    rw [HC.out, if_neg (by rw [hN]; simp)]
  clear HC hN
  obtain ⟨M, hM, hM6⟩ := max_three t.attrs.length t.stages.length t.marks.length
  by_cases h6 : 6 < t.attrs.length ∨ 6 < t.stages.length ∨ 6 < t.marks.length
  · have HE : Hid (C = 4) := by show _ = _; rw [HC2.out, if_pos h6]
    have h6' : (6 : Int) < M := hM6.2 h6
    clear HC2 h6 hM6
    go_wp2_with fail
    go_ret
    exact ⟨by rw [HE.out]; rfl, K0.out.trans HK2.out⟩
  have h6' : ¬ (6 : Int) < M := fun h => h6 (hM6.1 h)
  have HC3 : Hid (C = if rns t.attrs [] (nms t) ≠ 0 then rns t.attrs [] (nms t) else rgs (nms t) (t.stages ++ t.marks)) := by
    show _ = _
    rw [HC2.out, if_neg h6]
  have l1 : t.attrs.length ≤ 6 := by omega
  have l2 : t.stages.length ≤ 6 := by omega
  have l3 : t.marks.length ≤ 6 := by omega
  have hnl : (nms t).length = t.attrs.length + t.stages.length + t.marks.length := by simp [nms]; omega
  have cnm := names_any (w := w2) (v := .agg #[.string ⟨t.name.toArray⟩, .slice ao t.attrs.length ac, .slice so t.stages.length sc, .slice mo t.marks.length mc]) (t := t) ⟨_, _, _, rfl, HA.out.all HK2.out, HS.out.all HK2.out, HM.out.all HK2.out⟩ (by omega)
  have HNL : Hid ((nms t).length ≤ 18) := by show _ ≤ _; omega
  have HNZ : Hid _ := HZ.out.names
  have HGZ : Hid _ := HZ.out.guards
  clear h6 hM6 HC2 hnl HZ
  generalize hns : nms t = ns at *
  clear hns
  go_wp2_with fail
  refine Calls.mono cnm ?_
  rintro e w3 ⟨nv, rfl, hT, k3⟩
  obtain ⟨no, nc, rfl, hnc, hng⟩ := hT.shape
  have HT : Hid (Txs w3 w2.heap.size (.slice no ns.length nc) ns) := hT
  have HK3 : Hid (Kept (fun _ => True) w1 w3) := HK2.out.trans k3
  have HNG : Hid _ := hng
  clear cnm hT k3 HK2 y0 y1 y2 y3 hng
  go_wp2_with fail
  go_loopw [4, 5, 29] (fun _ _ t29 wr => ∃ i : Nat, i ≤ ns.length ∧ t29 = .int .i64 i ∧ rns t.attrs [] ns = rns (t.attrs.drop i) (ns.take i) (ns.drop i) ∧ Kept (fun _ => True) w3 wr) (fun _ _ t29 _ => ns.length - (intOf t29).toNat)
  case atStart => exact ⟨0, Nat.zero_le _, rfl, rfl, Kept.refl _ _⟩
  case round =>
  obtain ⟨i, hi, rfl, hE, hk⟩ := hrel
  have HE : Hid (rns t.attrs [] ns = rns (t.attrs.drop i) (ns.take i) (ns.drop i)) := hE
  have HKr : Hid (Kept (fun _ => True) w3 wr) := hk
  have h18 : ns.length ≤ 18 := HNL.out
  clear hE hk
  by_cases hlt : i < ns.length
  · obtain ⟨g, rfl⟩ := HNG.out (by omega)
    have hTr := HT.out.kept (p := fun _ => True) HKr.out (fun _ _ => trivial)
    have q1 := hTr.cell i hlt
    have HS1 : Hid _ := rns_step (ats := t.attrs) hlt
    have c1 := fun W => name_any (w := W) (s := ns[i]) (HNZ.out _ (List.getElem_mem hlt))
    have c2 := fun W (k : Kept (fun _ => True) wr W) => contains_text (((hTr.kept (p := fun _ => True) k (fun _ _ => trivial)).few i (by omega) (by have := HNL.out; omega))) ns[i]
    have C2 : Hid _ := c2
    have q2 := cut_texts (g := g) (n := ns.length) (cap := nc) i (by omega)
    have i1 : (i : Int) < (ns.length : Int) := by omega
    have i0 : (0 : Int) ≤ (i : Int) := by omega
    have HTr : Hid _ := hTr
    clear hTr c2
    obtain ⟨bc, hbc⟩ : ∃ bc, bc = decide (ns[i] ∈ ns.take i) := ⟨_, rfl⟩
    rw [← hbc] at C2
    have HBC : Hid _ := hbc
    clear hbc
    generalize ns[i] = x at *
    have HBN : Hid (∃ bn, bn = isName x) := ⟨_, rfl⟩
    obtain ⟨bn, hbn⟩ := HBN.out
    rw [← hbn] at c1
    have HBN2 : Hid (bn = isName x) := hbn
    clear hbn HBN
    go_wp2_with fail
    refine Calls.mono (c1 _) ?_
    rintro e w4 ⟨rfl, k4⟩
    have HK4 : Hid (Kept (fun _ => True) wr w4) := k4
    have HKA : Hid (Kept (fun _ => True) w w4) := K0.out.trans (HK3.out.trans (HKr.out.trans k4))
    have HK14 : Hid (Kept (fun _ => True) w1 w4) := HK3.out.trans (HKr.out.trans k4)
    obtain ⟨⟨y0, y1, y2, y3⟩, _⟩ := four_cell ((HK14.out.block B (lt_of_block HX.out) trivial).trans HX.out)
    clear c1 k4
    cases bn with
    | false =>
      have HF : Hid (C = 20) := by
        show _ = _
        have h1 := HS1.out
        rw [if_pos HBN2.out.symm, ← HE.out] at h1
        rw [HC3.out, h1]
        rfl
      clear HS1 HBN2 HBC C2
      go_wp2_with fail
      go_ret
      exact ⟨by rw [HF.out]; rfl, HKA.out⟩
    | true =>
    have HS2 : Hid _ := HS1.out
    go_wp2_with fail
    refine Calls.mono (C2.out _ HK4.out) ?_
    rintro e w4 ⟨rfl, rfl⟩
    cases bc with
    | true =>
      have HF : Hid (C = 21) := by
        show _ = _
        have h1 := HS1.out
        rw [if_neg (by rw [← HBN2.out]; simp), if_pos (of_decide_eq_true HBC.out.symm), ← HE.out] at h1
        rw [HC3.out, h1]
        rfl
      clear HS1 HS2 HBN2 HBC C2
      go_wp2_with fail
      go_ret
      exact ⟨by rw [HF.out]; rfl, HKA.out⟩
    | false =>
    have HS3 : Hid (rns (t.attrs.drop i) (ns.take i) (ns.drop i) = if (∃ h : i < t.attrs.length, ranged t.attrs[i] = false) then 23 else rns (t.attrs.drop (i + 1)) (ns.take (i + 1)) (ns.drop (i + 1))) := by
      show _ = _
      have h1 := HS1.out
      rwa [if_neg (by rw [← HBN2.out]; simp), if_neg (of_decide_eq_false HBC.out.symm)] at h1
    clear HS1 HS2 HBN2 HBC C2
    by_cases hat : i < t.attrs.length
    · obtain ⟨b, off, rfl, hb, r0, r1, r2, r3⟩ := (HA.out.all HK14.out).at i hat
      have ha' : (i : Int) < (t.attrs.length : Int) := by omega
      have cr := fun W => ranged_any (w := W) t.attrs[i]
      have HR1 : Hid (ranged t.attrs[i] = false → C = 23) := by
        intro h
        have e := HS3.out
        rw [if_pos ⟨hat, h⟩] at e
        rw [HC3.out, HE.out, e]
        rfl
      have HR2 : Hid (ranged t.attrs[i] = true → rns t.attrs [] ns = rns (t.attrs.drop (i + 1)) (ns.take (i + 1)) (ns.drop (i + 1))) := by
        intro h
        rw [HE.out, HS3.out, if_neg (fun h' => by obtain ⟨_, h'⟩ := h'; rw [h] at h'; cases h')]
      clear hb HS3
      generalize ranged t.attrs[i] = br at *
      simp only [alay] at cr
      generalize t.attrs[i] = y at *
      go_wp2_with fail
      refine Calls.mono (cr _) ?_
      rintro e w6 ⟨rfl, k6⟩
      have HK6 : Hid (Kept (fun _ => True) w4 w6) := k6
      clear cr k6
      cases br with
      | false =>
        have HF : Hid (C = 23) := HR1.out rfl
        clear HR1 HR2
        go_wp2_with fail
        go_ret
        exact ⟨by rw [HF.out]; rfl, HKA.out.trans HK6.out⟩
      | true =>
        have HF : Hid _ := HR2.out (by simp)
        clear HR1 HR2
        go_wp2_with fail
        go_roundw
        case rel => exact ⟨i + 1, by omega, by go_num, HF.out, HKr.out.trans (HK4.out.trans HK6.out)⟩
        case measure => simp [intOf]; omega
    · have ha' : ¬ (i : Int) < (t.attrs.length : Int) := by omega
      have HF : Hid (rns t.attrs [] ns = rns (t.attrs.drop (i + 1)) (ns.take (i + 1)) (ns.drop (i + 1))) := by
        show _ = _
        rw [HE.out, HS3.out, if_neg (fun h => hat h.1)]
      have HI : Hid (i < ns.length) := hlt
      clear HS3 hat
      go_wp2_with fail
      go_roundw
      case rel => exact ⟨i + 1, HI.out, by go_num, HF.out, HKr.out.trans HK4.out⟩
      case measure =>
        have := HI.out
        simp [intOf]
        omega
  · have i1 : ¬ (i : Int) < (ns.length : Int) := by omega
    have HC4 : Hid (C = rgs ns (t.stages ++ t.marks)) := by
      show _ = _
      have h1 := HE.out
      rw [List.drop_eq_nil_of_le (by omega : ns.length ≤ i)] at h1
      have h2 : rns (t.attrs.drop i) (ns.take i) [] = 0 := by simp [rns]
      rw [HC3.out, h1, h2]
      rfl
    have HK13 : Hid (Kept (fun _ => True) w1 wr) := HK3.out.trans HKr.out
    obtain ⟨⟨y0, y1, y2, y3⟩, _⟩ := four_cell ((HK13.out.block B (lt_of_block HX.out) trivial).trans HX.out)
    have kc : Kept (fun _ => True) wr (wr.alloc (.cells #[.slice so t.stages.length sc, .slice mo t.marks.length mc] 24)) := (Kept.refl _ _).alloc _
    have cc := concat_any (heap_alloc_new wr (.cells #[.slice so t.stages.length sc, .slice mo t.marks.length mc] 24)) ((HS.out.all HK13.out).all kc) ((HM.out.all HK13.out).all kc) l2 l3
    have HKC : Hid _ := kc
    have hrl : (t.stages ++ t.marks).length ≤ 12 := by rw [List.length_append]; omega
    have HRL : Hid _ := hrl
    clear hlt HE HC3 kc
    generalize t.stages ++ t.marks = rs at *
    go_wp2_with fail
    refine Calls.mono cc ?_
    rintro e w5 ⟨rv, rfl, hR, k5⟩
    have hv := hR.view (by omega)
    obtain ⟨ro, rc, rfl, _⟩ := hv.form
    have HV : Hid (Rv w5 (.slice ro rs.length rc) rs) := hv
    have HK5 : Hid (Kept (fun _ => True) w3 w5) := HKr.out.trans (HKC.out.trans k5)
    have HNS : Hid (Ns w3 (.slice no ns.length nc) ns) := HT.out.ns (by have := HNL.out; omega)
    clear cc hR k5 hv HKC
    go_wp2_with fail
    go_loopw [7, 8, 9, 67] (fun _ _ _ t67 wq => ∃ j : Nat, j ≤ rs.length ∧ t67 = .int .i64 j ∧ C = rgs ns (rs.drop j) ∧ Kept (fun _ => True) w5 wq) (fun _ _ _ t67 _ => rs.length - (intOf t67).toNat)
    case atStart => exact ⟨0, Nat.zero_le _, rfl, HC4.out, Kept.refl _ _⟩
    case round =>
    obtain ⟨j, hj, rfl, hE, hk⟩ := hrel
    have HE : Hid (C = rgs ns (rs.drop j)) := hE
    have HKq : Hid (Kept (fun _ => True) w5 wr) := hk
    clear hE hk
    by_cases hlt : j < rs.length
    · obtain ⟨b, off, rfl, hb, r0, r1⟩ := (HV.out.all HKq.out).at j hlt
      have j1 : (j : Int) < (rs.length : Int) := by omega
      have j0 : (0 : Int) ≤ (j : Int) := by omega
      have cg := fun W (k : Kept (fun _ => True) w5 W) => check_any ((HNS.out.all HK5.out).all k) (s := (rs[j]).guard) (HGZ.out _ (List.getElem_mem hlt))
      have HSt : Hid _ := rgs_step (ns := ns) hlt
      have CG : Hid _ := cg
      clear hb cg
      generalize (chk ns (rs[j]).guard).2 = p2 at *
      generalize (chk ns (rs[j]).guard).1 = p1 at *
      generalize rs[j] = y at *
      go_wp2_with fail
      refine Calls.mono (CG.out _ (HKq.out.alloc _)) ?_
      rintro e w6 ⟨rfl, k6⟩
      have HK6 : Hid (Kept (fun _ => True) w5 w6) := (HKq.out.alloc _).trans k6
      clear k6 CG
      by_cases hp : p1 = 0
      · subst hp
        have HF : Hid (C = rgs ns (rs.drop (j + 1))) := by
          show _ = _
          rw [HE.out, HSt.out, if_neg (by simp)]
        clear HSt
        go_wp2_with fail
        go_roundw
        case rel => exact ⟨j + 1, by omega, by go_num, HF.out, HK6.out⟩
        case measure => simp [intOf]; omega
      · have hp' : ((p1 : Int) == 0) = false := by simp; omega
        have HF : Hid (C = p1) := by
          show _ = _
          rw [HE.out, HSt.out, if_pos hp]
        clear HSt hp
        go_wp2_with fail
        go_ret
        exact ⟨by rw [HF.out]; rfl, K0.out.trans (HK3.out.trans (HK5.out.trans HK6.out))⟩
    · have j1 : ¬ (j : Int) < (rs.length : Int) := by omega
      have HF : Hid (C = 0) := by
        show _ = _
        rw [HE.out, List.drop_eq_nil_of_le (by omega)]
        rfl
      go_wp2_with fail
      go_ret
      exact ⟨by rw [HF.out]; rfl, K0.out.trans (HK3.out.trans (HK5.out.trans HKq.out))⟩

end Go.Proofs.YtahbfffhkpojmaaDoor
