/-
  PaxosAdopts.
-/
import Derived.Test.YtpgoedpodfidjaaPAdopt
import Derived.Deep.RegionHeldLaw
namespace Go.Proofs.Ytpgoedpodfidjaa
open Go.RowKit

def emptyTm : Tm := ⟨fun _ => 0, fun _ => 0, fun _ => 0, fun _ => 0, fun _ => 0, fun _ => .slice none 0 0, fun _ => ⟨0, 0⟩, fun _ _ => none, fun _ => Pr.new 0 0⟩
theorem grown_kept2 {w w' : World} {o : Obj} {u : Value} (g : (w.alloc o).grownBy w' u.ownBlock) : Kept (fun i => u.ownBlock ≠ some i) w w' :=
  ((Kept.refl _ _).alloc o).grown g (fun _ _ e h => h e)
theorem up_const {α : Type} {g : Nat → α} {y : α} (h : ∀ j, g j = y) (k : Nat) : ∀ j, up g k y j = y := by
  intro j
  unfold up
  split
  · rfl
  · exact h j
theorem votes_none (a b : Nat) : votesUp (fun _ => none) a b = [] := by
  unfold votesUp
  rw [List.filterMap_eq_nil_iff]
  intro x _
  rfl
theorem less_one (F : Nat) : less ⟨0, 0⟩ ⟨1, F⟩ = true := by simp [less]
theorem less_two (F S : Nat) : less ⟨1, F⟩ ⟨2, S⟩ = true ∧ less ⟨0, 0⟩ ⟨2, S⟩ = true := by simp [less]

set_option maxRecDepth 100000 in
set_option maxHeartbeats 40000000 in
theorem paxosAdopts_any {w : World} {a : Option Addr} {na ca : Nat} (ha : IsInts w a na) (nodes first second slot : Int) :
    Calls Try.prog 5 #[.int .i64 nodes, .int .i64 first, .int .i64 second, .slice a na ca, .int .i64 slot] w fun e w' => e = .returned (.bool true) ∧ Kept (fun _ => True) w w' := by
  have HS : Hid (IsInts w a na) := ha
  clear ha
  go_enter Try.func5, Try.ntmps5
  go_wp2_with fail
  refine Calls.mono (within_any _ 4 (by decide)) ?_
  rintro e w ⟨⟨N, hN, rfl⟩, rfl⟩
  have hsub : (1 : Int) + (N : Int) - 1 = (N : Int) := by omega
  go_wp2_with fail
  refine Calls.mono (within_any _ N (by omega)) ?_
  rintro e w ⟨⟨F, hF, rfl⟩, rfl⟩
  go_wp2_with fail
  refine Calls.mono (within_any _ N (by omega)) ?_
  rintro e w ⟨⟨G, hG, rfl⟩, rfl⟩
  go_wp2_with fail
  refine Calls.mono (within_any _ 20 (by decide)) ?_
  rintro e w ⟨⟨sl, hsl, rfl⟩, rfl⟩
  go_wp2_with fail
  go_loopw [11, 12] (fun ta i wr => ∃ (k : Nat) (T : Tm), i = .int .i64 k ∧ k ≤ N + 1 ∧ Acs w wr k T ∧ Row wr w.heap.size 46 ta k T.A ∧ (∀ j, T.f j = fun _ => none) ∧ (∀ j, T.pa j = ⟨0, 0⟩) ∧ ∀ j, T.c j = 0) (fun _ i _ => N + 1 - (intOf i).toNat)
  case atStart => exact ⟨0, emptyTm, rfl, by omega, Acs.none _ _, World.ownsRow_nil _ _ _ _, fun _ => rfl, fun _ => rfl, fun _ => rfl⟩
  case round =>
    obtain ⟨k, T, rfl, hk, hc, hra, hf, hpa, hcc⟩ := hrel
    have HC : Hid (Acs w wr k T) := hc
    have HA : Hid (Row wr w.heap.size 46 _ k T.A) := hra
    have HF : Hid (∀ j, T.f j = fun _ => none) := hf
    have HPA : Hid (∀ j, T.pa j = ⟨0, 0⟩) := hpa
    have HCC : Hid (∀ j, T.c j = 0) := hcc
    obtain ⟨aa, ac, rfl⟩ := hra.shape
    clear hc hra hf hpa hcc
    by_cases hlt : k < N + 1
    · have g1 : (k : Int) < 1 + (N : Int) := by omega
      go_wp2_with fail
      refine Calls.mono new_any ?_
      rintro e w1 ⟨A, M, rfl, h1, k1, a1, m1⟩
      have hnew : Hid (Acs w w1 (k + 1) _) := HC.out.add k1 h1 a1 m1
      have A2 : Hid (Row w1 w.heap.size 46 (.slice aa k ac) k T.A) := HA.out.all k1
      have hsz : Hid (w.heap.size ≤ w1.heap.size) := Nat.le_trans HC.out.kept.size k1.size
      clear h1 k1 a1 m1 HC HA
      go_wp2_with (at_builtin; refine wpList_append_ptr rfl _ _ 44 46 w.heap.size rfl Try.underlying44 Try.infoPA _ k T.A rfl (A2.out.all ((Kept.refl _ _).alloc _)) (Nat.le_trans hsz.out (by simp)) _ rfl A (0, 0) (heap_alloc_new _ _) (by omega) ?_; intro aa3 ac3 w3 hown3 hgrow3)
      have k3 := grown_kept2 hgrow3
      have C3 : Acs w w3 (k + 1) _ := hnew.out.side k3 (fun i hi => ⟨A2.out.side side_pa i (Classical.byContradiction hi), (World.ownsRow.lt A2.out i (Classical.byContradiction hi)).1⟩)
      go_roundw
      case rel => exact ⟨k + 1, _, by go_num, by omega, C3, hown3, up_const HF.out k, up_const HPA.out k, up_const HCC.out k⟩
      case measure => simp [intOf]; omega
    · have hkn : k = N + 1 := by omega
      subst hkn
      have g1 : ¬ (((N + 1 : Nat) : Int) < 1 + (N : Int)) := by omega
      have g1' : ¬ ((N : Int) + 1 < 1 + (N : Int)) := by omega
      go_wp2_with fail
      refine Calls.mono (pnew_any (by omega) (by omega) (by omega) (by omega)) ?_
      rintro e w1 ⟨P, rfl, h1, k1, hP0⟩
      have HPe : Hid (P = wr.heap.size) := hP0
      clear hP0
      go_wp2_with fail
      refine Calls.mono (pnew_any (by omega) (by omega) (by omega) (by omega)) ?_
      rintro e w2 ⟨Q, rfl, h2, k2, hQ⟩
      have hP := HPe.out
      rw [show (1 + (N : Int)).toNat = N + 1 by omega] at h1 h2
      have hs0 := HC.out.kept.size
      have hs1 := k1.size
      have PM2 : Hid (PM w w2 P (.slice none 0 0) 0 (Pr.new F (N + 1))) := ⟨h1.all k2, (HC.out.kept.trans k1).trans k2, by omega, fun i e => by simp [Value.ownBlock] at e⟩
      have QM2 : Hid (PM w w2 Q (.slice none 0 0) 0 (Pr.new G (N + 1))) := ⟨h2, (HC.out.kept.trans k1).trans k2, by omega, fun i e => by simp [Value.ownBlock] at e⟩
      have hPQ : Hid (P ≠ Q) := by have := h1.lt; show P ≠ Q; omega
      have C2 : Hid (Acs w w2 (N + 1) T) := HC.out.ahead (k1.trans k2)
      have A2 : Hid (Row w2 w.heap.size 46 (.slice aa (N + 1) ac) (N + 1) T.A) := HA.out.all (k1.trans k2)
      clear h1 h2 k1 k2 hP hQ hs0 hs1 HC HA HPe
      go_wp2_with fail
      refine Calls.mono (pbegin_any PM2.out.po 0 (by decide)) ?_
      rintro e w3 ⟨rfl, h3, k3⟩
      rw [pj_begin (N + 1) F sl] at h3 ⊢
      rw [show (pj (N + 1) F 0 sl zeroPl).b.r = 1 from rfl, show (pj (N + 1) F 0 sl zeroPl).b.n = (F : Int) from rfl]
      have PM3 : Hid (PM w w3 P (.slice none 0 0) 0 (pj (N + 1) F 0 sl zeroPl)) := PM2.out.begun h3 k3
      have QM3 : Hid (PM w w3 Q (.slice none 0 0) 0 (Pr.new G (N + 1))) := ⟨QM2.out.po.kept k3 (Ne.symm hPQ.out) (fun z hz => by simp [Value.ownBlock] at hz), PM3.out.kept, QM2.out.p0, QM2.out.v0⟩
      have C3 : Hid (Acs w w3 (N + 1) T) := C2.out.prop PM2.out (PS.begun k3)
      have A3 : Hid (Row w3 w.heap.size 46 (.slice aa (N + 1) ac) (N + 1) T.A) := A2.out.kept k3 (fun z hz => (po_off_side PM2.out.po (A2.out.side side_pa z hz)).1)
      clear h3 k3 PM2 QM2 C2 A2
      go_upto_region 18 with fail
      have hAD : Hid (AD w (w3.alloc (.cells #[.int .i64 1, .int .i64 (F : Int)] 27)) (N + 1) (.slice aa (N + 1) ac) T P Q (.slice none 0 0) (.slice none 0 0) 0 0 (pj (N + 1) F 0 sl zeroPl) (Pr.new G (N + 1)) w3.heap.size w3.heap.size 1 F 1 F) := by
        have k4 : Kept (fun _ => True) w3 (w3.alloc (.cells #[.int .i64 1, .int .i64 (F : Int)] 27)) := (Kept.refl _ _).alloc _
        exact ⟨C3.out.ahead k4, PM3.out.ahead k4, QM3.out.ahead k4, ⟨hPQ.out, fun k hk => by simp [Value.ownBlock] at hk⟩, A3.out.all k4, Two.made w3 1 F, Two.side, Two.made w3 1 F, Two.side⟩
      clear PM3 QM3 C3 A3
      generalize w3.alloc (.cells #[.int .i64 1, .int .i64 (F : Int)] 27) = w5 at *
      generalize w3.heap.size = B at *
      obtain ⟨ga, rfl, -, -⟩ := hAD.out.row.at (i := 0) (by omega)
      have hz1 : ((1 : Int) + (N : Int) == 0) = false := by simp; omega
      have hz2 : ¬ ((1 : Int) + (N : Int) = 0) := by omega
      have hz3 : ¬ ((1 : Int) + (N : Int) = -1) := by omega
      have hN1 : (((N + 1 : Nat) : Int)) = (N : Int) + 1 := by omega
      have hpa0 : Hid (∀ j, T.pa j = if (mk (N + 1) F 0).testBit j = true then ⟨1, (F : Int)⟩ else ⟨0, 0⟩) := fun j => by rw [HPA.out j]; simp [mk]
      go_wp2_with fail
      go_loopw [19] (fun t wr => ∃ (i : Nat) (T : Tm) (v : Value) (n : Nat), t = .int .i64 i ∧ i ≤ N + 1 ∧ AD w wr (N + 1) (.slice (some ⟨ga, 0, none⟩) (N + 1) ac) T P Q v (.slice none 0 0) n 0 (pj (N + 1) F (mk (N + 1) F i) sl zeroPl) (Pr.new G (N + 1)) B B 1 F 1 F ∧ (∀ j, T.f j = fun _ => none) ∧ (∀ j, T.pa j = if (mk (N + 1) F i).testBit j = true then ⟨1, (F : Int)⟩ else ⟨0, 0⟩) ∧ ∀ j, T.c j = 0) (fun t _ => N + 1 - (intOf t).toNat)
      case atStart => exact ⟨0, T, _, _, rfl, by omega, hAD.out, HF.out, hpa0.out, HCC.out⟩
      case round =>
        clear hAD HF HPA HCC hpa0
        obtain ⟨i, T, v, n, rfl, hi, had, hf, hpa, hcc⟩ := hrel
        have HD : Hid (AD w wr (N + 1) (.slice (some ⟨ga, 0, none⟩) (N + 1) ac) T P Q v (.slice none 0 0) n 0 (pj (N + 1) F (mk (N + 1) F i) sl zeroPl) (Pr.new G (N + 1)) B B 1 F 1 F) := had
        have HF : Hid (∀ j, T.f j = fun _ => none) := hf
        have HPA : Hid (∀ j, T.pa j = if (mk (N + 1) F i).testBit j = true then ⟨1, (F : Int)⟩ else ⟨0, 0⟩) := hpa
        have HCC : Hid (∀ j, T.c j = 0) := hcc
        clear had hf hpa hcc
        by_cases hlt2 : i < N + 1
        · as_aux_lemma =>
            have r1 : (i : Int) < 1 + (N : Int) := by omega
            obtain ⟨m, hm, hmm⟩ : ∃ m : Nat, m = (F + i) % (N + 1) ∧ m < N + 1 := ⟨_, rfl, Nat.mod_lt _ (by omega)⟩
            have hrem : ((F : Int) + (i : Int)).tmod (1 + (N : Int)) = (m : Int) := by
              rw [show (F : Int) + (i : Int) = ((F + i : Nat) : Int) by omega, show (1 : Int) + (N : Int) = ((N + 1 : Nat) : Int) by omega, ← Int.ofNat_tmod, hm]
            have hfresh := (mk_facts (N + 1) (by omega) F (by omega) i (by omega)).2.2 hlt2
            rw [← hm] at hfresh
            have HMe : Hid (m = (F + i) % (N + 1)) := hm
            have HFr : Hid ((mk (N + 1) F i).testBit m = false) := hfresh
            have hpm : T.pa m = ⟨0, 0⟩ := by rw [HPA.out m, hfresh]; rfl
            have q1 : (m : Int) < (N : Int) + 1 := by omega
            have q0 : (0 : Int) ≤ (m : Int) := by omega
            have oa : Hid (Side wr ga) := HD.out.row.side side_pa ga (by simp [Value.ownBlock])
            have la : ∀ W, Kept (fun x => x ≠ T.A m ∧ x ≠ T.M m) wr W → W.cell? ⟨ga, m, none⟩ = some (.pointer (some ⟨T.A m, 0, none⟩)) := fun W q => cell_kept q (HD.out.row.ptr hmm) (HD.out.acs.off hmm oa.out)
            have lb : ∀ W, Kept (fun x => x ≠ T.A m ∧ x ≠ T.M m) wr W → W.cell? ⟨B, 0, none⟩ = some (.int .i64 1) := fun W q => cell_kept q HD.out.tb.c0 (HD.out.acs.off hmm HD.out.sb)
            have lc : ∀ W, Kept (fun x => x ≠ T.A m ∧ x ≠ T.M m) wr W → W.cell? ⟨B, 1, none⟩ = some (.int .i64 F) := fun W q => cell_kept q HD.out.tb.c1 (HD.out.acs.off hmm HD.out.sb)
            have kdr : Kept (fun x => x ≠ T.A m ∧ x ≠ T.M m) wr wr.drew := (Kept.refl _ _).drew
            have cpr := prepare_any ((HD.out.acs.ac m hmm).all ((Kept.refl _ _).drew)) ⟨1, F⟩ 0
            rw [hpm, less_one, HF.out m] at cpr
            simp only [if_true] at cpr
            clear hm hfresh hpm
            go_wp2_with fail
            go_region_held (fun W => Kept (fun x => x ≠ T.A m ∧ x ≠ T.M m) wr W) (assumption) (first | (go_at_call 21; refine Calls.mono cpr ?_; rintro e w8 ⟨v8, rfl, r8, h8, k8, n8⟩; have k8' : Kept (fun x => x ≠ T.A m ∧ x ≠ T.M m) wr w8 := kdr.trans k8))
            all_goals
              have H8 : Hid (AD w w8 (N + 1) (.slice (some ⟨ga, 0, none⟩) (N + 1) ac) _ P Q v (.slice none 0 0) n 0 (pj (N + 1) F (mk (N + 1) F i) sl zeroPl) (Pr.new G (N + 1)) B B 1 F 1 F) := HD.out.acc hmm h8 k8'
              have r9 : VR w8 v8 [] := by
                have := r8
                unfold votesFrom at this
                rw [votes_none] at this
                exact this
              clear h8 k8 k8' n8 r8 la lb lc kdr cpr
              obtain ⟨t0, t1⟩ := H8.out.tb
              have cpm := promise_any H8.out.p.po r9 (by decide) m ⟨1, F⟩
              rw [pj_promise hmm HFr.out] at cpm
              go_wp2_with fail
              refine Calls.mono cpm ?_
              rintro e w9 ⟨v9, n9, rfl, h9, s9⟩
              rw [show mk (N + 1) F i ||| 2 ^ m = mk (N + 1) F (i + 1) from by rw [HMe.out]; rfl] at h9
              have H9 := H8.out.pstep h9 s9
              go_wp2_with fail
              go_roundw
              case rel =>
                refine ⟨i + 1, _, v9, n9, by go_num, by omega, H9, fun j => ?_, fun j => ?_, fun j => ?_⟩
                · show up T.f m (fun _ => none) j = _
                  by_cases e : j = m
                  · subst e; exact up_at _ _ _
                  · exact (up_ne _ _ e).trans (HF.out j)
                · show up T.pa m ⟨1, (F : Int)⟩ j = _
                  rw [show mk (N + 1) F (i + 1) = mk (N + 1) F i ||| 2 ^ m from by rw [HMe.out]; rfl, bit_at]
                  by_cases e : j = m
                  · subst e; rw [up_at]; simp
                  · rw [up_ne _ _ e, HPA.out j]
                    have : ¬ (m = j) := fun q => e q.symm
                    simp [this]
                · show up T.c m (T.c m) j = 0
                  rw [up_same]
                  exact HCC.out j
              case measure => simp [intOf]; omega
        · have hii : i = N + 1 := by omega
          subst hii
          have r1 : ¬ (((N + 1 : Nat) : Int) < 1 + (N : Int)) := by omega
          have r2 : ¬ ((N : Int) + 1 < 1 + (N : Int)) := by omega
          have hones := (mk_facts (N + 1) (by omega) F (by omega) (N + 1) (by omega)).2.1
          have hpk := pj_pick (N := N + 1) (fst := F) (M := mk (N + 1) F (N + 1)) (slot := sl) (by omega) (by omega)
          have cpk := pick_any HD.out.p.po sl chosenS
          rw [hpk.1, hpk.2.1, hpk.2.2] at cpk
          clear hones hpk
          generalize mk (N + 1) F (N + 1) = MM at *
          go_wp2_with fail
          refine Calls.mono cpk ?_
          rintro e w8 ⟨v8, n8, rfl, h8, s8⟩
          have H8 : Hid (AD w w8 (N + 1) (.slice (some ⟨ga, 0, none⟩) (N + 1) ac) T P Q v8 (.slice none 0 0) n8 0 (pj (N + 1) F MM sl (qc 0)) (Pr.new G (N + 1)) B B 1 F 1 F) := HD.out.pstep h8 s8
          have HPB : Hid (∀ j, T.pa j = ⟨1, (F : Int)⟩ ∨ T.pa j = ⟨0, 0⟩) := fun j => by
            rw [HPA.out j]
            by_cases e : MM.testBit j = true
            · exact .inl (if_pos e)
            · exact .inr (if_neg e)
          have HFB : Hid (∀ j, T.f j = if (mk (N + 1) G 0).testBit j = true then upd (fun _ => none) sl ⟨1, (F : Int)⟩ chosenS else fun _ => none) := fun j => by rw [HF.out j]; simp [mk]
          have HCB : Hid (∀ j, T.c j ≤ 0) := fun j => by rw [HCC.out j]; omega
          clear h8 s8 cpk HD HF HPA HCC
          go_wp2_with fail
          go_loopw [25, 26] (fun d t wr => ∃ (i : Nat) (T : Tm) (v : Value) (n : Nat), t = .int .i64 i ∧ i ≤ N + 1 ∧ d = .bool (decide (N + 1 < 2 * i)) ∧ AD w wr (N + 1) (.slice (some ⟨ga, 0, none⟩) (N + 1) ac) T P Q v (.slice none 0 0) n 0 (pj (N + 1) F MM sl (qc (mk (N + 1) G i))) (Pr.new G (N + 1)) B B 1 F 1 F ∧ (∀ j, T.pa j = ⟨1, (F : Int)⟩ ∨ T.pa j = ⟨0, 0⟩) ∧ (∀ j, T.f j = if (mk (N + 1) G i).testBit j = true then upd (fun _ => none) sl ⟨1, (F : Int)⟩ chosenS else fun _ => none) ∧ ∀ j, T.c j ≤ i) (fun _ t _ => N + 1 - (intOf t).toNat)
          case atStart => exact ⟨0, T, _, _, rfl, by omega, by simp, H8.out, HPB.out, HFB.out, HCB.out⟩
          case round =>
            clear H8 HPB HFB HCB
            obtain ⟨i, T, v, n, rfl, hi, rfl, had, hpb, hfb, hcb⟩ := hrel
            have HD : Hid (AD w wr (N + 1) (.slice (some ⟨ga, 0, none⟩) (N + 1) ac) T P Q v (.slice none 0 0) n 0 (pj (N + 1) F MM sl (qc (mk (N + 1) G i))) (Pr.new G (N + 1)) B B 1 F 1 F) := had
            have HPB : Hid (∀ j, T.pa j = ⟨1, (F : Int)⟩ ∨ T.pa j = ⟨0, 0⟩) := hpb
            have HFB : Hid (∀ j, T.f j = if (mk (N + 1) G i).testBit j = true then upd (fun _ => none) sl ⟨1, (F : Int)⟩ chosenS else fun _ => none) := hfb
            have HCB : Hid (∀ j, T.c j ≤ i) := hcb
            clear had hpb hfb hcb
            by_cases hdn : N + 1 < 2 * i
            · have HDN : Hid (N + 1 < 2 * i) := hdn
              rw [decide_eq_true hdn]
              clear hdn
              as_aux_lemma =>
                have hD : Hid (N + 1 < 2 * ones (mk (N + 1) G i)) := by
                  have := (mk_facts (N + 1) (by omega) G (by omega) i (by omega)).2.1
                  show _ < _
                  rw [this]
                  exact HDN.out
                have hDl : Hid (∀ n, (mk (N + 1) G i).testBit n = true → n < N + 1) := fun n hn => by
                  by_cases h5 : n < 5
                  · exact mk_low (N + 1) (by omega) G (by omega) i (by omega) n h5 hn
                  · have h1 := (mk_facts (N + 1) (by omega) G (by omega) i (by omega)).1
                    have h2 : (mk (N + 1) G i).testBit n = false := Nat.testBit_lt_two_pow (Nat.lt_of_lt_of_le h1 (show 2 ^ 5 ≤ 2 ^ n from Nat.pow_le_pow_right (by decide) (by omega)))
                    rw [h2] at hn
                    cases hn
                generalize mk (N + 1) G i = D at *
                have hxi : (i : Int) < 1 + (N : Int) ∨ ¬ (i : Int) < 1 + (N : Int) := by omega
                clear HDN HCB
                rcases hxi with hx | hx
                all_goals
                  obtain ⟨t0, t1⟩ := HD.out.tb
                  go_wp2_with fail
                  refine Calls.mono (pseen_any HD.out.q.po 1 F) ?_
                  rintro e w8 ⟨rfl, h8, k8⟩
                  have H8 : Hid (AD w w8 (N + 1) (.slice (some ⟨ga, 0, none⟩) (N + 1) ac) T P Q v (.slice none 0 0) n 0 (pj (N + 1) F MM sl (qc D)) ((Pr.new G (N + 1)).sees 1) B B 1 F 1 F) := HD.out.qstep h8 (PS.self k8)
                  clear h8 k8 t0 t1 HD
                  go_wp2_with fail
                  refine Calls.mono (pbegin_any H8.out.q.po 0 (by decide)) ?_
                  rintro e w9 ⟨rfl, h9, k9⟩
                  have H9 : Hid (AD w w9 (N + 1) (.slice (some ⟨ga, 0, none⟩) (N + 1) ac) T P Q v (.slice none 0 0) n 0 (pj (N + 1) F MM sl (qc D)) (((Pr.new G (N + 1)).sees 1).begins 0) B B 1 F 1 F) := H8.out.qstep h9 (PS.begun k9)
                  have HQ : Hid (Qs (N + 1) G F sl D T.pa (((Pr.new G (N + 1)).sees 1).begins 0)) := Qs.start _ _ _ _ _ _
                  clear h9 k9 H8
                  simp only [HQ.out.b]
                  generalize ((Pr.new G (N + 1)).sees 1).begins 0 = y0 at *
                  generalize pj (N + 1) F MM sl (qc D) = xp at *
                  go_upto_region 34 with fail
                  have HA : Hid (AD w (w9.alloc (.cells #[.int .i64 2, .int .i64 (G : Int)] 27)) (N + 1) (.slice (some ⟨ga, 0, none⟩) (N + 1) ac) T P Q v (.slice none 0 0) n 0 xp y0 B w9.heap.size 1 F 2 G) := by
                    have h := H9.out.ahead ((Kept.refl _ _).alloc (.cells #[.int .i64 2, .int .i64 (G : Int)] 27))
                    exact ⟨h.acs, h.p, h.q, h.pq, h.row, h.tb, h.sb, Two.made w9 2 G, Two.side⟩
                  have HPC : Hid (∀ j, T.pa j = ⟨1, (F : Int)⟩ ∨ T.pa j = ⟨0, 0⟩ ∨ T.pa j = ⟨2, (G : Int)⟩) := fun j => by
                    rcases HPB.out j with e | e
                    · exact .inl e
                    · exact .inr (.inl e)
                  clear H9 HPB
                  generalize w9.alloc (.cells #[.int .i64 2, .int .i64 (G : Int)] 27) = w10 at *
                  generalize w9.heap.size = C at *
                  go_wp2_with fail
                  go_loopw [29] (fun t wr => ∃ (k : Nat) (T : Tm) (v' : Value) (n' : Nat) (x' : Pr), t = .int .i64 k ∧ k ≤ 20 ∧ AD w wr (N + 1) (.slice (some ⟨ga, 0, none⟩) (N + 1) ac) T P Q v v' n n' xp x' B C 1 F 2 G ∧ Qs (N + 1) G F sl D T.pa x' ∧ (∀ j, T.pa j = ⟨1, (F : Int)⟩ ∨ T.pa j = ⟨0, 0⟩ ∨ T.pa j = ⟨2, (G : Int)⟩) ∧ ∀ j, T.f j = if D.testBit j = true then upd (fun _ => none) sl ⟨1, (F : Int)⟩ chosenS else fun _ => none) (fun t _ => 20 - (intOf t).toNat)
                  case atStart => exact ⟨0, T, _, _, y0, rfl, by omega, HA.out, HQ.out, HPC.out, HFB.out⟩
                  case round =>
                    clear HA HQ HPC HFB
                    obtain ⟨k, T, v', n', x', rfl, hk, had, hq, hpc, hfb⟩ := hrel
                    have HD : Hid (AD w wr (N + 1) (.slice (some ⟨ga, 0, none⟩) (N + 1) ac) T P Q v v' n n' xp x' B C 1 F 2 G) := had
                    have HQ : Hid (Qs (N + 1) G F sl D T.pa x') := hq
                    have HPC : Hid (∀ j, T.pa j = ⟨1, (F : Int)⟩ ∨ T.pa j = ⟨0, 0⟩ ∨ T.pa j = ⟨2, (G : Int)⟩) := hpc
                    have HFB : Hid (∀ j, T.f j = if D.testBit j = true then upd (fun _ => none) sl ⟨1, (F : Int)⟩ chosenS else fun _ => none) := hfb
                    clear had hq hpc hfb
                    cases hl : x'.led
                    · have cl := fun W (q : Kept (fun _ => True) wr W) => led_any (HD.out.q.po.all q)
                      rw [hl] at cl
                      by_cases hlt : k < na ∧ k < 20
                      · obtain ⟨b0, off, z, rfl, hz⟩ := int_at HS.out hlt.1
                        have HZ : Hid (∀ w', Kept (fun _ => True) w w' → w'.cell? ⟨b0, off + k, none⟩ = some (.int .i64 z)) := hz
                        clear hz
                        have g1 : (k : Int) < (na : Int) := by omega
                        have g2 : (k : Int) < 20 := by omega
                        have g0 : (0 : Int) ≤ (k : Int) := by omega
                        go_wp2_with fail
                        refine Calls.mono (cl _ (Kept.refl _ _)) ?_
                        rintro e w11 ⟨rfl, d, hw⟩
                        have k11 : Kept (fun _ => True) wr w11 := by rw [hw]; exact (Kept.refl _ _).drewN d
                        have HD1 : Hid (AD w w11 (N + 1) (.slice (some ⟨ga, 0, none⟩) (N + 1) ac) T P Q v v' n n' xp x' B C 1 F 2 G) := HD.out.ahead k11
                        clear hw k11 cl HD
                        have y1 := HZ.out w11 HD1.out.acs.kept
                        go_wp2_with fail
                        refine Calls.mono (within_any _ N (by omega)) ?_
                        rintro e w11 ⟨⟨m, hm, rfl⟩, rfl⟩
                        clear y1 HZ
                        have hmm : m < N + 1 := by omega
                        have q1 : (m : Int) < (N : Int) + 1 := by omega
                        have q0 : (0 : Int) ≤ (m : Int) := by omega
                        have oa : Hid (Side w11 ga) := HD1.out.row.side side_pa ga (by simp [Value.ownBlock])
                        have la : ∀ W, Kept (fun x => x ≠ T.A m ∧ x ≠ T.M m) w11 W → W.cell? ⟨ga, m, none⟩ = some (.pointer (some ⟨T.A m, 0, none⟩)) := fun W q => cell_kept q (HD1.out.row.ptr hmm) (HD1.out.acs.off hmm oa.out)
                        have lb : ∀ W, Kept (fun x => x ≠ T.A m ∧ x ≠ T.M m) w11 W → W.cell? ⟨C, 0, none⟩ = some (.int .i64 2) := fun W q => cell_kept q HD1.out.tc.c0 (HD1.out.acs.off hmm HD1.out.sc)
                        have lc : ∀ W, Kept (fun x => x ≠ T.A m ∧ x ≠ T.M m) w11 W → W.cell? ⟨C, 1, none⟩ = some (.int .i64 G) := fun W q => cell_kept q HD1.out.tc.c1 (HD1.out.acs.off hmm HD1.out.sc)
                        have kdr : Kept (fun x => x ≠ T.A m ∧ x ≠ T.M m) w11 w11.drew := (Kept.refl _ _).drew
                        have cpr := prepare_any ((HD1.out.acs.ac m hmm).all ((Kept.refl _ _).drew)) ⟨2, G⟩ 0
                        cases hL : less (T.pa m) ⟨2, (G : Int)⟩
                        · simp only [hL, if_neg (by decide : ¬ (false = true))] at cpr
                          clear hL
                          go_wp2_with fail
                          go_region_held (fun W => Kept (fun x => x ≠ T.A m ∧ x ≠ T.M m) w11 W) (assumption) (first | (go_at_call 21; refine Calls.mono cpr ?_; rintro e w12 ⟨v12, rfl, r12, h12, k12, n12⟩; have k12' : Kept (fun x => x ≠ T.A m ∧ x ≠ T.M m) w11 w12 := kdr.trans k12))
                          all_goals
                            have H12 := HD1.out.acc hmm h12 k12'
                            simp only [up_same] at H12
                            go_wp2_with fail
                            go_roundw
                            case rel => exact ⟨k + 1, T, _, _, x', by go_num, by omega, H12, HQ.out, HPC.out, HFB.out⟩
                            case measure => simp [intOf]; omega
                        · simp only [hL, if_true] at cpr
                          have HL : Hid (less (T.pa m) ⟨2, (G : Int)⟩ = true) := hL
                          clear hL
                          go_wp2_with fail
                          go_region_held (fun W => Kept (fun x => x ≠ T.A m ∧ x ≠ T.M m) w11 W) (assumption) (first | (go_at_call 21; refine Calls.mono cpr ?_; rintro e w12 ⟨v12, rfl, r12, h12, k12, n12⟩; have k12' : Kept (fun x => x ≠ T.A m ∧ x ≠ T.M m) w11 w12 := kdr.trans k12))
                          all_goals
                            have H12 : Hid (AD w w12 (N + 1) (.slice (some ⟨ga, 0, none⟩) (N + 1) ac) { T with pa := up T.pa m ⟨2, (G : Int)⟩ } P Q v v' n n' xp x' B C 1 F 2 G) := by
                              have := HD1.out.acc hmm h12 k12'
                              simp only [up_same] at this
                              exact this
                            have V12 : Hid (VR w12 v12 (votesUp (T.f m) 0 512)) := r12
                            clear r12 h12 k12 k12' n12 la lb lc kdr cpr
                            obtain ⟨t0, t1⟩ := H12.out.tc
                            go_wp2_with fail
                            refine Calls.mono (promise_any H12.out.q.po V12.out (Nat.le_trans (votesUp_len _ _ _) (by decide)) m ⟨2, G⟩) ?_
                            rintro e w13 ⟨v13, n13, rfl, h13, s13⟩
                            have H13 := H12.out.qstep h13 s13
                            have Q13 := HQ.out.promise (by omega) hmm HL.out (f := T.f m) (by rw [HFB.out m]; split <;> simp [upd])
                            go_wp2_with fail
                            go_roundw
                            case rel =>
                              refine ⟨k + 1, _, v13, n13, _, by go_num, by omega, H13, Q13, fun j => ?_, HFB.out⟩
                              show up T.pa m ⟨2, (G : Int)⟩ j = _ ∨ up T.pa m ⟨2, (G : Int)⟩ j = _ ∨ up T.pa m ⟨2, (G : Int)⟩ j = _
                              by_cases e : j = m
                              · subst e; rw [up_at]; exact .inr (.inr rfl)
                              · rw [up_ne _ _ e]; exact HPC.out j
                            case measure => simp [intOf]; omega
                      · have hex : ¬ (k : Int) < (na : Int) ∨ ((k : Int) < (na : Int) ∧ ¬ (k : Int) < 20) := by omega
                        clear hlt
                        rcases hex with hex | hex
                        all_goals
                          go_wp2_with fail
                          refine Calls.mono (cl _ (Kept.refl _ _)) ?_
                          rintro e w11 ⟨rfl, d, hw⟩
                          have k11 : Kept (fun _ => True) w w11 := by rw [hw]; exact HD.out.acs.kept.drewN d
                          clear hw
                          go_wp2_with fail
                          refine Calls.mono pknown_any ?_
                          rintro e w12 ⟨rfl, k12⟩
                          go_wp2
                          go_ret
                          exact ⟨rfl, k11.trans k12⟩
                    · have cl := fun W (q : Kept (fun _ => True) wr W) => led_any (HD.out.q.po.all q)
                      rw [hl] at cl
                      have hpk := HQ.out.pick (by omega) (show sl < 512 by omega) hD.out hDl.out hl ⟨#[111, 116, 104, 101, 114]⟩
                      have cpk := fun W (q : Kept (fun _ => True) wr W) => pick_any (HD.out.q.po.all q) sl ⟨#[111, 116, 104, 101, 114]⟩
                      rw [hpk.1, hpk.2] at cpk
                      unfold chosenS at cpk
                      have hex : ((k : Int) < (na : Int) ∧ (k : Int) < 20) ∨ ¬ (k : Int) < (na : Int) ∨ ((k : Int) < (na : Int) ∧ ¬ (k : Int) < 20) := by omega
                      rcases hex with hex | hex | hex
                      · go_wp2_with fail
                        refine Calls.mono (cl _ (Kept.refl _ _)) ?_
                        rintro e w11 ⟨rfl, d, hw⟩
                        have k11 : Kept (fun _ => True) wr w11 := by rw [hw]; exact (Kept.refl _ _).drewN d
                        clear hw
                        go_wp2_with fail
                        refine Calls.mono (cl _ k11) ?_
                        rintro e w12 ⟨rfl, d2, hw⟩
                        have k12 : Kept (fun _ => True) wr w12 := by rw [hw]; exact k11.drewN d2
                        clear hw
                        go_wp2_with fail
                        refine Calls.mono (cpk _ k12) ?_
                        rintro e w13 ⟨v13, n13, rfl, h13, s13⟩
                        have H13 : Hid (Kept (fun _ => True) w w13) := ((HD.out.ahead k12).qstep h13 s13).acs.kept
                        clear h13 s13
                        go_wp2_with fail
                        refine Calls.mono pknown_any ?_
                        rintro e w14 ⟨rfl, k14⟩
                        go_wp2
                        go_ret
                        exact ⟨rfl, H13.out.trans k14⟩
                      all_goals
                        go_wp2_with fail
                        refine Calls.mono (cl _ (Kept.refl _ _)) ?_
                        rintro e w12 ⟨rfl, d2, hw⟩
                        have k12 : Kept (fun _ => True) wr w12 := by rw [hw]; exact (Kept.refl _ _).drewN d2
                        clear hw
                        go_wp2_with fail
                        refine Calls.mono (cpk _ k12) ?_
                        rintro e w13 ⟨v13, n13, rfl, h13, s13⟩
                        have H13 : Hid (Kept (fun _ => True) w w13) := ((HD.out.ahead k12).qstep h13 s13).acs.kept
                        clear h13 s13
                        go_wp2_with fail
                        refine Calls.mono pknown_any ?_
                        rintro e w14 ⟨rfl, k14⟩
                        go_wp2
                        go_ret
                        exact ⟨rfl, H13.out.trans k14⟩
            · rw [decide_eq_false hdn]
              have hlt3 : i < N + 1 := by omega
              as_aux_lemma =>
                have r1 : (i : Int) < 1 + (N : Int) := by omega
                obtain ⟨m, hm, hmm⟩ : ∃ m : Nat, m = (G + i) % (N + 1) ∧ m < N + 1 := ⟨_, rfl, Nat.mod_lt _ (by omega)⟩
                have hrem : ((G : Int) + (i : Int)).tmod (1 + (N : Int)) = (m : Int) := by
                  rw [show (G : Int) + (i : Int) = ((G + i : Nat) : Int) by omega, show (1 : Int) + (N : Int) = ((N + 1 : Nat) : Int) by omega, ← Int.ofNat_tmod, hm]
                have hmk := mk_facts (N + 1) (by omega) G (by omega) i (by omega)
                have hmk2 := mk_facts (N + 1) (by omega) G (by omega) (i + 1) (by omega)
                have hfr := hmk.2.2 hlt3
                rw [← hm] at hfr
                have HMe : Hid (m = (G + i) % (N + 1)) := hm
                have HM2 : Hid (mk (N + 1) G (i + 1) = mk (N + 1) G i ||| 2 ^ m) := by show _ = _; rw [hm]; rfl
                have hfm : Hid (T.f m = fun _ => none) := by show _ = _; rw [HFB.out m, hfr]; rfl
                have q1 : (m : Int) < (N : Int) + 1 := by omega
                have q0 : (0 : Int) ≤ (m : Int) := by omega
                have oa : Hid (Side wr ga) := HD.out.row.side side_pa ga (by simp [Value.ownBlock])
                have hoA : Hid ((ga ≠ T.A m ∧ ga ≠ T.M m) ∧ (B ≠ T.A m ∧ B ≠ T.M m)) := ⟨HD.out.acs.off hmm oa.out, HD.out.acs.off hmm HD.out.sb⟩
                have hoP : Hid ((ga ≠ P ∧ v.ownBlock ≠ some ga) ∧ (B ≠ P ∧ v.ownBlock ≠ some B)) := ⟨po_off_side HD.out.p.po oa.out, po_off_side HD.out.p.po HD.out.sb⟩
                have la : ∀ W, Kept (fun x => (x ≠ T.A m ∧ x ≠ T.M m) ∧ (x ≠ P ∧ v.ownBlock ≠ some x)) wr W → W.cell? ⟨ga, m, none⟩ = some (.pointer (some ⟨T.A m, 0, none⟩)) := fun W q => cell_kept q (HD.out.row.ptr hmm) ⟨hoA.out.1, hoP.out.1⟩
                have lb : ∀ W, Kept (fun x => (x ≠ T.A m ∧ x ≠ T.M m) ∧ (x ≠ P ∧ v.ownBlock ≠ some x)) wr W → W.cell? ⟨B, 0, none⟩ = some (.int .i64 1) := fun W q => cell_kept q HD.out.tb.c0 ⟨hoA.out.2, hoP.out.2⟩
                have lc : ∀ W, Kept (fun x => (x ≠ T.A m ∧ x ≠ T.M m) ∧ (x ≠ P ∧ v.ownBlock ≠ some x)) wr W → W.cell? ⟨B, 1, none⟩ = some (.int .i64 F) := fun W q => cell_kept q HD.out.tb.c1 ⟨hoA.out.2, hoP.out.2⟩
                have kdt : Kept (fun _ => True) wr wr.drew := (Kept.refl _ _).drew
                have kd3 : Kept (fun x => (x ≠ T.A m ∧ x ≠ T.M m) ∧ (x ≠ P ∧ v.ownBlock ≠ some x)) wr wr.drew := (Kept.refl _ _).drew
                have hlf : less ⟨1, (F : Int)⟩ (T.pa m) = false := by
                  rcases HPB.out m with e | e
                  · rw [e]; exact less_self _
                  · rw [e]; exact less_asym (less_one F)
                have cac := accept_any ((HD.out.acs.ac m hmm).all kdt) (by have := HCB.out m; omega) ⟨1, F⟩ sl chosenS false (by simp [hlf, less_one]; omega)
                simp only [if_neg (by decide : ¬ (false = true)), Bool.not_false, Int.toNat_natCast] at cac
                rw [hfm.out] at cac
                have hP9 : Hid (∀ w9, Ac w9 (T.A m) (T.M m) (T.c m + 1) ⟨1, F⟩ (upd (fun _ => none) sl ⟨1, F⟩ chosenS) → Kept (fun x => x ≠ T.A m ∧ x ≠ T.M m) wr.drew w9 → AD w w9 (N + 1) (.slice (some ⟨ga, 0, none⟩) (N + 1) ac) { T with c := up T.c m (T.c m + 1), pa := up T.pa m ⟨1, F⟩, f := up T.f m (upd (fun _ => none) sl ⟨1, F⟩ chosenS) } P Q v (.slice none 0 0) n 0 (pj (N + 1) F MM sl (qc (mk (N + 1) G i))) (Pr.new G (N + 1)) B B 1 F 1 F) := fun w9 h9 k9 => (HD.out.ahead kdt).acc hmm h9 k9
                have hacc := pj_accept (N := N + 1) (fst := F) (M := MM) (A := mk (N + 1) G i) (k := m) (slot := sl) hmm
                rw [← HM2.out, hmk2.2.1] at hacc
                have HAC : Hid ((pj (N + 1) F MM sl (qc (mk (N + 1) G i))).accept m ⟨1, F⟩ sl = pj (N + 1) F MM sl (qc (mk (N + 1) G (i + 1))) ∧ (pj (N + 1) F MM sl (qc (mk (N + 1) G i))).accepts m ⟨1, F⟩ sl = decide (N + 1 < 2 * (i + 1))) := hacc
                clear hm hfr hlf hmk hmk2 hacc
                have cad := fun w9 (q : Po w9 P v n (pj (N + 1) F MM sl (qc (mk (N + 1) G i)))) => accepted_any q m ⟨1, F⟩ sl
                rw [HAC.out.1, HAC.out.2] at cad
                go_wp2_with fail
                go_region_held (fun W => Kept (fun x => (x ≠ T.A m ∧ x ≠ T.M m) ∧ (x ≠ P ∧ v.ownBlock ≠ some x)) wr W) (assumption) (first
                  | (go_at_call 23; refine Calls.mono cac ?_; rintro e w9 ⟨rfl, h9, k9⟩; have k9' : Kept (fun x => (x ≠ T.A m ∧ x ≠ T.M m) ∧ (x ≠ P ∧ v.ownBlock ≠ some x)) wr w9 := kd3.trans (k9.mono (fun _ _ q => q.1)); have hp9 := (hP9.out w9 h9 k9).p.po)
                  | (go_at_call 16; refine Calls.mono (cad _ hp9) ?_; rintro e w10 ⟨v10, n10, rfl, h10, s10⟩; have k10' : Kept (fun x => (x ≠ T.A m ∧ x ≠ T.M m) ∧ (x ≠ P ∧ v.ownBlock ≠ some x)) wr w10 := k9'.trans (s10.kept.mono (fun _ _ q => q.2))))
                all_goals
                  have H10 := (hP9.out w9 h9 k9).pstep h10 s10
                  go_wp2_with fail
                  go_roundw
                  case rel =>
                    refine ⟨i + 1, _, v10, n10, by go_num, by omega, rfl, H10, fun j => ?_, fun j => ?_, fun j => ?_⟩
                    · show up T.pa m ⟨1, (F : Int)⟩ j = _ ∨ up T.pa m ⟨1, (F : Int)⟩ j = _
                      by_cases e : j = m
                      · subst e; rw [up_at]; exact .inl rfl
                      · rw [up_ne _ _ e]; exact HPB.out j
                    · show up T.f m (upd (fun _ => none) sl ⟨1, (F : Int)⟩ chosenS) j = _
                      rw [HM2.out, bit_at]
                      by_cases e : j = m
                      · subst e; rw [up_at]; simp
                      · rw [up_ne _ _ e, HFB.out j]
                        have : ¬ (m = j) := fun q => e q.symm
                        simp [this]
                    · show up T.c m (T.c m + 1) j ≤ i + 1
                      have := HCB.out j
                      by_cases e : j = m
                      · subst e; rw [up_at]; omega
                      · rw [up_ne _ _ e]; omega
                  case measure => simp [intOf]; omega

end Go.Proofs.Ytpgoedpodfidjaa
