/-
  PaxosAgrees.
-/
import Derived.Test.YtpgoedpodfidjaaPAgree
import Derived.Deep.RegionHeldLaw
import Derived.Laws.Runes
import Derived.Laws.Concat
import Derived.Laws.Cover4
namespace Go.Proofs.Ytpgoedpodfidjaa
open Go.RowKit

def noTm : Tm := ⟨fun _ => 0, fun _ => 0, fun _ => 0, fun _ => 0, fun _ => 0, fun _ => .slice none 0 0, fun _ => ⟨0, 0⟩, fun _ _ => none, fun _ => Pr.new 0 0⟩
/-- All are as they were made. -/
def Fresh (N k : Nat) (T : Tm) : Prop := (∀ j, T.f j = fun _ => none) ∧ ∀ j, j < k → T.c j = 0 ∧ T.pa j = ⟨0, 0⟩ ∧ T.pr j = Pr.new j N

theorem Inv.start {N : Nat} (hN : N ≤ 5) {T : Tm} (h : Fresh N N T) : Inv N 0 T.pa T.f T.pr (fun _ _ _ => none) (fun _ _ => none) := by
  refine ⟨hN, fun k hk => ?_, fun k hk => ?_, fun k hk => ?_, fun k hk => ?_, fun n hn => ?_, fun k hk => ?_, fun s b v hv => (by cases hv), fun s b v hv => (by cases hv), fun n s b v hv => (by cases hv), fun n s b v hv => (by cases hv), fun n s c u hf => ?_, fun n s b v hv => (by cases hv)⟩
  · rw [(h.2 k hk).2.2]; exact ⟨rfl, rfl, rfl⟩
  · rw [(h.2 k hk).2.2]; exact ⟨Int.le_refl _, Int.le_refl _⟩
  · rw [(h.2 k hk).2.2]; exact .inl rfl
  · rw [(h.2 k hk).2.2]; exact Int.le_refl _
  · rw [(h.2 n hn).2.1]; exact ⟨less_self _, Int.le_refl _⟩
  · rw [(h.2 k hk).2.2]
    refine ⟨fun n hn => ?_, fun s n hn => ?_, fun s _ _ n hn => ?_, fun s _ hne => (hne rfl).elim, fun s hp => ?_, fun s _ => rfl, fun _ => rfl⟩
    · simp [Pr.new] at hn
    · simp [Pr.new, zeroPl] at hn
    · simp [Pr.new] at hn
    · simp [Pr.new, zeroPl] at hp
  · rw [h.1 n] at hf; cases hf

theorem row_row {w : World} {base base' e e' n n' : Nat} {v v' : Value} {g g' : Nat → Nat} (h : Row w base e v n g) (h' : Row w base' e' v' n' g') (ht : e ≠ e') : ∀ i, v.ownBlock = some i → v'.ownBlock ≠ some i := by
  intro i q q'
  rcases h.2 with ⟨rfl, _⟩ | ⟨z, cap', cur, rfl, hb, hg, _⟩
  · simp [Value.ownBlock] at q
  · simp [Value.ownBlock] at q
    subst q
    rcases h'.2 with ⟨rfl, _⟩ | ⟨z', cap', cur', rfl, hb', hg', _⟩
    · simp [Value.ownBlock] at q'
    · simp [Value.ownBlock] at q'
      subst q'
      rw [hg] at hg'
      simp only [Option.some.injEq, Obj.cells.injEq] at hg'
      exact ht hg'.2.1
theorem grown_kept {w w' : World} {o : Obj} {u : Value} (g : (w.alloc o).grownBy w' u.ownBlock) : Kept (fun i => u.ownBlock ≠ some i) w w' :=
  ((Kept.refl _ _).alloc o).grown g (fun _ _ e h => h e)

set_option maxRecDepth 100000 in
set_option maxHeartbeats 40000000 in
theorem paxosAgrees_any {w : World} {a : Option Addr} {na ca : Nat} (ha : IsSteps w a na) (nodes : Int) :
    Calls Try.prog 4 #[.int .i64 nodes, .slice a na ca] w fun e w' => e = .returned (.bool true) ∧ Kept (fun _ => True) w w' := by
  have HS : Hid (IsSteps w a na) := ha
  clear ha
  go_enter Try.func4, Try.ntmps4
  go_wp2_with fail
  refine Calls.mono (within_any _ 4 (by decide)) ?_
  rintro e w ⟨⟨N, hN, rfl⟩, rfl⟩
  go_wp2_with fail
  go_loopw [5, 6, 7] (fun ta tp i wr => ∃ (k : Nat) (T : Tm), i = .int .i64 k ∧ k ≤ N + 1 ∧ Crew w wr k T ∧ Row wr w.heap.size 46 ta k T.A ∧ Row wr w.heap.size 22 tp k T.P ∧ Fresh (N + 1) k T) (fun _ _ i _ => N + 1 - (intOf i).toNat)
  case atStart => exact ⟨0, noTm, rfl, by omega, Crew.none _ _, World.ownsRow_nil _ _ _ _, World.ownsRow_nil _ _ _ _, fun _ => rfl, fun j hj => by omega⟩
  case round =>
    obtain ⟨k, T, rfl, hk, hc, hra, hrp, hf⟩ := hrel
    have HC : Hid (Crew w wr k T) := hc
    have HA : Hid (Row wr w.heap.size 46 _ k T.A) := hra
    have HP : Hid (Row wr w.heap.size 22 _ k T.P) := hrp
    have HF : Hid (Fresh (N + 1) k T) := hf
    obtain ⟨aa, ac, rfl⟩ := hra.shape
    obtain ⟨pa, pc, rfl⟩ := hrp.shape
    clear hc hra hrp hf
    by_cases hlt : k < N + 1
    · have g1 : (k : Int) < 1 + (N : Int) := by omega
      go_wp2_with fail
      refine Calls.mono new_any ?_
      rintro e w1 ⟨A, M, rfl, h1, k1, a1, m1⟩
      go_wp2_with fail
      refine Calls.mono (pnew_any (by omega) (by omega) (by omega) (by omega)) ?_
      rintro e w2 ⟨P, rfl, h2, k2, hP⟩
      rw [show (1 + (N : Int)).toNat = N + 1 by omega] at h2
      have k12 : Kept (fun _ => True) wr w2 := k1.trans k2
      have hnew : Hid (Crew w w2 (k + 1) _) := HC.out.add k12 (h1.all k2) h2 a1 m1 (by rw [hP]; exact k1.size) (fun z hz => by simp [Value.ownBlock] at hz)
      have A2 : Hid (Row w2 w.heap.size 46 (.slice aa k ac) k T.A) := HA.out.all k12
      have P2 : Hid (Row w2 w.heap.size 22 (.slice pa k pc) k T.P) := HP.out.all k12
      have hsz : Hid (w.heap.size ≤ w2.heap.size) := Nat.le_trans HC.out.kept.size k12.size
      have hFn : Hid (Fresh (N + 1) (k + 1) ⟨up T.A k A, up T.M k M, up T.c k 0, up T.P k P, up T.n k 0, up T.v k (.slice none 0 0), up T.pa k ⟨0, 0⟩, up T.f k (fun _ => none), up T.pr k (Pr.new k (N + 1))⟩) := by
        refine ⟨fun j => ?_, fun j hj => ?_⟩
        · by_cases e : j = k
          · subst e; exact up_at _ _ _
          · exact (up_ne _ _ e).trans (HF.out.1 j)
        · by_cases e : j = k
          · subst e; exact ⟨up_at _ _ _, up_at _ _ _, up_at _ _ _⟩
          · have := HF.out.2 j (by omega)
            exact ⟨(up_ne _ _ e).trans this.1, (up_ne _ _ e).trans this.2.1, (up_ne _ _ e).trans this.2.2⟩
      clear h1 h2 k1 k2 k12 a1 m1 hP HC HA HP HF
      go_upto_region 12 with (at_builtin; refine wpList_append_ptr rfl _ _ 44 46 w.heap.size rfl Try.underlying44 Try.infoPA _ k T.A rfl (A2.out.all ((Kept.refl _ _).alloc _)) (Nat.le_trans hsz.out (by simp)) _ rfl A (0, 0) (heap_alloc_new _ _) (by omega) ?_; intro aa3 ac3 w3 hown3 hgrow3)
      have k3 := grown_kept hgrow3
      have C3 : Hid (Crew w w3 (k + 1) _) := hnew.out.side k3 (fun i hi => ⟨A2.out.side side_pa i (Classical.byContradiction hi), (World.ownsRow.lt A2.out i (Classical.byContradiction hi)).1⟩)
      have A3 : Hid (Row w3 w.heap.size 46 (.slice aa3 (k + 1) ac3) (k + 1) (up T.A k A)) := hown3
      have P3 : Hid (Row w3 w.heap.size 22 (.slice pa k pc) k T.P) := P2.out.kept k3 (fun i hi e => row_row A2.out P2.out (by decide) i e hi)
      have hsz3 : Hid (w.heap.size ≤ w3.heap.size) := Nat.le_trans hsz.out k3.size
      clear hown3 hgrow3 k3 A2 P2 hnew hsz
      go_wp2_with (at_builtin; refine wpList_append_ptr rfl _ _ 45 22 w.heap.size rfl Try.underlying45 Try.infoPP _ k T.P rfl (P3.out.all ((Kept.refl _ _).alloc _)) (Nat.le_trans hsz3.out (by simp)) _ rfl P (0, 0) (heap_alloc_new _ _) (by omega) ?_; intro pa4 pc4 w4 hown4 hgrow4)
      have k4 := grown_kept hgrow4
      have C4 : Crew w w4 (k + 1) _ := C3.out.side k4 (fun i hi => ⟨P3.out.side side_pp i (Classical.byContradiction hi), (World.ownsRow.lt P3.out i (Classical.byContradiction hi)).1⟩)
      have A4 : Row w4 w.heap.size 46 (.slice aa3 (k + 1) ac3) (k + 1) (up T.A k A) := A3.out.kept k4 (fun i hi e => row_row A3.out P3.out (by decide) i hi e)
      go_roundw
      case rel => exact ⟨k + 1, _, by go_num, by omega, C4, A4, hown4, hFn.out⟩
      case measure => simp [intOf]; omega
    · have hkn : k = N + 1 := by omega
      subst hkn
      have g1 : ¬ (((N + 1 : Nat) : Int) < 1 + (N : Int)) := by omega
      have g1' : ¬ ((N : Int) + 1 < 1 + (N : Int)) := by omega
      have hI : Hid (Inv (N + 1) 0 T.pa T.f T.pr (fun _ _ _ => none) (fun _ _ => none)) := Inv.start (by omega) HF.out
      have hc0 : Hid (∀ j, j < N + 1 → T.c j ≤ 0) := fun j hj => Nat.le_of_eq (HF.out.2 j hj).1
      clear HF
      go_upto_region 15 with fail
      have hG : Hid (AG w ((wr.alloc (.cells #[.string ⟨#[]⟩, .string ⟨#[]⟩, .string ⟨#[]⟩, .string ⟨#[]⟩] 48)).alloc (.cells #[.bool false, .bool false, .bool false, .bool false] 49)) (N + 1) (.slice aa (N + 1) ac) (.slice pa (N + 1) pc) wr.heap.size (wr.heap.size + 1) T (fun _ => ⟨#[]⟩) (fun _ => false)) := by
        have hs := HC.out.kept.size
        have k1 : Kept (fun _ => True) wr (wr.alloc (.cells #[.string ⟨#[]⟩, .string ⟨#[]⟩, .string ⟨#[]⟩, .string ⟨#[]⟩] 48)) := (Kept.refl _ _).alloc _
        have a1 : Af _ wr.heap.size 48 4 (fun _ => .string ⟨#[]⟩) := heap_alloc_new wr (.cells #[.string ⟨#[]⟩, .string ⟨#[]⟩, .string ⟨#[]⟩, .string ⟨#[]⟩] 48)
        have s1 : (wr.alloc (.cells #[.string ⟨#[]⟩, .string ⟨#[]⟩, .string ⟨#[]⟩, .string ⟨#[]⟩] 48)).heap.size = wr.heap.size + 1 := by simp
        generalize wr.alloc (.cells #[.string ⟨#[]⟩, .string ⟨#[]⟩, .string ⟨#[]⟩, .string ⟨#[]⟩] 48) = w1 at *
        have k2 : Kept (fun _ => True) w1 (w1.alloc (.cells #[.bool false, .bool false, .bool false, .bool false] 49)) := (Kept.refl _ _).alloc _
        have a2 : Af _ w1.heap.size 49 4 (fun _ => .bool false) := heap_alloc_new w1 (.cells #[.bool false, .bool false, .bool false, .bool false] 49)
        rw [s1] at a2
        exact ⟨HC.out.ahead (k1.trans k2), HA.out.all (k1.trans k2), HP.out.all (k1.trans k2), a1.kept k2 trivial, a2, hs, by omega⟩
      clear HC HA HP
      generalize (wr.alloc (.cells #[.string ⟨#[]⟩, .string ⟨#[]⟩, .string ⟨#[]⟩, .string ⟨#[]⟩] 48)).alloc (.cells #[.bool false, .bool false, .bool false, .bool false] 49) = w5 at *
      generalize hYY : wr.heap.size + 1 = Y at *
      generalize wr.heap.size = X at *
      clear hYY
      obtain ⟨ga, rfl, -, -⟩ := hG.out.ra.at (i := 0) (by omega)
      obtain ⟨gp, rfl, -, -⟩ := hG.out.rp.at (i := 0) (by omega)
      have hsub : (1 : Int) + (N : Int) - 1 = (N : Int) := by omega
      have hN1 : (((N + 1 : Nat) : Int)) = (N : Int) + 1 := by omega
      go_wp2_with fail
      go_loopw [13] (fun t wr => ∃ (i : Nat) (T : Tm) (ch : Nat → ByteArray) (is : Nat → Bool) (V : Vh) (K : Kh), t = .int .i64 i ∧ i ≤ 200 ∧ AG w wr (N + 1) (.slice (some ⟨ga, 0, none⟩) (N + 1) ac) (.slice (some ⟨gp, 0, none⟩) (N + 1) pc) X Y T ch is ∧ Inv (N + 1) i T.pa T.f T.pr V K ∧ (∀ s, is s = true → ∃ b, Chosen (N + 1) V s b (ch s)) ∧ ∀ j, j < N + 1 → T.c j ≤ i) (fun t _ => 200 - (intOf t).toNat)
      case atStart => exact ⟨0, T, _, _, _, _, rfl, by omega, hG.out, hI.out, fun s hs => (by cases hs), hc0.out⟩
      case round =>
        clear hG hI hc0
        obtain ⟨i, T, ch, is, V, K, rfl, hi, hg, hinv, hch, hcc⟩ := hrel
        have HG : Hid (AG w wr (N + 1) (.slice (some ⟨ga, 0, none⟩) (N + 1) ac) (.slice (some ⟨gp, 0, none⟩) (N + 1) pc) X Y T ch is) := hg
        have HI : Hid (Inv (N + 1) i T.pa T.f T.pr V K) := hinv
        have HH : Hid (∀ s, is s = true → ∃ b, Chosen (N + 1) V s b (ch s)) := hch
        have HCC : Hid (∀ j, j < N + 1 → T.c j ≤ i) := hcc
        clear hg hinv hch hcc
        by_cases hlt : i < na ∧ i < 200
        · obtain ⟨b0, off, kd, kp, kn, ks, rfl, hx⟩ := step_at HS.out hlt.1
          have g1 : (i : Int) < (na : Int) := by omega
          have g2 : (i : Int) < 200 := by omega
          have g0 : (0 : Int) ≤ (i : Int) := by omega
          obtain ⟨y0, y1, y2, y3⟩ := hx wr HG.out.crew.kept
          have HX : Hid (∀ w', Kept (fun _ => True) w w' → w'.cell? ⟨b0, off + i * 4, none⟩ = some (.int .i64 kd)) := fun w' q => (hx w' q).1
          clear hx
          go_wp2_with fail
          refine Calls.mono (within_any _ N (by omega)) ?_
          rintro e wr ⟨⟨k, hk, rfl⟩, rfl⟩
          go_wp2_with fail
          refine Calls.mono (within_any _ N (by omega)) ?_
          rintro e wr ⟨⟨n, hn, rfl⟩, rfl⟩
          go_wp2_with fail
          refine Calls.mono (within_any _ 3 (by omega)) ?_
          rintro e wr ⟨⟨s, hs, rfl⟩, rfl⟩
          clear y0 y1 y2 y3
          have hk1 : k < N + 1 := by omega
          have hn1 : n < N + 1 := by omega
          have cp := HG.out.rp.ptr hk1
          have i1 : (k : Int) < (N : Int) + 1 := by omega
          have i0 : (0 : Int) ≤ (k : Int) := by omega
          have j1 : (n : Int) < (N : Int) + 1 := by omega
          have j0 : (0 : Int) ≤ (n : Int) := by omega
          have hpo := HG.out.crew.po k hk1
          go_wp2_with fail
          refine Calls.mono (pballot_any hpo) ?_
          rintro e w6 ⟨rfl, k6⟩
          have HG6 : Hid (AG w w6 (N + 1) (.slice (some ⟨ga, 0, none⟩) (N + 1) ac) (.slice (some ⟨gp, 0, none⟩) (N + 1) pc) X Y T ch is) := HG.out.ahead k6
          clear k6 hpo cp HG
          obtain ⟨br, bn, hbb⟩ : ∃ br bn, (T.pr k).b = ⟨br, bn⟩ := ⟨_, _, rfl⟩
          simp only [hbb]
          have HB : Hid ((T.pr k).b = ⟨br, bn⟩) := hbb
          clear hbb
          go_upto_region 22 with fail
          have k7 : Kept (fun _ => True) w6 (w6.alloc (.cells #[.int .i64 br, .int .i64 bn] 27)) := (Kept.refl _ _).alloc _
          have TB : Hid (Two (w6.alloc (.cells #[.int .i64 br, .int .i64 bn] 27)) w6.heap.size br bn) := Two.made w6 br bn
          have SB : Hid (Side (w6.alloc (.cells #[.int .i64 br, .int .i64 bn] 27)) w6.heap.size) := Two.side
          have HG7 : Hid (AG w (w6.alloc (.cells #[.int .i64 br, .int .i64 bn] 27)) (N + 1) (.slice (some ⟨ga, 0, none⟩) (N + 1) ac) (.slice (some ⟨gp, 0, none⟩) (N + 1) pc) X Y T ch is) := HG6.out.ahead k7
          clear k7 HG6
          generalize w6.alloc (.cells #[.int .i64 br, .int .i64 bn] 27) = w7 at *
          generalize w6.heap.size = B at *
          have z0 := HX.out w7 HG7.out.crew.kept
          go_wp2_with fail
          refine Calls.mono (within_any _ 5 (by decide)) ?_
          rintro e w7 ⟨⟨kk, hkk, rfl⟩, rfl⟩
          clear z0 HX
          have cp := HG7.out.rp.ptr hk1
          have op : Hid (Side w7 gp) := HG7.out.rp.side side_pp gp (by simp [Value.ownBlock])
          have oa : Hid (Side w7 ga) := HG7.out.ra.side side_pa ga (by simp [Value.ownBlock])
          have hk3 : kk = 0 ∨ (kk = 1 ∨ kk = 2) ∨ 3 ≤ kk := by omega
          rcases hk3 with rfl | hk3 | hk3
          · as_aux_lemma =>
              go_wp2_with fail
              refine Calls.mono (pbegin_any (HG7.out.crew.po k hk1) 0 (by decide)) ?_
              rintro e w8 ⟨rfl, h8, k8⟩
              have H8 := HG7.out.prop hk1 h8 ⟨k8.mono (fun _ _ q => q.1), fun z hz => by simp [Value.ownBlock] at hz⟩
              have I8 := HI.out.begin (by omega) hk1
              go_wp2_with fail
              go_roundw
              case rel => exact ⟨i + 1, _, ch, is, V, K, by go_num, by omega, H8, I8, HH.out, fun j hj => by have := HCC.out j hj; show T.c j ≤ i + 1; omega⟩
              case measure => simp [intOf]; omega
          · have la : ∀ W, Kept (fun x => x ≠ T.A n ∧ x ≠ T.M n) w7 W → W.cell? ⟨ga, n, none⟩ = some (.pointer (some ⟨T.A n, 0, none⟩)) := fun W q => cell_kept q (HG7.out.ra.ptr hn1) (HG7.out.crew.offA hn1 oa.out)
            have lb : ∀ W, Kept (fun x => x ≠ T.A n ∧ x ≠ T.M n) w7 W → W.cell? ⟨B, 0, none⟩ = some (.int .i64 br) := fun W q => cell_kept q TB.out.c0 (HG7.out.crew.offA hn1 SB.out)
            have lc : ∀ W, Kept (fun x => x ≠ T.A n ∧ x ≠ T.M n) w7 W → W.cell? ⟨B, 1, none⟩ = some (.int .i64 bn) := fun W q => cell_kept q TB.out.c1 (HG7.out.crew.offA hn1 SB.out)
            have kdr : Kept (fun x => x ≠ T.A n ∧ x ≠ T.M n) w7 w7.drew := (Kept.refl _ _).drew
            have cpr := prepare_any ((HG7.out.crew.ac n hn1).all ((Kept.refl _ _).drew)) ⟨br, bn⟩ 0
            clear cp
            cases hL : less (T.pa n) ⟨br, bn⟩
            · as_aux_lemma =>
                simp only [hL, if_neg (by decide : ¬ (false = true))] at cpr
                rcases hk3 with rfl | rfl
                all_goals
                  go_wp2_with fail
                  go_region_held (fun W => Kept (fun x => x ≠ T.A n ∧ x ≠ T.M n) w7 W) (assumption) (first | (go_at_call 21; refine Calls.mono cpr ?_; rintro e w8 ⟨v8, rfl, r8, h8, k8, n8⟩; have k8' : Kept (fun x => x ≠ T.A n ∧ x ≠ T.M n) w7 w8 := kdr.trans k8))
                  have H8 : Hid (AG w w8 (N + 1) (.slice (some ⟨ga, 0, none⟩) (N + 1) ac) (.slice (some ⟨gp, 0, none⟩) (N + 1) pc) X Y T ch is) := by
                    have := HG7.out.acc hn1 h8 k8'
                    simp only [up_same] at this
                    exact this
                  have op8 := op.out.kept k8' (HG7.out.crew.offA hn1 op.out)
                  have oa8 := oa.out.kept k8' (HG7.out.crew.offA hn1 oa.out)
                  clear r8 h8 k8 k8' n8 la lb lc kdr
                  go_wp2_with fail
                  have kdt : Kept (fun _ => True) w8 w8.drew := (Kept.refl _ _).drew
                  have kd3 : Kept (fun x => x ≠ T.P k) w8 w8.drew := (Kept.refl _ _).drew
                  have lp : ∀ W, Kept (fun x => x ≠ T.P k) w8 W → W.cell? ⟨gp, k, none⟩ = some (.pointer (some ⟨T.P k, 0, none⟩)) := fun W q => cell_kept q (H8.out.rp.ptr hk1) (H8.out.crew.offP hk1 op8).1
                  have la : ∀ W, Kept (fun x => x ≠ T.P k) w8 W → W.cell? ⟨ga, n, none⟩ = some (.pointer (some ⟨T.A n, 0, none⟩)) := fun W q => cell_kept q (H8.out.ra.ptr hn1) (H8.out.crew.offP hk1 oa8).1
                  have cpd := promised_any ((H8.out.crew.ac n hn1).all kdt)
                  have cse := fun W (q : Kept (fun _ => True) w8 W) => pseen_any ((H8.out.crew.po k hk1).all q) (T.pa n).r (T.pa n).n
                  go_region_held (fun W => Kept (fun x => x ≠ T.P k) w8 W) (assumption) (first
                    | (go_at_call 22; refine Calls.mono cpd ?_; rintro e w9 ⟨rfl, k9⟩; have k9t : Kept (fun _ => True) w8 w9 := kdt.trans k9; have k9' : Kept (fun x => x ≠ T.P k) w8 w9 := k9t.mono (fun _ _ _ => trivial))
                    | (go_at_call 10; refine Calls.mono (cse _ k9t) ?_; rintro e w10 ⟨rfl, h10, k10⟩; have k10' : Kept (fun x => x ≠ T.P k) w8 w10 := k9'.trans k10))
                  all_goals
                    have H10 := (H8.out.ahead k9t).prop hk1 h10 (PS.self k10)
                    have I10 := (HI.out.sees hk1 (HI.out.pab n hn1).2).later_step (Nat.le_succ i)
                    go_wp2_with fail
                    go_roundw
                    case rel => exact ⟨i + 1, _, ch, is, V, K, by go_num, by omega, H10, I10, HH.out, fun j hj => by have := HCC.out j hj; show T.c j ≤ i + 1; omega⟩
                    case measure => simp [intOf]; omega
            · as_aux_lemma =>
                simp only [hL, if_true] at cpr
                rcases hk3 with rfl | rfl
                all_goals
                  go_wp2_with fail
                  go_region_held (fun W => Kept (fun x => x ≠ T.A n ∧ x ≠ T.M n) w7 W) (assumption) (first | (go_at_call 21; refine Calls.mono cpr ?_; rintro e w8 ⟨v8, rfl, r8, h8, k8, n8⟩; have k8' : Kept (fun x => x ≠ T.A n ∧ x ≠ T.M n) w7 w8 := kdr.trans k8))
                  have H8 : Hid (AG w w8 (N + 1) (.slice (some ⟨ga, 0, none⟩) (N + 1) ac) (.slice (some ⟨gp, 0, none⟩) (N + 1) pc) X Y { T with pa := up T.pa n ⟨br, bn⟩ } ch is) := by
                    have := HG7.out.acc hn1 h8 k8'
                    simp only [up_same] at this
                    exact this
                  have op8 := op.out.kept k8' (HG7.out.crew.offA hn1 op.out)
                  have SB8 := SB.out.kept k8' (HG7.out.crew.offA hn1 SB.out)
                  have TB8 := TB.out.kept k8' (HG7.out.crew.offA hn1 SB.out)
                  have V8 : Hid (VR w8 v8 (votesUp (T.f n) 0 512)) := r8
                  clear r8 h8 k8 k8' n8 la lb lc kdr
                  go_wp2_with fail
                  have kdt : Kept (fun _ => True) w8 w8.drew := (Kept.refl _ _).drew
                  have kd3 : Kept (fun x => x ≠ T.P k ∧ (T.v k).ownBlock ≠ some x) w8 w8.drew := (Kept.refl _ _).drew
                  have lp : ∀ W, Kept (fun x => x ≠ T.P k ∧ (T.v k).ownBlock ≠ some x) w8 W → W.cell? ⟨gp, k, none⟩ = some (.pointer (some ⟨T.P k, 0, none⟩)) := fun W q => cell_kept q (H8.out.rp.ptr hk1) (H8.out.crew.offP hk1 op8)
                  have lb : ∀ W, Kept (fun x => x ≠ T.P k ∧ (T.v k).ownBlock ≠ some x) w8 W → W.cell? ⟨B, 0, none⟩ = some (.int .i64 br) := fun W q => cell_kept q TB8.c0 (H8.out.crew.offP hk1 SB8)
                  have lc : ∀ W, Kept (fun x => x ≠ T.P k ∧ (T.v k).ownBlock ≠ some x) w8 W → W.cell? ⟨B, 1, none⟩ = some (.int .i64 bn) := fun W q => cell_kept q TB8.c1 (H8.out.crew.offP hk1 SB8)
                  have cpm := promise_any ((H8.out.crew.po k hk1).all kdt) (V8.out.all kdt) (Nat.le_trans (votesUp_len _ _ _) (by decide)) n ⟨br, bn⟩
                  go_region_held (fun W => Kept (fun x => x ≠ T.P k ∧ (T.v k).ownBlock ≠ some x) w8 W) (assumption) (first
                    | (go_at_call 12; refine Calls.mono cpm ?_; rintro e w9 ⟨v9, n9, rfl, h9, s9⟩; have k9' : Kept (fun x => x ≠ T.P k ∧ (T.v k).ownBlock ≠ some x) w8 w9 := kd3.trans s9.kept))
                  all_goals
                    have H9 := H8.out.prop hk1 h9 ((PS.all kdt).trans s9)
                    have I9 := (HI.out.promise hk1 hn1 (by rw [HB.out]; exact hL)).later_step (Nat.le_succ i)
                    rw [HB.out] at I9
                    go_wp2_with fail
                    go_roundw
                    case rel => exact ⟨i + 1, _, ch, is, V, K, by go_num, by omega, H9, I9, HH.out, fun j hj => by have := HCC.out j hj; show T.c j ≤ i + 1; omega⟩
                    case measure => simp [intOf]; omega
          · have m0 : ¬ (kk : Int) = 0 := by omega
            have m1 : ¬ (kk : Int) = 1 := by omega
            have m2 : ¬ (kk : Int) = 2 := by omega
            have m3 : ((kk : Int) == 0) = false := by simpa using m0
            have m4 : ((kk : Int) == 1) = false := by simpa using m1
            have m5 : ((kk : Int) == 2) = false := by simpa using m2
            have m6 : decide ((kk : Int) = 0) = false := by simpa using m0
            have m7 : decide ((kk : Int) = 1) = false := by simpa using m1
            have m8 : decide ((kk : Int) = 2) = false := by simpa using m2
            obtain ⟨sK, hsK, hcK⟩ : ∃ sK : ByteArray, sK.size ≤ 4 ∧ ∀ W, (convert 21 9 (.int .i32 (97 + (k : Int)))).run Try.prog W = .ok (.string sK) W := ⟨_, encode_size_le _, fun W => run_convert_int_string W _ _ _ _ rfl Try.underlying9⟩
            obtain ⟨rI, hrI, hr0, hr1⟩ : ∃ rI : Int, (i : Int).tmod 26 = rI ∧ 0 ≤ rI ∧ rI < 26 := ⟨_, rfl, Int.tmod_nonneg _ (by omega), Int.tmod_lt_of_pos _ (by decide)⟩
            obtain ⟨sI, hsI, hcI⟩ : ∃ sI : ByteArray, sI.size ≤ 4 ∧ ∀ W, (convert 21 9 (.int .i32 (97 + rI))).run Try.prog W = .ok (.string sI) W := ⟨_, encode_size_le _, fun W => run_convert_int_string W _ _ _ _ rfl Try.underlying9⟩
            obtain ⟨s1, hs1, hc1⟩ : ∃ s1 : ByteArray, s1.size ≤ 8 ∧ ∀ W, (Op.stringOp .add ⟨#[111, 119, 110, 32]⟩ sK).run Try.prog W = .ok (.string s1) W := ⟨⟨#[111, 119, 110, 32]⟩ ++ sK, by rw [ByteArray.size_append]; show 4 + sK.size ≤ 8; omega, fun W => run_string_add_sum W _ _ (by show 4 + sK.size ≤ 9223372036854775807; omega)⟩
            obtain ⟨s2, hc2⟩ : ∃ s2 : ByteArray, ∀ W, (Op.stringOp .add s1 sI).run Try.prog W = .ok (.string s2) W := ⟨s1 ++ sI, fun W => run_string_add_sum W _ _ (by omega)⟩
            go_wp2_with fail
            refine Calls.mono (pick_any (HG7.out.crew.po k hk1) s s2) ?_
            rintro e w8 ⟨v8, n8, rfl, h8, s8⟩
            have H8 : Hid (AG w w8 (N + 1) (.slice (some ⟨ga, 0, none⟩) (N + 1) ac) (.slice (some ⟨gp, 0, none⟩) (N + 1) pc) X Y { T with v := up T.v k v8, n := up T.n k n8, pr := up T.pr k ((T.pr k).pick s s2) } ch is) := HG7.out.prop hk1 h8 s8
            have SB8 : Hid (Side w8 B) := SB.out.kept s8.kept (HG7.out.crew.offP hk1 SB.out)
            have TB8 : Hid (Two w8 B br bn) := TB.out.kept s8.kept (HG7.out.crew.offP hk1 SB.out)
            have op8 : Hid (Side w8 gp) := op.out.kept s8.kept (HG7.out.crew.offP hk1 op.out)
            have oa8 : Hid (Side w8 ga) := oa.out.kept s8.kept (HG7.out.crew.offP hk1 oa.out)
            have hnd : Hid ((T.pr k).nodes = N + 1) := (HI.out.nd k hk1).2.1
            clear h8 s8 cp HG7 SB TB op oa hcK hcI hc1 hc2 hsK hsI hs1 m0 m1 m2 m3 m4 m5 m6 m7 m8 hk3
            have kdt : Kept (fun _ => True) w8 w8.drew := (Kept.refl _ _).drew
            cases hM : (T.pr k).may s
            · as_aux_lemma =>
                have e1 : (T.pr k).pick s s2 = T.pr k := if_neg (by simp [hM])
                have H9 : Hid (AG w w8 (N + 1) (.slice (some ⟨ga, 0, none⟩) (N + 1) ac) (.slice (some ⟨gp, 0, none⟩) (N + 1) pc) X Y { T with v := up T.v k v8, n := up T.n k n8 } ch is) := by
                  have := H8.out
                  rw [e1] at this
                  simp only [up_same] at this
                  exact this
                generalize (T.pr k).picks s s2 = junk
                go_wp2_with fail
                go_quiet (fail)
                go_wp2_with fail
                go_roundw
                case rel => exact ⟨i + 1, _, ch, is, V, K, by go_num, by omega, H9.out.ahead ((Kept.refl _ _).drewN _), HI.out.later_step (Nat.le_succ i), HH.out, fun j hj => by have := HCC.out j hj; show T.c j ≤ i + 1; omega⟩
                case measure => simp [intOf]; omega
            · obtain ⟨K', hI8, hK', hpk, hval⟩ := HI.out.pick hk1 s2 hM
              have hxb : Hid (((T.pr k).pick s s2).b = ⟨br, bn⟩ ∧ ((T.pr k).pick s s2).nodes = N + 1) := by
                have e1 : (T.pr k).pick s s2 = (T.pr k).put s { (T.pr k).pl s with picked := true, value := ((T.pr k).pl s).would s2 } := if_pos hM
                rw [e1]
                exact ⟨HB.out, hnd.out⟩
              have HI8 : Hid (Inv (N + 1) i T.pa T.f (up T.pr k ((T.pr k).pick s s2)) V K') := hI8
              rw [HB.out] at hK'
              have hb0 : Hid (less ⟨0, 0⟩ ⟨br, bn⟩ = true) := by
                have := (hI8.kf s _ _ hK').1
                show less _ _ = true
                rw [less_iff]
                simp only at this ⊢
                omega
              have HK' : Hid (K' s ⟨br, bn⟩ = some ((T.pr k).picks s s2)) := hK'
              have Hpk : Hid ((((T.pr k).pick s s2).pl s).picked = true) := hpk
              have Hval : Hid ((((T.pr k).pick s s2).pl s).value = (T.pr k).picks s s2) := hval
              clear hI8 hK' hpk hval hM
              generalize (T.pr k).picks s s2 = pv at *
              generalize (T.pr k).pick s s2 = x8 at *
              have hcn : T.c n < 1000000 := by have := HCC.out n hn1; omega
              have hac : Hid (Ac w8.drew (T.A n) (T.M n) (T.c n) (T.pa n) (T.f n)) := (H8.out.crew.ac n hn1).all kdt
              have hoA : Hid ((ga ≠ T.A n ∧ ga ≠ T.M n) ∧ (gp ≠ T.A n ∧ gp ≠ T.M n) ∧ (B ≠ T.A n ∧ B ≠ T.M n)) := ⟨H8.out.crew.offA hn1 oa8.out, H8.out.crew.offA hn1 op8.out, H8.out.crew.offA hn1 SB8.out⟩
              cases hL : less ⟨br, bn⟩ (T.pa n)
              · as_aux_lemma =>
                  have cac := accept_any hac.out hcn ⟨br, bn⟩ s pv false (by simp [hL, hb0.out]; omega)
                  simp only [if_neg (by decide : ¬ (false = true)), Bool.not_false, Int.toNat_natCast] at cac
                  have hbk : Hid ((up T.pr k x8 k).b = ⟨br, bn⟩) := by show _ = _; rw [up_at]; exact hxb.out.1
                  obtain ⟨V9, hI9, gr9, hV9⟩ := HI8.out.accept hk1 hn1 (s := s) (v := pv) (by rw [hbk.out]; exact HK'.out) (by rw [hbk.out]; exact hL)
                  rw [hbk.out] at hI9 hV9
                  have hacc := hI9.accepted hk1 hn1 (s := s) (v := pv) (by rw [up_at]; exact Hpk.out) (by rw [up_at]; exact Hval.out) (by rw [hbk.out]; exact hV9)
                  rw [hbk.out] at hacc
                  simp only [up_at] at hacc
                  have HI10 : Hid (Inv (N + 1) i (up T.pa n ⟨br, bn⟩) (up T.f n (upd (T.f n) s ⟨br, bn⟩ pv)) (up (up T.pr k x8) k (x8.put s { x8.pl s with acc := (x8.pl s).acc ||| 2 ^ n })) V9 K') := hacc.1
                  have HC10 : Hid (x8.most ((x8.pl s).acc ||| 2 ^ n) = true → Chosen (N + 1) V9 s ⟨br, bn⟩ pv) := hacc.2
                  have GR : Hid (∀ n s b v, V n s b = some v → V9 n s b = some v) := gr9
                  have hneb : ¬ ((⟨br, bn⟩ : Bl) = ⟨0, 0⟩) := by
                    intro e
                    have := hb0.out
                    rw [e] at this
                    simp [less] at this
                  have htook : Hid (x8.took n ⟨br, bn⟩ s = true) := by
                    show _ = _
                    simp [Pr.took, Pr.mine, Pr.isNode, hxb.out.1, hxb.out.2, Hpk.out, hneb]
                    omega
                  have ha1 : Hid (x8.accept n ⟨br, bn⟩ s = x8.put s { x8.pl s with acc := (x8.pl s).acc ||| 2 ^ n }) := if_pos htook.out
                  have ha2 : Hid (x8.accepts n ⟨br, bn⟩ s = x8.most ((x8.pl s).acc ||| 2 ^ n)) := by show _ = _; simp [Pr.accepts, htook.out]
                  clear hI9 gr9 hV9 hacc hneb
                  have hoP : Hid ((ga ≠ T.P k ∧ v8.ownBlock ≠ some ga) ∧ (gp ≠ T.P k ∧ v8.ownBlock ≠ some gp) ∧ (B ≠ T.P k ∧ v8.ownBlock ≠ some B)) := by
                    have h1 := H8.out.crew.offP hk1 oa8.out
                    have h2 := H8.out.crew.offP hk1 op8.out
                    have h3 := H8.out.crew.offP hk1 SB8.out
                    simp only [up_at] at h1 h2 h3
                    exact ⟨h1, h2, h3⟩
                  have la : ∀ W, Kept (fun x => (x ≠ T.A n ∧ x ≠ T.M n) ∧ (x ≠ T.P k ∧ v8.ownBlock ≠ some x)) w8 W → W.cell? ⟨ga, n, none⟩ = some (.pointer (some ⟨T.A n, 0, none⟩)) := fun W q => cell_kept q (H8.out.ra.ptr hn1) ⟨hoA.out.1, hoP.out.1⟩
                  have lp : ∀ W, Kept (fun x => (x ≠ T.A n ∧ x ≠ T.M n) ∧ (x ≠ T.P k ∧ v8.ownBlock ≠ some x)) w8 W → W.cell? ⟨gp, k, none⟩ = some (.pointer (some ⟨T.P k, 0, none⟩)) := fun W q => cell_kept q (H8.out.rp.ptr hk1) ⟨hoA.out.2.1, hoP.out.2.1⟩
                  have lb : ∀ W, Kept (fun x => (x ≠ T.A n ∧ x ≠ T.M n) ∧ (x ≠ T.P k ∧ v8.ownBlock ≠ some x)) w8 W → W.cell? ⟨B, 0, none⟩ = some (.int .i64 br) := fun W q => cell_kept q TB8.out.c0 ⟨hoA.out.2.2, hoP.out.2.2⟩
                  have lc : ∀ W, Kept (fun x => (x ≠ T.A n ∧ x ≠ T.M n) ∧ (x ≠ T.P k ∧ v8.ownBlock ≠ some x)) w8 W → W.cell? ⟨B, 1, none⟩ = some (.int .i64 bn) := fun W q => cell_kept q TB8.out.c1 ⟨hoA.out.2.2, hoP.out.2.2⟩
                  have kd3 : Kept (fun x => (x ≠ T.A n ∧ x ≠ T.M n) ∧ (x ≠ T.P k ∧ v8.ownBlock ≠ some x)) w8 w8.drew := (Kept.refl _ _).drew
                  have H8' : Hid (∀ w9, Ac w9 (T.A n) (T.M n) (T.c n + 1) ⟨br, bn⟩ (upd (T.f n) s ⟨br, bn⟩ pv) → Kept (fun x => x ≠ T.A n ∧ x ≠ T.M n) w8.drew w9 → AG w w9 (N + 1) (.slice (some ⟨ga, 0, none⟩) (N + 1) ac) (.slice (some ⟨gp, 0, none⟩) (N + 1) pc) X Y { T with v := up T.v k v8, n := up T.n k n8, pr := up T.pr k x8, c := up T.c n (T.c n + 1), pa := up T.pa n ⟨br, bn⟩, f := up T.f n (upd (T.f n) s ⟨br, bn⟩ pv) } ch is ∧ Po w9 (T.P k) v8 n8 x8) := by
                    intro w9 h9 k9
                    have q := (H8.out.ahead kdt).acc hn1 h9 k9
                    refine ⟨q, ?_⟩
                    have := q.crew.po k hk1
                    simp only [up_at] at this
                    exact this
                  go_wp2_with fail
                  go_region_held (fun W => Kept (fun x => (x ≠ T.A n ∧ x ≠ T.M n) ∧ (x ≠ T.P k ∧ v8.ownBlock ≠ some x)) w8 W) (assumption) (first
                    | (go_at_call 23; refine Calls.mono cac ?_; rintro e w9 ⟨rfl, h9, k9⟩; have k9' : Kept (fun x => (x ≠ T.A n ∧ x ≠ T.M n) ∧ (x ≠ T.P k ∧ v8.ownBlock ≠ some x)) w8 w9 := kd3.trans (k9.mono (fun _ _ q => q.1)); have hP9 := (H8'.out w9 h9 k9).2)
                    | (go_at_call 16; refine Calls.mono (accepted_any hP9 n ⟨br, bn⟩ s) ?_; rintro e w10 ⟨v10, n10, rfl, h10, s10⟩; have k10' : Kept (fun x => (x ≠ T.A n ∧ x ≠ T.M n) ∧ (x ≠ T.P k ∧ v8.ownBlock ≠ some x)) w8 w10 := k9'.trans (s10.kept.mono (fun _ _ q => q.2))))
                  all_goals
                    rw [ha1.out] at h10
                    rw [ha2.out]
                    have H10 : Hid (AG w w10 (N + 1) (.slice (some ⟨ga, 0, none⟩) (N + 1) ac) (.slice (some ⟨gp, 0, none⟩) (N + 1) pc) X Y _ ch is) := (H8'.out w9 h9 k9).1.prop hk1 h10 (by show PS w9 w10 (T.P k) (up T.v k v8 k) v10; rw [up_at]; exact s10)
                    have HCn : Hid (∀ j, j < N + 1 → up T.c n (T.c n + 1) j ≤ i + 1) := by
                      intro j hj
                      have := HCC.out j hj
                      by_cases e : j = n
                      · subst e; rw [up_at]; omega
                      · rw [up_ne _ _ e]; omega
                    clear h9 k9 k9' hP9 h10 s10 k10' la lp lb lc kd3 H8' kdt
                    have HH9 : Hid (∀ s, is s = true → ∃ b, Chosen (N + 1) V9 s b (ch s)) := fun s' h' => by
                      obtain ⟨b', hb'⟩ := HH.out s' h'
                      exact ⟨b', hb'.mono GR.out⟩
                    cases hmo : x8.most ((x8.pl s).acc ||| 2 ^ n)
                    · go_wp2_with fail
                      go_roundw
                      case rel => exact ⟨i + 1, _, ch, is, V9, K', by go_num, by omega, H10.out, HI10.out.later_step (Nat.le_succ i), HH9.out, HCn.out⟩
                      case measure => simp [intOf]; omega
                    · have hcho := HC10.out hmo
                      have HHn : Hid (∀ s', (if s' = s then true else is s') = true → ∃ b, Chosen (N + 1) V9 s' b (if s' = s then pv else ch s')) := fun s' h' => by
                        by_cases e : s' = s
                        · subst e; rw [if_pos rfl]; exact ⟨_, hcho⟩
                        · rw [if_neg e] at h' ⊢; exact HH9.out s' h'
                      have hs4 : s < 4 := by omega
                      have x1 := H10.out.ax.cell hs4
                      have x2 := H10.out.ay.cell hs4
                      have x3 := H10.out.ax.lt
                      have x4 := H10.out.ay.lt
                      have x5 := H10.out.ax.free s
                      have x6 := H10.out.ay.free s
                      have t1 : (s : Int) < 4 := by omega
                      have t0 : (0 : Int) ≤ (s : Int) := by omega
                      have hxy : ¬ X = Y := af_af H10.out.ax H10.out.ay (by decide)
                      have hyx : ¬ Y = X := fun e => hxy e.symm
                      have H12 : Hid (AG w ((w10.setCell ⟨Y, s, none⟩ (.bool true)).setCell ⟨X, s, none⟩ (.string pv)) (N + 1) (.slice (some ⟨ga, 0, none⟩) (N + 1) ac) (.slice (some ⟨gp, 0, none⟩) (N + 1) pc) X Y _ (fun j => if j = s then pv else ch j) (fun j => if j = s then true else is j)) := (H10.out.setY s true).setX s pv
                      have x7 := (H10.out.setY s true).ax.free s
                      have x8' := (H10.out.setY s true).ax.lt
                      cases his : is s
                      · rw [his] at x2
                        go_wp2_with fail
                        go_roundw
                        case rel => exact ⟨i + 1, _, _, _, V9, K', by go_num, by omega, H12.out, HI10.out.later_step (Nat.le_succ i), HHn.out, HCn.out⟩
                        case measure => simp [intOf]; omega
                      · rw [his] at x2
                        obtain ⟨b', hb'⟩ := HH9.out s his
                        have heq := HI10.out.one hb' hcho
                        rw [← heq] at x1
                        clear heq hb'
                        go_wp2_with fail
                        go_roundw
                        case rel => exact ⟨i + 1, _, _, _, V9, K', by go_num, by omega, H12.out, HI10.out.later_step (Nat.le_succ i), HHn.out, HCn.out⟩
                        case measure => simp [intOf]; omega
              · as_aux_lemma =>
                  have cac := accept_any hac.out hcn ⟨br, bn⟩ s pv true (by simp [hL])
                  have la : ∀ W, Kept (fun x => x ≠ T.A n ∧ x ≠ T.M n) w8 W → W.cell? ⟨ga, n, none⟩ = some (.pointer (some ⟨T.A n, 0, none⟩)) := fun W q => cell_kept q (H8.out.ra.ptr hn1) hoA.out.1
                  have lb : ∀ W, Kept (fun x => x ≠ T.A n ∧ x ≠ T.M n) w8 W → W.cell? ⟨B, 0, none⟩ = some (.int .i64 br) := fun W q => cell_kept q TB8.out.c0 hoA.out.2.2
                  have lc : ∀ W, Kept (fun x => x ≠ T.A n ∧ x ≠ T.M n) w8 W → W.cell? ⟨B, 1, none⟩ = some (.int .i64 bn) := fun W q => cell_kept q TB8.out.c1 hoA.out.2.2
                  have kd3 : Kept (fun x => x ≠ T.A n ∧ x ≠ T.M n) w8 w8.drew := (Kept.refl _ _).drew
                  simp only [if_true, Bool.not_true] at cac
                  go_wp2_with fail
                  refine wp_region_held_drew (S := fun W => Kept (fun x => x ≠ T.A n ∧ x ≠ T.M n) w8 W) (by kernel_rfl) kd3 (fun hHeld => ?_)
                  refine wpAnyH_take (i := 0) (oi := { dst := some 123, op := Op.move (Operand.tmp 21), type := 4, pos := _, after := #[], guard := none }) (v := ?_) rfl (by kernel_rfl) (by kernel_rfl) (by kernel_rfl) (fun _ _ _ h => h) (Or.inl ⟨by rfl, ?hy0⟩) (by assumption) ?_
                  case hy0 => (intro W hSw; (try dsimp only at hSw); go_simp; try with_reducible rfl)
                  try simp only [Act.put, List.setIfInBounds_toArray, List.set_cons_zero, List.set_cons_succ]
                  refine wpAnyH_take (i := 1) (oi := { dst := some 124, op := Op.move (Operand.tmp 123), type := 4, pos := _, after := #[{ on := 0, ground := Ground.data }], guard := none }) (v := ?_) rfl (by kernel_rfl) (by kernel_rfl) (by kernel_rfl) (fun _ _ _ h => h) (Or.inl ⟨by rfl, ?hy1⟩) (by assumption) ?_
                  case hy1 => (intro W hSw; (try dsimp only at hSw); go_simp; try with_reducible rfl)
                  try simp only [Act.put, List.setIfInBounds_toArray, List.set_cons_zero, List.set_cons_succ]
                  refine wpAnyH_take (i := 2) (oi := { dst := some 125, op := Op.move (Operand.tmp 5), type := 44, pos := _, after := #[{ on := 1, ground := Ground.guard }], guard := some (1, true) }) (v := ?_) rfl (by kernel_rfl) (by kernel_rfl) (by kernel_rfl) (fun _ _ _ h => h) (Or.inl ⟨by rfl, ?hy2⟩) (by assumption) ?_
                  case hy2 => (intro W hSw; (try dsimp only at hSw); go_simp; try with_reducible rfl)
                  try simp only [Act.put, List.setIfInBounds_toArray, List.set_cons_zero, List.set_cons_succ]
                  refine wpAnyH_take (i := 3) (oi := { dst := some 126, op := Op.move (Operand.tmp 15), type := 3, pos := _, after := #[{ on := 1, ground := Ground.guard }], guard := some (1, true) }) (v := ?_) rfl (by kernel_rfl) (by kernel_rfl) (by kernel_rfl) (fun _ _ _ h => h) (Or.inl ⟨by rfl, ?hy3⟩) (by assumption) ?_
                  case hy3 => (intro W hSw; (try dsimp only at hSw); go_simp; try with_reducible rfl)
                  try simp only [Act.put, List.setIfInBounds_toArray, List.set_cons_zero, List.set_cons_succ]
                  refine wpAnyH_take (i := 4) (oi := { dst := some 127, op := Op.indexAddr 44 (Operand.tmp 125) (Operand.tmp 126), type := 0, pos := _, after := #[{ on := 2, ground := Ground.data }, { on := 3, ground := Ground.data }, { on := 1, ground := Ground.guard }], guard := some (1, true) }) (v := ?_) rfl (by kernel_rfl) (by kernel_rfl) (by kernel_rfl) (fun _ _ _ h => h) (Or.inl ⟨by rfl, ?hy4⟩) (by assumption) ?_
                  case hy4 => (intro W hSw; (try dsimp only at hSw); go_simp; try with_reducible rfl)
                  try simp only [Act.put, List.setIfInBounds_toArray, List.set_cons_zero, List.set_cons_succ]
                  refine wpAnyH_take (i := 5) (oi := { dst := some 128, op := Op.load 46 (Operand.tmp 127), type := 46, pos := _, after := #[{ on := 4, ground := Ground.data }, { on := 1, ground := Ground.guard }], guard := some (1, true) }) (v := ?_) rfl (by kernel_rfl) (by kernel_rfl) (by kernel_rfl) (fun _ _ _ h => h) (Or.inl ⟨by rfl, ?hy5⟩) (by assumption) ?_
                  case hy5 => (intro W hSw; (try dsimp only at hSw); go_simp; try with_reducible rfl)
                  try simp only [Act.put, List.setIfInBounds_toArray, List.set_cons_zero, List.set_cons_succ]
                  refine wpAnyH_take (i := 6) (oi := { dst := some 129, op := Op.load 27 (Operand.tmp 17), type := 27, pos := _, after := #[{ on := 1, ground := Ground.guard }], guard := some (1, true) }) (v := ?_) rfl (by kernel_rfl) (by kernel_rfl) (by kernel_rfl) (fun _ _ _ h => h) (Or.inl ⟨by rfl, ?hy6⟩) (by assumption) ?_
                  case hy6 => (intro W hSw; (try dsimp only at hSw); go_simp; try with_reducible rfl)
                  try simp only [Act.put, List.setIfInBounds_toArray, List.set_cons_zero, List.set_cons_succ]
                  refine wpAnyH_take (i := 7) (oi := { dst := some 130, op := Op.move (Operand.tmp 16), type := 3, pos := _, after := #[{ on := 1, ground := Ground.guard }], guard := some (1, true) }) (v := ?_) rfl (by kernel_rfl) (by kernel_rfl) (by kernel_rfl) (fun _ _ _ h => h) (Or.inl ⟨by rfl, ?hy7⟩) (by assumption) ?_
                  case hy7 => (intro W hSw; (try dsimp only at hSw); go_simp; try with_reducible rfl)
                  try simp only [Act.put, List.setIfInBounds_toArray, List.set_cons_zero, List.set_cons_succ]
                  refine wpAnyH_take (i := 8) (oi := { dst := some 131, op := Op.move (Operand.tmp 20), type := 9, pos := _, after := #[{ on := 1, ground := Ground.guard }], guard := some (1, true) }) (v := ?_) rfl (by kernel_rfl) (by kernel_rfl) (by kernel_rfl) (fun _ _ _ h => h) (Or.inl ⟨by rfl, ?hy8⟩) (by assumption) ?_
                  case hy8 => (intro W hSw; (try dsimp only at hSw); go_simp; try with_reducible rfl)
                  try simp only [Act.put, List.setIfInBounds_toArray, List.set_cons_zero, List.set_cons_succ]
                  refine wpAnyH_ready (rs := [9]) (by kernel_rfl) (by simp) ?_
                  refine AllReadyH.cons rfl (fun Kx hKx => ?_) AllReadyH.nil
                  go_simp
                  go_wp2_with (first | (go_at_call 23; refine Calls.mono cac ?_; rintro e w9 ⟨rfl, h9, k9⟩; have k9' : Kept (fun x => x ≠ T.A n ∧ x ≠ T.M n) w8 w9 := kd3.trans k9))
                  refine hKx.out _ _ k9' (fun hHeld2 => ?_)
                  clear hKx Kx hHeld
                  refine wpAnyH_take (i := 10) (oi := { dst := some 133, op := Op.pick (Operand.tmp 124) (Operand.tmp 132) (Operand.const (Value.bool false)), type := 4, pos := _, after := #[{ on := 1, ground := Ground.data }, { on := 9, ground := Ground.data }], guard := none }) (v := ?_) rfl (by kernel_rfl) (by kernel_rfl) (by kernel_rfl) (fun _ _ _ h => h) (Or.inl ⟨by rfl, ?hy10⟩) (by assumption) ?_
                  case hy10 => (intro W hSw; (try dsimp only at hSw); go_simp; try with_reducible rfl)
                  try simp only [Act.put, List.setIfInBounds_toArray, List.set_cons_zero, List.set_cons_succ]
                  refine wpAnyH_take (i := 11) (oi := { dst := some 134, op := Op.move (Operand.tmp 133), type := 4, pos := _, after := #[{ on := 10, ground := Ground.data }, { on := 9, ground := Ground.chain }], guard := none }) (v := ?_) rfl (by kernel_rfl) (by kernel_rfl) (by kernel_rfl) (fun _ _ _ h => h) (Or.inl ⟨by rfl, ?hy11⟩) (by assumption) ?_
                  case hy11 => (intro W hSw; (try dsimp only at hSw); go_simp; try with_reducible rfl)
                  try simp only [Act.put, List.setIfInBounds_toArray, List.set_cons_zero, List.set_cons_succ]
                  refine wpAnyH_take (i := 12) (oi := { dst := some 135, op := Op.move (Operand.tmp 6), type := 45, pos := _, after := #[{ on := 11, ground := Ground.guard }], guard := some (11, true) }) (v := undef) rfl (by kernel_rfl) (by kernel_rfl) (by kernel_rfl) (fun _ _ _ h => h) (Or.inr ⟨by rfl, rfl⟩) (by assumption) ?_
                  try simp only [Act.put, List.setIfInBounds_toArray, List.set_cons_zero, List.set_cons_succ]
                  refine wpAnyH_take (i := 13) (oi := { dst := some 136, op := Op.move (Operand.tmp 14), type := 3, pos := _, after := #[{ on := 11, ground := Ground.guard }], guard := some (11, true) }) (v := undef) rfl (by kernel_rfl) (by kernel_rfl) (by kernel_rfl) (fun _ _ _ h => h) (Or.inr ⟨by rfl, rfl⟩) (by assumption) ?_
                  try simp only [Act.put, List.setIfInBounds_toArray, List.set_cons_zero, List.set_cons_succ]
                  refine wpAnyH_take (i := 14) (oi := { dst := some 137, op := Op.indexAddr 45 (Operand.tmp 135) (Operand.tmp 136), type := 0, pos := _, after := #[{ on := 12, ground := Ground.data }, { on := 13, ground := Ground.data }, { on := 11, ground := Ground.guard }], guard := some (11, true) }) (v := undef) rfl (by kernel_rfl) (by kernel_rfl) (by kernel_rfl) (fun _ _ _ h => h) (Or.inr ⟨by rfl, rfl⟩) (by assumption) ?_
                  try simp only [Act.put, List.setIfInBounds_toArray, List.set_cons_zero, List.set_cons_succ]
                  refine wpAnyH_take (i := 15) (oi := { dst := some 138, op := Op.load 22 (Operand.tmp 137), type := 22, pos := _, after := #[{ on := 14, ground := Ground.data }, { on := 11, ground := Ground.guard }], guard := some (11, true) }) (v := undef) rfl (by kernel_rfl) (by kernel_rfl) (by kernel_rfl) (fun _ _ _ h => h) (Or.inr ⟨by rfl, rfl⟩) (by assumption) ?_
                  try simp only [Act.put, List.setIfInBounds_toArray, List.set_cons_zero, List.set_cons_succ]
                  refine wpAnyH_take (i := 16) (oi := { dst := some 139, op := Op.move (Operand.tmp 15), type := 3, pos := _, after := #[{ on := 11, ground := Ground.guard }], guard := some (11, true) }) (v := undef) rfl (by kernel_rfl) (by kernel_rfl) (by kernel_rfl) (fun _ _ _ h => h) (Or.inr ⟨by rfl, rfl⟩) (by assumption) ?_
                  try simp only [Act.put, List.setIfInBounds_toArray, List.set_cons_zero, List.set_cons_succ]
                  refine wpAnyH_take (i := 17) (oi := { dst := some 140, op := Op.load 27 (Operand.tmp 17), type := 27, pos := _, after := #[{ on := 11, ground := Ground.guard }], guard := some (11, true) }) (v := undef) rfl (by kernel_rfl) (by kernel_rfl) (by kernel_rfl) (fun _ _ _ h => h) (Or.inr ⟨by rfl, rfl⟩) (by assumption) ?_
                  try simp only [Act.put, List.setIfInBounds_toArray, List.set_cons_zero, List.set_cons_succ]
                  refine wpAnyH_take (i := 18) (oi := { dst := some 141, op := Op.move (Operand.tmp 16), type := 3, pos := _, after := #[{ on := 11, ground := Ground.guard }], guard := some (11, true) }) (v := undef) rfl (by kernel_rfl) (by kernel_rfl) (by kernel_rfl) (fun _ _ _ h => h) (Or.inr ⟨by rfl, rfl⟩) (by assumption) ?_
                  try simp only [Act.put, List.setIfInBounds_toArray, List.set_cons_zero, List.set_cons_succ]
                  refine wpAnyH_take (i := 19) (oi := { dst := some 142, op := Op.call { callee := Callee.value (Operand.func 16), args := #[Operand.tmp 138, Operand.tmp 139, Operand.tmp 140, Operand.tmp 141], argTypes := #[22, 3, 27, 3] }, type := 4, pos := _, after := #[{ on := 15, ground := Ground.data }, { on := 16, ground := Ground.data }, { on := 17, ground := Ground.data }, { on := 18, ground := Ground.data }, { on := 11, ground := Ground.chain }, { on := 11, ground := Ground.guard }], guard := some (11, true) }) (v := undef) rfl (by kernel_rfl) (by kernel_rfl) (by kernel_rfl) (fun _ _ _ h => h) (Or.inr ⟨by rfl, rfl⟩) (by assumption) ?_
                  try simp only [Act.put, List.setIfInBounds_toArray, List.set_cons_zero, List.set_cons_succ]
                  refine wpAnyH_take (i := 20) (oi := { dst := some 143, op := Op.pick (Operand.tmp 134) (Operand.tmp 142) (Operand.const (Value.bool false)), type := 4, pos := _, after := #[{ on := 11, ground := Ground.data }, { on := 19, ground := Ground.data }], guard := none }) (v := ?_) rfl (by kernel_rfl) (by kernel_rfl) (by kernel_rfl) (fun _ _ _ h => h) (Or.inl ⟨by rfl, ?hy20⟩) (by assumption) ?_
                  case hy20 => (intro W hSw; (try dsimp only at hSw); go_simp; try with_reducible rfl)
                  try simp only [Act.put, List.setIfInBounds_toArray, List.set_cons_zero, List.set_cons_succ]
                  refine wpAnyH_done (by kernel_rfl) ?_ _
                  all_goals
                    have H9 := (H8.out.ahead kdt).acc hn1 h9 k9
                    simp only [up_same] at H9
                    go_wp2_with fail
                    go_roundw
                    case rel => exact ⟨i + 1, _, ch, is, V, K', by go_num, by omega, H9, HI8.out.later_step (Nat.le_succ i), HH.out, fun j hj => by
                      have := HCC.out j hj
                      show up T.c n (T.c n + 1) j ≤ i + 1
                      by_cases e : j = n
                      · subst e; rw [up_at]; omega
                      · rw [up_ne _ _ e]; omega⟩
                    case measure => simp [intOf]; omega
        · as_aux_lemma =>
            have hex : ¬ (i : Int) < (na : Int) ∨ ((i : Int) < (na : Int) ∧ ¬ (i : Int) < 200) := by omega
            have hmaj : Hid (∀ s, is s = true → N + 1 < 2 * cnt (votesFor T.f s (ch s)) (N + 1)) := by
              intro s hs
              obtain ⟨b', hb'⟩ := HH.out s hs
              have hb2 := hb'
              obtain ⟨S, hS, hSv⟩ := hb2
              have := ones_cnt (S := S) (p := votesFor T.f s (ch s)) (show N + 1 ≤ 5 by omega) (fun m hm => by
                obtain ⟨c, hc⟩ := HI.out.now hb' (hSv m hm).2
                exact ⟨(hSv m hm).1, by unfold votesFor; rw [hc]; simp⟩)
              omega
            clear HS hlt HI HH HCC
            obtain ⟨w9, hw9⟩ : ∃ w9, w9 = wr := ⟨_, rfl⟩
            subst hw9
            rcases hex with hex | hex
            all_goals
              go_wp2_with fail
              go_loopw [22] (fun t wy => ∃ s : Nat, t = .int .i64 s ∧ s ≤ 4 ∧ Kept (fun _ => True) w9 wy) (fun t _ => 4 - (intOf t).toNat)
              case atStart => exact ⟨0, rfl, by omega, Kept.refl _ _⟩
              case round =>
                obtain ⟨s, rfl, hs, ks⟩ := hrel
                by_cases hs4 : s < 4
                · have t1 : (s : Int) < 4 := by omega
                  have t0 : (0 : Int) ≤ (s : Int) := by omega
                  go_wp2_with fail
                  go_loopw [23] (fun t wy => ∃ k : Nat, t = .int .i64 k ∧ k ≤ N + 1 ∧ Kept (fun _ => True) w9 wy) (fun t _ => N + 1 - (intOf t).toNat)
                  case atStart => exact ⟨0, rfl, by omega, ks⟩
                  case round =>
                    obtain ⟨k, rfl, hk, kk⟩ := hrel
                    clear ks
                    have HGk : Hid (AG w wr (N + 1) (.slice (some ⟨ga, 0, none⟩) (N + 1) ac) (.slice (some ⟨gp, 0, none⟩) (N + 1) pc) X Y T ch is) := HG.out.ahead kk
                    have yc := HGk.out.ay.cell hs4
                    have yl := HGk.out.ay.lt
                    by_cases hkN : k < N + 1
                    · have r1 : (k : Int) < 1 + (N : Int) := by omega
                      cases his : is s
                      · rw [his] at yc
                        go_wp2_with fail
                        go_roundw
                        case rel => exact ⟨s + 1, by go_num, by omega, kk⟩
                        case measure => simp [intOf]; omega
                      · rw [his] at yc
                        have hmj := hmaj.out s his
                        go_wp2_with fail
                        go_loopw [24, 25] (fun c t wy => ∃ n : Nat, t = .int .i64 n ∧ n ≤ N + 1 ∧ c = .int .i64 (cnt (votesFor T.f s (ch s)) n : Nat) ∧ Kept (fun _ => True) w9 wy) (fun _ t _ => N + 1 - (intOf t).toNat)
                        case atStart => exact ⟨0, rfl, by omega, rfl, kk⟩
                        case round =>
                          obtain ⟨n, rfl, hn, rfl, kn⟩ := hrel
                          clear kk yc yl HGk
                          have HGn : Hid (AG w wr (N + 1) (.slice (some ⟨ga, 0, none⟩) (N + 1) ac) (.slice (some ⟨gp, 0, none⟩) (N + 1) pc) X Y T ch is) := HG.out.ahead kn
                          have hcl := cnt_le (votesFor T.f s (ch s)) n
                          by_cases hnN : n < N + 1
                          · have ca := HGn.out.ra.ptr hnN
                            have q1 : (n : Int) < 1 + (N : Int) := by omega
                            have q2 : (n : Int) < (N : Int) + 1 := by omega
                            have q0 : (0 : Int) ≤ (n : Int) := by omega
                            have hsu : Hid (cnt (votesFor T.f s (ch s)) (n + 1) = cnt (votesFor T.f s (ch s)) n + if votesFor T.f s (ch s) n = true then 1 else 0) := cnt_succ _ _
                            have hvh : Hid (votesFor T.f s (ch s) n = headFor (votesUp (T.f n) s 512) s (ch s)) := votesFor_head _ (by omega) _ _
                            go_wp2_with fail
                            refine Calls.mono (votes_any (HGn.out.crew.ac n hnN) s) ?_
                            rintro e w10 ⟨v10, rfl, r10, k10, n10⟩
                            have HGm : Hid (AG w w10 (N + 1) (.slice (some ⟨ga, 0, none⟩) (N + 1) ac) (.slice (some ⟨gp, 0, none⟩) (N + 1) pc) X Y T ch is) := HGn.out.ahead k10
                            have kn10 : Kept (fun _ => True) w9 w10 := kn.trans k10
                            have r11 : VR w10 v10 (votesUp (T.f n) s 512) := r10
                            have hlen := votesUp_len (T.f n) s 512
                            clear r10 k10 n10 ca
                            generalize votesUp (T.f n) s 512 = L at *
                            have xc := HGm.out.ax.cell hs4
                            have xl := HGm.out.ax.lt
                            generalize hcn : cnt (votesFor T.f s (ch s)) n = o at *
                            obtain ⟨va, vc, rfl, hvg⟩ := r11.shape
                            cases L with
                            | nil =>
                              have hv0 : Hid (votesFor T.f s (ch s) n = false) := hvh.out
                              go_wp2_with fail
                              go_quiet (fail)
                              go_wp2_with fail
                              go_roundw
                              case rel => exact ⟨n + 1, by go_num, by omega, by rw [hsu.out, hv0.out]; rfl, kn10.drewN _⟩
                              case measure => simp [intOf]; omega
                            | cons y ys =>
                              obtain ⟨g, rfl⟩ := hvg (by simp)
                              obtain ⟨c0, c1, c2, c3⟩ := r11.cells 0 (by simp)
                              simp only [List.getElem_cons_zero, Nat.zero_mul, Nat.zero_add] at c0 c1 c2 c3
                              have hvh2 : Hid (votesFor T.f s (ch s) n = (decide (y.s = s) && decide (y.v = ch s))) := hvh.out
                              have hlp : (0 : Int) < (ys.length : Int) + 1 := by omega
                              simp only [List.length_cons] at hlen ⊢
                              obtain ⟨ys0, yb, yv⟩ := y
                              simp only at c0 c1 c2 c3 hvh2
                              by_cases e1 : ys0 = s
                              · subst e1
                                by_cases e2 : yv = ch s
                                · rw [← e2] at xc
                                  have hv1 : Hid (votesFor T.f s (ch s) n = true) := by show _ = _; rw [hvh2.out]; simp [e2]
                                  clear hvh hvh2
                                  go_wp2_with fail
                                  go_quiet (fail)
                                  go_wp2_with fail
                                  go_roundw
                                  case rel => exact ⟨n + 1, by go_num, by omega, by rw [hsu.out, hv1.out]; go_num, kn10.drewN _⟩
                                  case measure => simp [intOf]; omega
                                · have e3 : (yv.toList == (ch s).toList) = false := bytes_ne e2
                                  have hv0 : Hid (votesFor T.f s (ch s) n = false) := by show _ = _; rw [hvh2.out]; simp [e2]
                                  clear hvh hvh2
                                  go_wp2_with fail
                                  go_quiet (fail)
                                  go_wp2_with fail
                                  go_roundw
                                  case rel => exact ⟨n + 1, by go_num, by omega, by rw [hsu.out, hv0.out]; rfl, kn10.drewN _⟩
                                  case measure => simp [intOf]; omega
                              · have e3 : (ys0 == (s : Int)) = false := by simpa using e1
                                have e4 : decide (ys0 = (s : Int)) = false := by simpa using e1
                                have hv0 : Hid (votesFor T.f s (ch s) n = false) := by show _ = _; rw [hvh2.out]; simp [e1]
                                clear hvh hvh2
                                go_wp2_with fail
                                go_quiet (fail)
                                go_wp2_with fail
                                go_roundw
                                case rel => exact ⟨n + 1, by go_num, by omega, by rw [hsu.out, hv0.out]; rfl, kn10.drewN _⟩
                                case measure => simp [intOf]; omega
                          · have hnn : n = N + 1 := by omega
                            subst hnn
                            have q1 : ¬ (((N + 1 : Nat) : Int) < 1 + (N : Int)) := by omega
                            have q2 : ¬ ((N : Int) + 1 < 1 + (N : Int)) := by omega
                            have q3 : decide (2 * (cnt (votesFor T.f s (ch s)) (N + 1) : Int) ≤ 1 + (N : Int)) = false := decide_eq_false (by omega)
                            generalize cnt (votesFor T.f s (ch s)) (N + 1) = o at *
                            go_wp2_with fail
                            go_roundw
                            case rel => exact ⟨k + 1, by go_num, by omega, kn⟩
                            case measure => simp [intOf]; omega
                    · have hkk : k = N + 1 := by omega
                      subst hkk
                      have q1 : ¬ (((N + 1 : Nat) : Int) < 1 + (N : Int)) := by omega
                      have q2 : ¬ ((N : Int) + 1 < 1 + (N : Int)) := by omega
                      go_wp2_with fail
                      go_roundw
                      case rel => exact ⟨s + 1, by go_num, by omega, kk⟩
                      case measure => simp [intOf]; omega
                · have hs44 : s = 4 := by omega
                  subst hs44
                  go_wp2_with fail
                  refine Calls.mono pknown_any ?_
                  rintro e w12 ⟨rfl, k12⟩
                  go_wp2
                  go_ret
                  exact ⟨rfl, (HG.out.crew.kept.trans ks).trans k12⟩

end Go.Proofs.Ytpgoedpodfidjaa
