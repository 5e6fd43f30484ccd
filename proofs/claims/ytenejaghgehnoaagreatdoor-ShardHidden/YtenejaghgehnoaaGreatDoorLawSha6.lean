/-
  ShardHidden, walked.
-/
import Derived.Test.YtenejaghgehnoaaGreatDoorXF
import Derived.Deep.CutBlock
namespace Go.Proofs.YtenejaghgehnoaaGreatDoor
open Go.RowKit Go.Maps

/-- A row of texts is apart from a command's box. -/
theorem Txs.cmd {w w' : World} {X b : Nat} {v : Value} {ts : List (List UInt8)} (h : Txs w b v ts) (hX : CmX w X) (k : Kept (· ≠ X) w w') : Txs w' b v ts := by
  refine ⟨h.1, ?_⟩
  rcases h.2 with h0 | ⟨g, cap, cur, e, hb, hh, rest⟩
  · exact .inl h0
  · refine .inr ⟨g, cap, cur, e, hb, (k.block g (lt_of_block hh) ?_).trans hh, rest⟩
    rintro rfl
    exact absurd (hX.type hh) (by decide)

set_option maxRecDepth 100000 in
set_option maxHeartbeats 16000000 in
theorem hidden_false {w : World} (hTab : Tab w) {lo : Option Addr} {lc : Nat} {cs : List Cm} (hl : Cms w (.slice lo cs.length lc) cs) {po : Option Addr} {pc : Nat} {os : List Oq} (ho : Ow w (.slice po os.length pc) os) (hnm : ∀ o ∈ os, o.name.length ≤ 9223372036854775807) :
    Calls Tryz.prog 8 #[.slice lo cs.length lc, .slice po os.length pc, .bool false] w fun e w' => e = .returned (.bool true) ∧ Kept (fun _ => True) w w' := by
  have HTb : Hid (Tab w) := hTab
  have HCs : Hid (Cms w (.slice lo cs.length lc) cs) := hl
  have HO : Hid (Ow w (.slice po os.length pc) os) := ho
  have HN : Hid (∀ o ∈ os, o.name.length ≤ 9223372036854775807) := hnm
  have ct := typesT_any (w := w)
  clear hTab hl ho hnm
  go_enter Tryz.func8, Tryz.ntmps8
  go_upto_region 2 with (first
    | (go_at_call 10; refine Calls.mono ct ?_; rintro e w1 ⟨g, rfl, hty, k1⟩; have HK1 : Hid (Kept (fun _ => True) w w1) := k1; have cf := fresh_any hty (fun ao n cap h => by cases h; exact Nat.le_refl _) book_ok book_sz; clear ct hty k1)
    | (go_at_call 9; refine Calls.mono cf ?_; rintro e w2 ⟨a, tv', h, R, rfl, md, r1, r2, r3, r4⟩; have HD1 : Hid (Made w1 w2 a 0 tv' h (newS bookTs 0 256)) := md; clear cf md r1 r2 r3 r4))
  have ct := typesT_any (w := w2)
  go_upto_region 3 with (first
    | (go_at_call 10; refine Calls.mono ct ?_; rintro e w3 ⟨g2, rfl, hty, k1⟩; have HK2 : Hid (Kept (fun _ => True) w2 w3) := k1; have cf := fresh_any hty (fun ao n cap h => by cases h; exact Nat.le_refl _) book_ok book_sz; clear ct hty k1)
    | (go_at_call 9; refine Calls.mono cf ?_; rintro e w4 ⟨a2, tv2, h2, R2, rfl, md, r1, r2, r3, r4⟩; have HM : Hid (Twn w1 w4 a.S a2.S 0 0 kn0 kn0) := Twn.made HD1.out HK2.out md book_ok (HTb.out.all HK1.out); have HL0 : Hid (Kept (fun k => k < w1.heap.size) w1 w4) := ((HD1.out.kept.trans HK2.out).trans md.kept).mono (fun _ _ _ => trivial); clear cf md r1 r2 r3 r4))
  clear HD1 HK2
  generalize a.S = S at *
  generalize a2.S = U at *
  clear a tv' h a2 tv2 h2
  go_upto_block 0 with fail
  go_cut [13, 14] from 39 to 60 (fun _ _ wx => LpD2 w1 wx S U 300)
  case first =>
    go_wp2_with fail
    go_loopw [13] (fun ti wr => LpI2 w1 wr S U cs.length 30 ti) (fun ti _ => 30 - (intOf ti).toNat)
    case atStart => exact ⟨0, 0, kn0, Nat.zero_le _, Nat.zero_le _, rfl, rfl, HM.out, Idle.start _ _ _, HL0.out⟩
    case round =>
      obtain ⟨i, n, s, hi, hi2, rfl, hn, hm, hid, hk⟩ := hrel
      have HMr : Hid (Twn w1 wr S U n n s s) := hm
      have HI : Hid (Idle s) := hid
      have HK : Hid (Kept (fun k => k < w1.heap.size) w1 wr) := hk
      clear hm hid hk HM HL0
      by_cases hlt : i < cs.length
      · have i1 : (i : Int) < (cs.length : Int) := by omega
        have i0 : (0 : Int) ≤ (i : Int) := by omega
        by_cases h20 : i < 30
        · have i2 : (i : Int) < 30 := by omega
          obtain ⟨b', off, p1, m1, d1, p2, m2, d2, p3, m3, d3, rfl, q0, q1, q2, q3, q4, q5, q6, hin⟩ := HCs.out.at (HK1.out.low HK.out) i hlt
          generalize cs[i] = x at *
          have ct := tame_any hin.ops hin.at' hin.data hin.tx hin.names
          unfold cmdV at ct
          clear hin
          go_upto_region 9 with (go_at_call 23; refine Calls.mono ct ?_; rintro e v5 ⟨o', c', rfl, own, k5⟩; have HOw : Hid (TmO v5 wr.heap.size o' c' x) := own; have HK5 : Hid (Kept (fun _ => True) wr v5) := k5; clear ct own k5)
          clear q0 q1 q2 q3 q4 q5 q6
          have HV : Hid _ := heap_alloc_new v5 (.cells #[.int .i64 (tameP x).kind, .string ⟨(tameP x).tx.toArray⟩, .slice o' (tameL x.ops).length c', .slice none 0 0, .int .i64 x.lo, .int .i64 x.hi, .slice none 0 0] 40)
          have HKv : Hid _ := HK5.out.alloc (.cells #[.int .i64 (tameP x).kind, .string ⟨(tameP x).tx.toArray⟩, .slice o' (tameL x.ops).length c', .slice none 0 0, .int .i64 x.lo, .int .i64 x.hi, .slice none 0 0] 40)
          have HKw : Hid (Kept (fun _ => True) v5 (v5.alloc (.cells #[.int .i64 (tameP x).kind, .string ⟨(tameP x).tx.toArray⟩, .slice o' (tameL x.ops).length c', .slice none 0 0, .int .i64 x.lo, .int .i64 x.hi, .slice none 0 0] 40))) := (Kept.refl _ _).alloc _
          generalize v5.alloc (.cells #[.int .i64 (tameP x).kind, .string ⟨(tameP x).tx.toArray⟩, .slice o' (tameL x.ops).length c', .slice none 0 0, .int .i64 x.lo, .int .i64 x.hi, .slice none 0 0] 40) = w6 at *
          generalize hV : v5.heap.size = V at HV ⊢
          have z0 := (seven_cell HV.out).1
          have f0 := (seven_frozen HV.out).1
          go_upto_region 10 with fail
          clear z0 f0
          have HV7 : Hid _ := set7_0 HV.out (.int .i64 1)
          have HK7 : Hid _ := HKv.out.setNew (ad := ⟨V, 0, none⟩) (by rw [← hV]; exact HK5.out.size) (.int .i64 1)
          have HK8 : Hid _ := HKw.out.setNew (ad := ⟨V, 0, none⟩) (by rw [← hV]; exact Nat.le_refl _) (.int .i64 1)
          clear HV HKv HKw hV HK5
          generalize w6.setCell ⟨V, 0, none⟩ (.int .i64 1) = w7 at *
          have HO7 : Hid (TmO w7 wr.heap.size o' c' x) := HOw.out.all HK8.out
          have HS7 : Hid (w1.heap.size ≤ w7.heap.size) := Nat.le_trans HK.out.size HK7.out.size
          obtain ⟨z0, z1, z2, z3, z4, z5, z6⟩ := seven_cell HV7.out
          have cd := do_tame2 (HMr.out.all HK7.out) HS7.out HO7.out 1 (.inl rfl) (by omega)
          go_upto_region 11 with (go_at_call 13; refine Calls.mono cd ?_; rintro e w8 ⟨ka, oa, ma, ca, xa, ya, hkk, rfl, htx, mm, qq, kk⟩; have HM8 : Hid (Twn w1 w8 S U (n + 10) n (doP s { tameP x with kind := 1 }).2 s) := mm; have HKk : Hid (Kept (fun k => k < w1.heap.size) w7 w8) := kk; have HV8 : Hid _ := qq.block HV7.out (by decide); have HO8 : Hid (TmO w8 wr.heap.size o' c' x) := HO7.out.oth qq; clear cd hkk htx mm qq kk)
          clear z0 z1 z2 z3 z4 z5 z6
          obtain ⟨z0, z1, z2, z3, z4, z5, z6⟩ := seven_cell HV8.out
          have cd := do_tame2 HM8.out.swap (Nat.le_trans HS7.out HKk.out.size) HO8.out 1 (.inl rfl) (by omega)
          go_wp2_with (go_at_call 13; refine Calls.mono cd ?_; rintro e w9 ⟨kb, ob, mb, cb, xb, yb, hkk, rfl, htx, mm, qq, kk⟩; have HM9 : Hid (Twn w1 w9 S U (n + 10) (n + 10) (doP s { tameP x with kind := 1 }).2 (doP s { tameP x with kind := 1 }).2) := mm.swap; have HKl : Hid (Kept (fun k => k < w1.heap.size) w8 w9) := kk; clear cd hkk htx mm qq kk)
          go_roundw
          case rel => exact ⟨i + 1, n + 10, _, by omega, by omega, by go_num, by omega, HM9.out, HI.out.once rfl, ((HK.out.trans (HK7.out.mono (fun _ _ _ => trivial))).trans HKk.out).trans HKl.out⟩
          case measure => simp [intOf]; omega
        · have i2 : ¬ (i : Int) < 30 := by omega
          go_wp2_with fail
          go_meet
          exact ⟨n, s, by omega, HMr.out, HI.out, HK.out⟩
      · have i1 : ¬ (i : Int) < (cs.length : Int) := by omega
        go_wp2_with fail
        go_meet
        exact ⟨n, s, by omega, HMr.out, HI.out, HK.out⟩
  case rest =>
  obtain ⟨n, s, hn, hm, hid, hk⟩ := hcut
  have HMr : Hid (Twn w1 wc S U n n s s) := hm
  have HI : Hid (Idle s) := hid
  have HK : Hid (Kept (fun k => k < w1.heap.size) w1 wc) := hk
  have HKw : Hid (Kept (fun _ => True) w wc) := HK1.out.low hk
  have HWs : Hid (w.heap.size ≤ w1.heap.size) := HK1.out.size
  clear hm hid hk HM HL0
  obtain ⟨c, hce⟩ : ∃ c : Cm, c = ⟨2, [], os, [], 0, 0, []⟩ := ⟨_, rfl⟩
  have ct := tame_any (c := ⟨2, [], os, [], 0, 0, []⟩) (HO.out.all HKw.out) ⟨none, 0, 0, rfl⟩ ⟨none, 0, 0, rfl⟩ (by simp) HN.out
  rw [← hce] at ct
  have hc0 : cmdV c (.slice po os.length pc) (.slice none 0 0) (.slice none 0 0) = .agg #[.int .i64 2, .string ⟨#[]⟩, .slice po os.length pc, .slice none 0 0, .int .i64 0, .int .i64 0, .slice none 0 0] := by rw [hce]; rfl
  rw [hc0] at ct
  clear hc0 hce HO HN HCs
  go_upto_region 13 with (go_at_call 23; refine Calls.mono ct ?_; rintro e v5 ⟨o', c', rfl, own, k5⟩; have HOw : Hid (TmO v5 wc.heap.size o' c' c) := own; have HK5 : Hid (Kept (fun _ => True) wc v5) := k5; clear ct own k5)
  have HV : Hid _ := heap_alloc_new v5 (.cells #[.int .i64 (tameP c).kind, .string ⟨(tameP c).tx.toArray⟩, .slice o' (tameL c.ops).length c', .slice none 0 0, .int .i64 c.lo, .int .i64 c.hi, .slice none 0 0] 40)
  have HKv : Hid (Kept (fun _ => True) v5 (v5.alloc (.cells #[.int .i64 (tameP c).kind, .string ⟨(tameP c).tx.toArray⟩, .slice o' (tameL c.ops).length c', .slice none 0 0, .int .i64 c.lo, .int .i64 c.hi, .slice none 0 0] 40))) := (Kept.refl _ _).alloc _
  have HXl : Hid (w.heap.size ≤ v5.heap.size) := Nat.le_trans HKw.out.size HK5.out.size
  generalize v5.alloc (.cells #[.int .i64 (tameP c).kind, .string ⟨(tameP c).tx.toArray⟩, .slice o' (tameL c.ops).length c', .slice none 0 0, .int .i64 c.lo, .int .i64 c.hi, .slice none 0 0] 40) = w6 at *
  generalize v5.heap.size = X at HV HXl ⊢
  have HG6 : Hid (Hg w w1 w6 S U X n n s s c wc.heap.size o' c' (tameP c).kind) := ⟨HMr.out.all (HK5.out.trans HKv.out), HV.out, HOw.out.all HKv.out, (HKw.out.trans HK5.out).trans HKv.out, Nat.le_trans HK.out.size (HK5.out.trans HKv.out).size⟩
  generalize wc.heap.size = b0 at *
  clear HV HKv HK5 HOw HMr HKw HK HK1
  have z0 := (seven_cell HG6.out.box).1
  have f0 := (seven_frozen HG6.out.box).1
  go_upto_region 14 with fail
  clear z0 f0
  have HG7 : Hid (Hg w w1 (w6.setCell ⟨X, 0, none⟩ (.int .i64 2)) S U X n n s s c b0 o' c' 2) := HG6.out.kind HTb.out HXl.out 2
  clear HG6
  generalize w6.setCell ⟨X, 0, none⟩ (.int .i64 2) = w7 at *
  obtain ⟨rt, hrt⟩ := rt_some
  have HRT : Hid (IsRt rt) := hrt
  clear hrt
  have csh := shots_any HRT.out HG7.out.tw.left (by omega)
  go_upto_region 15 with (go_at_call 35; refine Calls.mono csh ?_; rintro e wp ⟨v, us, rfl, q1, q2, q3, q4, q5⟩; obtain ⟨vo, vc, rfl, _, _⟩ := q4.shape; rw [List.length_map] at q4; have HRi : Hid (Rises us) := q1; have HMe : Hid (∀ y, y ∈ us ↔ look s.cs y ≠ none) := q2; have HUl : Hid (us.length ≤ n) := q3; have HTs : Hid (Txs wp w7.heap.size (.slice vo us.length vc) (us.map (fun y => shotP rt y (caseP s y)))) := q4; have HG8 : Hid (Hg w w1 wp S U X n n s s c b0 o' c' 2) := HG7.out.all q5; clear csh q1 q2 q3 q4 q5)
  clear HG7
  obtain ⟨L, hL⟩ : ∃ L, L = us.map (fun y => shotP rt y (caseP s y)) := ⟨_, rfl⟩
  have HLe : Hid (L = us.map (fun y => shotP rt y (caseP s y))) := hL
  have HLl : Hid (L.length ≤ 1000000) := by
    show L.length ≤ 1000000
    have := HUl.out
    rw [hL, List.length_map]
    omega
  rw [← hL] at HTs
  clear hL HUl
  generalize w7.heap.size = bq at *
  obtain ⟨C, hC⟩ : ∃ C, C = { tameP c with kind := 2 } := ⟨_, rfl⟩
  have HDp : Hid (∀ s, doP s C = prepareP s C) := fun s => do_prepare (by rw [hC]; exact tame_formed c (.inr (.inl rfl))) (by rw [hC])
  have HCt : Hid (C.tx = (tameP c).tx) := by
    show C.tx = _
    rw [hC]
  have HCo : Hid (C.ops = tameL c.ops) := by
    show C.ops = _
    rw [hC]
    rfl
  have HTx : Hid (C.tx ≠ []) := fun e => by
    have : (tameP c).tx.length = 1 := txT_len _
    rw [← HCt.out, e] at this
    cases this
  obtain ⟨r, hr⟩ : ∃ r, r = prepareP s C := ⟨_, rfl⟩
  have HRe : Hid (r = prepareP s C) := hr
  have HRc : Hid (r.2.cs = s.cs) := by
    show r.2.cs = s.cs
    rw [hr]
    exact prep_cases HI.out C
  obtain ⟨z0, z1, z2, z3, z4, z5, z6⟩ := seven_cell HG8.out.box
  have cd := do_tame2 HG8.out.tw HG8.out.size HG8.out.ops 2 (.inr (.inl rfl)) (by omega)
  rw [← hC, HDp.out, ← hr] at cd
  clear hC hr
  go_upto_region 16 with (go_at_call 13; refine Calls.mono cd ?_; rintro e wg ⟨kd, oa, ma, ca, xa, ya, hkk, rfl, htx, mm, qq, kk⟩; have HG9 : Hid (Hg w w1 wg S U X (n + 10) n r.2 s c b0 o' c' 2) := HG8.out.next HWs.out mm qq kk; have HKd : Hid (kd = r.1.kind) := hkk.1; have HTg : Hid (Txs wg wp.heap.size (.slice oa ma ca) r.1.texts) := htx; have HTt : Hid (Txs wg bq (.slice vo us.length vc) L) := HTs.out.oth qq; clear cd hkk htx mm qq kk)
  clear z0 z1 z2 z3 z4 z5 z6 HG8 HTs
  have ka := (Kept.refl (fun _ => True) wg).alloc (.cells #[.int .i64 (kd : Nat), .slice oa ma ca, .int .i64 xa, .int .i64 ya, .slice none 0 0] 35)
  have HAn : Hid (AnX (wg.alloc (.cells #[.int .i64 (kd : Nat), .slice oa ma ca, .int .i64 xa, .int .i64 ya, .slice none 0 0] 35)) wg.heap.size kd oa ma ca xa ya r.1.texts wp.heap.size) := ⟨heap_alloc_new wg (.cells #[.int .i64 (kd : Nat), .slice oa ma ca, .int .i64 xa, .int .i64 ya, .slice none 0 0] 35), HTg.out.kept ka (fun _ _ => trivial)⟩
  have HGa : Hid (Hg w w1 _ S U X (n + 10) n r.2 s c b0 o' c' 2) := HG9.out.all ka
  have HTu : Hid (Txs _ bq (.slice vo us.length vc) L) := HTt.out.kept ka (fun _ _ => trivial)
  clear ka HTg HG9 HTt
  generalize wg.alloc (.cells #[.int .i64 (kd : Nat), .slice oa ma ca, .int .i64 xa, .int .i64 ya, .slice none 0 0] 35) = wh at *
  generalize wg.heap.size = A at *
  generalize wp.heap.size = ba at *
  have csh := shots_any HRT.out HGa.out.tw.left (by omega)
  go_upto_region 18 with (first
    | (go_at_call 35; refine Calls.mono csh ?_; rintro e wt ⟨v2, us2, rfl, q1, q2, q3, q4, q5⟩; have hus : us2 = us := rises_unique us2 us q1 HRi.out (fun y => by rw [q2 y, HMe.out y, HRc.out]); have hL2 : us2.map (fun y => shotP rt y (caseP r.2 y)) = L := (by rw [hus, HLe.out]; unfold caseP; rw [HRc.out]); rw [hL2] at q4; obtain ⟨v3, c3', rfl, _, _⟩ := q4.shape; have HKt : Hid (Kept (fun _ => True) wh wt) := q5; have cx := texts_yesK (HTu.out.kept q5 (fun _ _ => trivial)) q4 HLl.out; clear csh q1 q2 q3 q4 q5 hus hL2)
    | (go_at_call 36; refine Calls.mono cx ?_; rintro e wu ⟨rfl, k9⟩; have HKu : Hid (Kept (fun _ => True) wt wu) := k9; clear cx k9))
  have HGb : Hid (Hg w w1 wu S U X (n + 10) n r.2 s c b0 o' c' 2) := HGa.out.all (HKt.out.trans HKu.out)
  have HAb : Hid (AnX wu A kd oa ma ca xa ya r.1.texts ba) := HAn.out.all (HKt.out.trans HKu.out)
  have HTv : Hid (Txs wu bq (.slice vo us.length vc) L) := HTu.out.kept (HKt.out.trans HKu.out) (fun _ _ => trivial)
  clear HGa HAn HTu HKt HKu
  have z1 := (seven_cell HGb.out.box).2.1
  go_upto_region 19 with fail
  clear z1
  have HE : Hid _ := heap_alloc_new wu (.cells #[.int .i64 4, .string ⟨(tameP c).tx.toArray⟩, .slice none 0 0, .slice none 0 0, .int .i64 0, .int .i64 0, .slice none 0 0] 40)
  have HKm : Hid (Kept (fun _ => True) wu (wu.alloc (.cells #[.int .i64 4, .string ⟨(tameP c).tx.toArray⟩, .slice none 0 0, .slice none 0 0, .int .i64 0, .int .i64 0, .slice none 0 0] 40))) := (Kept.refl _ _).alloc _
  generalize wu.alloc (.cells #[.int .i64 4, .string ⟨(tameP c).tx.toArray⟩, .slice none 0 0, .slice none 0 0, .int .i64 0, .int .i64 0, .slice none 0 0] 40) = wm at *
  generalize hEe : wu.heap.size = E at HE ⊢
  have HE2 : Hid _ := HE.out
  have HKn : Hid _ := HKm.out
  clear HE HKm hEe
  generalize wm = wn at *
  have HGc : Hid (Hg w w1 wn S U X (n + 10) n r.2 s c b0 o' c' 2) := HGb.out.all HKn.out
  have HAc : Hid (AnX wn A kd oa ma ca xa ya r.1.texts ba) := HAb.out.all HKn.out
  have HTw : Hid (Txs wn bq (.slice vo us.length vc) L) := HTv.out.kept HKn.out (fun _ _ => trivial)
  clear HGb HAb HTv HKn
  obtain ⟨z0, z1, z2, z3, z4, z5, z6⟩ := seven_cell HE2.out
  have cd := do_end2 HGc.out.tw HGc.out.size 4 (tameP c).tx (.inr rfl) (by have : (tameP c).tx.length = 1 := txT_len _; omega) (by omega)
  obtain ⟨y, hy⟩ : ∃ y, y = doP r.2 (cmdE 4 (tameP c).tx) := ⟨_, rfl⟩
  have HYe : Hid (y = doP (prepareP s C).2 (cmdE 4 C.tx)) := by
    show y = _
    rw [hy, ← HRe.out, HCt.out]
  rw [← hy] at cd
  clear hy
  go_upto_region 22 with (go_at_call 13; refine Calls.mono cd ?_; rintro e wo ⟨kb, ob, mb, cb, xb, yb, hkk, rfl, htx, mm, qq, kk⟩; have HGd : Hid (Hg w w1 wo S U X (n + 10 + 10) n y.2 s c b0 o' c' 2) := HGc.out.next HWs.out mm qq kk; have HKb : Hid (kb = y.1.kind) := hkk.1; have HAd : Hid (AnX wo A kd oa ma ca xa ya r.1.texts ba) := HAc.out.oth qq; have HTx2 : Hid (Txs wo bq (.slice vo us.length vc) L) := HTw.out.oth qq; clear cd hkk htx mm qq kk)
  clear z0 z1 z2 z3 z4 z5 z6 HGc HAc HTw HE2
  have HBb : Hid _ := heap_alloc_new wo (.cells #[.int .i64 (kb : Nat), .slice ob mb cb, .int .i64 xb, .int .i64 yb, .slice none 0 0] 35)
  have ka := (Kept.refl (fun _ => True) wo).alloc (.cells #[.int .i64 (kb : Nat), .slice ob mb cb, .int .i64 xb, .int .i64 yb, .slice none 0 0] 35)
  have HGe : Hid (Hg w w1 _ S U X (n + 10 + 10) n y.2 s c b0 o' c' 2) := HGd.out.all ka
  have HAe : Hid (AnX _ A kd oa ma ca xa ya r.1.texts ba) := HAd.out.all ka
  have HTy : Hid (Txs _ bq (.slice vo us.length vc) L) := HTx2.out.kept ka (fun _ _ => trivial)
  clear ka HGd HAd HTx2
  generalize wo.alloc (.cells #[.int .i64 (kb : Nat), .slice ob mb cb, .int .i64 xb, .int .i64 yb, .slice none 0 0] 35) = wq at *
  generalize wo.heap.size = B at *
  have z0 := (seven_cell HGe.out.box).1
  have f0 := (seven_frozen HGe.out.box).1
  go_upto_region 23 with fail
  clear z0 f0
  have HGf : Hid (Hg w w1 (wq.setCell ⟨X, 0, none⟩ (.int .i64 1)) S U X (n + 10 + 10) n y.2 s c b0 o' c' 1) := HGe.out.kind HTb.out HXl.out 1
  have kX : Kept (· ≠ X) wq (wq.setCell ⟨X, 0, none⟩ (.int .i64 1)) := (Kept.refl _ _).setCell (by simp) _
  have hAX : ∀ {Q : Nat} {cs : Array Value} {fr : Nat × Nat}, wq.heap[Q]? = some (.cells cs 35 fr) → (wq.setCell ⟨X, 0, none⟩ (.int .i64 1)).heap[Q]? = some (.cells cs 35 fr) := fun {Q cs fr} hq => (kX.block Q (lt_of_block hq) (by
    rintro rfl
    have := HGe.out.box
    rw [hq] at this
    simp only [Option.some.injEq, Obj.cells.injEq] at this
    exact absurd this.2.1 (by decide))).trans hq
  have hTX : ∀ {bb : Nat} {v : Value} {ts : List (List UInt8)}, Txs wq bb v ts → Txs (wq.setCell ⟨X, 0, none⟩ (.int .i64 1)) bb v ts := fun {bb v ts} ht => ht.cmd ⟨_, _, _, _, _, _, _, _, _, _, _, _, _, HGe.out.box⟩ kX
  have HBf : Hid _ := hAX HBb.out
  have HAf : Hid (AnX _ A kd oa ma ca xa ya r.1.texts ba) := ⟨hAX HAe.out.box, hTX HAe.out.txs⟩
  have HTz : Hid (Txs _ bq (.slice vo us.length vc) L) := hTX HTy.out
  clear hAX hTX kX HGe HAe HTy HBb
  generalize wq.setCell ⟨X, 0, none⟩ (.int .i64 1) = wx at *
  have b0c := (five_free HBf.out).1.1
  have hfa := hid_abort HI.out C HTx.out
  rw [← HYe.out] at hfa
  obtain ⟨hyk, hyc, hyp⟩ := hfa
  have hb5 : kb = 5 := HKb.out.trans hyk
  have hb5i : ((kb : Int) == 5) = true := by rw [hb5]; rfl
  clear hb5 hyk
  have csh := shots_any HRT.out HGf.out.tw.left (by omega)
  have HYc : Hid (y.2.cs = s.cs) := hyc
  have HYp : Hid (y.2.ps = []) := hyp
  clear hyc hyp
  go_wp2_with (first
    | (go_at_call 35; refine Calls.mono csh ?_; rintro e wt ⟨v2, us2, rfl, q1, q2, q3, q4, q5⟩; have hus : us2 = us := rises_unique us2 us q1 HRi.out (fun z => by rw [q2 z, HMe.out z, HYc.out]); have hL2 : us2.map (fun z => shotP rt z (caseP y.2 z)) = L := (by rw [hus, HLe.out]; unfold caseP; rw [HYc.out]); rw [hL2] at q4; obtain ⟨v3, c3', rfl, _, _⟩ := q4.shape; have HKt : Hid (Kept (fun _ => True) wx wt) := q5; have cx := texts_yesK (HTz.out.kept q5 (fun _ _ => trivial)) q4 HLl.out; clear csh q1 q2 q3 q4 q5 hus hL2)
    | (go_at_call 36; refine Calls.mono cx ?_; rintro e wu ⟨rfl, k9⟩; have HKu : Hid (Kept (fun _ => True) wt wu) := k9; have cp := prepared_none (HGf.out.tw.left.all (HKt.out.trans k9)) HYp.out (by omega); clear cx k9)
    | (go_at_call 37; refine Calls.mono cp ?_; rintro e wv ⟨o6, c6, rfl, k9⟩; have HKv : Hid (Kept (fun _ => True) wu wv) := k9; have ck := knownS_any (HGf.out.tw.left.all ((HKt.out.trans HKu.out).trans k9)).tab; clear cp k9)
    | (go_at_call 18; refine Calls.mono ck ?_; rintro e wy ⟨rfl, k9⟩; have HKy : Hid (Kept (fun _ => True) wv wy) := k9; clear ck k9))
  go_ret
  exact ⟨rfl, HGf.out.kept.trans (((HKt.out.trans HKu.out).trans HKv.out).trans HKy.out)⟩

set_option maxRecDepth 100000 in
set_option maxHeartbeats 16000000 in
theorem hidden_true {w : World} (hTab : Tab w) {lo : Option Addr} {lc : Nat} {cs : List Cm} (hl : Cms w (.slice lo cs.length lc) cs) {po : Option Addr} {pc : Nat} {os : List Oq} (ho : Ow w (.slice po os.length pc) os) (hnm : ∀ o ∈ os, o.name.length ≤ 9223372036854775807) :
    Calls Tryz.prog 8 #[.slice lo cs.length lc, .slice po os.length pc, .bool true] w fun e w' => e = .returned (.bool true) ∧ Kept (fun _ => True) w w' := by
  have HTb : Hid (Tab w) := hTab
  have HCs : Hid (Cms w (.slice lo cs.length lc) cs) := hl
  have HO : Hid (Ow w (.slice po os.length pc) os) := ho
  have HN : Hid (∀ o ∈ os, o.name.length ≤ 9223372036854775807) := hnm
  have ct := typesT_any (w := w)
  clear hTab hl ho hnm
  go_enter Tryz.func8, Tryz.ntmps8
  go_upto_region 2 with (first
    | (go_at_call 10; refine Calls.mono ct ?_; rintro e w1 ⟨g, rfl, hty, k1⟩; have HK1 : Hid (Kept (fun _ => True) w w1) := k1; have cf := fresh_any hty (fun ao n cap h => by cases h; exact Nat.le_refl _) book_ok book_sz; clear ct hty k1)
    | (go_at_call 9; refine Calls.mono cf ?_; rintro e w2 ⟨a, tv', h, R, rfl, md, r1, r2, r3, r4⟩; have HD1 : Hid (Made w1 w2 a 0 tv' h (newS bookTs 0 256)) := md; clear cf md r1 r2 r3 r4))
  have ct := typesT_any (w := w2)
  go_upto_region 3 with (first
    | (go_at_call 10; refine Calls.mono ct ?_; rintro e w3 ⟨g2, rfl, hty, k1⟩; have HK2 : Hid (Kept (fun _ => True) w2 w3) := k1; have cf := fresh_any hty (fun ao n cap h => by cases h; exact Nat.le_refl _) book_ok book_sz; clear ct hty k1)
    | (go_at_call 9; refine Calls.mono cf ?_; rintro e w4 ⟨a2, tv2, h2, R2, rfl, md, r1, r2, r3, r4⟩; have HM : Hid (Twn w1 w4 a.S a2.S 0 0 kn0 kn0) := Twn.made HD1.out HK2.out md book_ok (HTb.out.all HK1.out); have HL0 : Hid (Kept (fun k => k < w1.heap.size) w1 w4) := ((HD1.out.kept.trans HK2.out).trans md.kept).mono (fun _ _ _ => trivial); clear cf md r1 r2 r3 r4))
  clear HD1 HK2
  generalize a.S = S at *
  generalize a2.S = U at *
  clear a tv' h a2 tv2 h2
  go_upto_block 0 with fail
  go_cut [13, 14] from 39 to 60 (fun _ _ wx => LpD2 w1 wx S U 300)
  case first =>
    go_wp2_with fail
    go_loopw [13] (fun ti wr => LpI2 w1 wr S U cs.length 30 ti) (fun ti _ => 30 - (intOf ti).toNat)
    case atStart => exact ⟨0, 0, kn0, Nat.zero_le _, Nat.zero_le _, rfl, rfl, HM.out, Idle.start _ _ _, HL0.out⟩
    case round =>
      obtain ⟨i, n, s, hi, hi2, rfl, hn, hm, hid, hk⟩ := hrel
      have HMr : Hid (Twn w1 wr S U n n s s) := hm
      have HI : Hid (Idle s) := hid
      have HK : Hid (Kept (fun k => k < w1.heap.size) w1 wr) := hk
      clear hm hid hk HM HL0
      by_cases hlt : i < cs.length
      · have i1 : (i : Int) < (cs.length : Int) := by omega
        have i0 : (0 : Int) ≤ (i : Int) := by omega
        by_cases h20 : i < 30
        · have i2 : (i : Int) < 30 := by omega
          obtain ⟨b', off, p1, m1, d1, p2, m2, d2, p3, m3, d3, rfl, q0, q1, q2, q3, q4, q5, q6, hin⟩ := HCs.out.at (HK1.out.low HK.out) i hlt
          generalize cs[i] = x at *
          have ct := tame_any hin.ops hin.at' hin.data hin.tx hin.names
          unfold cmdV at ct
          clear hin
          go_upto_region 9 with (go_at_call 23; refine Calls.mono ct ?_; rintro e v5 ⟨o', c', rfl, own, k5⟩; have HOw : Hid (TmO v5 wr.heap.size o' c' x) := own; have HK5 : Hid (Kept (fun _ => True) wr v5) := k5; clear ct own k5)
          clear q0 q1 q2 q3 q4 q5 q6
          have HV : Hid _ := heap_alloc_new v5 (.cells #[.int .i64 (tameP x).kind, .string ⟨(tameP x).tx.toArray⟩, .slice o' (tameL x.ops).length c', .slice none 0 0, .int .i64 x.lo, .int .i64 x.hi, .slice none 0 0] 40)
          have HKv : Hid _ := HK5.out.alloc (.cells #[.int .i64 (tameP x).kind, .string ⟨(tameP x).tx.toArray⟩, .slice o' (tameL x.ops).length c', .slice none 0 0, .int .i64 x.lo, .int .i64 x.hi, .slice none 0 0] 40)
          have HKw : Hid (Kept (fun _ => True) v5 (v5.alloc (.cells #[.int .i64 (tameP x).kind, .string ⟨(tameP x).tx.toArray⟩, .slice o' (tameL x.ops).length c', .slice none 0 0, .int .i64 x.lo, .int .i64 x.hi, .slice none 0 0] 40))) := (Kept.refl _ _).alloc _
          generalize v5.alloc (.cells #[.int .i64 (tameP x).kind, .string ⟨(tameP x).tx.toArray⟩, .slice o' (tameL x.ops).length c', .slice none 0 0, .int .i64 x.lo, .int .i64 x.hi, .slice none 0 0] 40) = w6 at *
          generalize hV : v5.heap.size = V at HV ⊢
          have z0 := (seven_cell HV.out).1
          have f0 := (seven_frozen HV.out).1
          go_upto_region 10 with fail
          clear z0 f0
          have HV7 : Hid _ := set7_0 HV.out (.int .i64 1)
          have HK7 : Hid _ := HKv.out.setNew (ad := ⟨V, 0, none⟩) (by rw [← hV]; exact HK5.out.size) (.int .i64 1)
          have HK8 : Hid _ := HKw.out.setNew (ad := ⟨V, 0, none⟩) (by rw [← hV]; exact Nat.le_refl _) (.int .i64 1)
          clear HV HKv HKw hV HK5
          generalize w6.setCell ⟨V, 0, none⟩ (.int .i64 1) = w7 at *
          have HO7 : Hid (TmO w7 wr.heap.size o' c' x) := HOw.out.all HK8.out
          have HS7 : Hid (w1.heap.size ≤ w7.heap.size) := Nat.le_trans HK.out.size HK7.out.size
          obtain ⟨z0, z1, z2, z3, z4, z5, z6⟩ := seven_cell HV7.out
          have cd := do_tame2 (HMr.out.all HK7.out) HS7.out HO7.out 1 (.inl rfl) (by omega)
          go_upto_region 11 with (go_at_call 13; refine Calls.mono cd ?_; rintro e w8 ⟨ka, oa, ma, ca, xa, ya, hkk, rfl, htx, mm, qq, kk⟩; have HM8 : Hid (Twn w1 w8 S U (n + 10) n (doP s { tameP x with kind := 1 }).2 s) := mm; have HKk : Hid (Kept (fun k => k < w1.heap.size) w7 w8) := kk; have HV8 : Hid _ := qq.block HV7.out (by decide); have HO8 : Hid (TmO w8 wr.heap.size o' c' x) := HO7.out.oth qq; clear cd hkk htx mm qq kk)
          clear z0 z1 z2 z3 z4 z5 z6
          obtain ⟨z0, z1, z2, z3, z4, z5, z6⟩ := seven_cell HV8.out
          have cd := do_tame2 HM8.out.swap (Nat.le_trans HS7.out HKk.out.size) HO8.out 1 (.inl rfl) (by omega)
          go_wp2_with (go_at_call 13; refine Calls.mono cd ?_; rintro e w9 ⟨kb, ob, mb, cb, xb, yb, hkk, rfl, htx, mm, qq, kk⟩; have HM9 : Hid (Twn w1 w9 S U (n + 10) (n + 10) (doP s { tameP x with kind := 1 }).2 (doP s { tameP x with kind := 1 }).2) := mm.swap; have HKl : Hid (Kept (fun k => k < w1.heap.size) w8 w9) := kk; clear cd hkk htx mm qq kk)
          go_roundw
          case rel => exact ⟨i + 1, n + 10, _, by omega, by omega, by go_num, by omega, HM9.out, HI.out.once rfl, ((HK.out.trans (HK7.out.mono (fun _ _ _ => trivial))).trans HKk.out).trans HKl.out⟩
          case measure => simp [intOf]; omega
        · have i2 : ¬ (i : Int) < 30 := by omega
          go_wp2_with fail
          go_meet
          exact ⟨n, s, by omega, HMr.out, HI.out, HK.out⟩
      · have i1 : ¬ (i : Int) < (cs.length : Int) := by omega
        go_wp2_with fail
        go_meet
        exact ⟨n, s, by omega, HMr.out, HI.out, HK.out⟩
  case rest =>
  obtain ⟨n, s, hn, hm, hid, hk⟩ := hcut
  have HMr : Hid (Twn w1 wc S U n n s s) := hm
  have HI : Hid (Idle s) := hid
  have HK : Hid (Kept (fun k => k < w1.heap.size) w1 wc) := hk
  have HKw : Hid (Kept (fun _ => True) w wc) := HK1.out.low hk
  have HWs : Hid (w.heap.size ≤ w1.heap.size) := HK1.out.size
  clear hm hid hk HM HL0
  obtain ⟨c, hce⟩ : ∃ c : Cm, c = ⟨2, [], os, [], 0, 0, []⟩ := ⟨_, rfl⟩
  have ct := tame_any (c := ⟨2, [], os, [], 0, 0, []⟩) (HO.out.all HKw.out) ⟨none, 0, 0, rfl⟩ ⟨none, 0, 0, rfl⟩ (by simp) HN.out
  rw [← hce] at ct
  have hc0 : cmdV c (.slice po os.length pc) (.slice none 0 0) (.slice none 0 0) = .agg #[.int .i64 2, .string ⟨#[]⟩, .slice po os.length pc, .slice none 0 0, .int .i64 0, .int .i64 0, .slice none 0 0] := by rw [hce]; rfl
  rw [hc0] at ct
  clear hc0 hce HO HN HCs
  go_upto_region 13 with (go_at_call 23; refine Calls.mono ct ?_; rintro e v5 ⟨o', c', rfl, own, k5⟩; have HOw : Hid (TmO v5 wc.heap.size o' c' c) := own; have HK5 : Hid (Kept (fun _ => True) wc v5) := k5; clear ct own k5)
  have HV : Hid _ := heap_alloc_new v5 (.cells #[.int .i64 (tameP c).kind, .string ⟨(tameP c).tx.toArray⟩, .slice o' (tameL c.ops).length c', .slice none 0 0, .int .i64 c.lo, .int .i64 c.hi, .slice none 0 0] 40)
  have HKv : Hid (Kept (fun _ => True) v5 (v5.alloc (.cells #[.int .i64 (tameP c).kind, .string ⟨(tameP c).tx.toArray⟩, .slice o' (tameL c.ops).length c', .slice none 0 0, .int .i64 c.lo, .int .i64 c.hi, .slice none 0 0] 40))) := (Kept.refl _ _).alloc _
  have HXl : Hid (w.heap.size ≤ v5.heap.size) := Nat.le_trans HKw.out.size HK5.out.size
  generalize v5.alloc (.cells #[.int .i64 (tameP c).kind, .string ⟨(tameP c).tx.toArray⟩, .slice o' (tameL c.ops).length c', .slice none 0 0, .int .i64 c.lo, .int .i64 c.hi, .slice none 0 0] 40) = w6 at *
  generalize v5.heap.size = X at HV HXl ⊢
  have HG6 : Hid (Hg w w1 w6 S U X n n s s c wc.heap.size o' c' (tameP c).kind) := ⟨HMr.out.all (HK5.out.trans HKv.out), HV.out, HOw.out.all HKv.out, (HKw.out.trans HK5.out).trans HKv.out, Nat.le_trans HK.out.size (HK5.out.trans HKv.out).size⟩
  generalize wc.heap.size = b0 at *
  clear HV HKv HK5 HOw HMr HKw HK HK1
  have z0 := (seven_cell HG6.out.box).1
  have f0 := (seven_frozen HG6.out.box).1
  go_upto_region 14 with fail
  clear z0 f0
  have HG7 : Hid (Hg w w1 (w6.setCell ⟨X, 0, none⟩ (.int .i64 2)) S U X n n s s c b0 o' c' 2) := HG6.out.kind HTb.out HXl.out 2
  clear HG6
  generalize w6.setCell ⟨X, 0, none⟩ (.int .i64 2) = w7 at *
  obtain ⟨rt, hrt⟩ := rt_some
  have HRT : Hid (IsRt rt) := hrt
  clear hrt
  have csh := shots_any HRT.out HG7.out.tw.left (by omega)
  go_upto_region 15 with (go_at_call 35; refine Calls.mono csh ?_; rintro e wp ⟨v, us, rfl, q1, q2, q3, q4, q5⟩; obtain ⟨vo, vc, rfl, _, _⟩ := q4.shape; rw [List.length_map] at q4; have HRi : Hid (Rises us) := q1; have HMe : Hid (∀ y, y ∈ us ↔ look s.cs y ≠ none) := q2; have HUl : Hid (us.length ≤ n) := q3; have HTs : Hid (Txs wp w7.heap.size (.slice vo us.length vc) (us.map (fun y => shotP rt y (caseP s y)))) := q4; have HG8 : Hid (Hg w w1 wp S U X n n s s c b0 o' c' 2) := HG7.out.all q5; clear csh q1 q2 q3 q4 q5)
  clear HG7
  obtain ⟨L, hL⟩ : ∃ L, L = us.map (fun y => shotP rt y (caseP s y)) := ⟨_, rfl⟩
  have HLe : Hid (L = us.map (fun y => shotP rt y (caseP s y))) := hL
  have HLl : Hid (L.length ≤ 1000000) := by
    show L.length ≤ 1000000
    have := HUl.out
    rw [hL, List.length_map]
    omega
  rw [← hL] at HTs
  clear hL HUl
  generalize w7.heap.size = bq at *
  obtain ⟨C, hC⟩ : ∃ C, C = { tameP c with kind := 2 } := ⟨_, rfl⟩
  have HDp : Hid (∀ s, doP s C = prepareP s C) := fun s => do_prepare (by rw [hC]; exact tame_formed c (.inr (.inl rfl))) (by rw [hC])
  have HCt : Hid (C.tx = (tameP c).tx) := by
    show C.tx = _
    rw [hC]
  have HCo : Hid (C.ops = tameL c.ops) := by
    show C.ops = _
    rw [hC]
    rfl
  have HTx : Hid (C.tx ≠ []) := fun e => by
    have : (tameP c).tx.length = 1 := txT_len _
    rw [← HCt.out, e] at this
    cases this
  obtain ⟨r, hr⟩ : ∃ r, r = prepareP s C := ⟨_, rfl⟩
  have HRe : Hid (r = prepareP s C) := hr
  have HRc : Hid (r.2.cs = s.cs) := by
    show r.2.cs = s.cs
    rw [hr]
    exact prep_cases HI.out C
  obtain ⟨z0, z1, z2, z3, z4, z5, z6⟩ := seven_cell HG8.out.box
  have cd := do_tame2 HG8.out.tw HG8.out.size HG8.out.ops 2 (.inr (.inl rfl)) (by omega)
  rw [← hC, HDp.out, ← hr] at cd
  clear hC hr
  go_upto_region 16 with (go_at_call 13; refine Calls.mono cd ?_; rintro e wg ⟨kd, oa, ma, ca, xa, ya, hkk, rfl, htx, mm, qq, kk⟩; have HG9 : Hid (Hg w w1 wg S U X (n + 10) n r.2 s c b0 o' c' 2) := HG8.out.next HWs.out mm qq kk; have HKd : Hid (kd = r.1.kind) := hkk.1; have HTg : Hid (Txs wg wp.heap.size (.slice oa ma ca) r.1.texts) := htx; have HTt : Hid (Txs wg bq (.slice vo us.length vc) L) := HTs.out.oth qq; clear cd hkk htx mm qq kk)
  clear z0 z1 z2 z3 z4 z5 z6 HG8 HTs
  have ka := (Kept.refl (fun _ => True) wg).alloc (.cells #[.int .i64 (kd : Nat), .slice oa ma ca, .int .i64 xa, .int .i64 ya, .slice none 0 0] 35)
  have HAn : Hid (AnX (wg.alloc (.cells #[.int .i64 (kd : Nat), .slice oa ma ca, .int .i64 xa, .int .i64 ya, .slice none 0 0] 35)) wg.heap.size kd oa ma ca xa ya r.1.texts wp.heap.size) := ⟨heap_alloc_new wg (.cells #[.int .i64 (kd : Nat), .slice oa ma ca, .int .i64 xa, .int .i64 ya, .slice none 0 0] 35), HTg.out.kept ka (fun _ _ => trivial)⟩
  have HGa : Hid (Hg w w1 _ S U X (n + 10) n r.2 s c b0 o' c' 2) := HG9.out.all ka
  have HTu : Hid (Txs _ bq (.slice vo us.length vc) L) := HTt.out.kept ka (fun _ _ => trivial)
  clear ka HTg HG9 HTt
  generalize wg.alloc (.cells #[.int .i64 (kd : Nat), .slice oa ma ca, .int .i64 xa, .int .i64 ya, .slice none 0 0] 35) = wh at *
  generalize wg.heap.size = A at *
  generalize wp.heap.size = ba at *
  have csh := shots_any HRT.out HGa.out.tw.left (by omega)
  go_upto_region 18 with (first
    | (go_at_call 35; refine Calls.mono csh ?_; rintro e wt ⟨v2, us2, rfl, q1, q2, q3, q4, q5⟩; have hus : us2 = us := rises_unique us2 us q1 HRi.out (fun y => by rw [q2 y, HMe.out y, HRc.out]); have hL2 : us2.map (fun y => shotP rt y (caseP r.2 y)) = L := (by rw [hus, HLe.out]; unfold caseP; rw [HRc.out]); rw [hL2] at q4; obtain ⟨v3, c3', rfl, _, _⟩ := q4.shape; have HKt : Hid (Kept (fun _ => True) wh wt) := q5; have cx := texts_yesK (HTu.out.kept q5 (fun _ _ => trivial)) q4 HLl.out; clear csh q1 q2 q3 q4 q5 hus hL2)
    | (go_at_call 36; refine Calls.mono cx ?_; rintro e wu ⟨rfl, k9⟩; have HKu : Hid (Kept (fun _ => True) wt wu) := k9; clear cx k9))
  have HGb : Hid (Hg w w1 wu S U X (n + 10) n r.2 s c b0 o' c' 2) := HGa.out.all (HKt.out.trans HKu.out)
  have HAb : Hid (AnX wu A kd oa ma ca xa ya r.1.texts ba) := HAn.out.all (HKt.out.trans HKu.out)
  have HTv : Hid (Txs wu bq (.slice vo us.length vc) L) := HTu.out.kept (HKt.out.trans HKu.out) (fun _ _ => trivial)
  clear HGa HAn HTu HKt HKu
  have z1 := (seven_cell HGb.out.box).2.1
  go_upto_region 19 with fail
  clear z1
  have HE : Hid _ := heap_alloc_new wu (.cells #[.int .i64 4, .string ⟨(tameP c).tx.toArray⟩, .slice none 0 0, .slice none 0 0, .int .i64 0, .int .i64 0, .slice none 0 0] 40)
  have HKm : Hid (Kept (fun _ => True) wu (wu.alloc (.cells #[.int .i64 4, .string ⟨(tameP c).tx.toArray⟩, .slice none 0 0, .slice none 0 0, .int .i64 0, .int .i64 0, .slice none 0 0] 40))) := (Kept.refl _ _).alloc _
  generalize wu.alloc (.cells #[.int .i64 4, .string ⟨(tameP c).tx.toArray⟩, .slice none 0 0, .slice none 0 0, .int .i64 0, .int .i64 0, .slice none 0 0] 40) = wm at *
  generalize hEe : wu.heap.size = E at HE ⊢
  have z0 := (seven_cell HE.out).1
  have f0 := (seven_frozen HE.out).1
  go_upto_region 21 with fail
  clear z0 f0
  have HE2 : Hid _ := set7_0 HE.out (.int .i64 3)
  have HKn : Hid _ := HKm.out.setNew (ad := ⟨E, 0, none⟩) (by rw [← hEe]; exact Nat.le_refl _) (.int .i64 3)
  clear HE HKm hEe
  generalize wm.setCell ⟨E, 0, none⟩ (.int .i64 3) = wn at *
  have HGc : Hid (Hg w w1 wn S U X (n + 10) n r.2 s c b0 o' c' 2) := HGb.out.all HKn.out
  have HAc : Hid (AnX wn A kd oa ma ca xa ya r.1.texts ba) := HAb.out.all HKn.out
  have HTw : Hid (Txs wn bq (.slice vo us.length vc) L) := HTv.out.kept HKn.out (fun _ _ => trivial)
  clear HGb HAb HTv HKn
  obtain ⟨z0, z1, z2, z3, z4, z5, z6⟩ := seven_cell HE2.out
  have cd := do_end2 HGc.out.tw HGc.out.size 3 (tameP c).tx (.inl rfl) (by have : (tameP c).tx.length = 1 := txT_len _; omega) (by omega)
  obtain ⟨y, hy⟩ : ∃ y, y = doP r.2 (cmdE 3 (tameP c).tx) := ⟨_, rfl⟩
  have HYe : Hid (y = doP (prepareP s C).2 (cmdE 3 C.tx)) := by
    show y = _
    rw [hy, ← HRe.out, HCt.out]
  rw [← hy] at cd
  clear hy
  go_upto_region 22 with (go_at_call 13; refine Calls.mono cd ?_; rintro e wo ⟨kb, ob, mb, cb, xb, yb, hkk, rfl, htx, mm, qq, kk⟩; have HGd : Hid (Hg w w1 wo S U X (n + 10 + 10) n y.2 s c b0 o' c' 2) := HGc.out.next HWs.out mm qq kk; have HKb : Hid (kb = y.1.kind) := hkk.1; have HAd : Hid (AnX wo A kd oa ma ca xa ya r.1.texts ba) := HAc.out.oth qq; have HTx2 : Hid (Txs wo bq (.slice vo us.length vc) L) := HTw.out.oth qq; clear cd hkk htx mm qq kk)
  clear z0 z1 z2 z3 z4 z5 z6 HGc HAc HTw HE2
  have HBb : Hid _ := heap_alloc_new wo (.cells #[.int .i64 (kb : Nat), .slice ob mb cb, .int .i64 xb, .int .i64 yb, .slice none 0 0] 35)
  have ka := (Kept.refl (fun _ => True) wo).alloc (.cells #[.int .i64 (kb : Nat), .slice ob mb cb, .int .i64 xb, .int .i64 yb, .slice none 0 0] 35)
  have HGe : Hid (Hg w w1 _ S U X (n + 10 + 10) n y.2 s c b0 o' c' 2) := HGd.out.all ka
  have HAe : Hid (AnX _ A kd oa ma ca xa ya r.1.texts ba) := HAd.out.all ka
  have HTy : Hid (Txs _ bq (.slice vo us.length vc) L) := HTx2.out.kept ka (fun _ _ => trivial)
  clear ka HGd HAd HTx2
  generalize wo.alloc (.cells #[.int .i64 (kb : Nat), .slice ob mb cb, .int .i64 xb, .int .i64 yb, .slice none 0 0] 35) = wq at *
  generalize wo.heap.size = B at *
  have z0 := (seven_cell HGe.out.box).1
  have f0 := (seven_frozen HGe.out.box).1
  go_upto_region 23 with fail
  clear z0 f0
  have HGf : Hid (Hg w w1 (wq.setCell ⟨X, 0, none⟩ (.int .i64 1)) S U X (n + 10 + 10) n y.2 s c b0 o' c' 1) := HGe.out.kind HTb.out HXl.out 1
  have kX : Kept (· ≠ X) wq (wq.setCell ⟨X, 0, none⟩ (.int .i64 1)) := (Kept.refl _ _).setCell (by simp) _
  have hAX : ∀ {Q : Nat} {cs : Array Value} {fr : Nat × Nat}, wq.heap[Q]? = some (.cells cs 35 fr) → (wq.setCell ⟨X, 0, none⟩ (.int .i64 1)).heap[Q]? = some (.cells cs 35 fr) := fun {Q cs fr} hq => (kX.block Q (lt_of_block hq) (by
    rintro rfl
    have := HGe.out.box
    rw [hq] at this
    simp only [Option.some.injEq, Obj.cells.injEq] at this
    exact absurd this.2.1 (by decide))).trans hq
  have hTX : ∀ {bb : Nat} {v : Value} {ts : List (List UInt8)}, Txs wq bb v ts → Txs (wq.setCell ⟨X, 0, none⟩ (.int .i64 1)) bb v ts := fun {bb v ts} ht => ht.cmd ⟨_, _, _, _, _, _, _, _, _, _, _, _, _, HGe.out.box⟩ kX
  have HBf : Hid _ := hAX HBb.out
  have HAf : Hid (AnX _ A kd oa ma ca xa ya r.1.texts ba) := ⟨hAX HAe.out.box, hTX HAe.out.txs⟩
  have HTz : Hid (Txs _ bq (.slice vo us.length vc) L) := hTX HTy.out
  clear hAX hTX kX HGe HAe HTy HBb
  generalize wq.setCell ⟨X, 0, none⟩ (.int .i64 1) = wx at *
  have b0c := (five_free HBf.out).1.1
  have a0c := (five_free HAf.out.box).1.1
  by_cases hk1 : kd = 1
  · have hk2 : ((kd : Int) == 1) = true := by rw [hk1]; rfl
    have hkp : (prepareP s C).1.kind = 1 := by rw [← HRe.out, ← HKd.out]; exact hk1
    obtain ⟨D, hD⟩ : ∃ D, D = { tameP c with kind := 1 } := ⟨_, rfl⟩
    have hfd := hid_done HI.out C D HTx.out hkp (by rw [hD]; exact tame_formed c (.inl rfl)) (by rw [hD]) (by rw [HCo.out, hD]; rfl)
    rw [← HYe.out, ← HRe.out] at hfd
    have htl : r.1.texts.length ≤ 1000000 := by
      have h1 := prep_texts HI.out hkp
      rw [← HRe.out, HCo.out] at h1
      have h2 := (tameL_len c.ops).2
      omega
    obtain ⟨hy1, hy2, hy3, hy4⟩ := hfd
    have hb5i : ((kb : Int) == 5) = true := by rw [HKb.out, hy1]; rfl
    have HTl : Hid (r.1.texts.length ≤ 1000000) := htl
    obtain ⟨z0, z1, z2, z3, z4, z5, z6⟩ := seven_cell HGf.out.box
    have cd := do_tame2 HGf.out.tw.swap HGf.out.size HGf.out.ops 1 (.inl rfl) (by omega)
    obtain ⟨d, hd⟩ : ∃ d, d = doP s D := ⟨_, rfl⟩
    rw [← hD, ← hd] at cd
    rw [← hd] at hy2 hy3 hy4
    have HY3 : Hid (d.1.texts = r.1.texts) := hy3
    have HY4 : Hid (y.2.cs = d.2.cs) := hy4
    have HY2 : Hid (d.1.kind = 1) := hy2
    clear hk1 hkp hD htl hd hy1 hy2 hy3 hy4
    go_upto_region 25 with (go_at_call 13; refine Calls.mono cd ?_; rintro e wr ⟨ke, oe, me, ce, xe, ye, hkk, rfl, htx, mm, qq, kk⟩; have HGg : Hid (Hg w w1 wr S U X (n + 10 + 10) (n + 10) y.2 d.2 c b0 o' c' 1) := HGf.out.next HWs.out mm.swap qq kk; have HKe : Hid (ke = 1) := hkk.1.trans HY2.out; rw [HY3.out] at htx; have HTe : Hid (Txs wr wx.heap.size (.slice oe me ce) r.1.texts) := htx; have HAg : Hid (AnX wr A kd oa ma ca xa ya r.1.texts ba) := HAf.out.oth qq; have HBg : Hid _ := qq.block HBf.out (by decide); clear cd hkk htx mm qq kk)
    clear z0 z1 z2 z3 z4 z5 z6 HGf HAf HBf HTz b0c a0c
    have ka := (Kept.refl (fun _ => True) wr).alloc (.cells #[.int .i64 (ke : Nat), .slice oe me ce, .int .i64 xe, .int .i64 ye, .slice none 0 0] 35)
    have HDn : Hid (AnX (wr.alloc (.cells #[.int .i64 (ke : Nat), .slice oe me ce, .int .i64 xe, .int .i64 ye, .slice none 0 0] 35)) wr.heap.size ke oe me ce xe ye r.1.texts wx.heap.size) := ⟨heap_alloc_new wr (.cells #[.int .i64 (ke : Nat), .slice oe me ce, .int .i64 xe, .int .i64 ye, .slice none 0 0] 35), HTe.out.kept ka (fun _ _ => trivial)⟩
    have HGh : Hid (Hg w w1 _ S U X (n + 10 + 10) (n + 10) y.2 d.2 c b0 o' c' 1) := HGg.out.all ka
    have HAh : Hid (AnX _ A kd oa ma ca xa ya r.1.texts ba) := HAg.out.all ka
    have HBh : Hid _ := (ka.block _ (lt_of_block HBg.out) trivial).trans HBg.out
    clear ka HTe HGg HAg HBg
    generalize wr.alloc (.cells #[.int .i64 (ke : Nat), .slice oe me ce, .int .i64 xe, .int .i64 ye, .slice none 0 0] 35) = ws at *
    generalize wr.heap.size = Dd at *
    have b0c := (five_free HBh.out).1.1
    obtain ⟨a0, a1, _⟩ := (five_free HAh.out.box).1
    obtain ⟨d0, d1, _⟩ := (five_free HDn.out.box).1
    have hke : ((ke : Int) == 1) = true := by rw [HKe.out]; rfl
    have cx := texts_yesK HAh.out.txs HDn.out.txs HTl.out
    clear HBh
    go_wp2_with (first
      | (go_at_call 36; refine Calls.mono cx ?_; rintro e wt ⟨rfl, k9⟩; have HKt : Hid (Kept (fun _ => True) ws wt) := k9; have HGi : Hid (Hg w w1 wt S U X (n + 10 + 10) (n + 10) y.2 d.2 c b0 o' c' 1) := HGh.out.all k9; have csh := shots_any HRT.out HGi.out.tw.left (by omega); clear cx k9)
      | (go_at_call 35; refine Calls.mono csh ?_; rintro e wu ⟨v2, us2, rfl, q1, q2, q3, q4, q5⟩; obtain ⟨v3, c3', rfl, _, _⟩ := q4.shape; rw [List.length_map] at q4; have HKu : Hid (Kept (fun _ => True) wt wu) := q5; have HR2 : Hid (Rises us2) := q1; have HM2 : Hid (∀ z, z ∈ us2 ↔ look y.2.cs z ≠ none) := q2; have HU2 : Hid (us2.length ≤ n + 10 + 10) := q3; have HS2 : Hid (Txs wu wt.heap.size (.slice v3 us2.length c3') (us2.map (fun z => shotP rt z (caseP y.2 z)))) := q4; have csi := shots_any HRT.out (HGi.out.tw.right.all q5) (by omega); clear csh q1 q2 q3 q4 q5)
      | (go_at_call 35; refine Calls.mono csi ?_; rintro e wv ⟨v4, us3, rfl, q1, q2, q3, q4, q5⟩; have hus : us3 = us2 := rises_unique us3 us2 q1 HR2.out (fun z => by rw [q2 z, HM2.out z, HY4.out]); have hL2 : us3.map (fun z => shotP rt z (caseP d.2 z)) = us2.map (fun z => shotP rt z (caseP y.2 z)) := (by rw [hus]; unfold caseP; rw [HY4.out]); rw [hL2] at q4; obtain ⟨v5', c5', rfl, _, _⟩ := q4.shape; rw [List.length_map] at q4; have HKv : Hid (Kept (fun _ => True) wu wv) := q5; have cy := texts_yesK (HS2.out.kept q5 (fun _ _ => trivial)) q4 (by rw [List.length_map]; have := HU2.out; omega); clear csi q1 q2 q3 q4 q5 hus hL2)
      | (go_at_call 36; refine Calls.mono cy ?_; rintro e wz ⟨rfl, k9⟩; have HKz : Hid (Kept (fun _ => True) wv wz) := k9; have ck := knownS_any (HGi.out.tw.left.all ((HKu.out.trans HKv.out).trans k9)).tab; clear cy k9)
      | (go_at_call 18; refine Calls.mono ck ?_; rintro e wy ⟨rfl, k9⟩; have HKy : Hid (Kept (fun _ => True) wz wy) := k9; clear ck k9))
    go_ret
    exact ⟨rfl, HGi.out.kept.trans (((HKu.out.trans HKv.out).trans HKz.out).trans HKy.out)⟩
  · have hk2 : ((kd : Int) == 1) = false := by
      have : ¬ (kd : Int) = 1 := by omega
      simp [this]
    have hfn := hid_none HI.out C HTx.out (by rw [← HRe.out, ← HKd.out]; exact hk1)
    rw [← HYe.out] at hfn
    obtain ⟨hyk, hyc, hyp⟩ := hfn
    have hb5 : kb = 6 := HKb.out.trans hyk
    have hb5i : ((kb : Int) == 6) = true := by rw [hb5]; rfl
    clear hb5 hyk hk1
    have csh := shots_any HRT.out HGf.out.tw.left (by omega)
    have HYc : Hid (y.2.cs = s.cs) := hyc
    have HYp : Hid (y.2.ps = []) := hyp
    clear hyc hyp
    go_wp2_with (first
      | (go_at_call 35; refine Calls.mono csh ?_; rintro e wt ⟨v2, us2, rfl, q1, q2, q3, q4, q5⟩; have hus : us2 = us := rises_unique us2 us q1 HRi.out (fun z => by rw [q2 z, HMe.out z, HYc.out]); have hL2 : us2.map (fun z => shotP rt z (caseP y.2 z)) = L := (by rw [hus, HLe.out]; unfold caseP; rw [HYc.out]); rw [hL2] at q4; obtain ⟨v3, c3', rfl, _, _⟩ := q4.shape; have HKt : Hid (Kept (fun _ => True) wx wt) := q5; have cx := texts_yesK (HTz.out.kept q5 (fun _ _ => trivial)) q4 HLl.out; clear csh q1 q2 q3 q4 q5 hus hL2)
      | (go_at_call 36; refine Calls.mono cx ?_; rintro e wu ⟨rfl, k9⟩; have HKu : Hid (Kept (fun _ => True) wt wu) := k9; have cp := prepared_none (HGf.out.tw.left.all (HKt.out.trans k9)) HYp.out (by omega); clear cx k9)
      | (go_at_call 37; refine Calls.mono cp ?_; rintro e wv ⟨o6, c6, rfl, k9⟩; have HKv : Hid (Kept (fun _ => True) wu wv) := k9; have ck := knownS_any (HGf.out.tw.left.all ((HKt.out.trans HKu.out).trans k9)).tab; clear cp k9)
      | (go_at_call 18; refine Calls.mono ck ?_; rintro e wy ⟨rfl, k9⟩; have HKy : Hid (Kept (fun _ => True) wv wy) := k9; clear ck k9))
    go_ret
    exact ⟨rfl, HGf.out.kept.trans (((HKt.out.trans HKu.out).trans HKv.out).trans HKy.out)⟩

theorem shardHidden_any {w : World} (hTab : Tab w) {lo : Option Addr} {lc : Nat} {cs : List Cm} (hl : Cms w (.slice lo cs.length lc) cs) {po : Option Addr} {pc : Nat} {os : List Oq} (ho : Ow w (.slice po os.length pc) os) (hnm : ∀ o ∈ os, o.name.length ≤ 9223372036854775807) (b : Bool) :
    Calls Tryz.prog 8 #[.slice lo cs.length lc, .slice po os.length pc, .bool b] w fun e w' => e = .returned (.bool true) ∧ Kept (fun _ => True) w w' := by
  cases b with
  | true => exact hidden_true hTab hl ho hnm
  | false => exact hidden_false hTab hl ho hnm

end Go.Proofs.YtenejaghgehnoaaGreatDoor
