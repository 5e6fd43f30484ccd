/-
  Texts of the proofs, 6 of 6.
-/
import Derived.Test.YtjgpbnljodengaaGreatDoorZE
import Derived.Test.YtjgpbnljodengaaGreatDoorZA
import Derived.SizedLaws
import Derived.ProofKit
import Derived.OpenShut
import Derived.ChangeMaps5
import Derived.Below
import Derived.Test.YtjgpbnljodengaaGreatDoorZB
import Derived.Test.YtjgpbnljodengaaGreatDoorRows
import Derived.Deep.Slices
import Derived.Deep.Grids
import Derived.Lib.SmallJoins
import Derived.Lib.LaidTab
import Derived.Lay
import Derived.LaidHandle
import Derived.MakeChecks
import Derived.Stop.LaidErr
namespace Go.Proofs.YtjgpbnljodengaaGreatDoor
open Go.RowKit Go.Maps

set_option maxRecDepth 100000 in
set_option maxHeartbeats 16000000 in
theorem locked_true_true {w : World} (hTab : Tab w) (ask : Int) : Calls Tryz.prog 4 #[.bool true, .int .i64 ask, .bool true] w fun e w' => e = .returned (.bool true) ∧ Kept (fun _ => True) w w' := by
  have ct := typesT_any (w := w)
  have HTb : Hid (Tab w) := hTab
  clear hTab
  go_enter Tryz.func4, Tryz.ntmps4
  go_upto_region 2 with (first
    | (go_at_call 8; refine Calls.mono ct ?_; rintro e w1 ⟨g, rfl, hty, k1⟩; have HK1 : Hid (Kept (fun _ => True) w w1) := k1; have cf := fresh_any hty (fun ao n cap h => by cases h; exact Nat.le_refl _) book_ok book_sz; clear ct hty k1)
    | (go_at_call 7; refine Calls.mono cf ?_; rintro e w2 ⟨a, tv', h, R, rfl, md, r1, r2, r3, r4⟩; have HM : Hid (Shd w1 w2 a.S 0 kn0) := Shd.made md book_ok (HTb.out.all HK1.out); have HK2 : Hid (Kept (fun _ => True) w1 w2) := md.kept; clear cf md r1 r2 r3 r4))
  generalize a.S = S at *
  clear a tv' h
  have HL0 : Hid (Kept (fun k => k < w1.heap.size) w1 w2) := HK2.out.mono (fun _ _ _ => trivial)
  clear HK2
  have cc := createOp_any (w := w2) [97] [99, 111, 117, 110, 116]
  unfold opV at cc
  go_upto_region 5 with (first
    | (go_at_call 16; refine Calls.mono cc ?_; rintro e va ⟨rfl, k3⟩; have HKa : Hid (Kept (fun _ => True) w2 va) := k3; have cc2 := createOp_any (w := va) [98] [99, 111, 117, 110, 116]; unfold opV at cc2; clear cc k3)
    | (go_at_call 16; refine Calls.mono cc2 ?_; rintro e vb ⟨rfl, k3⟩; have HKb : Hid (Kept (fun _ => True) va vb) := k3; have HKc : Hid (Kept (fun _ => True) vb (vb.alloc (.cells #[.int .i64 1, .string ⟨#[97]⟩, .string ⟨#[99, 111, 117, 110, 116]⟩, .int .i64 0, .int .i64 1, .string ⟨#[98]⟩, .string ⟨#[99, 111, 117, 110, 116]⟩, .int .i64 0] 47))) := (Kept.refl _ vb).alloc _; have co := onceL_any (Ov.block (os := [⟨1, [97], [99, 111, 117, 110, 116], 0⟩, ⟨1, [98], [99, 111, 117, 110, 116], 0⟩]) (heap_alloc_new vb (.cells #[.int .i64 1, .string ⟨#[97]⟩, .string ⟨#[99, 111, 117, 110, 116]⟩, .int .i64 0, .int .i64 1, .string ⟨#[98]⟩, .string ⟨#[99, 111, 117, 110, 116]⟩, .int .i64 0] 47)) rfl (by simp) 2) (fun n k h => by cases h) (by simp); clear cc2 k3)
    | (go_at_call 15; refine Calls.mono co ?_; rintro e vc ⟨ov, rfl, hcm, k3⟩; have HKd : Hid (Kept (fun _ => True) w2 vc) := (HKa.out.trans HKb.out).trans (HKc.out.trans k3); have cd := (do_once (HM.out.all HKd.out) (Nat.le_trans HL0.out.size HKd.out.size) hcm (by simp) (by decide)).mono (fun e w' h => h.ex); clear co k3 hcm HKa HKb HKc)
    | (go_at_call 10; refine Calls.mono cd ?_; rintro e vd ⟨kd, o0, m0, c0, x0, y0, hkd, rfl, mm, qq, kk⟩; have HM1 : Hid (Shd w1 vd S 10 lk0) := mm; have HL1 : Hid (Kept (fun k => k < w1.heap.size) w1 vd) := (HL0.out.trans (HKd.out.mono (fun _ _ _ => trivial))).trans kk; clear cd hkd mm qq kk))
  clear HM HL0 HKd
  have cc := readOp_any (w := vd) [97]
  unfold opV at cc
  go_upto_region 6 with (first
    | (go_at_call 17; refine Calls.mono cc ?_; rintro e ve ⟨rfl, k3⟩; have HKa : Hid (Kept (fun _ => True) vd ve) := k3; clear cc k3))
  have HKn : Hid _ := HKa.out.alloc (.cells #[.int .i64 5, .string ⟨#[97]⟩, .string ⟨#[]⟩, .int .i64 0] 47)
  have HB : Hid _ := heap_alloc_new ve (.cells #[.int .i64 5, .string ⟨#[97]⟩, .string ⟨#[]⟩, .int .i64 0] 47)
  generalize ve.alloc (.cells #[.int .i64 5, .string ⟨#[97]⟩, .string ⟨#[]⟩, .int .i64 0] 47) = vf at *
  have HZ : Hid (vd.heap.size ≤ ve.heap.size) := HKa.out.size
  generalize ve.heap.size = D at *
  clear HKa
  have cc := addOp_any (w := vf) [97] [110] 1
  unfold opV at cc
  go_upto_region 8 with (first
    | (go_at_call 18; refine Calls.mono cc ?_; rintro e vg ⟨rfl, k3⟩; have HKg : Hid (Kept (fun _ => True) vf vg) := k3; have hz := (k3.block D (lt_of_block HB.out) trivial).trans HB.out; obtain ⟨⟨z0, z1, z2, z3⟩, f0, f1, f2, f3⟩ := four_cell hz; have HBg : Hid _ := hz; clear cc k3 hz))
  clear z0 z1 z2 z3 f0 f1 f2 f3
  have HB2 : Hid _ := put4_at HBg.out (.int .i64 3) (.string ⟨#[97]⟩) (.string ⟨#[110]⟩) (.int .i64 1)
  have HKn2 : Hid _ := put4_new (HKn.out.trans HKg.out) HZ.out (.int .i64 3) (.string ⟨#[97]⟩) (.string ⟨#[110]⟩) (.int .i64 1)
  clear HKn HKg HB HBg
  unfold put4 at HB2 HKn2
  generalize (((vg.setCell ⟨D, 0, none⟩ (.int .i64 3)).setCell ⟨D, 1, none⟩ (.string ⟨#[97]⟩)).setCell ⟨D, 2, none⟩ (.string ⟨#[110]⟩)).setCell ⟨D, 3, none⟩ (.int .i64 1) = vh at *
  have HM2 : Hid (Shd w1 vh S 10 lk0) := HM1.out.all HKn2.out
  have HL2 : Hid (Kept (fun k => k < w1.heap.size) w1 vh) := HL1.out.trans (HKn2.out.mono (fun _ _ _ => trivial))
  obtain ⟨⟨z0, z1, z2, z3⟩, f0, f1, f2, f3⟩ := four_cell HB2.out
  clear f0 f1 f2 f3 HB2 HKn2 HM1 HL1 HZ
  have cd := (do_one HM2.out HL2.out.size 2 [116] ⟨3, [97], [110], 1⟩ (.inr rfl) (by decide) (by decide) (by decide)).mono (fun e w' h => h.kind (k := 1) (lk_facts true 0 (by decide) false).1 (rfl : _ = (lkP true).2) rfl)
  go_upto_region 9 with (first
    | (go_at_call 10; refine Calls.mono cd ?_; rintro e vi ⟨o1, m1, c1, x1, y1, rfl, hh, mm, qq, kk⟩; have HM3 : Hid (Shd w1 vi S 20 (lkP true).2) := mm; have HL3 : Hid (Kept (fun k => k < w1.heap.size) w1 vi) := HL2.out.trans kk; clear cd hh mm qq kk))
  clear z0 z1 z2 z3 HM2 HL2
  have HP : Hid _ := heap_alloc_new vi (.cells #[.int .i64 1, .slice o1 m1 c1, .int .i64 x1, .int .i64 y1, .slice none 0 0] 38)
  have HKn : Hid _ := (Kept.refl (fun _ => True) vi).alloc (.cells #[.int .i64 1, .slice o1 m1 c1, .int .i64 x1, .int .i64 y1, .slice none 0 0] 38)
  generalize vi.alloc (.cells #[.int .i64 1, .slice o1 m1 c1, .int .i64 x1, .int .i64 y1, .slice none 0 0] 38) = vj at *
  generalize vi.heap.size = P1 at *
  have cc0 := readOp_any (w := vj) [97]
  unfold opV at cc0
  go_upto_region 10 with (first
    | (go_at_call 17; refine Calls.mono cc0 ?_; rintro e vk0 ⟨rfl, k3⟩; have HJ0 : Hid (Kept (fun _ => True) vi vk0) := HKn.out.trans k3; have HQ0 : Hid (Kept (fun _ => True) vj vk0) := k3; have cc1 := addOp_any (w := vk0) [97] [110] 2; unfold opV at cc1; clear cc0 k3)
    | (go_at_call 18; refine Calls.mono cc1 ?_; rintro e vk1 ⟨rfl, k3⟩; have HJ1 : Hid (Kept (fun _ => True) vi vk1) := HJ0.out.trans k3; have HQ1 : Hid (Kept (fun _ => True) vj vk1) := HQ0.out.trans k3; have cc2 := readOp_any (w := vk1) [98]; unfold opV at cc2; clear cc1 k3 HJ0 HQ0)
    | (go_at_call 17; refine Calls.mono cc2 ?_; rintro e vk2 ⟨rfl, k3⟩; have HJ2 : Hid (Kept (fun _ => True) vi vk2) := HJ1.out.trans k3; have HQ2 : Hid (Kept (fun _ => True) vj vk2) := HQ1.out.trans k3; have cc3 := addOp_any (w := vk2) [98] [110] 3; unfold opV at cc3; clear cc2 k3 HJ1 HQ1)
    | (go_at_call 18; refine Calls.mono cc3 ?_; rintro e vk3 ⟨rfl, k3⟩; have HJ3 : Hid (Kept (fun _ => True) vi vk3) := HJ2.out.trans k3; have HQ3 : Hid (Kept (fun _ => True) vj vk3) := HQ2.out.trans k3; have cc4 := createOp_any (w := vk3) [97] [99, 111, 117, 110, 116]; unfold opV at cc4; clear cc3 k3 HJ2 HQ2)
    | (go_at_call 16; refine Calls.mono cc4 ?_; rintro e vk4 ⟨rfl, k3⟩; have HJ4 : Hid (Kept (fun _ => True) vi vk4) := HJ3.out.trans k3; have HQ4 : Hid (Kept (fun _ => True) vj vk4) := HQ3.out.trans k3; clear cc4 k3 HJ3 HQ3))
  have HA : Hid _ := heap_alloc_new vk4 (.cells #[.int .i64 5, .string ⟨#[97]⟩, .string ⟨#[]⟩, .int .i64 0, .int .i64 3, .string ⟨#[97]⟩, .string ⟨#[110]⟩, .int .i64 2, .int .i64 5, .string ⟨#[98]⟩, .string ⟨#[]⟩, .int .i64 0, .int .i64 3, .string ⟨#[98]⟩, .string ⟨#[110]⟩, .int .i64 3, .int .i64 1, .string ⟨#[97]⟩, .string ⟨#[99, 111, 117, 110, 116]⟩, .int .i64 0] 47)
  have ka := (Kept.refl (fun _ => True) vk4).alloc (.cells #[.int .i64 5, .string ⟨#[97]⟩, .string ⟨#[]⟩, .int .i64 0, .int .i64 3, .string ⟨#[97]⟩, .string ⟨#[110]⟩, .int .i64 2, .int .i64 5, .string ⟨#[98]⟩, .string ⟨#[]⟩, .int .i64 0, .int .i64 3, .string ⟨#[98]⟩, .string ⟨#[110]⟩, .int .i64 3, .int .i64 1, .string ⟨#[97]⟩, .string ⟨#[99, 111, 117, 110, 116]⟩, .int .i64 0] 47)
  have HKm : Hid _ := HJ4.out.trans ka
  have HP2 : Hid _ := ((HQ4.out.trans ka).block _ (lt_of_block HP.out) trivial).trans HP.out
  clear ka HJ4 HQ4 HP HKn
  generalize vk4.alloc (.cells #[.int .i64 5, .string ⟨#[97]⟩, .string ⟨#[]⟩, .int .i64 0, .int .i64 3, .string ⟨#[97]⟩, .string ⟨#[110]⟩, .int .i64 2, .int .i64 5, .string ⟨#[98]⟩, .string ⟨#[]⟩, .int .i64 0, .int .i64 3, .string ⟨#[98]⟩, .string ⟨#[110]⟩, .int .i64 3, .int .i64 1, .string ⟨#[97]⟩, .string ⟨#[99, 111, 117, 110, 116]⟩, .int .i64 0] 47) = vm at *
  generalize vk4.heap.size = G at *
  have HM4 : Hid (Shd w1 vm S 20 (lkP true).2) := HM3.out.all HKm.out
  have HL4 : Hid (Kept (fun k => k < w1.heap.size) w1 vm) := HL3.out.trans (HKm.out.mono (fun _ _ _ => trivial))
  clear HM3 HL3 HKm
  have cw := wi_any (w := vm) ask 4 (by decide)
  have hk := wi_le ask 4
  generalize wi ask 4 = k at *
  go_upto_region 11 with (first
    | (go_at_call 11; refine Calls.mono cw ?_; rintro e vm ⟨rfl, rfl⟩; clear cw))
  have hk5 : k < lkAsks.length := by unfold lkAsks; simp only [List.length_cons, List.length_nil]; omega
  have HOv : Hid (Ov vm (.slice (some ⟨G, 0, none⟩) 5 5) lkAsks) := Ov.block (os := lkAsks) HA.out rfl (by unfold lkAsks; simp) 5
  have s0 : (0 : Int) ≤ (k : Int) := by omega
  have s1 : (k : Int) ≤ (k : Int) + 1 := by omega
  have s2 : (k : Int) + 1 ≤ 5 := by omega
  go_upto_region 12 with (first
    | (go_at_call 10; refine Calls.mono ((do_piece HM4.out HL4.out.size HOv.out hk5 _ (by simp) 2 [117] (.inr rfl) (lk_cas k hk5) (by decide) (by decide)).mono (fun e w' h => h.ex)) ?_; rintro e vn ⟨kq, o2, m2, c2, x2, y2, hkq, rfl, mm, qq, kk⟩; rw [lk_asks] at hkq mm; have HM5 : Hid (Shd w1 vn S 30 (lkQ true k).2) := mm; have HL5 : Hid (Kept (fun k => k < w1.heap.size) w1 vn) := HL4.out.trans kk; have HO5 : Hid (Oth vm vn) := qq; have HKq : Hid (kq = (lkQ true k).1.kind) := hkq; clear hkq mm qq kk))
  have HPn : Hid _ := HO5.out.block HP2.out (by decide)
  have HAn : Hid _ := HO5.out.block HA.out (by decide)
  have HQn : Hid _ := heap_alloc_new vn (.cells #[.int .i64 (kq : Nat), .slice o2 m2 c2, .int .i64 x2, .int .i64 y2, .slice none 0 0] 38)
  have HKn : Hid _ := (Kept.refl (fun _ => True) vn).alloc (.cells #[.int .i64 (kq : Nat), .slice o2 m2 c2, .int .i64 x2, .int .i64 y2, .slice none 0 0] 38)
  clear HP2 HA HO5 HOv HM4 HL4
  generalize vn.alloc (.cells #[.int .i64 (kq : Nat), .slice o2 m2 c2, .int .i64 x2, .int .i64 y2, .slice none 0 0] 38) = vo at *
  generalize vn.heap.size = P2 at *
  have HPo : Hid _ := (HKn.out.block _ (lt_of_block HPn.out) trivial).trans HPn.out
  have HAo : Hid _ := (HKn.out.block _ (lt_of_block HAn.out) trivial).trans HAn.out
  have HM6 : Hid (Shd w1 vo S 30 (lkQ true k).2) := HM5.out.all HKn.out
  have HL6 : Hid (Kept (fun k => k < w1.heap.size) w1 vo) := HL5.out.trans (HKn.out.mono (fun _ _ _ => trivial))
  clear HPn HAn HKn HM5 HL5 s0 s1 s2
  go_cut [15] from 56 to 69 (fun t wx => t = .bool (lkFree true k) ∧ vo = wx)
  case first =>
    clear HPo HAo HQn HM6 HL6 HKq
    have h5 : k = 0 ∨ k = 1 ∨ k = 2 ∨ k = 3 ∨ k = 4 := by omega
    clear hk hk5
    rcases h5 with rfl | rfl | rfl | rfl | rfl
    all_goals
      go_wp2_with fail
      go_meet
      exact ⟨rfl, rfl⟩
  case rest =>
  obtain ⟨rfl, hw⟩ := hcut
  subst hw
  have hq1 := lk_q3 true k (by omega) HKq.out
  generalize lkFree true k = fr at *
  have p0 := (five_free HPo.out).1.1
  have q0 := (five_free HQn.out).1.1
  clear HPo HQn HKq
  go_upto_region 15 with fail
  clear p0 q0 hq1
  have cd := (do_end HM6.out HL6.out.size 4 [117] (.inr rfl) (by decide) (by decide)).mono (fun e w' h => h.ex)
  go_upto_region 16 with (first
    | (go_at_call 10; refine Calls.mono cd ?_; rintro e vp ⟨ku, o3, m3, c3, x3, y3, hku, rfl, mm, qq, kk⟩; have HM7 : Hid (Shd w1 vp S 40 (lkA true k).2) := mm; have HL7 : Hid (Kept (fun k => k < w1.heap.size) w1 vp) := HL6.out.trans kk; have HAp : Hid _ := qq.block HAo.out (by decide); clear cd hku mm qq kk))
  clear HAo HM6 HL6
  go_upto_region 17 with fail
  have HE : Hid _ := heap_alloc_new vp (.cells #[.int .i64 4, .string ⟨#[116]⟩, .slice none 0 0, .slice none 0 0, .int .i64 0, .int .i64 0, .slice none 0 0] 27)
  have HKn : Hid _ := (Kept.refl (fun _ => True) vp).alloc (.cells #[.int .i64 4, .string ⟨#[116]⟩, .slice none 0 0, .slice none 0 0, .int .i64 0, .int .i64 0, .slice none 0 0] 27)
  generalize vp.alloc (.cells #[.int .i64 4, .string ⟨#[116]⟩, .slice none 0 0, .slice none 0 0, .int .i64 0, .int .i64 0, .slice none 0 0] 27) = vq at *
  have HEl : Hid (vp.heap.size ≤ vp.heap.size) := Nat.le_refl _
  generalize hE : vp.heap.size = E at HE HEl ⊢
  have z0 := (seven_cell HE.out).1
  have f0 := (seven_frozen HE.out).1
  go_upto_region 19 with fail
  clear z0 f0
  have HE2 : Hid _ := set7_0 HE.out (.int .i64 3)
  have HKr : Hid _ := HKn.out.setNew (ad := ⟨E, 0, none⟩) (by rw [hE]; exact Nat.le_refl _) (.int .i64 3)
  clear HE HKn
  generalize vq.setCell ⟨E, 0, none⟩ (.int .i64 3) = vr at *
  have HM8 : Hid (Shd w1 vr S 40 (lkA true k).2) := HM7.out.all HKr.out
  have HL8 : Hid (Kept (fun k => k < w1.heap.size) w1 vr) := HL7.out.trans (HKr.out.mono (fun _ _ _ => trivial))
  have HAr : Hid _ := (HKr.out.block _ (lt_of_block HAp.out) trivial).trans HAp.out
  obtain ⟨z0, z1, z2, z3, z4, z5, z6⟩ := seven_cell HE2.out
  clear HE2 HKr HM7 HL7 HAp HEl hE
  have cd := (do_end HM8.out HL8.out.size 3 [116] (.inl rfl) (by decide) (by decide)).mono (fun e w' h => h.ex)
  go_upto_region 20 with (first
    | (go_at_call 10; refine Calls.mono cd ?_; rintro e vs ⟨ke, o4, m4, c4, x4, y4, hke, rfl, mm, qq, kk⟩; have HM9 : Hid (Shd w1 vs S 50 (lkE true k true).2) := mm; have HL9 : Hid (Kept (fun k => k < w1.heap.size) w1 vs) := HL8.out.trans kk; have HAs : Hid _ := qq.block HAr.out (by decide); clear cd hke mm qq kk))
  clear HAr HM8 HL8 z0 z1 z2 z3 z4 z5 z6
  obtain ⟨b', off, e, hb, q0, q1, q2, q3⟩ := (Ov.block (os := lkAsks) HAs.out rfl (by unfold lkAsks; simp) 5).at k hk5
  cases e
  have HOq : Hid (lkAsks[k].cas.length ≤ 1000) := lk_cas k hk5
  rw [lk_asks] at q0 q1 q2 q3
  have HOc : Hid ((lkAsk k).cas.length ≤ 1000) := by have := HOq.out; rw [lk_asks] at this; exact this
  obtain ⟨oq, hoq⟩ : ∃ oq, oq = lkAsk k := ⟨_, rfl⟩
  rw [← hoq] at q0 q1 q2 q3
  have HQe : Hid (oq = lkAsk k) := hoq
  clear hoq hb HOq
  simp only [Nat.zero_add] at q0 q1 q2 q3
  have s0 : (0 : Int) ≤ (k : Int) := by omega
  have s1 : (k : Int) < 5 := by omega
  have ka := (Kept.refl (fun _ => True) vs).alloc (.cells #[.int .i64 oq.kind, .string ⟨oq.cas.toArray⟩, .string ⟨oq.name.toArray⟩, .int .i64 oq.n] 47)
  have co := onceL_any (Ov.block (os := [oq]) (heap_alloc_new vs (.cells #[.int .i64 oq.kind, .string ⟨oq.cas.toArray⟩, .string ⟨oq.name.toArray⟩, .int .i64 oq.n] 47)) rfl (by simp) 1) (fun n k h => by cases h) (by simp)
  have HKa : Hid _ := ka
  clear ka HAs
  go_upto_region 21 with (first
    | (go_at_call 15; refine Calls.mono co ?_; rintro e vt ⟨ov2, rfl, hcm, k3⟩; have HKt : Hid (Kept (fun _ => True) vs vt) := HKa.out.trans k3; have cd := (do_once (HM9.out.all HKt.out) (Nat.le_trans HL9.out.size HKt.out.size) hcm (by intro o ho; rw [List.mem_singleton.1 ho, HQe.out]; exact HOc.out) (by decide)).mono (fun e w' h => h.ex); clear co k3 hcm)
    | (go_at_call 10; refine Calls.mono cd ?_; rintro e vu ⟨kr, o5, m5, c5, x5, y5, hkr, rfl, mm, qq, kk⟩; rw [HQe.out] at hkr mm; have HM10 : Hid (Shd w1 vu S 60 (lkR true k true).2) := mm; have HKr : Hid (kr = (lkR true k true).1.kind) := hkr; have HL10 : Hid (Kept (fun k => k < w1.heap.size) w1 vu) := (HL9.out.trans (HKt.out.mono (fun _ _ _ => trivial))).trans kk; clear cd hkr mm qq kk))
  clear q0 q1 q2 q3 s0 s1
  have hf := lk_facts true k (by omega) true
  have hne : ¬ kr = 3 := by rw [HKr.out]; exact hf.2.2.1
  have hr4 : ((kr : Int) != 3) = true := by
    have hr3 : ¬ (kr : Int) = 3 := by omega
    simp [hr3]
  have HPs : Hid ((lkR true k true).2.ps = []) := hf.2.2.2
  clear hf hne HKr HM9 HL9 HKa HKt HQe HOc
  have HR : Hid _ := heap_alloc_new vu (.cells #[.int .i64 (kr : Nat), .slice o5 m5 c5, .int .i64 x5, .int .i64 y5, .slice none 0 0] 38)
  have HKn : Hid _ := (Kept.refl (fun _ => True) vu).alloc (.cells #[.int .i64 (kr : Nat), .slice o5 m5 c5, .int .i64 x5, .int .i64 y5, .slice none 0 0] 38)
  generalize vu.alloc (.cells #[.int .i64 (kr : Nat), .slice o5 m5 c5, .int .i64 x5, .int .i64 y5, .slice none 0 0] 38) = vv at *
  generalize vu.heap.size = P3 at *
  have HM11 : Hid (Shd w1 vv S 60 (lkR true k true).2) := HM10.out.all HKn.out
  have HL11 : Hid (Kept (fun k => k < w1.heap.size) w1 vv) := HL10.out.trans (HKn.out.mono (fun _ _ _ => trivial))
  have r0 := (five_free HR.out).1.1
  clear HR HKn HM10 HL10
  have cp := prepared_none HM11.out HPs.out (by decide)
  go_wp2_with (first
    | (go_at_call 19; refine Calls.mono cp ?_; rintro e vx ⟨o6, c6, rfl, k3⟩; have HKx : Hid (Kept (fun _ => True) vv vx) := k3; have ck := knownS_any (HM11.out.tab.all k3); clear cp k3)
    | (go_at_call 14; refine Calls.mono ck ?_; rintro e vy ⟨rfl, k3⟩; have HKy : Hid (Kept (fun _ => True) vx vy) := k3; clear ck k3))
  go_ret
  refine ⟨rfl, ?_⟩
  have k5 := HL11.out.trans ((HKx.out.trans HKy.out).mono (fun _ _ _ => trivial))
  exact HK1.out.trans (k5.mono (fun i hi _ => hi))

set_option maxRecDepth 100000 in
set_option maxHeartbeats 16000000 in
theorem locked_true_false {w : World} (hTab : Tab w) (ask : Int) : Calls Tryz.prog 4 #[.bool true, .int .i64 ask, .bool false] w fun e w' => e = .returned (.bool true) ∧ Kept (fun _ => True) w w' := by
  have ct := typesT_any (w := w)
  have HTb : Hid (Tab w) := hTab
  clear hTab
  go_enter Tryz.func4, Tryz.ntmps4
  go_upto_region 2 with (first
    | (go_at_call 8; refine Calls.mono ct ?_; rintro e w1 ⟨g, rfl, hty, k1⟩; have HK1 : Hid (Kept (fun _ => True) w w1) := k1; have cf := fresh_any hty (fun ao n cap h => by cases h; exact Nat.le_refl _) book_ok book_sz; clear ct hty k1)
    | (go_at_call 7; refine Calls.mono cf ?_; rintro e w2 ⟨a, tv', h, R, rfl, md, r1, r2, r3, r4⟩; have HM : Hid (Shd w1 w2 a.S 0 kn0) := Shd.made md book_ok (HTb.out.all HK1.out); have HK2 : Hid (Kept (fun _ => True) w1 w2) := md.kept; clear cf md r1 r2 r3 r4))
  generalize a.S = S at *
  clear a tv' h
  have HL0 : Hid (Kept (fun k => k < w1.heap.size) w1 w2) := HK2.out.mono (fun _ _ _ => trivial)
  clear HK2
  have cc := createOp_any (w := w2) [97] [99, 111, 117, 110, 116]
  unfold opV at cc
  go_upto_region 5 with (first
    | (go_at_call 16; refine Calls.mono cc ?_; rintro e va ⟨rfl, k3⟩; have HKa : Hid (Kept (fun _ => True) w2 va) := k3; have cc2 := createOp_any (w := va) [98] [99, 111, 117, 110, 116]; unfold opV at cc2; clear cc k3)
    | (go_at_call 16; refine Calls.mono cc2 ?_; rintro e vb ⟨rfl, k3⟩; have HKb : Hid (Kept (fun _ => True) va vb) := k3; have HKc : Hid (Kept (fun _ => True) vb (vb.alloc (.cells #[.int .i64 1, .string ⟨#[97]⟩, .string ⟨#[99, 111, 117, 110, 116]⟩, .int .i64 0, .int .i64 1, .string ⟨#[98]⟩, .string ⟨#[99, 111, 117, 110, 116]⟩, .int .i64 0] 47))) := (Kept.refl _ vb).alloc _; have co := onceL_any (Ov.block (os := [⟨1, [97], [99, 111, 117, 110, 116], 0⟩, ⟨1, [98], [99, 111, 117, 110, 116], 0⟩]) (heap_alloc_new vb (.cells #[.int .i64 1, .string ⟨#[97]⟩, .string ⟨#[99, 111, 117, 110, 116]⟩, .int .i64 0, .int .i64 1, .string ⟨#[98]⟩, .string ⟨#[99, 111, 117, 110, 116]⟩, .int .i64 0] 47)) rfl (by simp) 2) (fun n k h => by cases h) (by simp); clear cc2 k3)
    | (go_at_call 15; refine Calls.mono co ?_; rintro e vc ⟨ov, rfl, hcm, k3⟩; have HKd : Hid (Kept (fun _ => True) w2 vc) := (HKa.out.trans HKb.out).trans (HKc.out.trans k3); have cd := (do_once (HM.out.all HKd.out) (Nat.le_trans HL0.out.size HKd.out.size) hcm (by simp) (by decide)).mono (fun e w' h => h.ex); clear co k3 hcm HKa HKb HKc)
    | (go_at_call 10; refine Calls.mono cd ?_; rintro e vd ⟨kd, o0, m0, c0, x0, y0, hkd, rfl, mm, qq, kk⟩; have HM1 : Hid (Shd w1 vd S 10 lk0) := mm; have HL1 : Hid (Kept (fun k => k < w1.heap.size) w1 vd) := (HL0.out.trans (HKd.out.mono (fun _ _ _ => trivial))).trans kk; clear cd hkd mm qq kk))
  clear HM HL0 HKd
  have cc := readOp_any (w := vd) [97]
  unfold opV at cc
  go_upto_region 6 with (first
    | (go_at_call 17; refine Calls.mono cc ?_; rintro e ve ⟨rfl, k3⟩; have HKa : Hid (Kept (fun _ => True) vd ve) := k3; clear cc k3))
  have HKn : Hid _ := HKa.out.alloc (.cells #[.int .i64 5, .string ⟨#[97]⟩, .string ⟨#[]⟩, .int .i64 0] 47)
  have HB : Hid _ := heap_alloc_new ve (.cells #[.int .i64 5, .string ⟨#[97]⟩, .string ⟨#[]⟩, .int .i64 0] 47)
  generalize ve.alloc (.cells #[.int .i64 5, .string ⟨#[97]⟩, .string ⟨#[]⟩, .int .i64 0] 47) = vf at *
  have HZ : Hid (vd.heap.size ≤ ve.heap.size) := HKa.out.size
  generalize ve.heap.size = D at *
  clear HKa
  have cc := addOp_any (w := vf) [97] [110] 1
  unfold opV at cc
  go_upto_region 8 with (first
    | (go_at_call 18; refine Calls.mono cc ?_; rintro e vg ⟨rfl, k3⟩; have HKg : Hid (Kept (fun _ => True) vf vg) := k3; have hz := (k3.block D (lt_of_block HB.out) trivial).trans HB.out; obtain ⟨⟨z0, z1, z2, z3⟩, f0, f1, f2, f3⟩ := four_cell hz; have HBg : Hid _ := hz; clear cc k3 hz))
  clear z0 z1 z2 z3 f0 f1 f2 f3
  have HB2 : Hid _ := put4_at HBg.out (.int .i64 3) (.string ⟨#[97]⟩) (.string ⟨#[110]⟩) (.int .i64 1)
  have HKn2 : Hid _ := put4_new (HKn.out.trans HKg.out) HZ.out (.int .i64 3) (.string ⟨#[97]⟩) (.string ⟨#[110]⟩) (.int .i64 1)
  clear HKn HKg HB HBg
  unfold put4 at HB2 HKn2
  generalize (((vg.setCell ⟨D, 0, none⟩ (.int .i64 3)).setCell ⟨D, 1, none⟩ (.string ⟨#[97]⟩)).setCell ⟨D, 2, none⟩ (.string ⟨#[110]⟩)).setCell ⟨D, 3, none⟩ (.int .i64 1) = vh at *
  have HM2 : Hid (Shd w1 vh S 10 lk0) := HM1.out.all HKn2.out
  have HL2 : Hid (Kept (fun k => k < w1.heap.size) w1 vh) := HL1.out.trans (HKn2.out.mono (fun _ _ _ => trivial))
  obtain ⟨⟨z0, z1, z2, z3⟩, f0, f1, f2, f3⟩ := four_cell HB2.out
  clear f0 f1 f2 f3 HB2 HKn2 HM1 HL1 HZ
  have cd := (do_one HM2.out HL2.out.size 2 [116] ⟨3, [97], [110], 1⟩ (.inr rfl) (by decide) (by decide) (by decide)).mono (fun e w' h => h.kind (k := 1) (lk_facts true 0 (by decide) false).1 (rfl : _ = (lkP true).2) rfl)
  go_upto_region 9 with (first
    | (go_at_call 10; refine Calls.mono cd ?_; rintro e vi ⟨o1, m1, c1, x1, y1, rfl, hh, mm, qq, kk⟩; have HM3 : Hid (Shd w1 vi S 20 (lkP true).2) := mm; have HL3 : Hid (Kept (fun k => k < w1.heap.size) w1 vi) := HL2.out.trans kk; clear cd hh mm qq kk))
  clear z0 z1 z2 z3 HM2 HL2
  have HP : Hid _ := heap_alloc_new vi (.cells #[.int .i64 1, .slice o1 m1 c1, .int .i64 x1, .int .i64 y1, .slice none 0 0] 38)
  have HKn : Hid _ := (Kept.refl (fun _ => True) vi).alloc (.cells #[.int .i64 1, .slice o1 m1 c1, .int .i64 x1, .int .i64 y1, .slice none 0 0] 38)
  generalize vi.alloc (.cells #[.int .i64 1, .slice o1 m1 c1, .int .i64 x1, .int .i64 y1, .slice none 0 0] 38) = vj at *
  generalize vi.heap.size = P1 at *
  have cc0 := readOp_any (w := vj) [97]
  unfold opV at cc0
  go_upto_region 10 with (first
    | (go_at_call 17; refine Calls.mono cc0 ?_; rintro e vk0 ⟨rfl, k3⟩; have HJ0 : Hid (Kept (fun _ => True) vi vk0) := HKn.out.trans k3; have HQ0 : Hid (Kept (fun _ => True) vj vk0) := k3; have cc1 := addOp_any (w := vk0) [97] [110] 2; unfold opV at cc1; clear cc0 k3)
    | (go_at_call 18; refine Calls.mono cc1 ?_; rintro e vk1 ⟨rfl, k3⟩; have HJ1 : Hid (Kept (fun _ => True) vi vk1) := HJ0.out.trans k3; have HQ1 : Hid (Kept (fun _ => True) vj vk1) := HQ0.out.trans k3; have cc2 := readOp_any (w := vk1) [98]; unfold opV at cc2; clear cc1 k3 HJ0 HQ0)
    | (go_at_call 17; refine Calls.mono cc2 ?_; rintro e vk2 ⟨rfl, k3⟩; have HJ2 : Hid (Kept (fun _ => True) vi vk2) := HJ1.out.trans k3; have HQ2 : Hid (Kept (fun _ => True) vj vk2) := HQ1.out.trans k3; have cc3 := addOp_any (w := vk2) [98] [110] 3; unfold opV at cc3; clear cc2 k3 HJ1 HQ1)
    | (go_at_call 18; refine Calls.mono cc3 ?_; rintro e vk3 ⟨rfl, k3⟩; have HJ3 : Hid (Kept (fun _ => True) vi vk3) := HJ2.out.trans k3; have HQ3 : Hid (Kept (fun _ => True) vj vk3) := HQ2.out.trans k3; have cc4 := createOp_any (w := vk3) [97] [99, 111, 117, 110, 116]; unfold opV at cc4; clear cc3 k3 HJ2 HQ2)
    | (go_at_call 16; refine Calls.mono cc4 ?_; rintro e vk4 ⟨rfl, k3⟩; have HJ4 : Hid (Kept (fun _ => True) vi vk4) := HJ3.out.trans k3; have HQ4 : Hid (Kept (fun _ => True) vj vk4) := HQ3.out.trans k3; clear cc4 k3 HJ3 HQ3))
  have HA : Hid _ := heap_alloc_new vk4 (.cells #[.int .i64 5, .string ⟨#[97]⟩, .string ⟨#[]⟩, .int .i64 0, .int .i64 3, .string ⟨#[97]⟩, .string ⟨#[110]⟩, .int .i64 2, .int .i64 5, .string ⟨#[98]⟩, .string ⟨#[]⟩, .int .i64 0, .int .i64 3, .string ⟨#[98]⟩, .string ⟨#[110]⟩, .int .i64 3, .int .i64 1, .string ⟨#[97]⟩, .string ⟨#[99, 111, 117, 110, 116]⟩, .int .i64 0] 47)
  have ka := (Kept.refl (fun _ => True) vk4).alloc (.cells #[.int .i64 5, .string ⟨#[97]⟩, .string ⟨#[]⟩, .int .i64 0, .int .i64 3, .string ⟨#[97]⟩, .string ⟨#[110]⟩, .int .i64 2, .int .i64 5, .string ⟨#[98]⟩, .string ⟨#[]⟩, .int .i64 0, .int .i64 3, .string ⟨#[98]⟩, .string ⟨#[110]⟩, .int .i64 3, .int .i64 1, .string ⟨#[97]⟩, .string ⟨#[99, 111, 117, 110, 116]⟩, .int .i64 0] 47)
  have HKm : Hid _ := HJ4.out.trans ka
  have HP2 : Hid _ := ((HQ4.out.trans ka).block _ (lt_of_block HP.out) trivial).trans HP.out
  clear ka HJ4 HQ4 HP HKn
  generalize vk4.alloc (.cells #[.int .i64 5, .string ⟨#[97]⟩, .string ⟨#[]⟩, .int .i64 0, .int .i64 3, .string ⟨#[97]⟩, .string ⟨#[110]⟩, .int .i64 2, .int .i64 5, .string ⟨#[98]⟩, .string ⟨#[]⟩, .int .i64 0, .int .i64 3, .string ⟨#[98]⟩, .string ⟨#[110]⟩, .int .i64 3, .int .i64 1, .string ⟨#[97]⟩, .string ⟨#[99, 111, 117, 110, 116]⟩, .int .i64 0] 47) = vm at *
  generalize vk4.heap.size = G at *
  have HM4 : Hid (Shd w1 vm S 20 (lkP true).2) := HM3.out.all HKm.out
  have HL4 : Hid (Kept (fun k => k < w1.heap.size) w1 vm) := HL3.out.trans (HKm.out.mono (fun _ _ _ => trivial))
  clear HM3 HL3 HKm
  have cw := wi_any (w := vm) ask 4 (by decide)
  have hk := wi_le ask 4
  generalize wi ask 4 = k at *
  go_upto_region 11 with (first
    | (go_at_call 11; refine Calls.mono cw ?_; rintro e vm ⟨rfl, rfl⟩; clear cw))
  have hk5 : k < lkAsks.length := by unfold lkAsks; simp only [List.length_cons, List.length_nil]; omega
  have HOv : Hid (Ov vm (.slice (some ⟨G, 0, none⟩) 5 5) lkAsks) := Ov.block (os := lkAsks) HA.out rfl (by unfold lkAsks; simp) 5
  have s0 : (0 : Int) ≤ (k : Int) := by omega
  have s1 : (k : Int) ≤ (k : Int) + 1 := by omega
  have s2 : (k : Int) + 1 ≤ 5 := by omega
  go_upto_region 12 with (first
    | (go_at_call 10; refine Calls.mono ((do_piece HM4.out HL4.out.size HOv.out hk5 _ (by simp) 2 [117] (.inr rfl) (lk_cas k hk5) (by decide) (by decide)).mono (fun e w' h => h.ex)) ?_; rintro e vn ⟨kq, o2, m2, c2, x2, y2, hkq, rfl, mm, qq, kk⟩; rw [lk_asks] at hkq mm; have HM5 : Hid (Shd w1 vn S 30 (lkQ true k).2) := mm; have HL5 : Hid (Kept (fun k => k < w1.heap.size) w1 vn) := HL4.out.trans kk; have HO5 : Hid (Oth vm vn) := qq; have HKq : Hid (kq = (lkQ true k).1.kind) := hkq; clear hkq mm qq kk))
  have HPn : Hid _ := HO5.out.block HP2.out (by decide)
  have HAn : Hid _ := HO5.out.block HA.out (by decide)
  have HQn : Hid _ := heap_alloc_new vn (.cells #[.int .i64 (kq : Nat), .slice o2 m2 c2, .int .i64 x2, .int .i64 y2, .slice none 0 0] 38)
  have HKn : Hid _ := (Kept.refl (fun _ => True) vn).alloc (.cells #[.int .i64 (kq : Nat), .slice o2 m2 c2, .int .i64 x2, .int .i64 y2, .slice none 0 0] 38)
  clear HP2 HA HO5 HOv HM4 HL4
  generalize vn.alloc (.cells #[.int .i64 (kq : Nat), .slice o2 m2 c2, .int .i64 x2, .int .i64 y2, .slice none 0 0] 38) = vo at *
  generalize vn.heap.size = P2 at *
  have HPo : Hid _ := (HKn.out.block _ (lt_of_block HPn.out) trivial).trans HPn.out
  have HAo : Hid _ := (HKn.out.block _ (lt_of_block HAn.out) trivial).trans HAn.out
  have HM6 : Hid (Shd w1 vo S 30 (lkQ true k).2) := HM5.out.all HKn.out
  have HL6 : Hid (Kept (fun k => k < w1.heap.size) w1 vo) := HL5.out.trans (HKn.out.mono (fun _ _ _ => trivial))
  clear HPn HAn HKn HM5 HL5 s0 s1 s2
  go_cut [15] from 56 to 69 (fun t wx => t = .bool (lkFree true k) ∧ vo = wx)
  case first =>
    clear HPo HAo HQn HM6 HL6 HKq
    have h5 : k = 0 ∨ k = 1 ∨ k = 2 ∨ k = 3 ∨ k = 4 := by omega
    clear hk hk5
    rcases h5 with rfl | rfl | rfl | rfl | rfl
    all_goals
      go_wp2_with fail
      go_meet
      exact ⟨rfl, rfl⟩
  case rest =>
  obtain ⟨rfl, hw⟩ := hcut
  subst hw
  have hq1 := lk_q3 true k (by omega) HKq.out
  generalize lkFree true k = fr at *
  have p0 := (five_free HPo.out).1.1
  have q0 := (five_free HQn.out).1.1
  clear HPo HQn HKq
  go_upto_region 15 with fail
  clear p0 q0 hq1
  have cd := (do_end HM6.out HL6.out.size 4 [117] (.inr rfl) (by decide) (by decide)).mono (fun e w' h => h.ex)
  go_upto_region 16 with (first
    | (go_at_call 10; refine Calls.mono cd ?_; rintro e vp ⟨ku, o3, m3, c3, x3, y3, hku, rfl, mm, qq, kk⟩; have HM7 : Hid (Shd w1 vp S 40 (lkA true k).2) := mm; have HL7 : Hid (Kept (fun k => k < w1.heap.size) w1 vp) := HL6.out.trans kk; have HAp : Hid _ := qq.block HAo.out (by decide); clear cd hku mm qq kk))
  clear HAo HM6 HL6
  go_upto_region 17 with fail
  have HE : Hid _ := heap_alloc_new vp (.cells #[.int .i64 4, .string ⟨#[116]⟩, .slice none 0 0, .slice none 0 0, .int .i64 0, .int .i64 0, .slice none 0 0] 27)
  have HKn : Hid _ := (Kept.refl (fun _ => True) vp).alloc (.cells #[.int .i64 4, .string ⟨#[116]⟩, .slice none 0 0, .slice none 0 0, .int .i64 0, .int .i64 0, .slice none 0 0] 27)
  generalize vp.alloc (.cells #[.int .i64 4, .string ⟨#[116]⟩, .slice none 0 0, .slice none 0 0, .int .i64 0, .int .i64 0, .slice none 0 0] 27) = vq at *
  have HEl : Hid (vp.heap.size ≤ vp.heap.size) := Nat.le_refl _
  generalize hE : vp.heap.size = E at HE HEl ⊢
  have HE2 : Hid _ := HE.out
  have HKr : Hid _ := HKn.out
  clear HE HKn
  generalize vq = vr at *
  have HM8 : Hid (Shd w1 vr S 40 (lkA true k).2) := HM7.out.all HKr.out
  have HL8 : Hid (Kept (fun k => k < w1.heap.size) w1 vr) := HL7.out.trans (HKr.out.mono (fun _ _ _ => trivial))
  have HAr : Hid _ := (HKr.out.block _ (lt_of_block HAp.out) trivial).trans HAp.out
  obtain ⟨z0, z1, z2, z3, z4, z5, z6⟩ := seven_cell HE2.out
  clear HE2 HKr HM7 HL7 HAp HEl hE
  have cd := (do_end HM8.out HL8.out.size 4 [116] (.inr rfl) (by decide) (by decide)).mono (fun e w' h => h.ex)
  go_upto_region 20 with (first
    | (go_at_call 10; refine Calls.mono cd ?_; rintro e vs ⟨ke, o4, m4, c4, x4, y4, hke, rfl, mm, qq, kk⟩; have HM9 : Hid (Shd w1 vs S 50 (lkE true k false).2) := mm; have HL9 : Hid (Kept (fun k => k < w1.heap.size) w1 vs) := HL8.out.trans kk; have HAs : Hid _ := qq.block HAr.out (by decide); clear cd hke mm qq kk))
  clear HAr HM8 HL8 z0 z1 z2 z3 z4 z5 z6
  obtain ⟨b', off, e, hb, q0, q1, q2, q3⟩ := (Ov.block (os := lkAsks) HAs.out rfl (by unfold lkAsks; simp) 5).at k hk5
  cases e
  have HOq : Hid (lkAsks[k].cas.length ≤ 1000) := lk_cas k hk5
  rw [lk_asks] at q0 q1 q2 q3
  have HOc : Hid ((lkAsk k).cas.length ≤ 1000) := by have := HOq.out; rw [lk_asks] at this; exact this
  obtain ⟨oq, hoq⟩ : ∃ oq, oq = lkAsk k := ⟨_, rfl⟩
  rw [← hoq] at q0 q1 q2 q3
  have HQe : Hid (oq = lkAsk k) := hoq
  clear hoq hb HOq
  simp only [Nat.zero_add] at q0 q1 q2 q3
  have s0 : (0 : Int) ≤ (k : Int) := by omega
  have s1 : (k : Int) < 5 := by omega
  have ka := (Kept.refl (fun _ => True) vs).alloc (.cells #[.int .i64 oq.kind, .string ⟨oq.cas.toArray⟩, .string ⟨oq.name.toArray⟩, .int .i64 oq.n] 47)
  have co := onceL_any (Ov.block (os := [oq]) (heap_alloc_new vs (.cells #[.int .i64 oq.kind, .string ⟨oq.cas.toArray⟩, .string ⟨oq.name.toArray⟩, .int .i64 oq.n] 47)) rfl (by simp) 1) (fun n k h => by cases h) (by simp)
  have HKa : Hid _ := ka
  clear ka HAs
  go_upto_region 21 with (first
    | (go_at_call 15; refine Calls.mono co ?_; rintro e vt ⟨ov2, rfl, hcm, k3⟩; have HKt : Hid (Kept (fun _ => True) vs vt) := HKa.out.trans k3; have cd := (do_once (HM9.out.all HKt.out) (Nat.le_trans HL9.out.size HKt.out.size) hcm (by intro o ho; rw [List.mem_singleton.1 ho, HQe.out]; exact HOc.out) (by decide)).mono (fun e w' h => h.ex); clear co k3 hcm)
    | (go_at_call 10; refine Calls.mono cd ?_; rintro e vu ⟨kr, o5, m5, c5, x5, y5, hkr, rfl, mm, qq, kk⟩; rw [HQe.out] at hkr mm; have HM10 : Hid (Shd w1 vu S 60 (lkR true k false).2) := mm; have HKr : Hid (kr = (lkR true k false).1.kind) := hkr; have HL10 : Hid (Kept (fun k => k < w1.heap.size) w1 vu) := (HL9.out.trans (HKt.out.mono (fun _ _ _ => trivial))).trans kk; clear cd hkr mm qq kk))
  clear q0 q1 q2 q3 s0 s1
  have hf := lk_facts true k (by omega) false
  have hne : ¬ kr = 3 := by rw [HKr.out]; exact hf.2.2.1
  have hr4 : ((kr : Int) != 3) = true := by
    have hr3 : ¬ (kr : Int) = 3 := by omega
    simp [hr3]
  have HPs : Hid ((lkR true k false).2.ps = []) := hf.2.2.2
  clear hf hne HKr HM9 HL9 HKa HKt HQe HOc
  have HR : Hid _ := heap_alloc_new vu (.cells #[.int .i64 (kr : Nat), .slice o5 m5 c5, .int .i64 x5, .int .i64 y5, .slice none 0 0] 38)
  have HKn : Hid _ := (Kept.refl (fun _ => True) vu).alloc (.cells #[.int .i64 (kr : Nat), .slice o5 m5 c5, .int .i64 x5, .int .i64 y5, .slice none 0 0] 38)
  generalize vu.alloc (.cells #[.int .i64 (kr : Nat), .slice o5 m5 c5, .int .i64 x5, .int .i64 y5, .slice none 0 0] 38) = vv at *
  generalize vu.heap.size = P3 at *
  have HM11 : Hid (Shd w1 vv S 60 (lkR true k false).2) := HM10.out.all HKn.out
  have HL11 : Hid (Kept (fun k => k < w1.heap.size) w1 vv) := HL10.out.trans (HKn.out.mono (fun _ _ _ => trivial))
  have r0 := (five_free HR.out).1.1
  clear HR HKn HM10 HL10
  have cp := prepared_none HM11.out HPs.out (by decide)
  go_wp2_with (first
    | (go_at_call 19; refine Calls.mono cp ?_; rintro e vx ⟨o6, c6, rfl, k3⟩; have HKx : Hid (Kept (fun _ => True) vv vx) := k3; have ck := knownS_any (HM11.out.tab.all k3); clear cp k3)
    | (go_at_call 14; refine Calls.mono ck ?_; rintro e vy ⟨rfl, k3⟩; have HKy : Hid (Kept (fun _ => True) vx vy) := k3; clear ck k3))
  go_ret
  refine ⟨rfl, ?_⟩
  have k5 := HL11.out.trans ((HKx.out.trans HKy.out).mono (fun _ _ _ => trivial))
  exact HK1.out.trans (k5.mono (fun i hi _ => hi))

set_option maxRecDepth 100000 in
set_option maxHeartbeats 16000000 in
theorem locked_false_true {w : World} (hTab : Tab w) (ask : Int) : Calls Tryz.prog 4 #[.bool false, .int .i64 ask, .bool true] w fun e w' => e = .returned (.bool true) ∧ Kept (fun _ => True) w w' := by
  have ct := typesT_any (w := w)
  have HTb : Hid (Tab w) := hTab
  clear hTab
  go_enter Tryz.func4, Tryz.ntmps4
  go_upto_region 2 with (first
    | (go_at_call 8; refine Calls.mono ct ?_; rintro e w1 ⟨g, rfl, hty, k1⟩; have HK1 : Hid (Kept (fun _ => True) w w1) := k1; have cf := fresh_any hty (fun ao n cap h => by cases h; exact Nat.le_refl _) book_ok book_sz; clear ct hty k1)
    | (go_at_call 7; refine Calls.mono cf ?_; rintro e w2 ⟨a, tv', h, R, rfl, md, r1, r2, r3, r4⟩; have HM : Hid (Shd w1 w2 a.S 0 kn0) := Shd.made md book_ok (HTb.out.all HK1.out); have HK2 : Hid (Kept (fun _ => True) w1 w2) := md.kept; clear cf md r1 r2 r3 r4))
  generalize a.S = S at *
  clear a tv' h
  have HL0 : Hid (Kept (fun k => k < w1.heap.size) w1 w2) := HK2.out.mono (fun _ _ _ => trivial)
  clear HK2
  have cc := createOp_any (w := w2) [97] [99, 111, 117, 110, 116]
  unfold opV at cc
  go_upto_region 5 with (first
    | (go_at_call 16; refine Calls.mono cc ?_; rintro e va ⟨rfl, k3⟩; have HKa : Hid (Kept (fun _ => True) w2 va) := k3; have cc2 := createOp_any (w := va) [98] [99, 111, 117, 110, 116]; unfold opV at cc2; clear cc k3)
    | (go_at_call 16; refine Calls.mono cc2 ?_; rintro e vb ⟨rfl, k3⟩; have HKb : Hid (Kept (fun _ => True) va vb) := k3; have HKc : Hid (Kept (fun _ => True) vb (vb.alloc (.cells #[.int .i64 1, .string ⟨#[97]⟩, .string ⟨#[99, 111, 117, 110, 116]⟩, .int .i64 0, .int .i64 1, .string ⟨#[98]⟩, .string ⟨#[99, 111, 117, 110, 116]⟩, .int .i64 0] 47))) := (Kept.refl _ vb).alloc _; have co := onceL_any (Ov.block (os := [⟨1, [97], [99, 111, 117, 110, 116], 0⟩, ⟨1, [98], [99, 111, 117, 110, 116], 0⟩]) (heap_alloc_new vb (.cells #[.int .i64 1, .string ⟨#[97]⟩, .string ⟨#[99, 111, 117, 110, 116]⟩, .int .i64 0, .int .i64 1, .string ⟨#[98]⟩, .string ⟨#[99, 111, 117, 110, 116]⟩, .int .i64 0] 47)) rfl (by simp) 2) (fun n k h => by cases h) (by simp); clear cc2 k3)
    | (go_at_call 15; refine Calls.mono co ?_; rintro e vc ⟨ov, rfl, hcm, k3⟩; have HKd : Hid (Kept (fun _ => True) w2 vc) := (HKa.out.trans HKb.out).trans (HKc.out.trans k3); have cd := (do_once (HM.out.all HKd.out) (Nat.le_trans HL0.out.size HKd.out.size) hcm (by simp) (by decide)).mono (fun e w' h => h.ex); clear co k3 hcm HKa HKb HKc)
    | (go_at_call 10; refine Calls.mono cd ?_; rintro e vd ⟨kd, o0, m0, c0, x0, y0, hkd, rfl, mm, qq, kk⟩; have HM1 : Hid (Shd w1 vd S 10 lk0) := mm; have HL1 : Hid (Kept (fun k => k < w1.heap.size) w1 vd) := (HL0.out.trans (HKd.out.mono (fun _ _ _ => trivial))).trans kk; clear cd hkd mm qq kk))
  clear HM HL0 HKd
  have cc := readOp_any (w := vd) [97]
  unfold opV at cc
  go_upto_region 6 with (first
    | (go_at_call 17; refine Calls.mono cc ?_; rintro e ve ⟨rfl, k3⟩; have HKa : Hid (Kept (fun _ => True) vd ve) := k3; clear cc k3))
  have HKn : Hid _ := HKa.out.alloc (.cells #[.int .i64 5, .string ⟨#[97]⟩, .string ⟨#[]⟩, .int .i64 0] 47)
  have HB : Hid _ := heap_alloc_new ve (.cells #[.int .i64 5, .string ⟨#[97]⟩, .string ⟨#[]⟩, .int .i64 0] 47)
  generalize ve.alloc (.cells #[.int .i64 5, .string ⟨#[97]⟩, .string ⟨#[]⟩, .int .i64 0] 47) = vf at *
  have HZ : Hid (vd.heap.size ≤ ve.heap.size) := HKa.out.size
  generalize ve.heap.size = D at *
  clear HKa
  have HB2 : Hid _ := HB.out
  have HKn2 : Hid _ := HKn.out
  clear HB HKn
  generalize vf = vh at *
  have HM2 : Hid (Shd w1 vh S 10 lk0) := HM1.out.all HKn2.out
  have HL2 : Hid (Kept (fun k => k < w1.heap.size) w1 vh) := HL1.out.trans (HKn2.out.mono (fun _ _ _ => trivial))
  obtain ⟨⟨z0, z1, z2, z3⟩, f0, f1, f2, f3⟩ := four_cell HB2.out
  clear f0 f1 f2 f3 HB2 HKn2 HM1 HL1 HZ
  have cd := (do_one HM2.out HL2.out.size 2 [116] ⟨5, [97], [], 0⟩ (.inr rfl) (by decide) (by decide) (by decide)).mono (fun e w' h => h.kind (k := 1) (lk_facts false 0 (by decide) false).1 (rfl : _ = (lkP false).2) rfl)
  go_upto_region 9 with (first
    | (go_at_call 10; refine Calls.mono cd ?_; rintro e vi ⟨o1, m1, c1, x1, y1, rfl, hh, mm, qq, kk⟩; have HM3 : Hid (Shd w1 vi S 20 (lkP false).2) := mm; have HL3 : Hid (Kept (fun k => k < w1.heap.size) w1 vi) := HL2.out.trans kk; clear cd hh mm qq kk))
  clear z0 z1 z2 z3 HM2 HL2
  have HP : Hid _ := heap_alloc_new vi (.cells #[.int .i64 1, .slice o1 m1 c1, .int .i64 x1, .int .i64 y1, .slice none 0 0] 38)
  have HKn : Hid _ := (Kept.refl (fun _ => True) vi).alloc (.cells #[.int .i64 1, .slice o1 m1 c1, .int .i64 x1, .int .i64 y1, .slice none 0 0] 38)
  generalize vi.alloc (.cells #[.int .i64 1, .slice o1 m1 c1, .int .i64 x1, .int .i64 y1, .slice none 0 0] 38) = vj at *
  generalize vi.heap.size = P1 at *
  have cc0 := readOp_any (w := vj) [97]
  unfold opV at cc0
  go_upto_region 10 with (first
    | (go_at_call 17; refine Calls.mono cc0 ?_; rintro e vk0 ⟨rfl, k3⟩; have HJ0 : Hid (Kept (fun _ => True) vi vk0) := HKn.out.trans k3; have HQ0 : Hid (Kept (fun _ => True) vj vk0) := k3; have cc1 := addOp_any (w := vk0) [97] [110] 2; unfold opV at cc1; clear cc0 k3)
    | (go_at_call 18; refine Calls.mono cc1 ?_; rintro e vk1 ⟨rfl, k3⟩; have HJ1 : Hid (Kept (fun _ => True) vi vk1) := HJ0.out.trans k3; have HQ1 : Hid (Kept (fun _ => True) vj vk1) := HQ0.out.trans k3; have cc2 := readOp_any (w := vk1) [98]; unfold opV at cc2; clear cc1 k3 HJ0 HQ0)
    | (go_at_call 17; refine Calls.mono cc2 ?_; rintro e vk2 ⟨rfl, k3⟩; have HJ2 : Hid (Kept (fun _ => True) vi vk2) := HJ1.out.trans k3; have HQ2 : Hid (Kept (fun _ => True) vj vk2) := HQ1.out.trans k3; have cc3 := addOp_any (w := vk2) [98] [110] 3; unfold opV at cc3; clear cc2 k3 HJ1 HQ1)
    | (go_at_call 18; refine Calls.mono cc3 ?_; rintro e vk3 ⟨rfl, k3⟩; have HJ3 : Hid (Kept (fun _ => True) vi vk3) := HJ2.out.trans k3; have HQ3 : Hid (Kept (fun _ => True) vj vk3) := HQ2.out.trans k3; have cc4 := createOp_any (w := vk3) [97] [99, 111, 117, 110, 116]; unfold opV at cc4; clear cc3 k3 HJ2 HQ2)
    | (go_at_call 16; refine Calls.mono cc4 ?_; rintro e vk4 ⟨rfl, k3⟩; have HJ4 : Hid (Kept (fun _ => True) vi vk4) := HJ3.out.trans k3; have HQ4 : Hid (Kept (fun _ => True) vj vk4) := HQ3.out.trans k3; clear cc4 k3 HJ3 HQ3))
  have HA : Hid _ := heap_alloc_new vk4 (.cells #[.int .i64 5, .string ⟨#[97]⟩, .string ⟨#[]⟩, .int .i64 0, .int .i64 3, .string ⟨#[97]⟩, .string ⟨#[110]⟩, .int .i64 2, .int .i64 5, .string ⟨#[98]⟩, .string ⟨#[]⟩, .int .i64 0, .int .i64 3, .string ⟨#[98]⟩, .string ⟨#[110]⟩, .int .i64 3, .int .i64 1, .string ⟨#[97]⟩, .string ⟨#[99, 111, 117, 110, 116]⟩, .int .i64 0] 47)
  have ka := (Kept.refl (fun _ => True) vk4).alloc (.cells #[.int .i64 5, .string ⟨#[97]⟩, .string ⟨#[]⟩, .int .i64 0, .int .i64 3, .string ⟨#[97]⟩, .string ⟨#[110]⟩, .int .i64 2, .int .i64 5, .string ⟨#[98]⟩, .string ⟨#[]⟩, .int .i64 0, .int .i64 3, .string ⟨#[98]⟩, .string ⟨#[110]⟩, .int .i64 3, .int .i64 1, .string ⟨#[97]⟩, .string ⟨#[99, 111, 117, 110, 116]⟩, .int .i64 0] 47)
  have HKm : Hid _ := HJ4.out.trans ka
  have HP2 : Hid _ := ((HQ4.out.trans ka).block _ (lt_of_block HP.out) trivial).trans HP.out
  clear ka HJ4 HQ4 HP HKn
  generalize vk4.alloc (.cells #[.int .i64 5, .string ⟨#[97]⟩, .string ⟨#[]⟩, .int .i64 0, .int .i64 3, .string ⟨#[97]⟩, .string ⟨#[110]⟩, .int .i64 2, .int .i64 5, .string ⟨#[98]⟩, .string ⟨#[]⟩, .int .i64 0, .int .i64 3, .string ⟨#[98]⟩, .string ⟨#[110]⟩, .int .i64 3, .int .i64 1, .string ⟨#[97]⟩, .string ⟨#[99, 111, 117, 110, 116]⟩, .int .i64 0] 47) = vm at *
  generalize vk4.heap.size = G at *
  have HM4 : Hid (Shd w1 vm S 20 (lkP false).2) := HM3.out.all HKm.out
  have HL4 : Hid (Kept (fun k => k < w1.heap.size) w1 vm) := HL3.out.trans (HKm.out.mono (fun _ _ _ => trivial))
  clear HM3 HL3 HKm
  have cw := wi_any (w := vm) ask 4 (by decide)
  have hk := wi_le ask 4
  generalize wi ask 4 = k at *
  go_upto_region 11 with (first
    | (go_at_call 11; refine Calls.mono cw ?_; rintro e vm ⟨rfl, rfl⟩; clear cw))
  have hk5 : k < lkAsks.length := by unfold lkAsks; simp only [List.length_cons, List.length_nil]; omega
  have HOv : Hid (Ov vm (.slice (some ⟨G, 0, none⟩) 5 5) lkAsks) := Ov.block (os := lkAsks) HA.out rfl (by unfold lkAsks; simp) 5
  have s0 : (0 : Int) ≤ (k : Int) := by omega
  have s1 : (k : Int) ≤ (k : Int) + 1 := by omega
  have s2 : (k : Int) + 1 ≤ 5 := by omega
  go_upto_region 12 with (first
    | (go_at_call 10; refine Calls.mono ((do_piece HM4.out HL4.out.size HOv.out hk5 _ (by simp) 2 [117] (.inr rfl) (lk_cas k hk5) (by decide) (by decide)).mono (fun e w' h => h.ex)) ?_; rintro e vn ⟨kq, o2, m2, c2, x2, y2, hkq, rfl, mm, qq, kk⟩; rw [lk_asks] at hkq mm; have HM5 : Hid (Shd w1 vn S 30 (lkQ false k).2) := mm; have HL5 : Hid (Kept (fun k => k < w1.heap.size) w1 vn) := HL4.out.trans kk; have HO5 : Hid (Oth vm vn) := qq; have HKq : Hid (kq = (lkQ false k).1.kind) := hkq; clear hkq mm qq kk))
  have HPn : Hid _ := HO5.out.block HP2.out (by decide)
  have HAn : Hid _ := HO5.out.block HA.out (by decide)
  have HQn : Hid _ := heap_alloc_new vn (.cells #[.int .i64 (kq : Nat), .slice o2 m2 c2, .int .i64 x2, .int .i64 y2, .slice none 0 0] 38)
  have HKn : Hid _ := (Kept.refl (fun _ => True) vn).alloc (.cells #[.int .i64 (kq : Nat), .slice o2 m2 c2, .int .i64 x2, .int .i64 y2, .slice none 0 0] 38)
  clear HP2 HA HO5 HOv HM4 HL4
  generalize vn.alloc (.cells #[.int .i64 (kq : Nat), .slice o2 m2 c2, .int .i64 x2, .int .i64 y2, .slice none 0 0] 38) = vo at *
  generalize vn.heap.size = P2 at *
  have HPo : Hid _ := (HKn.out.block _ (lt_of_block HPn.out) trivial).trans HPn.out
  have HAo : Hid _ := (HKn.out.block _ (lt_of_block HAn.out) trivial).trans HAn.out
  have HM6 : Hid (Shd w1 vo S 30 (lkQ false k).2) := HM5.out.all HKn.out
  have HL6 : Hid (Kept (fun k => k < w1.heap.size) w1 vo) := HL5.out.trans (HKn.out.mono (fun _ _ _ => trivial))
  clear HPn HAn HKn HM5 HL5 s0 s1 s2
  go_cut [15] from 56 to 69 (fun t wx => t = .bool (lkFree false k) ∧ vo = wx)
  case first =>
    clear HPo HAo HQn HM6 HL6 HKq
    have h5 : k = 0 ∨ k = 1 ∨ k = 2 ∨ k = 3 ∨ k = 4 := by omega
    clear hk hk5
    rcases h5 with rfl | rfl | rfl | rfl | rfl
    all_goals
      go_wp2_with fail
      go_meet
      exact ⟨rfl, rfl⟩
  case rest =>
  obtain ⟨rfl, hw⟩ := hcut
  subst hw
  have hq1 := lk_q3 false k (by omega) HKq.out
  generalize lkFree false k = fr at *
  have p0 := (five_free HPo.out).1.1
  have q0 := (five_free HQn.out).1.1
  clear HPo HQn HKq
  go_upto_region 15 with fail
  clear p0 q0 hq1
  have cd := (do_end HM6.out HL6.out.size 4 [117] (.inr rfl) (by decide) (by decide)).mono (fun e w' h => h.ex)
  go_upto_region 16 with (first
    | (go_at_call 10; refine Calls.mono cd ?_; rintro e vp ⟨ku, o3, m3, c3, x3, y3, hku, rfl, mm, qq, kk⟩; have HM7 : Hid (Shd w1 vp S 40 (lkA false k).2) := mm; have HL7 : Hid (Kept (fun k => k < w1.heap.size) w1 vp) := HL6.out.trans kk; have HAp : Hid _ := qq.block HAo.out (by decide); clear cd hku mm qq kk))
  clear HAo HM6 HL6
  go_upto_region 17 with fail
  have HE : Hid _ := heap_alloc_new vp (.cells #[.int .i64 4, .string ⟨#[116]⟩, .slice none 0 0, .slice none 0 0, .int .i64 0, .int .i64 0, .slice none 0 0] 27)
  have HKn : Hid _ := (Kept.refl (fun _ => True) vp).alloc (.cells #[.int .i64 4, .string ⟨#[116]⟩, .slice none 0 0, .slice none 0 0, .int .i64 0, .int .i64 0, .slice none 0 0] 27)
  generalize vp.alloc (.cells #[.int .i64 4, .string ⟨#[116]⟩, .slice none 0 0, .slice none 0 0, .int .i64 0, .int .i64 0, .slice none 0 0] 27) = vq at *
  have HEl : Hid (vp.heap.size ≤ vp.heap.size) := Nat.le_refl _
  generalize hE : vp.heap.size = E at HE HEl ⊢
  have z0 := (seven_cell HE.out).1
  have f0 := (seven_frozen HE.out).1
  go_upto_region 19 with fail
  clear z0 f0
  have HE2 : Hid _ := set7_0 HE.out (.int .i64 3)
  have HKr : Hid _ := HKn.out.setNew (ad := ⟨E, 0, none⟩) (by rw [hE]; exact Nat.le_refl _) (.int .i64 3)
  clear HE HKn
  generalize vq.setCell ⟨E, 0, none⟩ (.int .i64 3) = vr at *
  have HM8 : Hid (Shd w1 vr S 40 (lkA false k).2) := HM7.out.all HKr.out
  have HL8 : Hid (Kept (fun k => k < w1.heap.size) w1 vr) := HL7.out.trans (HKr.out.mono (fun _ _ _ => trivial))
  have HAr : Hid _ := (HKr.out.block _ (lt_of_block HAp.out) trivial).trans HAp.out
  obtain ⟨z0, z1, z2, z3, z4, z5, z6⟩ := seven_cell HE2.out
  clear HE2 HKr HM7 HL7 HAp HEl hE
  have cd := (do_end HM8.out HL8.out.size 3 [116] (.inl rfl) (by decide) (by decide)).mono (fun e w' h => h.ex)
  go_upto_region 20 with (first
    | (go_at_call 10; refine Calls.mono cd ?_; rintro e vs ⟨ke, o4, m4, c4, x4, y4, hke, rfl, mm, qq, kk⟩; have HM9 : Hid (Shd w1 vs S 50 (lkE false k true).2) := mm; have HL9 : Hid (Kept (fun k => k < w1.heap.size) w1 vs) := HL8.out.trans kk; have HAs : Hid _ := qq.block HAr.out (by decide); clear cd hke mm qq kk))
  clear HAr HM8 HL8 z0 z1 z2 z3 z4 z5 z6
  obtain ⟨b', off, e, hb, q0, q1, q2, q3⟩ := (Ov.block (os := lkAsks) HAs.out rfl (by unfold lkAsks; simp) 5).at k hk5
  cases e
  have HOq : Hid (lkAsks[k].cas.length ≤ 1000) := lk_cas k hk5
  rw [lk_asks] at q0 q1 q2 q3
  have HOc : Hid ((lkAsk k).cas.length ≤ 1000) := by have := HOq.out; rw [lk_asks] at this; exact this
  obtain ⟨oq, hoq⟩ : ∃ oq, oq = lkAsk k := ⟨_, rfl⟩
  rw [← hoq] at q0 q1 q2 q3
  have HQe : Hid (oq = lkAsk k) := hoq
  clear hoq hb HOq
  simp only [Nat.zero_add] at q0 q1 q2 q3
  have s0 : (0 : Int) ≤ (k : Int) := by omega
  have s1 : (k : Int) < 5 := by omega
  have ka := (Kept.refl (fun _ => True) vs).alloc (.cells #[.int .i64 oq.kind, .string ⟨oq.cas.toArray⟩, .string ⟨oq.name.toArray⟩, .int .i64 oq.n] 47)
  have co := onceL_any (Ov.block (os := [oq]) (heap_alloc_new vs (.cells #[.int .i64 oq.kind, .string ⟨oq.cas.toArray⟩, .string ⟨oq.name.toArray⟩, .int .i64 oq.n] 47)) rfl (by simp) 1) (fun n k h => by cases h) (by simp)
  have HKa : Hid _ := ka
  clear ka HAs
  go_upto_region 21 with (first
    | (go_at_call 15; refine Calls.mono co ?_; rintro e vt ⟨ov2, rfl, hcm, k3⟩; have HKt : Hid (Kept (fun _ => True) vs vt) := HKa.out.trans k3; have cd := (do_once (HM9.out.all HKt.out) (Nat.le_trans HL9.out.size HKt.out.size) hcm (by intro o ho; rw [List.mem_singleton.1 ho, HQe.out]; exact HOc.out) (by decide)).mono (fun e w' h => h.ex); clear co k3 hcm)
    | (go_at_call 10; refine Calls.mono cd ?_; rintro e vu ⟨kr, o5, m5, c5, x5, y5, hkr, rfl, mm, qq, kk⟩; rw [HQe.out] at hkr mm; have HM10 : Hid (Shd w1 vu S 60 (lkR false k true).2) := mm; have HKr : Hid (kr = (lkR false k true).1.kind) := hkr; have HL10 : Hid (Kept (fun k => k < w1.heap.size) w1 vu) := (HL9.out.trans (HKt.out.mono (fun _ _ _ => trivial))).trans kk; clear cd hkr mm qq kk))
  clear q0 q1 q2 q3 s0 s1
  have hf := lk_facts false k (by omega) true
  have hne : ¬ kr = 3 := by rw [HKr.out]; exact hf.2.2.1
  have hr4 : ((kr : Int) != 3) = true := by
    have hr3 : ¬ (kr : Int) = 3 := by omega
    simp [hr3]
  have HPs : Hid ((lkR false k true).2.ps = []) := hf.2.2.2
  clear hf hne HKr HM9 HL9 HKa HKt HQe HOc
  have HR : Hid _ := heap_alloc_new vu (.cells #[.int .i64 (kr : Nat), .slice o5 m5 c5, .int .i64 x5, .int .i64 y5, .slice none 0 0] 38)
  have HKn : Hid _ := (Kept.refl (fun _ => True) vu).alloc (.cells #[.int .i64 (kr : Nat), .slice o5 m5 c5, .int .i64 x5, .int .i64 y5, .slice none 0 0] 38)
  generalize vu.alloc (.cells #[.int .i64 (kr : Nat), .slice o5 m5 c5, .int .i64 x5, .int .i64 y5, .slice none 0 0] 38) = vv at *
  generalize vu.heap.size = P3 at *
  have HM11 : Hid (Shd w1 vv S 60 (lkR false k true).2) := HM10.out.all HKn.out
  have HL11 : Hid (Kept (fun k => k < w1.heap.size) w1 vv) := HL10.out.trans (HKn.out.mono (fun _ _ _ => trivial))
  have r0 := (five_free HR.out).1.1
  clear HR HKn HM10 HL10
  have cp := prepared_none HM11.out HPs.out (by decide)
  go_wp2_with (first
    | (go_at_call 19; refine Calls.mono cp ?_; rintro e vx ⟨o6, c6, rfl, k3⟩; have HKx : Hid (Kept (fun _ => True) vv vx) := k3; have ck := knownS_any (HM11.out.tab.all k3); clear cp k3)
    | (go_at_call 14; refine Calls.mono ck ?_; rintro e vy ⟨rfl, k3⟩; have HKy : Hid (Kept (fun _ => True) vx vy) := k3; clear ck k3))
  go_ret
  refine ⟨rfl, ?_⟩
  have k5 := HL11.out.trans ((HKx.out.trans HKy.out).mono (fun _ _ _ => trivial))
  exact HK1.out.trans (k5.mono (fun i hi _ => hi))

set_option maxRecDepth 100000 in
set_option maxHeartbeats 16000000 in
theorem locked_false_false {w : World} (hTab : Tab w) (ask : Int) : Calls Tryz.prog 4 #[.bool false, .int .i64 ask, .bool false] w fun e w' => e = .returned (.bool true) ∧ Kept (fun _ => True) w w' := by
  have ct := typesT_any (w := w)
  have HTb : Hid (Tab w) := hTab
  clear hTab
  go_enter Tryz.func4, Tryz.ntmps4
  go_upto_region 2 with (first
    | (go_at_call 8; refine Calls.mono ct ?_; rintro e w1 ⟨g, rfl, hty, k1⟩; have HK1 : Hid (Kept (fun _ => True) w w1) := k1; have cf := fresh_any hty (fun ao n cap h => by cases h; exact Nat.le_refl _) book_ok book_sz; clear ct hty k1)
    | (go_at_call 7; refine Calls.mono cf ?_; rintro e w2 ⟨a, tv', h, R, rfl, md, r1, r2, r3, r4⟩; have HM : Hid (Shd w1 w2 a.S 0 kn0) := Shd.made md book_ok (HTb.out.all HK1.out); have HK2 : Hid (Kept (fun _ => True) w1 w2) := md.kept; clear cf md r1 r2 r3 r4))
  generalize a.S = S at *
  clear a tv' h
  have HL0 : Hid (Kept (fun k => k < w1.heap.size) w1 w2) := HK2.out.mono (fun _ _ _ => trivial)
  clear HK2
  have cc := createOp_any (w := w2) [97] [99, 111, 117, 110, 116]
  unfold opV at cc
  go_upto_region 5 with (first
    | (go_at_call 16; refine Calls.mono cc ?_; rintro e va ⟨rfl, k3⟩; have HKa : Hid (Kept (fun _ => True) w2 va) := k3; have cc2 := createOp_any (w := va) [98] [99, 111, 117, 110, 116]; unfold opV at cc2; clear cc k3)
    | (go_at_call 16; refine Calls.mono cc2 ?_; rintro e vb ⟨rfl, k3⟩; have HKb : Hid (Kept (fun _ => True) va vb) := k3; have HKc : Hid (Kept (fun _ => True) vb (vb.alloc (.cells #[.int .i64 1, .string ⟨#[97]⟩, .string ⟨#[99, 111, 117, 110, 116]⟩, .int .i64 0, .int .i64 1, .string ⟨#[98]⟩, .string ⟨#[99, 111, 117, 110, 116]⟩, .int .i64 0] 47))) := (Kept.refl _ vb).alloc _; have co := onceL_any (Ov.block (os := [⟨1, [97], [99, 111, 117, 110, 116], 0⟩, ⟨1, [98], [99, 111, 117, 110, 116], 0⟩]) (heap_alloc_new vb (.cells #[.int .i64 1, .string ⟨#[97]⟩, .string ⟨#[99, 111, 117, 110, 116]⟩, .int .i64 0, .int .i64 1, .string ⟨#[98]⟩, .string ⟨#[99, 111, 117, 110, 116]⟩, .int .i64 0] 47)) rfl (by simp) 2) (fun n k h => by cases h) (by simp); clear cc2 k3)
    | (go_at_call 15; refine Calls.mono co ?_; rintro e vc ⟨ov, rfl, hcm, k3⟩; have HKd : Hid (Kept (fun _ => True) w2 vc) := (HKa.out.trans HKb.out).trans (HKc.out.trans k3); have cd := (do_once (HM.out.all HKd.out) (Nat.le_trans HL0.out.size HKd.out.size) hcm (by simp) (by decide)).mono (fun e w' h => h.ex); clear co k3 hcm HKa HKb HKc)
    | (go_at_call 10; refine Calls.mono cd ?_; rintro e vd ⟨kd, o0, m0, c0, x0, y0, hkd, rfl, mm, qq, kk⟩; have HM1 : Hid (Shd w1 vd S 10 lk0) := mm; have HL1 : Hid (Kept (fun k => k < w1.heap.size) w1 vd) := (HL0.out.trans (HKd.out.mono (fun _ _ _ => trivial))).trans kk; clear cd hkd mm qq kk))
  clear HM HL0 HKd
  have cc := readOp_any (w := vd) [97]
  unfold opV at cc
  go_upto_region 6 with (first
    | (go_at_call 17; refine Calls.mono cc ?_; rintro e ve ⟨rfl, k3⟩; have HKa : Hid (Kept (fun _ => True) vd ve) := k3; clear cc k3))
  have HKn : Hid _ := HKa.out.alloc (.cells #[.int .i64 5, .string ⟨#[97]⟩, .string ⟨#[]⟩, .int .i64 0] 47)
  have HB : Hid _ := heap_alloc_new ve (.cells #[.int .i64 5, .string ⟨#[97]⟩, .string ⟨#[]⟩, .int .i64 0] 47)
  generalize ve.alloc (.cells #[.int .i64 5, .string ⟨#[97]⟩, .string ⟨#[]⟩, .int .i64 0] 47) = vf at *
  have HZ : Hid (vd.heap.size ≤ ve.heap.size) := HKa.out.size
  generalize ve.heap.size = D at *
  clear HKa
  have HB2 : Hid _ := HB.out
  have HKn2 : Hid _ := HKn.out
  clear HB HKn
  generalize vf = vh at *
  have HM2 : Hid (Shd w1 vh S 10 lk0) := HM1.out.all HKn2.out
  have HL2 : Hid (Kept (fun k => k < w1.heap.size) w1 vh) := HL1.out.trans (HKn2.out.mono (fun _ _ _ => trivial))
  obtain ⟨⟨z0, z1, z2, z3⟩, f0, f1, f2, f3⟩ := four_cell HB2.out
  clear f0 f1 f2 f3 HB2 HKn2 HM1 HL1 HZ
  have cd := (do_one HM2.out HL2.out.size 2 [116] ⟨5, [97], [], 0⟩ (.inr rfl) (by decide) (by decide) (by decide)).mono (fun e w' h => h.kind (k := 1) (lk_facts false 0 (by decide) false).1 (rfl : _ = (lkP false).2) rfl)
  go_upto_region 9 with (first
    | (go_at_call 10; refine Calls.mono cd ?_; rintro e vi ⟨o1, m1, c1, x1, y1, rfl, hh, mm, qq, kk⟩; have HM3 : Hid (Shd w1 vi S 20 (lkP false).2) := mm; have HL3 : Hid (Kept (fun k => k < w1.heap.size) w1 vi) := HL2.out.trans kk; clear cd hh mm qq kk))
  clear z0 z1 z2 z3 HM2 HL2
  have HP : Hid _ := heap_alloc_new vi (.cells #[.int .i64 1, .slice o1 m1 c1, .int .i64 x1, .int .i64 y1, .slice none 0 0] 38)
  have HKn : Hid _ := (Kept.refl (fun _ => True) vi).alloc (.cells #[.int .i64 1, .slice o1 m1 c1, .int .i64 x1, .int .i64 y1, .slice none 0 0] 38)
  generalize vi.alloc (.cells #[.int .i64 1, .slice o1 m1 c1, .int .i64 x1, .int .i64 y1, .slice none 0 0] 38) = vj at *
  generalize vi.heap.size = P1 at *
  have cc0 := readOp_any (w := vj) [97]
  unfold opV at cc0
  go_upto_region 10 with (first
    | (go_at_call 17; refine Calls.mono cc0 ?_; rintro e vk0 ⟨rfl, k3⟩; have HJ0 : Hid (Kept (fun _ => True) vi vk0) := HKn.out.trans k3; have HQ0 : Hid (Kept (fun _ => True) vj vk0) := k3; have cc1 := addOp_any (w := vk0) [97] [110] 2; unfold opV at cc1; clear cc0 k3)
    | (go_at_call 18; refine Calls.mono cc1 ?_; rintro e vk1 ⟨rfl, k3⟩; have HJ1 : Hid (Kept (fun _ => True) vi vk1) := HJ0.out.trans k3; have HQ1 : Hid (Kept (fun _ => True) vj vk1) := HQ0.out.trans k3; have cc2 := readOp_any (w := vk1) [98]; unfold opV at cc2; clear cc1 k3 HJ0 HQ0)
    | (go_at_call 17; refine Calls.mono cc2 ?_; rintro e vk2 ⟨rfl, k3⟩; have HJ2 : Hid (Kept (fun _ => True) vi vk2) := HJ1.out.trans k3; have HQ2 : Hid (Kept (fun _ => True) vj vk2) := HQ1.out.trans k3; have cc3 := addOp_any (w := vk2) [98] [110] 3; unfold opV at cc3; clear cc2 k3 HJ1 HQ1)
    | (go_at_call 18; refine Calls.mono cc3 ?_; rintro e vk3 ⟨rfl, k3⟩; have HJ3 : Hid (Kept (fun _ => True) vi vk3) := HJ2.out.trans k3; have HQ3 : Hid (Kept (fun _ => True) vj vk3) := HQ2.out.trans k3; have cc4 := createOp_any (w := vk3) [97] [99, 111, 117, 110, 116]; unfold opV at cc4; clear cc3 k3 HJ2 HQ2)
    | (go_at_call 16; refine Calls.mono cc4 ?_; rintro e vk4 ⟨rfl, k3⟩; have HJ4 : Hid (Kept (fun _ => True) vi vk4) := HJ3.out.trans k3; have HQ4 : Hid (Kept (fun _ => True) vj vk4) := HQ3.out.trans k3; clear cc4 k3 HJ3 HQ3))
  have HA : Hid _ := heap_alloc_new vk4 (.cells #[.int .i64 5, .string ⟨#[97]⟩, .string ⟨#[]⟩, .int .i64 0, .int .i64 3, .string ⟨#[97]⟩, .string ⟨#[110]⟩, .int .i64 2, .int .i64 5, .string ⟨#[98]⟩, .string ⟨#[]⟩, .int .i64 0, .int .i64 3, .string ⟨#[98]⟩, .string ⟨#[110]⟩, .int .i64 3, .int .i64 1, .string ⟨#[97]⟩, .string ⟨#[99, 111, 117, 110, 116]⟩, .int .i64 0] 47)
  have ka := (Kept.refl (fun _ => True) vk4).alloc (.cells #[.int .i64 5, .string ⟨#[97]⟩, .string ⟨#[]⟩, .int .i64 0, .int .i64 3, .string ⟨#[97]⟩, .string ⟨#[110]⟩, .int .i64 2, .int .i64 5, .string ⟨#[98]⟩, .string ⟨#[]⟩, .int .i64 0, .int .i64 3, .string ⟨#[98]⟩, .string ⟨#[110]⟩, .int .i64 3, .int .i64 1, .string ⟨#[97]⟩, .string ⟨#[99, 111, 117, 110, 116]⟩, .int .i64 0] 47)
  have HKm : Hid _ := HJ4.out.trans ka
  have HP2 : Hid _ := ((HQ4.out.trans ka).block _ (lt_of_block HP.out) trivial).trans HP.out
  clear ka HJ4 HQ4 HP HKn
  generalize vk4.alloc (.cells #[.int .i64 5, .string ⟨#[97]⟩, .string ⟨#[]⟩, .int .i64 0, .int .i64 3, .string ⟨#[97]⟩, .string ⟨#[110]⟩, .int .i64 2, .int .i64 5, .string ⟨#[98]⟩, .string ⟨#[]⟩, .int .i64 0, .int .i64 3, .string ⟨#[98]⟩, .string ⟨#[110]⟩, .int .i64 3, .int .i64 1, .string ⟨#[97]⟩, .string ⟨#[99, 111, 117, 110, 116]⟩, .int .i64 0] 47) = vm at *
  generalize vk4.heap.size = G at *
  have HM4 : Hid (Shd w1 vm S 20 (lkP false).2) := HM3.out.all HKm.out
  have HL4 : Hid (Kept (fun k => k < w1.heap.size) w1 vm) := HL3.out.trans (HKm.out.mono (fun _ _ _ => trivial))
  clear HM3 HL3 HKm
  have cw := wi_any (w := vm) ask 4 (by decide)
  have hk := wi_le ask 4
  generalize wi ask 4 = k at *
  go_upto_region 11 with (first
    | (go_at_call 11; refine Calls.mono cw ?_; rintro e vm ⟨rfl, rfl⟩; clear cw))
  have hk5 : k < lkAsks.length := by unfold lkAsks; simp only [List.length_cons, List.length_nil]; omega
  have HOv : Hid (Ov vm (.slice (some ⟨G, 0, none⟩) 5 5) lkAsks) := Ov.block (os := lkAsks) HA.out rfl (by unfold lkAsks; simp) 5
  have s0 : (0 : Int) ≤ (k : Int) := by omega
  have s1 : (k : Int) ≤ (k : Int) + 1 := by omega
  have s2 : (k : Int) + 1 ≤ 5 := by omega
  go_upto_region 12 with (first
    | (go_at_call 10; refine Calls.mono ((do_piece HM4.out HL4.out.size HOv.out hk5 _ (by simp) 2 [117] (.inr rfl) (lk_cas k hk5) (by decide) (by decide)).mono (fun e w' h => h.ex)) ?_; rintro e vn ⟨kq, o2, m2, c2, x2, y2, hkq, rfl, mm, qq, kk⟩; rw [lk_asks] at hkq mm; have HM5 : Hid (Shd w1 vn S 30 (lkQ false k).2) := mm; have HL5 : Hid (Kept (fun k => k < w1.heap.size) w1 vn) := HL4.out.trans kk; have HO5 : Hid (Oth vm vn) := qq; have HKq : Hid (kq = (lkQ false k).1.kind) := hkq; clear hkq mm qq kk))
  have HPn : Hid _ := HO5.out.block HP2.out (by decide)
  have HAn : Hid _ := HO5.out.block HA.out (by decide)
  have HQn : Hid _ := heap_alloc_new vn (.cells #[.int .i64 (kq : Nat), .slice o2 m2 c2, .int .i64 x2, .int .i64 y2, .slice none 0 0] 38)
  have HKn : Hid _ := (Kept.refl (fun _ => True) vn).alloc (.cells #[.int .i64 (kq : Nat), .slice o2 m2 c2, .int .i64 x2, .int .i64 y2, .slice none 0 0] 38)
  clear HP2 HA HO5 HOv HM4 HL4
  generalize vn.alloc (.cells #[.int .i64 (kq : Nat), .slice o2 m2 c2, .int .i64 x2, .int .i64 y2, .slice none 0 0] 38) = vo at *
  generalize vn.heap.size = P2 at *
  have HPo : Hid _ := (HKn.out.block _ (lt_of_block HPn.out) trivial).trans HPn.out
  have HAo : Hid _ := (HKn.out.block _ (lt_of_block HAn.out) trivial).trans HAn.out
  have HM6 : Hid (Shd w1 vo S 30 (lkQ false k).2) := HM5.out.all HKn.out
  have HL6 : Hid (Kept (fun k => k < w1.heap.size) w1 vo) := HL5.out.trans (HKn.out.mono (fun _ _ _ => trivial))
  clear HPn HAn HKn HM5 HL5 s0 s1 s2
  go_cut [15] from 56 to 69 (fun t wx => t = .bool (lkFree false k) ∧ vo = wx)
  case first =>
    clear HPo HAo HQn HM6 HL6 HKq
    have h5 : k = 0 ∨ k = 1 ∨ k = 2 ∨ k = 3 ∨ k = 4 := by omega
    clear hk hk5
    rcases h5 with rfl | rfl | rfl | rfl | rfl
    all_goals
      go_wp2_with fail
      go_meet
      exact ⟨rfl, rfl⟩
  case rest =>
  obtain ⟨rfl, hw⟩ := hcut
  subst hw
  have hq1 := lk_q3 false k (by omega) HKq.out
  generalize lkFree false k = fr at *
  have p0 := (five_free HPo.out).1.1
  have q0 := (five_free HQn.out).1.1
  clear HPo HQn HKq
  go_upto_region 15 with fail
  clear p0 q0 hq1
  have cd := (do_end HM6.out HL6.out.size 4 [117] (.inr rfl) (by decide) (by decide)).mono (fun e w' h => h.ex)
  go_upto_region 16 with (first
    | (go_at_call 10; refine Calls.mono cd ?_; rintro e vp ⟨ku, o3, m3, c3, x3, y3, hku, rfl, mm, qq, kk⟩; have HM7 : Hid (Shd w1 vp S 40 (lkA false k).2) := mm; have HL7 : Hid (Kept (fun k => k < w1.heap.size) w1 vp) := HL6.out.trans kk; have HAp : Hid _ := qq.block HAo.out (by decide); clear cd hku mm qq kk))
  clear HAo HM6 HL6
  go_upto_region 17 with fail
  have HE : Hid _ := heap_alloc_new vp (.cells #[.int .i64 4, .string ⟨#[116]⟩, .slice none 0 0, .slice none 0 0, .int .i64 0, .int .i64 0, .slice none 0 0] 27)
  have HKn : Hid _ := (Kept.refl (fun _ => True) vp).alloc (.cells #[.int .i64 4, .string ⟨#[116]⟩, .slice none 0 0, .slice none 0 0, .int .i64 0, .int .i64 0, .slice none 0 0] 27)
  generalize vp.alloc (.cells #[.int .i64 4, .string ⟨#[116]⟩, .slice none 0 0, .slice none 0 0, .int .i64 0, .int .i64 0, .slice none 0 0] 27) = vq at *
  have HEl : Hid (vp.heap.size ≤ vp.heap.size) := Nat.le_refl _
  generalize hE : vp.heap.size = E at HE HEl ⊢
  have HE2 : Hid _ := HE.out
  have HKr : Hid _ := HKn.out
  clear HE HKn
  generalize vq = vr at *
  have HM8 : Hid (Shd w1 vr S 40 (lkA false k).2) := HM7.out.all HKr.out
  have HL8 : Hid (Kept (fun k => k < w1.heap.size) w1 vr) := HL7.out.trans (HKr.out.mono (fun _ _ _ => trivial))
  have HAr : Hid _ := (HKr.out.block _ (lt_of_block HAp.out) trivial).trans HAp.out
  obtain ⟨z0, z1, z2, z3, z4, z5, z6⟩ := seven_cell HE2.out
  clear HE2 HKr HM7 HL7 HAp HEl hE
  have cd := (do_end HM8.out HL8.out.size 4 [116] (.inr rfl) (by decide) (by decide)).mono (fun e w' h => h.ex)
  go_upto_region 20 with (first
    | (go_at_call 10; refine Calls.mono cd ?_; rintro e vs ⟨ke, o4, m4, c4, x4, y4, hke, rfl, mm, qq, kk⟩; have HM9 : Hid (Shd w1 vs S 50 (lkE false k false).2) := mm; have HL9 : Hid (Kept (fun k => k < w1.heap.size) w1 vs) := HL8.out.trans kk; have HAs : Hid _ := qq.block HAr.out (by decide); clear cd hke mm qq kk))
  clear HAr HM8 HL8 z0 z1 z2 z3 z4 z5 z6
  obtain ⟨b', off, e, hb, q0, q1, q2, q3⟩ := (Ov.block (os := lkAsks) HAs.out rfl (by unfold lkAsks; simp) 5).at k hk5
  cases e
  have HOq : Hid (lkAsks[k].cas.length ≤ 1000) := lk_cas k hk5
  rw [lk_asks] at q0 q1 q2 q3
  have HOc : Hid ((lkAsk k).cas.length ≤ 1000) := by have := HOq.out; rw [lk_asks] at this; exact this
  obtain ⟨oq, hoq⟩ : ∃ oq, oq = lkAsk k := ⟨_, rfl⟩
  rw [← hoq] at q0 q1 q2 q3
  have HQe : Hid (oq = lkAsk k) := hoq
  clear hoq hb HOq
  simp only [Nat.zero_add] at q0 q1 q2 q3
  have s0 : (0 : Int) ≤ (k : Int) := by omega
  have s1 : (k : Int) < 5 := by omega
  have ka := (Kept.refl (fun _ => True) vs).alloc (.cells #[.int .i64 oq.kind, .string ⟨oq.cas.toArray⟩, .string ⟨oq.name.toArray⟩, .int .i64 oq.n] 47)
  have co := onceL_any (Ov.block (os := [oq]) (heap_alloc_new vs (.cells #[.int .i64 oq.kind, .string ⟨oq.cas.toArray⟩, .string ⟨oq.name.toArray⟩, .int .i64 oq.n] 47)) rfl (by simp) 1) (fun n k h => by cases h) (by simp)
  have HKa : Hid _ := ka
  clear ka HAs
  go_upto_region 21 with (first
    | (go_at_call 15; refine Calls.mono co ?_; rintro e vt ⟨ov2, rfl, hcm, k3⟩; have HKt : Hid (Kept (fun _ => True) vs vt) := HKa.out.trans k3; have cd := (do_once (HM9.out.all HKt.out) (Nat.le_trans HL9.out.size HKt.out.size) hcm (by intro o ho; rw [List.mem_singleton.1 ho, HQe.out]; exact HOc.out) (by decide)).mono (fun e w' h => h.ex); clear co k3 hcm)
    | (go_at_call 10; refine Calls.mono cd ?_; rintro e vu ⟨kr, o5, m5, c5, x5, y5, hkr, rfl, mm, qq, kk⟩; rw [HQe.out] at hkr mm; have HM10 : Hid (Shd w1 vu S 60 (lkR false k false).2) := mm; have HKr : Hid (kr = (lkR false k false).1.kind) := hkr; have HL10 : Hid (Kept (fun k => k < w1.heap.size) w1 vu) := (HL9.out.trans (HKt.out.mono (fun _ _ _ => trivial))).trans kk; clear cd hkr mm qq kk))
  clear q0 q1 q2 q3 s0 s1
  have hf := lk_facts false k (by omega) false
  have hne : ¬ kr = 3 := by rw [HKr.out]; exact hf.2.2.1
  have hr4 : ((kr : Int) != 3) = true := by
    have hr3 : ¬ (kr : Int) = 3 := by omega
    simp [hr3]
  have HPs : Hid ((lkR false k false).2.ps = []) := hf.2.2.2
  clear hf hne HKr HM9 HL9 HKa HKt HQe HOc
  have HR : Hid _ := heap_alloc_new vu (.cells #[.int .i64 (kr : Nat), .slice o5 m5 c5, .int .i64 x5, .int .i64 y5, .slice none 0 0] 38)
  have HKn : Hid _ := (Kept.refl (fun _ => True) vu).alloc (.cells #[.int .i64 (kr : Nat), .slice o5 m5 c5, .int .i64 x5, .int .i64 y5, .slice none 0 0] 38)
  generalize vu.alloc (.cells #[.int .i64 (kr : Nat), .slice o5 m5 c5, .int .i64 x5, .int .i64 y5, .slice none 0 0] 38) = vv at *
  generalize vu.heap.size = P3 at *
  have HM11 : Hid (Shd w1 vv S 60 (lkR false k false).2) := HM10.out.all HKn.out
  have HL11 : Hid (Kept (fun k => k < w1.heap.size) w1 vv) := HL10.out.trans (HKn.out.mono (fun _ _ _ => trivial))
  have r0 := (five_free HR.out).1.1
  clear HR HKn HM10 HL10
  have cp := prepared_none HM11.out HPs.out (by decide)
  go_wp2_with (first
    | (go_at_call 19; refine Calls.mono cp ?_; rintro e vx ⟨o6, c6, rfl, k3⟩; have HKx : Hid (Kept (fun _ => True) vv vx) := k3; have ck := knownS_any (HM11.out.tab.all k3); clear cp k3)
    | (go_at_call 14; refine Calls.mono ck ?_; rintro e vy ⟨rfl, k3⟩; have HKy : Hid (Kept (fun _ => True) vx vy) := k3; clear ck k3))
  go_ret
  refine ⟨rfl, ?_⟩
  have k5 := HL11.out.trans ((HKx.out.trans HKy.out).mono (fun _ _ _ => trivial))
  exact HK1.out.trans (k5.mono (fun i hi _ => hi))

theorem shardLocked_any {w : World} (hTab : Tab w) (b : Bool) (ask : Int) (c : Bool) : Calls Tryz.prog 4 #[.bool b, .int .i64 ask, .bool c] w fun e w' => e = .returned (.bool true) ∧ Kept (fun _ => True) w w' := by
  cases b with
  | true => cases c with
    | true => exact locked_true_true hTab ask
    | false => exact locked_true_false hTab ask
  | false => cases c with
    | true => exact locked_false_true hTab ask
    | false => exact locked_false_false hTab ask

end Go.Proofs.YtjgpbnljodengaaGreatDoor

namespace Go.Proofs.YtjgpbnljodengaaGreatDoor
open Go.ChangeShapes Go.WideShapes Go.ChangeAt Go.RowKit

theorem own : ownKnob Tryz.prog.godebug = none := by kernel_rfl
end Go.Proofs.YtjgpbnljodengaaGreatDoor

namespace Go.Proofs.YtjgpbnljodengaaGreatDoor
open Go.RowKit Go.Deep Go.Joins Go.WideShapes Go.ChangeShapes Go.ChangeAt

/-- What the rows list. -/
def listed : List (String × DataW Unit) := [("math/bits.deBruijn32tab", Rows.laid_math_bits_deBruijn32tab), ("math/bits.deBruijn64tab", Rows.laid_math_bits_deBruijn64tab), ("internal/strconv.uint64pow10", Rows.laid_internal_strconv_uint64pow10)]
theorem listed_tab {W : World} (h : laidMetH Tryz.prog listed W) : Tab W := by
  rw [MakeChecks.laidMetH_plain _ _ _ (by kernel_rfl)] at h
  have h3 : laidMet Tryz.prog (("internal/strconv.uint64pow10", Lib.tabData .u64 Lib.pow10Tab) :: []) W := h.tail.tail
  exact Lib.tabIs_of_head (g := 0) (t := 280) (e := 156) (n := 20) (by kernel_rfl) (by kernel_rfl) Tryz.underlying280 Tryz.underlying156 (by kernel_rfl) (by kernel_rfl) h3
theorem witness_met (os : Os) (args : Array Value) : laidMetH Tryz.prog listed ((World.laidAll Tryz.prog os listed).forCall (fun _ _ => 0) ⟨#[], args, []⟩).memory := by
  rw [MakeChecks.laidMetH_plain _ _ _ (by kernel_rfl)]
  exact laidMet_laidAll _ (by kernel_rfl) (by kernel_rfl)

end Go.Proofs.YtjgpbnljodengaaGreatDoor
