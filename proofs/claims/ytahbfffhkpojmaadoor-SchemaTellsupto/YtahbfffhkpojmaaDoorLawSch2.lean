/-
  The law SchemaTells.
-/
import Derived.Test.YtahbfffhkpojmaaDoorTKn
import Derived.Test.YtahbfffhkpojmaaDoorTR9
namespace Go.Proofs.YtahbfffhkpojmaaDoor
open Go.RowKit

set_option maxRecDepth 100000 in
set_option maxHeartbeats 16000000 in
theorem schemaTells_any {w : World} {v : Value} {t : Ty} (h : TyV w v t) (hz : Tsz t) (ht : Tab w) (hf : Tfit t) (hw : (write t).length ≤ 140737488355328) (hn : (nms t).length ≤ 100000000) (s : List UInt8) (hs : s.length ≤ 9223372036854775807) :
    Calls Tryd.prog 4 #[v, .string ⟨s.toArray⟩] w fun e w' => e = .returned (.bool true) ∧ Kept (fun _ => True) w w' := by
  have HZ : Hid (Tsz t) := hz
  have HF : Hid (Tfit t) := hf
  have HW : Hid ((write t).length ≤ 140737488355328) := hw
  have HNl : Hid ((nms t).length ≤ 100000000) := hn
  have HTab : Hid (Tab w) := ht
  obtain ⟨ao, an, ac, so, sn, sc, mo, mn, mc, rfl⟩ := h.parts
  have k0 : Kept (fun _ => True) w (w.alloc (.cells #[.string ⟨t.name.toArray⟩, .slice ao an ac, .slice so sn sc, .slice mo mn mc] 26)) := (Kept.refl _ _).alloc _
  have HB : Hid _ := heap_alloc_new w (.cells #[.string ⟨t.name.toArray⟩, .slice ao an ac, .slice so sn sc, .slice mo mn mc] 26)
  have HV : Hid (TyV (w.alloc (.cells #[.string ⟨t.name.toArray⟩, .slice ao an ac, .slice so sn sc, .slice mo mn mc] 26)) (.agg #[.string ⟨t.name.toArray⟩, .slice ao an ac, .slice so sn sc, .slice mo mn mc]) t) := h.all k0
  have K0 : Hid _ := k0
  clear h hz ht k0 hf hw hn
  go_enter Tryd.func4, Tryd.ntmps4
  go_upto_if 13 with fail
  go_cut [1] from 11 to 15 (fun t1 wx => (∃ s1 : List UInt8, t1 = .string ⟨s1.toArray⟩ ∧ s1.length ≤ 600) ∧ wx = w.alloc (.cells #[.string ⟨t.name.toArray⟩, .slice ao an ac, .slice so sn sc, .slice mo mn mc] 26))
  case first =>
    by_cases h3 : 600 < s.length
    · have h3' : (600 : Int) < (s.length : Int) := by omega
      have n3 : ∀ w0, (Instr.slice 9 (.string ⟨s.toArray⟩) none (some (.int .i64 600)) none).run Tryd.prog w0 = .ok (.string ⟨(s.take 600).toArray⟩) w0 := tcut s 600 (by omega)
      have HL : Hid ((s.take 600).length ≤ 600) := by show _ ≤ _; rw [List.length_take]; omega
      generalize s.take 600 = s1 at *
      go_wp2_with fail
      go_meet
      exact ⟨⟨s1, rfl, HL.out⟩, rfl⟩
    · have h3' : ¬ (600 : Int) < (s.length : Int) := by omega
      go_wp2_with fail
      go_meet
      exact ⟨⟨s, rfl, by omega⟩, rfl⟩
  case rest =>
  obtain ⟨⟨s1, rfl, hs1⟩, rfl⟩ := hcut
  have cr := fun W => reads_any (w := W) s1 (by omega)
  have cq := fun W => rreads_any (w := W) s1 (by omega)
  generalize (read s1).2.2 = at1 at *
  generalize (read s1).2.1 = e1 at *
  generalize (read s1).1 = u at *
  generalize w.alloc (.cells #[.string ⟨t.name.toArray⟩, .slice ao an ac, .slice so sn sc, .slice mo mn mc] 26) = w1 at *
  obtain ⟨B, hBe⟩ : ∃ B, B = w.heap.size := ⟨_, rfl⟩
  rw [← hBe] at HB ⊢
  clear hBe
  go_wp2_with fail
  refine Calls.mono (cr _) ?_
  rintro e w2 ⟨uv, rfl, hu, k2⟩
  obtain ⟨ao2, an2, ac2, so2, sn2, sc2, mo2, mn2, mc2, rfl⟩ := hu.parts
  have k3 : Kept (fun _ => True) w1 (w2.alloc (.cells #[.string ⟨u.name.toArray⟩, .slice ao2 an2 ac2, .slice so2 sn2 sc2, .slice mo2 mn2 mc2] 26)) := k2.alloc _
  have HK3 : Hid _ := k3
  have HU : Hid _ := heap_alloc_new w2 (.cells #[.string ⟨u.name.toArray⟩, .slice ao2 an2 ac2, .slice so2 sn2 sc2, .slice mo2 mn2 mc2] 26)
  have HVu : Hid (TyV (w2.alloc (.cells #[.string ⟨u.name.toArray⟩, .slice ao2 an2 ac2, .slice so2 sn2 sc2, .slice mo2 mn2 mc2] 26)) (.agg #[.string ⟨u.name.toArray⟩, .slice ao2 an2 ac2, .slice so2 sn2 sc2, .slice mo2 mn2 mc2]) u) := hu.all ((Kept.refl _ _).alloc _)
  clear cr hu k2 k3
  go_wp2_with fail
  generalize w2.alloc (.cells #[.string ⟨u.name.toArray⟩, .slice ao2 an2 ac2, .slice so2 sn2 sc2, .slice mo2 mn2 mc2] 26) = w3 at *
  generalize w2.heap.size = U at *
  refine Calls.mono (cq _) ?_
  rintro e w4 ⟨qv, rfl, hq, k4⟩
  obtain ⟨ao3, an3, ac3, so3, sn3, sc3, mo3, mn3, mc3, rfl⟩ := hq.parts
  have k5 : Kept (fun _ => True) w3 (w4.alloc (.cells #[.string ⟨u.name.toArray⟩, .slice ao3 an3 ac3, .slice so3 sn3 sc3, .slice mo3 mn3 mc3] 26)) := k4.alloc _
  have HK5 : Hid _ := k5
  have HQ : Hid _ := heap_alloc_new w4 (.cells #[.string ⟨u.name.toArray⟩, .slice ao3 an3 ac3, .slice so3 sn3 sc3, .slice mo3 mn3 mc3] 26)
  have HVq : Hid (TyV (w4.alloc (.cells #[.string ⟨u.name.toArray⟩, .slice ao3 an3 ac3, .slice so3 sn3 sc3, .slice mo3 mn3 mc3] 26)) (.agg #[.string ⟨u.name.toArray⟩, .slice ao3 an3 ac3, .slice so3 sn3 sc3, .slice mo3 mn3 mc3]) u) := hq.all ((Kept.refl _ _).alloc _)
  clear cq hq k4 k5
  go_wp2_with fail
  generalize w4.alloc (.cells #[.string ⟨u.name.toArray⟩, .slice ao3 an3 ac3, .slice so3 sn3 sc3, .slice mo3 mn3 mc3] 26) = w6 at *
  generalize w4.heap.size = V at *
  have HK6 : Hid (Kept (fun _ => True) w1 w6) := HK3.out.trans HK5.out
  have HVt : Hid (TyV w6 (.agg #[.string ⟨t.name.toArray⟩, .slice ao an ac, .slice so sn sc, .slice mo mn mc]) t) := HV.out.all HK6.out
  have HVu6 : Hid (TyV w6 (.agg #[.string ⟨u.name.toArray⟩, .slice ao2 an2 ac2, .slice so2 sn2 sc2, .slice mo2 mn2 mc2]) u) := HVu.out.all HK5.out
  have HTb : Hid (Tab w6) := HTab.out.all (K0.out.trans HK6.out)
  have hB6 := (HK6.out.block B (lt_of_block HB.out) trivial).trans HB.out
  have hU6 := (HK5.out.block U (lt_of_block HU.out) trivial).trans HU.out
  obtain ⟨⟨x0, x1, x2, x3⟩, _⟩ := four_cell hB6
  obtain ⟨⟨u0, u1, u2, u3⟩, _⟩ := four_cell hU6
  obtain ⟨⟨r0, r1, r2, r3⟩, _⟩ := four_cell HQ.out
  have X0 := fun W (q : Kept (fun _ => True) w6 W) => (kept_cell q (lt_of_block hB6) trivial).trans x0
  have X1 := fun W (q : Kept (fun _ => True) w6 W) => (kept_cell q (lt_of_block hB6) trivial).trans x1
  have X2 := fun W (q : Kept (fun _ => True) w6 W) => (kept_cell q (lt_of_block hB6) trivial).trans x2
  have X3 := fun W (q : Kept (fun _ => True) w6 W) => (kept_cell q (lt_of_block hB6) trivial).trans x3
  have U0 := fun W (q : Kept (fun _ => True) w6 W) => (kept_cell q (lt_of_block hU6) trivial).trans u0
  have U1 := fun W (q : Kept (fun _ => True) w6 W) => (kept_cell q (lt_of_block hU6) trivial).trans u1
  have U2 := fun W (q : Kept (fun _ => True) w6 W) => (kept_cell q (lt_of_block hU6) trivial).trans u2
  have U3 := fun W (q : Kept (fun _ => True) w6 W) => (kept_cell q (lt_of_block hU6) trivial).trans u3
  have R0 := fun W (q : Kept (fun _ => True) w6 W) => (kept_cell q (lt_of_block HQ.out) trivial).trans r0
  have R1 := fun W (q : Kept (fun _ => True) w6 W) => (kept_cell q (lt_of_block HQ.out) trivial).trans r1
  have R2 := fun W (q : Kept (fun _ => True) w6 W) => (kept_cell q (lt_of_block HQ.out) trivial).trans r2
  have R3 := fun W (q : Kept (fun _ => True) w6 W) => (kept_cell q (lt_of_block HQ.out) trivial).trans r3
  have kd : Kept (fun _ => True) w6 w6.drew := (Kept.refl _ _).drew
  have HKw : Hid (Kept (fun _ => True) w w6) := K0.out.trans HK6.out
  obtain ⟨cx, hcx⟩ : ∃ cx, cx = right t := ⟨_, rfl⟩
  have HCX : Hid (right t = cx) := hcx.symm
  obtain ⟨WT, hWT⟩ : ∃ WT, WT = write t := ⟨_, rfl⟩
  have HWT : Hid (write t = WT) := hWT.symm
  clear x0 x1 x2 x3 u0 u1 u2 u3 r0 r1 r2 r3 hB6 hU6 HB HU HQ HV HVu HK3 HK5 HK6 K0 HTab hcx hWT
  go_region_held3 (fun W => Kept (fun _ => True) w6 W) (assumption) (first
    | (go_at_call 11; have c := right_any (HVt.out.all (by assumption)) HZ.out; rw [HCX.out] at c; refine Calls.mono c ?_; clear c; rintro e v1 ⟨rfl, m1⟩; have p1 : Kept (fun _ => True) w6 v1 := Kept.trans (by assumption) m1; clear m1)
    | (go_at_call 16; have c := rright_any (HVt.out.all (by assumption)) HZ.out; rw [HCX.out] at c; refine Calls.mono c ?_; clear c; rintro e v2 ⟨rfl, m2⟩; have p2 : Kept (fun _ => True) w6 v2 := Kept.trans (by assumption) m2; clear m2)
    | (go_at_call 14; have c := write_any (HVt.out.all (by assumption)) (HTb.out.all (by assumption)) HF.out HW.out; rw [HWT.out] at c; refine Calls.mono c ?_; clear c; rintro e v3 ⟨rfl, m3⟩; have p3 : Kept (fun _ => True) w6 v3 := Kept.trans (by assumption) m3; clear m3)
    | (go_at_call 17; have c := rwrite_any (HVt.out.all (by assumption)) HF.out HW.out; rw [HWT.out] at c; refine Calls.mono c ?_; clear c; rintro e v4 ⟨rfl, m4⟩; have p4 : Kept (fun _ => True) w6 v4 := Kept.trans (by assumption) m4; clear m4)
    | (go_at_call 13; refine Calls.mono (names_any (HVt.out.all (by assumption)) HNl.out) ?_; rintro e v5 ⟨nv, rfl, hn, m5⟩; obtain ⟨na, nc, rfl, _⟩ := hn.shape; have HN1 : Hid (Txs v5 _ _ (nms t)) := hn; have p5 : Kept (fun _ => True) w6 v5 := Kept.trans (by assumption) m5; clear m5 hn)
    | (go_at_call 18; refine Calls.mono (rnames_any (HVt.out.all (by assumption)) HNl.out) ?_; rintro e v7 ⟨nv2, rfl, hn, m7⟩; obtain ⟨nb, nd, rfl, _⟩ := hn.shape; have HN2 : Hid (Txs v7 _ _ (nms t)) := hn; have HN3 : Hid (Txs v7 _ _ (nms t)) := Txs.kept HN1.out m7 (fun _ _ => trivial); have p7 : Kept (fun _ => True) w6 v7 := Kept.trans (by assumption) m7; clear m7 hn)
    | (go_at_call 12; refine Calls.mono (texts_same HN3.out HN2.out (by have := HNl.out; omega)) ?_; rintro e v8 ⟨rfl, m8⟩; have p8 : Kept (fun _ => True) w6 v8 := Kept.trans (by assumption) m8; clear m8)
    | (go_at_call 9; refine Calls.mono (same_any (HVu6.out.all (by assumption)) (HVq.out.all (by assumption))) ?_; rintro e v9 ⟨rfl, m9⟩; have p9 : Kept (fun _ => True) w6 v9 := Kept.trans (by assumption) m9; clear m9)
    | (go_at_call 15; refine Calls.mono known_any ?_; rintro e va ⟨rfl, ma⟩; have pa : Kept (fun _ => True) w6 va := Kept.trans (by assumption) ma; clear ma))
  all_goals
    go_wp2_with fail
    go_ret
    exact ⟨rfl, HKw.out.trans pa⟩

end Go.Proofs.YtahbfffhkpojmaaDoor
