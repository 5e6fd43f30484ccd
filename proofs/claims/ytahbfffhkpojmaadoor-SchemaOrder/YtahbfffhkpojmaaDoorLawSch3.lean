/-
  The law SchemaBack.
-/
import Derived.Test.YtahbfffhkpojmaaDoorTBack3
namespace Go.Proofs.YtahbfffhkpojmaaDoor
open Go.RowKit

/-- A type in a variable. -/
def Bx (w : World) (b : Nat) (t : Ty) : Prop := ∃ ao an ac so sn sc mo mn mc, w.heap[b]? = some (.cells #[.string ⟨t.name.toArray⟩, .slice ao an ac, .slice so sn sc, .slice mo mn mc] 26 (0, 0)) ∧ TyV w (.agg #[.string ⟨t.name.toArray⟩, .slice ao an ac, .slice so sn sc, .slice mo mn mc]) t
theorem Bx.all {w w' : World} {b : Nat} {t : Ty} (h : Bx w b t) (k : Kept (fun _ => True) w w') : Bx w' b t := by
  obtain ⟨ao, an, ac, so, sn, sc, mo, mn, mc, h1, h2⟩ := h
  exact ⟨ao, an, ac, so, sn, sc, mo, mn, mc, (k.block b (lt_of_block h1) trivial).trans h1, h2.all k⟩
/-- What Read answers is right if it is fine. -/
theorem read_fine (s : List UInt8) : (read s).2.1 = 0 ↔ right (read s).1 = 0 := by
  unfold read
  cases rd s with
  | inl k => simp [Ty.none, right, isName]
  | inr t =>
    simp only
    by_cases h : right t ≠ 0
    · rw [if_pos h]
      simp only
      constructor
      · intro h'; exact absurd h' h
      · intro h'; simp [Ty.none, right, isName] at h'
    · rw [if_neg h]
      simp only
      constructor
      · intro _; omega
      · intro _; first | rfl | trivial
theorem read_sz (s : List UInt8) (hs : s.length ≤ 281474976710656) : Tsz (read s).1 := by
  unfold read
  cases h : rd s with
  | inl k => exact ⟨by simp [Ty.none], by simp [Ty.none], by simp [Ty.none], by simp [Ty.none]⟩
  | inr t =>
    simp only
    split
    · exact ⟨by simp [Ty.none], by simp [Ty.none], by simp [Ty.none], by simp [Ty.none]⟩
    · exact rd_sz h hs
/-- Two types in a row. -/
theorem two_types {w : World} {g : Nat} {a0 a1 a2 a3 b0 b1 b2 b3 : Value} {t : TypeId} {fr : Nat × Nat} (h : w.heap[g]? = some (.cells #[a0, a1, a2, a3, b0, b1, b2, b3] t fr)) (k : Nat) (hk : k < 2) :
    w.cell? ⟨g, k * 4, none⟩ = some (if k = 0 then a0 else b0) ∧ w.cell? ⟨g, k * 4 + 1, none⟩ = some (if k = 0 then a1 else b1) ∧ w.cell? ⟨g, k * 4 + 2, none⟩ = some (if k = 0 then a2 else b2) ∧ w.cell? ⟨g, k * 4 + 3, none⟩ = some (if k = 0 then a3 else b3) := by
  rcases k with _ | _ | k
  · exact ⟨by simp [World.cell?, h], by simp [World.cell?, h], by simp [World.cell?, h], by simp [World.cell?, h]⟩
  · exact ⟨by simp [World.cell?, h], by simp [World.cell?, h], by simp [World.cell?, h], by simp [World.cell?, h]⟩
  · omega
theorem spaced_take {W : List UInt8} {i : Nat} (h : i < W.length) : spaced (W.take (i + 1)) = spaced (W.take i) ++ (if W[i] = 59 then [59, 32, 32] else [W[i]]) := by
  rw [List.take_succ_eq_append_getElem h, spaced_append]
  simp [spaced]
theorem spaced_len (s : List UInt8) : (spaced s).length ≤ 3 * s.length := by
  unfold spaced
  induction s with
  | nil => simp
  | cons c s ih =>
    rw [List.flatMap_cons, List.length_append, List.length_cons]
    have : (if c = 59 then [59, 32, 32] else [c] : List UInt8).length ≤ 3 := by split <;> simp
    omega
theorem tex_one {s : List UInt8} {i : Nat} (h : i < s.length) : tex s i (i + 1) = [s[i]] := by rw [tex_succ (Nat.le_refl _) h, tex_self]; rfl

set_option maxRecDepth 100000 in
set_option maxHeartbeats 16000000 in
theorem schemaBack_any {w : World} {v : Value} {t : Ty} (h : TyV w v t) (hz : Tsz t) (ht : Tab w) (s : List UInt8) (hs : s.length ≤ 9223372036854775807) :
    Calls Tryd.prog 5 #[v, .string ⟨s.toArray⟩] w fun e w' => e = .returned (.bool true) ∧ Kept (fun _ => True) w w' := by
  have HZ : Hid (Tsz t) := hz
  have HTab : Hid (Tab w) := ht
  obtain ⟨ao, an, ac, so, sn, sc, mo, mn, mc, rfl⟩ := h.parts
  have k0 : Kept (fun _ => True) w (w.alloc (.cells #[.string ⟨t.name.toArray⟩, .slice ao an ac, .slice so sn sc, .slice mo mn mc] 26)) := (Kept.refl _ _).alloc _
  have HB : Hid _ := heap_alloc_new w (.cells #[.string ⟨t.name.toArray⟩, .slice ao an ac, .slice so sn sc, .slice mo mn mc] 26)
  have HV : Hid (TyV (w.alloc (.cells #[.string ⟨t.name.toArray⟩, .slice ao an ac, .slice so sn sc, .slice mo mn mc] 26)) (.agg #[.string ⟨t.name.toArray⟩, .slice ao an ac, .slice so sn sc, .slice mo mn mc]) t) := h.all k0
  have K0 : Hid _ := k0
  clear h hz ht k0
  go_enter Tryd.func5, Tryd.ntmps5
  go_upto_if 21 with fail
  go_cut [1] from 19 to 23 (fun t1 wx => (∃ s1 : List UInt8, t1 = .string ⟨s1.toArray⟩ ∧ s1.length ≤ 600) ∧ wx = w.alloc (.cells #[.string ⟨t.name.toArray⟩, .slice ao an ac, .slice so sn sc, .slice mo mn mc] 26))
  case first =>
    by_cases h3 : 600 < s.length
    · have h3' : (600 : Int) < (s.length : Int) := by omega
      have n3 : ∀ w0, (Instr.slice 9 (.string ⟨s.toArray⟩) none (some (.int .i64 600)) none).run Tryd.prog w0 = .ok (.string ⟨(s.take 600).toArray⟩) w0 := tcut s 600 (by omega)
      have HL : Hid ((s.take 600).length ≤ 600) := by show _ ≤ _; rw [List.length_take]; omega
      generalize s.take 600 = s1 at *
      go_wp2_with fail
      go_meet
      exact ⟨⟨s1, rfl, HL.out⟩, rfl⟩
    · have h3' : ¬ (600 : Int) < (s.length : Int) := by omega
      go_wp2_with fail
      go_meet
      exact ⟨⟨s, rfl, by omega⟩, rfl⟩
  case rest =>
  obtain ⟨⟨s1, rfl, hs1⟩, rfl⟩ := hcut
  have cr := reads_any (w := w.alloc (.cells #[.string ⟨t.name.toArray⟩, .slice ao an ac, .slice so sn sc, .slice mo mn mc] 26)) s1 (by omega)
  have HRF : Hid _ := read_fine s1
  have HRZ : Hid (Tsz (read s1).1) := read_sz s1 (by omega)
  generalize (read s1).2.2 = at1 at *
  generalize (read s1).2.1 = e1 at *
  generalize (read s1).1 = u at *
  generalize w.alloc (.cells #[.string ⟨t.name.toArray⟩, .slice ao an ac, .slice so sn sc, .slice mo mn mc] 26) = w1 at *
  obtain ⟨B, hBe⟩ : ∃ B, B = w.heap.size := ⟨_, rfl⟩
  rw [← hBe] at HB ⊢
  clear hBe
  go_wp2_with fail
  refine Calls.mono cr ?_
  rintro e w2 ⟨uv, rfl, hu, k2⟩
  obtain ⟨ao2, an2, ac2, so2, sn2, sc2, mo2, mn2, mc2, rfl⟩ := hu.parts
  have k3 : Kept (fun _ => True) w1 (w2.alloc (.cells #[.string ⟨u.name.toArray⟩, .slice ao2 an2 ac2, .slice so2 sn2 sc2, .slice mo2 mn2 mc2] 26)) := k2.alloc _
  have hb3 := (k3.block B (lt_of_block HB.out) trivial).trans HB.out
  obtain ⟨⟨z0, z1, z2, z3⟩, _⟩ := four_cell hb3
  obtain ⟨⟨x0, x1, x2, x3⟩, _⟩ := four_cell (heap_alloc_new w2 (.cells #[.string ⟨u.name.toArray⟩, .slice ao2 an2 ac2, .slice so2 sn2 sc2, .slice mo2 mn2 mc2] 26))
  have HK4 : Hid (Kept (fun _ => True) w ((w2.alloc (.cells #[.string ⟨u.name.toArray⟩, .slice ao2 an2 ac2, .slice so2 sn2 sc2, .slice mo2 mn2 mc2] 26)).alloc (.cells #[.string ⟨t.name.toArray⟩, .slice ao an ac, .slice so sn sc, .slice mo mn mc, .string ⟨u.name.toArray⟩, .slice ao2 an2 ac2, .slice so2 sn2 sc2, .slice mo2 mn2 mc2] 26))) := (K0.out.trans k3).alloc _
  have HV4 : Hid (TyV ((w2.alloc (.cells #[.string ⟨u.name.toArray⟩, .slice ao2 an2 ac2, .slice so2 sn2 sc2, .slice mo2 mn2 mc2] 26)).alloc (.cells #[.string ⟨t.name.toArray⟩, .slice ao an ac, .slice so sn sc, .slice mo mn mc, .string ⟨u.name.toArray⟩, .slice ao2 an2 ac2, .slice so2 sn2 sc2, .slice mo2 mn2 mc2] 26)) (.agg #[.string ⟨t.name.toArray⟩, .slice ao an ac, .slice so sn sc, .slice mo mn mc]) t) := HV.out.all (k3.alloc _)
  have HU4 : Hid (TyV ((w2.alloc (.cells #[.string ⟨u.name.toArray⟩, .slice ao2 an2 ac2, .slice so2 sn2 sc2, .slice mo2 mn2 mc2] 26)).alloc (.cells #[.string ⟨t.name.toArray⟩, .slice ao an ac, .slice so sn sc, .slice mo mn mc, .string ⟨u.name.toArray⟩, .slice ao2 an2 ac2, .slice so2 sn2 sc2, .slice mo2 mn2 mc2] 26)) (.agg #[.string ⟨u.name.toArray⟩, .slice ao2 an2 ac2, .slice so2 sn2 sc2, .slice mo2 mn2 mc2]) u) := hu.all (((Kept.refl _ _).alloc _).alloc _)
  have HG4 : Hid (((w2.alloc (.cells #[.string ⟨u.name.toArray⟩, .slice ao2 an2 ac2, .slice so2 sn2 sc2, .slice mo2 mn2 mc2] 26)).alloc (.cells #[.string ⟨t.name.toArray⟩, .slice ao an ac, .slice so sn sc, .slice mo mn mc, .string ⟨u.name.toArray⟩, .slice ao2 an2 ac2, .slice so2 sn2 sc2, .slice mo2 mn2 mc2] 26)).heap[w2.heap.size + 1]? = some (.cells #[.string ⟨t.name.toArray⟩, .slice ao an ac, .slice so sn sc, .slice mo mn mc, .string ⟨u.name.toArray⟩, .slice ao2 an2 ac2, .slice so2 sn2 sc2, .slice mo2 mn2 mc2] 26 (0, 0))) := heap_alloc2_new w2 _ _
  have HX4 : Hid (((w2.alloc (.cells #[.string ⟨u.name.toArray⟩, .slice ao2 an2 ac2, .slice so2 sn2 sc2, .slice mo2 mn2 mc2] 26)).alloc (.cells #[.string ⟨t.name.toArray⟩, .slice ao an ac, .slice so sn sc, .slice mo mn mc, .string ⟨u.name.toArray⟩, .slice ao2 an2 ac2, .slice so2 sn2 sc2, .slice mo2 mn2 mc2] 26)).heap[w2.heap.size]? = some (.cells #[.string ⟨u.name.toArray⟩, .slice ao2 an2 ac2, .slice so2 sn2 sc2, .slice mo2 mn2 mc2] 26 (0, 0))) := (((Kept.refl (fun _ => True) _).alloc _).block _ (by simp) trivial).trans (heap_alloc_new w2 _)
  clear cr hu k2 k3 hb3 HB HV K0
  go_wp2_with fail
  generalize (w2.alloc (.cells #[.string ⟨u.name.toArray⟩, .slice ao2 an2 ac2, .slice so2 sn2 sc2, .slice mo2 mn2 mc2] 26)).alloc (.cells #[.string ⟨t.name.toArray⟩, .slice ao an ac, .slice so sn sc, .slice mo mn mc, .string ⟨u.name.toArray⟩, .slice ao2 an2 ac2, .slice so2 sn2 sc2, .slice mo2 mn2 mc2] 26) = w4 at *
  generalize w2.heap.size = U at *
  clear z0 z1 z2 z3 x0 x1 x2 x3
  go_loopw [9, 10, 11, 12, 13, 14, 15, 16, 17, 18, 34] (fun _ _ _ _ _ _ _ _ _ _ t34 wr => ∃ k : Nat, k ≤ 2 ∧ t34 = .int .i64 k ∧ Kept (fun _ => True) w4 wr) (fun _ _ _ _ _ _ _ _ _ _ t34 _ => 2 - (intOf t34).toNat)
  case atStart => exact ⟨0, by omega, rfl, Kept.refl _ _⟩
  case round =>
  obtain ⟨k, hk, rfl, hkr⟩ := hrel
  have HKr : Hid (Kept (fun _ => True) w4 wr) := hkr
  clear hkr
  by_cases hlt : k < 2
  · obtain ⟨xT, xa, xan, xac, xs, xsn, xsc, xm, xmn, xmc, hxv, hxz, q0, q1, q2, q3⟩ : ∃ (xT : Ty) (xa : Option Addr) (xan xac : Nat) (xs : Option Addr) (xsn xsc : Nat) (xm : Option Addr) (xmn xmc : Nat), TyV wr (.agg #[.string ⟨xT.name.toArray⟩, .slice xa xan xac, .slice xs xsn xsc, .slice xm xmn xmc]) xT ∧ Tsz xT ∧ wr.cell? ⟨U + 1, k * 4, none⟩ = some (.string ⟨xT.name.toArray⟩) ∧ wr.cell? ⟨U + 1, k * 4 + 1, none⟩ = some (.slice xa xan xac) ∧ wr.cell? ⟨U + 1, k * 4 + 2, none⟩ = some (.slice xs xsn xsc) ∧ wr.cell? ⟨U + 1, k * 4 + 3, none⟩ = some (.slice xm xmn xmc) := by
      obtain ⟨c0, c1, c2, c3⟩ := two_types ((HKr.out.block (U + 1) (lt_of_block HG4.out) trivial).trans HG4.out) k hlt
      by_cases h0 : k = 0
      · simp only [h0, if_true] at c0 c1 c2 c3 ⊢
        exact ⟨t, _, _, _, _, _, _, _, _, _, HV4.out.all HKr.out, HZ.out, c0, c1, c2, c3⟩
      · simp only [h0, if_false] at c0 c1 c2 c3 ⊢
        exact ⟨u, _, _, _, _, _, _, _, _, _, HU4.out.all HKr.out, HRZ.out, c0, c1, c2, c3⟩
    have k1 : (k : Int) < 2 := by omega
    have k0 : (0 : Int) ≤ (k : Int) := by omega
    have ka : Kept (fun _ => True) wr (wr.alloc (.cells #[.string ⟨xT.name.toArray⟩, .slice xa xan xac, .slice xs xsn xsc, .slice xm xmn xmc] 26)) := (Kept.refl _ _).alloc _
    have c1 := right_any (hxv.all ka) hxz
    have HXb : Hid _ := heap_alloc_new wr (.cells #[.string ⟨xT.name.toArray⟩, .slice xa xan xac, .slice xs xsn xsc, .slice xm xmn xmc] 26)
    have HXv : Hid (TyV (wr.alloc (.cells #[.string ⟨xT.name.toArray⟩, .slice xa xan xac, .slice xs xsn xsc, .slice xm xmn xmc] 26)) (.agg #[.string ⟨xT.name.toArray⟩, .slice xa xan xac, .slice xs xsn xsc, .slice xm xmn xmc]) xT) := hxv.all ka
    have HKa : Hid (Kept (fun _ => True) w4 (wr.alloc (.cells #[.string ⟨xT.name.toArray⟩, .slice xa xan xac, .slice xs xsn xsc, .slice xm xmn xmc] 26))) := HKr.out.alloc _
    clear hxv hxz ka
    obtain ⟨cx, hcx⟩ : ∃ cx, cx = right xT := ⟨_, rfl⟩
    rw [← hcx] at c1
    have HCX : Hid (cx = right xT) := hcx
    clear hcx
    go_wp2_with fail
    refine Calls.mono c1 ?_
    rintro e w5 ⟨rfl, k5⟩
    have hb5 := (k5.block wr.heap.size (lt_of_block HXb.out) trivial).trans HXb.out
    have HX5 : Hid _ := hb5
    have HV5 : Hid (TyV w5 (.agg #[.string ⟨xT.name.toArray⟩, .slice xa xan xac, .slice xs xsn xsc, .slice xm xmn xmc]) xT) := HXv.out.all k5
    have HK5 : Hid (Kept (fun _ => True) w4 w5) := HKa.out.trans k5
    obtain ⟨⟨y0, y1, y2, y3⟩, _⟩ := four_cell hb5
    clear c1 k5 hb5 HXb HXv HKa q0 q1 q2 q3
    generalize wr.heap.size = X at *
    by_cases hr : cx = 0
    · have hr0 : Hid (right xT = 0) := by show _ = _; rw [← HCX.out, hr]
      subst hr
      obtain ⟨_, l1, l2, l3, _⟩ := right_few hr0.out
      have hgd := right_good hr0.out
      have c2 := tight_any HV5.out l2 l3 (fun r hr => by
        rcases List.mem_append.1 hr with hr | hr
        · have := (hgd.stages r hr).2.2; omega
        · have := (hgd.marks r hr).2.2; omega)
      obtain ⟨bt, hbt⟩ : ∃ bt, bt = tightB xT := ⟨_, rfl⟩
      rw [← hbt] at c2
      have HBT : Hid (bt = tightB xT) := hbt
      clear hbt hgd l1 l2 l3 HCX
      go_wp2_with fail
      refine Calls.mono c2 ?_
      rintro e w6 ⟨rfl, k6⟩
      have hb6 := (k6.block X (lt_of_block HX5.out) trivial).trans HX5.out
      have HX6 : Hid _ := hb6
      have HV6 : Hid (TyV w6 (.agg #[.string ⟨xT.name.toArray⟩, .slice xa xan xac, .slice xs xsn xsc, .slice xm xmn xmc]) xT) := HV5.out.all k6
      have HK6 : Hid (Kept (fun _ => True) w4 w6) := HK5.out.trans k6
      clear y0 y1 y2 y3
      obtain ⟨⟨y0, y1, y2, y3⟩, _⟩ := four_cell hb6
      clear c2 k6 hb6 HX5 HV5 HK5
      cases bt with
      | false =>
        clear HBT
        go_wp2_with fail
        go_roundw
        case rel => exact ⟨k + 1, by omega, by go_num, HK6.out⟩
        case measure => simp [intOf]; omega
      | true =>
        have htt : Hid (tightB xT = true) := HBT.out.symm
        have hws := (write_short hr0.out).1
        have HRW : Hid _ := read_write hr0.out htt.out
        have HRS : Hid _ := read_spaced hr0.out htt.out
        have HFIT : Hid _ := right_fit hr0.out
        obtain ⟨W, hW⟩ : ∃ W, W = write xT := ⟨_, rfl⟩
        have HW : Hid (W = write xT) := hW
        have c3 := fun w' (q : TyV w' (.agg #[.string ⟨xT.name.toArray⟩, .slice xa xan xac, .slice xs xsn xsc, .slice xm xmn xmc]) xT) (tb : Tab w') => write_any q tb HFIT.out (by omega)
        have C3 : Hid _ := c3
        rw [← hW] at C3 HRW HRS hws
        clear c3 hW HBT
        go_wp2_with fail
        refine Calls.mono (C3.out _ HV6.out (HTab.out.all (HK4.out.trans HK6.out))) ?_
        rintro e w7 ⟨rfl, k7⟩
        have c4 := reads_any (w := w7) W (by omega)
        rw [HRW.out] at c4
        have hb7 := (k7.block X (lt_of_block HX6.out) trivial).trans HX6.out
        have HX7 : Hid _ := hb7
        have HV7 : Hid (TyV w7 (.agg #[.string ⟨xT.name.toArray⟩, .slice xa xan xac, .slice xs xsn xsc, .slice xm xmn xmc]) xT) := HV6.out.all k7
        have HK7 : Hid (Kept (fun _ => True) w4 w7) := HK6.out.trans k7
        clear k7 hb7 HX6 HV6 HK6 y0 y1 y2 y3
        go_wp2_with fail
        refine Calls.mono c4 ?_
        rintro e w8 ⟨yv, rfl, hyv, k8⟩
        obtain ⟨ya, yan, yac, ys, ysn, ysc, ym, ymn, ymc, rfl⟩ := hyv.parts
        have k9 : Kept (fun _ => True) w7 (w8.alloc (.cells #[.string ⟨xT.name.toArray⟩, .slice ya yan yac, .slice ys ysn ysc, .slice ym ymn ymc] 26)) := k8.alloc _
        have hb9 := (k9.block X (lt_of_block HX7.out) trivial).trans HX7.out
        have HX9 : Hid _ := hb9
        have HV9 : Hid (TyV (w8.alloc (.cells #[.string ⟨xT.name.toArray⟩, .slice ya yan yac, .slice ys ysn ysc, .slice ym ymn ymc] 26)) (.agg #[.string ⟨xT.name.toArray⟩, .slice xa xan xac, .slice xs xsn xsc, .slice xm xmn xmc]) xT) := HV7.out.all k9
        have HK9 : Hid (Kept (fun _ => True) w4 (w8.alloc (.cells #[.string ⟨xT.name.toArray⟩, .slice ya yan yac, .slice ys ysn ysc, .slice ym ymn ymc] 26))) := HK7.out.trans k9
        have HY9 : Hid (TyV (w8.alloc (.cells #[.string ⟨xT.name.toArray⟩, .slice ya yan yac, .slice ys ysn ysc, .slice ym ymn ymc] 26)) (.agg #[.string ⟨xT.name.toArray⟩, .slice ya yan yac, .slice ys ysn ysc, .slice ym ymn ymc]) xT) := hyv.all ((Kept.refl _ _).alloc _)
        have HYb : Hid _ := heap_alloc_new w8 (.cells #[.string ⟨xT.name.toArray⟩, .slice ya yan yac, .slice ys ysn ysc, .slice ym ymn ymc] 26)
        obtain ⟨⟨y0, y1, y2, y3⟩, _⟩ := four_cell hb9
        have c5 := C3.out _ HV9.out (HTab.out.all (HK4.out.trans HK9.out))
        clear c4 hyv k8 k9 hb9 HX7 HV7 HK7 C3
        go_wp2_with fail
        generalize w8.alloc (.cells #[.string ⟨xT.name.toArray⟩, .slice ya yan yac, .slice ys ysn ysc, .slice ym ymn ymc] 26) = w9 at *
        generalize w8.heap.size = Y at *
        refine Calls.mono c5 ?_
        rintro e w10 ⟨rfl, k10⟩
        have hb10 := (k10.block X (lt_of_block HX9.out) trivial).trans HX9.out
        have HX10 : Hid _ := hb10
        have HV10 : Hid (TyV w10 (.agg #[.string ⟨xT.name.toArray⟩, .slice xa xan xac, .slice xs xsn xsc, .slice xm xmn xmc]) xT) := HV9.out.all k10
        have HY10 : Hid (TyV w10 (.agg #[.string ⟨xT.name.toArray⟩, .slice ya yan yac, .slice ys ysn ysc, .slice ym ymn ymc]) xT) := HY9.out.all k10
        have hbY := (k10.block Y (lt_of_block HYb.out) trivial).trans HYb.out
        have HYc : Hid _ := hbY
        have HK10 : Hid (Kept (fun _ => True) w4 w10) := HK9.out.trans k10
        clear c5 k10 hb10 hbY HX9 HV9 HY9 HYb HK9 y0 y1 y2 y3
        go_wp2_with fail
        go_loop [13, 15] (fun t13 t15 => ∃ (i : Nat) (z : List UInt8), i ≤ W.length ∧ t15 = .int .i64 i ∧ t13 = .string ⟨z.toArray⟩ ∧ z = spaced (W.take i)) (fun _ t15 => W.length - (intOf t15).toNat)
        case atStart => exact ⟨0, [], Nat.zero_le _, rfl, rfl, rfl⟩
        case round =>
        obtain ⟨i, z, hi, rfl, rfl, hzz⟩ := hrel
        have HZZ : Hid (z = spaced (W.take i)) := hzz
        have hzl : z.length ≤ 9000 := by
          rw [hzz]
          have := spaced_len (W.take i)
          rw [List.length_take] at this
          omega
        clear hzz
        by_cases hil : i < W.length
        · have n1 := cut_text W i (i + 1) (by omega) (by omega)
          rw [tex_one hil] at n1
          have hcast : ((i + 1 : Nat) : Int) = (i : Int) + 1 := by omega
          simp only [hcast] at n1
          have hx := at_text W i hil (by simpa [ByteArray.size] using hil)
          have HSP : Hid _ := spaced_take hil
          obtain ⟨z1, hz1, j1⟩ := text_joins z [W[i]] (by simp; omega)
          have lz1 : z1.length = z.length + 1 := by rw [hz1.out, List.length_append]; rfl
          obtain ⟨z2, hz2, j2⟩ := text_joins z1 [32, 32] (by simp; omega)
          have HZ1 : Hid _ := hz1
          have HZ2 : Hid _ := hz2
          have i1 : (i : Int) < (W.length : Int) := by omega
          have i0 : (0 : Int) ≤ (i : Int) := by omega
          have i2 : (i : Int) + 1 ≤ (W.length : Int) := by omega
          have i3 : (i : Int) ≤ (i : Int) + 1 := by omega
          clear hz1 hz2 lz1 hcast
          generalize W[i] = c at *
          by_cases hc : c = 59
          · have HE : Hid (z2 = spaced (W.take (i + 1))) := by
              show _ = _
              rw [HZ2.out, HZ1.out, HSP.out, HZZ.out, if_pos hc, hc]
              simp
            subst hc
            clear HSP HZ1 HZ2
            go_wp2_with fail
            go_round
            case rel => exact ⟨i + 1, z2, by omega, by go_num, rfl, HE.out⟩
            case measure => simp [intOf]; omega
          · have HE : Hid (z1 = spaced (W.take (i + 1))) := by
              show _ = _
              rw [HZ1.out, HSP.out, HZZ.out, if_neg hc]
            have hc' : ((c.toNat : Int) == 59) = false := by
              simp only [beq_eq_false_iff_ne, ne_eq]
              intro q
              exact hc (UInt8.toNat_inj.1 (by simpa using (by omega : c.toNat = 59)))
            clear HSP HZ1 HZ2 hc
            go_wp2_with fail
            go_round
            case rel => exact ⟨i + 1, z1, by omega, by go_num, rfl, HE.out⟩
            case measure => simp [intOf]; omega
        · have i1 : ¬ (i : Int) < (W.length : Int) := by omega
          obtain ⟨p1, hp1, j1⟩ := text_joins [32, 32] z (by simp; omega)
          have lp1 : p1.length = 2 + z.length := by rw [hp1.out, List.length_append]; rfl
          obtain ⟨p2, hp2, j2⟩ := text_joins p1 [32] (by simp; omega)
          have lp2 : p2.length = p1.length + 1 := by rw [hp2.out, List.length_append]; rfl
          have hread : read p2 = (xT, 0, 0) := by
            rw [hp2.out, hp1.out, HZZ.out, List.take_of_length_le (by omega)]
            exact HRS.out
          have c6 := reads_any (w := w10) p2 (by omega)
          rw [hread] at c6
          clear hread hp1 hp2 lp1 lp2 HZZ hil
          go_wp2_with fail
          refine Calls.mono c6 ?_
          rintro e w11 ⟨vv, rfl, hvv, k11⟩
          obtain ⟨va, van, vac, vs, vsn, vsc, vm, vmn, vmc, rfl⟩ := hvv.parts
          have k12 : Kept (fun _ => True) w10 (w11.alloc (.cells #[.string ⟨xT.name.toArray⟩, .slice va van vac, .slice vs vsn vsc, .slice vm vmn vmc] 26)) := k11.alloc _
          have hbX := (k12.block X (lt_of_block HX10.out) trivial).trans HX10.out
          have hbY := (k12.block Y (lt_of_block HYc.out) trivial).trans HYc.out
          have HXx : Hid _ := hbX
          have HVb : Hid _ := heap_alloc_new w11 (.cells #[.string ⟨xT.name.toArray⟩, .slice va van vac, .slice vs vsn vsc, .slice vm vmn vmc] 26)
          obtain ⟨⟨y0, y1, y2, y3⟩, _⟩ := four_cell hbX
          obtain ⟨⟨r0, r1, r2, r3⟩, _⟩ := four_cell hbY
          have c7 := same_any (HV10.out.all k12) (HY10.out.all k12)
          have HV12 : Hid (TyV (w11.alloc (.cells #[.string ⟨xT.name.toArray⟩, .slice va van vac, .slice vs vsn vsc, .slice vm vmn vmc] 26)) (.agg #[.string ⟨xT.name.toArray⟩, .slice xa xan xac, .slice xs xsn xsc, .slice xm xmn xmc]) xT) := HV10.out.all k12
          have HVV : Hid (TyV (w11.alloc (.cells #[.string ⟨xT.name.toArray⟩, .slice va van vac, .slice vs vsn vsc, .slice vm vmn vmc] 26)) (.agg #[.string ⟨xT.name.toArray⟩, .slice va van vac, .slice vs vsn vsc, .slice vm vmn vmc]) xT) := hvv.all ((Kept.refl _ _).alloc _)
          have HK12 : Hid (Kept (fun _ => True) w4 (w11.alloc (.cells #[.string ⟨xT.name.toArray⟩, .slice va van vac, .slice vs vsn vsc, .slice vm vmn vmc] 26))) := HK10.out.trans k12
          clear c6 k11 k12 hbX hbY hvv HX10 HYc HV10 HY10 HK10
          go_wp2_with fail
          generalize w11.alloc (.cells #[.string ⟨xT.name.toArray⟩, .slice va van vac, .slice vs vsn vsc, .slice vm vmn vmc] 26) = w12 at *
          generalize w11.heap.size = V at *
          refine Calls.mono c7 ?_
          rintro e w13 ⟨rfl, k13⟩
          have hbX := (k13.block X (lt_of_block HXx.out) trivial).trans HXx.out
          have hbV := (k13.block V (lt_of_block HVb.out) trivial).trans HVb.out
          clear y0 y1 y2 y3 r0 r1 r2 r3
          obtain ⟨⟨y0, y1, y2, y3⟩, _⟩ := four_cell hbX
          obtain ⟨⟨r0, r1, r2, r3⟩, _⟩ := four_cell hbV
          have c8 := same_any (HV12.out.all k13) (HVV.out.all k13)
          have HK13 : Hid (Kept (fun _ => True) w4 w13) := HK12.out.trans k13
          clear c7 k13 hbX hbV HXx HVb HV12 HVV HK12
          go_wp2_with fail
          refine Calls.mono c8 ?_
          rintro e w14 ⟨rfl, k14⟩
          have HK14 : Hid (Kept (fun _ => True) w4 w14) := HK13.out.trans k14
          clear c8 k14 HK13
          go_wp2_with fail
          go_roundw
          case rel => exact ⟨k + 1, by omega, by go_num, HK14.out⟩
          case measure => simp [intOf]; omega
    · have hr' : ((cx : Int) == 0) = false := by simp; omega
      have hr2 : ((cx : Int) != 0) = true := by simp; omega
      clear HCX hr
      go_wp2_with fail
      go_roundw
      case rel => exact ⟨k + 1, by omega, by go_num, HK5.out⟩
      case measure => simp [intOf]; omega
  · have k1 : ¬ (k : Int) < 2 := by omega
    have hbU := (HKr.out.block U (lt_of_block HX4.out) trivial).trans HX4.out
    obtain ⟨⟨y0, y1, y2, y3⟩, _⟩ := four_cell hbU
    have c1 := right_any (HU4.out.all HKr.out) HRZ.out
    have ck := fun W => known_any (w := W)
    obtain ⟨cu, hcu⟩ : ∃ cu, cu = right u := ⟨_, rfl⟩
    rw [← hcu] at c1
    have HCU : Hid (e1 = 0 ↔ cu = 0) := by show _ ↔ _; rw [hcu]; exact HRF.out
    have HK4r : Hid (Kept (fun _ => True) w wr) := HK4.out.trans HKr.out
    clear hcu hbU HKr hlt
    by_cases h0 : e1 = 0
    · have h1 := HCU.out.1 h0
      subst h0 h1
      go_wp2_with fail
      refine Calls.mono c1 ?_
      rintro e w5 ⟨rfl, k5⟩
      go_wp2_with fail
      refine Calls.mono (ck _) ?_
      rintro e w6 ⟨rfl, k6⟩
      go_wp2_with fail
      go_ret
      exact ⟨rfl, HK4r.out.trans (k5.trans k6)⟩
    · have h1 : cu ≠ 0 := fun h => h0 (HCU.out.2 h)
      have g0 : ((e1 : Int) == 0) = false := by simp; omega
      have g1 : ((cu : Int) == 0) = false := by simp; omega
      clear h0 h1 HCU HRF
      go_wp2_with fail
      refine Calls.mono c1 ?_
      rintro e w5 ⟨rfl, k5⟩
      go_wp2_with fail
      refine Calls.mono (ck _) ?_
      rintro e w6 ⟨rfl, k6⟩
      go_wp2_with fail
      go_ret
      exact ⟨rfl, HK4r.out.trans (k5.trans k6)⟩

end Go.Proofs.YtahbfffhkpojmaaDoor
