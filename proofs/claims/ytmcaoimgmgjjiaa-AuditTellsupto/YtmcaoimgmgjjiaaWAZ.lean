/-
  Texts of the proofs, 52 of 52.
-/
import Derived.Test.YtmcaoimgmgjjiaaWAY
import Derived.Test.YtmcaoimgmgjjiaaWAV
import Derived.Test.YtmcaoimgmgjjiaaWAI
import Derived.Deep.CutBlock
import Derived.Test.YtmcaoimgmgjjiaaWE
import Derived.Laws.BitsAllLaws
import Derived.Deep.CutRange
namespace Go.Proofs.Ytmcaoimgmgjjiaa
open Go.RowKit Go.Maps Go.Sort

theorem bk_four {w : World} {X : Nat} {t : TypeId} {a b c d : Value} (h : Bk w X t [a, b, c, d]) : w.cell? ⟨X, 0, none⟩ = some a ∧ w.cell? ⟨X, 1, none⟩ = some b ∧ w.cell? ⟨X, 2, none⟩ = some c ∧ w.cell? ⟨X, 3, none⟩ = some d :=
  ⟨cell_of_row _ _ 0 _ _ _ h, cell_of_row _ _ 1 _ _ _ h, cell_of_row _ _ 2 _ _ _ h, cell_of_row _ _ 3 _ _ _ h⟩
theorem ob_at {w : World} {b : Nat} {a : Option Addr} {c : Nat} {bs : List UInt8} (h : Ob w b (.slice a bs.length c) bs) (h0 : 0 < bs.length) : ∃ B, a = some ⟨B, 0, none⟩ ∧ B < w.heap.size := by
  rcases h.2 with ⟨e1, h1⟩ | ⟨g, cap, cur, e1, _, hgb, _⟩
  · omega
  · injection e1 with e1 _ _
    exact ⟨g, e1, lt_of_block hgb⟩
theorem size_ints (w0 : World) : (sizeOf (Try.prog.elem 22)).run Try.prog w0 = .ok 1 w0 := by kernel_rfl
set_option maxRecDepth 100000 in
theorem cut_ints (ao : Option Addr) (n cap k : Nat) (hk : k ≤ cap) (hn : ao = none → cap = 0) (w0 : World) :
    (Instr.slice 22 (.slice ao n cap) none (some (.int .i64 (k : Int))) none).run Try.prog w0 = .ok (.slice ao k cap) w0 := by
  rw [run_slice_h (P := Try.prog) w0 22 ao n cap Try.underlying22 .i64 k (by omega) (by omega), size_ints]
  cases ao with
  | none => have := hn rfl; simp [Result.andThen, sliced]
  | some ad => simp [Result.andThen, sliced, Addr.add]
theorem gq_its {w : World} {b lim : Nat} {r : Ur} {a : Option Addr} {c : Nat} (h : Its w b (.slice a r.gs.length c) r.gs) : Gq w lim (rrU (r, (a, c))) := fun h0 => by
  obtain ⟨g, off, e, hb, hc⟩ := h.gv.gi h0
  refine ⟨g, off, e, hb, hc, .inr ?_⟩
  rcases h.2 with ⟨e1, h1⟩ | ⟨g', cap, cur, e1, _, hgb, _⟩
  · simp [rrU, Ur.ui] at h0
    omega
  · injection e1 with e1 _ _
    rw [e1] at e
    injection e with e
    injection e with e _ _
    subst e
    exact ⟨_, _, hgb⟩

theorem xorcT (z : UInt8) (t : Int) (ht : 0 ≤ t ∧ t < 256) : ∃ y : UInt8, bits BinOp.xor .u8 (z.toNat : Int) t = (y.toNat : Int) := by
  obtain ⟨T, rfl⟩ := Int.eq_ofNat_of_zero_le ht.1
  have hz := z.toNat_lt
  refine ⟨UInt8.ofNat (z.toNat ^^^ T), ?_⟩
  have hx : z.toNat ^^^ T < 2 ^ 8 := Nat.xor_lt_two_pow (by omega) (by omega)
  rw [u8_xor_nat z.toNat T (by omega) (by omega)]
  rw [UInt8.toNat_ofNat', Nat.mod_eq_of_lt hx]
theorem ob_nT {w : World} {base g n c : Nat} {bs : List UInt8} (h : Ob w base (.slice (some ⟨g, 0, none⟩) n c) bs) : n = bs.length := by
  rcases h.2 with ⟨hv, _⟩ | ⟨g', cap, cur, hv, _⟩
  · cases hv
  · injection hv
theorem ob_setT {w : World} {base g n c : Nat} {bs : List UInt8} (h : Ob w base (.slice (some ⟨g, 0, none⟩) n c) bs) (q : Nat) (y : UInt8) : Ob (w.setCell ⟨g, q, none⟩ (.int .u8 y.toNat)) base (.slice (some ⟨g, 0, none⟩) n c) (bs.set q y) := by
  obtain rfl := ob_nT h
  have h1 := (World.ownsRow.stored h q (.int .u8 y.toNat)).1
  unfold Ob
  rw [← cells_set, List.length_set]
  exact h1
theorem ob_byteT {w : World} {base g n c : Nat} {bs : List UInt8} (h : Ob w base (.slice (some ⟨g, 0, none⟩) n c) bs) (q : Nat) (hq : q < bs.length) : w.cell? ⟨g, q, none⟩ = some (.int .u8 (bs[q]).toNat) := by
  obtain rfl := ob_nT h
  exact (World.ownsRow.cellAt h q (by omega)).trans (cells_getElem bs q hq)
theorem ob_freeT {w : World} {base g n c : Nat} {bs : List UInt8} (h : Ob w base (.slice (some ⟨g, 0, none⟩) n c) bs) (q : Nat) : w.frozen? ⟨g, q, none⟩ = false := by
  obtain rfl := ob_nT h
  exact World.ownsRow.frozenAt h q
theorem turn_one {w : World} {b n cap B : Nat} {a : Option Addr} {C0 : List Uc} (h : Cls w b (.slice a n cap) C0) (hq : ∀ c ∈ C0, Clq w c ∧ 0 < c.bs.length) (hp : C0.Pairwise (fun x y => x.a ≠ y.a)) (k : Nat) (hk : k < C0.length) (hB : C0[k].a = some ⟨B, 0, none⟩) (j : Nat) (y : UInt8) :
    ∃ CL : List Uc, CL.length = C0.length ∧ Vw claimS (w.setCell ⟨B, j, none⟩ (.int .u8 y.toNat)) a CL ∧ (∀ c ∈ CL, Clq (w.setCell ⟨B, j, none⟩ (.int .u8 y.toNat)) c) := by
  have hob := h.ob _ (List.getElem_mem hk)
  have hst : ∃ cs fr, w.heap[B]? = some (.cells cs 5 fr) := by
    rcases hob.2 with ⟨e1, h1⟩ | ⟨g, cp, cur, e1, _, hgb, _⟩
    · have := (hq _ (List.getElem_mem hk)).2; omega
    · injection e1 with e1 _ _
      rw [hB] at e1
      injection e1 with e1
      injection e1 with e1 _ _
      subst e1
      exact ⟨_, _, hgb⟩
  obtain ⟨cs, fr, hBt⟩ := hst
  have kk : Kept (· ≠ B) w (w.setCell ⟨B, j, none⟩ (.int .u8 y.toNat)) := kept_set
  have hcl : ∀ i (hi : i < C0.length) (hi' : i < (C0.set k ⟨C0[k].g, C0[k].bs.set j y, C0[k].a, C0[k].c⟩).length), ccell (C0.set k ⟨C0[k].g, C0[k].bs.set j y, C0[k].a, C0[k].c⟩)[i] = ccell C0[i] := fun i hi hi' => by
    rw [List.getElem_set]
    split
    · rename_i e
      subst e
      simp [ccell]
    · rfl
  refine ⟨C0.set k ⟨C0[k].g, C0[k].bs.set j y, C0[k].a, C0[k].c⟩, List.length_set, ⟨fun h0 => ?_⟩, fun c hc => ?_⟩
  · obtain ⟨g, off, e, hg, hr⟩ := h.ow.view.row (by omega)
    have hne : g ≠ B := fun e2 => by
      obtain ⟨_, _, e3, _, h3, _⟩ := h.ow.shape
      obtain ⟨g3, h3⟩ := h3 (by omega)
      injection e3 with e3 _ _
      rw [h3] at e3
      have e4 := e3
      rw [e] at e4
      injection e4 with e4
      injection e4 with e4 _ _
      exact h.ow.ne hBt (by decide) (by rw [e3, ← e4, e2]; rfl)
    refine ⟨g, off, e, Nat.lt_of_lt_of_le hg kk.size, fun i hi => ?_⟩
    have hi' : i < C0.length := by rwa [List.length_set] at hi
    show World.rangeAt _ g (off + i * claimS.n) (ccell _)
    rw [hcl i hi' hi]
    exact range_kept (hr i hi') kk hg hne
  · obtain ⟨i, hi, rfl⟩ := List.getElem_of_mem hc
    have hi' : i < C0.length := by rwa [List.length_set] at hi
    rw [List.getElem_set]
    split
    · rename_i e
      subst e
      obtain ⟨q1, q2⟩ := hq _ (List.getElem_mem hk)
      rw [hB] at hob
      have h1 := ob_setT hob j y
      have hl : (C0[k].bs.set j y).length = C0[k].bs.length := List.length_set
      rw [← hl] at h1
      exact ⟨by rw [hB]; exact own_has h1, q1.fit, q1.cap, by rw [hl]; exact q1.le, by rw [hl]; exact q1.few⟩
    · rename_i hne
      obtain ⟨q1, q2⟩ := hq _ (List.getElem_mem hi')
      have ha : C0[i].a ≠ C0[k].a := by
        rcases Nat.lt_or_ge i k with h1 | h1
        · exact List.pairwise_iff_getElem.1 hp i k hi' hk h1
        · exact fun e => List.pairwise_iff_getElem.1 hp k i hk hi' (by omega) e.symm
      have h2 := h.ob _ (List.getElem_mem hi')
      obtain ⟨B2, e2, _⟩ := ob_at h2 q2
      have h3 : Ob (w.setCell ⟨B, j, none⟩ (.int .u8 y.toNat)) b (.slice C0[i].a C0[i].bs.length C0[i].c) C0[i].bs := ownL_kept h2 kk (fun x hx e => by
        rw [e2] at hx
        injection hx with hx
        apply ha
        have hb : B2 = B := (show B2 = x from hx).trans e
        rw [e2, hB, hb])
      exact ⟨own_has h3, q1.fit, q1.cap, q1.le, q1.few⟩

set_option maxRecDepth 100000 in
set_option maxHeartbeats 4000000 in
theorem auditTells_any {w : World} {a0 a1 a2 ag : Option Addr} {cap0 cap1 cap2 capg : Nat} {rs0 rs1 rs2 : List Rr} {gs : List Int} (h0 : Rrv w a0 rs0) (h1 : Rrv w a1 rs1) (h2 : Rrv w a2 rs2) (hp : (∀ r ∈ rs0, Cp r) ∧ (∀ r ∈ rs1, Cp r) ∧ (∀ r ∈ rs2, Cp r)) (hs : sumL rs0 ≤ 1048576 ∧ sumL rs1 ≤ 1048576 ∧ sumL rs2 ≤ 1048576) (hg : Gi w ag gs) (pl : Int) (turn : UInt8) (wild : Bool) :
    Calls Try.prog 5 #[.slice a0 rs0.length cap0, .slice a1 rs1.length cap1, .slice a2 rs2.length cap2, .slice ag gs.length capg, .int .i64 pl, .int .u8 turn.toNat, .bool wild] w fun e w' => e = .returned (.bool true) ∧ Kept (fun _ => True) w w' := by
  obtain ⟨RS, AA, CC, hv, hcp, hsm, e0, e1, e2⟩ : ∃ (RS : Nat → List Rr) (AA : Nat → Option Addr) (CC : Nat → Nat), (∀ i, Rrv w (AA i) (RS i)) ∧ (∀ i, ∀ r ∈ RS i, Cp r) ∧ (∀ i, sumL (RS i) ≤ 1048576) ∧ (Value.slice a0 rs0.length cap0 = .slice (AA 0) (RS 0).length (CC 0)) ∧ (Value.slice a1 rs1.length cap1 = .slice (AA 1) (RS 1).length (CC 1)) ∧ (Value.slice a2 rs2.length cap2 = .slice (AA 2) (RS 2).length (CC 2)) := by
    refine ⟨fun i => if i = 0 then rs0 else if i = 1 then rs1 else rs2, fun i => if i = 0 then a0 else if i = 1 then a1 else a2, fun i => if i = 0 then cap0 else if i = 1 then cap1 else cap2, fun i => ?_, fun i => ?_, fun i => ?_, rfl, rfl, rfl⟩
    rotate_left
    · by_cases q0 : i = 0
      · simp only [q0, if_true]; exact hp.1
      · by_cases q1 : i = 1
        · simp only [q1, if_true]; subst q1; exact hp.2.1
        · simp only [q0, q1, if_false]; exact hp.2.2
    · by_cases q0 : i = 0
      · simp only [q0, if_true]; exact hs.1
      · by_cases q1 : i = 1
        · simp only [q1, if_true]; subst q1; exact hs.2.1
        · simp only [q0, q1, if_false]; exact hs.2.2
    by_cases q0 : i = 0
    · simp only [q0, if_true]; exact h0
    · by_cases q1 : i = 1
      · simp only [q1, if_true]; subst q1; exact h1
      · simp only [q0, q1, if_false]; exact h2
  obtain ⟨w2, hw2⟩ : ∃ x, x = w.alloc (.cells #[.slice a0 rs0.length cap0, .slice a1 rs1.length cap1, .slice a2 rs2.length cap2] 29) := ⟨_, rfl⟩
  have k2 : Kept (fun _ => True) w w2 := by rw [hw2]; exact (Kept.refl _ _).alloc _
  have B2 : w2.heap[w.heap.size]? = some (.cells #[.slice a0 rs0.length cap0, .slice a1 rs1.length cap1, .slice a2 rs2.length cap2] 29 (0, 0)) := by rw [hw2]; exact heap_alloc_new w _
  have HBc : Hid (∀ i, i < 3 → w2.cell? ⟨w.heap.size, i, none⟩ = some (.slice (AA i) (RS i).length (CC i))) := fun i hi => by
    have h3 : i = 0 ∨ i = 1 ∨ i = 2 := by omega
    rcases h3 with rfl | rfl | rfl
    · rw [← e0]; exact cell_of_row _ _ 0 _ _ _ B2
    · rw [← e1]; exact cell_of_row _ _ 1 _ _ _ B2
    · rw [← e2]; exact cell_of_row _ _ 2 _ _ _ B2
  have HCP : Hid ((∀ i, ∀ r ∈ RS i, Cp r) ∧ ∀ i, sumL (RS i) ≤ 1048576) := ⟨hcp, hsm⟩
  have HBl : Hid (w.heap.size < w2.heap.size) := lt_of_block B2
  have HV : Hid (∀ i, Rrv w2 (AA i) (RS i)) := fun i => (hv i).all k2
  have HG : Hid (Gi w2 ag gs) := hg.all k2
  have K2 : Hid (Kept (fun _ => True) w w2) := k2
  clear e0 e1 e2 hv hcp hsm hp hs k2 B2 h0 h1 h2 hg
  go_enter Try.func5, Try.ntmps5
  go_wp2_with fail
  rw [← hw2]
  clear hw2
  generalize w.heap.size = Bs at *
  go_loopw [15, 33] (fun v t wr => ∃ (i : Nat) (a' : Option Addr) (c' : Nat) (cl : List Uc), i ≤ 3 ∧ t = .int .i64 i ∧ v = .slice a' i c' ∧ cl.length = i ∧ Cls wr w2.heap.size (.slice a' i c') cl ∧ (∀ c ∈ cl, Clq wr c ∧ 0 < c.bs.length) ∧ cl.Pairwise (fun x y => x.a ≠ y.a) ∧ Kept (fun _ => True) w2 wr) (fun _ t _ => 3 - (intOf t).toNat)
  case atStart => exact ⟨0, none, 0, [], Nat.zero_le _, rfl, rfl, rfl, Cls.nil _ _, (fun _ h => by cases h), List.Pairwise.nil, Kept.refl _ _⟩
  case round =>
    obtain ⟨i, aL, cL, cl, hi, rfl, rfl, hcl, hC, hQ, hap, hkr⟩ := hrel
    have HAP : Hid (cl.Pairwise (fun x y => x.a ≠ y.a)) := hap
    clear hap
    obtain ⟨wI, hwI⟩ : ∃ x, x = wr := ⟨_, rfl⟩
    rw [← hwI] at hC hQ hkr ⊢
    clear hwI
    have HC : Hid (Cls wI w2.heap.size (.slice aL i cL) cl) := hC
    have HQ : Hid (∀ c ∈ cl, Clq wI c ∧ 0 < c.bs.length) := hQ
    have HKr : Hid (Kept (fun _ => True) w2 wI) := hkr
    have HCL : Hid (cl.length = i) := hcl
    clear hC hQ hcl
    by_cases hlt : i < 3
    · have c0 := (kept_cell hkr HBl.out trivial).trans (HBc.out i hlt)
      have HVi : Hid (Rrv wI (AA i) (RS i)) := (HV.out i).all hkr
      have HGi : Hid (Gi wI ag gs) := HG.out.all hkr
      have HCi : Hid ((∀ r ∈ RS i, Cp r) ∧ sumL (RS i) ≤ 1048576) := ⟨HCP.out.1 i, HCP.out.2 i⟩
      have HI : Hid (i < 3) := hlt
      have i0 : (0 : Int) ≤ (i : Int) := by omega
      have i1 : (i : Int) < 3 := by omega
      generalize RS i = RSi at *
      generalize AA i = aI at *
      generalize CC i = cI at *
      clear hlt hi hkr
      go_upto_block 2 with fail
      go_cut [18, 19] from 38 to 67 (fun v _ wx => ∃ (a' : Option Addr) (c' : Nat) (xs : List Rr), v = .slice a' xs.length c' ∧ xs.length ≤ 8 ∧ Rwq wx wI.heap.size (.slice a' xs.length c') xs ∧ (∀ r ∈ xs, r.1.gs.length ≤ 6) ∧ sumL xs ≤ 1048600 ∧ Kept (fun _ => True) wI wx)
      case first =>
        clear HC HQ HKr HCL HGi HI c0 i0 i1
        go_wp2_with fail
        go_loopw [18, 19] (fun v t wr => ∃ (k : Nat) (a' : Option Addr) (c' : Nat) (xs : List Rr), k ≤ RSi.length ∧ k ≤ 8 ∧ xs.length = k ∧ t = .int .i64 k ∧ v = .slice a' k c' ∧ Rwq wr wI.heap.size (.slice a' k c') xs ∧ (∀ r ∈ xs, r.1.gs.length ≤ 6) ∧ sumL xs ≤ sumL (RSi.take k) + k ∧ Kept (fun _ => True) wI wr) (fun _ t _ => 8 - (intOf t).toNat)
        case atStart => exact ⟨0, none, 0, [], Nat.zero_le _, Nat.zero_le _, rfl, rfl, rfl, Rwq.nil _ _, (fun _ h => by cases h), Nat.zero_le _, Kept.refl _ _⟩
        case round =>
          obtain ⟨k, a', c', xs, hk, hk8, hxl, rfl, rfl, hrw, h6, hsm, hkr⟩ := hrel
          obtain ⟨wq, hwq⟩ : ∃ x, x = wr := ⟨_, rfl⟩
          rw [← hwq] at hrw hkr ⊢
          clear hwq
          have HRW : Hid (Rwq wq wI.heap.size (.slice a' k c') xs) := hrw
          have HKr : Hid (Kept (fun _ => True) wI wq) := hkr
          have HXL : Hid (xs.length = k) := hxl
          have H6 : Hid ((∀ r ∈ xs, r.1.gs.length ≤ 6) ∧ sumL xs ≤ sumL (RSi.take k) + k) := ⟨h6, hsm⟩
          clear hrw hxl h6 hsm
          by_cases hlt : k < RSi.length
          · have i1 : (k : Int) < (RSi.length : Int) := by omega
            by_cases hl8 : k < 8
            · obtain ⟨b, off, rfl, hb, hc⟩ := (HVi.out.all hkr).vw.row (by omega)
              have hr := hc k hlt
              have m0 : wq.cell? ⟨b, off + k * 4, none⟩ = some (.int .i64 RSi[k].1.k) := hr 0 _ rfl
              have m1 : wq.cell? ⟨b, off + k * 4 + 1, none⟩ = some (.string ⟨RSi[k].1.tx.toArray⟩) := hr 1 _ rfl
              have m2 : wq.cell? ⟨b, off + k * 4 + 2, none⟩ = some (.slice RSi[k].2.1 RSi[k].1.gs.length RSi[k].2.2) := hr 2 _ rfl
              have m3 : wq.cell? ⟨b, off + k * 4 + 3, none⟩ = some (.string ⟨RSi[k].1.bd.toArray⟩) := hr 3 _ rfl
              have HI : Hid (k < RSi.length ∧ k < 8) := ⟨hlt, hl8⟩
              have i0 : (0 : Int) ≤ (k : Int) := by omega
              have i2 : (k : Int) < 8 := by omega
              have HCx : Hid (Cp RSi[k]) := HCi.out.1 _ (List.getElem_mem hlt)
              have HGx : Hid (Gq wq wI.heap.size RSi[k]) := (Gq.of ((HVi.out).gi _ (List.getElem_mem hlt)) (Nat.le_refl _)).all hkr
              have HSx : Hid (sumL (RSi.take (k + 1)) = sumL (RSi.take k) + ltr RSi[k]) := by
                show _ = _
                rw [List.take_succ_eq_append_getElem hlt, sumL_append]
                simp [sumL]
              clear hr hc hkr hk hk8
              generalize RSi[k] = x at *
              clear hlt
              obtain ⟨⟨rk, rtx, rgs, rbd⟩, ra, rc⟩ := x
              simp only at m0 m1 m2 m3
              obtain ⟨w3, hw3⟩ : ∃ x, x = wq.alloc (.cells #[.int .i64 rk, .string ⟨rtx.toArray⟩, .slice ra rgs.length rc, .string ⟨rbd.toArray⟩] 24) := ⟨_, rfl⟩
              have k3 : Kept (fun _ => True) wq w3 := by rw [hw3]; exact (Kept.refl _ _).alloc _
              have F3 : Hid (Bk w3 wq.heap.size 24 [.int .i64 rk, .string ⟨rtx.toArray⟩, .slice ra rgs.length rc, .string ⟨rbd.toArray⟩]) := by show Bk _ _ _ _; rw [hw3]; exact heap_alloc_new wq _
              go_upto_region 10 with fail
              rw [← hw3]
              clear hw3 m0 m1 m2 m3
              obtain ⟨R, hR⟩ : ∃ R, R = wq.heap.size := ⟨_, rfl⟩
              have HR : Hid (R = wq.heap.size) := hR
              rw [← hR] at F3 ⊢
              have HR3 : Hid (Rwq w3 wI.heap.size (.slice a' k c') xs) := HRW.out.all k3
              have HK3 : Hid (Kept (fun _ => True) wI w3) := HKr.out.trans k3
              have HG3 : Hid (Gq w3 wI.heap.size (⟨rk, rtx, rgs, rbd⟩, (ra, rc))) := HGx.out.all k3
              have HOR : Hid (∀ b, (Value.slice a' k c').ownBlock = some b → b < R) := fun b e => by rw [HR.out]; exact HRW.out.ow.lt e
              have HLR : Hid (wI.heap.size ≤ R) := by show _ ≤ _; rw [HR.out]; exact HKr.out.size
              clear hR k3 HRW HKr HGx
              go_upto_if 53 with fail
              go_cut [53] from 54 to 55 (fun _ wx => ∃ x' : Rr, Bk wx R 24 (rcell x') ∧ Gq wx wI.heap.size x' ∧ Cp x' ∧ ltr x' ≤ ltr (⟨rk, rtx, rgs, rbd⟩, (ra, rc)) + 1 ∧ Rwq wx wI.heap.size (.slice a' k c') xs ∧ Kept (fun _ => True) wI wx)
              case first =>
                cases wild with
                | true =>
                  go_wp2_with fail
                  go_meet
                  exact ⟨(⟨rk, rtx, rgs, rbd⟩, (ra, rc)), F3.out, HG3.out, HCx.out, Nat.le_succ _, HR3.out, HK3.out⟩
                | false =>
                  obtain ⟨f0, f1, f2, f3⟩ := bk_four F3.out
                  have ct := tame_any w3 rk rtx rbd ra rgs.length rc
                  go_wp2_with (go_at_call 23; (with_reducible refine Calls.mono ct ?_); rintro e w4 ⟨r, G, htm, rfl, hit, k4⟩; have HTM : Hid (Tme r) := htm; have HIT : Hid (Its w4 w3.heap.size (.slice (some ⟨G, 0, none⟩) r.gs.length r.gs.length) r.gs) := hit; have K4 : Hid (Kept (fun _ => True) w3 w4) := k4; obtain ⟨p0, p1, p2, p3⟩ := bk_four (Bk.kept F3.out k4 trivial); have pf := Bk.free (Bk.kept F3.out k4 trivial); clear htm hit k4 ct)
                  go_meet
                  obtain ⟨w5, hw5⟩ : ∃ x, x = ((((w4.setCell ⟨R, 0, none⟩ (.int .i64 (r.k : Nat))).setCell ⟨R, 1, none⟩ (.string ⟨r.tx.toArray⟩)).setCell ⟨R, 2, none⟩ (.slice (some ⟨G, 0, none⟩) r.gs.length r.gs.length)).setCell ⟨R, 3, none⟩ (.string ⟨#[]⟩)) := ⟨_, rfl⟩
                  rw [← hw5]
                  have F4 := Bk.kept F3.out K4.out trivial
                  have F5 : Bk w5 R 24 [.int .i64 (r.k : Nat), .string ⟨r.tx.toArray⟩, .slice (some ⟨G, 0, none⟩) r.gs.length r.gs.length, .string ⟨#[]⟩] := by rw [hw5]; exact (((F4.set 0 _).set 1 _).set 2 _).set 3 _
                  have k5 : Kept (· ≠ R) w4 w5 := by rw [hw5]; exact ((kept_set.trans kept_set).trans kept_set).trans kept_set
                  have hno : ∀ b, b < w4.heap.size → (b < wI.heap.size ∨ ∃ cs fr, w4.heap[b]? = some (.cells cs 3 fr)) → b ≠ R := fun b _ hb e => by
                    rcases hb with hb | ⟨cs, fr, hb⟩
                    · have := HLR.out; omega
                    · rw [e] at hb
                      unfold Bk at F4
                      rw [F4] at hb
                      simp at hb
                  have hsm : r.tx.length ≤ 1 ∧ r.bd = [] := ⟨by rcases HTM.out.k with ⟨_, q⟩ | ⟨_, q | q⟩ <;> rw [q] <;> decide, HTM.out.b⟩
                  obtain ⟨qk, qtx, qgs, qbd⟩ := r
                  simp only at hsm
                  obtain ⟨hs1, rfl⟩ := hsm
                  refine ⟨rrU (⟨qk, qtx, qgs, []⟩, (some ⟨G, 0, none⟩, qgs.length)), by simpa [rcell, rrU, Ur.ui] using F5, (gq_its HIT.out).kept k5 hno, ?_, ?_, (HR3.out.all K4.out).kept k5 (fun b hb e => by have := HOR.out b hb; omega) hno, (HK3.out.trans K4.out).then k5 (fun b hb _ e => by have := HLR.out; omega)⟩
                  · exact ⟨by simp [rrU, Ur.ui], fun e => by simp [rrU] at e⟩
                  · simp only [ltr, rrU, Ur.ui, List.length_nil]; omega
              case rest =>
                obtain ⟨x', hF, hGq, hCp, hLt, hRw, hKw⟩ := hcut
                obtain ⟨wT, hwT⟩ : ∃ x, x = wc := ⟨_, rfl⟩
                rw [← hwT] at hF hGq hRw hKw ⊢
                clear hwT F3 HR3 HK3 HG3 HCx
                obtain ⟨⟨qk, qtx, qgs, qbd⟩, qa, qc⟩ := x'
                have HF : Hid (Bk wT R 24 [.int .i64 qk, .string ⟨qtx.toArray⟩, .slice qa qgs.length qc, .string ⟨qbd.toArray⟩]) := hF
                have HGT : Hid (Gq wT wI.heap.size (⟨qk, qtx, qgs, qbd⟩, (qa, qc))) := hGq
                have HCT : Hid (qgs.length ≤ qc ∧ (qa = none → qc = 0)) := hCp
                have HLT : Hid (ltr (⟨qk, qtx, qgs, qbd⟩, (qa, qc)) ≤ ltr (⟨rk, rtx, rgs, rbd⟩, (ra, rc)) + 1) := hLt
                have HRT : Hid (Rwq wT wI.heap.size (.slice a' k c') xs) := hRw
                have HKT : Hid (Kept (fun _ => True) wI wT) := hKw
                clear hF hGq hCp hLt hRw hKw
                obtain ⟨f0, f1, f2, f3⟩ := bk_four HF.out
                have ff := Bk.free HF.out
                go_upto_if 59 with fail
                go_cut [59] from 60 to 63 (fun _ wx => ∃ gs' : List Int, gs'.length ≤ 6 ∧ Bk wx R 24 [.int .i64 qk, .string ⟨qtx.toArray⟩, .slice qa gs'.length qc, .string ⟨qbd.toArray⟩] ∧ Gq wx wI.heap.size (⟨qk, qtx, gs', qbd⟩, (qa, qc)) ∧ Rwq wx wI.heap.size (.slice a' k c') xs ∧ Kept (fun _ => True) wI wx)
                case first =>
                  by_cases hg6 : qgs.length > 6
                  · have hd : decide ((6 : Int) < qgs.length) = true := decide_eq_true (by omega)
                    have hcut := fun W : World => cut_ints qa qgs.length qc 6 (by have := HCT.out.1; omega) HCT.out.2 W
                    have hcc : ¬ ((qc : Int) < 6) := by have := HCT.out.1; omega
                    have ht6 : Hid ((qgs.take 6).length = 6) := by show _ = _; rw [List.length_take]; omega
                    have k6 : Kept (· ≠ R) wT (wT.setCell ⟨R, 2, none⟩ (.slice qa 6 qc)) := kept_set
                    have F6 : Hid (Bk (wT.setCell ⟨R, 2, none⟩ (.slice qa 6 qc)) R 24 [.int .i64 qk, .string ⟨qtx.toArray⟩, .slice qa 6 qc, .string ⟨qbd.toArray⟩]) := Bk.set HF.out 2 _
                    have hno : ∀ b, b < wT.heap.size → (b < wI.heap.size ∨ ∃ cs fr, wT.heap[b]? = some (.cells cs 3 fr)) → b ≠ R := fun b _ hb e => by
                      rcases hb with hb | ⟨cs, fr, hb⟩
                      · have := HLR.out; omega
                      · rw [e] at hb
                        have F4 := HF.out
                        unfold Bk at F4
                        rw [F4] at hb
                        simp at hb
                    have G6 : Hid (Gq (wT.setCell ⟨R, 2, none⟩ (.slice qa 6 qc)) wI.heap.size (⟨qk, qtx, qgs.take 6, qbd⟩, (qa, qc))) := (HGT.out.take (n := 6)).kept k6 hno
                    have R6 : Hid (Rwq (wT.setCell ⟨R, 2, none⟩ (.slice qa 6 qc)) wI.heap.size (.slice a' k c') xs) := HRT.out.kept k6 (fun b hb e => by have := HOR.out b hb; omega) hno
                    have K6 : Hid (Kept (fun _ => True) wI (wT.setCell ⟨R, 2, none⟩ (.slice qa 6 qc))) := HKT.out.then k6 (fun b hb _ e => by have := HLR.out; omega)
                    try rw [hd]
                    clear hg6 hd k6 hno
                    go_wp2_with fail
                    go_meet
                    exact ⟨qgs.take 6, by rw [ht6.out]; exact Nat.le_refl _, by rw [ht6.out]; exact F6.out, G6.out, R6.out, K6.out⟩
                  · have hd : decide ((6 : Int) < qgs.length) = false := decide_eq_false (by omega)
                    have hg : Hid (qgs.length ≤ 6) := by show _ ≤ _; omega
                    try rw [hd]
                    clear hg6 hd
                    go_wp2_with fail
                    go_meet
                    exact ⟨qgs, hg.out, HF.out, HGT.out, HRT.out, HKT.out⟩
                case rest =>
                  obtain ⟨gs', hg6, hF, hGq, hRw, hKw⟩ := hcut
                  obtain ⟨wU, hwU⟩ : ∃ x, x = wc := ⟨_, rfl⟩
                  rw [← hwU] at hF hGq hRw hKw ⊢
                  have HF : Hid (Bk wU R 24 [.int .i64 qk, .string ⟨qtx.toArray⟩, .slice qa gs'.length qc, .string ⟨qbd.toArray⟩]) := hF
                  have HGU : Hid (Gq wU wI.heap.size (⟨qk, qtx, gs', qbd⟩, (qa, qc))) := hGq
                  have HRU : Hid (Rwq wU wI.heap.size (.slice a' k c') xs) := hRw
                  have HKU : Hid (Kept (fun _ => True) wI wU) := hKw
                  have HG6 : Hid (gs'.length ≤ 6) := hg6
                  clear hwU hF hGq hRw hKw hg6 f0 f1 f2 f3 ff HGT HRT HKT
                  obtain ⟨f0, f1, f2, f3⟩ := bk_four HF.out
                  have j1 : (k : Int) + 1 ≤ 9223372036854775807 := by omega
                  go_wp2_with (at_builtin; refine wpList_append_one recT rfl (.tmp 64) (.tmp 66) rfl wI.heap.size (.slice a' k c') xs rfl (HRU.out.ow.all ((Kept.refl _ _).alloc _)) (by rw [heap_size_alloc]; have := HKU.out.size; omega) wU.heap.size rfl (⟨qk, qtx, gs', qbd⟩, (qa, qc)) (0, 0) (heap_alloc_new wU _) (by rw [HXL.out]; have := HI.out.2; omega) (k + 1) (by rw [HXL.out]) ?_; intro a4 c4 w4 ho4 hg4 hl4)
                  go_roundw
                  case rel =>
                    have hst := HRU.out.step HGU.out ho4 hg4
                    refine ⟨k + 1, a4, c4, xs ++ [(⟨qk, qtx, gs', qbd⟩, (qa, qc))], by have := HI.out.1; omega, by have := HI.out.2; omega, by rw [List.length_append, HXL.out]; rfl, by go_num, rfl, hst, fun r hr => ?_, ?_, ?_⟩
                    · rcases List.mem_append.1 hr with h1 | h1
                      · exact H6.out.1 r h1
                      · rw [List.mem_singleton.1 h1]; exact HG6.out
                    · rw [HSx.out, sumL_append]
                      have h1 := H6.out.2
                      have h2 := HLT.out
                      simp only [sumL, ltr] at h2 ⊢
                      omega
                    · exact (HKU.out.alloc _).grown hg4 (fun i hi e => by have := HRU.out.ow.ge e; omega)
                  case measure => have := HI.out.2; simp [intOf]; omega
            · have i2 : ¬ (k : Int) < 8 := by omega
              have HK8 : Hid (k ≤ 8 ∧ k ≤ RSi.length) := ⟨hk8, hk⟩
              clear hl8 hlt hk hk8 hkr
              go_wp2_with fail
              go_meet
              have h1 := sumL_take RSi k
              have h2 := H6.out.2
              have h3 := HCi.out.2
              rw [← HXL.out] at HRW ⊢
              exact ⟨a', c', xs, rfl, by have := HK8.out; have := HXL.out; omega, HRW.out, H6.out.1, by have := HK8.out; omega, HKr.out⟩
          · have i1 : ¬ (k : Int) < (RSi.length : Int) := by omega
            have HK8 : Hid (k ≤ 8 ∧ k ≤ RSi.length) := ⟨hk8, hk⟩
            clear hlt hk hk8 hkr
            go_wp2_with fail
            go_meet
            have h1 := sumL_take RSi k
            have h2 := H6.out.2
            have h3 := HCi.out.2
            rw [← HXL.out] at HRW ⊢
            exact ⟨a', c', xs, rfl, by have := HK8.out; have := HXL.out; omega, HRW.out, H6.out.1, by have := HK8.out; omega, HKr.out⟩
      case rest =>
      obtain ⟨a14, c14, xs, rfl, hlx, hrx, h6, hsm, hkx⟩ := hcut
      obtain ⟨wJ, hwJ⟩ : ∃ x, x = wc := ⟨_, rfl⟩
      rw [← hwJ] at hrx hkx ⊢
      clear hwJ
      have HRX : Hid (Rwq wJ wI.heap.size (.slice a14 xs.length c14) xs) := hrx
      have HLX : Hid (xs.length ≤ 8 ∧ (∀ r ∈ xs, r.1.gs.length ≤ 6) ∧ sumL xs ≤ 1048600) := ⟨hlx, h6, hsm⟩
      have HKJ : Hid (Kept (fun _ => True) wI wJ) := hkx
      have HGj : Hid (Gi wJ ag gs) := HGi.out.all hkx
      clear hrx hlx hkx HGi HVi c0 h6 hsm HCi
      go_upto_if 72 with fail
      go_cut [21] from 68 to 77 (fun t16 wx => ∃ gg : Nat, gg ≤ 2 ∧ t16 = .int .i64 gg ∧ wx = wJ)
      case first =>
        by_cases hgl : i < gs.length
        · have g1 : (i : Int) < (gs.length : Int) := by omega
          obtain ⟨b, off, rfl, hb, hc⟩ := HGj.out (by omega)
          have c1 := hc i hgl
          have cw := fun W : World => wi_any (w := W) gs[i] 2 (by decide)
          have hw2 := wi_le gs[i] 2
          generalize gs[i] = gi at *
          clear hc hb hgl
          go_wp2_with (go_at_call 24; (with_reducible refine Calls.mono (cw _) ?_); rintro e w5 ⟨rfl, rfl⟩)
          go_meet
          exact ⟨_, hw2, rfl, rfl⟩
        · have g1 : ¬ (i : Int) < (gs.length : Int) := by omega
          clear hgl
          go_wp2_with fail
          go_meet
          exact ⟨i, by have := HI.out; omega, rfl, rfl⟩
      case rest =>
      obtain ⟨gg, hgg, rfl, hwc⟩ := hcut
      subst hwc
      have HGG : Hid (gg ≤ 2) := hgg
      have hfg : Fits (gg : Int) := by unfold Fits; omega
      clear hgg
      obtain ⟨wK, hwK⟩ : ∃ x, x = wc := ⟨_, rfl⟩
      rw [← hwK] at HRX HKJ HGj ⊢
      clear hwK
      have cc := clq_big (c := c14) (gg : Int) hfg HRX.out.rrv rfl HLX.out.1 HLX.out.2.1 HLX.out.2.2
      have HCk : Hid (Cls wK w2.heap.size (.slice aL i cL) cl) := HC.out.all HKJ.out
      have HKk : Hid (Kept (fun _ => True) w2 wK) := HKr.out.trans HKJ.out
      clear HC HKJ HKr HRX HGj hfg
      have j1 : (i : Int) + 1 ≤ 9223372036854775807 := by omega
      go_wp2_with (first
        | (go_at_call 9; (with_reducible refine Calls.mono cc ?_); rintro e w6 ⟨a6, c6, E, rfl, hq6, h6, hE0, k6⟩; have HOB : Hid (Ob w6 w2.heap.size (.slice a6 E.length c6) E) := World.ownsRow.mono h6 HKk.out.size; have HNW : Hid (∀ b, (Value.slice a6 E.length c6).ownBlock = some b → wK.heap.size ≤ b) := (fun b hb => (World.ownsRow.lt h6 b hb).1); have HQ6 : Hid (Clq w6 ⟨(gg : Int), E, a6, c6⟩ ∧ 0 < E.length) := ⟨hq6, hE0⟩; have HC6 : Hid (Cls w6 w2.heap.size (.slice aL i cL) cl) := HCk.out.all k6; have HK6 : Hid (Kept (fun _ => True) w2 w6) := HKk.out.trans k6; clear h6 k6 cc hq6 hE0)
        | (at_builtin; refine wpList_append_one claimTy rfl (.tmp 78) (.tmp 82) rfl w2.heap.size (.slice aL i cL) cl rfl (HC6.out.ow.all ((Kept.refl _ _).alloc _)) (by rw [heap_size_alloc]; have := HK6.out.size; omega) w6.heap.size rfl (⟨(gg : Int), E, a6, c6⟩ : Uc) (0, 0) (heap_alloc_new w6 _) (by rw [HCL.out]; have := HI.out; omega) (i + 1) (by rw [HCL.out]) ?_; intro a7 c7 w7 ho7 hg7 hl7))
      go_roundw
      case rel =>
        have hst := HC6.out.step (⟨(gg : Int), E, a6, c6⟩ : Uc) HOB.out ho7 hg7
        refine ⟨i + 1, a7, c7, cl ++ [⟨(gg : Int), E, a6, c6⟩], by have := HI.out; omega, by go_num, rfl, by rw [List.length_append, HCL.out]; rfl, hst, fun c hc => ?_, ?_, ?_⟩
        · have hH := own_has (hst.ob c hc)
          rcases List.mem_append.1 hc with h1 | h1
          · obtain ⟨q1, q2⟩ := HQ.out c h1
            exact ⟨⟨hH, q1.fit, q1.cap, q1.le, q1.few⟩, q2⟩
          · have e1 := List.mem_singleton.1 h1
            subst e1
            obtain ⟨q1, q2⟩ := HQ6.out
            exact ⟨⟨hH, q1.fit, q1.cap, q1.le, q1.few⟩, q2⟩
        · refine List.pairwise_append.2 ⟨HAP.out, List.pairwise_singleton _ _, fun x hx y hy e => ?_⟩
          rw [List.mem_singleton.1 hy] at e
          have h1 := ob_at (HCk.out.ob x hx) (HQ.out x hx).2
          have h2 := ob_at HOB.out HQ6.out.2
          obtain ⟨b1, q1, q2⟩ := h1
          obtain ⟨b2, q3, q4⟩ := h2
          simp only at e
          rw [q1, q3] at e
          injection e with e
          injection e with e _ _
          have h3 := HNW.out b2 (by rw [q3]; rfl)
          omega
        · exact (HK6.out.alloc _).grown hg7 (fun x hx e => by have := (World.ownsRow.lt HC6.out.ow x e).1; omega)
      case measure => have := HI.out; simp [intOf]; omega
    · obtain rfl : i = 3 := by omega
      have HKW : Hid (Kept (fun _ => True) w wI) := K2.out.trans hkr
      have HB2 : Hid (w.heap.size ≤ w2.heap.size) := K2.out.size
      have HB3 : Hid (w2.heap.size ≤ wI.heap.size) := hkr.size
      clear hi hlt hkr HV HG HBc HBl K2 HKr HCP
      obtain ⟨_, _, eL, hcap, hsome, _⟩ := HC.out.ow.shape
      have hlen3 := HCL.out
      injection eL with eL1 eL2 eL3
      subst eL1 eL3
      obtain ⟨gL, rfl⟩ := hsome (by omega)
      have h0c : 0 < cl.length := by omega
      obtain ⟨x0, hx0⟩ : ∃ x, x = cl[0] := ⟨_, rfl⟩
      have HX0 : Hid (Clq wI x0) := by rw [hx0]; exact (HQ.out _ (List.getElem_mem h0c)).1
      have HXm : Hid (x0 ∈ cl ∧ 0 < x0.bs.length) := by rw [hx0]; exact ⟨List.getElem_mem h0c, (HQ.out _ (List.getElem_mem h0c)).2⟩
      have hrg : wI.rangeAt gL 0 (ccell x0) := by
        obtain ⟨b', off', e', _, hr⟩ := HC.out.ow.view.row h0c
        injection e' with e'
        injection e' with e1' e2'
        subst e1' e2'
        rw [hx0]
        exact hr 0 h0c
      have hgl : gL < wI.heap.size := HC.out.ow.lt rfl
      have m0 : ∀ W, Kept (fun _ => True) wI W → W.cell? ⟨gL, 0, none⟩ = some (.int .i64 x0.g) := fun W k => range_kept hrg k hgl trivial 0 _ rfl
      have m1 : ∀ W, Kept (fun _ => True) wI W → W.cell? ⟨gL, 1, none⟩ = some (.slice x0.a x0.bs.length x0.c) := fun W k => range_kept hrg k hgl trivial 1 _ rfl
      clear eL2 hcap hsome hlen3 hrg hgl hx0 h0c
      go_wp2_with fail
      refine Gz.begin (fun W => Kept (fun _ => True) wI W) (fun i => decide (13 ≤ i)) (by kernel_rfl) ?_
      refine Gz.tkT (i := 0) (oi := ⟨some 85, .move (.tmp 15), 30, _, _, none⟩) (v := ?_) rfl (by kernel_rfl) (fun _ _ _ h => h) (Or.inl ⟨by rfl, ?hy0⟩) (Kept.refl _ _).drew ?_
      case hy0 => (intro W hS; (try dsimp only at hS); go_simp; try with_reducible rfl)
      try simp only [Act.put, lyA, ly0, ly1]
      refine Gz.tkT (i := 1) (oi := ⟨some 86, .move (.tmp 15), 30, _, _, none⟩) (v := ?_) rfl (by kernel_rfl) (fun _ _ _ h => h) (Or.inl ⟨by rfl, ?hy1⟩) (Kept.refl _ _).drew ?_
      case hy1 => (intro W hS; (try dsimp only at hS); go_simp; try with_reducible rfl)
      try simp only [Act.put, lyA, ly0, ly1]
      refine Gz.tkT (i := 2) (oi := ⟨some 87, .indexAddr 30 (.tmp 86) (.const (Value.int IntKind.i64 0)), 0, _, _, none⟩) (v := ?_) rfl (by kernel_rfl) (fun _ _ _ h => h) (Or.inl ⟨by rfl, ?hy2⟩) (Kept.refl _ _).drew ?_
      case hy2 => (intro W hS; (try dsimp only at hS); go_simp; try with_reducible rfl)
      try simp only [Act.put, lyA, ly0, ly1]
      refine Gz.tkT (i := 3) (oi := ⟨some 88, .fieldAddr 27 (.tmp 87) 0, 0, _, _, none⟩) (v := ?_) rfl (by kernel_rfl) (fun _ _ _ h => h) (Or.inl ⟨by rfl, ?hy3⟩) (Kept.refl _ _).drew ?_
      case hy3 => (intro W hS; (try dsimp only at hS); go_simp; try with_reducible rfl)
      try simp only [Act.put, lyA, ly0, ly1]
      refine Gz.tkT (i := 4) (oi := ⟨some 89, .load 3 (.tmp 88), 3, _, _, none⟩) (v := ?_) rfl (by kernel_rfl) (fun _ _ _ h => h) (Or.inl ⟨by rfl, ?hy4⟩) (Kept.refl _ _).drew ?_
      case hy4 => (intro W hS; (try dsimp only at hS); go_simp; try with_reducible rfl)
      try simp only [Act.put, lyA, ly0, ly1]
      refine Gz.tkT (i := 6) (oi := ⟨some 91, .move (.tmp 15), 30, _, _, none⟩) (v := ?_) rfl (by kernel_rfl) (fun _ _ _ h => h) (Or.inl ⟨by rfl, ?hy6⟩) (Kept.refl _ _).drew ?_
      case hy6 => (intro W hS; (try dsimp only at hS); go_simp; try with_reducible rfl)
      try simp only [Act.put, lyA, ly0, ly1]
      refine Gz.tkT (i := 7) (oi := ⟨some 92, .indexAddr 30 (.tmp 91) (.const (Value.int IntKind.i64 0)), 0, _, _, none⟩) (v := ?_) rfl (by kernel_rfl) (fun _ _ _ h => h) (Or.inl ⟨by rfl, ?hy7⟩) (Kept.refl _ _).drew ?_
      case hy7 => (intro W hS; (try dsimp only at hS); go_simp; try with_reducible rfl)
      try simp only [Act.put, lyA, ly0, ly1]
      refine Gz.tkT (i := 8) (oi := ⟨some 93, .fieldAddr 27 (.tmp 92) 1, 0, _, _, none⟩) (v := ?_) rfl (by kernel_rfl) (fun _ _ _ h => h) (Or.inl ⟨by rfl, ?hy8⟩) (Kept.refl _ _).drew ?_
      case hy8 => (intro W hS; (try dsimp only at hS); go_simp; try with_reducible rfl)
      try simp only [Act.put, lyA, ly0, ly1]
      refine Gz.tkT (i := 9) (oi := ⟨some 94, .load 25 (.tmp 93), 25, _, _, none⟩) (v := ?_) rfl (by kernel_rfl) (fun _ _ _ h => h) (Or.inl ⟨by rfl, ?hy9⟩) (Kept.refl _ _).drew ?_
      case hy9 => (intro W hS; (try dsimp only at hS); go_simp; try with_reducible rfl)
      try simp only [Act.put, lyA, ly0, ly1]
      refine Gz.one (i := 5) (o := ⟨some 90, .buildSlice 25 0 #[], 25, _, _, none⟩) (by kernel_rfl) rfl (fun K hK => ?_)
      go_simp
      refine hK.out _ _ (fun _ => (Kept.refl _ _).drew.alloc _) ?_
      clear hK K
      try simp only [Act.put, lyA, ly0, ly1]
      refine Gz.one (i := 10) (o := ⟨some 95, .call { callee := .builtin Builtin.append, args := #[.tmp 90, .tmp 94], argTypes := #[25, 25] }, 25, _, _, none⟩) (by kernel_rfl) rfl (fun K hK => ?_)
      refine step_append_has rfl (.tmp 90) (.tmp 94) rfl wI.heap.size (.slice (some ⟨wI.heap.size, 0, none⟩) 0 0) 0 [] rfl (own_new wI.drew wI.heap.size (by simp)) (by simp) x0.a x0.bs.length x0.c rfl x0.bs rfl HX0.out.cap (HX0.out.has.kept ((Kept.refl (fun _ => True) _).drew.alloc _) (fun _ _ => trivial)) (by have := HX0.out.few; omega) ?_
      intro a2 c2 w5 ho5 hg5 at5
      simp only [Nat.zero_add, List.nil_append] at ho5 at5 ⊢
      have k5 : Kept (fun _ => True) wI w5 := ((Kept.refl _ _).drew.alloc _).grown hg5 (fun i hi e => by simp [Value.ownBlock] at e; omega)
      have HO5 : Hid (Ob w5 wI.heap.size (.slice a2 x0.bs.length c2) x0.bs) := ho5
      clear ho5 hg5 at5
      refine hK.out _ _ (fun _ => k5) ?_
      clear hK K
      try simp only [Act.put, lyA, ly0, ly1]
      refine Gz.tkT (i := 11) (oi := ⟨some 96, .build 27 #[(0, .tmp 89), (1, .tmp 95)], 27, _, _, none⟩) (v := ?_) rfl (by kernel_rfl) (fun _ _ _ h => h) (Or.inl ⟨by rfl, ?hy11⟩) k5 ?_
      case hy11 => (intro W hS; (try dsimp only at hS); go_simp; try with_reducible rfl)
      try simp only [Act.put, lyA, ly0, ly1]
      refine Gz.one (i := 12) (o := ⟨some 97, .buildSlice 30 1 #[(0, .tmp 96)], 30, _, _, none⟩) (by kernel_rfl) rfl (fun K hK => ?_)
      go_simp
      refine hK.out _ _ (fun _ => k5.alloc _) ?_
      clear hK K
      try simp only [Act.put, lyA, ly0, ly1]
      refine Gz.one (i := 13) (o := ⟨some 98, .call { callee := .builtin Builtin.append, args := #[.tmp 85, .tmp 97], argTypes := #[30, 30] }, 30, _, _, none⟩) (by kernel_rfl) rfl (fun K hK => ?_)
      refine step_append_one (x := (⟨x0.g, x0.bs, a2, c2⟩ : Uc)) claimTy rfl (.tmp 85) (.tmp 97) rfl w2.heap.size (.slice (some ⟨gL, 0, none⟩) 3 cL) cl rfl (HC.out.ow.all (k5.alloc _)) (by rw [heap_size_alloc]; have h1 := k5.size; have h2 := HB3.out; omega) w5.heap.size rfl (0, 0) (heap_alloc_new w5 _) (by have := HCL.out; omega) 4 (by rw [HCL.out]) ?_
      intro a7 c7 w7 ho7 hg7 at7
      have hst := (HC.out.all k5).step (⟨x0.g, x0.bs, a2, c2⟩ : Uc) (World.ownsRow.mono HO5.out HB3.out) ho7 hg7
      have HC7 : Hid (Cls w7 w2.heap.size (.slice a7 4 c7) (cl ++ [⟨x0.g, x0.bs, a2, c2⟩])) := hst
      have k7 : Kept (fun _ => True) w w7 := ((HKW.out.trans k5).alloc _).grown hg7 (fun x hx e => by have h1 := (World.ownsRow.lt HC.out.ow x e).1; have h2 := HB2.out; omega)
      clear ho7 hg7 at7 hst
      refine hK.out _ _ (fun hEarly => by cases hEarly) ?_
      clear hK K
      try simp only [Act.put, lyA, ly0, ly1]
      refine Gz.one (i := 14) (o := ⟨some 15, .assign (.tmp 98), 30, _, _, none⟩) (by kernel_rfl) rfl (fun K hK => ?_)
      go_simp
      refine hK.out _ _ (fun hEarly => by cases hEarly) ?_
      clear hK K
      try simp only [Act.put, lyA, ly0, ly1]
      refine Gz.done (by kernel_rfl) ?_ _
      clear m0 m1
      have K7 : Hid (Kept (fun _ => True) w w7) := k7
      have hC4 : (cl ++ [(⟨x0.g, x0.bs, a2, c2⟩ : Uc)]).length = 4 := by rw [List.length_append, HCL.out]; rfl
      have hQ4 : ∀ c ∈ cl ++ [(⟨x0.g, x0.bs, a2, c2⟩ : Uc)], Clq w7 c ∧ 0 < c.bs.length := fun c hc => by
        have hH := own_has (HC7.out.ob c hc)
        rcases List.mem_append.1 hc with h1 | h1
        · obtain ⟨q1, q2⟩ := HQ.out c h1
          exact ⟨⟨hH, q1.fit, q1.cap, q1.le, q1.few⟩, q2⟩
        · have e1 := List.mem_singleton.1 h1
          subst e1
          obtain ⟨s1, s2⟩ := ob_shape HO5.out
          exact ⟨⟨hH, HX0.out.fit, s1, s2, HX0.out.few⟩, HXm.out.2⟩
      have hP4 : (cl ++ [(⟨x0.g, x0.bs, a2, c2⟩ : Uc)]).Pairwise (fun x y => x.a ≠ y.a) := by
        refine List.pairwise_append.2 ⟨HAP.out, List.pairwise_singleton _ _, fun x hx y hy e => ?_⟩
        rw [List.mem_singleton.1 hy] at e
        obtain ⟨b1, q1, q2⟩ := ob_at (HC.out.ob x hx) (HQ.out x hx).2
        obtain ⟨b2, q3, q4⟩ := ob_at HO5.out HXm.out.2
        simp only at e
        rw [q1, q3] at e
        injection e with e
        injection e with e _ _
        have h3 := (World.ownsRow.lt HO5.out b2 (by rw [q3]; rfl)).1
        omega
      clear HX0 HXm HO5 HC HQ HAP HCL k7 HB3
      generalize cl ++ [(⟨x0.g, x0.bs, a2, c2⟩ : Uc)] = C0 at *
      have HC4 : Hid (C0.length = 4) := hC4
      have HQ4 : Hid (∀ c ∈ C0, Clq w7 c ∧ 0 < c.bs.length) := hQ4
      have HP4 : Hid (C0.Pairwise (fun x y => x.a ≠ y.a)) := hP4
      clear hC4 hQ4 hP4 HKW k5
      go_upto_if 100 with fail
      go_cut [22, 23, 100] from 101 to 119 (fun _ _ _ wx => ∃ CL : List Uc, CL.length = 4 ∧ Vw claimS wx a7 CL ∧ (∀ c ∈ CL, Clq wx c) ∧ Kept (fun _ => True) w wx)
      case first =>
        by_cases ht : 127 < turn.toNat
        · have hd : decide ((127 : Int) < (turn.toNat : Nat)) = true := decide_eq_true (by omega)
          try rw [hd]
          have cw := fun W : World => wi_any (w := W) pl 3 (by decide)
          have hk3 := wi_le pl 3
          generalize wi pl 3 = k at *
          have hkl : k < C0.length := by rw [HC4.out]; omega
          obtain ⟨B, hBa, hBl⟩ := ob_at (HC7.out.ob _ (List.getElem_mem hkl)) (HQ4.out _ (List.getElem_mem hkl)).2
          have HBa : Hid (C0[k].a = some ⟨B, 0, none⟩) := hBa
          have hob := HC7.out.ob _ (List.getElem_mem hkl)
          rw [hBa] at hob
          obtain ⟨m, hm⟩ : ∃ m, C0[k].bs.length = m + 1 := ⟨C0[k].bs.length - 1, by have := (HQ4.out _ (List.getElem_mem hkl)).2; omega⟩
          have hm2 : m ≤ 2000000 := by have := (HQ4.out _ (List.getElem_mem hkl)).1.few; omega
          have cj := fun W : World => wi_any (w := W) (wrap64 (pl.tdiv 4)) m (by omega)
          have hjm := wi_le (wrap64 (pl.tdiv 4)) m
          generalize wi (wrap64 (pl.tdiv 4)) m = j at *
          have hjl : j < C0[k].bs.length := by omega
          have by0 := ob_byteT hob j hjl
          have fr0 := ob_freeT hob j
          obtain ⟨y, hy⟩ := xorcT C0[k].bs[j] turn.toNat ⟨by omega, by have := turn.toNat_lt; omega⟩
          have hTR := fun (y : UInt8) => turn_one HC7.out HQ4.out HP4.out k hkl hBa j y
          obtain ⟨gL7, off7, e7, hg7, hr7⟩ := HC7.out.ow.view.row (by omega)
          subst e7
          have c1 : w7.cell? ⟨gL7, off7 + k * 2 + 1, none⟩ = some (.slice (some ⟨B, 0, none⟩) (m + 1) C0[k].c) := by
            have := hr7 k hkl 1 _ rfl
            rw [hBa, hm] at this
            exact this
          have k0 : (0 : Int) ≤ (k : Int) := by omega
          have k1 : (k : Int) < 4 := by omega
          have j0 : (0 : Int) ≤ (j : Int) := by omega
          have j1 : (j : Int) < (m : Int) + 1 := by omega
          have HBw : Hid (w.heap.size ≤ B) := by have h1 := (World.ownsRow.lt hob B rfl).1; have h2 := HB2.out; show _ ≤ _; omega
          generalize C0[k].bs[j] = zb at by0 hy
          generalize C0[k].c = zc at c1
          clear hd ht hjl hjm hk3 hr7 hg7 hob hBl hm hBa HBa hkl
          go_wp2_with (first
            | (go_at_call 24; (with_reducible refine Calls.mono (cw _) ?_); rintro e w8 ⟨rfl, rfl⟩; clear cw)
            | (go_at_call 24; (with_reducible refine Calls.mono (cj _) ?_); rintro e w9 ⟨rfl, rfl⟩; clear cj))
          go_meet
          obtain ⟨CL, h1, h2, h3⟩ := hTR y
          exact ⟨CL, h1.trans HC4.out, h2, h3, kept_fresh K7.out HBw.out _⟩
        · have hd : decide ((127 : Int) < (turn.toNat : Nat)) = false := decide_eq_false (by omega)
          try rw [hd]
          clear ht hd
          go_wp2_with fail
          go_meet
          exact ⟨C0, HC4.out, HC7.out.ow.view, fun c hc => (HQ4.out c hc).1, K7.out⟩
      case rest =>
        obtain ⟨CL, hcl4, hvw, hcq, hkw⟩ := hcut
        obtain ⟨wq, hwq⟩ : ∃ x, x = wc := ⟨_, rfl⟩
        rw [← hwq] at hvw hcq hkw ⊢
        clear hwq
        have hL : Lst wq a7 CL := ⟨hvw, hcq, by omega⟩
        have hL1 : Hid (Lst wq a7 CL) := hL
        have HL : Hid (CL.length = 4) := hcl4
        have HKQ : Hid (Kept (fun _ => True) w wq) := hkw
        have VC := verify_lst (n := 4) (c := c7) hL hcl4
        clear hL hcl4 hvw hcq hkw HC7 HQ4 HP4 HC4 K7
        go_upto_region 26 with (go_at_call 10; (with_reducible refine Calls.mono VC ?_); rintro e wv ⟨⟨vr, vi, vz, vk, pq, rfl, hpg, hver⟩, kv⟩; have HPG : Hid (Pgs CL (pq.map (·.1))) := hpg; have HVER : Hid (EVer pq (.returned (.tuple #[.agg #[.int .i64 vr, .int .i64 vi, .int .i64 vz], .bool vk]))) := hver; clear hpg hver VC)
        obtain ⟨wX, hwX⟩ : ∃ x, x = wv.alloc (.cells #[.int .i64 vr, .int .i64 vi, .int .i64 vz] 33) := ⟨_, rfl⟩
        have kX : Kept (fun _ => True) wq wX := by rw [hwX]; exact kv.alloc _
        have FD : Hid (Bk wX wv.heap.size 33 [.int .i64 vr, .int .i64 vi, .int .i64 vz]) := by show Bk _ _ _ _; rw [hwX]; exact heap_alloc_new wv _
        rw [← hwX]
        have KX : Hid (Kept (fun _ => True) wq wX) := kX
        have IN1 := in_lst (n := 4) (c := c7) (hL1.out.all kX) HL.out
        clear hwX kv kX
        generalize wv.heap.size = D at *
        go_upto_region 27 with (first
          | (go_at_call 12; (with_reducible refine Calls.mono IN1 ?_); rintro e w3 ⟨⟨a3, c3, cl, rfl, hldc⟩, k3⟩; have K3 : Hid (Kept (fun _ => True) wX w3) := k3; have RV := rverify_lst (c := c3) hL1.out hldc HL.out HPG.out HVER.out; clear hldc k3 IN1)
          | (go_at_call 11; (with_reducible refine Calls.mono RV ?_); rintro e w4 ⟨rfl, k4⟩; have KV4 : Hid (Kept (fun _ => True) wX w4) := K3.out.trans k4; clear k4 RV))
        obtain ⟨w5, hw5⟩ : ∃ x, x = w4.alloc (.cells #[.int .i64 vr, .int .i64 vi, .int .i64 vz] 36) := ⟨_, rfl⟩
        have k5 : Kept (fun _ => True) wX w5 := by rw [hw5]; exact KV4.out.alloc _
        have FE : Bk w5 w4.heap.size 36 [.int .i64 vr, .int .i64 vi, .int .i64 vz] := by rw [hw5]; exact heap_alloc_new w4 _
        rw [← hw5]
        have K5 : Hid (Kept (fun _ => True) wq w5) := KX.out.trans k5
        obtain ⟨d0, d1, d2⟩ := (FD.out.kept k5 trivial).three
        obtain ⟨g0, g1, g2⟩ := FE.three
        have OC := outcomes_lst (n := 4) (c := c7) (hL1.out.all K5.out) HL.out [116]
        have hOl : ∀ K : K4, (outO K).length ≤ 1000000 := fun K => by unfold outO; split <;> split <;> simp
        clear hw5 k5 FE KV4 K3 KX FD
        generalize w4.heap.size = E at *
        cases vk
        · go_wp2_with (first
            | (go_at_call 14; (with_reducible refine Calls.mono OC ?_); rintro e w6 ⟨⟨v6, lss, rfl, hd6, hi6⟩, k6⟩; have IN2 := in_lst (n := 4) (c := c7) (hL1.out.all (K5.out.trans k6)) HL.out; clear OC)
            | (go_at_call 12; (with_reducible refine Calls.mono IN2 ?_); rintro e w7 ⟨⟨a7, c7, cl7, rfl, hl7⟩, k7⟩; have RO := routcomes_lst (c := c7) hL1.out hl7 HL.out [116] hd6; clear IN2)
            | (go_at_call 15; (with_reducible refine Calls.mono RO ?_); rintro e w8' ⟨⟨v8, rfl, hi8⟩, k8⟩; have CS := isame_any (hi6.kept (k7.trans k8) (fun _ _ => trivial)) hi8 (hOl _); clear RO)
            | (go_at_call 13; (with_reducible refine Calls.mono CS ?_); rintro e w9 ⟨rfl, m9, rfl⟩)
            | (go_at_call 16; (with_reducible refine Calls.mono (known_any _) ?_); rintro e w10 ⟨rfl, k10⟩))
          go_ret
          exact ⟨rfl, (HKQ.out.trans (K5.out.trans (((k6.trans k7).trans k8).drewN _))).trans k10⟩
        · go_wp2_with (first
            | (go_at_call 14; (with_reducible refine Calls.mono OC ?_); rintro e w6 ⟨⟨v6, lss, rfl, hd6, hi6⟩, k6⟩; have IN2 := in_lst (n := 4) (c := c7) (hL1.out.all (K5.out.trans k6)) HL.out; clear OC)
            | (go_at_call 12; (with_reducible refine Calls.mono IN2 ?_); rintro e w7 ⟨⟨a7, c7, cl7, rfl, hl7⟩, k7⟩; have RO := routcomes_lst (c := c7) hL1.out hl7 HL.out [116] hd6; clear IN2)
            | (go_at_call 15; (with_reducible refine Calls.mono RO ?_); rintro e w8' ⟨⟨v8, rfl, hi8⟩, k8⟩; have CS := isame_any (hi6.kept (k7.trans k8) (fun _ _ => trivial)) hi8 (hOl _); clear RO)
            | (go_at_call 13; (with_reducible refine Calls.mono CS ?_); rintro e w9 ⟨rfl, m9, rfl⟩)
            | (go_at_call 16; (with_reducible refine Calls.mono (known_any _) ?_); rintro e w10 ⟨rfl, k10⟩))
          go_ret
          exact ⟨rfl, (HKQ.out.trans (K5.out.trans (((k6.trans k7).trans k8).drewN _))).trans k10⟩

end Go.Proofs.Ytmcaoimgmgjjiaa
