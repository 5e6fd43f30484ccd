/-
  AuditTurned: it answers true.
-/
import Derived.Test.YtbooeabmpdpgpaaU22
import Derived.Test.YtbooeabmpdpgpaaLawAu3
namespace Go.Proofs.Ytbooeabmpdpgpaa
open Go.RowKit Go.Maps Go.Sort

set_option maxRecDepth 100000 in
theorem cut_ch (g off n cap k : Nat) (hk : k ≤ cap) (w0 : World) :
    (Instr.slice 30 (.slice (some ⟨g, off, none⟩) n cap) none (some (.int .i64 (k : Int))) none).run Try.prog w0 = .ok (.slice (some ⟨g, off, none⟩) k cap) w0 := by
  rw [run_slice_h (P := Try.prog) w0 30 (some ⟨g, off, none⟩) n cap Try.underlying30 .i64 k (by omega) (by omega), size_claims]
  simp [Result.andThen, sliced, Addr.add]
set_option maxRecDepth 100000 in
theorem cut_cl (g off n cap k : Nat) (hk : k ≤ n) (hc : k < cap) (w0 : World) :
    (Instr.slice 30 (.slice (some ⟨g, off, none⟩) n cap) (some (.int .i64 (k : Int))) none none).run Try.prog w0 = .ok (.slice (some ⟨g, off + k * 2, none⟩) (n - k) (cap - k)) w0 := by
  rw [run_slice_l (P := Try.prog) w0 30 (some ⟨g, off, none⟩) n cap Try.underlying30 .i64 k (by omega) (by omega), size_claims]
  simp only [Result.andThen, sliced, Int.toNat_natCast]
  rw [if_neg (by omega)]
  simp only [Option.map_some, add_off]
/-- These claims hold these records of few transactions. -/
theorem ow_new (w : World) (base : Nat) (hb : base ≤ w.heap.size) : Ow claimS 27 (w.alloc (.cells #[] 27)) base (.slice (some ⟨w.heap.size, 0, none⟩) 0 0) [] :=
  ⟨rfl, .inr ⟨w.heap.size, 0, _, rfl, hb, heap_alloc_new w _, Nat.le_refl _, by decide, rfl, rfl⟩⟩
structure Gmk (cl : List Uc) (gr : List (Int × List Ur)) : Prop where
  len : cl.length = gr.length
  g : ∀ i (h1 : i < cl.length) (h2 : i < gr.length), cl[i].g = gr[i].1
  b : ∀ i (h1 : i < cl.length) (h2 : i < gr.length), cl[i].bs = encL (mkC (tsR gr[i].2))
  tm : ∀ p ∈ gr, (∀ r ∈ p.2, Tme r) ∧ p.2.length ≤ 8 ∧ 0 ≤ p.1 ∧ p.1 ≤ 2
theorem Gmk.nil : Gmk [] [] := ⟨rfl, (fun _ h => by simp at h), (fun _ h => by simp at h), fun _ h => by cases h⟩
theorem Gmk.snoc {cl : List Uc} {gr : List (Int × List Ur)} (h : Gmk cl gr) (x : Uc) (p : Int × List Ur) (h1 : x.g = p.1) (h2 : x.bs = encL (mkC (tsR p.2))) (h3 : (∀ r ∈ p.2, Tme r) ∧ p.2.length ≤ 8 ∧ 0 ≤ p.1 ∧ p.1 ≤ 2) : Gmk (cl ++ [x]) (gr ++ [p]) := by
  have hl := h.len
  have key : ∀ i, i < (cl ++ [x]).length → (i < cl.length ∧ i < gr.length) ∨ (i = cl.length ∧ i = gr.length) := fun i hi => by
    rw [List.length_append, List.length_singleton] at hi
    omega
  refine ⟨by simp [hl], fun i q1 q2 => ?_, fun i q1 q2 => ?_, fun q hq => ?_⟩
  · rcases key i q1 with ⟨a, b⟩ | ⟨a, b⟩
    · rw [List.getElem_append_left a, List.getElem_append_left b]; exact h.g i a b
    · simp only [List.getElem_append_right (show cl.length ≤ i by omega), List.getElem_append_right (show gr.length ≤ i by omega), List.getElem_singleton]; exact h1
  · rcases key i q1 with ⟨a, b⟩ | ⟨a, b⟩
    · rw [List.getElem_append_left a, List.getElem_append_left b]; exact h.b i a b
    · simp only [List.getElem_append_right (show cl.length ≤ i by omega), List.getElem_append_right (show gr.length ≤ i by omega), List.getElem_singleton]; exact h2
  · rcases List.mem_append.1 hq with a | a
    · exact h.tm q a
    · rw [List.mem_singleton.1 a]; exact h3
theorem Gmk.turn {cl : List Uc} {gr : List (Int × List Ur)} (h : Gmk cl gr) (k : Nat) : Gmk (cl.drop k ++ cl.take k) (gr.drop k ++ gr.take k) := by
  have hl := h.len
  refine ⟨by simp [hl], fun i q1 q2 => ?_, fun i q1 q2 => ?_, fun q hq => ?_⟩
  · by_cases hi : i < (cl.drop k).length
    · have hi2 : i < (gr.drop k).length := by rw [List.length_drop] at hi ⊢; omega
      rw [List.getElem_append_left hi, List.getElem_append_left hi2, List.getElem_drop, List.getElem_drop]
      exact h.g _ _ _
    · have hi2 : ¬ i < (gr.drop k).length := by rw [List.length_drop] at hi ⊢; omega
      rw [List.getElem_append_right (by omega), List.getElem_append_right (by omega), List.getElem_take, List.getElem_take]
      simp only [List.length_drop, hl]
      exact h.g _ _ _
  · by_cases hi : i < (cl.drop k).length
    · have hi2 : i < (gr.drop k).length := by rw [List.length_drop] at hi ⊢; omega
      rw [List.getElem_append_left hi, List.getElem_append_left hi2, List.getElem_drop, List.getElem_drop]
      exact h.b _ _ _
    · have hi2 : ¬ i < (gr.drop k).length := by rw [List.length_drop] at hi ⊢; omega
      rw [List.getElem_append_right (by omega), List.getElem_append_right (by omega), List.getElem_take, List.getElem_take]
      simp only [List.length_drop, hl]
      exact h.b _ _ _
  · rcases List.mem_append.1 hq with a | a
    · exact h.tm q (List.mem_of_mem_drop a)
    · exact h.tm q (List.mem_of_mem_take a)
theorem Gmk.mds {cl : List Uc} {gr : List (Int × List Ur)} (h : Gmk cl gr) : Mds cl gr := mds_of h.len h.g h.b (fun p hp => (h.tm p hp).1) (fun p hp => (h.tm p hp).2.1)
theorem Gmk.small {cl : List Uc} {gr : List (Int × List Ur)} (h : Gmk cl gr) : ∀ c ∈ cl, (c.bs.length : Int) ≤ 140737488355328 ∧ Fits c.g := fun c hc => by
  obtain ⟨i, hi, rfl⟩ := List.getElem_of_mem hc
  have hi2 : i < gr.length := by have := h.len; omega
  obtain ⟨t1, t2, t3, t4⟩ := h.tm _ (List.getElem_mem hi2)
  refine ⟨?_, ?_⟩
  · rw [h.b i hi hi2]
    exact encL_small (by simp only [tsR, List.length_map]; omega) (tme_small t1)
  · rw [h.g i hi hi2]
    unfold Fits
    omega
theorem mem_turn {α : Type} {l : List α} {k : Nat} {x : α} : x ∈ l.drop k ++ l.take k ↔ x ∈ l := by
  rw [List.mem_append, or_comm, ← List.mem_append, List.take_append_drop]

set_option maxRecDepth 100000 in
set_option maxHeartbeats 4000000 in
theorem auditTurned_any {w : World} {a0 a1 a2 ag : Option Addr} {cap0 cap1 cap2 capg : Nat} {rs0 rs1 rs2 : List Rr} {gs : List Int} (h0 : Rrv w a0 rs0) (h1 : Rrv w a1 rs1) (h2 : Rrv w a2 rs2) (hg : Gi w ag gs) (turn : Int) :
    Calls Try.prog 7 #[.slice a0 rs0.length cap0, .slice a1 rs1.length cap1, .slice a2 rs2.length cap2, .slice ag gs.length capg, .int .i64 turn] w fun e w' => e = .returned (.bool true) ∧ Kept (fun _ => True) w w' := by
  obtain ⟨RS, AA, CC, hv, e0, e1, e2⟩ : ∃ (RS : Nat → List Rr) (AA : Nat → Option Addr) (CC : Nat → Nat), (∀ i, Rrv w (AA i) (RS i)) ∧ (Value.slice a0 rs0.length cap0 = .slice (AA 0) (RS 0).length (CC 0)) ∧ (Value.slice a1 rs1.length cap1 = .slice (AA 1) (RS 1).length (CC 1)) ∧ (Value.slice a2 rs2.length cap2 = .slice (AA 2) (RS 2).length (CC 2)) := by
    refine ⟨fun i => if i = 0 then rs0 else if i = 1 then rs1 else rs2, fun i => if i = 0 then a0 else if i = 1 then a1 else a2, fun i => if i = 0 then cap0 else if i = 1 then cap1 else cap2, fun i => ?_, rfl, rfl, rfl⟩
    by_cases q0 : i = 0
    · simp only [q0, if_true]; exact h0
    · by_cases q1 : i = 1
      · simp only [q1, if_true]; subst q1; exact h1
      · simp only [q0, q1, if_false]; exact h2
  obtain ⟨w2, hw2⟩ : ∃ x, x = w.alloc (.cells #[.slice a0 rs0.length cap0, .slice a1 rs1.length cap1, .slice a2 rs2.length cap2] 29) := ⟨_, rfl⟩
  have k2 : Kept (fun _ => True) w w2 := by rw [hw2]; exact (Kept.refl _ _).alloc _
  have B2 : w2.heap[w.heap.size]? = some (.cells #[.slice a0 rs0.length cap0, .slice a1 rs1.length cap1, .slice a2 rs2.length cap2] 29 (0, 0)) := by rw [hw2]; exact heap_alloc_new w _
  have HBc : Hid (∀ i, i < 3 → w2.cell? ⟨w.heap.size, i, none⟩ = some (.slice (AA i) (RS i).length (CC i))) := fun i hi => by
    have h3 : i = 0 ∨ i = 1 ∨ i = 2 := by omega
    rcases h3 with rfl | rfl | rfl
    · rw [← e0]; exact cell_of_row _ _ 0 _ _ _ B2
    · rw [← e1]; exact cell_of_row _ _ 1 _ _ _ B2
    · rw [← e2]; exact cell_of_row _ _ 2 _ _ _ B2
  have HBl : Hid (w.heap.size < w2.heap.size) := lt_of_block B2
  have HV : Hid (∀ i, Rrv w2 (AA i) (RS i)) := fun i => (hv i).all k2
  have HG : Hid (Gi w2 ag gs) := hg.all k2
  have K2 : Hid (Kept (fun _ => True) w w2) := k2
  clear e0 e1 e2 hv k2 B2 h0 h1 h2 hg
  go_enter Try.func7, Try.ntmps7
  go_wp2_with fail
  rw [← hw2]
  clear hw2
  generalize w.heap.size = Bs at *
  go_loopw [11, 28] (fun v t wr => ∃ (i : Nat) (a' : Option Addr) (c' : Nat) (cl : List Uc) (gr : List (Int × List Ur)), i ≤ 3 ∧ t = .int .i64 i ∧ v = .slice a' i c' ∧ cl.length = i ∧ Cls wr w2.heap.size (.slice a' i c') cl ∧ Gmk cl gr ∧ Kept (fun _ => True) w2 wr) (fun _ t _ => 3 - (intOf t).toNat)
  case atStart => exact ⟨0, none, 0, [], [], Nat.zero_le _, rfl, rfl, rfl, Cls.nil _ _, Gmk.nil, Kept.refl _ _⟩
  case round =>
    obtain ⟨i, aL, cL, cl, gr, hi, rfl, rfl, hcl, hC, hGm, hkr⟩ := hrel
    obtain ⟨wI, hwI⟩ : ∃ x, x = wr := ⟨_, rfl⟩
    rw [← hwI] at hC hkr ⊢
    clear hwI
    have HC : Hid (Cls wI w2.heap.size (.slice aL i cL) cl) := hC
    have HGm : Hid (Gmk cl gr) := hGm
    have HKr : Hid (Kept (fun _ => True) w2 wI) := hkr
    have HCL : Hid (cl.length = i) := hcl
    clear hC hGm hcl
    by_cases hlt : i < 3
    · have c0 := (kept_cell hkr HBl.out trivial).trans (HBc.out i hlt)
      have HVi : Hid (Rrv wI (AA i) (RS i)) := (HV.out i).all hkr
      have HGi : Hid (Gi wI ag gs) := HG.out.all hkr
      have HI : Hid (i < 3) := hlt
      have i0 : (0 : Int) ≤ (i : Int) := by omega
      have i1 : (i : Int) < 3 := by omega
      generalize RS i = RSi at *
      generalize AA i = aI at *
      generalize CC i = cI at *
      clear hlt hi hkr
      go_upto_block 2 with fail
      go_cut [14, 15] from 33 to 50 (fun v _ wx => ∃ (a' : Option Addr) (c' : Nat) (xs : List Ut), v = .slice a' xs.length c' ∧ xs.length ≤ 6 ∧ Rws wx wI.heap.size (.slice a' xs.length c') xs ∧ Kept (fun _ => True) wI wx)
      case first =>
        clear HC HGm HKr HCL HGi HI c0 i0 i1
        go_wp2_with fail
        go_loopw [14, 15] (fun v t wr => ∃ (k : Nat) (a' : Option Addr) (c' : Nat) (xs : List Ut), k ≤ RSi.length ∧ k ≤ 6 ∧ xs.length = k ∧ t = .int .i64 k ∧ v = .slice a' k c' ∧ Rws wr wI.heap.size (.slice a' k c') xs ∧ Kept (fun _ => True) wI wr) (fun _ t _ => 6 - (intOf t).toNat)
        case atStart => exact ⟨0, none, 0, [], Nat.zero_le _, Nat.zero_le _, rfl, rfl, rfl, Rws.nil _ _, Kept.refl _ _⟩
        case round =>
          obtain ⟨k, a', c', xs, hk, hk8, hxl, rfl, rfl, hrw, hkr⟩ := hrel
          have HRW : Hid (Rws wr wI.heap.size (.slice a' k c') xs) := hrw
          have HKr : Hid (Kept (fun _ => True) wI wr) := hkr
          have HXL : Hid (xs.length = k) := hxl
          clear hrw hxl
          by_cases hlt : k < RSi.length
          · have i1 : (k : Int) < (RSi.length : Int) := by omega
            by_cases hl8 : k < 6
            · obtain ⟨b, off, rfl, hb, hc⟩ := (HVi.out.all hkr).vw.row (by omega)
              have hr := hc k hlt
              have m0 : wr.cell? ⟨b, off + k * 4, none⟩ = some (.int .i64 RSi[k].1.k) := hr 0 _ rfl
              have m1 : wr.cell? ⟨b, off + k * 4 + 1, none⟩ = some (.string ⟨RSi[k].1.tx.toArray⟩) := hr 1 _ rfl
              have m2 : wr.cell? ⟨b, off + k * 4 + 2, none⟩ = some (.slice RSi[k].2.1 RSi[k].1.gs.length RSi[k].2.2) := hr 2 _ rfl
              have m3 : wr.cell? ⟨b, off + k * 4 + 3, none⟩ = some (.string ⟨RSi[k].1.bd.toArray⟩) := hr 3 _ rfl
              have HI : Hid (k < RSi.length ∧ k < 6) := ⟨hlt, hl8⟩
              have i0 : (0 : Int) ≤ (k : Int) := by omega
              have i2 : (k : Int) < 6 := by omega
              have ct := tame_any wr RSi[k].1.k RSi[k].1.tx RSi[k].1.bd RSi[k].2.1 RSi[k].1.gs.length RSi[k].2.2
              clear hr hc hkr hk hk8
              generalize RSi[k] = x at *
              clear hlt
              go_wp2_with (first
                | (go_at_call 23; (with_reducible refine Calls.mono ct ?_); rintro e w2 ⟨r, G, htm, rfl, hit, k2⟩; have HTM : Hid (Tme r) := htm; have HIT : Hid (Its w2 wI.heap.size (.slice (some ⟨G, 0, none⟩) r.gs.length r.gs.length) r.gs) := World.ownsRow.mono hit HKr.out.size; have HR2 : Hid (Rws w2 wI.heap.size (.slice a' k c') xs) := HRW.out.all k2; have K2 : Hid (Kept (fun _ => True) wI w2) := HKr.out.trans k2; clear hit k2 ct htm)
                | (at_builtin; refine wpList_append_one recT rfl (.tmp 43) (.tmp 49) rfl wI.heap.size (.slice a' k c') (xs.map rrU) rfl (HR2.out.ow.all ((Kept.refl _ _).alloc _)) (by rw [heap_size_alloc]; have := K2.out.size; omega) w2.heap.size rfl (rrU (r, (some ⟨G, 0, none⟩, r.gs.length))) (0, 0) (by have hbd := HTM.out.b; obtain ⟨rk, rtx, rgs, rbd⟩ := r; simp only at hbd; subst hbd; have := heap_alloc_new w2 (.cells #[.int .i64 (rk : Nat), .string ⟨rtx.toArray⟩, .slice (some ⟨G, 0, none⟩) rgs.length rgs.length, .string ⟨#[]⟩] 24); simpa [recS, rcell, rrU, Ur.ui] using this) (by rw [List.length_map, HXL.out]; have := HI.out.2; omega) (k + 1) (by rw [List.length_map, HXL.out]) ?_; intro a4 c4 w4 ho4 hg4 hl4))
              go_roundw
              case rel =>
                have hst := HR2.out.step (r, (some ⟨G, 0, none⟩, r.gs.length)) HTM.out HIT.out ho4 hg4
                refine ⟨k + 1, a4, c4, xs ++ [(r, (some ⟨G, 0, none⟩, r.gs.length))], by have := HI.out.1; omega, by have := HI.out.2; omega, by rw [List.length_append, HXL.out]; rfl, by go_num, rfl, hst, ?_⟩
                exact (K2.out.alloc _).grown hg4 (fun i hi e => by have := (World.ownsRow.lt HR2.out.ow i e).1; omega)
              case measure => have := HI.out.2; simp [intOf]; omega
            · have i2 : ¬ (k : Int) < 6 := by omega
              have HK8 : Hid (k ≤ 6) := hk8
              clear hl8 hlt hk hk8 hkr
              go_wp2_with fail
              go_meet
              rw [← HXL.out] at HRW ⊢
              exact ⟨a', c', xs, rfl, by have := HK8.out; have := HXL.out; omega, HRW.out, HKr.out⟩
          · have i1 : ¬ (k : Int) < (RSi.length : Int) := by omega
            have HK8 : Hid (k ≤ 6) := hk8
            clear hlt hk hk8 hkr
            go_wp2_with fail
            go_meet
            rw [← HXL.out] at HRW ⊢
            exact ⟨a', c', xs, rfl, by have := HK8.out; have := HXL.out; omega, HRW.out, HKr.out⟩
      case rest =>
      obtain ⟨a14, c14, xs, rfl, hlx, hrx, hkx⟩ := hcut
      obtain ⟨wJ, hwJ⟩ : ∃ x, x = wc := ⟨_, rfl⟩
      rw [← hwJ] at hrx hkx ⊢
      clear hwJ
      have HRX : Hid (Rws wJ wI.heap.size (.slice a14 xs.length c14) xs) := hrx
      have HLX : Hid (xs.length ≤ 6) := hlx
      have HKJ : Hid (Kept (fun _ => True) wI wJ) := hkx
      have HGj : Hid (Gi wJ ag gs) := HGi.out.all hkx
      clear hrx hlx hkx HGi HVi c0
      go_upto_if 55 with fail
      go_cut [16] from 51 to 60 (fun t16 wx => ∃ gg : Nat, gg ≤ 2 ∧ t16 = .int .i64 gg ∧ wx = wJ)
      case first =>
        by_cases hgl : i < gs.length
        · have g1 : (i : Int) < (gs.length : Int) := by omega
          obtain ⟨b, off, rfl, hb, hc⟩ := HGj.out (by omega)
          have c1 := hc i hgl
          have cw := fun W : World => wi_any (w := W) gs[i] 2 (by decide)
          have hw2 := wi_le gs[i] 2
          generalize gs[i] = gi at *
          clear hc hb hgl
          go_wp2_with (go_at_call 24; (with_reducible refine Calls.mono (cw _) ?_); rintro e w5 ⟨rfl, rfl⟩)
          go_meet
          exact ⟨_, hw2, rfl, rfl⟩
        · have g1 : ¬ (i : Int) < (gs.length : Int) := by omega
          clear hgl
          go_wp2_with fail
          go_meet
          exact ⟨i, by have := HI.out; omega, rfl, rfl⟩
      case rest =>
      obtain ⟨gg, hgg, rfl, hwc⟩ := hcut
      subst hwc
      have HGG : Hid (gg ≤ 2) := hgg
      clear hgg
      obtain ⟨wK, hwK⟩ : ∃ x, x = wc := ⟨_, rfl⟩
      rw [← hwK] at HRX HKJ HGj ⊢
      clear hwK
      have cc := claimT_any (cap := c14) (gg : Int) HRX.out (Nat.le_refl _) (by have := HLX.out; omega)
      rw [show xs.length = (xs.map (·.1)).length by rw [List.length_map], List.take_length, List.length_map] at cc
      have HTM : Hid (∀ r ∈ xs.map (·.1), Tme r) := fun r hr => by obtain ⟨p, hp, rfl⟩ := List.mem_map.1 hr; exact HRX.out.tm p hp
      have HXN : Hid ((xs.map (·.1)).length ≤ 6) := by show _ ≤ _; rw [List.length_map]; exact HLX.out
      generalize xs.map (·.1) = us at *
      obtain ⟨E, hE⟩ : ∃ E, E = encL (mkC (tsR us)) := ⟨_, rfl⟩
      rw [← hE] at cc
      have HE : Hid (E = encL (mkC (tsR us))) := hE
      clear hE
      have HCk : Hid (Cls wK w2.heap.size (.slice aL i cL) cl) := HC.out.all HKJ.out
      have HKk : Hid (Kept (fun _ => True) w2 wK) := HKr.out.trans HKJ.out
      clear HC HKJ HKr HRX HGj
      go_wp2_with (first
        | (go_at_call 9; (with_reducible refine Calls.mono cc ?_); rintro e w6 ⟨a6, c6, rfl, h6, k6⟩; have HOB : Hid (Ob w6 w2.heap.size (.slice a6 E.length c6) E) := World.ownsRow.mono h6 HKk.out.size; have HC6 : Hid (Cls w6 w2.heap.size (.slice aL i cL) cl) := HCk.out.all k6; have HK6 : Hid (Kept (fun _ => True) w2 w6) := HKk.out.trans k6; clear h6 k6 cc)
        | (at_builtin; refine wpList_append_one claimTy rfl (.tmp 61) (.tmp 65) rfl w2.heap.size (.slice aL i cL) cl rfl (HC6.out.ow.all ((Kept.refl _ _).alloc _)) (by rw [heap_size_alloc]; have := HK6.out.size; omega) w6.heap.size rfl (⟨(gg : Int), E, a6, c6⟩ : Uc) (0, 0) (heap_alloc_new w6 _) (by rw [HCL.out]; have := HI.out; omega) (i + 1) (by rw [HCL.out]) ?_; intro a7 c7 w7 ho7 hg7 hl7))
      go_roundw
      case rel =>
        have hst := HC6.out.step (⟨(gg : Int), E, a6, c6⟩ : Uc) HOB.out ho7 hg7
        have hgm := HGm.out.snoc (⟨(gg : Int), E, a6, c6⟩ : Uc) ((gg : Int), us) rfl HE.out ⟨HTM.out, by show us.length ≤ 8; have := HXN.out; omega, by show (0 : Int) ≤ (gg : Int); omega, by show (gg : Int) ≤ 2; have := HGG.out; omega⟩
        refine ⟨i + 1, a7, c7, cl ++ [⟨(gg : Int), E, a6, c6⟩], gr ++ [((gg : Int), us)], by have := HI.out; omega, by go_num, rfl, by rw [List.length_append, HCL.out]; rfl, hst, hgm, ?_⟩
        exact (HK6.out.alloc _).grown hg7 (fun x hx e => by have := (World.ownsRow.lt HC6.out.ow x e).1; omega)
      case measure => have := HI.out; simp [intOf]; omega
    · obtain rfl : i = 3 := by omega
      have HKW : Hid (Kept (fun _ => True) w wI) := K2.out.trans hkr
      have hlen3 := HCL.out
      clear hi hlt hkr HV HG HBc HBl K2 HKr
      have cw := fun W : World => wi_any (w := W) turn 2 (by decide)
      have hk2 := wi_le turn 2
      generalize wi turn 2 = k at *
      obtain ⟨_, _, eL, hcap, hsome, _⟩ := HC.out.ow.shape
      injection eL with eL1 eL2 eL3
      subst eL1 eL3
      obtain ⟨gL, rfl⟩ := hsome (by omega)
      have hcL : 3 ≤ cL := by omega
      have hcut1 : ∀ W : World, (Instr.slice 30 (.slice (some ⟨gL, 0, none⟩) 3 cL) (some (.int .i64 (k : Int))) none none).run Try.prog W = .ok (.slice (some ⟨gL, k * 2, none⟩) (3 - k) (cL - k)) W := fun W => by
        have := cut_cl gL 0 3 cL k (by omega) (by omega) W
        rwa [Nat.zero_add] at this
      have hcut2 := fun W : World => cut_ch gL 0 3 cL k (by omega) W
      have HRO : Hid (∀ j (h : j < cl.length), wI.rangeAt gL (0 + j * 2) (ccell cl[j])) := fun j h => by
        obtain ⟨b', off', e', _, hr⟩ := HC.out.ow.view.row (by omega)
        injection e' with e'
        injection e' with e1' e2'
        subst e1' e2'
        exact hr j h
      have HLT : Hid (gL < wI.heap.size) := HC.out.ow.lt rfl
      have HK3 : Hid (k ≤ 2) := hk2
      have HT : Hid (Gmk (cl.drop k ++ cl.take k) (gr.drop k ++ gr.take k)) := HGm.out.turn k
      clear eL2 hcap hsome
      go_upto_region 16 with (go_at_call 24; (with_reducible refine Calls.mono (cw _) ?_); rintro e w5 ⟨rfl, rfl⟩)
      have HD : Hid (∀ W, Kept (fun _ => True) w5 W → ∀ j (h : j < (cl.drop k).length), W.rangeAt gL (k * 2 + j * claimS.n) (claimS.cell (cl.drop k)[j])) := fun W q j h => by
        rw [List.length_drop] at h
        have := range_kept (HRO.out (k + j) (by omega)) q HLT.out trivial
        rw [List.getElem_drop]
        rw [show 0 + (k + j) * 2 = k * 2 + j * 2 by omega] at this
        exact this
      have HTk : Hid (∀ W, Kept (fun _ => True) w5 W → ∀ j (h : j < (cl.take k).length), W.rangeAt gL (0 + j * claimS.n) (claimS.cell (cl.take k)[j])) := fun W q j h => by
        rw [List.length_take] at h
        have := range_kept (HRO.out j (by omega)) q HLT.out trivial
        rw [List.getElem_take]
        exact this
      have HLD : Hid ((cl.drop k).length = 3 - k ∧ (cl.take k).length = k) := ⟨by rw [List.length_drop, hlen3], by rw [List.length_take, hlen3]; omega⟩
      go_wp2_with fail
      refine Gz.begin (fun W => Kept (fun _ => True) w5 W) (fun _ => false) (by kernel_rfl) ?_
      refine Gz.take (i := 1) (oi := { dst := some 71, op := Op.move (Operand.tmp 11), type := 30, pos := _, after := _, guard := none }) (v := ?_) rfl (by kernel_rfl) (by kernel_rfl) (by kernel_rfl) (by kernel_rfl) (fun _ _ _ h => h) (Or.inl ⟨by rfl, ?hy1⟩) (Kept.refl _ _).drew ?_
      case hy1 => (intro W hSw; (try dsimp only at hSw); go_simp; try with_reducible rfl)
      try simp only [Act.put, List.setIfInBounds_toArray, List.set_cons_zero, List.set_cons_succ]
      refine Gz.take (i := 2) (oi := { dst := some 72, op := Op.move (Operand.tmp 17), type := 3, pos := _, after := _, guard := none }) (v := ?_) rfl (by kernel_rfl) (by kernel_rfl) (by kernel_rfl) (by kernel_rfl) (fun _ _ _ h => h) (Or.inl ⟨by rfl, ?hy2⟩) (Kept.refl _ _).drew ?_
      case hy2 => (intro W hSw; (try dsimp only at hSw); go_simp; try with_reducible rfl)
      try simp only [Act.put, List.setIfInBounds_toArray, List.set_cons_zero, List.set_cons_succ]
      refine Gz.take (i := 5) (oi := { dst := some 75, op := Op.move (Operand.tmp 11), type := 30, pos := _, after := _, guard := none }) (v := ?_) rfl (by kernel_rfl) (by kernel_rfl) (by kernel_rfl) (by kernel_rfl) (fun _ _ _ h => h) (Or.inl ⟨by rfl, ?hy5⟩) (Kept.refl _ _).drew ?_
      case hy5 => (intro W hSw; (try dsimp only at hSw); go_simp; try with_reducible rfl)
      try simp only [Act.put, List.setIfInBounds_toArray, List.set_cons_zero, List.set_cons_succ]
      refine Gz.take (i := 6) (oi := { dst := some 76, op := Op.move (Operand.tmp 17), type := 3, pos := _, after := _, guard := none }) (v := ?_) rfl (by kernel_rfl) (by kernel_rfl) (by kernel_rfl) (by kernel_rfl) (fun _ _ _ h => h) (Or.inl ⟨by rfl, ?hy6⟩) (Kept.refl _ _).drew ?_
      case hy6 => (intro W hSw; (try dsimp only at hSw); go_simp; try with_reducible rfl)
      try simp only [Act.put, List.setIfInBounds_toArray, List.set_cons_zero, List.set_cons_succ]
      refine Gz.take (i := 3) (oi := { dst := some 73, op := Op.slice 30 (Operand.tmp 71) (some (Operand.tmp 72)) none none, type := 30, pos := _, after := _, guard := none }) (v := ?_) rfl (by kernel_rfl) (by kernel_rfl) (by kernel_rfl) (by kernel_rfl) (fun _ _ _ h => h) (Or.inl ⟨by rfl, ?hy3⟩) (Kept.refl _ _).drew ?_
      case hy3 => (intro W hSw; (try dsimp only at hSw); go_simp; try with_reducible rfl)
      try simp only [Act.put, List.setIfInBounds_toArray, List.set_cons_zero, List.set_cons_succ]
      refine Gz.take (i := 7) (oi := { dst := some 77, op := Op.slice 30 (Operand.tmp 75) none (some (Operand.tmp 76)) none, type := 30, pos := _, after := _, guard := none }) (v := ?_) rfl (by kernel_rfl) (by kernel_rfl) (by kernel_rfl) (by kernel_rfl) (fun _ _ _ h => h) (Or.inl ⟨by rfl, ?hy7⟩) (Kept.refl _ _).drew ?_
      case hy7 => (intro W hSw; (try dsimp only at hSw); go_simp; try with_reducible rfl)
      try simp only [Act.put, List.setIfInBounds_toArray, List.set_cons_zero, List.set_cons_succ]
      refine Gz.one (i := 0) (o := { dst := some 70, op := Op.buildSlice 30 0 #[], type := 30, pos := _, after := _, guard := none }) (by kernel_rfl) rfl (fun K hK => ?_)
      go_simp
      refine hK.out _ _ (fun hEarly => ((Kept.refl _ _).drew.alloc _)) ?_
      clear hK K
      try simp only [Act.put, List.setIfInBounds_toArray, List.set_cons_zero, List.set_cons_succ]
      refine Gz.one (i := 4) (o := { dst := some 74, op := Op.call { callee := Callee.builtin Builtin.append, args := #[Operand.tmp 70, Operand.tmp 73], argTypes := #[30, 30] }, type := 30, pos := _, after := _, guard := none }) (by kernel_rfl) rfl (fun K hK => ?_)
      refine step_append_many claimTy rfl (.tmp 70) (.tmp 73) rfl w5.heap.size (.slice (some ⟨w5.heap.size, 0, none⟩) 0 0) [] rfl ((ow_new w5 _ (Nat.le_refl _)).all (Kept.refl _ _).drew) ((Kept.refl (fun _ => True) w5).alloc _).drew.size gL (k * 2) (cL - k) (3 - k) (cl.drop k) rfl HLD.out.1 (HD.out _ ((Kept.refl _ _).alloc _).drew) (by simp only [List.length_nil, HLD.out.1]; omega) (3 - k) (by rw [HLD.out.1]; simp) ?_
      intro a8 c8 w8 ho8 hg8 hl8
      have s8 : Kept (fun _ => True) w5 w8 := ((Kept.refl (fun _ => True) w5).alloc _).drew.grown hg8 (fun x hx e => by cases e; exact absurd hx (Nat.lt_irrefl _))
      refine hK.out _ _ (fun _ => s8) ?_
      clear hK K
      try simp only [Act.put, List.setIfInBounds_toArray, List.set_cons_zero, List.set_cons_succ]
      refine Gz.one (i := 8) (o := { dst := some 78, op := Op.call { callee := Callee.builtin Builtin.append, args := #[Operand.tmp 74, Operand.tmp 77], argTypes := #[30, 30] }, type := 30, pos := _, after := _, guard := none }) (by kernel_rfl) rfl (fun K hK => ?_)
      refine step_append_many claimTy rfl (.tmp 74) (.tmp 77) rfl w5.heap.size (.slice a8 (3 - k) c8) ([] ++ cl.drop k) rfl ho8 s8.size gL 0 cL k (cl.take k) rfl HLD.out.2 (HTk.out _ s8) (by rw [List.nil_append, HLD.out.1, HLD.out.2]; omega) 3 (by rw [List.nil_append, HLD.out.1, HLD.out.2]; have := HK3.out; omega) ?_
      intro a9 c9 w9 ho9 hg9 hl9
      have s9 : Kept (fun _ => True) w5 w9 := s8.grown hg9 (fun x hx e => by have := (World.ownsRow.lt ho8 x e).1; omega)
      refine hK.out _ _ (fun _ => s9) ?_
      clear hK K
      try simp only [Act.put, List.setIfInBounds_toArray, List.set_cons_zero, List.set_cons_succ]
      refine Gz.take (i := 9) (oi := { dst := some 18, op := Op.assign (Operand.tmp 78), type := 30, pos := _, after := _, guard := none }) (v := ?_) rfl (by kernel_rfl) (by kernel_rfl) (by kernel_rfl) (by kernel_rfl) (fun _ _ _ h => h) (Or.inl ⟨by rfl, ?hy9⟩) s9 ?_
      case hy9 => (intro W hSw; (try dsimp only at hSw); go_simp; try with_reducible rfl)
      try simp only [Act.put, List.setIfInBounds_toArray, List.set_cons_zero, List.set_cons_succ]
      refine Gz.done (by kernel_rfl) ?_ _
      have HC9 : Hid (Cls w9 w2.heap.size (.slice (some ⟨gL, 0, none⟩) 3 cL) cl) := HC.out.all s9
      have CVl : Cv w9 (some ⟨gL, 0, none⟩) cl := HC9.out.cv HGm.out.small
      have CVm : Cv w9 a9 (cl.drop k ++ cl.take k) := ⟨by have := ho9.view; rwa [List.nil_append] at this, fun c hc => own_has (HC9.out.ob c (mem_turn.1 hc)), fun c hc => (HT.out.small c hc).1, fun c hc => (HT.out.small c hc).2⟩
      have HCl : Hid (Cv w9 (some ⟨gL, 0, none⟩) cl) := CVl
      have HCm : Hid (Cv w9 a9 (cl.drop k ++ cl.take k)) := CVm
      have HK9 : Hid (Kept (fun _ => True) w w9) := HKW.out.trans s9
      have hlen4 : (cl.drop k ++ cl.take k).length = 3 := by rw [List.length_append, HLD.out.1, HLD.out.2]; omega
      clear CVl CVm s8 s9 ho8 hg8 hl8 ho9 hg9 hl9 HD HTk HLD HRO HLT HC HC9 hcut1 hcut2 cw
      obtain ⟨b, hb⟩ : ∃ b : Bool, b = true ↔ Let gr := by
        by_cases h : Let gr
        · exact ⟨true, by simp [h]⟩
        · exact ⟨false, by simp [h]⟩
      have hb2 : b = true ↔ Let (gr.drop k ++ gr.take k) := hb.trans ⟨fun h => h.sub (fun p hp => mem_turn.1 hp), fun h => h.sub (fun p hp => mem_turn.2 hp)⟩
      have ver : ∀ (W : World) (a : Option Addr) (c : Nat) (cs : List Uc) (g : List (Int × List Ur)), Cv W a cs → cs.length = 3 → Gmk cs g → (b = true ↔ Let g) → Calls Try.prog 10 #[.slice a 3 c] W fun e w' => (∃ R C Z : Int, e = .returned (.tuple #[.agg #[.int .i64 R, .int .i64 C, .int .i64 Z], .bool b])) ∧ Kept (fun _ => True) W w' := fun W a c cs g hcv hn hm hbb => by
        refine (verify_md (cap := c) hcv hn (by decide) hm.mds).mono ?_
        rintro e w' ⟨⟨pq, hp, hpg, he⟩, kk⟩
        refine ⟨?_, kk⟩
        have hli := let_iff hp hpg
        rcases ever_cases he with ⟨ha, rfl⟩ | ⟨j, i, z, hj, hi, hz, hr, rfl⟩
        · rw [hbb.2 (hli.1 ha)]
          exact ⟨_, _, _, rfl⟩
        · have hbf : b = false := by
            cases hbt : b with
            | false => rfl
            | true => exact absurd (hr.one (hli.2 (hbb.1 hbt) j i hj hi)) hz
          rw [hbf]
          exact ⟨_, _, _, rfl⟩
      obtain ⟨O, hO⟩ : ∃ O, O = outO (kol (flat gr) [116]) := ⟨_, rfl⟩
      have hO2 : O = outO (kol (flat (gr.drop k ++ gr.take k)) [116]) := by
        rw [hO]
        exact out_sub (fun p hp => mem_turn.1 hp) (fun p hp => mem_turn.2 hp) _
      have hOl : O.length ≤ 1000000 := by
        rw [hO]
        unfold outO
        split <;> split <;> simp
      have outc : ∀ (W : World) (a : Option Addr) (c : Nat) (cs : List Uc) (g : List (Int × List Ur)), Cv W a cs → cs.length = 3 → Gmk cs g → O = outO (kol (flat g) [116]) → Calls Try.prog 14 #[.slice a 3 c, .string ⟨#[116]⟩] W fun e w' => (∃ a c, e = .returned (.slice a O.length c) ∧ Its w' W.heap.size (.slice a O.length c) O) ∧ Kept (fun _ => True) W w' := fun W a c cs g hcv hn hm ho => by
        have := outcomes_md (cap := c) hcv hn (by decide) hm.mds [116]
        rw [← ho] at this
        exact this
      have V1 : ∀ W, Kept (fun _ => True) w9 W → _ := fun W q => ver W (some ⟨gL, 0, none⟩) cL cl gr (HCl.out.all q) hlen3 HGm.out hb
      have V2 : ∀ W, Kept (fun _ => True) w9 W → _ := fun W q => ver W a9 c9 _ _ (HCm.out.all q) hlen4 HT.out hb2
      have O1 : ∀ W, Kept (fun _ => True) w9 W → _ := fun W q => outc W (some ⟨gL, 0, none⟩) cL cl gr (HCl.out.all q) hlen3 HGm.out hO
      have O2 : ∀ W, Kept (fun _ => True) w9 W → _ := fun W q => outc W a9 c9 _ _ (HCm.out.all q) hlen4 HT.out hO2
      clear ver outc hb hb2 hO hO2 hlen3 hlen4
      go_upto_region 18 with (go_at_call 10; (with_reducible refine Calls.mono (V1 _ (Kept.refl _ _)) ?_); rintro e w10 ⟨⟨R1, C1, Z1, rfl⟩, k10⟩)
      have K10 : Hid (Kept (fun _ => True) w9 (w10.alloc (.cells #[.int .i64 R1, .int .i64 C1, .int .i64 Z1] 33))) := k10.alloc _
      clear k10
      generalize w10.alloc (.cells #[.int .i64 R1, .int .i64 C1, .int .i64 Z1] 33) = w11 at *
      go_upto_region 19 with (go_at_call 10; (with_reducible refine Calls.mono (V2 _ K10.out) ?_); rintro e w12 ⟨⟨R2, C2, Z2, rfl⟩, k12⟩)
      have K12 : Hid (Kept (fun _ => True) w9 (w12.alloc (.cells #[.int .i64 R2, .int .i64 C2, .int .i64 Z2] 33))) := (K10.out.trans k12).alloc _
      clear k12 V1 V2
      generalize w12.alloc (.cells #[.int .i64 R2, .int .i64 C2, .int .i64 Z2] 33) = w13 at *
      have hbb : (b == b) = true := by cases b <;> rfl
      go_wp2_with (first
        | (go_at_call 14; (with_reducible refine Calls.mono (O1 _ K12.out) ?_); rintro e w14 ⟨⟨a14, c14, rfl, h14⟩, k14⟩; clear O1)
        | (go_at_call 14; (with_reducible refine Calls.mono (O2 _ (K12.out.trans k14)) ?_); rintro e w15 ⟨⟨a15, c15, rfl, h15⟩, k15⟩; have CS := isame_any (h14.kept k15 (fun _ _ => trivial)) h15 hOl)
        | (go_at_call 13; (with_reducible refine Calls.mono CS ?_); rintro e w16 ⟨rfl, m16, rfl⟩)
        | (go_at_call 16; (with_reducible refine Calls.mono (known_any _) ?_); rintro e w17 ⟨rfl, k17⟩))
      go_ret
      exact ⟨rfl, (HK9.out.trans K12.out).trans (((k14.trans k15).trans ((Kept.refl _ _).drewN _)).trans k17)⟩

end Go.Proofs.Ytbooeabmpdpgpaa
