/-
  AuditOne: it answers true.
-/
import Derived.Test.YtbooeabmpdpgpaaU22
import Derived.Deep.CutBlock
namespace Go.Proofs.Ytbooeabmpdpgpaa
open Go.RowKit Go.Maps Go.Sort

theorem size_recs (w0 : World) : (sizeOf (Try.prog.elem 29)).run Try.prog w0 = .ok 4 w0 := by kernel_rfl
set_option maxRecDepth 100000 in
theorem cut_r (ao : Option Addr) (n cap k : Nat) (hk : k ≤ cap) (hn : ao = none → cap = 0) (w0 : World) :
    (Instr.slice 29 (.slice ao n cap) none (some (.int .i64 (k : Int))) none).run Try.prog w0 = .ok (.slice ao k cap) w0 := by
  rw [run_slice_h (P := Try.prog) w0 29 ao n cap Try.underlying29 .i64 k (by omega) (by omega), size_recs]
  cases ao with
  | none => have := hn rfl; simp [Result.andThen, sliced]
  | some ad => simp [Result.andThen, sliced, Addr.add]
theorem encL_small {T : List (List UInt8)} (hn : T.length ≤ 900) (hs : ∀ t ∈ T, t.length ≤ 90000) : ((encL (mkC T)).length : Int) ≤ 140737488355328 := by
  have h1 := wgt_few (M := 90000) (mkC T) (fun x hx => by
    have : x.t ∈ txs (mkC T) := List.mem_map.2 ⟨x, hx, rfl⟩
    rw [txs_mkC] at this
    exact hs _ this)
  rw [mkC_length] at h1
  have h2 := Nat.mul_le_mul_right (90000 + 36) hn
  rw [encL_len]
  omega
theorem tme_small {us : List Ur} (h : ∀ u ∈ us, Tme u) : ∀ t ∈ tsR us, t.length ≤ 90000 := fun t ht => by
  obtain ⟨u, hu, rfl⟩ := List.mem_map.1 ht
  have := (h u hu).len
  omega
/-- The claims of rows that tame made. -/
theorem mds_of {cs : List Uc} {gr : List (Int × List Ur)} (hl : cs.length = gr.length) (hg : ∀ i (h1 : i < cs.length) (h2 : i < gr.length), cs[i].g = gr[i].1) (hb : ∀ i (h1 : i < cs.length) (h2 : i < gr.length), cs[i].bs = encL (mkC (tsR gr[i].2))) (ht : ∀ p ∈ gr, ∀ r ∈ p.2, Tme r) (hn : ∀ p ∈ gr, p.2.length ≤ 8) : Mds cs gr :=
  ⟨hl, hg, hb, fun p hp r hr => (ht p hp r hr).ok, fun p hp r hr => by
    have h := ht p hp r hr
    have h1 : r.tx.length ≤ 1 := by rcases h.k with ⟨_, q⟩ | ⟨_, q | q⟩ <;> rw [q] <;> decide
    rw [h.b]
    simp only [List.length_nil]
    omega, fun p hp => by have := hn p hp; omega⟩
theorem cv_of {w : World} {L : Nat} {cs : List Uc} {t : TypeId} (h : w.heap[L]? = some (.cells (claimS.row cs).toArray t (0, 0))) (hh : ∀ c ∈ cs, Has w c.a c.bs ∧ (c.bs.length : Int) ≤ 140737488355328 ∧ Fits c.g) : Cv w (some ⟨L, 0, none⟩) cs :=
  ⟨vw_row h, fun c hc => (hh c hc).1, fun c hc => (hh c hc).2.1, fun c hc => (hh c hc).2.2⟩

set_option maxRecDepth 100000 in
set_option maxHeartbeats 4000000 in
theorem auditOne_any {w : World} {a0 a1 : Option Addr} {cap0 cap1 : Nat} {rs0 rs1 : List Rr} (h0 : Rrv w a0 rs0) (h1 : Rrv w a1 rs1) :
    Calls Try.prog 6 #[.slice a0 rs0.length cap0, .slice a1 rs1.length cap1] w fun e w' => e = .returned (.bool true) ∧ Kept (fun _ => True) w w' := by
  have HV0 : Hid (Rrv w a0 rs0) := h0
  have HV1 : Hid (Rrv w a1 rs1) := h1
  clear h0 h1
  go_enter Try.func6, Try.ntmps6
  go_upto_block 0 with fail
  go_cut [5, 7] from 17 to 34 (fun v _ wx => ∃ (a' : Option Addr) (c' : Nat) (xs : List Ut), v = .slice a' xs.length c' ∧ xs.length ≤ 8 ∧ Rws wx w.heap.size (.slice a' xs.length c') xs ∧ Kept (fun _ => True) w wx)
  case first =>
    skip
    go_wp2_with fail
    go_loopw [5, 7] (fun v t wr => ∃ (k : Nat) (a' : Option Addr) (c' : Nat) (xs : List Ut), k ≤ rs0.length ∧ k ≤ 8 ∧ xs.length = k ∧ t = .int .i64 k ∧ v = .slice a' k c' ∧ Rws wr w.heap.size (.slice a' k c') xs ∧ Kept (fun _ => True) w wr) (fun _ t _ => 8 - (intOf t).toNat)
    case atStart => exact ⟨0, none, 0, [], Nat.zero_le _, Nat.zero_le _, rfl, rfl, rfl, Rws.nil _ _, Kept.refl _ _⟩
    case round =>
      obtain ⟨k, a', c', xs, hk, hk8, hxl, rfl, rfl, hrw, hkr⟩ := hrel
      have HRW : Hid (Rws wr w.heap.size (.slice a' k c') xs) := hrw
      have HKr : Hid (Kept (fun _ => True) w wr) := hkr
      have HXL : Hid (xs.length = k) := hxl
      clear hrw hxl
      by_cases hlt : k < rs0.length
      · have i1 : (k : Int) < (rs0.length : Int) := by omega
        by_cases hl8 : k < 8
        · obtain ⟨b, off, rfl, hb, hc⟩ := (HV0.out.all hkr).vw.row (by omega)
          have hr := hc k hlt
          have m0 : wr.cell? ⟨b, off + k * 4, none⟩ = some (.int .i64 rs0[k].1.k) := hr 0 _ rfl
          have m1 : wr.cell? ⟨b, off + k * 4 + 1, none⟩ = some (.string ⟨rs0[k].1.tx.toArray⟩) := hr 1 _ rfl
          have m2 : wr.cell? ⟨b, off + k * 4 + 2, none⟩ = some (.slice rs0[k].2.1 rs0[k].1.gs.length rs0[k].2.2) := hr 2 _ rfl
          have m3 : wr.cell? ⟨b, off + k * 4 + 3, none⟩ = some (.string ⟨rs0[k].1.bd.toArray⟩) := hr 3 _ rfl
          have HI : Hid (k < rs0.length ∧ k < 8) := ⟨hlt, hl8⟩
          have i0 : (0 : Int) ≤ (k : Int) := by omega
          have i2 : (k : Int) < 8 := by omega
          have ct := tame_any wr rs0[k].1.k rs0[k].1.tx rs0[k].1.bd rs0[k].2.1 rs0[k].1.gs.length rs0[k].2.2
          clear hr hc hkr hk hk8
          generalize rs0[k] = x at *
          clear hlt
          go_wp2_with (first
            | (go_at_call 23; (with_reducible refine Calls.mono ct ?_); rintro e w2 ⟨r, G, htm, rfl, hit, k2⟩; have HTM : Hid (Tme r) := htm; have HIT : Hid (Its w2 w.heap.size (.slice (some ⟨G, 0, none⟩) r.gs.length r.gs.length) r.gs) := World.ownsRow.mono hit HKr.out.size; have HR2 : Hid (Rws w2 w.heap.size (.slice a' k c') xs) := HRW.out.all k2; have K2 : Hid (Kept (fun _ => True) w w2) := HKr.out.trans k2; clear hit k2 ct htm)
            | (at_builtin; refine wpList_append_one recT rfl (.tmp 27) (.tmp 33) rfl w.heap.size (.slice a' k c') (xs.map rrU) rfl (HR2.out.ow.all ((Kept.refl _ _).alloc _)) (by rw [heap_size_alloc]; have := K2.out.size; omega) w2.heap.size rfl (rrU (r, (some ⟨G, 0, none⟩, r.gs.length))) (0, 0) (by have hbd := HTM.out.b; obtain ⟨rk, rtx, rgs, rbd⟩ := r; simp only at hbd; subst hbd; have := heap_alloc_new w2 (.cells #[.int .i64 (rk : Nat), .string ⟨rtx.toArray⟩, .slice (some ⟨G, 0, none⟩) rgs.length rgs.length, .string ⟨#[]⟩] 24); simpa [recS, rcell, rrU, Ur.ui] using this) (by rw [List.length_map, HXL.out]; have := HI.out.2; omega) (k + 1) (by rw [List.length_map, HXL.out]) ?_; intro a4 c4 w4 ho4 hg4 hl4))
          go_roundw
          case rel =>
            have hst := HR2.out.step (r, (some ⟨G, 0, none⟩, r.gs.length)) HTM.out HIT.out ho4 hg4
            refine ⟨k + 1, a4, c4, xs ++ [(r, (some ⟨G, 0, none⟩, r.gs.length))], by have := HI.out.1; omega, by have := HI.out.2; omega, by rw [List.length_append, HXL.out]; rfl, by go_num, rfl, hst, ?_⟩
            exact (K2.out.alloc _).grown hg4 (fun i hi e => by have := (World.ownsRow.lt HR2.out.ow i e).1; omega)
          case measure => have := HI.out.2; simp [intOf]; omega
        · have i2 : ¬ (k : Int) < 8 := by omega
          have HK8 : Hid (k ≤ 8) := hk8
          clear hl8 hlt hk hk8 hkr
          go_wp2_with fail
          go_meet
          rw [← HXL.out] at HRW ⊢
          exact ⟨a', c', xs, rfl, by have := HK8.out; have := HXL.out; omega, HRW.out, HKr.out⟩
      · have i1 : ¬ (k : Int) < (rs0.length : Int) := by omega
        have HK8 : Hid (k ≤ 8) := hk8
        clear hlt hk hk8 hkr
        go_wp2_with fail
        go_meet
        rw [← HXL.out] at HRW ⊢
        exact ⟨a', c', xs, rfl, by have := HK8.out; have := HXL.out; omega, HRW.out, HKr.out⟩
  case rest =>
  obtain ⟨a5, c5, xa, rfl, hla, hra, hka⟩ := hcut
  obtain ⟨wA, hwA⟩ : ∃ x, x = wc := ⟨_, rfl⟩
  rw [← hwA] at hra hka ⊢
  clear hwA
  have HRA : Hid (Rws wA w.heap.size (.slice a5 xa.length c5) xa) := hra
  have HKA : Hid (Kept (fun _ => True) w wA) := hka
  have HLA : Hid (xa.length ≤ 8) := hla
  have HV1b : Hid (Rrv wA a1 rs1) := HV1.out.all hka
  clear hra hka HV0 HV1
  go_upto_block 2 with fail
  go_cut [6, 8] from 35 to 52 (fun v _ wx => ∃ (a' : Option Addr) (c' : Nat) (xs : List Ut), v = .slice a' xs.length c' ∧ xs.length ≤ 8 ∧ Rws wx wA.heap.size (.slice a' xs.length c') xs ∧ Kept (fun _ => True) wA wx)
  case first =>
    clear HRA HKA HLA
    go_wp2_with fail
    go_loopw [6, 8] (fun v t wr => ∃ (k : Nat) (a' : Option Addr) (c' : Nat) (xs : List Ut), k ≤ rs1.length ∧ k ≤ 8 ∧ xs.length = k ∧ t = .int .i64 k ∧ v = .slice a' k c' ∧ Rws wr wA.heap.size (.slice a' k c') xs ∧ Kept (fun _ => True) wA wr) (fun _ t _ => 8 - (intOf t).toNat)
    case atStart => exact ⟨0, none, 0, [], Nat.zero_le _, Nat.zero_le _, rfl, rfl, rfl, Rws.nil _ _, Kept.refl _ _⟩
    case round =>
      obtain ⟨k, a', c', xs, hk, hk8, hxl, rfl, rfl, hrw, hkr⟩ := hrel
      have HRW : Hid (Rws wr wA.heap.size (.slice a' k c') xs) := hrw
      have HKr : Hid (Kept (fun _ => True) wA wr) := hkr
      have HXL : Hid (xs.length = k) := hxl
      clear hrw hxl
      by_cases hlt : k < rs1.length
      · have i1 : (k : Int) < (rs1.length : Int) := by omega
        by_cases hl8 : k < 8
        · obtain ⟨b, off, rfl, hb, hc⟩ := (HV1b.out.all hkr).vw.row (by omega)
          have hr := hc k hlt
          have m0 : wr.cell? ⟨b, off + k * 4, none⟩ = some (.int .i64 rs1[k].1.k) := hr 0 _ rfl
          have m1 : wr.cell? ⟨b, off + k * 4 + 1, none⟩ = some (.string ⟨rs1[k].1.tx.toArray⟩) := hr 1 _ rfl
          have m2 : wr.cell? ⟨b, off + k * 4 + 2, none⟩ = some (.slice rs1[k].2.1 rs1[k].1.gs.length rs1[k].2.2) := hr 2 _ rfl
          have m3 : wr.cell? ⟨b, off + k * 4 + 3, none⟩ = some (.string ⟨rs1[k].1.bd.toArray⟩) := hr 3 _ rfl
          have HI : Hid (k < rs1.length ∧ k < 8) := ⟨hlt, hl8⟩
          have i0 : (0 : Int) ≤ (k : Int) := by omega
          have i2 : (k : Int) < 8 := by omega
          have ct := tame_any wr rs1[k].1.k rs1[k].1.tx rs1[k].1.bd rs1[k].2.1 rs1[k].1.gs.length rs1[k].2.2
          clear hr hc hkr hk hk8
          generalize rs1[k] = x at *
          clear hlt
          go_wp2_with (first
            | (go_at_call 23; (with_reducible refine Calls.mono ct ?_); rintro e w2 ⟨r, G, htm, rfl, hit, k2⟩; have HTM : Hid (Tme r) := htm; have HIT : Hid (Its w2 wA.heap.size (.slice (some ⟨G, 0, none⟩) r.gs.length r.gs.length) r.gs) := World.ownsRow.mono hit HKr.out.size; have HR2 : Hid (Rws w2 wA.heap.size (.slice a' k c') xs) := HRW.out.all k2; have K2 : Hid (Kept (fun _ => True) wA w2) := HKr.out.trans k2; clear hit k2 ct htm)
            | (at_builtin; refine wpList_append_one recT rfl (.tmp 45) (.tmp 51) rfl wA.heap.size (.slice a' k c') (xs.map rrU) rfl (HR2.out.ow.all ((Kept.refl _ _).alloc _)) (by rw [heap_size_alloc]; have := K2.out.size; omega) w2.heap.size rfl (rrU (r, (some ⟨G, 0, none⟩, r.gs.length))) (0, 0) (by have hbd := HTM.out.b; obtain ⟨rk, rtx, rgs, rbd⟩ := r; simp only at hbd; subst hbd; have := heap_alloc_new w2 (.cells #[.int .i64 (rk : Nat), .string ⟨rtx.toArray⟩, .slice (some ⟨G, 0, none⟩) rgs.length rgs.length, .string ⟨#[]⟩] 24); simpa [recS, rcell, rrU, Ur.ui] using this) (by rw [List.length_map, HXL.out]; have := HI.out.2; omega) (k + 1) (by rw [List.length_map, HXL.out]) ?_; intro a4 c4 w4 ho4 hg4 hl4))
          go_roundw
          case rel =>
            have hst := HR2.out.step (r, (some ⟨G, 0, none⟩, r.gs.length)) HTM.out HIT.out ho4 hg4
            refine ⟨k + 1, a4, c4, xs ++ [(r, (some ⟨G, 0, none⟩, r.gs.length))], by have := HI.out.1; omega, by have := HI.out.2; omega, by rw [List.length_append, HXL.out]; rfl, by go_num, rfl, hst, ?_⟩
            exact (K2.out.alloc _).grown hg4 (fun i hi e => by have := (World.ownsRow.lt HR2.out.ow i e).1; omega)
          case measure => have := HI.out.2; simp [intOf]; omega
        · have i2 : ¬ (k : Int) < 8 := by omega
          have HK8 : Hid (k ≤ 8) := hk8
          clear hl8 hlt hk hk8 hkr
          go_wp2_with fail
          go_meet
          rw [← HXL.out] at HRW ⊢
          exact ⟨a', c', xs, rfl, by have := HK8.out; have := HXL.out; omega, HRW.out, HKr.out⟩
      · have i1 : ¬ (k : Int) < (rs1.length : Int) := by omega
        have HK8 : Hid (k ≤ 8) := hk8
        clear hlt hk hk8 hkr
        go_wp2_with fail
        go_meet
        rw [← HXL.out] at HRW ⊢
        exact ⟨a', c', xs, rfl, by have := HK8.out; have := HXL.out; omega, HRW.out, HKr.out⟩
  case rest =>
  obtain ⟨a6, c6, xb, rfl, hlb, hrb, hkb⟩ := hcut
  obtain ⟨wB, hwB⟩ : ∃ x, x = wc := ⟨_, rfl⟩
  rw [← hwB] at hrb hkb ⊢
  clear hwB
  have HRB : Hid (Rws wB wA.heap.size (.slice a6 xb.length c6) xb) := hrb
  have HRA2 : Hid (Rws wB w.heap.size (.slice a5 xa.length c5) xa) := HRA.out.all hkb
  have HKB : Hid (Kept (fun _ => True) w wB) := HKA.out.trans hkb
  have HLB : Hid (xb.length ≤ 8) := hlb
  clear hrb hkb HRA HKA HV1b
  obtain ⟨A, hA⟩ : ∃ A, A = xa.map (·.1) := ⟨_, rfl⟩
  obtain ⟨B, hB⟩ : ∃ B, B = xb.map (·.1) := ⟨_, rfl⟩
  have hAn : A.length = xa.length := by rw [hA, List.length_map]
  have hBn : B.length = xb.length := by rw [hB, List.length_map]
  have HTA : Hid (∀ r ∈ A, Tme r) := fun r hr => by rw [hA] at hr; obtain ⟨p, hp, rfl⟩ := List.mem_map.1 hr; exact HRA2.out.tm p hp
  have HTB : Hid (∀ r ∈ B, Tme r) := fun r hr => by rw [hB] at hr; obtain ⟨p, hp, rfl⟩ := List.mem_map.1 hr; exact HRB.out.tm p hp
  obtain ⟨EA, hEA⟩ : ∃ EA : Nat → List UInt8, ∀ k, EA k = encL (mkC (tsR (A.take k))) := ⟨fun k => _, fun _ => rfl⟩
  obtain ⟨EB, hEB⟩ : ∃ EB : List UInt8, EB = encL (mkC (tsR B)) := ⟨_, rfl⟩
  have CA : ∀ (W : World) (k cap : Nat), Kept (fun _ => True) wB W → k ≤ xa.length → Calls Try.prog 9 #[.int .i64 0, .slice a5 k cap] W fun e w' => ∃ a' c', e = .returned (.agg #[.int .i64 0, .slice a' (EA k).length c']) ∧ Ob w' W.heap.size (.slice a' (EA k).length c') (EA k) ∧ Kept (fun _ => True) W w' := fun W k cap q hk => by
    have := claimT_any (cap := cap) 0 (HRA2.out.all q) hk (by have := HLA.out; omega)
    rwa [← hA, ← hEA] at this
  have CB : ∀ (W : World), Kept (fun _ => True) wB W → Calls Try.prog 9 #[.int .i64 1, .slice a6 xb.length c6] W fun e w' => ∃ a' c', e = .returned (.agg #[.int .i64 1, .slice a' EB.length c']) ∧ Ob w' W.heap.size (.slice a' EB.length c') EB ∧ Kept (fun _ => True) W w' := fun W q => by
    have := claimT_any (cap := c6) 1 (HRB.out.all q) (Nat.le_refl _) (by have := HLB.out; omega)
    rwa [← hB, ← hBn, List.take_length, ← hEB, hBn] at this
  have lA : ∀ k, ((EA k).length : Int) ≤ 140737488355328 := fun k => by
    rw [hEA]
    exact encL_small (by simp only [tsR, List.length_map, List.length_take]; have := HLA.out; omega) (tme_small (fun u hu => HTA.out u (List.mem_of_mem_take hu)))
  have lB : (EB.length : Int) ≤ 140737488355328 := by
    rw [hEB]
    exact encL_small (by simp only [tsR, List.length_map]; have := HLB.out; omega) (tme_small HTB.out)
  have hEn : EA xa.length = encL (mkC (tsR A)) := by rw [hEA, ← hAn, List.take_length]
  have f0 : Fits 0 := by unfold Fits; decide
  have f1 : Fits 1 := by unfold Fits; decide
  have M2 : ∀ (p1 p2 : Option Addr) (q1 q2 : Nat), Mds [⟨0, EA xa.length, p1, q1⟩, ⟨1, EB, p2, q2⟩] [(0, A), (1, B)] := fun p1 p2 q1 q2 => mds_of rfl (fun i h1 h2 => by
      match i, h1 with
      | 0, _ => rfl
      | 1, _ => rfl) (fun i h1 h2 => by
      match i, h1 with
      | 0, _ => exact hEn
      | 1, _ => exact hEB) (fun p hp r hr => by
      simp only [List.mem_cons, List.not_mem_nil, or_false] at hp
      rcases hp with rfl | rfl
      · exact HTA.out r hr
      · exact HTB.out r hr) (fun p hp => by
      simp only [List.mem_cons, List.not_mem_nil, or_false] at hp
      rcases hp with rfl | rfl
      · show A.length ≤ 8
        rw [hAn]; exact HLA.out
      · show B.length ≤ 8
        rw [hBn]; exact HLB.out)
  have M3 : ∀ (k : Nat) (p1 p2 p3 : Option Addr) (q1 q2 q3 : Nat), Mds [⟨0, EA k, p1, q1⟩, ⟨1, EB, p2, q2⟩, ⟨0, EA xa.length, p3, q3⟩] [(0, A.take k), (1, B), (0, A)] := fun k p1 p2 p3 q1 q2 q3 => mds_of rfl (fun i h1 h2 => by
      match i, h1 with
      | 0, _ => rfl
      | 1, _ => rfl
      | 2, _ => rfl) (fun i h1 h2 => by
      match i, h1 with
      | 0, _ => exact hEA k
      | 1, _ => exact hEB
      | 2, _ => exact hEn) (fun p hp r hr => by
      simp only [List.mem_cons, List.not_mem_nil, or_false] at hp
      rcases hp with rfl | rfl | rfl
      · exact HTA.out r (List.mem_of_mem_take hr)
      · exact HTB.out r hr
      · exact HTA.out r hr) (fun p hp => by
      simp only [List.mem_cons, List.not_mem_nil, or_false] at hp
      rcases hp with rfl | rfl | rfl
      · show (A.take k).length ≤ 8
        rw [List.length_take, hAn]; have := HLA.out; omega
      · show B.length ≤ 8
        rw [hBn]; exact HLB.out
      · show A.length ≤ 8
        rw [hAn]; exact HLA.out)
  have CV2 : ∀ (W : World) (L : Nat) (p1 p2 : Option Addr) (q1 q2 : Nat), Has W p1 (EA xa.length) → Has W p2 EB → W.heap[L]? = some (.cells #[.int .i64 0, .slice p1 (EA xa.length).length q1, .int .i64 1, .slice p2 EB.length q2] 27 (0, 0)) →
      Calls Try.prog 10 #[.slice (some ⟨L, 0, none⟩) 2 2] W fun e w' => (∃ (R C Z : Int) (ok : Bool), e = .returned (.tuple #[.agg #[.int .i64 R, .int .i64 C, .int .i64 Z], .bool ok]) ∧ (ok = true → ∃ pq, Pq [(0, A), (1, B)] pq ∧ AllNeg pq) ∧ (ok = false → 4 ≤ R ∧ R ≤ 7)) ∧ Kept (fun _ => True) W w' := fun W L p1 p2 q1 q2 h1 h2 hL => by
    have cv : Cv W (some ⟨L, 0, none⟩) [⟨0, EA xa.length, p1, q1⟩, ⟨1, EB, p2, q2⟩] := cv_of hL (fun c hc => by
      simp only [List.mem_cons, List.not_mem_nil, or_false] at hc
      rcases hc with rfl | rfl
      · exact ⟨h1, lA _, f0⟩
      · exact ⟨h2, lB, f1⟩)
    refine (verify_md (cap := 2) cv (n := 2) rfl (by decide) (M2 p1 p2 q1 q2)).mono ?_
    rintro e w' ⟨⟨pq, hp, hg, he⟩, k⟩
    refine ⟨?_, k⟩
    rcases ever_cases he with ⟨ha, rfl⟩ | ⟨j, i, z, hj, _, hz, hr, rfl⟩
    · exact ⟨0, 0, 0, true, rfl, fun _ => ⟨pq, hp, ha⟩, fun h => by cases h⟩
    · have := (one_rule hp hg).2 j i z hr hz
      exact ⟨_, _, _, false, rfl, (fun h => by cases h), fun _ => by omega⟩
  have CO : ∀ (W : World) (L : Nat) (p1 p2 : Option Addr) (q1 q2 : Nat) (tx : List UInt8), Has W p1 (EA xa.length) → Has W p2 EB → W.heap[L]? = some (.cells #[.int .i64 0, .slice p1 (EA xa.length).length q1, .int .i64 1, .slice p2 EB.length q2] 27 (0, 0)) → (∃ pq, Pq [(0, A), (1, B)] pq ∧ AllNeg pq) →
      Calls Try.prog 14 #[.slice (some ⟨L, 0, none⟩) 2 2, .string ⟨tx.toArray⟩] W fun e w' => (∃ a n c, e = .returned (.slice a n c) ∧ n ≤ 1) ∧ Kept (fun _ => True) W w' := fun W L p1 p2 q1 q2 tx h1 h2 hL hall => by
    have cv : Cv W (some ⟨L, 0, none⟩) [⟨0, EA xa.length, p1, q1⟩, ⟨1, EB, p2, q2⟩] := cv_of hL (fun c hc => by
      simp only [List.mem_cons, List.not_mem_nil, or_false] at hc
      rcases hc with rfl | rfl
      · exact ⟨h1, lA _, f0⟩
      · exact ⟨h2, lB, f1⟩)
    refine (outcomes_md (cap := 2) cv (n := 2) rfl (by decide) (M2 p1 p2 q1 q2) tx).mono ?_
    rintro e w' ⟨⟨a, c, rfl, _⟩, k⟩
    obtain ⟨pq, hp, ha⟩ := hall
    exact ⟨⟨a, _, c, rfl, out_few ((allneg_iff hp).1 ha).2.2 tx⟩, k⟩
  have CV3 : ∀ (W : World) (L k : Nat) (p1 p2 p3 : Option Addr) (q1 q2 q3 : Nat), Has W p1 (EA k) → Has W p2 EB → Has W p3 (EA xa.length) → W.heap[L]? = some (.cells #[.int .i64 0, .slice p1 (EA k).length q1, .int .i64 1, .slice p2 EB.length q2, .int .i64 0, .slice p3 (EA xa.length).length q3] 27 (0, 0)) → (∃ pq, Pq [(0, A), (1, B)] pq ∧ AllNeg pq) →
      Calls Try.prog 10 #[.slice (some ⟨L, 0, none⟩) 3 3] W fun e w' => e = .returned (.tuple #[.agg #[.int .i64 0, .int .i64 0, .int .i64 0], .bool true]) ∧ Kept (fun _ => True) W w' := fun W L k p1 p2 p3 q1 q2 q3 h1 h2 h3 hL hall => by
    have cv : Cv W (some ⟨L, 0, none⟩) [⟨0, EA k, p1, q1⟩, ⟨1, EB, p2, q2⟩, ⟨0, EA xa.length, p3, q3⟩] := cv_of hL (fun c hc => by
      simp only [List.mem_cons, List.not_mem_nil, or_false] at hc
      rcases hc with rfl | rfl | rfl
      · exact ⟨h1, lA _, f0⟩
      · exact ⟨h2, lB, f1⟩
      · exact ⟨h3, lA _, f0⟩)
    refine (verify_md (cap := 3) cv (n := 3) rfl (by decide) (M3 k p1 p2 p3 q1 q2 q3)).mono ?_
    rintro e w' ⟨⟨pq', hp', hg', he⟩, k⟩
    obtain ⟨pq, hp, ha⟩ := hall
    have hn := one_part hp ha hp' hg'
    rcases ever_cases he with ⟨_, rfl⟩ | ⟨j, i, z, hj, hi, hz, hr, rfl⟩
    · exact ⟨rfl, k⟩
    · exact absurd (hr.one (hn j i hj hi)) hz
  obtain ⟨_, c5', e5, hc5, hn5⟩ := HRA2.out.shape
  injection e5 with e51 e52 e53
  subst e51 e53
  have HC5 : Hid (xa.length ≤ c5 ∧ (a5 = none → c5 = 0)) := ⟨hc5, hn5⟩
  clear hEA hEB hEn hA hB hAn hBn lA lB f0 f1 M2 M3 e52 hc5 hn5
  go_upto_region 11 with (first
    | (go_at_call 9; (with_reducible refine Calls.mono (CA wB xa.length c5 (Kept.refl _ _) (Nat.le_refl _)) ?_); rintro e w10 ⟨a10, c10, rfl, h10, k10⟩; have K10 : Hid (Kept (fun _ => True) wB w10) := k10; have H10 : Hid (Has w10 a10 (EA xa.length)) := own_has h10; clear h10 k10)
    | (go_at_call 9; (with_reducible refine Calls.mono (CB w10 K10.out) ?_); rintro e w11 ⟨a11, c11, rfl, h11, k11⟩; have K11 : Hid (Kept (fun _ => True) w10 w11) := k11; have H11 : Hid (Has w11 a11 EB) := own_has h11; clear h11 k11))
  have HL : Hid ((w11.alloc (.cells #[.int .i64 0, .slice a10 (EA xa.length).length c10, .int .i64 1, .slice a11 EB.length c11] 27)).heap[w11.heap.size]? = some (.cells #[.int .i64 0, .slice a10 (EA xa.length).length c10, .int .i64 1, .slice a11 EB.length c11] 27 (0, 0))) := heap_alloc_new w11 _
  have K12 : Hid (Kept (fun _ => True) w11 (w11.alloc (.cells #[.int .i64 0, .slice a10 (EA xa.length).length c10, .int .i64 1, .slice a11 EB.length c11] 27))) := (Kept.refl _ _).alloc _
  generalize w11.heap.size = L at *
  generalize w11.alloc (.cells #[.int .i64 0, .slice a10 (EA xa.length).length c10, .int .i64 1, .slice a11 EB.length c11] 27) = w12 at *
  have hA12 : Has w12 a10 (EA xa.length) := H10.out.kept (K11.out.trans K12.out) (fun _ _ => trivial)
  have hB12 : Has w12 a11 EB := H11.out.kept K12.out (fun _ _ => trivial)
  have HA12 : Hid (Has w12 a10 (EA xa.length)) := hA12
  have HB12 : Hid (Has w12 a11 EB) := hB12
  have KB12 : Hid (Kept (fun _ => True) wB w12) := (K10.out.trans K11.out).trans K12.out
  have cv2 := CV2 w12 L a10 a11 c10 c11 hA12 hB12 HL.out
  clear hA12 hB12 H10 H11 K10 K11 K12 CV2
  go_upto_region 12 with (go_at_call 10; (with_reducible refine Calls.mono cv2 ?_); rintro e w13 ⟨⟨R, C, Z, ok, rfl, hok1, hok2⟩, k13⟩; have HOK : Hid ((ok = true → ∃ pq, Pq [(0, A), (1, B)] pq ∧ AllNeg pq) ∧ (ok = false → 4 ≤ R ∧ R ≤ 7)) := ⟨hok1, hok2⟩; clear hok1 hok2 cv2)
  have F13 : Bk (w13.alloc (.cells #[.int .i64 R, .int .i64 C, .int .i64 Z] 33)) w13.heap.size 33 [.int .i64 R, .int .i64 C, .int .i64 Z] := heap_alloc_new w13 _
  have K13 : Hid (Kept (fun _ => True) w12 (w13.alloc (.cells #[.int .i64 R, .int .i64 C, .int .i64 Z] 33))) := k13.alloc _
  generalize w13.heap.size = P at *
  generalize w13.alloc (.cells #[.int .i64 R, .int .i64 C, .int .i64 Z] 33) = w14 at *
  obtain ⟨p0, _, _⟩ := F13.three
  clear F13 k13
  cases ok with
  | false =>
    obtain ⟨r1, r2⟩ := HOK.out.2 rfl
    have r3 : R ≥ 4 := r1
    go_wp2_with (go_at_call 16; (with_reducible refine Calls.mono (known_any _) ?_); rintro e w15 ⟨rfl, k15⟩)
    go_ret
    exact ⟨rfl, ((HKB.out.trans KB12.out).trans K13.out).trans k15⟩
  | true =>
    have HALL : Hid (∃ pq, Pq [(0, A), (1, B)] pq ∧ AllNeg pq) := HOK.out.1 rfl
    clear HOK p0
    have KW14 : Hid (Kept (fun _ => True) w w14) := (HKB.out.trans KB12.out).trans K13.out
    have KB14 : Hid (Kept (fun _ => True) wB w14) := KB12.out.trans K13.out
    obtain ⟨w15, hw15⟩ : ∃ x, x = w14.alloc (.cells #[.string ⟨#[116]⟩, .string ⟨#[117]⟩, .string ⟨#[110, 111, 110, 101]⟩] 9) := ⟨_, rfl⟩
    have k15 : Kept (fun _ => True) w14 w15 := by rw [hw15]; exact (Kept.refl _ _).alloc _
    have S15 : w15.heap[w14.heap.size]? = some (.cells #[.string ⟨#[116]⟩, .string ⟨#[117]⟩, .string ⟨#[110, 111, 110, 101]⟩] 9 (0, 0)) := by rw [hw15]; exact heap_alloc_new w14 _
    have HS15 : Hid (w15.heap[w14.heap.size]? = some (.cells #[.string ⟨#[116]⟩, .string ⟨#[117]⟩, .string ⟨#[110, 111, 110, 101]⟩] 9 (0, 0))) := S15
    have K15 : Hid (Kept (fun _ => True) w12 w15) := K13.out.trans k15
    have KW15 : Hid (Kept (fun _ => True) w w15) := KW14.out.trans k15
    have KB15 : Hid (Kept (fun _ => True) wB w15) := KB14.out.trans k15
    clear k15 S15 K13 KW14 KB14
    go_wp2_with fail
    rw [← hw15]
    clear hw15
    generalize w14.heap.size = Sb at *
    go_loopw [78] (fun t wr => ∃ k : Nat, k ≤ 3 ∧ t = .int .i64 k ∧ Kept (fun _ => True) w15 wr) (fun t _ => 3 - (intOf t).toNat)
    case atStart => exact ⟨0, Nat.zero_le _, rfl, Kept.refl _ _⟩
    case round =>
      obtain ⟨k, hk, rfl, hkr⟩ := hrel
      have HKr : Hid (Kept (fun _ => True) w15 wr) := hkr
      by_cases hlt : k < 3
      · have hS := (hkr.block Sb (lt_of_block HS15.out) trivial).trans HS15.out
        have s0 : wr.cell? ⟨Sb, 0, none⟩ = some (.string ⟨#[116]⟩) := cell_of_row _ _ 0 _ _ _ hS
        have s1 : wr.cell? ⟨Sb, 1, none⟩ = some (.string ⟨#[117]⟩) := cell_of_row _ _ 1 _ _ _ hS
        have s2 : wr.cell? ⟨Sb, 2, none⟩ = some (.string ⟨#[110, 111, 110, 101]⟩) := cell_of_row _ _ 2 _ _ _ hS
        have co := fun tx => CO wr L a10 a11 c10 c11 tx (HA12.out.kept (K15.out.trans hkr) (fun _ _ => trivial)) (HB12.out.kept (K15.out.trans hkr) (fun _ _ => trivial)) (((K15.out.trans hkr).block L (lt_of_block HL.out) trivial).trans HL.out) HALL.out
        have h3 : k = 0 ∨ k = 1 ∨ k = 2 := by omega
        clear hS hkr hk hlt
        rcases h3 with rfl | rfl | rfl
        · have co0 := co [116]
          clear co s1 s2
          go_wp2_with (go_at_call 14; (with_reducible refine Calls.mono co0 ?_); rintro e w16 ⟨⟨a16, n16, c16, rfl, hn16⟩, k16⟩; have nn : ¬ ((n16 : Int) > 1) := by omega)
          go_roundw
          case rel => exact ⟨0 + 1, by omega, by go_num, HKr.out.trans k16⟩
          case measure => simp [intOf]
        · have co0 := co [117]
          clear co s0 s2
          go_wp2_with (go_at_call 14; (with_reducible refine Calls.mono co0 ?_); rintro e w16 ⟨⟨a16, n16, c16, rfl, hn16⟩, k16⟩; have nn : ¬ ((n16 : Int) > 1) := by omega)
          go_roundw
          case rel => exact ⟨1 + 1, by omega, by go_num, HKr.out.trans k16⟩
          case measure => simp [intOf]
        · have co0 := co [110, 111, 110, 101]
          clear co s0 s1
          go_wp2_with (go_at_call 14; (with_reducible refine Calls.mono co0 ?_); rintro e w16 ⟨⟨a16, n16, c16, rfl, hn16⟩, k16⟩; have nn : ¬ ((n16 : Int) > 1) := by omega)
          go_roundw
          case rel => exact ⟨2 + 1, by omega, by go_num, HKr.out.trans k16⟩
          case measure => simp [intOf]
      · obtain rfl : k = 3 := by omega
        obtain ⟨w17, hw17⟩ : ∃ x, x = wr := ⟨_, rfl⟩
        rw [← hw17] at hkr ⊢
        clear hw17
        have KW17 : Hid (Kept (fun _ => True) w w17) := KW15.out.trans hkr
        have KB17 : Hid (Kept (fun _ => True) wB w17) := KB15.out.trans hkr
        clear hkr hk hlt HKr HS15 K15 KW15 KB15
        go_wp2_with fail
        go_loopw [14] (fun t wr => ∃ i : Nat, i ≤ xa.length + 1 ∧ t = .int .i64 i ∧ Kept (fun _ => True) w17 wr) (fun t _ => xa.length + 1 - (intOf t).toNat)
        case atStart => exact ⟨0, Nat.zero_le _, rfl, Kept.refl _ _⟩
        case round =>
          obtain ⟨i, hi, rfl, hkr⟩ := hrel
          have HKr : Hid (Kept (fun _ => True) w17 wr) := hkr
          have KBr : Hid (Kept (fun _ => True) wB wr) := KB17.out.trans hkr
          obtain ⟨wq, hwq⟩ : ∃ x, x = wr := ⟨_, rfl⟩
          rw [← hwq] at HKr KBr hkr ⊢
          clear hwq hkr
          by_cases hle : i ≤ xa.length
          · have i1 : (i : Int) ≤ (xa.length : Int) := by omega
            have hcut := fun W : World => cut_r a5 xa.length c5 i (by have := HC5.out.1; omega) HC5.out.2 W
            have HI : Hid (i ≤ xa.length) := hle
            have ca := CA wq i c5 KBr.out hle
            have hl8 : xa.length ≤ 8 := HLA.out
            clear hi hle
            go_upto_region 24 with (first
              | (go_at_call 9; (with_reducible refine Calls.mono ca ?_); rintro e w20 ⟨a20, c20, rfl, h20, k20⟩; have H20 : Hid (Has w20 a20 (EA i)) := own_has h20; have K20 : Hid (Kept (fun _ => True) wq w20) := k20; clear ca h20 k20)
              | (go_at_call 9; (with_reducible refine Calls.mono (CB w20 (KBr.out.trans K20.out)) ?_); rintro e w21 ⟨a21, c21, rfl, h21, k21⟩; have H21 : Hid (Has w21 a21 EB) := own_has h21; have K21 : Hid (Kept (fun _ => True) w20 w21) := k21; clear h21 k21)
              | (go_at_call 9; (with_reducible refine Calls.mono (CA w21 xa.length c5 (KBr.out.trans (K20.out.trans K21.out)) (Nat.le_refl _)) ?_); rintro e w22 ⟨a22, c22, rfl, h22, k22⟩; have H22 : Hid (Has w22 a22 (EA xa.length)) := own_has h22; have K22 : Hid (Kept (fun _ => True) w21 w22) := k22; clear h22 k22; have kL : Kept (fun _ => True) w22 (w22.alloc (.cells #[.int .i64 0, .slice a20 (EA i).length c20, .int .i64 1, .slice a21 EB.length c21, .int .i64 0, .slice a22 (EA xa.length).length c22] 27)) := (Kept.refl _ _).alloc _; have cv3 := CV3 _ w22.heap.size i a20 a21 a22 c20 c21 c22 (H20.out.kept ((K21.out.trans K22.out).trans kL) (fun _ _ => trivial)) (H21.out.kept (K22.out.trans kL) (fun _ _ => trivial)) (H22.out.kept kL (fun _ _ => trivial)) (heap_alloc_new w22 _) HALL.out; have K23 : Hid (Kept (fun _ => True) wq (w22.alloc (.cells #[.int .i64 0, .slice a20 (EA i).length c20, .int .i64 1, .slice a21 EB.length c21, .int .i64 0, .slice a22 (EA xa.length).length c22] 27))) := ((K20.out.trans K21.out).trans K22.out).trans kL; clear kL)
              | (go_at_call 10; (with_reducible refine Calls.mono cv3 ?_); rintro e w24 ⟨rfl, k24⟩; have K24 : Hid (Kept (fun _ => True) wq w24) := K23.out.trans k24; clear k24 cv3))
            have K25 : Hid (Kept (fun _ => True) wq (w24.alloc (.cells #[.int .i64 0, .int .i64 0, .int .i64 0] 33))) := K24.out.alloc _
            generalize w24.alloc (.cells #[.int .i64 0, .int .i64 0, .int .i64 0] 33) = w25 at *
            have i6 : (i : Int) + 1 ≤ 9223372036854775807 := by have := HI.out; omega
            go_wp2_with fail
            go_roundw
            case rel =>
              refine ⟨_, _, _, _, _, _, _, _, _, _, _, _, _, _, _, _, _, _, _, _, _, _, _, _, _, ⟨i + 1, ?_, ?_, ?_⟩, rfl⟩
              · have := HI.out; omega
              · go_num
              · exact HKr.out.trans K25.out
            case measure => have := HI.out; simp [intOf]; omega
          · obtain rfl : i = xa.length + 1 := by omega
            have i1 : ¬ (((xa.length + 1 : Nat) : Int) ≤ (xa.length : Int)) := by omega
            have i2 : ¬ ((xa.length : Int) + 1 ≤ (xa.length : Int)) := by omega
            clear hi hle
            go_wp2_with (go_at_call 16; (with_reducible refine Calls.mono (known_any _) ?_); rintro e w25 ⟨rfl, k25⟩)
            go_ret
            exact ⟨rfl, (KW17.out.trans HKr.out).trans k25⟩

end Go.Proofs.Ytbooeabmpdpgpaa
