/-
  Outcomes.
-/
import Derived.Test.YtbooeabmpdpgpaaU16p
namespace Go.Proofs.Ytbooeabmpdpgpaa
open Go.RowKit Go.Maps Go.Sort

/-- The links that these claims' bytes hold. -/
structure Dcs (cs : List Uc) (lss : List (List Li)) : Prop where
  len : lss.length = cs.length
  dec : ∀ i (h1 : i < lss.length) (h2 : i < cs.length), ∃ y z, IsDec cs[i].bs lss[i] y z
theorem Dcs.nil : Dcs [] [] := ⟨rfl, fun _ h => by simp at h⟩
theorem Dcs.snoc {cs : List Uc} {lss : List (List Li)} {c : Uc} {ls : List Li} {y z : Int} (h : Dcs cs lss) (hd : IsDec c.bs ls y z) : Dcs (cs ++ [c]) (lss ++ [ls]) := by
  have hl := h.len
  refine ⟨by simp [hl], fun i q1 q2 => ?_⟩
  rw [List.length_append, List.length_singleton] at q1 q2
  by_cases hi : i < lss.length
  · rw [List.getElem_append_left hi, List.getElem_append_left (by omega)]
    exact h.dec i hi (by omega)
  · have e : i = lss.length := by omega
    subst e
    simp only [List.getElem_append_right (Nat.le_refl _), List.getElem_append_right (show cs.length ≤ lss.length by omega), Nat.sub_self, List.getElem_singleton, show lss.length - cs.length = 0 by omega]
    exact ⟨y, z, hd⟩
theorem Dcs.one {cs : List Uc} {l1 l2 : List (List Li)} (h : Dcs cs l1) (k : Dcs cs l2) : l1 = l2 := by
  refine List.ext_getElem (by rw [h.len, k.len]) fun i h1 h2 => ?_
  have hc : i < cs.length := by have := h.len; omega
  obtain ⟨_, _, d1⟩ := h.dec i h1 hc
  obtain ⟨_, _, d2⟩ := k.dec i h2 hc
  exact (d1.one d2).1
/-- The records of links that can be read. -/
def rdL (ls : List Li) : List Ur := (txs ls).filterMap rec?
def outR (lss : List (List Li)) : List Ur := lss.flatMap rdL
theorem outR_snoc (lss : List (List Li)) (ls : List Li) : outR (lss ++ [ls]) = outR lss ++ rdL ls := by simp [outR]
/-- The kinds of the records of tx. -/
def kol (rs : List Ur) (tx : List UInt8) : K4 := rs.foldl (fun K r => if r.tx = tx then K.put r.k else K) K4.nil
theorem kol_snoc (rs : List Ur) (r : Ur) (tx : List UInt8) : kol (rs ++ [r]) tx = if r.tx = tx then (kol rs tx).put r.k else kol rs tx := by simp [kol]
def outO (K : K4) : List Nat := (if K.c then [1] else []) ++ (if K.a then [2] else [])
theorem filter_take {ts : List (List UInt8)} {j : Nat} (h : j < ts.length) : (ts.take (j + 1)).filterMap rec? = (ts.take j).filterMap rec? ++ (rec? ts[j]).toList := by
  rw [List.take_succ_eq_append_getElem h, List.filterMap_append]
  cases hr : rec? ts[j] <;> simp [hr]

set_option maxRecDepth 100000 in
set_option maxHeartbeats 4000000 in
theorem outcomes_any {w : World} {al : Option Addr} {cap : Nat} {cs : List Uc} (h : Cv w al cs) (hn : cs.length ≤ 200) (tx : List UInt8) :
    Calls Try.prog 14 #[.slice al cs.length cap, .string ⟨tx.toArray⟩] w fun e w' => ∃ v lss, e = .returned v ∧ Dcs cs lss ∧ Its w' w.heap.size v (outO (kol (outR lss) tx)) ∧ Kept (fun _ => True) w w' := by
  have HC : Hid (Cv w al cs) := h
  clear h
  go_enter Try.func14, Try.ntmps14
  go_wp2_with fail
  go_loopw [5, 18] (fun v t wr => ∃ (i : Nat) (lss : List (List Li)), i ≤ cs.length ∧ t = .int .i64 i ∧ v = .int .i64 ((kol (outR lss) tx).val : Nat) ∧ Dcs (cs.take i) lss ∧ Kept (fun _ => True) w wr) (fun _ t _ => cs.length - (intOf t).toNat)
  case atStart => exact ⟨0, [], Nat.zero_le _, rfl, rfl, by simpa using Dcs.nil, Kept.refl _ _⟩
  case round =>
    obtain ⟨i, lss, hi, rfl, rfl, hd, hk⟩ := hrel
    obtain ⟨wB, hwB⟩ : ∃ x, x = wr := ⟨_, rfl⟩
    rw [← hwB] at hk ⊢
    clear hwB
    have HD : Hid (Dcs (cs.take i) lss) := hd
    have HK : Hid (Kept (fun _ => True) w wB) := hk
    clear hd
    by_cases hlt : i < cs.length
    · have HCr : Hid (Cv wB al cs) := HC.out.all hk
      obtain ⟨gb, go, rfl, hgb, hgr⟩ := HCr.out.vw.row (by omega)
      have hr := hgr i hlt
      have m0 : wB.cell? ⟨gb, go + i * 2, none⟩ = some (.int .i64 cs[i].g) := hr 0 _ rfl
      have m1 : wB.cell? ⟨gb, go + i * 2 + 1, none⟩ = some (.slice cs[i].a cs[i].bs.length cs[i].c) := hr 1 _ rfl
      have hhas := HCr.out.has _ (List.getElem_mem hlt)
      have hlen := HCr.out.len _ (List.getElem_mem hlt)
      have HTK : Hid (cs.take (i + 1) = cs.take i ++ [cs[i]]) := List.take_succ_eq_append_getElem hlt
      have HI : Hid (i < cs.length) := hlt
      have i0 : (0 : Int) ≤ (i : Int) := by omega
      have i1 : (i : Int) < (cs.length : Int) := by omega
      clear hr hgr hk hi HCr
      generalize cs[i] = c at *
      clear hlt
      obtain ⟨w2, hw2⟩ : ∃ x, x = wB.alloc (.cells #[.int .i64 c.g, .slice c.a c.bs.length c.c] 27) := ⟨_, rfl⟩
      have k2 : Kept (fun _ => True) wB w2 := by rw [hw2]; exact (Kept.refl _ _).alloc _
      have F2 : Bk w2 wB.heap.size 27 [.int .i64 c.g, .slice c.a c.bs.length c.c] := by rw [hw2]; exact heap_alloc_new wB _
      have cd := decode_any (cap := c.c) (hhas.kept k2 (fun _ _ => trivial)) hlen
      obtain ⟨f0, f1⟩ := F2.two
      have K2 : Hid (Kept (fun _ => True) wB w2) := k2
      clear F2 k2 hhas hlen
      go_upto_region 5 with fail
      rw [← hw2]
      clear hw2 m0 m1
      generalize wB.heap.size = P at *
      go_upto_region 6 with (go_at_call 37; (with_reducible refine Calls.mono cd ?_); rintro e w3 ⟨ls, y, z, a3, c3, rfl, hdc, ho, k3⟩; have HDC : Hid (IsDec c.bs ls y z) := hdc; have ct := textsL_any (cap := c3) ho.view (by have := hdc.few.1; omega); have K3 : Hid (Kept (fun _ => True) wB w3) := K2.out.trans k3; have hfew : Hid (ls.length ≤ 4096 ∧ ∀ x ∈ ls, x.t.length ≤ 4000) := hdc.few; clear hdc ho k3 cd)
      have HTS : Hid (∀ t ∈ txs ls, t.length ≤ 4000) := fun t ht => by
        obtain ⟨x, hx, rfl⟩ := List.mem_map.1 ht
        exact hfew.out.2 x hx
      have HTL : Hid (rdL ls = (txs ls).filterMap rec?) := rfl
      have HTN : Hid ((txs ls).length ≤ 4096) := by show (ls.map (·.t)).length ≤ _; rw [List.length_map]; exact hfew.out.1
      generalize txs ls = ts at *
      go_wp2_with (go_at_call 38; (with_reducible refine Calls.mono ct ?_); rintro e w4 ⟨a4, c4, rfl, ht4, k4⟩; have HT4 : Hid (Txs w4 w3.heap.size (.slice a4 ts.length c4) ts) := ht4; have K4 : Hid (Kept (fun _ => True) wB w4) := K3.out.trans k4; clear ht4 k4 ct)
      go_loopw [5, 32] (fun v t w5 => ∃ j : Nat, j ≤ ts.length ∧ t = .int .i64 j ∧ v = .int .i64 ((kol (outR lss ++ (ts.take j).filterMap rec?) tx).val : Nat) ∧ Kept (fun _ => True) w4 w5) (fun _ t _ => ts.length - (intOf t).toNat)
      case atStart => exact ⟨0, Nat.zero_le _, rfl, by simp, Kept.refl _ _⟩
      case round =>
        obtain ⟨j, hj, rfl, rfl, hk5⟩ := hrel
        have HK5 : Hid (Kept (fun _ => True) w4 wr) := hk5
        by_cases hlt : j < ts.length
        · obtain ⟨ao4, cap4, e4, _, hg4⟩ := HT4.out.shape
          injection e4 with e4a e4b e4c
          subst e4a e4c
          obtain ⟨g4, rfl⟩ := hg4 (by omega)
          have c0 := (kept_cell hk5 (World.block_lt_of_cell? w4 _ (HT4.out.cell j hlt)) trivial).trans (HT4.out.cell j hlt)
          have HFT : Hid ((ts.take (j + 1)).filterMap rec? = _) := filter_take hlt
          have hsh := HTS.out _ (List.getElem_mem hlt)
          have cr := readA_any (w := wr) (bs := ts[j]) (by omega)
          have j0 : (0 : Int) ≤ (j : Int) := by omega
          have j1 : (j : Int) < (ts.length : Int) := by omega
          have HJ : Hid (j < ts.length) := hlt
          have hnb : ts.length ≤ 4096 := HTN.out
          have HRK : Hid (∀ r, rec? ts[j] = some r → (r.k = 1 ∨ r.k = 2 ∨ r.k = 3 ∨ r.k = 4)) := fun r hr => fmd_kind (rec_kind hr)
          clear hj hk5 hsh
          generalize ts[j] = t0 at *
          clear hlt
          obtain ⟨KO, hKO⟩ : ∃ KO, KO = outR lss ++ (ts.take j).filterMap rec? := ⟨_, rfl⟩
          rw [← hKO]
          have HKO : Hid (outR lss ++ (ts.take (j + 1)).filterMap rec? = KO ++ (rec? t0).toList) := by show _ = _; rw [HFT.out, ← List.append_assoc, ← hKO]
          clear hKO HFT
          cases hr : rec? t0 with
          | none =>
            have cr2 : Calls Try.prog 17 #[.string ⟨t0.toArray⟩] wr fun e w' => e = .returned (.tuple #[.agg #[.int .i64 0, .string ⟨#[]⟩, .slice none 0 0, .string ⟨#[]⟩], .int .i64 12]) ∧ Kept (fun _ => True) wr w' := by
              refine cr.mono ?_
              rintro e w' ⟨⟨h, he⟩ | ⟨r, a, c, h, he, hi⟩, k⟩
              · exact ⟨he, k⟩
              · rw [hr] at h; cases h
            clear cr
            go_upto_region 10 with (go_at_call 17; (with_reducible refine Calls.mono cr2 ?_); rintro e w6 ⟨rfl, k6⟩)
            have HR : Hid (rec? t0 = none) := hr
            clear hr cr2 c0
            go_wp2_with fail
            go_roundw
            case rel =>
              refine ⟨j + 1, by have := HJ.out; omega, by go_num, ?_, HK5.out.trans (k6.alloc _)⟩
              rw [HKO.out, HR.out, Option.toList_none, List.append_nil]
            case measure => have := HJ.out; simp [intOf]; omega
          | some r =>
            have cr2 : Calls Try.prog 17 #[.string ⟨t0.toArray⟩] wr fun e w' => (∃ ar car, e = .returned (.tuple #[.agg #[.int .i64 (r.k : Nat), .string ⟨r.tx.toArray⟩, .slice ar r.gs.length car, .string ⟨r.bd.toArray⟩], .int .i64 0])) ∧ Kept (fun _ => True) wr w' := by
              refine cr.mono ?_
              rintro e w' ⟨⟨h, he⟩ | ⟨r', a, c, h, he, hi⟩, k⟩
              · rw [hr] at h; cases h
              · rw [hr] at h
                cases h
                exact ⟨⟨a, c, he⟩, k⟩
            clear cr
            go_upto_region 10 with (go_at_call 17; (with_reducible refine Calls.mono cr2 ?_); rintro e w6 ⟨⟨ar, car, rfl⟩, k6⟩)
            have HR : Hid (rec? t0 = some r) := hr
            have hrk := HRK.out r hr
            have cw := with_any (w := w6.alloc (.cells #[.int .i64 (r.k : Nat), .string ⟨r.tx.toArray⟩, .slice ar r.gs.length car, .string ⟨r.bd.toArray⟩] 24)) (kol KO tx) r.k hrk
            have F6 : Four4 (w6.alloc (.cells #[.int .i64 (r.k : Nat), .string ⟨r.tx.toArray⟩, .slice ar r.gs.length car, .string ⟨r.bd.toArray⟩] 24)) w6.heap.size 24 (.int .i64 (r.k : Nat)) (.string ⟨r.tx.toArray⟩) (.slice ar r.gs.length car) (.string ⟨r.bd.toArray⟩) := heap_alloc_new w6 _
            have K6 : Hid (Kept (fun _ => True) w4 (w6.alloc (.cells #[.int .i64 (r.k : Nat), .string ⟨r.tx.toArray⟩, .slice ar r.gs.length car, .string ⟨r.bd.toArray⟩] 24))) := (HK5.out.trans k6).alloc _
            have HKS : Hid (kol (KO ++ [r]) tx = if r.tx = tx then (kol KO tx).put r.k else kol KO tx) := kol_snoc _ _ _
            clear hr cr2 c0 hrk k6
            obtain ⟨y0, y1, y2, y3⟩ := F6.cell
            clear F6
            by_cases ht : r.tx = tx
            · have HT : Hid (r.tx = tx) := ht
              have HKS2 : Hid (kol (KO ++ [r]) tx = (kol KO tx).put r.k) := by show _ = _; rw [HKS.out, if_pos ht]
              rw [ht] at y1 cw y0 y2 y3 K6 ⊢
              clear ht HKS
              go_wp2_with (go_at_call 39; (with_reducible refine Calls.mono cw ?_); rintro e w7 ⟨rfl, rfl⟩)
              go_roundw
              case rel =>
                refine ⟨j + 1, by have := HJ.out; omega, by go_num, ?_, K6.out⟩
                rw [HKO.out, HR.out, Option.toList_some]
                rw [HKS2.out]
              case measure => have := HJ.out; simp [intOf]; omega
            · have h1 : (r.tx == tx) = false := by simp [ht]
              have h2 : decide (r.tx = tx) = false := by simp [ht]
              have HKS2 : Hid (kol (KO ++ [r]) tx = kol KO tx) := by show _ = _; rw [HKS.out, if_neg ht]
              clear HKS cw
              go_wp2_with fail
              go_roundw
              case rel =>
                refine ⟨j + 1, by have := HJ.out; omega, by go_num, ?_, K6.out⟩
                rw [HKO.out, HR.out, Option.toList_some]
                rw [HKS2.out]
              case measure => have := HJ.out; simp [intOf]; omega
        · obtain rfl : j = ts.length := by omega
          have j1 : ¬ ((ts.length : Nat) : Int) < (ts.length : Int) := by omega
          rw [List.take_of_length_le (Nat.le_refl _)]
          have HRL : Hid (outR (lss ++ [ls]) = outR lss ++ ts.filterMap rec?) := by show _ = _; rw [outR_snoc, HTL.out]
          clear hj hlt
          go_wp2_with fail
          go_roundw
          case rel =>
            refine ⟨i + 1, lss ++ [ls], by have := HI.out; omega, by go_num, by rw [HRL.out], ?_, (HK.out.trans K4.out).trans HK5.out⟩
            rw [HTK.out]
            exact HD.out.snoc HDC.out
          case measure => have := HI.out; simp [intOf]; omega
    · obtain rfl : i = cs.length := by omega
      have i1 : ¬ ((cs.length : Nat) : Int) < (cs.length : Int) := by omega
      have HD2 : Hid (Dcs cs lss) := by have := HD.out; rwa [List.take_of_length_le (Nat.le_refl _)] at this
      clear hi hlt hk
      have HO : Hid (outO (kol (outR lss) tx) = outO (kol (outR lss) tx)) := rfl
      obtain ⟨K, hK⟩ : ∃ K, K = kol (outR lss) tx := ⟨_, rfl⟩
      rw [← hK]
      have HKK : Hid (K = kol (outR lss) tx) := hK
      clear hK HO
      have h3 := fun W : World => has_any (w := W) K 3 (by decide)
      have h4 := fun W : World => has_any (w := W) K 4 (by decide)
      have e3 : K.has 3 = K.c := rfl
      have e4 : K.has 4 = K.a := rfl
      rw [e3] at h3
      rw [e4] at h4
      clear e3 e4
      have HB : Hid (w.heap.size ≤ wB.heap.size) := HK.out.size
      cases hc : K.c <;> cases ha : K.a
      · rw [hc] at h3
        rw [ha] at h4
        have HE : Hid (outO K = []) := by show _ = _; simp [outO, hc, ha]
        clear hc ha
        go_wp2_with (first
          | (go_at_call 40; (with_reducible refine Calls.mono (h3 _) ?_); rintro e w7 ⟨rfl, rfl⟩)
          | (go_at_call 40; (with_reducible refine Calls.mono (h4 _) ?_); rintro e w7 ⟨rfl, rfl⟩))
        go_ret
        refine ⟨_, lss, rfl, HD2.out, ?_, HK.out⟩
        rw [← HKK.out, HE.out]
        exact Its.nil _ _
      · rw [hc] at h3
        rw [ha] at h4
        have HE : Hid (outO K = [2]) := by show _ = _; simp [outO, hc, ha]
        clear hc ha
        go_wp2_with (first
          | (go_at_call 40; (with_reducible refine Calls.mono (h3 _) ?_); rintro e w7 ⟨rfl, rfl⟩)
          | (go_at_call 40; (with_reducible refine Calls.mono (h4 _) ?_); rintro e w7 ⟨rfl, rfl⟩)
          | (at_builtin; refine wpList_append_int rfl (.tmp 62) (.tmp 63) rfl w.heap.size (.slice none 0 0) [] rfl (Its.nil _ _) (by rw [heap_size_alloc]; have := HB.out; omega) _ rfl 2 (0, 0) (heap_alloc_new _ _) (by simp) ?_; intro a9 c9 w9 h9 g9))
        go_ret
        refine ⟨_, lss, rfl, HD2.out, ?_, (HK.out.alloc _).grown g9 (fun i hi e => by simp [Value.ownBlock] at e)⟩
        rw [← HKK.out, HE.out]
        exact h9
      · rw [hc] at h3
        rw [ha] at h4
        have HE : Hid (outO K = [1]) := by show _ = _; simp [outO, hc, ha]
        clear hc ha
        go_wp2_with (first
          | (go_at_call 40; (with_reducible refine Calls.mono (h3 _) ?_); rintro e w7 ⟨rfl, rfl⟩)
          | (go_at_call 40; (with_reducible refine Calls.mono (h4 _) ?_); rintro e w7 ⟨rfl, rfl⟩)
          | (at_builtin; refine wpList_append_int rfl (.tmp 57) (.tmp 58) rfl w.heap.size (.slice none 0 0) [] rfl (Its.nil _ _) (by rw [heap_size_alloc]; have := HB.out; omega) _ rfl 1 (0, 0) (heap_alloc_new _ _) (by simp) ?_; intro a8 c8 w8 h8 g8))
        go_ret
        refine ⟨_, lss, rfl, HD2.out, ?_, (HK.out.alloc _).grown g8 (fun i hi e => by simp [Value.ownBlock] at e)⟩
        rw [← HKK.out, HE.out]
        exact h8
      · rw [hc] at h3
        rw [ha] at h4
        have HE : Hid (outO K = [1, 2]) := by show _ = _; simp [outO, hc, ha]
        clear hc ha
        go_wp2_with (first
          | (go_at_call 40; (with_reducible refine Calls.mono (h3 _) ?_); rintro e w7 ⟨rfl, rfl⟩)
          | (go_at_call 40; (with_reducible refine Calls.mono (h4 _) ?_); rintro e w7 ⟨rfl, rfl⟩)
          | (at_builtin; refine wpList_append_int rfl (.tmp 57) (.tmp 58) rfl w.heap.size (.slice none 0 0) [] rfl (Its.nil _ _) (by rw [heap_size_alloc]; have := HB.out; omega) _ rfl 1 (0, 0) (heap_alloc_new _ _) (by simp) ?_; intro a8 c8 w8 h8 g8; have K8 : Hid (Kept (fun _ => True) w w8) := (HK.out.alloc _).grown g8 (fun i hi e => by simp [Value.ownBlock] at e))
          | (at_builtin; refine wpList_append_int rfl (.tmp 62) (.tmp 63) rfl w.heap.size (.slice a8 ([] ++ [1] : List Nat).length c8) ([] ++ [1]) rfl (h8.fresh _) (by rw [heap_size_alloc]; have := K8.out.size; omega) _ rfl 2 (0, 0) (heap_alloc_new _ _) (by simp) ?_; intro a9 c9 w9 h9 g9))
        go_ret
        refine ⟨_, lss, rfl, HD2.out, ?_, (K8.out.alloc _).grown g9 (fun i hi e => by have := (World.ownsRow.lt h8 i e).1; omega)⟩
        rw [← HKK.out, HE.out]
        exact h9

end Go.Proofs.Ytbooeabmpdpgpaa
