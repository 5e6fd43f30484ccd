/-
  Outcomes.
-/
import Derived.Test.YtbooeabmpdpgpaaU16p
import Derived.Test.YtbooeabmpdpgpaaU18
namespace Go.Proofs.Ytbooeabmpdpgpaa
open Go.RowKit Go.Maps Go.Sort

/-- The links that these claims' bytes hold. -/
structure Dcs (cs : List Uc) (lss : List (List Li)) : Prop where
  len : lss.length = cs.length
  dec : ∀ i (h1 : i < lss.length) (h2 : i < cs.length), ∃ y z, IsDec cs[i].bs lss[i] y z
theorem Dcs.nil : Dcs [] [] := ⟨rfl, fun _ h => by simp at h⟩
theorem Dcs.snoc {cs : List Uc} {lss : List (List Li)} {c : Uc} {ls : List Li} {y z : Int} (h : Dcs cs lss) (hd : IsDec c.bs ls y z) : Dcs (cs ++ [c]) (lss ++ [ls]) := by
  have hl := h.len
  refine ⟨by simp [hl], fun i q1 q2 => ?_⟩
  rw [List.length_append, List.length_singleton] at q1 q2
  by_cases hi : i < lss.length
  · rw [List.getElem_append_left hi, List.getElem_append_left (by omega)]
    exact h.dec i hi (by omega)
  · have e : i = lss.length := by omega
    subst e
    simp only [List.getElem_append_right (Nat.le_refl _), List.getElem_append_right (show cs.length ≤ lss.length by omega), Nat.sub_self, List.getElem_singleton, show lss.length - cs.length = 0 by omega]
    exact ⟨y, z, hd⟩
theorem Dcs.one {cs : List Uc} {l1 l2 : List (List Li)} (h : Dcs cs l1) (k : Dcs cs l2) : l1 = l2 := by
  refine List.ext_getElem (by rw [h.len, k.len]) fun i h1 h2 => ?_
  have hc : i < cs.length := by have := h.len; omega
  obtain ⟨_, _, d1⟩ := h.dec i h1 hc
  obtain ⟨_, _, d2⟩ := k.dec i h2 hc
  exact (d1.one d2).1
/-- The records of links that can be read. -/
def rdL (ls : List Li) : List Ur := (txs ls).filterMap rec?
def outR (lss : List (List Li)) : List Ur := lss.flatMap rdL
theorem outR_snoc (lss : List (List Li)) (ls : List Li) : outR (lss ++ [ls]) = outR lss ++ rdL ls := by simp [outR]
/-- The kinds of the records of tx. -/
def kol (rs : List Ur) (tx : List UInt8) : K4 := rs.foldl (fun K r => if r.tx = tx then K.put r.k else K) K4.nil
theorem kol_snoc (rs : List Ur) (r : Ur) (tx : List UInt8) : kol (rs ++ [r]) tx = if r.tx = tx then (kol rs tx).put r.k else kol rs tx := by simp [kol]
def outO (K : K4) : List Nat := (if K.c then [1] else []) ++ (if K.a then [2] else [])
theorem filter_take {ts : List (List UInt8)} {j : Nat} (h : j < ts.length) : (ts.take (j + 1)).filterMap rec? = (ts.take j).filterMap rec? ++ (rec? ts[j]).toList := by
  rw [List.take_succ_eq_append_getElem h, List.filterMap_append]
  cases hr : rec? ts[j] <;> simp [hr]

set_option maxRecDepth 100000 in
set_option maxHeartbeats 4000000 in
theorem outcomes_any {w : World} {al : Option Addr} {cap : Nat} {cs : List Uc} (h : Cv w al cs) (hn : cs.length ≤ 200) (tx : List UInt8) :
    Calls Try.prog 14 #[.slice al cs.length cap, .string ⟨tx.toArray⟩] w fun e w' => ∃ v lss, e = .returned v ∧ Dcs cs lss ∧ Its w' w.heap.size v (outO (kol (outR lss) tx)) ∧ Kept (fun _ => True) w w' := by
  have HC : Hid (Cv w al cs) := h
  clear h
  go_enter Try.func14, Try.ntmps14
  go_wp2_with fail
  go_loopw [5, 18] (fun v t wr => ∃ (i : Nat) (lss : List (List Li)), i ≤ cs.length ∧ t = .int .i64 i ∧ v = .int .i64 ((kol (outR lss) tx).val : Nat) ∧ Dcs (cs.take i) lss ∧ Kept (fun _ => True) w wr) (fun _ t _ => cs.length - (intOf t).toNat)
  case atStart => exact ⟨0, [], Nat.zero_le _, rfl, rfl, by simpa using Dcs.nil, Kept.refl _ _⟩
  case round =>
    obtain ⟨i, lss, hi, rfl, rfl, hd, hk⟩ := hrel
    obtain ⟨wB, hwB⟩ : ∃ x, x = wr := ⟨_, rfl⟩
    rw [← hwB] at hk ⊢
    clear hwB
    have HD : Hid (Dcs (cs.take i) lss) := hd
    have HK : Hid (Kept (fun _ => True) w wB) := hk
    clear hd
    by_cases hlt : i < cs.length
    · have HCr : Hid (Cv wB al cs) := HC.out.all hk
      obtain ⟨gb, go, rfl, hgb, hgr⟩ := HCr.out.vw.row (by omega)
      have hr := hgr i hlt
      have m0 : wB.cell? ⟨gb, go + i * 2, none⟩ = some (.int .i64 cs[i].g) := hr 0 _ rfl
      have m1 : wB.cell? ⟨gb, go + i * 2 + 1, none⟩ = some (.slice cs[i].a cs[i].bs.length cs[i].c) := hr 1 _ rfl
      have hhas := HCr.out.has _ (List.getElem_mem hlt)
      have hlen := HCr.out.len _ (List.getElem_mem hlt)
      have HTK : Hid (cs.take (i + 1) = cs.take i ++ [cs[i]]) := List.take_succ_eq_append_getElem hlt
      have HI : Hid (i < cs.length) := hlt
      have i0 : (0 : Int) ≤ (i : Int) := by omega
      have i1 : (i : Int) < (cs.length : Int) := by omega
      clear hr hgr hk hi HCr
      generalize cs[i] = c at *
      clear hlt
      obtain ⟨w2, hw2⟩ : ∃ x, x = wB.alloc (.cells #[.int .i64 c.g, .slice c.a c.bs.length c.c] 27) := ⟨_, rfl⟩
      have k2 : Kept (fun _ => True) wB w2 := by rw [hw2]; exact (Kept.refl _ _).alloc _
      have F2 : Bk w2 wB.heap.size 27 [.int .i64 c.g, .slice c.a c.bs.length c.c] := by rw [hw2]; exact heap_alloc_new wB _
      have cd := decode_any (cap := c.c) (hhas.kept k2 (fun _ _ => trivial)) hlen
      obtain ⟨f0, f1⟩ := F2.two
      have K2 : Hid (Kept (fun _ => True) wB w2) := k2
      clear F2 k2 hhas hlen
      go_upto_region 5 with fail
      rw [← hw2]
      clear hw2 m0 m1
      generalize wB.heap.size = P at *
      go_upto_region 6 with (go_at_call 37; (with_reducible refine Calls.mono cd ?_); rintro e w3 ⟨ls, y, z, a3, c3, rfl, hdc, ho, k3⟩; have HDC : Hid (IsDec c.bs ls y z) := hdc; have ct := textsL_any (cap := c3) ho.view (by have := hdc.few.1; omega); have K3 : Hid (Kept (fun _ => True) wB w3) := K2.out.trans k3; have hfew : Hid (ls.length ≤ 4096 ∧ ∀ x ∈ ls, x.t.length ≤ 4000) := hdc.few; clear hdc ho k3 cd)
      have HTS : Hid (∀ t ∈ txs ls, t.length ≤ 4000) := fun t ht => by
        obtain ⟨x, hx, rfl⟩ := List.mem_map.1 ht
        exact hfew.out.2 x hx
      have HTL : Hid (rdL ls = (txs ls).filterMap rec?) := rfl
      have HTN : Hid ((txs ls).length ≤ 4096) := by show (ls.map (·.t)).length ≤ _; rw [List.length_map]; exact hfew.out.1
      generalize txs ls = ts at *
      go_wp2_with (go_at_call 38; (with_reducible refine Calls.mono ct ?_); rintro e w4 ⟨a4, c4, rfl, ht4, k4⟩; have HT4 : Hid (Txs w4 w3.heap.size (.slice a4 ts.length c4) ts) := ht4; have K4 : Hid (Kept (fun _ => True) wB w4) := K3.out.trans k4; clear ht4 k4 ct)
      go_loopw [5, 32] (fun v t w5 => ∃ j : Nat, j ≤ ts.length ∧ t = .int .i64 j ∧ v = .int .i64 ((kol (outR lss ++ (ts.take j).filterMap rec?) tx).val : Nat) ∧ Kept (fun _ => True) w4 w5) (fun _ t _ => ts.length - (intOf t).toNat)
      case atStart => exact ⟨0, Nat.zero_le _, rfl, by simp, Kept.refl _ _⟩
      case round =>
        obtain ⟨j, hj, rfl, rfl, hk5⟩ := hrel
        have HK5 : Hid (Kept (fun _ => True) w4 wr) := hk5
        by_cases hlt : j < ts.length
        · obtain ⟨ao4, cap4, e4, _, hg4⟩ := HT4.out.shape
          injection e4 with e4a e4b e4c
          subst e4a e4c
          obtain ⟨g4, rfl⟩ := hg4 (by omega)
          have c0 := (kept_cell hk5 (World.block_lt_of_cell? w4 _ (HT4.out.cell j hlt)) trivial).trans (HT4.out.cell j hlt)
          have HFT : Hid ((ts.take (j + 1)).filterMap rec? = _) := filter_take hlt
          have hsh := HTS.out _ (List.getElem_mem hlt)
          have cr := readA_any (w := wr) (bs := ts[j]) (by omega)
          have j0 : (0 : Int) ≤ (j : Int) := by omega
          have j1 : (j : Int) < (ts.length : Int) := by omega
          have HJ : Hid (j < ts.length) := hlt
          have hnb : ts.length ≤ 4096 := HTN.out
          have HRK : Hid (∀ r, rec? ts[j] = some r → (r.k = 1 ∨ r.k = 2 ∨ r.k = 3 ∨ r.k = 4)) := fun r hr => fmd_kind (rec_kind hr)
          clear hj hk5 hsh
          generalize ts[j] = t0 at *
          clear hlt
          obtain ⟨KO, hKO⟩ : ∃ KO, KO = outR lss ++ (ts.take j).filterMap rec? := ⟨_, rfl⟩
          rw [← hKO]
          have HKO : Hid (outR lss ++ (ts.take (j + 1)).filterMap rec? = KO ++ (rec? t0).toList) := by show _ = _; rw [HFT.out, ← List.append_assoc, ← hKO]
          clear hKO HFT
          cases hr : rec? t0 with
          | none =>
            have cr2 : Calls Try.prog 17 #[.string ⟨t0.toArray⟩] wr fun e w' => e = .returned (.tuple #[.agg #[.int .i64 0, .string ⟨#[]⟩, .slice none 0 0, .string ⟨#[]⟩], .int .i64 12]) ∧ Kept (fun _ => True) wr w' := by
              refine cr.mono ?_
              rintro e w' ⟨⟨h, he⟩ | ⟨r, a, c, h, he, hi⟩, k⟩
              · exact ⟨he, k⟩
              · rw [hr] at h; cases h
            clear cr
            go_upto_region 10 with (go_at_call 17; (with_reducible refine Calls.mono cr2 ?_); rintro e w6 ⟨rfl, k6⟩)
            have HR : Hid (rec? t0 = none) := hr
            clear hr cr2 c0
            go_wp2_with fail
            go_roundw
            case rel =>
              refine ⟨j + 1, by have := HJ.out; omega, by go_num, ?_, HK5.out.trans (k6.alloc _)⟩
              rw [HKO.out, HR.out, Option.toList_none, List.append_nil]
            case measure => have := HJ.out; simp [intOf]; omega
          | some r =>
            have cr2 : Calls Try.prog 17 #[.string ⟨t0.toArray⟩] wr fun e w' => (∃ ar car, e = .returned (.tuple #[.agg #[.int .i64 (r.k : Nat), .string ⟨r.tx.toArray⟩, .slice ar r.gs.length car, .string ⟨r.bd.toArray⟩], .int .i64 0])) ∧ Kept (fun _ => True) wr w' := by
              refine cr.mono ?_
              rintro e w' ⟨⟨h, he⟩ | ⟨r', a, c, h, he, hi⟩, k⟩
              · rw [hr] at h; cases h
              · rw [hr] at h
                cases h
                exact ⟨⟨a, c, he⟩, k⟩
            clear cr
            go_upto_region 10 with (go_at_call 17; (with_reducible refine Calls.mono cr2 ?_); rintro e w6 ⟨⟨ar, car, rfl⟩, k6⟩)
            have HR : Hid (rec? t0 = some r) := hr
            have hrk := HRK.out r hr
            have cw := with_any (w := w6.alloc (.cells #[.int .i64 (r.k : Nat), .string ⟨r.tx.toArray⟩, .slice ar r.gs.length car, .string ⟨r.bd.toArray⟩] 24)) (kol KO tx) r.k hrk
            have F6 : Four4 (w6.alloc (.cells #[.int .i64 (r.k : Nat), .string ⟨r.tx.toArray⟩, .slice ar r.gs.length car, .string ⟨r.bd.toArray⟩] 24)) w6.heap.size 24 (.int .i64 (r.k : Nat)) (.string ⟨r.tx.toArray⟩) (.slice ar r.gs.length car) (.string ⟨r.bd.toArray⟩) := heap_alloc_new w6 _
            have K6 : Hid (Kept (fun _ => True) w4 (w6.alloc (.cells #[.int .i64 (r.k : Nat), .string ⟨r.tx.toArray⟩, .slice ar r.gs.length car, .string ⟨r.bd.toArray⟩] 24))) := (HK5.out.trans k6).alloc _
            have HKS : Hid (kol (KO ++ [r]) tx = if r.tx = tx then (kol KO tx).put r.k else kol KO tx) := kol_snoc _ _ _
            clear hr cr2 c0 hrk k6
            obtain ⟨y0, y1, y2, y3⟩ := F6.cell
            clear F6
            by_cases ht : r.tx = tx
            · have HT : Hid (r.tx = tx) := ht
              have HKS2 : Hid (kol (KO ++ [r]) tx = (kol KO tx).put r.k) := by show _ = _; rw [HKS.out, if_pos ht]
              rw [ht] at y1 cw y0 y2 y3 K6 ⊢
              clear ht HKS
              go_wp2_with (go_at_call 39; (with_reducible refine Calls.mono cw ?_); rintro e w7 ⟨rfl, rfl⟩)
              go_roundw
              case rel =>
                refine ⟨j + 1, by have := HJ.out; omega, by go_num, ?_, K6.out⟩
                rw [HKO.out, HR.out, Option.toList_some]
                rw [HKS2.out]
              case measure => have := HJ.out; simp [intOf]; omega
            · have h1 : (r.tx == tx) = false := by simp [ht]
              have h2 : decide (r.tx = tx) = false := by simp [ht]
              have HKS2 : Hid (kol (KO ++ [r]) tx = kol KO tx) := by show _ = _; rw [HKS.out, if_neg ht]
              clear HKS cw
              go_wp2_with fail
              go_roundw
              case rel =>
                refine ⟨j + 1, by have := HJ.out; omega, by go_num, ?_, K6.out⟩
                rw [HKO.out, HR.out, Option.toList_some]
                rw [HKS2.out]
              case measure => have := HJ.out; simp [intOf]; omega
        · obtain rfl : j = ts.length := by omega
          have j1 : ¬ ((ts.length : Nat) : Int) < (ts.length : Int) := by omega
          rw [List.take_of_length_le (Nat.le_refl _)]
          have HRL : Hid (outR (lss ++ [ls]) = outR lss ++ ts.filterMap rec?) := by show _ = _; rw [outR_snoc, HTL.out]
          clear hj hlt
          go_wp2_with fail
          go_roundw
          case rel =>
            refine ⟨i + 1, lss ++ [ls], by have := HI.out; omega, by go_num, by rw [HRL.out], ?_, (HK.out.trans K4.out).trans HK5.out⟩
            rw [HTK.out]
            exact HD.out.snoc HDC.out
          case measure => have := HI.out; simp [intOf]; omega
    · obtain rfl : i = cs.length := by omega
      have i1 : ¬ ((cs.length : Nat) : Int) < (cs.length : Int) := by omega
      have HD2 : Hid (Dcs cs lss) := by have := HD.out; rwa [List.take_of_length_le (Nat.le_refl _)] at this
      clear hi hlt hk
      have HO : Hid (outO (kol (outR lss) tx) = outO (kol (outR lss) tx)) := rfl
      obtain ⟨K, hK⟩ : ∃ K, K = kol (outR lss) tx := ⟨_, rfl⟩
      rw [← hK]
      have HKK : Hid (K = kol (outR lss) tx) := hK
      clear hK HO
      have h3 := fun W : World => has_any (w := W) K 3 (by decide)
      have h4 := fun W : World => has_any (w := W) K 4 (by decide)
      have e3 : K.has 3 = K.c := rfl
      have e4 : K.has 4 = K.a := rfl
      rw [e3] at h3
      rw [e4] at h4
      clear e3 e4
      have HB : Hid (w.heap.size ≤ wB.heap.size) := HK.out.size
      cases hc : K.c <;> cases ha : K.a
      · rw [hc] at h3
        rw [ha] at h4
        have HE : Hid (outO K = []) := by show _ = _; simp [outO, hc, ha]
        clear hc ha
        go_wp2_with (first
          | (go_at_call 40; (with_reducible refine Calls.mono (h3 _) ?_); rintro e w7 ⟨rfl, rfl⟩)
          | (go_at_call 40; (with_reducible refine Calls.mono (h4 _) ?_); rintro e w7 ⟨rfl, rfl⟩))
        go_ret
        refine ⟨_, lss, rfl, HD2.out, ?_, HK.out⟩
        rw [← HKK.out, HE.out]
        exact Its.nil _ _
      · rw [hc] at h3
        rw [ha] at h4
        have HE : Hid (outO K = [2]) := by show _ = _; simp [outO, hc, ha]
        clear hc ha
        go_wp2_with (first
          | (go_at_call 40; (with_reducible refine Calls.mono (h3 _) ?_); rintro e w7 ⟨rfl, rfl⟩)
          | (go_at_call 40; (with_reducible refine Calls.mono (h4 _) ?_); rintro e w7 ⟨rfl, rfl⟩)
          | (at_builtin; refine wpList_append_int rfl (.tmp 62) (.tmp 63) rfl w.heap.size (.slice none 0 0) [] rfl (Its.nil _ _) (by rw [heap_size_alloc]; have := HB.out; omega) _ rfl 2 (0, 0) (heap_alloc_new _ _) (by simp) ?_; intro a9 c9 w9 h9 g9))
        go_ret
        refine ⟨_, lss, rfl, HD2.out, ?_, (HK.out.alloc _).grown g9 (fun i hi e => by simp [Value.ownBlock] at e)⟩
        rw [← HKK.out, HE.out]
        exact h9
      · rw [hc] at h3
        rw [ha] at h4
        have HE : Hid (outO K = [1]) := by show _ = _; simp [outO, hc, ha]
        clear hc ha
        go_wp2_with (first
          | (go_at_call 40; (with_reducible refine Calls.mono (h3 _) ?_); rintro e w7 ⟨rfl, rfl⟩)
          | (go_at_call 40; (with_reducible refine Calls.mono (h4 _) ?_); rintro e w7 ⟨rfl, rfl⟩)
          | (at_builtin; refine wpList_append_int rfl (.tmp 57) (.tmp 58) rfl w.heap.size (.slice none 0 0) [] rfl (Its.nil _ _) (by rw [heap_size_alloc]; have := HB.out; omega) _ rfl 1 (0, 0) (heap_alloc_new _ _) (by simp) ?_; intro a8 c8 w8 h8 g8))
        go_ret
        refine ⟨_, lss, rfl, HD2.out, ?_, (HK.out.alloc _).grown g8 (fun i hi e => by simp [Value.ownBlock] at e)⟩
        rw [← HKK.out, HE.out]
        exact h8
      · rw [hc] at h3
        rw [ha] at h4
        have HE : Hid (outO K = [1, 2]) := by show _ = _; simp [outO, hc, ha]
        clear hc ha
        go_wp2_with (first
          | (go_at_call 40; (with_reducible refine Calls.mono (h3 _) ?_); rintro e w7 ⟨rfl, rfl⟩)
          | (go_at_call 40; (with_reducible refine Calls.mono (h4 _) ?_); rintro e w7 ⟨rfl, rfl⟩)
          | (at_builtin; refine wpList_append_int rfl (.tmp 57) (.tmp 58) rfl w.heap.size (.slice none 0 0) [] rfl (Its.nil _ _) (by rw [heap_size_alloc]; have := HB.out; omega) _ rfl 1 (0, 0) (heap_alloc_new _ _) (by simp) ?_; intro a8 c8 w8 h8 g8; have K8 : Hid (Kept (fun _ => True) w w8) := (HK.out.alloc _).grown g8 (fun i hi e => by simp [Value.ownBlock] at e))
          | (at_builtin; refine wpList_append_int rfl (.tmp 62) (.tmp 63) rfl w.heap.size (.slice a8 ([] ++ [1] : List Nat).length c8) ([] ++ [1]) rfl (h8.fresh _) (by rw [heap_size_alloc]; have := K8.out.size; omega) _ rfl 2 (0, 0) (heap_alloc_new _ _) (by simp) ?_; intro a9 c9 w9 h9 g9))
        go_ret
        refine ⟨_, lss, rfl, HD2.out, ?_, (K8.out.alloc _).grown g9 (fun i hi e => by have := (World.ownsRow.lt h8 i e).1; omega)⟩
        rw [← HKK.out, HE.out]
        exact h9

end Go.Proofs.Ytbooeabmpdpgpaa

namespace Go.Proofs.Ytbooeabmpdpgpaa
open Go.RowKit Go.Maps Go.Sort

theorem snoc_ind {α : Type} {P : List α → Prop} (h0 : P []) (h1 : ∀ l x, P l → P (l ++ [x])) (l : List α) : P l := by
  have : ∀ m : List α, P m.reverse := fun m => by
    induction m with
    | nil => exact h0
    | cons x m ih => rw [List.reverse_cons]; exact h1 _ _ ih
  have h := this l.reverse
  rwa [List.reverse_reverse] at h
/-- What is told of tx, in words of the records. -/
structure TelIs (rs : List Ur) (tx : List UInt8) (t : Tl) : Prop where
  c : t.ks.c = true ↔ ∃ r ∈ rs, r.tx = tx ∧ r.k = 3
  a : t.ks.a = true ↔ ∃ r ∈ rs, r.tx = tx ∧ r.k = 4
  g : t.ks.c = true → ∃ r ∈ rs, r.tx = tx ∧ r.k = 3 ∧ r.gs = t.gs
  p : t.ap = true ↔ ∃ r ∈ rs, r.tx = tx ∧ r.k = 3 ∧ r.gs ≠ t.gs
theorem ex_snoc {rs : List Ur} {r : Ur} {P : Ur → Prop} : (∃ x ∈ rs ++ [r], P x) ↔ (∃ x ∈ rs, P x) ∨ P r := by
  constructor
  · rintro ⟨x, hx, h⟩
    rcases List.mem_append.1 hx with q | q
    · exact .inl ⟨x, q, h⟩
    · rw [List.mem_singleton.1 q] at h; exact .inr h
  · rintro (⟨x, hx, h⟩ | h)
    · exact ⟨x, List.mem_append_left _ hx, h⟩
    · exact ⟨r, by simp, h⟩
theorem tel_is (tx : List UInt8) (rs : List Ur) : TelIs rs tx (tel rs tx) := by
  refine snoc_ind (P := fun rs => TelIs rs tx (tel rs tx)) ?_ ?_ rs
  · exact ⟨by simp [tel, Tl.nil, K4.nil], by simp [tel, Tl.nil, K4.nil], fun h => by simp [tel, Tl.nil, K4.nil] at h, by simp [tel, Tl.nil]⟩
  · intro l r ih
    rw [tel_snoc]
    by_cases ht : r.tx = tx
    · rw [if_pos ht]
      obtain ⟨hc, ha, hg, hp⟩ := ih
      generalize tel l tx = t at *
      obtain ⟨⟨o, p, c, a⟩, gs, ap⟩ := t
      simp only at hc ha hg hp
      have nc : r.k = 3 ∧ c = false → ap = false := fun ⟨_, h⟩ => by
        cases hap : ap with
        | false => rfl
        | true =>
          obtain ⟨x, hx, h1, h2, _⟩ := hp.1 hap
          have := hc.2 ⟨x, hx, h1, h2⟩
          rw [h] at this; cases this
      refine ⟨?_, ?_, ?_, ?_⟩
      · rw [ex_snoc, ← hc]
        simp [Tl.step, K4.put, ht]
      · rw [ex_snoc, ← ha]
        simp [Tl.step, K4.put, ht]
      · intro h
        by_cases h3 : r.k = 3
        · by_cases hcf : c = false
          · exact ⟨r, by simp, ht, h3, by simp [Tl.step, h3, hcf]⟩
          · have hct : c = true := by simpa using hcf
            obtain ⟨x, hx, q⟩ := hg hct
            exact ⟨x, List.mem_append_left _ hx, by simpa [Tl.step, hct] using q⟩
        · have hct : c = true := by simpa [Tl.step, K4.put, h3] using h
          obtain ⟨x, hx, q⟩ := hg hct
          exact ⟨x, List.mem_append_left _ hx, by simpa [Tl.step, h3] using q⟩
      · rw [ex_snoc]
        by_cases h3 : r.k = 3
        · by_cases hcf : c = false
          · have := nc ⟨h3, hcf⟩
            subst this hcf
            simp only [Tl.step, h3, ht, and_self, if_true, true_and, ne_eq, not_true, or_false, Bool.false_eq_true, false_and, if_false, false_iff]
            rintro ⟨x, hx, h1, h2, _⟩
            have := hc.2 ⟨x, hx, h1, h2⟩
            cases this
          · have hct : c = true := by simpa using hcf
            subst hct
            by_cases hgs : gs = r.gs
            · subst hgs
              simp only [Tl.step, h3, ht, Bool.true_eq_false, and_false, if_false, ne_eq, not_true, or_false]
              exact hp
            · simp only [Tl.step, h3, ht, Bool.true_eq_false, and_false, if_false, true_and, ne_eq, hgs, not_false_eq_true, and_self, if_true, true_iff]
              exact .inr (fun q => hgs q.symm)
        · simp only [Tl.step, h3, false_and, if_false, and_false, or_false]
          exact hp
    · rw [if_neg ht]
      obtain ⟨hc, ha, hg, hp⟩ := ih
      have no : ∀ P : Ur → Prop, (∃ x ∈ l ++ [r], x.tx = tx ∧ P x) ↔ ∃ x ∈ l, x.tx = tx ∧ P x := fun P => by
        rw [ex_snoc]
        exact or_iff_left (fun q => ht q.1)
      refine ⟨?_, ?_, ?_, ?_⟩
      · rw [no]; exact hc
      · rw [no]; exact ha
      · intro h
        obtain ⟨x, hx, q⟩ := hg h
        exact ⟨x, List.mem_append_left _ hx, q⟩
      · rw [no]; exact hp
theorem kol_tel (rs : List Ur) (tx : List UInt8) : kol rs tx = (tel rs tx).ks := by
  refine snoc_ind (P := fun rs => kol rs tx = (tel rs tx).ks) rfl (fun l r ih => ?_) rs
  rw [kol_snoc, tel_snoc]
  by_cases h : r.tx = tx
  · rw [if_pos h, if_pos h, ih]; rfl
  · rw [if_neg h, if_neg h, ih]
theorem tel_apart (rs : List Ur) (tx : List UInt8) : (tel rs tx).ap = true ↔ ∃ r ∈ rs, ∃ r' ∈ rs, r.tx = tx ∧ r'.tx = tx ∧ r.k = 3 ∧ r'.k = 3 ∧ r.gs ≠ r'.gs := by
  have h := tel_is tx rs
  rw [h.p]
  constructor
  · rintro ⟨r, hr, h1, h2, h3⟩
    obtain ⟨r', hr', q1, q2, q3⟩ := h.g (h.c.2 ⟨r, hr, h1, h2⟩)
    exact ⟨r, hr, r', hr', h1, q1, h2, q2, by rw [q3]; exact h3⟩
  · rintro ⟨r, hr, r', hr', h1, h2, h3, h4, h5⟩
    by_cases q : r.gs = (tel rs tx).gs
    · exact ⟨r', hr', h2, h4, fun e => h5 (q.trans e.symm)⟩
    · exact ⟨r, hr, h1, h3, q⟩

/-- The entries of records. -/
def entM (rs : List Ur) : List Ue := entO (rs.map some) []
theorem entM_recs (rs : List Ur) : (entM rs).map (·.r) = rs := by
  have := entO_some rs []
  unfold entM
  simpa using this
theorem entM_mem {rs : List Ur} {x : Ue} (h : x ∈ entM rs) : x.r ∈ rs := by
  have : x.r ∈ (entM rs).map (·.r) := List.mem_map_of_mem h
  rwa [entM_recs] at this
theorem entM_of {rs : List Ur} {r : Ur} (h : r ∈ rs) : ∃ x ∈ entM rs, x.r = r := by
  have : r ∈ (entM rs).map (·.r) := by rw [entM_recs]; exact h
  obtain ⟨x, hx, e⟩ := List.mem_map.1 this
  exact ⟨x, hx, e⟩
/-- Pages of groups and records. -/
structure Pq (gr : List (Int × List Ur)) (pq : List (Up × Ua)) : Prop where
  len : pq.length = gr.length
  md : ∀ i (h1 : i < pq.length) (h2 : i < gr.length), MdP gr[i].1 gr[i].2 pq[i].1
def flat (gr : List (Int × List Ur)) : List Ur := gr.flatMap (·.2)
theorem Pq.all {gr : List (Int × List Ur)} {pq : List (Up × Ua)} (h : Pq gr pq) : allR (pq.map (·.1)) = flat gr := by
  unfold allR flat
  rw [List.flatMap_def, List.flatMap_def]
  congr 1
  refine List.ext_getElem (by simp [h.len]) fun i h1 h2 => ?_
  simp only [List.length_map] at h1 h2
  simp only [List.getElem_map]
  exact (h.md i h1 h2).recs
/-- No Commit beside an Abort of one transaction; no two Commits of one with unlike groups. -/
def Cross (rs : List Ur) : Prop := ∀ r ∈ rs, ∀ r' ∈ rs, r.tx = r'.tx → r.k = 3 → r'.k ≠ 4 ∧ (r'.k = 3 → r.gs = r'.gs)
/-- What rules 4, 6 and the end of 7 ask of one claim. -/
def Alone (p : Int × List Ur) : Prop := (∀ x ∈ entM p.2, g4 x = false ∧ g6 x = false) ∧ ∀ r ∈ p.2, r.k = 3 → (r.gs.any fun y => decide ((y : Int) = p.1)) = true
def AllNeg (pq : List (Up × Ua)) : Prop := ∀ j i, j < 7 → i < pq.length → RuleIs pq j i (-1)
theorem idx_neg {α : Type} {f : α → Bool} {xs : List α} : IdxIs f xs (-1) ↔ ∀ x ∈ xs, f x = false := by
  constructor
  · rintro (⟨_, h⟩ | ⟨k, _, e, _⟩)
    · exact h
    · omega
  · exact fun h => .inl ⟨rfl, h⟩
theorem md_neg {g : Int} {rs : List Ur} {p : Up} (m : MdP g rs p) (f : Ue → Bool) : IdxIs (fun x : Uz => f x.1) p.es (-1) ↔ ∀ x ∈ entM rs, f x = false := by
  rw [idx_map, m.es]
  exact idx_neg
theorem g5_all {rs : List Ur} (ps : List (List Ur)) (hs : ∀ p ∈ ps, ∀ r ∈ p, r ∈ rs) (hr : ∀ r ∈ rs, ∃ p ∈ ps, r ∈ p) : (∀ p ∈ ps, ∀ x ∈ entM p, g5 rs x = false) ↔ ∀ r ∈ rs, ∀ r' ∈ rs, r.tx = r'.tx → r.k = 3 → r'.k ≠ 4 := by
  constructor
  · intro h r q r' q' ht hk hk'
    obtain ⟨p, hp, hrp⟩ := hr r q
    obtain ⟨x, hx, e⟩ := entM_of hrp
    have := h p hp x hx
    have ha : (tel rs x.r.tx).ks.a = true := (tel_is x.r.tx rs).a.2 ⟨r', q', by rw [e]; exact ht.symm, hk'⟩
    unfold g5 at this
    rw [ha, e, hk] at this
    simp at this
  · intro h p hp x hx
    have hm := hs p hp _ (entM_mem hx)
    cases hg : g5 rs x with
    | false => rfl
    | true =>
      unfold g5 at hg
      simp only [Bool.or_eq_true, Bool.and_eq_true, decide_eq_true_eq] at hg
      rcases hg with ⟨h3, ha⟩ | ⟨h4, hc⟩
      · obtain ⟨r', q', t', k'⟩ := (tel_is x.r.tx rs).a.1 ha
        exact absurd k' (h _ hm _ q' t'.symm h3)
      · obtain ⟨r', q', t', k'⟩ := (tel_is x.r.tx rs).c.1 hc
        exact absurd h4 (h _ q' _ hm t' k')
theorem g7_all {rs : List Ur} (gr : List (Int × List Ur)) (hs : ∀ p ∈ gr, ∀ r ∈ p.2, r ∈ rs) (hr : ∀ r ∈ rs, ∃ p ∈ gr, r ∈ p.2) : (∀ p ∈ gr, ∀ x ∈ entM p.2, g7 rs p.1 x = false) ↔ (∀ r ∈ rs, ∀ r' ∈ rs, r.tx = r'.tx → r.k = 3 → r'.k = 3 → r.gs = r'.gs) ∧ ∀ p ∈ gr, ∀ r ∈ p.2, r.k = 3 → (r.gs.any fun y => decide ((y : Int) = p.1)) = true := by
  constructor
  · intro h
    refine ⟨fun r q r' q' ht hk hk' => ?_, fun p hp r hrp hk => ?_⟩
    · obtain ⟨p, hp, hrp⟩ := hr r q
      obtain ⟨x, hx, e⟩ := entM_of hrp
      have := h p hp x hx
      refine Classical.byContradiction fun hne => ?_
      have ha : (tel rs x.r.tx).ap = true := (tel_apart rs x.r.tx).2 ⟨r, q, r', q', by rw [e], by rw [e]; exact ht.symm, hk, hk', hne⟩
      unfold g7 at this
      rw [ha, e, hk] at this
      simp at this
    · obtain ⟨x, hx, e⟩ := entM_of hrp
      have := h p hp x hx
      unfold g7 at this
      rw [e, hk] at this
      simp only [decide_true, Bool.true_and, Bool.or_eq_false_iff, Bool.not_eq_false'] at this
      exact this.2
  · rintro ⟨h1, h2⟩ p hp x hx
    have hm := hs p hp _ (entM_mem hx)
    cases hg : g7 rs p.1 x with
    | false => rfl
    | true =>
      unfold g7 at hg
      simp only [Bool.or_eq_true, Bool.and_eq_true, decide_eq_true_eq, Bool.not_eq_true'] at hg
      obtain ⟨h3, hap | hno⟩ := hg
      · obtain ⟨r, q, r', q', t, t', k, k', hne⟩ := (tel_apart rs x.r.tx).1 hap
        exact absurd (h1 r q r' q' (t.trans t'.symm) k k') hne
      · rw [h2 p hp _ (entM_mem hx) h3] at hno
        cases hno
theorem allneg_iff {gr : List (Int × List Ur)} {pq : List (Up × Ua)} (h : Pq gr pq) : AllNeg pq ↔ (∀ i (hi : i < pq.length), IsU pq pq[i].1 (-1)) ∧ (∀ p ∈ gr, Alone p) ∧ Cross (flat gr) := by
  have hmem : ∀ p ∈ gr, ∀ r ∈ p.2, r ∈ flat gr := fun p hp r hr => List.mem_flatMap.2 ⟨p, hp, hr⟩
  have hof : ∀ r ∈ flat gr, ∃ p ∈ gr, r ∈ p.2 := fun r hr => List.mem_flatMap.1 hr
  have g5e := g5_all (rs := flat gr) (gr.map (·.2)) (fun p hp r hr => by obtain ⟨q, hq, rfl⟩ := List.mem_map.1 hp; exact hmem q hq r hr) (fun r hr => by obtain ⟨p, hp, q⟩ := hof r hr; exact ⟨p.2, List.mem_map_of_mem hp, q⟩)
  have g7e := g7_all (rs := flat gr) gr hmem hof
  have key : ∀ f : (Int × List Ur) → Ue → Bool, (∀ i (h1 : i < pq.length) (h2 : i < gr.length), IdxIs (fun x : Uz => f gr[i] x.1) pq[i].1.es (-1)) ↔ ∀ p ∈ gr, ∀ x ∈ entM p.2, f p x = false := fun f => by
    constructor
    · intro q p hp
      obtain ⟨i, hi, rfl⟩ := List.getElem_of_mem hp
      have h1 : i < pq.length := by rw [h.len]; exact hi
      exact (md_neg (h.md i h1 hi) _).1 (q i h1 hi)
    · intro q i h1 h2
      exact (md_neg (h.md i h1 h2) _).2 (q _ (List.getElem_mem h2))
  have k4 := key fun _ => g4
  have k5 := key fun _ => g5 (flat gr)
  have k6 := key fun _ => g6
  have k7 := key fun p => g7 (flat gr) p.1
  have hl := h.len
  constructor
  · intro q
    have r2 : ∀ i (hi : i < pq.length), IsU pq pq[i].1 (-1) := fun i hi => by
      obtain ⟨_, a | a | a | a | a | a | a⟩ := q 2 i (by decide) hi
      all_goals first | exact a.2 | exact absurd a.1 (by decide)
    have r3 := k4.1 fun i h1 h2 => by
      obtain ⟨_, a | a | a | a | a | a | a⟩ := q 3 i (by decide) h1
      all_goals first | exact a.2 | exact absurd a.1 (by decide)
    have r4 := k5.1 fun i h1 h2 => by
      obtain ⟨_, a | a | a | a | a | a | a⟩ := q 4 i (by decide) h1
      all_goals first | exact absurd a.1 (by decide) | (have := a.2; rw [h.all] at this; exact this)
    have r5 := k6.1 fun i h1 h2 => by
      obtain ⟨_, a | a | a | a | a | a | a⟩ := q 5 i (by decide) h1
      all_goals first | exact a.2 | exact absurd a.1 (by decide)
    have r6 := k7.1 fun i h1 h2 => by
      obtain ⟨_, a | a | a | a | a | a | a⟩ := q 6 i (by decide) h1
      all_goals first | exact absurd a.1 (by decide) | (have := a.2; rw [h.all, (h.md i h1 h2).g] at this; exact this)
    have c5 := g5e.1 (fun p hp => by obtain ⟨p', hp', rfl⟩ := List.mem_map.1 hp; exact r4 p' hp')
    obtain ⟨c7, d7⟩ := g7e.1 r6
    exact ⟨r2, fun p hp => ⟨fun x hx => ⟨r3 p hp x hx, r5 p hp x hx⟩, d7 p hp⟩, fun r q1 r' q2 ht hk => ⟨c5 r q1 r' q2 ht hk, c7 r q1 r' q2 ht hk⟩⟩
  · rintro ⟨r2, ha, hc⟩ j i hj hi
    have h2 : i < gr.length := by omega
    have m := h.md i hi h2
    refine ⟨hi, ?_⟩
    have r4 := k5.2 (fun p hp => (g5e.2 (fun r q1 r' q2 ht hk => (hc r q1 r' q2 ht hk).1)) p.2 (List.mem_map_of_mem hp)) i hi h2
    have r6 := k7.2 (g7e.2 ⟨fun r q1 r' q2 ht hk => (hc r q1 r' q2 ht hk).2, fun p hp => (ha p hp).2⟩) i hi h2
    rw [h.all]
    rw [m.g]
    have h7 : j = 0 ∨ j = 1 ∨ j = 2 ∨ j = 3 ∨ j = 4 ∨ j = 5 ∨ j = 6 := by omega
    rcases h7 with rfl | rfl | rfl | rfl | rfl | rfl | rfl
    · exact .inl ⟨rfl, m.one.symm⟩
    · exact .inr (.inl ⟨rfl, m.two.symm⟩)
    · exact .inr (.inr (.inl ⟨rfl, r2 i hi⟩))
    · exact .inr (.inr (.inr (.inl ⟨rfl, k4.2 (fun p hp x hx => ((ha p hp).1 x hx).1) i hi h2⟩)))
    · exact .inr (.inr (.inr (.inr (.inl ⟨rfl, r4⟩))))
    · exact .inr (.inr (.inr (.inr (.inr (.inl ⟨rfl, k6.2 (fun p hp x hx => ((ha p hp).1 x hx).2) i hi h2⟩)))))
    · exact .inr (.inr (.inr (.inr (.inr (.inr ⟨rfl, r6⟩)))))

end Go.Proofs.Ytbooeabmpdpgpaa
