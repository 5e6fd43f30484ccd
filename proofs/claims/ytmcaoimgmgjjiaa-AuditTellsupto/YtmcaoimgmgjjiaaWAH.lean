/-
  Texts of the proofs, 34 of 52.
-/
import Derived.Test.YtmcaoimgmgjjiaaWAG
import Derived.Test.YtmcaoimgmgjjiaaWP
namespace Go.Proofs.Ytmcaoimgmgjjiaa
open Go.RowKit

abbrev Rr := Ui × (Option Addr × Nat)
def rcell (x : Rr) : List Value := [.int .i64 x.1.k, .string ⟨x.1.tx.toArray⟩, .slice x.2.1 x.1.gs.length x.2.2, .string ⟨x.1.bd.toArray⟩]
def recS : Shp Rr := ⟨4, rcell, fun _ => rfl, fun p u hu => by
  simp only [rcell, List.mem_cons, List.not_mem_nil, or_false] at hu
  rcases hu with rfl | rfl | rfl | rfl <;> rfl⟩
theorem recT : ElT 29 24 recS.n 64 (.agg #[.int .i64 0, .string .empty, .slice none 0 0, .string .empty]) :=
  ⟨Try.underlying29, by kernel_rfl, by simp [Value.cells, recS], by decide, by decide⟩
structure Rrv (w : World) (a : Option Addr) (rs : List Rr) : Prop where
  vw : Vw recS w a rs
  gi : ∀ r ∈ rs, Gi w r.2.1 r.1.gs
theorem Rrv.all {w w' : World} {a : Option Addr} {rs : List Rr} (h : Rrv w a rs) (k : Kept (fun _ => True) w w') : Rrv w' a rs := ⟨h.vw.all k, fun r hr => (h.gi r hr).all k⟩
theorem Rrv.nil (w : World) (a : Option Addr) : Rrv w a [] := ⟨Vw.nil w a, fun _ h => by cases h⟩
theorem Try.sizeRref : (Try.prog.info? 48).map (·.size) = some 4 := by kernel_rfl
theorem Try.sizeClaim : (Try.prog.info? 27).map (·.size) = some 2 := by kernel_rfl
theorem results_rref {fn : Func} {p : Nat} (h : fn.results = #[.cell p 48]) (tmps : Array Value) (w : World) {g : Nat} {a b c d : Value} {t : TypeId} (hp : tmps.getD p undef = .pointer (some ⟨g, 0, none⟩)) (hg : Four4 w g t a b c d) :
    (results fn tmps).run Try.prog w = .ok (.agg #[a, b, c, d]) w :=
  results_cell_row h tmps w g t #[a, b, c, d] _ _ hp hg Try.underlying48 rfl Try.sizeRref
theorem results_claim {fn : Func} {p : Nat} (h : fn.results = #[.cell p 27]) (tmps : Array Value) (w : World) {g : Nat} {a b : Value} {t : TypeId} (hp : tmps.getD p undef = .pointer (some ⟨g, 0, none⟩)) (hg : Bk w g t [a, b]) :
    (results fn tmps).run Try.prog w = .ok (.agg #[a, b]) w :=
  results_cell_row h tmps w g t #[a, b] _ _ hp hg Try.underlying27 rfl Try.sizeClaim

set_option maxRecDepth 100000 in
set_option maxHeartbeats 2000000 in
theorem lrec_any (w : World) (x : Rr) : Calls Try.prog 20 #[.agg (rcell x).toArray] w fun e w' => e = .returned (.agg (rcell x).toArray) ∧ Kept (fun _ => True) w w' := by
  obtain ⟨⟨k, tx, gs, bd⟩, a, c⟩ := x
  unfold rcell
  simp only
  obtain ⟨w1, hw1⟩ : ∃ x, x = w.alloc (.cells #[.int .i64 k, .string ⟨tx.toArray⟩, .slice a gs.length c, .string ⟨bd.toArray⟩] 24) := ⟨_, rfl⟩
  have k1 : Kept (fun _ => True) w w1 := by rw [hw1]; exact (Kept.refl _ _).alloc _
  have F1 : Four4 w1 w.heap.size 24 (.int .i64 k) (.string ⟨tx.toArray⟩) (.slice a gs.length c) (.string ⟨bd.toArray⟩) := by rw [hw1]; exact heap_alloc_new w _
  have hz1 : w1.heap.size = w.heap.size + 1 := by rw [hw1, heap_size_alloc]
  obtain ⟨w2, hw2⟩ : ∃ x, x = w1.alloc (.cells #[.int .i64 0, .string ⟨#[]⟩, .slice none 0 0, .string ⟨#[]⟩] 48) := ⟨_, rfl⟩
  have k2 : Kept (fun _ => True) w1 w2 := by rw [hw2]; exact (Kept.refl _ _).alloc _
  have F2 : Four4 w2 w1.heap.size 48 (.int .i64 0) (.string ⟨#[]⟩) (.slice none 0 0) (.string ⟨#[]⟩) := by rw [hw2]; exact heap_alloc_new w1 _
  have F12 := F1.kept k2 trivial
  obtain ⟨x0, x1, x2, x3⟩ := F12.cell
  obtain ⟨z0, z1, z2, z3⟩ := F2.cell
  have zf := F2.free
  have HF2 : Hid (Four4 w2 w1.heap.size 48 (.int .i64 0) (.string ⟨#[]⟩) (.slice none 0 0) (.string ⟨#[]⟩)) := F2
  have HK : Hid (Kept (fun _ => True) w w2) := k1.trans k2
  rw [hz1] at z0 z1 z2 z3 zf HF2
  clear k1 k2 F1 F2 F12
  go_enter Try.func20, Try.ntmps20
  go_upto_region 1 with fail
  rw [← hw1, ← hw2]
  clear hw1 hw2 hz1
  obtain ⟨X, hX⟩ : ∃ X, X = w.heap.size := ⟨_, rfl⟩
  have HX : Hid (w.heap.size ≤ X + 1) := by show _ ≤ _; omega
  rw [← hX] at x0 x1 x2 x3 z0 z1 z2 z3 zf HF2 ⊢
  clear hX
  go_wp2_with fail
  refine bodyPost_ret (results_rref rfl _ _ rfl ((((HF2.out.set0 _).set1 _).set2 _).set3 _)) rfl ⟨rfl, ?_⟩
  exact kept_fresh (kept_fresh (kept_fresh (kept_fresh HK.out HX.out _) HX.out _) HX.out _) HX.out _

set_option maxRecDepth 100000 in
set_option maxHeartbeats 4000000 in
theorem claim_any {w : World} (g : Int) {al : Option Addr} {cap : Nat} {rs : List Rr} (h : Rrv w al rs) (hn : rs.length ≤ 800) (hs : ∀ r ∈ rs, r.1.tx.length + r.1.bd.length ≤ 1300000) (hg : ∀ r ∈ rs, r.1.gs.length ≤ 1000) :
    Calls Try.prog 9 #[.int .i64 g, .slice al rs.length cap] w fun e w' => ∃ a' c', e = .returned (.agg #[.int .i64 g, .slice a' (encL (mkC (rs.map fun r => encU r.1))).length c']) ∧ Ob w' w.heap.size (.slice a' (encL (mkC (rs.map fun r => encU r.1))).length c') (encL (mkC (rs.map fun r => encU r.1))) ∧ Kept (fun _ => True) w w' := by
  obtain ⟨w1, hw1⟩ : ∃ x, x = w.alloc (.cells #[.int .i64 0, .slice none 0 0] 27) := ⟨_, rfl⟩
  have k1 : Kept (fun _ => True) w w1 := by rw [hw1]; exact (Kept.refl _ _).alloc _
  have F1 : Bk w1 w.heap.size 27 [.int .i64 0, .slice none 0 0] := by rw [hw1]; exact heap_alloc_new w _
  have HF1 : Hid (Bk w1 w.heap.size 27 [.int .i64 0, .slice none 0 0]) := F1
  have HV : Hid (Rrv w1 al rs) := h.all k1
  have HK1 : Hid (Kept (fun _ => True) w w1) := k1
  have HS : Hid ((∀ r ∈ rs, r.1.tx.length + r.1.bd.length ≤ 1300000) ∧ (∀ r ∈ rs, r.1.gs.length ≤ 1000) ∧ rs.length ≤ 800) := ⟨hs, hg, hn⟩
  clear k1 F1 h hs hg
  obtain ⟨T, hT⟩ : ∃ T, T = rs.map fun r => encU r.1 := ⟨_, rfl⟩
  rw [← hT]
  have HT : Hid (T = rs.map fun r => encU r.1) := hT
  clear hT
  obtain ⟨A, hA⟩ : ∃ A, A = mkC T := ⟨_, rfl⟩
  rw [← hA]
  have HA : Hid (A = mkC T) := hA
  clear hA
  go_enter Try.func9, Try.ntmps9
  go_upto_region 1 with fail
  rw [← hw1]
  clear hw1
  go_wp2_with fail
  go_loopw [5, 6] (fun v t wr => ∃ (k : Nat) (a' : Option Addr) (c' : Nat), k ≤ rs.length ∧ t = .int .i64 k ∧ v = .slice a' k c' ∧ Txs wr w1.heap.size (.slice a' k c') (T.take k) ∧ Kept (fun _ => True) w1 wr) (fun _ t _ => rs.length - (intOf t).toNat)
  case atStart => exact ⟨0, none, 0, Nat.zero_le _, rfl, rfl, Txs.nil w1 _, Kept.refl _ _⟩
  case round =>
    obtain ⟨k, a', c', hk, rfl, rfl, ht, kr⟩ := hrel
    have HTX : Hid (Txs wr w1.heap.size (.slice a' k c') (T.take k)) := ht
    have HKr : Hid (Kept (fun _ => True) w1 wr) := kr
    have HLk : Hid ((T.take k).length = k) := by show _ = _; rw [List.length_take, HT.out, List.length_map]; omega
    clear ht
    by_cases hlt : k < rs.length
    · obtain ⟨b, off, rfl, hb, hc⟩ := (HV.out.all kr).vw.row (by omega)
      have hr := hc k hlt
      have m0 : wr.cell? ⟨b, off + k * 4, none⟩ = some (.int .i64 rs[k].1.k) := hr 0 _ rfl
      have m1 : wr.cell? ⟨b, off + k * 4 + 1, none⟩ = some (.string ⟨rs[k].1.tx.toArray⟩) := hr 1 _ rfl
      have m2 : wr.cell? ⟨b, off + k * 4 + 2, none⟩ = some (.slice rs[k].2.1 rs[k].1.gs.length rs[k].2.2) := hr 2 _ rfl
      have m3 : wr.cell? ⟨b, off + k * 4 + 3, none⟩ = some (.string ⟨rs[k].1.bd.toArray⟩) := hr 3 _ rfl
      have HGi : Hid (Gi wr rs[k].2.1 rs[k].1.gs) := (HV.out.all kr).gi _ (List.getElem_mem hlt)
      have HTK : Hid (T.take (k + 1) = T.take k ++ [encU rs[k].1]) := by
        show _ = _
        rw [HT.out, List.take_succ_eq_append_getElem (by rw [List.length_map]; exact hlt), List.getElem_map]
      have HI : Hid (k < rs.length) := hlt
      have l1 := HS.out.1 _ (List.getElem_mem hlt)
      have l2 := HS.out.2.1 _ (List.getElem_mem hlt)
      have i0 : (0 : Int) ≤ (k : Int) := by omega
      have i1 : (k : Int) < (rs.length : Int) := by omega
      clear hr hc kr hk
      generalize rs[k] = x at *
      clear hlt
      have CR := lrec_any wr x
      have CT : ∀ W, Kept (fun _ => True) wr W → Calls Try.prog 19 #[.agg (rcell x).toArray] W fun e w' => e = .returned (.string ⟨(encU x.1).toArray⟩) ∧ Kept (fun _ => True) W w' := fun W q => rtextR_any (r := x.1) (ao := x.2.1) (cap := x.2.2) (HGi.out.all q) (by omega) (by omega) (by omega)
      unfold rcell at CR CT
      generalize encU x.1 = s at *
      go_wp2_with (first
        | (go_at_call 20; (with_reducible refine Calls.mono CR ?_); rintro e w2 ⟨rfl, k2⟩)
        | (go_at_call 19; (with_reducible refine Calls.mono (CT _ k2) ?_); rintro e w3 ⟨rfl, k3⟩; have K3 : Hid (Kept (fun _ => True) wr w3) := k2.trans k3)
        | (at_builtin; refine wpList_append_text rfl (.tmp 13) (.tmp 20) rfl w1.heap.size (.slice a' k c') (T.take k) rfl (HTX.out.kept (K3.out.alloc _) (fun _ _ => trivial)) (by rw [heap_size_alloc]; have := HKr.out.size; have := K3.out.size; omega) _ rfl s (0, 0) (heap_alloc_new w3 _) (by rw [HLk.out]; have := HI.out; have := HS.out.2.2; omega) ?_; intro a4 c4 w4 ht4 hg4 hl4))
      go_roundw
      case rel =>
        rw [HLk.out] at ht4
        refine ⟨k + 1, a4, c4, by have := HI.out; omega, by go_num, by first | rfl | rw [HLk.out] | rw [show min k T.length = k from by have := HLk.out; rwa [List.length_take] at this], by rw [HTK.out]; exact ht4, ?_⟩
        exact ((HKr.out.trans K3.out).alloc _).grown hg4 (fun i hi e => by have := (World.ownsRow.lt HTX.out i e).1; omega)
      case measure => have := HI.out; simp [intOf]; omega
    · obtain rfl : k = rs.length := by omega
      have i1 : ¬ ((rs.length : Nat) : Int) < (rs.length : Int) := by omega
      have lT : T.length = rs.length := by rw [HT.out, List.length_map]
      have lA : (mkC T).length = rs.length := by rw [mkC_length, lT]
      have sT : ∀ t ∈ T, t.length ≤ 1400000 := fun t q => by
        rw [HT.out] at q
        obtain ⟨r, hr, rfl⟩ := List.mem_map.1 q
        have := HS.out.1 r hr
        have := HS.out.2.1 r hr
        unfold encU
        simp only [List.length_append, enc_length, encGi_len]
        omega
      have tv : Tv wr a' T := by
        have := HTX.out
        rw [List.take_of_length_le (by omega)] at this
        exact this.tv
      have CM := rmake_any (cap := c') tv (by omega) (fun t q => by have := sT t q; omega)
      have wA : wgt (mkC T) ≤ 10000000000 := by
        have h1 := wgt_few (M := 1400000) (mkC T) (fun x hx => by
          have : x.t ∈ txs (mkC T) := List.mem_map.2 ⟨x, hx, rfl⟩
          rw [txs_mkC] at this
          exact sT _ this)
        rw [lA] at h1
        have h2 := Nat.mul_le_mul_right (1400000 + 36) (show rs.length ≤ 800 by omega)
        omega
      rw [← HA.out] at CM wA lA
      rw [lT, lA] at CM
      have CE : ∀ (W : World) (a : Option Addr) (c : Nat), Lv W a A → Calls Try.prog 25 #[.slice a rs.length c] W fun e w' => ∃ a' c', e = .returned (.slice a' (encL A).length c') ∧ Ob w' W.heap.size (.slice a' (encL A).length c') (encL A) ∧ Kept (fun _ => True) W w' := fun W a c hv => by
        have := rencode_any (cap := c) hv (by omega) (by omega)
        rwa [lA] at this
      obtain ⟨wo, hwo⟩ : ∃ x, x = wr := ⟨_, rfl⟩
      rw [← hwo] at CM HKr ⊢
      clear hwo lT sT tv wA HTX HLk hk hlt kr
      go_wp2_with (first
        | (go_at_call 26; (with_reducible refine Calls.mono CM ?_); rintro e w2 ⟨a2, c2, rfl, h2, k2⟩)
        | (go_at_call 25; (with_reducible refine Calls.mono (CE _ a2 c2 h2.view) ?_); rintro e w3 ⟨a3, c3, rfl, h3, k3⟩; have K3 : Hid (Kept (fun _ => True) w1 w3) := (HKr.out.trans k2).trans k3; have hb3 : Hid (w1.heap.size ≤ w2.heap.size) := (HKr.out.trans k2).size; have F3 := HF1.out.kept K3.out trivial; obtain ⟨f0, f1⟩ := F3.two; have ff := F3.free))
      have HX : Hid (w.heap.size < w1.heap.size) := HF1.out.lt
      refine bodyPost_ret (results_claim rfl _ _ rfl ((F3.set 0 _).set 1 _)) rfl ⟨a3, c3, rfl, ?_, ?_⟩
      · have hne : ∀ x, (Value.slice a3 (encL A).length c3).ownBlock = some x → x ≠ w.heap.size := fun x hx => by have := (World.ownsRow.lt h3 x hx).1; have := HX.out; have := hb3.out; omega
        exact World.ownsRow.mono (ownL_kept (ownL_kept h3 kept_set hne) kept_set hne) (by have := HX.out; have := hb3.out; omega)
      · exact kept_fresh (kept_fresh (HK1.out.trans K3.out) (Nat.le_refl _) _) (Nat.le_refl _) _

end Go.Proofs.Ytmcaoimgmgjjiaa

namespace Go.Proofs.Ytmcaoimgmgjjiaa
open Go.RowKit Go.Maps Go.Sort

structure Dcs (cs : List Uc) (lss : List (List Li)) : Prop where
  len : lss.length = cs.length
  dec : ∀ i (h1 : i < lss.length) (h2 : i < cs.length), ∃ y z, IsDec cs[i].bs lss[i] y z
theorem Dcs.nil : Dcs [] [] := ⟨rfl, fun _ h => by simp at h⟩
theorem Dcs.snoc {cs : List Uc} {lss : List (List Li)} {c : Uc} {ls : List Li} {y z : Int} (h : Dcs cs lss) (hd : IsDec c.bs ls y z) : Dcs (cs ++ [c]) (lss ++ [ls]) := by
  have hl := h.len
  refine ⟨by simp [hl], fun i q1 q2 => ?_⟩
  rw [List.length_append, List.length_singleton] at q1 q2
  by_cases hi : i < lss.length
  · rw [List.getElem_append_left hi, List.getElem_append_left (by omega)]
    exact h.dec i hi (by omega)
  · have e : i = lss.length := by omega
    subst e
    simp only [List.getElem_append_right (Nat.le_refl _), List.getElem_append_right (show cs.length ≤ lss.length by omega), Nat.sub_self, List.getElem_singleton, show lss.length - cs.length = 0 by omega]
    exact ⟨y, z, hd⟩
theorem Dcs.one {cs : List Uc} {l1 l2 : List (List Li)} (h : Dcs cs l1) (k : Dcs cs l2) : l1 = l2 := by
  refine List.ext_getElem (by rw [h.len, k.len]) fun i h1 h2 => ?_
  have hc : i < cs.length := by have := h.len; omega
  obtain ⟨_, _, d1⟩ := h.dec i h1 hc
  obtain ⟨_, _, d2⟩ := k.dec i h2 hc
  exact (d1.one d2).1
def rdL (ls : List Li) : List Ur := (txs ls).filterMap rec?
def outR (lss : List (List Li)) : List Ur := lss.flatMap rdL
theorem outR_snoc (lss : List (List Li)) (ls : List Li) : outR (lss ++ [ls]) = outR lss ++ rdL ls := by simp [outR]
def kol (rs : List Ur) (tx : List UInt8) : K4 := rs.foldl (fun K r => if r.tx = tx then K.put r.k else K) K4.nil
theorem kol_snoc (rs : List Ur) (r : Ur) (tx : List UInt8) : kol (rs ++ [r]) tx = if r.tx = tx then (kol rs tx).put r.k else kol rs tx := by simp [kol]
def outO (K : K4) : List Nat := (if K.c then [1] else []) ++ (if K.a then [2] else [])
theorem filter_take {ts : List (List UInt8)} {j : Nat} (h : j < ts.length) : (ts.take (j + 1)).filterMap rec? = (ts.take j).filterMap rec? ++ (rec? ts[j]).toList := by
  rw [List.take_succ_eq_append_getElem h, List.filterMap_append]
  cases hr : rec? ts[j] <;> simp [hr]

set_option maxRecDepth 100000 in
set_option maxHeartbeats 4000000 in
theorem outcomes_any {w : World} {al : Option Addr} {cap : Nat} {cs : List Uc} (h : Cv w al cs) (hn : cs.length ≤ 200) (tx : List UInt8) :
    Calls Try.prog 14 #[.slice al cs.length cap, .string ⟨tx.toArray⟩] w fun e w' => ∃ v lss, e = .returned v ∧ Dcs cs lss ∧ Its w' w.heap.size v (outO (kol (outR lss) tx)) ∧ Kept (fun _ => True) w w' := by
  have HC : Hid (Cv w al cs) := h
  clear h
  go_enter Try.func14, Try.ntmps14
  go_wp2_with fail
  go_loopw [5, 18] (fun v t wr => ∃ (i : Nat) (lss : List (List Li)), i ≤ cs.length ∧ t = .int .i64 i ∧ v = .int .i64 ((kol (outR lss) tx).val : Nat) ∧ Dcs (cs.take i) lss ∧ Kept (fun _ => True) w wr) (fun _ t _ => cs.length - (intOf t).toNat)
  case atStart => exact ⟨0, [], Nat.zero_le _, rfl, rfl, by simpa using Dcs.nil, Kept.refl _ _⟩
  case round =>
    obtain ⟨i, lss, hi, rfl, rfl, hd, hk⟩ := hrel
    obtain ⟨wB, hwB⟩ : ∃ x, x = wr := ⟨_, rfl⟩
    rw [← hwB] at hk ⊢
    clear hwB
    have HD : Hid (Dcs (cs.take i) lss) := hd
    have HK : Hid (Kept (fun _ => True) w wB) := hk
    clear hd
    by_cases hlt : i < cs.length
    · have HCr : Hid (Cv wB al cs) := HC.out.all hk
      obtain ⟨gb, go, rfl, hgb, hgr⟩ := HCr.out.vw.row (by omega)
      have hr := hgr i hlt
      have m0 : wB.cell? ⟨gb, go + i * 2, none⟩ = some (.int .i64 cs[i].g) := hr 0 _ rfl
      have m1 : wB.cell? ⟨gb, go + i * 2 + 1, none⟩ = some (.slice cs[i].a cs[i].bs.length cs[i].c) := hr 1 _ rfl
      have hhas := HCr.out.has _ (List.getElem_mem hlt)
      have hlen := HCr.out.len _ (List.getElem_mem hlt)
      have HTK : Hid (cs.take (i + 1) = cs.take i ++ [cs[i]]) := List.take_succ_eq_append_getElem hlt
      have HI : Hid (i < cs.length) := hlt
      have i0 : (0 : Int) ≤ (i : Int) := by omega
      have i1 : (i : Int) < (cs.length : Int) := by omega
      clear hr hgr hk hi HCr
      generalize cs[i] = c at *
      clear hlt
      obtain ⟨w2, hw2⟩ : ∃ x, x = wB.alloc (.cells #[.int .i64 c.g, .slice c.a c.bs.length c.c] 27) := ⟨_, rfl⟩
      have k2 : Kept (fun _ => True) wB w2 := by rw [hw2]; exact (Kept.refl _ _).alloc _
      have F2 : Bk w2 wB.heap.size 27 [.int .i64 c.g, .slice c.a c.bs.length c.c] := by rw [hw2]; exact heap_alloc_new wB _
      have cd := decode_any (cap := c.c) (hhas.kept k2 (fun _ _ => trivial)) hlen
      obtain ⟨f0, f1⟩ := F2.two
      have K2 : Hid (Kept (fun _ => True) wB w2) := k2
      clear F2 k2 hhas hlen
      go_upto_region 5 with fail
      rw [← hw2]
      clear hw2 m0 m1
      generalize wB.heap.size = P at *
      go_upto_region 6 with (go_at_call 37; (with_reducible refine Calls.mono cd ?_); rintro e w3 ⟨ls, y, z, a3, c3, rfl, hdc, ho, k3⟩; have HDC : Hid (IsDec c.bs ls y z) := hdc; have ct := textsL_any (cap := c3) ho.view (by have := hdc.few.1; omega); have K3 : Hid (Kept (fun _ => True) wB w3) := K2.out.trans k3; have hfew : Hid (ls.length ≤ 4096 ∧ ∀ x ∈ ls, x.t.length ≤ 4000) := hdc.few; clear hdc ho k3 cd)
      have HTS : Hid (∀ t ∈ txs ls, t.length ≤ 4000) := fun t ht => by
        obtain ⟨x, hx, rfl⟩ := List.mem_map.1 ht
        exact hfew.out.2 x hx
      have HTL : Hid (rdL ls = (txs ls).filterMap rec?) := rfl
      have HTN : Hid ((txs ls).length ≤ 4096) := by show (ls.map (·.t)).length ≤ _; rw [List.length_map]; exact hfew.out.1
      generalize txs ls = ts at *
      go_wp2_with (go_at_call 38; (with_reducible refine Calls.mono ct ?_); rintro e w4 ⟨a4, c4, rfl, ht4, k4⟩; have HT4 : Hid (Txs w4 w3.heap.size (.slice a4 ts.length c4) ts) := ht4; have K4 : Hid (Kept (fun _ => True) wB w4) := K3.out.trans k4; clear ht4 k4 ct)
      go_loopw [5, 32] (fun v t w5 => ∃ j : Nat, j ≤ ts.length ∧ t = .int .i64 j ∧ v = .int .i64 ((kol (outR lss ++ (ts.take j).filterMap rec?) tx).val : Nat) ∧ Kept (fun _ => True) w4 w5) (fun _ t _ => ts.length - (intOf t).toNat)
      case atStart => exact ⟨0, Nat.zero_le _, rfl, by simp, Kept.refl _ _⟩
      case round =>
        obtain ⟨j, hj, rfl, rfl, hk5⟩ := hrel
        have HK5 : Hid (Kept (fun _ => True) w4 wr) := hk5
        by_cases hlt : j < ts.length
        · obtain ⟨ao4, cap4, e4, _, hg4⟩ := HT4.out.shape
          injection e4 with e4a e4b e4c
          subst e4a e4c
          obtain ⟨g4, rfl⟩ := hg4 (by omega)
          have c0 := (kept_cell hk5 (World.block_lt_of_cell? w4 _ (HT4.out.cell j hlt)) trivial).trans (HT4.out.cell j hlt)
          have HFT : Hid ((ts.take (j + 1)).filterMap rec? = _) := filter_take hlt
          have hsh := HTS.out _ (List.getElem_mem hlt)
          have cr := readA_any (w := wr) (bs := ts[j]) (by omega)
          have j0 : (0 : Int) ≤ (j : Int) := by omega
          have j1 : (j : Int) < (ts.length : Int) := by omega
          have HJ : Hid (j < ts.length) := hlt
          have hnb : ts.length ≤ 4096 := HTN.out
          have HRK : Hid (∀ r, rec? ts[j] = some r → (r.k = 1 ∨ r.k = 2 ∨ r.k = 3 ∨ r.k = 4)) := fun r hr => fmd_kind (rec_kind hr)
          clear hj hk5 hsh
          generalize ts[j] = t0 at *
          clear hlt
          obtain ⟨KO, hKO⟩ : ∃ KO, KO = outR lss ++ (ts.take j).filterMap rec? := ⟨_, rfl⟩
          rw [← hKO]
          have HKO : Hid (outR lss ++ (ts.take (j + 1)).filterMap rec? = KO ++ (rec? t0).toList) := by show _ = _; rw [HFT.out, ← List.append_assoc, ← hKO]
          clear hKO HFT
          cases hr : rec? t0 with
          | none =>
            have cr2 : Calls Try.prog 17 #[.string ⟨t0.toArray⟩] wr fun e w' => e = .returned (.tuple #[.agg #[.int .i64 0, .string ⟨#[]⟩, .slice none 0 0, .string ⟨#[]⟩], .int .i64 12]) ∧ Kept (fun _ => True) wr w' := by
              refine cr.mono ?_
              rintro e w' ⟨⟨h, he⟩ | ⟨r, a, c, h, he, hi⟩, k⟩
              · exact ⟨he, k⟩
              · rw [hr] at h; cases h
            clear cr
            go_upto_region 10 with (go_at_call 17; (with_reducible refine Calls.mono cr2 ?_); rintro e w6 ⟨rfl, k6⟩)
            have HR : Hid (rec? t0 = none) := hr
            clear hr cr2 c0
            go_wp2_with fail
            go_roundw
            case rel =>
              refine ⟨j + 1, by have := HJ.out; omega, by go_num, ?_, HK5.out.trans (k6.alloc _)⟩
              rw [HKO.out, HR.out, Option.toList_none, List.append_nil]
            case measure => have := HJ.out; simp [intOf]; omega
          | some r =>
            have cr2 : Calls Try.prog 17 #[.string ⟨t0.toArray⟩] wr fun e w' => (∃ ar car, e = .returned (.tuple #[.agg #[.int .i64 (r.k : Nat), .string ⟨r.tx.toArray⟩, .slice ar r.gs.length car, .string ⟨r.bd.toArray⟩], .int .i64 0])) ∧ Kept (fun _ => True) wr w' := by
              refine cr.mono ?_
              rintro e w' ⟨⟨h, he⟩ | ⟨r', a, c, h, he, hi⟩, k⟩
              · rw [hr] at h; cases h
              · rw [hr] at h
                cases h
                exact ⟨⟨a, c, he⟩, k⟩
            clear cr
            go_upto_region 10 with (go_at_call 17; (with_reducible refine Calls.mono cr2 ?_); rintro e w6 ⟨⟨ar, car, rfl⟩, k6⟩)
            have HR : Hid (rec? t0 = some r) := hr
            have hrk := HRK.out r hr
            have cw := with_any (w := w6.alloc (.cells #[.int .i64 (r.k : Nat), .string ⟨r.tx.toArray⟩, .slice ar r.gs.length car, .string ⟨r.bd.toArray⟩] 24)) (kol KO tx) r.k hrk
            have F6 : Four4 (w6.alloc (.cells #[.int .i64 (r.k : Nat), .string ⟨r.tx.toArray⟩, .slice ar r.gs.length car, .string ⟨r.bd.toArray⟩] 24)) w6.heap.size 24 (.int .i64 (r.k : Nat)) (.string ⟨r.tx.toArray⟩) (.slice ar r.gs.length car) (.string ⟨r.bd.toArray⟩) := heap_alloc_new w6 _
            have K6 : Hid (Kept (fun _ => True) w4 (w6.alloc (.cells #[.int .i64 (r.k : Nat), .string ⟨r.tx.toArray⟩, .slice ar r.gs.length car, .string ⟨r.bd.toArray⟩] 24))) := (HK5.out.trans k6).alloc _
            have HKS : Hid (kol (KO ++ [r]) tx = if r.tx = tx then (kol KO tx).put r.k else kol KO tx) := kol_snoc _ _ _
            clear hr cr2 c0 hrk k6
            obtain ⟨y0, y1, y2, y3⟩ := F6.cell
            clear F6
            by_cases ht : r.tx = tx
            · have HT : Hid (r.tx = tx) := ht
              have HKS2 : Hid (kol (KO ++ [r]) tx = (kol KO tx).put r.k) := by show _ = _; rw [HKS.out, if_pos ht]
              rw [ht] at y1 cw y0 y2 y3 K6 ⊢
              clear ht HKS
              go_wp2_with (go_at_call 39; (with_reducible refine Calls.mono cw ?_); rintro e w7 ⟨rfl, rfl⟩)
              go_roundw
              case rel =>
                refine ⟨j + 1, by have := HJ.out; omega, by go_num, ?_, K6.out⟩
                rw [HKO.out, HR.out, Option.toList_some]
                rw [HKS2.out]
              case measure => have := HJ.out; simp [intOf]; omega
            · have h1 : (r.tx == tx) = false := by simp [ht]
              have h2 : decide (r.tx = tx) = false := by simp [ht]
              have HKS2 : Hid (kol (KO ++ [r]) tx = kol KO tx) := by show _ = _; rw [HKS.out, if_neg ht]
              clear HKS cw
              go_wp2_with fail
              go_roundw
              case rel =>
                refine ⟨j + 1, by have := HJ.out; omega, by go_num, ?_, K6.out⟩
                rw [HKO.out, HR.out, Option.toList_some]
                rw [HKS2.out]
              case measure => have := HJ.out; simp [intOf]; omega
        · obtain rfl : j = ts.length := by omega
          have j1 : ¬ ((ts.length : Nat) : Int) < (ts.length : Int) := by omega
          rw [List.take_of_length_le (Nat.le_refl _)]
          have HRL : Hid (outR (lss ++ [ls]) = outR lss ++ ts.filterMap rec?) := by show _ = _; rw [outR_snoc, HTL.out]
          clear hj hlt
          go_wp2_with fail
          go_roundw
          case rel =>
            refine ⟨i + 1, lss ++ [ls], by have := HI.out; omega, by go_num, by rw [HRL.out], ?_, (HK.out.trans K4.out).trans HK5.out⟩
            rw [HTK.out]
            exact HD.out.snoc HDC.out
          case measure => have := HI.out; simp [intOf]; omega
    · obtain rfl : i = cs.length := by omega
      have i1 : ¬ ((cs.length : Nat) : Int) < (cs.length : Int) := by omega
      have HD2 : Hid (Dcs cs lss) := by have := HD.out; rwa [List.take_of_length_le (Nat.le_refl _)] at this
      clear hi hlt hk
      have HO : Hid (outO (kol (outR lss) tx) = outO (kol (outR lss) tx)) := rfl
      obtain ⟨K, hK⟩ : ∃ K, K = kol (outR lss) tx := ⟨_, rfl⟩
      rw [← hK]
      have HKK : Hid (K = kol (outR lss) tx) := hK
      clear hK HO
      have h3 := fun W : World => has_any (w := W) K 3 (by decide)
      have h4 := fun W : World => has_any (w := W) K 4 (by decide)
      have e3 : K.has 3 = K.c := rfl
      have e4 : K.has 4 = K.a := rfl
      rw [e3] at h3
      rw [e4] at h4
      clear e3 e4
      have HB : Hid (w.heap.size ≤ wB.heap.size) := HK.out.size
      cases hc : K.c <;> cases ha : K.a
      · rw [hc] at h3
        rw [ha] at h4
        have HE : Hid (outO K = []) := by show _ = _; simp [outO, hc, ha]
        clear hc ha
        go_wp2_with (first
          | (go_at_call 40; (with_reducible refine Calls.mono (h3 _) ?_); rintro e w7 ⟨rfl, rfl⟩)
          | (go_at_call 40; (with_reducible refine Calls.mono (h4 _) ?_); rintro e w7 ⟨rfl, rfl⟩))
        go_ret
        refine ⟨_, lss, rfl, HD2.out, ?_, HK.out⟩
        rw [← HKK.out, HE.out]
        exact Its.nil _ _
      · rw [hc] at h3
        rw [ha] at h4
        have HE : Hid (outO K = [2]) := by show _ = _; simp [outO, hc, ha]
        clear hc ha
        go_wp2_with (first
          | (go_at_call 40; (with_reducible refine Calls.mono (h3 _) ?_); rintro e w7 ⟨rfl, rfl⟩)
          | (go_at_call 40; (with_reducible refine Calls.mono (h4 _) ?_); rintro e w7 ⟨rfl, rfl⟩)
          | (at_builtin; refine wpList_append_int rfl (.tmp 62) (.tmp 63) rfl w.heap.size (.slice none 0 0) [] rfl (Its.nil _ _) (by rw [heap_size_alloc]; have := HB.out; omega) _ rfl 2 (0, 0) (heap_alloc_new _ _) (by simp) ?_; intro a9 c9 w9 h9 g9))
        go_ret
        refine ⟨_, lss, rfl, HD2.out, ?_, (HK.out.alloc _).grown g9 (fun i hi e => by simp [Value.ownBlock] at e)⟩
        rw [← HKK.out, HE.out]
        exact h9
      · rw [hc] at h3
        rw [ha] at h4
        have HE : Hid (outO K = [1]) := by show _ = _; simp [outO, hc, ha]
        clear hc ha
        go_wp2_with (first
          | (go_at_call 40; (with_reducible refine Calls.mono (h3 _) ?_); rintro e w7 ⟨rfl, rfl⟩)
          | (go_at_call 40; (with_reducible refine Calls.mono (h4 _) ?_); rintro e w7 ⟨rfl, rfl⟩)
          | (at_builtin; refine wpList_append_int rfl (.tmp 57) (.tmp 58) rfl w.heap.size (.slice none 0 0) [] rfl (Its.nil _ _) (by rw [heap_size_alloc]; have := HB.out; omega) _ rfl 1 (0, 0) (heap_alloc_new _ _) (by simp) ?_; intro a8 c8 w8 h8 g8))
        go_ret
        refine ⟨_, lss, rfl, HD2.out, ?_, (HK.out.alloc _).grown g8 (fun i hi e => by simp [Value.ownBlock] at e)⟩
        rw [← HKK.out, HE.out]
        exact h8
      · rw [hc] at h3
        rw [ha] at h4
        have HE : Hid (outO K = [1, 2]) := by show _ = _; simp [outO, hc, ha]
        clear hc ha
        go_wp2_with (first
          | (go_at_call 40; (with_reducible refine Calls.mono (h3 _) ?_); rintro e w7 ⟨rfl, rfl⟩)
          | (go_at_call 40; (with_reducible refine Calls.mono (h4 _) ?_); rintro e w7 ⟨rfl, rfl⟩)
          | (at_builtin; refine wpList_append_int rfl (.tmp 57) (.tmp 58) rfl w.heap.size (.slice none 0 0) [] rfl (Its.nil _ _) (by rw [heap_size_alloc]; have := HB.out; omega) _ rfl 1 (0, 0) (heap_alloc_new _ _) (by simp) ?_; intro a8 c8 w8 h8 g8; have K8 : Hid (Kept (fun _ => True) w w8) := (HK.out.alloc _).grown g8 (fun i hi e => by simp [Value.ownBlock] at e))
          | (at_builtin; refine wpList_append_int rfl (.tmp 62) (.tmp 63) rfl w.heap.size (.slice a8 ([] ++ [1] : List Nat).length c8) ([] ++ [1]) rfl (h8.fresh _) (by rw [heap_size_alloc]; have := K8.out.size; omega) _ rfl 2 (0, 0) (heap_alloc_new _ _) (by simp) ?_; intro a9 c9 w9 h9 g9))
        go_ret
        refine ⟨_, lss, rfl, HD2.out, ?_, (K8.out.alloc _).grown g9 (fun i hi e => by have := (World.ownsRow.lt h8 i e).1; omega)⟩
        rw [← HKK.out, HE.out]
        exact h9

end Go.Proofs.Ytmcaoimgmgjjiaa
