/-
  Texts of the proofs, 48 of 52.
-/
import Derived.Test.YtmcaoimgmgjjiaaWAH
import Derived.Test.YtmcaoimgmgjjiaaWAL
import Derived.Test.YtmcaoimgmgjjiaaWAU
import Derived.Test.YtmcaoimgmgjjiaaWAS
import Derived.Test.YtmcaoimgmgjjiaaWE
namespace Go.Proofs.Ytmcaoimgmgjjiaa
open Go.RowKit Go.Maps Go.Sort

theorem IsDec.zero {bs : List UInt8} {xs : List Li} {y z : Int} (h : IsDec bs xs y z) (h0 : 0 < xs.length) : y = 0 := by
  by_cases e : ((rdAll bs).2.end_ bs).1 = 0
  · obtain ⟨n, i, h1, h2⟩ := h.yes e
    rcases Nat.lt_or_ge n (rdAll bs).1.length with hl | hl
    · rw [(h1 hl).1] at h0; simp at h0
    · exact (h2 (Nat.le_antisymm i.le hl)).2.1
  · rw [(h.no e).1] at h0; simp at h0
theorem rdL_take {ls : List Li} {j : Nat} (h : j < ls.length) : (txs (ls.take (j + 1))).filterMap rec? = (txs (ls.take j)).filterMap rec? ++ (rec? ls[j].t).toList := by
  have e : ∀ n, txs (ls.take n) = (txs ls).take n := fun n => by simp [txs, List.map_take]
  rw [e, e, filter_take (by rw [txs_length]; exact h), txs_get ls j h]

set_option maxRecDepth 100000 in
set_option maxHeartbeats 4000000 in
theorem routcomes_any {w : World} {al : Option Addr} {cap : Nat} {cs : List Uc} (h : Cv w al cs) (hn : cs.length ≤ 200) (hcap : ∀ c ∈ cs, (c.a = none → c.c = 0) ∧ c.bs.length ≤ c.c ∧ c.bs.length ≤ 2000000) (tx : List UInt8) :
    Calls Try.prog 15 #[.slice al cs.length cap, .string ⟨tx.toArray⟩] w fun e w' => ∃ v lss, e = .returned v ∧ Dcs cs lss ∧ Its w' w.heap.size v (outO (kol (outR lss) tx)) ∧ Kept (fun _ => True) w w' := by
  have HC : Hid (Cv w al cs) := h
  clear h
  go_enter Try.func15, Try.ntmps15
  go_wp2_with fail
  go_loopw [5, 6, 7] (fun v u t wr => ∃ (i : Nat) (lss : List (List Li)), i ≤ cs.length ∧ t = .int .i64 i ∧ v = .bool (kol (outR lss) tx).c ∧ u = .bool (kol (outR lss) tx).a ∧ Dcs (cs.take i) lss ∧ Kept (fun _ => True) w wr) (fun _ _ t _ => cs.length - (intOf t).toNat)
  case atStart => exact ⟨0, [], Nat.zero_le _, rfl, rfl, rfl, by simpa using Dcs.nil, Kept.refl _ _⟩
  case round =>
    obtain ⟨i, lss, hi, rfl, rfl, rfl, hd, hk⟩ := hrel
    obtain ⟨wB, hwB⟩ : ∃ x, x = wr := ⟨_, rfl⟩
    rw [← hwB] at hk ⊢
    clear hwB
    have HD : Hid (Dcs (cs.take i) lss) := hd
    have HK : Hid (Kept (fun _ => True) w wB) := hk
    clear hd
    by_cases hlt : i < cs.length
    · have HCr : Hid (Cv wB al cs) := HC.out.all hk
      obtain ⟨gb, go, rfl, hgb, hgr⟩ := HCr.out.vw.row (by omega)
      have hr := hgr i hlt
      have m0 : wB.cell? ⟨gb, go + i * 2, none⟩ = some (.int .i64 cs[i].g) := hr 0 _ rfl
      have m1 : wB.cell? ⟨gb, go + i * 2 + 1, none⟩ = some (.slice cs[i].a cs[i].bs.length cs[i].c) := hr 1 _ rfl
      have hhas := HCr.out.has _ (List.getElem_mem hlt)
      obtain ⟨hq1, hq2, hq3⟩ := hcap _ (List.getElem_mem hlt)
      have HTK : Hid (cs.take (i + 1) = cs.take i ++ [cs[i]]) := List.take_succ_eq_append_getElem hlt
      have HI : Hid (i < cs.length) := hlt
      have i0 : (0 : Int) ≤ (i : Int) := by omega
      have i1 : (i : Int) < (cs.length : Int) := by omega
      clear hr hgr hk hi HCr
      generalize cs[i] = c at *
      clear hlt
      have cd := rdecode_any (cap := c.c) hhas hq1 hq2 hq3
      clear hhas hq1 hq2 hq3
      go_upto_region 6 with (go_at_call 35; (with_reducible refine Calls.mono cd ?_); rintro e w3 ⟨ls, y, z, a3, c3, rfl, hdc, ho, k3⟩; have HDC : Hid (IsDec c.bs ls y z) := hdc; have K3 : Hid (Kept (fun _ => True) wB w3) := k3; have HV : Hid (Lv w3 a3 ls) := ho.view; have hfew : Hid (ls.length ≤ 4096 ∧ ∀ x ∈ ls, x.t.length ≤ 4000) := hdc.few; have HY : Hid (0 < ls.length → y = 0) := hdc.zero; clear hdc ho k3 cd m0 m1)
      obtain ⟨KB, hKB⟩ : ∃ K, K = outR lss := ⟨_, rfl⟩
      have HKB : Hid (KB = outR lss) := hKB
      rw [← hKB]
      clear hKB
      go_wp2_with fail
      go_loopw [5, 6, 11] (fun v u t w5 => ∃ j : Nat, j ≤ ls.length ∧ t = .int .i64 j ∧ v = .bool (kol (KB ++ (txs (ls.take j)).filterMap rec?) tx).c ∧ u = .bool (kol (KB ++ (txs (ls.take j)).filterMap rec?) tx).a ∧ Kept (fun _ => True) w3 w5) (fun _ _ t _ => ls.length - (intOf t).toNat)
      case atStart => exact ⟨0, Nat.zero_le _, rfl, by simp [txs], by simp [txs], Kept.refl _ _⟩
      case round =>
        obtain ⟨j, hj, rfl, rfl, rfl, hk5⟩ := hrel
        have HK5 : Hid (Kept (fun _ => True) w3 wr) := hk5
        by_cases hlt : j < ls.length
        · obtain ⟨g4, o4, rfl, hg4, hc4⟩ := HV.out.row (by omega)
          obtain rfl : y = 0 := HY.out (by omega)
          have hr4 := range_kept (hc4 j hlt) hk5 hg4 trivial
          have c0 : wr.cell? ⟨g4, o4 + j * 33, none⟩ = some (.string ⟨ls[j].t.toArray⟩) := hr4 0 _ rfl
          have HFT : Hid ((txs (ls.take (j + 1))).filterMap rec? = (txs (ls.take j)).filterMap rec? ++ (rec? ls[j].t).toList) := rdL_take hlt
          have hsh := hfew.out.2 _ (List.getElem_mem hlt)
          generalize ls[j].t = t0 at *
          have cr := rread_any (w := wr) (bs := t0) (by omega)
          have j0 : (0 : Int) ≤ (j : Int) := by omega
          have j1 : (j : Int) < (ls.length : Int) := by omega
          have HJ : Hid (j < ls.length) := hlt
          have hnb : ls.length ≤ 4096 := hfew.out.1
          have HRK : Hid (∀ r, rec? t0 = some r → (r.k = 1 ∨ r.k = 2 ∨ r.k = 3 ∨ r.k = 4)) := fun r hr => fmd_kind (rec_kind hr)
          clear hj hk5 hsh hr4 hc4 hlt
          obtain ⟨KO, hKO⟩ : ∃ KO, KO = KB ++ (txs (ls.take j)).filterMap rec? := ⟨_, rfl⟩
          rw [← hKO]
          have HKO : Hid (KB ++ (txs (ls.take (j + 1))).filterMap rec? = KO ++ (rec? t0).toList) := by show _ = _; rw [HFT.out, ← List.append_assoc, ← hKO]
          clear hKO HFT
          cases hr : rec? t0 with
          | none =>
            have cr2 : Calls Try.prog 18 #[.string ⟨t0.toArray⟩] wr fun e w' => e = .returned (.tuple #[.agg #[.int .i64 0, .string ⟨#[]⟩, .slice none 0 0, .string ⟨#[]⟩], .int .i64 12]) ∧ Kept (fun _ => True) wr w' := by
              refine cr.mono ?_
              rintro e w' ⟨⟨h, he⟩ | ⟨r, a, c, h, he, hi⟩, k⟩
              · exact ⟨he, k⟩
              · rw [hr] at h; cases h
            clear cr
            go_upto_region 10 with (go_at_call 18; (with_reducible refine Calls.mono cr2 ?_); rintro e w6 ⟨rfl, k6⟩)
            have HR : Hid (rec? t0 = none) := hr
            have HKE : Hid (KB ++ (txs (ls.take (j + 1))).filterMap rec? = KO) := by show _ = _; rw [HKO.out, hr, Option.toList_none, List.append_nil]
            clear hr cr2 c0
            have HE1 : Hid (Value.bool (kol KO tx).c = .bool (kol (KB ++ (txs (ls.take (j + 1))).filterMap rec?) tx).c) := by show _ = _; rw [HKE.out]
            have HE2 : Hid (Value.bool (kol KO tx).a = .bool (kol (KB ++ (txs (ls.take (j + 1))).filterMap rec?) tx).a) := by show _ = _; rw [HKE.out]
            go_wp2_with fail
            go_roundw
            case rel => exact ⟨j + 1, by have := HJ.out; omega, by go_num, HE1.out, HE2.out, HK5.out.trans (k6.alloc _)⟩
            case measure => have := HJ.out; simp [intOf]; omega
          | some r =>
            have cr2 : Calls Try.prog 18 #[.string ⟨t0.toArray⟩] wr fun e w' => (∃ ar car, e = .returned (.tuple #[.agg #[.int .i64 (r.k : Nat), .string ⟨r.tx.toArray⟩, .slice ar r.gs.length car, .string ⟨r.bd.toArray⟩], .int .i64 0])) ∧ Kept (fun _ => True) wr w' := by
              refine cr.mono ?_
              rintro e w' ⟨⟨h, he⟩ | ⟨r', a, c, h, he, hi⟩, k⟩
              · rw [hr] at h; cases h
              · rw [hr] at h
                cases h
                exact ⟨⟨a, c, he⟩, k⟩
            clear cr
            go_upto_region 10 with (go_at_call 18; (with_reducible refine Calls.mono cr2 ?_); rintro e w6 ⟨⟨ar, car, rfl⟩, k6⟩)
            have HR : Hid (rec? t0 = some r) := hr
            have HRk : Hid (r.k = 1 ∨ r.k = 2 ∨ r.k = 3 ∨ r.k = 4) := HRK.out r hr
            have F6 : Four4 (w6.alloc (.cells #[.int .i64 (r.k : Nat), .string ⟨r.tx.toArray⟩, .slice ar r.gs.length car, .string ⟨r.bd.toArray⟩] 48)) w6.heap.size 48 (.int .i64 (r.k : Nat)) (.string ⟨r.tx.toArray⟩) (.slice ar r.gs.length car) (.string ⟨r.bd.toArray⟩) := heap_alloc_new w6 _
            have K6 : Hid (Kept (fun _ => True) w3 (w6.alloc (.cells #[.int .i64 (r.k : Nat), .string ⟨r.tx.toArray⟩, .slice ar r.gs.length car, .string ⟨r.bd.toArray⟩] 48))) := (HK5.out.trans k6).alloc _
            have HKS : Hid (kol (KB ++ (txs (ls.take (j + 1))).filterMap rec?) tx = if r.tx = tx then (kol KO tx).put r.k else kol KO tx) := by show _ = _; rw [HKO.out, hr, Option.toList_some, kol_snoc]
            clear hr cr2 c0 k6
            obtain ⟨y0, y1, y2, y3⟩ := F6.cell
            clear F6
            by_cases ht : r.tx = tx
            · have HC1 : Hid ((kol (KB ++ (txs (ls.take (j + 1))).filterMap rec?) tx).c = ((kol KO tx).c || r.k == 3)) := by show _ = _; rw [HKS.out, if_pos ht]; rfl
              have HA1 : Hid ((kol (KB ++ (txs (ls.take (j + 1))).filterMap rec?) tx).a = ((kol KO tx).a || r.k == 4)) := by show _ = _; rw [HKS.out, if_pos ht]; rfl
              rw [ht] at y1 y0 y2 y3 K6 ⊢
              clear ht HKS
              generalize (kol KO tx).c = b1 at *
              generalize (kol KO tx).a = b2 at *
              generalize r.k = rk at *
              rcases HRk.out with h | h | h | h <;> subst h <;> cases b1 <;> cases b2 <;> (clear HRk)
              all_goals
                go_wp2_with fail
                go_roundw
                case rel => exact ⟨j + 1, by have := HJ.out; omega, by go_num, by rw [HC1.out]; rfl, by rw [HA1.out]; rfl, K6.out⟩
                case measure => have := HJ.out; simp [intOf]; omega
            · have h1 : (r.tx == tx) = false := by simp [ht]
              have h2 : decide (r.tx = tx) = false := by simp [ht]
              have HC1 : Hid ((kol (KB ++ (txs (ls.take (j + 1))).filterMap rec?) tx).c = (kol KO tx).c) := by show _ = _; rw [HKS.out, if_neg ht]
              have HA1 : Hid ((kol (KB ++ (txs (ls.take (j + 1))).filterMap rec?) tx).a = (kol KO tx).a) := by show _ = _; rw [HKS.out, if_neg ht]
              clear HKS
              generalize (kol KO tx).c = b1 at *
              generalize (kol KO tx).a = b2 at *
              go_wp2_with fail
              go_roundw
              case rel => exact ⟨j + 1, by have := HJ.out; omega, by go_num, by rw [HC1.out], by rw [HA1.out], K6.out⟩
              case measure => have := HJ.out; simp [intOf]; omega
        · obtain rfl : j = ls.length := by omega
          have j1 : ¬ ((ls.length : Nat) : Int) < (ls.length : Int) := by omega
          have HRL : Hid (outR (lss ++ [ls]) = KB ++ (txs (ls.take ls.length)).filterMap rec?) := by show _ = _; rw [outR_snoc, HKB.out, List.take_of_length_le (Nat.le_refl _)]; rfl
          rw [← HRL.out]
          clear hj hlt
          go_wp2_with fail
          go_roundw
          case rel =>
            refine ⟨i + 1, lss ++ [ls], by have := HI.out; omega, by go_num, rfl, rfl, ?_, (HK.out.trans K3.out).trans HK5.out⟩
            rw [HTK.out]
            exact HD.out.snoc HDC.out
          case measure => have := HI.out; simp [intOf]; omega
    · obtain rfl : i = cs.length := by omega
      have i1 : ¬ ((cs.length : Nat) : Int) < (cs.length : Int) := by omega
      have HD2 : Hid (Dcs cs lss) := by have := HD.out; rwa [List.take_of_length_le (Nat.le_refl _)] at this
      clear hi hlt hk
      have HO : Hid (outO (kol (outR lss) tx) = outO (kol (outR lss) tx)) := rfl
      obtain ⟨K, hK⟩ : ∃ K, K = kol (outR lss) tx := ⟨_, rfl⟩
      rw [← hK]
      have HKK : Hid (K = kol (outR lss) tx) := hK
      clear hK HO
      have HB : Hid (w.heap.size ≤ wB.heap.size) := HK.out.size
      cases hc : K.c <;> cases ha : K.a
      · have HE : Hid (outO K = []) := by show _ = _; simp [outO, hc, ha]
        clear hc ha
        go_wp2_with fail
        go_ret
        refine ⟨_, rfl, lss, HD2.out, ?_, HK.out⟩
        rw [← HKK.out, HE.out]
        exact Its.nil _ _
      · have HE : Hid (outO K = [2]) := by show _ = _; simp [outO, hc, ha]
        clear hc ha
        go_wp2_with (first
          | (at_builtin; refine wpList_append_int rfl (.tmp 75) (.tmp 76) rfl w.heap.size (.slice none 0 0) [] rfl (Its.nil _ _) (by rw [heap_size_alloc]; have := HB.out; omega) _ rfl 2 (0, 0) (heap_alloc_new _ _) (by simp) ?_; intro a9 c9 w9 h9 g9))
        go_ret
        refine ⟨_, rfl, lss, HD2.out, ?_, (HK.out.alloc _).grown g9 (fun i hi e => by simp [Value.ownBlock] at e)⟩
        rw [← HKK.out, HE.out]
        exact h9
      · have HE : Hid (outO K = [1]) := by show _ = _; simp [outO, hc, ha]
        clear hc ha
        go_wp2_with (first
          | (at_builtin; refine wpList_append_int rfl (.tmp 71) (.tmp 72) rfl w.heap.size (.slice none 0 0) [] rfl (Its.nil _ _) (by rw [heap_size_alloc]; have := HB.out; omega) _ rfl 1 (0, 0) (heap_alloc_new _ _) (by simp) ?_; intro a8 c8 w8 h8 g8))
        go_ret
        refine ⟨_, rfl, lss, HD2.out, ?_, (HK.out.alloc _).grown g8 (fun i hi e => by simp [Value.ownBlock] at e)⟩
        rw [← HKK.out, HE.out]
        exact h8
      · have HE : Hid (outO K = [1, 2]) := by show _ = _; simp [outO, hc, ha]
        clear hc ha
        go_wp2_with (first
          | (at_builtin; refine wpList_append_int rfl (.tmp 71) (.tmp 72) rfl w.heap.size (.slice none 0 0) [] rfl (Its.nil _ _) (by rw [heap_size_alloc]; have := HB.out; omega) _ rfl 1 (0, 0) (heap_alloc_new _ _) (by simp) ?_; intro a8 c8 w8 h8 g8; have K8 : Hid (Kept (fun _ => True) w w8) := (HK.out.alloc _).grown g8 (fun i hi e => by simp [Value.ownBlock] at e))
          | (at_builtin; refine wpList_append_int rfl (.tmp 75) (.tmp 76) rfl w.heap.size (.slice a8 ([] ++ [1] : List Nat).length c8) ([] ++ [1]) rfl (h8.fresh _) (by rw [heap_size_alloc]; have := K8.out.size; omega) _ rfl 2 (0, 0) (heap_alloc_new _ _) (by simp) ?_; intro a9 c9 w9 h9 g9))
        go_ret
        refine ⟨_, rfl, lss, HD2.out, ?_, (K8.out.alloc _).grown g9 (fun i hi e => by have := (World.ownsRow.lt h8 i e).1; omega)⟩
        rw [← HKK.out, HE.out]
        exact h9

end Go.Proofs.Ytmcaoimgmgjjiaa

namespace Go.Proofs.Ytmcaoimgmgjjiaa
open Go.RowKit Go.Maps Go.Sort

section
variable {α : Type} {S : Shp α} {e : TypeId}
end
theorem claimTy : ElT 30 27 claimS.n 32 (.agg #[.int .i64 0, .slice none 0 0]) :=
  ⟨Try.underlying30, by kernel_rfl, by simp [Value.cells, claimS], by decide, by decide⟩
structure Cls (w : World) (b : Nat) (v : Value) (cl : List Uc) : Prop where
  ow : Ow claimS 27 w b v cl
  ob : ∀ c ∈ cl, Ob w b (.slice c.a c.bs.length c.c) c.bs
theorem Cls.nil (w : World) (b : Nat) : Cls w b (.slice none 0 0) [] := ⟨Ow.nil _ _ _, fun _ h => by cases h⟩
section
variable {w w' : World} {b : Nat} {v : Value} {cl : List Uc}
theorem Cls.all (h : Cls w b v cl) (k : Kept (fun _ => True) w w') : Cls w' b v cl := ⟨h.ow.all k, fun c hc => (h.ob c hc).all k⟩
theorem ob_far {bs : List UInt8} {u : Value} {own : Option Nat} (h : Ob w b u bs) (k : Kept (fun x => own ≠ some x) w w') (hne : ∀ (g : Nat) (cs : Array Value) (fr : Nat × Nat), w.heap[g]? = some (.cells cs 5 fr) → own ≠ some g) : Ob w' b u bs := ownL_kept h k (fun x hx => by
  rcases h.2 with ⟨e, _⟩ | ⟨g, cap, cur, e, _, hgb, _⟩
  · rw [e] at hx; cases hx
  · rw [e] at hx
    cases hx
    exact hne _ _ _ hgb)
theorem Cls.step {n c M : Nat} {ao a' : Option Addr} {c' : Nat} {o : Obj} (h : Cls w b (.slice ao n c) cl) (x : Uc) (hi : Ob w b (.slice x.a x.bs.length x.c) x.bs) (ho : Ow claimS 27 w' b (.slice a' M c') (cl ++ [x])) (hg : (w.alloc o).grownBy w' (Value.slice ao n c).ownBlock) : Cls w' b (.slice a' M c') (cl ++ [x]) := by
  have k : Kept (fun x => (Value.slice ao n c).ownBlock ≠ some x) w w' := ((Kept.refl _ _).alloc _).grown hg (fun x _ e h => h e)
  refine ⟨ho, fun q hq => ?_⟩
  rcases List.mem_append.1 hq with q1 | q1
  · exact ob_far (h.ob q q1) k (fun g cs fr hgb => h.ow.ne hgb (by decide))
  · rw [List.mem_singleton.1 q1]
    exact ob_far hi k (fun g cs fr hgb => h.ow.ne hgb (by decide))
end
end Go.Proofs.Ytmcaoimgmgjjiaa

namespace Go.Proofs.Ytmcaoimgmgjjiaa
open Go.RowKit Go.Maps Go.Sort

def gb (c : Uc) : Int × List UInt8 := (c.g, c.bs)
theorem rclaimTy : ElT 39 74 claimS.n 32 (.agg #[.int .i64 0, .slice none 0 0]) :=
  ⟨Try.underlying39, by kernel_rfl, by simp [Value.cells, claimS], by decide, by decide⟩
theorem ob_shape {w : World} {base : Nat} {a : Option Addr} {c : Nat} {bs : List UInt8} (h : Ob w base (.slice a bs.length c) bs) : (a = none → c = 0) ∧ bs.length ≤ c := by
  rcases h.2 with ⟨hv, h0⟩ | ⟨g, cap, cur, hv, _, _, hc, _⟩
  · injection hv with e1 e2 e3
    exact ⟨fun _ => e3, by omega⟩
  · injection hv with e1 e2 e3
    exact ⟨fun h => by (rw [h] at e1; cases e1), by omega⟩

set_option maxRecDepth 100000 in
set_option maxHeartbeats 4000000 in
theorem in_any {w : World} {al : Option Addr} {cap : Nat} {cs : List Uc} (h : Cv w al cs) (hn : cs.length ≤ 200) (hcap : ∀ c ∈ cs, c.a = none → c.c = 0) :
    Calls Try.prog 12 #[.slice al cs.length cap] w fun e w' => ∃ a' c' cl, e = .returned (.slice a' cs.length c') ∧ cl.length = cs.length ∧ cl.map gb = cs.map gb ∧ Cv w' a' cl ∧ (∀ c ∈ cl, (c.a = none → c.c = 0) ∧ c.bs.length ≤ c.c) ∧ Kept (fun _ => True) w w' := by
  have HC : Hid (Cv w al cs) := h
  clear h
  go_enter Try.func12, Try.ntmps12
  go_wp2_with fail
  go_loopw [3, 4] (fun v t wr => ∃ (k : Nat) (a' : Option Addr) (c' : Nat) (cl : List Uc), k ≤ cs.length ∧ t = .int .i64 k ∧ v = .slice a' k c' ∧ cl.length = k ∧ cl.map gb = (cs.take k).map gb ∧ Ow claimS 74 wr w.heap.size (.slice a' k c') cl ∧ (∀ c ∈ cl, Ob wr w.heap.size (.slice c.a c.bs.length c.c) c.bs) ∧ Kept (fun _ => True) w wr) (fun _ t _ => cs.length - (intOf t).toNat)
  case atStart => exact ⟨0, none, 0, [], Nat.zero_le _, rfl, rfl, rfl, by simp, Ow.nil _ _ _, fun c hc => by simp at hc, Kept.refl _ _⟩
  case round =>
    obtain ⟨k, a', c', cl, hk, rfl, rfl, hcl, hgb, how, hob, hkr⟩ := hrel
    have KR : Hid (Kept (fun _ => True) w wr) := hkr
    have HCL : Hid (cl.length = k) := hcl
    have HGB : Hid (cl.map gb = (cs.take k).map gb) := hgb
    have HW : Hid (Ow claimS 74 wr w.heap.size (.slice a' k c') cl) := how
    have HOB : Hid (∀ c ∈ cl, Ob wr w.heap.size (.slice c.a c.bs.length c.c) c.bs) := hob
    clear hcl hgb how hob
    by_cases hlt : k < cs.length
    · have HCr : Hid (Cv wr al cs) := HC.out.all hkr
      obtain ⟨gb0, go, rfl, hgb1, hgr⟩ := HC.out.vw.row (by omega)
      have hr := range_kept (hgr k hlt) hkr hgb1 trivial
      have hgb0 : gb0 < wr.heap.size := Nat.lt_of_lt_of_le hgb1 hkr.size
      have m0 : wr.cell? ⟨gb0, go + k * 2, none⟩ = some (.int .i64 cs[k].g) := hr 0 _ rfl
      have m1 : wr.cell? ⟨gb0, go + k * 2 + 1, none⟩ = some (.slice cs[k].a cs[k].bs.length cs[k].c) := hr 1 _ rfl
      have HB0 : Hid (gb0 < wr.heap.size) := hgb0
      have HH : Hid (Has wr cs[k].a cs[k].bs) := HCr.out.has _ (List.getElem_mem hlt)
      have HLe : Hid ((cs[k].bs.length : Int) ≤ 140737488355328) := HC.out.len _ (List.getElem_mem hlt)
      have HN : Hid (cs[k].a = none → cs[k].c = 0) := hcap _ (List.getElem_mem hlt)
      have HTK : Hid (cs.take (k + 1) = cs.take k ++ [cs[k]]) := List.take_succ_eq_append_getElem hlt
      have HI : Hid (k < cs.length) := hlt
      have i0 : (0 : Int) ≤ (k : Int) := by omega
      have i1 : (k : Int) < (cs.length : Int) := by omega
      have HBN : Hid ((Value.slice a' k c').ownBlock ≠ some gb0) := fun e => by have := (World.ownsRow.lt HW.out gb0 e).1; omega
      have ct : ∀ W, Kept (fun y => (Value.slice a' k c').ownBlock ≠ some y) wr W → W.cell? ⟨gb0, go + k * 2, none⟩ = some (.int .i64 cs[k].g) := fun W hW => (kept_cell hW hgb0 HBN.out).trans m0
      have cu : ∀ W, Kept (fun y => (Value.slice a' k c').ownBlock ≠ some y) wr W → W.cell? ⟨gb0, go + k * 2 + 1, none⟩ = some (.slice cs[k].a cs[k].bs.length cs[k].c) := fun W hW => (kept_cell hW hgb0 HBN.out).trans m1
      clear hr hgr hk hkr HCr m0 m1 hgb0 hgb1
      generalize cs[k] = c at *
      clear hlt
      go_wp2_with fail
      refine Gz.begin (fun W => Kept (fun y => (Value.slice a' k c').ownBlock ≠ some y) wr W) (fun _ => false) (by kernel_rfl) ?_
      refine Gz.tk (i := 0) (oi := ⟨some 11, .move (.tmp 3), 39, _, _, none⟩) (v := ?_) rfl (by kernel_rfl) (fun _ _ _ h => h) (Or.inl ⟨by rfl, ?hy0⟩) (Kept.refl _ _).drew ?_
      case hy0 => (intro W hS; (try dsimp only at hS); go_simp; try with_reducible rfl)
      try simp only [Act.put, lyA, ly0, ly1]
      refine Gz.tk (i := 1) (oi := ⟨some 12, .move (.tmp 0), 30, _, _, none⟩) (v := ?_) rfl (by kernel_rfl) (fun _ _ _ h => h) (Or.inl ⟨by rfl, ?hy1⟩) (Kept.refl _ _).drew ?_
      case hy1 => (intro W hS; (try dsimp only at hS); go_simp; try with_reducible rfl)
      try simp only [Act.put, lyA, ly0, ly1]
      refine Gz.tk (i := 2) (oi := ⟨some 13, .move (.tmp 4), 3, _, _, none⟩) (v := ?_) rfl (by kernel_rfl) (fun _ _ _ h => h) (Or.inl ⟨by rfl, ?hy2⟩) (Kept.refl _ _).drew ?_
      case hy2 => (intro W hS; (try dsimp only at hS); go_simp; try with_reducible rfl)
      try simp only [Act.put, lyA, ly0, ly1]
      refine Gz.tk (i := 3) (oi := ⟨some 14, .indexAddr 30 (.tmp 12) (.tmp 13), 0, _, _, none⟩) (v := ?_) rfl (by kernel_rfl) (fun _ _ _ h => h) (Or.inl ⟨by rfl, ?hy3⟩) (Kept.refl _ _).drew ?_
      case hy3 => (intro W hS; (try dsimp only at hS); go_simp; try with_reducible rfl)
      try simp only [Act.put, lyA, ly0, ly1]
      refine Gz.tk (i := 4) (oi := ⟨some 15, .fieldAddr 27 (.tmp 14) 0, 0, _, _, none⟩) (v := ?_) rfl (by kernel_rfl) (fun _ _ _ h => h) (Or.inl ⟨by rfl, ?hy4⟩) (Kept.refl _ _).drew ?_
      case hy4 => (intro W hS; (try dsimp only at hS); go_simp; try with_reducible rfl)
      try simp only [Act.put, lyA, ly0, ly1]
      refine Gz.tk (i := 5) (oi := ⟨some 16, .load 3 (.tmp 15), 3, _, _, none⟩) (v := ?_) rfl (by kernel_rfl) (fun _ _ _ h => h) (Or.inl ⟨by rfl, ?hy5⟩) (Kept.refl _ _).drew ?_
      case hy5 => (intro W hS; (try dsimp only at hS); go_simp; try with_reducible rfl)
      try simp only [Act.put, lyA, ly0, ly1]
      refine Gz.tk (i := 7) (oi := ⟨some 18, .move (.tmp 0), 30, _, _, none⟩) (v := ?_) rfl (by kernel_rfl) (fun _ _ _ h => h) (Or.inl ⟨by rfl, ?hy7⟩) (Kept.refl _ _).drew ?_
      case hy7 => (intro W hS; (try dsimp only at hS); go_simp; try with_reducible rfl)
      try simp only [Act.put, lyA, ly0, ly1]
      refine Gz.tk (i := 8) (oi := ⟨some 19, .move (.tmp 4), 3, _, _, none⟩) (v := ?_) rfl (by kernel_rfl) (fun _ _ _ h => h) (Or.inl ⟨by rfl, ?hy8⟩) (Kept.refl _ _).drew ?_
      case hy8 => (intro W hS; (try dsimp only at hS); go_simp; try with_reducible rfl)
      try simp only [Act.put, lyA, ly0, ly1]
      refine Gz.tk (i := 9) (oi := ⟨some 20, .indexAddr 30 (.tmp 18) (.tmp 19), 0, _, _, none⟩) (v := ?_) rfl (by kernel_rfl) (fun _ _ _ h => h) (Or.inl ⟨by rfl, ?hy9⟩) (Kept.refl _ _).drew ?_
      case hy9 => (intro W hS; (try dsimp only at hS); go_simp; try with_reducible rfl)
      try simp only [Act.put, lyA, ly0, ly1]
      refine Gz.tk (i := 10) (oi := ⟨some 21, .fieldAddr 27 (.tmp 20) 1, 0, _, _, none⟩) (v := ?_) rfl (by kernel_rfl) (fun _ _ _ h => h) (Or.inl ⟨by rfl, ?hy10⟩) (Kept.refl _ _).drew ?_
      case hy10 => (intro W hS; (try dsimp only at hS); go_simp; try with_reducible rfl)
      try simp only [Act.put, lyA, ly0, ly1]
      refine Gz.tk (i := 11) (oi := ⟨some 22, .load 25 (.tmp 21), 25, _, _, none⟩) (v := ?_) rfl (by kernel_rfl) (fun _ _ _ h => h) (Or.inl ⟨by rfl, ?hy11⟩) (Kept.refl _ _).drew ?_
      case hy11 => (intro W hS; (try dsimp only at hS); go_simp; try with_reducible rfl)
      try simp only [Act.put, lyA, ly0, ly1]
      refine Gz.one (i := 6) (o := ⟨some 17, .buildSlice 25 0 #[], 25, _, _, none⟩) (by kernel_rfl) rfl (fun K hK => ?_)
      go_simp
      refine hK.out _ _ (fun _ => (Kept.refl _ _).drew.alloc _) ?_
      clear hK K
      try simp only [Act.put, lyA, ly0, ly1]
      refine Gz.one (i := 12) (o := ⟨some 23, .call { callee := .builtin Builtin.append, args := #[.tmp 17, .tmp 22], argTypes := #[25, 25] }, 25, _, _, none⟩) (by kernel_rfl) rfl (fun K hK => ?_)
      refine step_append_has rfl (.tmp 17) (.tmp 22) rfl wr.heap.size (.slice (some ⟨wr.heap.size, 0, none⟩) 0 0) 0 [] rfl (own_new wr.drew wr.heap.size (by simp)) (by simp) c.a c.bs.length c.c rfl c.bs rfl HN.out (HH.out.kept ((Kept.refl (fun _ => True) _).drew.alloc _) (fun _ _ => trivial)) (by have := HLe.out; omega) ?_
      intro a2 c2 w2 ho2 hg2 at2
      simp only [Nat.zero_add, List.nil_append] at ho2 at2 ⊢
      have k2 : Kept (fun y => (Value.slice a' k c').ownBlock ≠ some y) wr w2 := ((Kept.refl _ _).drew.alloc _).grown hg2 (fun i hi e => by simp [Value.ownBlock] at e; omega)
      have kT : Kept (fun _ => True) wr w2 := ((Kept.refl _ _).drew.alloc _).grown hg2 (fun i hi e => by simp [Value.ownBlock] at e; omega)
      have HO2 : Hid (Ob w2 wr.heap.size (.slice a2 c.bs.length c2) c.bs) := ho2
      have K2 : Hid (Kept (fun y => (Value.slice a' k c').ownBlock ≠ some y) wr w2) := k2
      clear ho2 hg2 at2
      refine hK.out _ _ (fun _ => k2) ?_
      clear hK K
      try simp only [Act.put, lyA, ly0, ly1]
      refine Gz.tk (i := 13) (oi := ⟨some 24, .build 74 #[(0, .tmp 16), (1, .tmp 23)], 74, _, _, none⟩) (v := ?_) rfl (by kernel_rfl) (fun _ _ _ h => h) (Or.inl ⟨by rfl, ?hy13⟩) k2 ?_
      case hy13 => (intro W hS; (try dsimp only at hS); go_simp; try with_reducible rfl)
      try simp only [Act.put, lyA, ly0, ly1]
      refine Gz.one (i := 14) (o := ⟨some 25, .buildSlice 39 1 #[(0, .tmp 24)], 39, _, _, none⟩) (by kernel_rfl) rfl (fun K hK => ?_)
      go_simp
      refine hK.out _ _ (fun _ => k2.alloc _) ?_
      clear hK K
      try simp only [Act.put, lyA, ly0, ly1]
      refine Gz.one (i := 15) (o := ⟨some 26, .call { callee := .builtin Builtin.append, args := #[.tmp 11, .tmp 25], argTypes := #[39, 39] }, 39, _, _, none⟩) (by kernel_rfl) rfl (fun K hK => ?_)
      refine step_append_one (x := (⟨c.g, c.bs, a2, c2⟩ : Uc)) rclaimTy rfl (.tmp 11) (.tmp 25) rfl w.heap.size (.slice a' k c') cl rfl (HW.out.all (kT.alloc _)) (Nat.le_trans KR.out.size (k2.alloc _).size) w2.heap.size rfl (0, 0) (heap_alloc_new w2 _) (by have := HCL.out; omega) (k + 1) (by rw [HCL.out]) ?_
      intro a7 c7 w7 ho7 hg7 at7
      have k7 : Kept (fun y => (Value.slice a' k c').ownBlock ≠ some y) wr w7 := (k2.alloc _).grown hg7 (fun _ _ e h => h e)
      have K27 : Hid (Kept (fun y => (Value.slice a' k c').ownBlock ≠ some y) w2 w7) := ((Kept.refl _ _).alloc _).grown hg7 (fun _ _ e h => h e)
      have HO7 : Hid (Ow claimS 74 w7 w.heap.size (.slice a7 (k + 1) c7) (cl ++ [⟨c.g, c.bs, a2, c2⟩])) := ho7
      clear ho7 hg7 at7
      refine hK.out _ _ (fun _ => k7) ?_
      clear hK K
      try simp only [Act.put, lyA, ly0, ly1]
      refine Gz.tk (i := 16) (oi := ⟨some 3, .assign (.tmp 26), 39, _, _, none⟩) (v := ?_) rfl (by kernel_rfl) (fun _ _ _ h => h) (Or.inl ⟨by rfl, ?hy16⟩) k7 ?_
      case hy16 => (intro W hS; (try dsimp only at hS); go_simp; try with_reducible rfl)
      try simp only [Act.put, lyA, ly0, ly1]
      refine Gz.done (by kernel_rfl) ?_ _
      go_wp2_with fail
      go_roundw
      case rel =>
        refine ⟨k + 1, a7, c7, cl ++ [⟨c.g, c.bs, a2, c2⟩], by have := HI.out; omega, by go_num, rfl, by simp [HCL.out], ?_, HO7.out, fun x hx => ?_, ?_⟩
        · rw [HTK.out, List.map_append, List.map_append, HGB.out]; rfl
        · rcases List.mem_append.1 hx with hx | hx
          · exact ownL_kept (HOB.out x hx) k7 (fun y hy => own_two (HOB.out x hx) HW.out (by decide) y hy)
          · rw [List.mem_singleton.1 hx]
            exact World.ownsRow.mono (ownL_kept HO2.out K27.out (fun y hy e => by have h1 := (World.ownsRow.lt HO2.out y hy).1; have h2 := (World.ownsRow.lt HW.out y e).2; omega)) KR.out.size
        · exact KR.out.then k7 (fun i hi _ e => by have := (World.ownsRow.lt HW.out i e).1; omega)
      case measure => have := HI.out; simp [intOf]; omega
    · obtain rfl : k = cs.length := by omega
      have i1 : ¬ ((cs.length : Nat) : Int) < (cs.length : Int) := by omega
      have HG2 : Hid (cl.map gb = cs.map gb) := by have := HGB.out; rwa [List.take_of_length_le (Nat.le_refl _)] at this
      clear hk hlt hkr
      go_wp2_with fail
      go_ret
      have mp : ∀ c ∈ cl, ∃ d ∈ cs, c.g = d.g ∧ c.bs = d.bs := fun c hc => by
        have h1 : gb c ∈ cs.map gb := by rw [← HG2.out]; exact List.mem_map_of_mem hc
        obtain ⟨d, hd, e⟩ := List.mem_map.1 h1
        exact ⟨d, hd, (congrArg Prod.fst e).symm, (congrArg Prod.snd e).symm⟩
      have hv : Vw claimS wr a' cl := HW.out.view
      exact ⟨a', ⟨c', rfl⟩, cl, HCL.out, HG2.out, ⟨hv, fun c hc => own_has (HOB.out c hc), fun c hc => (by obtain ⟨d, hd, _, e⟩ := mp c hc; rw [e]; exact HC.out.len d hd), fun c hc => (by obtain ⟨d, hd, e, _⟩ := mp c hc; rw [e]; exact HC.out.fit d hd)⟩, fun c hc => ob_shape (HOB.out c hc), KR.out⟩

end Go.Proofs.Ytmcaoimgmgjjiaa
