/-
  Move of a right Map: the program's.
-/
import Derived.Test.YtebpkhemkdgbjaaM4
namespace Go.Proofs.Ytebpkhemkdgbjaa
open Go.RowKit

set_option maxRecDepth 100000 in
set_option maxHeartbeats 1000000 in
theorem move_last {w : World} {ao : Option Addr} {cap : Nat} {ps : List Pa} (h : Pv w ao ps) (hl : ps.length ≤ 140737488355328) (lo hi g : Int) (hr : rgt 1073741824 ps = true) (q1 : 0 ≤ lo) (q2 : lo < hi) (q3 : hi ≤ 256) (q4 : isG g = true) :
    Calls Try.prog 24 #[.agg #[.int .i64 1073741824, .slice ao ps.length cap], .int .i64 lo, .int .i64 hi, .int .i64 g] w fun e w' => e = .returned (.tuple #[.agg #[.int .i64 0, .slice none 0 0], .int .i64 23]) ∧ Kept (fun _ => True) w w' := by
  have k1 : Kept (fun _ => True) w ((w.alloc (.cells #[.int .i64 1073741824, .slice ao ps.length cap] 24)).alloc (.cells #[.int .i64 0, .slice none 0 0] 24)) := ((Kept.refl _ _).alloc _).alloc _
  have c := right_any (cap := cap) (ep := 1073741824) (h.all k1) hl
  have cg := fun W => isGroup_any (w := W) g
  have hX := heap_alloc_new (w.alloc (.cells #[.int .i64 1073741824, .slice ao ps.length cap] 24)) (.cells #[.int .i64 0, .slice none 0 0] 24)
  have hY : ((w.alloc (.cells #[.int .i64 1073741824, .slice ao ps.length cap] 24)).alloc (.cells #[.int .i64 0, .slice none 0 0] 24)).heap[w.heap.size]? = some (.cells #[.int .i64 1073741824, .slice ao ps.length cap] 24 (0, 0)) := by
    rw [Below.heap_alloc _ _ _ (by simp)]; exact heap_alloc_new w _
  have lX : w.heap.size ≤ (w.alloc (.cells #[.int .i64 1073741824, .slice ao ps.length cap] 24)).heap.size := by simp
  have e1 : (w.alloc (.cells #[.int .i64 1073741824, .slice ao ps.length cap] 24)).heap.size = w.heap.size + 1 := by simp
  rw [e1] at hX lX
  have HX : Hid _ := hX
  have HY : Hid _ := hY
  have K1 : Hid _ := k1
  have HL : Hid _ := lX
  clear h hX k1 lX e1 hY
  rw [hr] at c
  rw [q4] at cg
  clear hr
  go_enter Try.func24, Try.ntmps24
  go_wp2_with (first | (go_at_call 35; refine Calls.mono c ?_; rintro e w2 ⟨rfl, k2⟩; have hb := (k2.block _ (lt_of_block HX.out) trivial).trans HX.out; have hb2 := (k2.block _ (lt_of_block HY.out) trivial).trans HY.out; obtain ⟨c0, c1⟩ := mtwo_cell hb; obtain ⟨d0, d1⟩ := mtwo_cell hb2; have f0 : w2.frozen? ⟨w.heap.size + 1, 0, none⟩ = false := (by simp [World.frozen?, hb]); have f1 : w2.frozen? ⟨w.heap.size + 1, 1, none⟩ = false := (by simp [World.frozen?, hb]); have HB : Hid _ := hb; have K2 : Hid _ := k2; clear hb k2 hb2) | (go_at_call 53; refine Calls.mono (cg _) ?_; rintro e _ ⟨rfl, rfl⟩))
  exact bodyPost_ret (results_cm rfl _ _ rfl (load_map (mset_at (mset_at HB.out 0 _) 1 _))) rfl ⟨rfl, ((K1.out.trans K2.out).setFresh HL.out _).setFresh HL.out _⟩

theorem foldl_take {ps : List Pa} {i : Nat} (hi : i < ps.length) (f : List Pa → Pa → List Pa) : (ps.take (i + 1)).foldl f [] = f ((ps.take i).foldl f []) ps[i] := by
  rw [List.take_succ_eq_append_getElem hi, List.foldl_append]
  rfl
theorem mvs_len (lo hi g : Int) : ∀ (ps acc : List Pa), (ps.foldl (mvs lo hi g) acc).length ≤ acc.length + 3 * ps.length
  | [], acc => by simp
  | p :: ps, acc => by
    have h1 := mvs_len lo hi g ps (mvs lo hi g acc p)
    have h2 := mvs_most lo hi g acc p
    simp only [List.foldl_cons, List.length_cons]
    omega

theorem Po.pass {e : TypeId} {w w' : World} {base : Nat} {v : Value} {ps : List Pa} (h : Po e w base v ps) (k : Kept (fun x => v.ownBlock ≠ some x) w w') {B : Nat} {cs : Array Value} {t : TypeId} {fr : Nat × Nat} (hB : w.heap[B]? = some (.cells cs t fr)) (ht : t ≠ e) : w'.heap[B]? = some (.cells cs t fr) :=
  (k.block B (lt_of_block hB) (h.ne hB ht)).trans hB

set_option maxRecDepth 100000 in
set_option maxHeartbeats 4000000 in
theorem move_any {w : World} {ao : Option Addr} {cap : Nat} {ep : Int} {ps : List Pa} (h : Pv w ao ps) (lo hi g : Int) (hr : rgt ep ps = true) (he : ep < 1073741824) (q1 : 0 ≤ lo) (q2 : lo < hi) (q3 : hi ≤ 256) (q4 : isG g = true) :
    Calls Try.prog 24 #[.agg #[.int .i64 ep, .slice ao ps.length cap], .int .i64 lo, .int .i64 hi, .int .i64 g] w fun e w' => ∃ ao' cap', e = .returned (.tuple #[.agg #[.int .i64 (ep + 1), .slice ao' (pcs (upd (ownH ps) lo hi g) 256).length cap'], .int .i64 0]) ∧ Po 79 w' w.heap.size (.slice ao' (pcs (upd (ownH ps) lo hi g) 256).length cap') (pcs (upd (ownH ps) lo hi g) 256) ∧ Kept (fun _ => True) w w' := by
  obtain ⟨he1, -, hrE⟩ := rgt_iff.1 hr
  have hl := rgt_most hrE
  have k1 : Kept (fun _ => True) w ((w.alloc (.cells #[.int .i64 ep, .slice ao ps.length cap] 24)).alloc (.cells #[.int .i64 0, .slice none 0 0] 24)) := ((Kept.refl _ _).alloc _).alloc _
  have c := right_any (cap := cap) (ep := ep) (h.all k1) (by omega)
  have cg := fun W => isGroup_any (w := W) g
  have hX := heap_alloc_new (w.alloc (.cells #[.int .i64 ep, .slice ao ps.length cap] 24)) (.cells #[.int .i64 0, .slice none 0 0] 24)
  have hY : ((w.alloc (.cells #[.int .i64 ep, .slice ao ps.length cap] 24)).alloc (.cells #[.int .i64 0, .slice none 0 0] 24)).heap[w.heap.size]? = some (.cells #[.int .i64 ep, .slice ao ps.length cap] 24 (0, 0)) := by
    rw [Below.heap_alloc _ _ _ (by simp)]; exact heap_alloc_new w _
  have lX : w.heap.size ≤ (w.alloc (.cells #[.int .i64 ep, .slice ao ps.length cap] 24)).heap.size := by simp
  have e1 : (w.alloc (.cells #[.int .i64 ep, .slice ao ps.length cap] 24)).heap.size = w.heap.size + 1 := by simp
  rw [e1] at hX lX
  have HX : Hid _ := hX
  have HY : Hid _ := hY
  have K1 : Hid _ := k1
  have HL : Hid _ := lX
  have HV : Hid (Pv w ao ps) := h
  have HT : Hid ((ps.take ps.length).foldl (mvs lo hi g) [] = pcs (upd (ownH ps) lo hi g) 256) := by
    show _ = _
    rw [List.take_length]
    exact mvs_told hrE q1 q2
  generalize pcs (upd (ownH ps) lo hi g) 256 = R at *
  clear h hX k1 lX e1 hY hrE
  rw [hr] at c
  rw [q4] at cg
  clear hr
  have ez : (ep == 1073741824) = false := by simp; omega
  go_enter Try.func24, Try.ntmps24
  go_wp2_with (first | (go_at_call 35; refine Calls.mono c ?_; rintro e w2 ⟨rfl, k2⟩; have hb := (k2.block _ (lt_of_block HX.out) trivial).trans HX.out; have hb2 := (k2.block _ (lt_of_block HY.out) trivial).trans HY.out; obtain ⟨d0, d1⟩ := mtwo_cell hb2; have HB : Hid _ := hb; have HB2 : Hid _ := hb2; have K2 : Hid _ := k2; clear hb k2 hb2) | (go_at_call 53; refine Calls.mono (cg _) ?_; rintro e _ ⟨rfl, rfl⟩))
  clear c cg
  go_loopw [42, 10] (fun t u wr => ∃ (i : Nat), i ≤ ps.length ∧ t = .int .i64 i ∧ Po 79 wr w.heap.size u ((ps.take i).foldl (mvs lo hi g) []) ∧ wr.heap[w.heap.size]? = some (.cells #[.int .i64 ep, .slice ao ps.length cap] 24 (0, 0)) ∧ wr.heap[w.heap.size + 1]? = some (.cells #[.int .i64 0, .slice none 0 0] 24 (0, 0)) ∧ Kept (fun _ => True) w wr) (fun t _ _ => ps.length - (intOf t).toNat)
  case atStart => exact ⟨0, Nat.zero_le _, rfl, Po.nil _ _ _, HB2.out, HB.out, K1.out.trans K2.out⟩
  case round =>
    obtain ⟨i, hi', rfl, ho, hb2, hb, hk⟩ := hrel
    have HK : Hid (Kept (fun _ => True) w wr) := hk
    have HO : Hid (Po _ _ _ _ _) := ho
    have HBB : Hid (wr.heap[w.heap.size]? = some (.cells #[.int .i64 ep, .slice ao ps.length cap] 24 (0, 0)) ∧ wr.heap[w.heap.size + 1]? = some (.cells #[.int .i64 0, .slice none 0 0] 24 (0, 0))) := ⟨hb2, hb⟩
    clear HB HB2 K2 K1 HX HY d0 d1
    by_cases hlt : i < ps.length
    · clear hb hb2
      have HV2 := HV.out.all HK.out
      obtain ⟨b, off, rfl, hb, hc⟩ := HV2.row (by omega)
      obtain ⟨c0, c1, c2⟩ := hc i hlt
      have HN : Hid ((ps.take (i + 1)).foldl (mvs lo hi g) [] = mvs lo hi g ((ps.take i).foldl (mvs lo hi g) []) ps[i]) := foldl_take hlt _
      have hA : ((ps.take i).foldl (mvs lo hi g) []).length ≤ 1000 := by
        have := mvs_len lo hi g (ps.take i) []
        simp at this
        omega
      clear hc HV2
      generalize hA0 : (ps.take i).foldl (mvs lo hi g) [] = A at *
      generalize ps[i] = p at *
      obtain ⟨plo, phi, pg⟩ := p
      simp only at c0 c1 c2
      have i0 : (0 : Int) ≤ (i : Int) := by omega
      have i1 : (i : Int) < (ps.length : Int) := by omega
      clear hA0 hk
      have kV : Kept (fun _ => True) wr (wr.alloc (.cells #[.int .i64 plo, .int .i64 phi, .int .i64 pg] 79)) := (Kept.refl _ _).alloc _
      have hV := heap_alloc_new wr (.cells #[.int .i64 plo, .int .i64 phi, .int .i64 pg] 79)
      have ho1 := ho.all kV
      have HVo : Hid (u10.ownBlock ≠ some wr.heap.size) := fun e => Nat.lt_irrefl _ (ho.lt e)
      clear ho
      have hm1 : (if lo < phi then lo else phi) = min phi lo := by omega
      have hm2 : (if plo < lo then lo else plo) = max plo lo := by omega
      have hm3 : (if hi < phi then hi else phi) = min phi hi := by omega
      have hm4 : (if plo < hi then hi else plo) = max plo hi := by omega
      have HM : Hid (mvs lo hi g A ⟨plo, phi, pg⟩ = jn (jn (jn A ⟨plo, min phi lo, pg⟩) ⟨max plo lo, min phi hi, g⟩) ⟨max plo hi, phi, pg⟩) := rfl
      have hj1 := jn_most A ⟨plo, min phi lo, pg⟩
      have hj2 := jn_most (jn A ⟨plo, min phi lo, pg⟩) ⟨max plo lo, min phi hi, g⟩
      generalize min phi lo = m1 at *
      generalize max plo lo = m2 at *
      generalize min phi hi = m3 at *
      generalize max plo hi = m4 at *
      have hbw : w.heap.size ≤ (wr.alloc (.cells #[.int .i64 plo, .int .i64 phi, .int .i64 pg] 79)).heap.size := Nat.le_trans HK.out.size kV.size
      have cj1 := join_to ho1 hbw (by omega) plo m1 pg
      obtain ⟨x0, x1, x2⟩ := mthree_cell hV
      have KV : Hid _ := kV
      have HV' : Hid _ := hV
      have HO1 : Hid (Po _ _ _ _ _) := ho1
      clear kV hV ho1
      generalize jn A ⟨plo, m1, pg⟩ = A1 at *
      go_wp2_with fail
      with_reducible refine Calls.mono cj1 ?_
      rintro e w2 ⟨v2, rfl, ho2, k2, n2⟩
      have hV2 := (k2.block _ (lt_of_block HV'.out) HVo.out).trans HV'.out
      have HVo2 : Hid (v2.ownBlock ≠ some wr.heap.size) := fun e => by
        rcases n2 _ e with h | h
        · exact HVo.out h
        · have := lt_of_block HV'.out; omega
      have K2 : Hid (Kept (fun x => u10.ownBlock ≠ some x) wr w2) := (KV.out.mono (fun _ _ _ => trivial)).trans k2
      have HB2 : Hid (w2.heap[w.heap.size]? = some (.cells #[.int .i64 ep, .slice (some ⟨b, off, none⟩) ps.length cap] 24 (0, 0)) ∧ w2.heap[w.heap.size + 1]? = some (.cells #[.int .i64 0, .slice none 0 0] 24 (0, 0))) := ⟨HO.out.pass K2.out HBB.out.1 (by decide), HO.out.pass K2.out HBB.out.2 (by decide)⟩
      have hb2 : w.heap.size ≤ w2.heap.size := Nat.le_trans HK.out.size K2.out.size
      have cj2 := join_to ho2 hb2 (by omega) m2 m3 g
      obtain ⟨y0, y1, y2⟩ := mthree_cell hV2
      have HV2 : Hid _ := hV2
      have HO2 : Hid (Po _ _ _ _ _) := ho2
      clear cj1 x0 x1 x2 hV2 ho2 k2 n2 hb2 KV HV'
      generalize jn A1 ⟨m2, m3, g⟩ = A2 at *
      go_wp2_with fail
      with_reducible refine Calls.mono cj2 ?_
      rintro e w3 ⟨v3, rfl, ho3, k3, n3⟩
      have hV3 := (k3.block _ (lt_of_block HV2.out) HVo2.out).trans HV2.out
      have K3 : Hid (Kept (fun x => u10.ownBlock ≠ some x ∧ v2.ownBlock ≠ some x) wr w3) := (K2.out.mono (fun _ _ h => h.1)).trans (k3.mono (fun _ _ h => h.2))
      have HB3 : Hid (w3.heap[w.heap.size]? = some (.cells #[.int .i64 ep, .slice (some ⟨b, off, none⟩) ps.length cap] 24 (0, 0)) ∧ w3.heap[w.heap.size + 1]? = some (.cells #[.int .i64 0, .slice none 0 0] 24 (0, 0))) := ⟨HO2.out.pass k3 HB2.out.1 (by decide), HO2.out.pass k3 HB2.out.2 (by decide)⟩
      have hb3 : w.heap.size ≤ w3.heap.size := Nat.le_trans HK.out.size K3.out.size
      have cj3 := join_to ho3 hb3 (by omega) m4 phi pg
      obtain ⟨z0, z1, z2⟩ := mthree_cell hV3
      have HO3 : Hid (Po _ _ _ _ _) := ho3
      clear cj2 y0 y1 y2 hV3 ho3 k3 n3 hb3 HV2 K2
      go_wp2_with fail
      with_reducible refine Calls.mono cj3 ?_
      rintro e w4 ⟨v4, rfl, ho4, k4, -⟩
      have K4 : Hid (Kept (fun x => u10.ownBlock ≠ some x ∧ v2.ownBlock ≠ some x ∧ v3.ownBlock ≠ some x) wr w4) := (K3.out.mono (fun _ _ h => ⟨h.1, h.2.1⟩)).trans (k4.mono (fun _ _ h => h.2.2))
      have HO4 : Hid (Po _ _ _ _ _) := ho4
      have HB4 : Hid (w4.heap[w.heap.size]? = some (.cells #[.int .i64 ep, .slice (some ⟨b, off, none⟩) ps.length cap] 24 (0, 0)) ∧ w4.heap[w.heap.size + 1]? = some (.cells #[.int .i64 0, .slice none 0 0] 24 (0, 0))) := ⟨HO3.out.pass k4 HB3.out.1 (by decide), HO3.out.pass k4 HB3.out.2 (by decide)⟩
      clear cj3 z0 z1 z2 ho4 k4 K3
      go_wp2_with fail
      go_roundw
      case rel =>
        refine ⟨i + 1, by omega, by go_num, ?_, ?_, ?_, ?_⟩
        · rw [HN.out, HM.out]; exact HO4.out
        · exact HB4.out.1
        · exact HB4.out.2
        · exact HK.out.then K4.out (fun x hx _ => ⟨fun e => by have := HO.out.ge e; omega, fun e => by have := HO2.out.ge e; omega, fun e => by have := HO3.out.ge e; omega⟩)
      case measure => simp [intOf]; omega
    · have hie : i = ps.length := by omega
      subst hie
      rw [HT.out] at ho
      have hne := ho.ne hb (by decide)
      obtain ⟨ao', cap', rfl, -⟩ := ho.shape
      have HO2 : Hid (Po 79 wr w.heap.size (.slice ao' R.length cap') R) := ho
      have f0 : wr.frozen? ⟨w.heap.size + 1, 0, none⟩ = false := by simp [World.frozen?, hb]
      have f1 : wr.frozen? ⟨w.heap.size + 1, 1, none⟩ = false := by simp [World.frozen?, hb]
      obtain ⟨c0, c1⟩ := mtwo_cell hb
      obtain ⟨d0, d1⟩ := mtwo_cell hb2
      clear hb hb2 hk ho
      go_wp2_with fail
      refine bodyPost_ret (results_cm rfl _ _ rfl (load_map (mset_at (mset_at HBB.out.2 0 _) 1 _))) rfl ⟨ao', cap', rfl, ?_, (HK.out.setFresh (Nat.le_succ _) _).setFresh (Nat.le_succ _) _⟩
      exact HO2.out.kept (p := (· ≠ w.heap.size + 1)) (((Kept.refl _ _).setCell (by simp) _).setCell (by simp) _) (fun k hk e => hne (e ▸ hk))

end Go.Proofs.Ytebpkhemkdgbjaa
