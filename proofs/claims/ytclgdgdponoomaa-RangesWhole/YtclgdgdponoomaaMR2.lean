/-
  The document's Parts.
-/
import Derived.Test.YtclgdgdponoomaaMR0
import Derived.Test.YtclgdgdponoomaaM3
namespace Go.Proofs.Ytclgdgdponoomaa
open Go.RowKit

theorem Try.infoRp : (Try.prog.info? 86).map (fun i => (i.zero, i.size, i.bytes)) = some (some (.agg #[.int .i64 0, .int .i64 0, .int .i64 0]), 3, 24) := by kernel_rfl
theorem Rm.apart {e : TypeId} {w : World} {base b : Nat} {v : Value} {ps : List Pa} {ep : Int} {f : Nat → Int} (h : Rm w b ep f) (ho : Po e w base v ps) (he : 39 ≠ e) : v.ownBlock ≠ some b := ho.ne h.block he

set_option maxRecDepth 100000 in
set_option maxHeartbeats 2000000 in
theorem rpcs_any {w : World} (ep : Int) (f : Nat → Int) :
    Calls Try.prog 39 #[.agg (mcs ep f).toArray] w fun e w' => ∃ ao cap, e = .returned (.slice ao (pcs f 256).length cap) ∧ Po 86 w' w.heap.size (.slice ao (pcs f 256).length cap) (pcs f 256) ∧ Kept (fun _ => True) w w' := by
  go_enter Try.func39, Try.ntmps39
  go_wp2_with ((with_reducible refine w_box_m (ep := ep) (f := f) ?hx ?_); (case hx => rfl); intro w2 h2 k2 s2)
  have H2 : Hid (Rm w2 w.heap.size ep f) := h2
  have K2 : Hid (Kept (fun _ => True) w w2) := k2
  clear h2 k2 s2
  go_loopw [4, 3] (fun t u wr => ∃ (h : Nat), h ≤ 256 ∧ t = .int .i64 h ∧ Po 86 wr w.heap.size u (pcs f h) ∧ Rm wr w.heap.size ep f ∧ Kept (fun _ => True) w wr) (fun t _ _ => 256 - (intOf t).toNat)
  case atStart => exact ⟨0, Nat.zero_le _, rfl, Po.nil _ _ _, H2.out, K2.out⟩
  case round =>
    obtain ⟨h, hh, rfl, ho, hR, hk⟩ := hrel
    have HO : Hid (Po _ _ _ _ _) := ho
    have HR : Hid (Rm _ _ _ _) := hR
    have HK : Hid (Kept _ _ _) := hk
    clear H2 K2
    have j0 : (0 : Int) ≤ (h : Int) := by omega
    by_cases hl : h < 256
    · have j1 : (h : Int) < 256 := by omega
      have c1 := hR.of hl
      have hm := pcs_most f h
      have HN : Hid (pcs f (h + 1) = jn (pcs f h) ⟨h, h + 1, f h⟩) := rfl
      have h0 : (h : Int) < (h : Int) + 1 := by omega
      generalize f h = g at *
      generalize hps : pcs f h = ps at *
      clear hps
      rcases snoc_or ps with rfl | ⟨xs, q, rfl⟩
      · rw [jn_nil _ h0] at HN
        obtain ⟨ao, cap, rfl, -⟩ := ho.shape
        have HO2 : Hid (Po 86 wr w.heap.size (.slice ao 0 cap) []) := ho
        clear ho hR hk HO
        go_wp2_with fail
        go_quiet (fail)
        have HO3 : Hid (Po 86 (wr.drewN nq) w.heap.size (.slice ao 0 cap) []) := HO2.out.all ((Kept.refl _ _).drewN nq)
        have c2 : (wr.drewN nq).cell? ⟨w.heap.size, 1 + h, none⟩ = some (.int .i64 g) := c1
        have HR3 : Hid (Rm (wr.drewN nq) w.heap.size ep f) := HR.out.all ((Kept.refl _ _).drewN nq)
        have HK3 : Hid (Kept (fun _ => True) w (wr.drewN nq)) := HK.out.drewN nq
        clear HO2 c1 HR HK
        generalize wr.drewN nq = w3 at *
        go_wp2_with (at_builtin; refine wpList_append_pa Try.underlying84 Try.infoRp rfl rfl _ _ rfl w.heap.size _ 0 [] rfl rfl (HO3.out.all ((Kept.refl _ _).alloc _)) (Nat.le_trans HK3.out.size ((Kept.refl (fun _ => True) _).alloc _).size) _ rfl ⟨h, h + 1, g⟩ (0, 0) (heap_alloc_new _ _) (by omega) ?_; intro ao' cap' w4 ho4 hg hat; have k4 := ((Kept.refl (fun x => (Value.slice ao 0 cap).ownBlock ≠ some x) w3).alloc _).trans (grown_kept hg); have HO4 : Hid (Po _ _ _ _ _) := ho4; have HK4 : Hid (Kept (fun x => (Value.slice ao 0 cap).ownBlock ≠ some x) w3 w4) := k4; clear ho4 hg hat k4)
        go_roundw
        case rel =>
          refine ⟨h + 1, by omega, by go_num, ?_, HR3.out.kept HK4.out (HR3.out.apart HO3.out (by decide)), HK3.out.then HK4.out (fun i hi _ e => by have := HO3.out.ge e; omega)⟩
          rw [HN.out]
          exact HO4.out
        case measure => simp [intOf]; omega
      · have hlen : (xs ++ [q]).length = xs.length + 1 := by simp
        obtain ⟨ao, cap, rfl, hs⟩ := ho.shape
        obtain ⟨G, rfl⟩ := hs (by rw [hlen]; omega)
        obtain ⟨d0, d1, d2⟩ := ho.cells xs.length (by rw [hlen]; omega)
        have hq : (xs ++ [q])[xs.length]'(by rw [hlen]; omega) = q := by simp
        rw [hq] at d0 d1 d2
        rw [hlen] at ho hm
        have HO2 : Hid (Po 86 wr w.heap.size (.slice (some ⟨G, 0, none⟩) (xs.length + 1) cap) (xs ++ [q])) := ho
        obtain ⟨hst, hfr⟩ := ho.last ((h : Int) + 1)
        have HS : Hid (Po _ _ _ _ _) := hst
        have g0 : (0 : Int) < ((xs.length : Int) + 1) := by omega
        have hxn : Hid (xs.length + 1 = (xs ++ [q]).length) := hlen.symm
        clear ho hR hk HO hst hs hq
        by_cases hg : q.g = g
        · rw [jn_same xs q _ h0 hg] at HN
          rw [hg] at d2
          clear hg
          rw [hlen]
          clear hlen
          generalize xs.length = n at *
          go_wp2_with fail
          go_quiet (fail)
          go_wp2_with fail
          go_roundw
          case rel =>
            have hne := HR.out.apart HO2.out (by decide)
            refine ⟨h + 1, by omega, by go_num, ?_, (HR.out.all ((Kept.refl _ _).drewN nq)).kept (p := fun x => x ≠ G) ((Kept.refl _ _).setCell (by simp) _) (fun e => hne (by rw [e]; rfl)), (HK.out.drewN nq).setFresh (by have := HO2.out.ge rfl; exact this) _⟩
            rw [HN.out]
            exact HS.out.all ((Kept.refl _ _).drewN nq)
          case measure => simp [intOf]; omega
        · rw [jn_new xs q _ h0 hg] at HN
          have hgb : (q.g == g) = false := by simpa using hg
          rw [hlen]
          clear hlen HS hfr
          generalize xs.length = n at *
          go_wp2_with fail
          go_quiet (fail)
          have HO3 : Hid (Po 86 (wr.drewN nq) w.heap.size (.slice (some ⟨G, 0, none⟩) (n + 1) cap) (xs ++ [q])) := HO2.out.all ((Kept.refl _ _).drewN nq)
          have c2 : (wr.drewN nq).cell? ⟨w.heap.size, 1 + h, none⟩ = some (.int .i64 g) := c1
          have HR3 : Hid (Rm (wr.drewN nq) w.heap.size ep f) := HR.out.all ((Kept.refl _ _).drewN nq)
          have HK3 : Hid (Kept (fun _ => True) w (wr.drewN nq)) := HK.out.drewN nq
          clear HO2 c1 HR HK d0 d1 d2
          generalize wr.drewN nq = w3 at *
          go_wp2_with (at_builtin; refine wpList_append_pa Try.underlying84 Try.infoRp rfl rfl _ _ rfl w.heap.size _ (n + 1) (xs ++ [q]) rfl hxn.out.symm (HO3.out.all ((Kept.refl _ _).alloc _)) (Nat.le_trans HK3.out.size ((Kept.refl (fun _ => True) _).alloc _).size) _ rfl ⟨h, h + 1, g⟩ (0, 0) (heap_alloc_new _ _) (by omega) ?_; intro ao' cap' w4 ho4 hg hat; have k4 := ((Kept.refl (fun x => (Value.slice (some ⟨G, 0, none⟩) (n + 1) cap).ownBlock ≠ some x) w3).alloc _).trans (grown_kept hg); have HO4 : Hid (Po _ _ _ _ _) := ho4; have HK4 : Hid (Kept (fun x => (Value.slice (some ⟨G, 0, none⟩) (n + 1) cap).ownBlock ≠ some x) w3 w4) := k4; clear ho4 hg hat k4)
          go_roundw
          case rel =>
            refine ⟨h + 1, by omega, by go_num, ?_, HR3.out.kept HK4.out (HR3.out.apart HO3.out (by decide)), HK3.out.then HK4.out (fun i hi _ e => by have := HO3.out.ge e; omega)⟩
            rw [HN.out]
            exact HO4.out
          case measure => simp [intOf]; omega
    · have he : h = 256 := by omega
      subst he
      obtain ⟨ao, cap, rfl, -⟩ := ho.shape
      have HO2 : Hid (Po 86 wr w.heap.size (.slice ao (pcs f 256).length cap) (pcs f 256)) := ho
      clear ho hR hk HO HR
      go_wp2_with fail
      go_ret
      exact ⟨ao, cap, rfl, HO2.out, HK.out⟩

end Go.Proofs.Ytclgdgdponoomaa
