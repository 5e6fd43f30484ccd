/-
  Right and join: the program's.
-/
import Derived.Test.YtebpkhemkdgbjaaM1
namespace Go.Proofs.Ytebpkhemkdgbjaa
open Go.RowKit

theorem mthree_cell {w : World} {b : Nat} {x y z : Value} {t : TypeId} {fr : Nat × Nat} (h : w.heap[b]? = some (.cells #[x, y, z] t fr)) :
    w.cell? ⟨b, 0, none⟩ = some x ∧ w.cell? ⟨b, 1, none⟩ = some y ∧ w.cell? ⟨b, 2, none⟩ = some z := ⟨by simp [World.cell?, h], by simp [World.cell?, h], by simp [World.cell?, h]⟩
theorem mtwo_cell {w : World} {b : Nat} {x y : Value} {t : TypeId} {fr : Nat × Nat} (h : w.heap[b]? = some (.cells #[x, y] t fr)) :
    w.cell? ⟨b, 0, none⟩ = some x ∧ w.cell? ⟨b, 1, none⟩ = some y := ⟨by simp [World.cell?, h], by simp [World.cell?, h]⟩

/-- Behind a store into the last part, or an append. -/
theorem grown_kept {w w' : World} {v : Value} (hg : w.grownBy w' v.ownBlock) : Kept (fun x => v.ownBlock ≠ some x) w w' := (Kept.refl _ _).grown hg (fun _ _ e hp => hp e)

set_option maxRecDepth 100000 in
set_option maxHeartbeats 1000000 in
theorem join_any {w : World} {base : Nat} {v : Value} {ps : List Pa} (h : Po 79 w base v ps) (hb : base ≤ w.heap.size) (hm : ps.length ≤ 1000000) (p : Pa) :
    Calls Try.prog 34 #[v, .agg #[.int .i64 p.lo, .int .i64 p.hi, .int .i64 p.g]] w fun e w' => ∃ v', e = .returned v' ∧ Po 79 w' base v' (jn ps p) ∧ Kept (fun x => v.ownBlock ≠ some x) w w' ∧ (∀ x, v'.ownBlock = some x → v.ownBlock = some x ∨ w.heap.size ≤ x) := by
  obtain ⟨lo, hi, g⟩ := p
  have kX : Kept (fun _ => True) w (w.alloc (.cells #[.int .i64 lo, .int .i64 hi, .int .i64 g] 79)) := (Kept.refl _ _).alloc _
  have h1 := h.all kX
  have hb1 : base ≤ (w.alloc (.cells #[.int .i64 lo, .int .i64 hi, .int .i64 g] 79)).heap.size := Nat.le_trans hb kX.size
  obtain ⟨ao, cap, rfl, hs⟩ := h.shape
  by_cases hlh : hi ≤ lo
  · rw [jn_none ps _ hlh]
    go_enter Try.func34, Try.ntmps34
    go_wp2
    go_ret
    exact ⟨_, rfl, h1, kX.mono (fun _ _ _ => trivial), fun _ hx => .inl hx⟩
  rcases snoc_or ps with rfl | ⟨xs, q, rfl⟩
  · rw [jn_nil _ (show lo < hi by omega)]
    have H1 : Hid (Po 79 (w.alloc (.cells #[.int .i64 lo, .int .i64 hi, .int .i64 g] 79)) base (.slice ao 0 cap) []) := h1
    have HK : Hid (Kept (fun _ => True) w (w.alloc (.cells #[.int .i64 lo, .int .i64 hi, .int .i64 g] 79)) ∧ base ≤ (w.alloc (.cells #[.int .i64 lo, .int .i64 hi, .int .i64 g] 79)).heap.size) := ⟨kX, hb1⟩
    clear h1 kX hb1 h hs
    go_enter Try.func34, Try.ntmps34
    go_wp2
    go_quiet (fail)
    have hX : ((w.alloc (.cells #[.int .i64 lo, .int .i64 hi, .int .i64 g] 79)).drewN nq).heap[w.heap.size]? = some (.cells #[.int .i64 lo, .int .i64 hi, .int .i64 g] 79 (0, 0)) := heap_alloc_new w _
    have k2 : Kept (fun _ => True) w ((w.alloc (.cells #[.int .i64 lo, .int .i64 hi, .int .i64 g] 79)).drewN nq) := HK.out.1.drewN nq
    have H2 : Hid (Po 79 ((w.alloc (.cells #[.int .i64 lo, .int .i64 hi, .int .i64 g] 79)).drewN nq) base (.slice ao 0 cap) []) := H1.out.all ((Kept.refl _ _).drewN nq)
    have hb2 : base ≤ ((w.alloc (.cells #[.int .i64 lo, .int .i64 hi, .int .i64 g] 79)).drewN nq).heap.size := HK.out.2
    obtain ⟨x0, x1, x2⟩ := mthree_cell hX
    clear H1 HK
    generalize (w.alloc (.cells #[.int .i64 lo, .int .i64 hi, .int .i64 g] 79)).drewN nq = w2 at *
    have K2 : Hid (Kept (fun _ => True) w w2 ∧ base ≤ w2.heap.size) := ⟨k2, hb2⟩
    clear k2 hb2 hX hb
    generalize w.heap.size = X at *
    go_wp2_with (at_builtin; refine wpList_append_pa Try.underlying22 Try.infoPa rfl rfl _ _ rfl base _ 0 [] rfl rfl (H2.out.all ((Kept.refl _ _).alloc _)) (Nat.le_trans K2.out.2 ((Kept.refl (fun _ => True) _).alloc _).size) _ rfl ⟨lo, hi, g⟩ (0, 0) (heap_alloc_new _ _) (by omega) ?_; intro ao' cap' w3 ho hg hat)
    go_ret
    exact ⟨_, rfl, ho, ((K2.out.1.alloc _).mono (fun _ _ _ => trivial)).trans (grown_kept hg), fun x hx => by
          rcases hat with h | h
          · exact .inl (h.symm.trans hx)
          · have e := h.symm.trans hx
            cases e
            exact .inr (K2.out.1.alloc _).size⟩
  · have hl : (xs ++ [q]).length = xs.length + 1 := by simp
    obtain ⟨G, rfl⟩ := hs (by rw [hl]; omega)
    have HH := h1
    obtain ⟨c0, c1, c2⟩ := h1.cells xs.length (by rw [hl]; omega)
    have hq : (xs ++ [q])[xs.length]'(by rw [hl]; omega) = q := by simp
    rw [hq] at c0 c1 c2
    rw [hl] at h1 hm ⊢
    have H1 : Hid (Po 79 (w.alloc (.cells #[.int .i64 lo, .int .i64 hi, .int .i64 g] 79)) base (.slice (some ⟨G, 0, none⟩) (xs.length + 1) cap) (xs ++ [q])) := h1
    have HK : Hid (Kept (fun _ => True) w (w.alloc (.cells #[.int .i64 lo, .int .i64 hi, .int .i64 g] 79)) ∧ base ≤ (w.alloc (.cells #[.int .i64 lo, .int .i64 hi, .int .i64 g] 79)).heap.size) := ⟨kX, hb1⟩
    obtain ⟨hst, hfr⟩ := h1.last hi
    have HS : Hid _ := hst
    have g0 : (0 : Int) ≤ (xs.length : Int) := by omega
    have g1 : (xs.length : Int) < (xs.length : Int) + 1 := by omega
    have hsub : ((xs.length + 1 : Nat) : Int) - 1 = (xs.length : Int) := by omega
    have hxn : Hid (xs.length + 1 = (xs ++ [q]).length) := hl.symm
    clear HH h1 kX hb1 h hst hs hq hl
    by_cases hg : q.g = g
    · rw [jn_same xs q _ (show lo < hi by omega) hg]
      have HQ : Hid (q.g = g) := hg
      rw [hg] at c2
      clear hg
      generalize xs.length = n at *
      go_enter Try.func34, Try.ntmps34
      go_wp2
      go_quiet (fail)
      go_wp2
      go_ret
      exact ⟨_, rfl, Po.all (show Po _ _ _ _ _ from HS.out) ((Kept.refl _ _).drewN nq), ((HK.out.1.mono (fun _ _ _ => trivial)).drewN nq).setCell (by simp [Value.ownBlock]) _, fun _ hx => .inl hx⟩
    · rw [jn_new xs q _ (show lo < hi by omega) hg]
      generalize xs.length = n at *
      go_enter Try.func34, Try.ntmps34
      go_wp2
      go_quiet (fail)
      have hX : ((w.alloc (.cells #[.int .i64 lo, .int .i64 hi, .int .i64 g] 79)).drewN nq).heap[w.heap.size]? = some (.cells #[.int .i64 lo, .int .i64 hi, .int .i64 g] 79 (0, 0)) := heap_alloc_new w _
      have k2 : Kept (fun _ => True) w ((w.alloc (.cells #[.int .i64 lo, .int .i64 hi, .int .i64 g] 79)).drewN nq) := HK.out.1.drewN nq
      have H2 : Hid (Po 79 ((w.alloc (.cells #[.int .i64 lo, .int .i64 hi, .int .i64 g] 79)).drewN nq) base (.slice (some ⟨G, 0, none⟩) (n + 1) cap) (xs ++ [q])) := H1.out.all ((Kept.refl _ _).drewN nq)
      have hb2 : base ≤ ((w.alloc (.cells #[.int .i64 lo, .int .i64 hi, .int .i64 g] 79)).drewN nq).heap.size := HK.out.2
      obtain ⟨x0, x1, x2⟩ := mthree_cell hX
      clear H1 HK
      generalize (w.alloc (.cells #[.int .i64 lo, .int .i64 hi, .int .i64 g] 79)).drewN nq = w2 at *
      have K2 : Hid (Kept (fun _ => True) w w2 ∧ base ≤ w2.heap.size) := ⟨k2, hb2⟩
      clear k2 hb2 hX hb c0 c1 c2 hfr HS
      generalize w.heap.size = X at *
      go_wp2_with (at_builtin; refine wpList_append_pa Try.underlying22 Try.infoPa rfl rfl _ _ rfl base _ (n + 1) (xs ++ [q]) rfl hxn.out.symm (H2.out.all ((Kept.refl _ _).alloc _)) (Nat.le_trans K2.out.2 ((Kept.refl (fun _ => True) _).alloc _).size) _ rfl ⟨lo, hi, g⟩ (0, 0) (heap_alloc_new _ _) (by omega) ?_; intro ao' cap' w3 ho hg hat)
      go_ret
      exact ⟨_, rfl, ho, ((K2.out.1.alloc _).mono (fun _ _ _ => trivial)).trans (grown_kept hg), fun x hx => by
            rcases hat with h | h
            · exact .inl (h.symm.trans hx)
            · have e := h.symm.trans hx
              cases e
              exact .inr (K2.out.1.alloc _).size⟩

theorem join_to {w : World} {base : Nat} {v : Value} {ps : List Pa} (h : Po 79 w base v ps) (hb : base ≤ w.heap.size) (hm : ps.length ≤ 1000000) (lo hi g : Int) :
    Calls Try.prog 34 #[v, .agg #[.int .i64 lo, .int .i64 hi, .int .i64 g]] w fun e w' => ∃ v', e = .returned v' ∧ Po 79 w' base v' (jn ps ⟨lo, hi, g⟩) ∧ Kept (fun x => v.ownBlock ≠ some x) w w' ∧ (∀ x, v'.ownBlock = some x → v.ownBlock = some x ∨ w.heap.size ≤ x) := join_any h hb hm ⟨lo, hi, g⟩

set_option maxRecDepth 100000 in
set_option maxHeartbeats 1000000 in
theorem right_any {w : World} {ao : Option Addr} {cap : Nat} {ep : Int} {ps : List Pa} (h : Pv w ao ps) (hl : ps.length ≤ 140737488355328) :
    Calls Try.prog 35 #[.agg #[.int .i64 ep, .slice ao ps.length cap]] w fun e w' => e = .returned (.bool (rgt ep ps)) ∧ Kept (fun _ => True) w w' := by
  have kX : Kept (fun _ => True) w (w.alloc (.cells #[.int .i64 ep, .slice ao ps.length cap] 24)) := (Kept.refl _ _).alloc _
  by_cases h0 : ep < 1
  · have HR : Hid (rgt ep ps = false) := by
      show _ = _
      simp [rgt, show ¬ (1 ≤ ep) by omega]
    clear h
    go_enter Try.func35, Try.ntmps35
    go_wp2
    go_ret
    exact ⟨by rw [HR.out]; rfl, kX⟩
  by_cases h1 : 1073741824 < ep
  · have HR : Hid (rgt ep ps = false) := by
      show _ = _
      simp [rgt, show ¬ (ep ≤ 1073741824) by omega]
    clear h
    go_enter Try.func35, Try.ntmps35
    go_wp2
    go_ret
    exact ⟨by rw [HR.out]; rfl, kX⟩
  have HR : Hid (rgt ep ps = rgtE 0 (-1) ps) := by
    show _ = _
    simp [rgt, show 1 ≤ ep by omega, show ep ≤ 1073741824 by omega]
  have HV : Hid (Pv w ao ps) := h
  have HX : Hid (Kept (fun _ => True) w (w.alloc (.cells #[.int .i64 ep, .slice ao ps.length cap] 24))) := kX
  clear h kX
  generalize hE : rgtE 0 (-1) ps = E at *
  have HE : Hid (rgtE 0 (-1) (ps.drop 0) = E) := by
    show _ = _
    rw [List.drop_zero]; exact hE
  clear hE
  go_enter Try.func35, Try.ntmps35
  go_wp2
  go_loopw [18, 3, 4] (fun t u v wr => ∃ (i : Nat) (e l : Int), i ≤ ps.length ∧ t = .int .i64 i ∧ u = .int .i64 e ∧ v = .int .i64 l ∧ rgtE e l (ps.drop i) = E ∧ Kept (fun _ => True) w wr) (fun t _ _ _ => ps.length - (intOf t).toNat)
  case atStart => exact ⟨0, 0, -1, Nat.zero_le _, rfl, rfl, rfl, HE.out, HX.out⟩
  case round =>
    obtain ⟨i, e, l, hi, rfl, rfl, rfl, hE, hk⟩ := hrel
    have HK : Hid (Kept (fun _ => True) w wr) := hk
    clear hk HE HX
    by_cases hlt : i < ps.length
    · obtain ⟨b, off, rfl, hb, hc⟩ := (HV.out.all HK.out).row (by omega)
      obtain ⟨c0, c1, c2⟩ := hc i hlt
      rw [List.drop_eq_getElem_cons hlt] at hE
      have HE : Hid (rgtE e l (ps[i] :: ps.drop (i + 1)) = E) := hE
      clear hc hE
      generalize ps[i] = p at *
      obtain ⟨plo, phi, pg⟩ := p
      simp only at c0 c1 c2
      have i0 : (0 : Int) ≤ (i : Int) := by omega
      have i1 : (i : Int) < (ps.length : Int) := by omega
      have kV : Kept (fun _ => True) wr (wr.alloc (.cells #[.int .i64 plo, .int .i64 phi, .int .i64 pg] 79)) := (Kept.refl _ _).alloc _
      have HK2 : Hid (Kept (fun _ => True) w (wr.alloc (.cells #[.int .i64 plo, .int .i64 phi, .int .i64 pg] 79))) := HK.out.trans kV
      have cg := fun W => isGroup_any (w := W) pg
      clear kV HK
      by_cases q0 : plo = e
      · by_cases q1 : plo < phi
        · by_cases q2 : isG pg = true
          · rw [q2] at cg
            by_cases q3 : pg = l
            · have HN : Hid (E = false) := by
                show _ = _
                rw [← HE.out]; simp [rgtE, q3]
              clear HE
              subst q0 q3
              go_wp2_with (go_at_call 53; refine Calls.mono (cg _) ?_; rintro e _ ⟨rfl, rfl⟩)
              go_ret
              exact ⟨by rw [HR.out, HN.out]; rfl, HK2.out⟩
            · have HN : Hid (rgtE phi pg (ps.drop (i + 1)) = E) := by
                show _ = _
                rw [← HE.out]; simp [rgtE, q0, q2, q3, show e < phi by omega]
              have q4 : (pg == l) = false := by simpa using q3
              clear HE
              subst q0
              go_wp2_with (go_at_call 53; refine Calls.mono (cg _) ?_; rintro e _ ⟨rfl, rfl⟩)
              go_quiet (fail)
              go_wp2
              go_roundw
              case rel => exact ⟨i + 1, phi, pg, by omega, by go_num, rfl, rfl, HN.out, HK2.out.drewN _⟩
              case measure => simp [intOf]; omega
          · have q2' : isG pg = false := by simpa using q2
            rw [q2'] at cg
            have HN : Hid (E = false) := by
              show _ = _
              rw [← HE.out]; simp [rgtE, q2']
            clear HE q2 q2'
            subst q0
            go_wp2_with (go_at_call 53; refine Calls.mono (cg _) ?_; rintro e _ ⟨rfl, rfl⟩)
            go_ret
            exact ⟨by rw [HR.out, HN.out]; rfl, HK2.out⟩
        · have HN : Hid (E = false) := by
            show _ = _
            rw [← HE.out]; simp [rgtE, q1]
          clear HE
          subst q0
          go_wp2
          go_ret
          exact ⟨by rw [HR.out, HN.out]; rfl, HK2.out⟩
      · have HN : Hid (E = false) := by
          show _ = _
          rw [← HE.out]; simp [rgtE, q0]
        clear HE
        go_wp2
        go_ret
        exact ⟨by rw [HR.out, HN.out]; rfl, HK2.out⟩
    · have hie : i = ps.length := by omega
      subst hie
      rw [List.drop_length] at hE
      by_cases hz : e = 256
      · have HN : Hid (E = true) := by
          show _ = _
          rw [← hE]; simp [rgtE, hz]
        clear hE
        go_wp2
        go_ret
        exact ⟨by rw [HR.out, HN.out]; rfl, HK.out⟩
      · have HN : Hid (E = false) := by
          show _ = _
          rw [← hE]; simp [rgtE, hz]
        have hz2 : (e == 256) = false := by simpa using hz
        clear hE
        go_wp2
        go_ret
        exact ⟨by rw [HR.out, HN.out]; rfl, HK.out⟩

end Go.Proofs.Ytebpkhemkdgbjaa
