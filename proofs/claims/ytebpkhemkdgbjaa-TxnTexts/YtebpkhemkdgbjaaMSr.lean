/-
  Split: the program's.
-/
import Derived.Test.YtebpkhemkdgbjaaMSq
namespace Go.Proofs.Ytebpkhemkdgbjaa
open Go.RowKit

/-- What Split leaves: groups, and the places of each. -/
def ESplitB (b : Nat) (h : Nat → Int) (n : Nat) (w : World) (e : Ending) (w' : World) : Prop := ∃ gv pv vs, e = .returned (.tuple #[gv, pv]) ∧ Its w' b gv (grp h n 3) ∧ Sls w' b pv vs ∧ vs.length = (grp h n 3).length ∧ (∀ i (h1 : i < vs.length) (h2 : i < (grp h n 3).length), Its w' b vs[i] (idx h n (grp h n 3)[i])) ∧ Kept (fun _ => True) w w'
def ESplit (h : Nat → Int) (n : Nat) (w : World) (e : Ending) (w' : World) : Prop := ∃ gv pv vs, e = .returned (.tuple #[gv, pv]) ∧ Its w' 0 gv (grp h n 3) ∧ Sls w' 0 pv vs ∧ vs.length = (grp h n 3).length ∧ (∀ i (h1 : i < vs.length) (h2 : i < (grp h n 3).length), Its w' 0 vs[i] (idx h n (grp h n 3)[i])) ∧ Kept (fun _ => True) w w'

theorem Its.low {w : World} {b b' : Nat} {v : Value} {ns : List Nat} (h : Its w b v ns) (hb : b' ≤ b) : Its w b' v ns := by
  refine ⟨h.1, ?_⟩
  rcases h.2 with h0 | ⟨g, cap, cur, rfl, hg, rest⟩
  · exact .inl h0
  · exact .inr ⟨g, cap, cur, rfl, Nat.le_trans hb hg, rest⟩
theorem Sls.low {w : World} {b b' : Nat} {v : Value} {vs : List Value} (h : Sls w b v vs) (hb : b' ≤ b) : Sls w b' v vs := by
  refine ⟨⟨h.1.1, ?_⟩, h.2⟩
  rcases h.1.2 with h0 | ⟨g, cap, cur, rfl, hg, rest⟩
  · exact .inl h0
  · exact .inr ⟨g, cap, cur, rfl, Nat.le_trans hb hg, rest⟩

theorem index_sl0 (a b c : Value) (W : World) : (Instr.index 105 (.agg #[a, b, c]) (.int .i64 0)).run Try.prog W = .ok a W := by kernel_rfl
theorem index_sl1 (a b c : Value) (W : World) : (Instr.index 105 (.agg #[a, b, c]) (.int .i64 1)).run Try.prog W = .ok b W := by kernel_rfl
theorem index_sl2 (a b c : Value) (W : World) : (Instr.index 105 (.agg #[a, b, c]) (.int .i64 2)).run Try.prog W = .ok c W := by kernel_rfl
theorem sls_its {w : World} {b b' : Nat} {v u : Value} {vs : List Value} {ns : List Nat} (h : Sls w b v vs) (h' : Its w b' u ns) (x : Nat) (hx : v.ownBlock = some x) (hy : u.ownBlock = some x) : False := by
  rcases h.1.2 with ⟨hv, _⟩ | ⟨g, cap, cur, hv, _, hh, _⟩
  · rw [hv] at hx; simp [Value.ownBlock] at hx
  · rw [hv] at hx; simp [Value.ownBlock] at hx
    subst hx
    exact h'.ne hh (by decide) hy

set_option maxRecDepth 100000 in
set_option maxHeartbeats 4000000 in
theorem split_new {w : World} {ao : Option Addr} {cap : Nat} {ep : Int} {ps : List Pa} (h : Pv w ao ps) (hr : rgt ep ps = true) {am : Option Addr} {cm : Nat} {os : List Oz} (hm : Ov w am os) (hs : ∀ o ∈ os, o.cas.length ≤ 140737488355328) (hlo : os.length ≤ 1000) :
    Calls Try.prog 33 #[.agg #[.int .i64 ep, .slice ao ps.length cap], .slice am os.length cm] w fun e w' => ESplitB w.heap.size (hof ps os) os.length w e w' := by
  obtain ⟨-, -, hrE⟩ := rgt_iff.1 hr
  have hl := rgt_most hrE
  have kX : Kept (fun _ => True) w (w.alloc (.cells #[.int .i64 ep, .slice ao ps.length cap] 24)) := (Kept.refl _ _).alloc _
  have HB : Hid (Bx (w.alloc (.cells #[.int .i64 ep, .slice ao ps.length cap] 24)) w.heap.size ao cap ep ps) := Bx.made h
  have c := right_any (cap := cap) (ep := ep) (h.all kX) (by omega)
  rw [hr] at c
  have HM : Hid (Ov w am os) := hm
  have HS : Hid (∀ o ∈ os, o.cas.length ≤ 140737488355328) := hs
  have HK : Hid _ := kX
  have HR : Hid (rgtE 0 (-1) ps = true) := hrE
  have HV : Hid (Pv w ao ps) := h
  clear h hm hs kX hr hrE
  go_enter Try.func33, Try.ntmps33
  go_wp2_with (go_at_call 35; (with_reducible refine Calls.mono c ?_); rintro e w2 ⟨rfl, k2⟩; have HB2 : Hid (Bx w2 w.heap.size ao cap ep ps) := HB.out.all k2; have K2 : Hid (Kept (fun _ => True) w w2) := HK.out.trans k2; clear k2)
  have hAl : Al w (w2.alloc (.cells #[.slice none 0 0, .slice none 0 0, .slice none 0 0] 105)) w2.heap.size (fun _ => .slice none 0 0) (idx (hof ps os) 0) := ⟨heap_alloc_new w2 _, fun i _ => Its.nil _ _, fun i j x _ _ _ hx => by simp [Value.ownBlock] at hx⟩
  have HA : Hid (Al w (w2.alloc (.cells #[.slice none 0 0, .slice none 0 0, .slice none 0 0] 105)) w2.heap.size (fun _ => .slice none 0 0) (idx (hof ps os) 0)) := hAl
  have HB3 : Hid (Bx (w2.alloc (.cells #[.slice none 0 0, .slice none 0 0, .slice none 0 0] 105)) w.heap.size ao cap ep ps) := HB2.out.all ((Kept.refl _ _).alloc _)
  have K3 : Hid (Kept (fun _ => True) w (w2.alloc (.cells #[.slice none 0 0, .slice none 0 0, .slice none 0 0] 105)) ∧ w.heap.size < w2.heap.size) := ⟨K2.out.alloc _, lt_of_block HB2.out.self⟩
  clear hAl c HB HK HB2 K2
  generalize w2.alloc (.cells #[.slice none 0 0, .slice none 0 0, .slice none 0 0] 105) = w3 at *
  generalize w2.heap.size = A at *
  go_loopw [19] (fun t wr => ∃ (k : Nat) (s : Nat → Value), k ≤ os.length ∧ t = .int .i64 k ∧ Al w wr A s (idx (hof ps os) k) ∧ wr.heap[w.heap.size]? = some (.cells #[.int .i64 ep, .slice ao ps.length cap] 24 (0, 0)) ∧ Kept (fun _ => True) w wr) (fun t _ => os.length - (intOf t).toNat)
  case atStart => exact ⟨0, _, Nat.zero_le _, rfl, HA.out, HB3.out.self, K3.out.1⟩
  case round =>
    obtain ⟨k, s, hk, rfl, hAl, hBx, hkk⟩ := hrel
    have HA' : Hid (Al w wr A s (idx (hof ps os) k)) := hAl
    have HB' : Hid (Bx wr w.heap.size ao cap ep ps) := ⟨hBx, HV.out.all hkk⟩
    have HK' : Hid (Kept (fun _ => True) w wr) := hkk
    have HAw : Hid (w.heap.size < A) := K3.out.2
    clear HA HB3 hAl hBx hkk K3
    by_cases hlt : k < os.length
    · obtain ⟨b, off, rfl, hb, hc⟩ := (HM.out.all HK'.out).row (by omega)
      obtain ⟨d0, d1, d2, d3⟩ := hc k hlt
      obtain ⟨g, hg3, hgo⟩ := hof_group (ps := ps) hlt HR.out
      have hgo2 : ownH ps (hashOf os[k].cas) = (g : Int) := by rw [← hof_at hlt]; exact hgo
      have hsl := HS.out os[k] (List.getElem_mem _)
      clear hc
      generalize os[k] = o at *
      obtain ⟨ok, oc, on_, oN⟩ := o
      simp only at d0 d1 d2 d3 hgo2 hsl
      have HGO : Hid (hof ps os k = (g : Int)) := hgo
      have i0 : (0 : Int) ≤ (k : Int) := by omega
      have i1 : (k : Int) < (os.length : Int) := by omega
      have kV : Kept (fun _ => True) wr (wr.alloc (.cells #[.int .i64 ok, .string ⟨oc.toArray⟩, .string ⟨on_.toArray⟩, .int .i64 oN] 32)) := (Kept.refl _ _).alloc _
      have co := owner_any (cap := cap) (HB'.out.all kV).view (by omega) oc (by omega)
      rw [hgo2] at co
      have KV : Hid _ := kV
      obtain ⟨x0, x1⟩ := (HB'.out.all kV).cells
      clear hgo hgo2 kV
      go_wp2_with fail
      with_reducible refine Calls.mono co ?_
      rintro e w4 ⟨rfl, k4⟩
      have hA4 := HA'.out.all (KV.out.trans k4)
      have HB4 : Hid (Bx w4 w.heap.size ao cap ep ps) := HB'.out.all (KV.out.trans k4)
      have K4 : Hid (Kept (fun _ => True) w w4) := HK'.out.trans (KV.out.trans k4)
      have HA4 : Hid (Al w w4 A s (idx (hof ps os) k)) := hA4
      have y0 := hA4.self.cell hg3
      have yf := hA4.self.free g
      have yl := hA4.self.lt
      obtain ⟨so, sc, hso⟩ := (hA4.its g hg3).shape
      rw [hso] at y0
      have hlen := idx_most (hof ps os) k g
      have HSO : Hid (s g = .slice so (idx (hof ps os) k g).length sc) := hso
      have HI : Hid (Its w4 w.heap.size (.slice so (idx (hof ps os) k g).length sc) (idx (hof ps os) k g)) := by rw [← hso]; exact hA4.its g hg3
      have HN : Hid (idx (hof ps os) (k + 1) g = idx (hof ps os) k g ++ [k]) := idx_yes _ _ _ HGO.out
      have HN2 : Hid (∀ j, j ≠ g → idx (hof ps os) (k + 1) j = idx (hof ps os) k j) := fun j hj => idx_no _ _ _ (by rw [HGO.out]; omega)
      have hneA : (Value.slice so (idx (hof ps os) k g).length sc).ownBlock ≠ some A := HI.out.ne hA4.self (by decide)
      have gi0 : (0 : Int) ≤ (g : Int) := by omega
      have gi1 : (g : Int) < 3 := by omega
      clear co hA4 hso k4 KV HB' HK' HA' x0 x1 d0 d1 d2 d3 HGO hsl
      generalize hix : idx (hof ps os) k g = ix at *
      have HIX : Hid (idx (hof ps os) k g = ix) := hix
      clear hix
      go_wp2_with (at_builtin; refine wpList_append_it rfl _ _ rfl w.heap.size (.slice so ix.length sc) ix rfl (HI.out.all ((Kept.refl _ _).alloc _)) (Nat.le_trans K4.out.size ((Kept.refl (fun _ => True) _).alloc _).size) _ rfl k (0, 0) (heap_alloc_new _ _) (by omega) ?_; intro ao' cap' w5 ho5 hg5 hat5; have hl5 : A < (w4.alloc (.cells #[.int .i64 (k : Nat)] 3)).heap.size := Nat.lt_of_lt_of_le yl ((Kept.refl (fun _ => True) _).alloc _).size; have c5 : w5.cell? ⟨A, g, none⟩ = some (.slice so ix.length sc) := (hg5.cell_far _ hl5 (Ne.symm hneA)).trans ((kept_cell ((Kept.refl (fun _ => True) w4).alloc _) yl trivial).trans y0); have f5 : w5.frozen? ⟨A, g, none⟩ = false := (hg5.frozen_far _ hl5 (Ne.symm hneA)).trans ((kept_frozen ((Kept.refl (fun _ => True) w4).alloc _) yl trivial).trans yf); have k5 : Kept (fun x => (Value.slice so ix.length sc).ownBlock ≠ some x) w4 w5 := ((Kept.refl _ _).alloc _).trans (grown_kept hg5); have HO5 : Hid (Its _ _ _ _) := ho5; have HK5 : Hid (Kept (fun x => (Value.slice so ix.length sc).ownBlock ≠ some x) w4 w5) := k5; have HT5 : Hid ((Value.slice ao' (ix.length + 1) cap').ownBlock = (Value.slice so ix.length sc).ownBlock ∨ (Value.slice ao' (ix.length + 1) cap').ownBlock = some (w4.alloc (.cells #[.int .i64 (k : Nat)] 3)).heap.size) := hat5; clear ho5 hg5 hat5 k5 hl5)
      go_roundw
      case rel =>
        have hp := HA4.out.push hg3 HO5.out (by rw [HSO.out]; exact HK5.out) (fun x hx => by
          rw [HSO.out]
          rcases HT5.out with q | q
          · exact .inl (q.symm.trans hx)
          · have e := q.symm.trans hx
            cases e
            exact .inr ((Kept.refl (fun _ => True) w4).alloc _).size)
        refine ⟨k + 1, _, by omega, by go_num, ⟨hp.self, fun i hi => ?_, hp.apart⟩, ?_, ?_⟩
        · have := hp.its i hi
          by_cases e : i = g
          · subst e
            rw [if_pos rfl, if_pos rfl] at this
            rw [if_pos rfl, HN.out]
            exact this
          · rw [if_neg e, if_neg e] at this
            rw [if_neg e, HN2.out i e]
            exact this
        · rw [Below.heap_setCell _ _ _ _ (by show w.heap.size ≠ A; have := HAw.out; omega)]
          exact (HK5.out.block _ (lt_of_block HB4.out.self) (HI.out.ne HB4.out.self (by decide))).trans HB4.out.self
        · exact (K4.out.then HK5.out (fun x hx _ e => by have := HI.out.ge e; omega)).setFresh (Nat.le_of_lt HAw.out) _
      case measure => simp [intOf]; omega
    · have hke : k = os.length := by omega
      subst hke
      have a0 := HA'.out.self.cell (i := 0) (by omega)
      have a1 := HA'.out.self.cell (i := 1) (by omega)
      have a2 := HA'.out.self.cell (i := 2) (by omega)
      obtain ⟨o0, q0, e0⟩ := (HA'.out.its 0 (by omega)).shape
      obtain ⟨o1, q1, e1⟩ := (HA'.out.its 1 (by omega)).shape
      obtain ⟨o2, q2, e2⟩ := (HA'.out.its 2 (by omega)).shape
      have I0 : Hid (Its wr w.heap.size (.slice o0 (idx (hof ps os) os.length 0).length q0) (idx (hof ps os) os.length 0)) := by rw [← e0]; exact HA'.out.its 0 (by omega)
      have I1 : Hid (Its wr w.heap.size (.slice o1 (idx (hof ps os) os.length 1).length q1) (idx (hof ps os) os.length 1)) := by rw [← e1]; exact HA'.out.its 1 (by omega)
      have I2 : Hid (Its wr w.heap.size (.slice o2 (idx (hof ps os) os.length 2).length q2) (idx (hof ps os) os.length 2)) := by rw [← e2]; exact HA'.out.its 2 (by omega)
      rw [e0] at a0
      rw [e1] at a1
      rw [e2] at a2
      have hAl := HA'.out.self.lt
      clear HA' HB' e0 e1 e2 hlt HM HS HR HAw
      obtain ⟨wq, ewq⟩ : ∃ x, x = wr := ⟨_, rfl⟩
      subst ewq
      have HWs : Hid (Kept (fun _ => True) w wq) := HK'.out
      clear HK'
      go_wp2_with fail
      go_loopw [39, 10, 11] (fun t gv pv wx => ∃ (i : Nat) (vs : List Value), i ≤ 3 ∧ t = .int .i64 i ∧ Its wx wq.heap.size gv (grp (hof ps os) os.length i) ∧ Sls wx wq.heap.size pv vs ∧ vs.length = (grp (hof ps os) os.length i).length ∧ (∀ j (h1 : j < vs.length) (h2 : j < (grp (hof ps os) os.length i).length), Its wq w.heap.size vs[j] (idx (hof ps os) os.length (grp (hof ps os) os.length i)[j])) ∧ Kept (fun x => x < wq.heap.size) wq wx) (fun t _ _ _ => 3 - (intOf t).toNat)
      case atStart => exact ⟨0, [], by omega, rfl, Its.nil _ _, Sls.nil _ _, rfl, fun j h1 => by simp at h1, Kept.refl _ _⟩
      case round =>
      obtain ⟨i, vs, hi3, rfl, hG, hP, hvl, hvs, hwx⟩ := hrel
      have HG0 : Hid (Its _ _ _ _) := hG
      have HP0 : Hid (Sls _ _ _ _) := hP
      have HVS : Hid (∀ j (h1 : j < vs.length) (h2 : j < (grp (hof ps os) os.length i).length), Its wq w.heap.size vs[j] (idx (hof ps os) os.length (grp (hof ps os) os.length i)[j])) := hvs
      have HWx : Hid (Kept (fun x => x < wq.heap.size) wq wr) := hwx
      have hgm := grp_most (hof ps os) os.length i
      obtain ⟨go, gc, rfl⟩ := hG.shape
      obtain ⟨po, pc, rfl⟩ := hP.shape
      have HG : Hid (Its wr wq.heap.size (.slice go (grp (hof ps os) os.length i).length gc) (grp (hof ps os) os.length i)) := hG
      have HP2 : Hid (Sls wr wq.heap.size (.slice po vs.length pc) vs) := hP
      have HVL : Hid (vs.length = (grp (hof ps os) os.length i).length) := hvl
      have hvm : vs.length ≤ 3 := by omega
      clear hG hP hvs hwx HG0 HP0 a0 a1 a2 hAl hvl
      have hgs : True := trivial
      have hcs : i = 0 ∨ i = 1 ∨ i = 2 ∨ i = 3 := by omega
      rcases hcs with hik | hik | hik | hik
      · subst hik
        have I : Hid (Its wq w.heap.size (.slice o0 (idx (hof ps os) os.length 0).length q0) (idx (hof ps os) os.length 0)) := I0.out
        have HNY : Hid (0 < (idx (hof ps os) os.length 0).length → grp (hof ps os) os.length (0 + 1) = grp (hof ps os) os.length 0 ++ [0]) := grp_yes _ _ _
        have HNN : Hid (¬ 0 < (idx (hof ps os) os.length 0).length → grp (hof ps os) os.length (0 + 1) = grp (hof ps os) os.length 0) := grp_no _ _ _
        clear I0 I1 I2
        have hx := index_sl0 (.slice o0 (idx (hof ps os) os.length 0).length q0) (.slice o1 (idx (hof ps os) os.length 1).length q1) (.slice o2 (idx (hof ps os) os.length 2).length q2)
        by_cases hp : 0 < (idx (hof ps os) os.length 0).length
        · have hp1 : (0 : Int) < ((idx (hof ps os) os.length 0).length : Int) := by omega
          have HP : Hid (grp (hof ps os) os.length (0 + 1) = grp (hof ps os) os.length 0 ++ [0]) := HNY.out hp
          clear HNY HNN
          go_wp2_with (first
            | (at_builtin; have _ := hgs; refine wpList_append_it rfl _ _ rfl wq.heap.size (.slice go (grp (hof ps os) os.length 0).length gc) (grp (hof ps os) os.length 0) rfl (HG.out.all ((Kept.refl _ _).alloc _)) (Nat.le_trans HWx.out.size ((Kept.refl (fun _ => True) _).alloc _).size) _ rfl 0 (0, 0) (heap_alloc_new _ _) (by omega) ?_; intro ao' cap' w5 ho5 hg5 hat5; have k5 : Kept (fun x => (Value.slice go (grp (hof ps os) os.length 0).length gc).ownBlock ≠ some x) wr w5 := ((Kept.refl _ _).alloc _).trans (grown_kept hg5); have HO5 : Hid (Its w5 wq.heap.size (.slice ao' ((grp (hof ps os) os.length 0).length + 1) cap') (grp (hof ps os) os.length 0 ++ [0])) := ho5; have HS5 : Hid (Sls w5 wq.heap.size (.slice po vs.length pc) vs) := HP2.out.kept k5 (fun x hx e => sls_its HP2.out HG.out x hx e); have HW5 : Hid (Kept (fun x => x < wq.heap.size) wq w5) := HWx.out.then k5 (fun x hx _ e => by have := HG.out.ge e; omega); clear ho5 hg5 hat5 k5 hgs)
            | (at_builtin; refine wpList_append_sl rfl _ _ rfl wq.heap.size (.slice po vs.length pc) vs rfl (HS5.out.all ((Kept.refl _ _).alloc _)) (Nat.le_trans HW5.out.size ((Kept.refl (fun _ => True) _).alloc _).size) _ rfl (.slice o0 (idx (hof ps os) os.length 0).length q0) rfl (0, 0) (heap_alloc_new _ _) (by omega) ?_; intro ao6 cap6 w6 ho6 hg6; have k6 : Kept (fun x => (Value.slice po vs.length pc).ownBlock ≠ some x) w5 w6 := ((Kept.refl _ _).alloc _).trans (grown_kept hg6); have HO6 : Hid (Sls w6 wq.heap.size (.slice ao6 (vs.length + 1) cap6) (vs ++ [.slice o0 (idx (hof ps os) os.length 0).length q0])) := ho6; have HI6 : Hid (Its w6 wq.heap.size (.slice ao' ((grp (hof ps os) os.length 0).length + 1) cap') (grp (hof ps os) os.length 0 ++ [0])) := HO5.out.kept k6 (fun x hx e => sls_its HS5.out HO5.out x e hx); have HW6 : Hid (Kept (fun x => x < wq.heap.size) wq w6) := HW5.out.then k6 (fun x hx _ e => by have := (World.ownsRow.lt HS5.out.1 x e).1; omega); clear ho6 hg6 k6))
          go_roundw
          case rel =>
            refine ⟨0 + 1, vs ++ [.slice o0 (idx (hof ps os) os.length 0).length q0], by omega, by go_num, ?_, ?_, ?_, ?_, HW6.out⟩
            · rw [HP.out]; exact HI6.out
            · exact HO6.out
            · rw [HP.out, List.length_append, List.length_append, HVL.out]; rfl
            · rw [HP.out]
              intro j h1 h2
              have hvl := HVL.out
              by_cases hj : j < vs.length
              · rw [List.getElem_append_left hj, List.getElem_append_left (by omega)]
                exact HVS.out j hj (by omega)
              · obtain rfl : j = vs.length := by simp at h1; omega
                rw [List.getElem_append_right (Nat.le_refl _), List.getElem_append_right (by omega)]
                simp [hvl]
                exact I.out
          case measure => simp [intOf]
        · have hp1 : ¬ ((0 : Int) < ((idx (hof ps os) os.length 0).length : Int)) := by omega
          have HP : Hid (grp (hof ps os) os.length (0 + 1) = grp (hof ps os) os.length 0) := HNN.out hp
          clear HNY HNN
          go_wp2_with fail
          go_roundw
          case rel => exact ⟨0 + 1, vs, by omega, by go_num, by rw [HP.out]; exact HG.out, HP2.out, by rw [HP.out]; exact HVL.out, by rw [HP.out]; exact HVS.out, HWx.out⟩
          case measure => simp [intOf]
      · subst hik
        have I : Hid (Its wq w.heap.size (.slice o1 (idx (hof ps os) os.length 1).length q1) (idx (hof ps os) os.length 1)) := I1.out
        have HNY : Hid (0 < (idx (hof ps os) os.length 1).length → grp (hof ps os) os.length (1 + 1) = grp (hof ps os) os.length 1 ++ [1]) := grp_yes _ _ _
        have HNN : Hid (¬ 0 < (idx (hof ps os) os.length 1).length → grp (hof ps os) os.length (1 + 1) = grp (hof ps os) os.length 1) := grp_no _ _ _
        clear I0 I1 I2
        have hx := index_sl1 (.slice o0 (idx (hof ps os) os.length 0).length q0) (.slice o1 (idx (hof ps os) os.length 1).length q1) (.slice o2 (idx (hof ps os) os.length 2).length q2)
        by_cases hp : 0 < (idx (hof ps os) os.length 1).length
        · have hp1 : (0 : Int) < ((idx (hof ps os) os.length 1).length : Int) := by omega
          have HP : Hid (grp (hof ps os) os.length (1 + 1) = grp (hof ps os) os.length 1 ++ [1]) := HNY.out hp
          clear HNY HNN
          go_wp2_with (first
            | (at_builtin; have _ := hgs; refine wpList_append_it rfl _ _ rfl wq.heap.size (.slice go (grp (hof ps os) os.length 1).length gc) (grp (hof ps os) os.length 1) rfl (HG.out.all ((Kept.refl _ _).alloc _)) (Nat.le_trans HWx.out.size ((Kept.refl (fun _ => True) _).alloc _).size) _ rfl 1 (0, 0) (heap_alloc_new _ _) (by omega) ?_; intro ao' cap' w5 ho5 hg5 hat5; have k5 : Kept (fun x => (Value.slice go (grp (hof ps os) os.length 1).length gc).ownBlock ≠ some x) wr w5 := ((Kept.refl _ _).alloc _).trans (grown_kept hg5); have HO5 : Hid (Its w5 wq.heap.size (.slice ao' ((grp (hof ps os) os.length 1).length + 1) cap') (grp (hof ps os) os.length 1 ++ [1])) := ho5; have HS5 : Hid (Sls w5 wq.heap.size (.slice po vs.length pc) vs) := HP2.out.kept k5 (fun x hx e => sls_its HP2.out HG.out x hx e); have HW5 : Hid (Kept (fun x => x < wq.heap.size) wq w5) := HWx.out.then k5 (fun x hx _ e => by have := HG.out.ge e; omega); clear ho5 hg5 hat5 k5 hgs)
            | (at_builtin; refine wpList_append_sl rfl _ _ rfl wq.heap.size (.slice po vs.length pc) vs rfl (HS5.out.all ((Kept.refl _ _).alloc _)) (Nat.le_trans HW5.out.size ((Kept.refl (fun _ => True) _).alloc _).size) _ rfl (.slice o1 (idx (hof ps os) os.length 1).length q1) rfl (0, 0) (heap_alloc_new _ _) (by omega) ?_; intro ao6 cap6 w6 ho6 hg6; have k6 : Kept (fun x => (Value.slice po vs.length pc).ownBlock ≠ some x) w5 w6 := ((Kept.refl _ _).alloc _).trans (grown_kept hg6); have HO6 : Hid (Sls w6 wq.heap.size (.slice ao6 (vs.length + 1) cap6) (vs ++ [.slice o1 (idx (hof ps os) os.length 1).length q1])) := ho6; have HI6 : Hid (Its w6 wq.heap.size (.slice ao' ((grp (hof ps os) os.length 1).length + 1) cap') (grp (hof ps os) os.length 1 ++ [1])) := HO5.out.kept k6 (fun x hx e => sls_its HS5.out HO5.out x e hx); have HW6 : Hid (Kept (fun x => x < wq.heap.size) wq w6) := HW5.out.then k6 (fun x hx _ e => by have := (World.ownsRow.lt HS5.out.1 x e).1; omega); clear ho6 hg6 k6))
          go_roundw
          case rel =>
            refine ⟨1 + 1, vs ++ [.slice o1 (idx (hof ps os) os.length 1).length q1], by omega, by go_num, ?_, ?_, ?_, ?_, HW6.out⟩
            · rw [HP.out]; exact HI6.out
            · exact HO6.out
            · rw [HP.out, List.length_append, List.length_append, HVL.out]; rfl
            · rw [HP.out]
              intro j h1 h2
              have hvl := HVL.out
              by_cases hj : j < vs.length
              · rw [List.getElem_append_left hj, List.getElem_append_left (by omega)]
                exact HVS.out j hj (by omega)
              · obtain rfl : j = vs.length := by simp at h1; omega
                rw [List.getElem_append_right (Nat.le_refl _), List.getElem_append_right (by omega)]
                simp [hvl]
                exact I.out
          case measure => simp [intOf]
        · have hp1 : ¬ ((0 : Int) < ((idx (hof ps os) os.length 1).length : Int)) := by omega
          have HP : Hid (grp (hof ps os) os.length (1 + 1) = grp (hof ps os) os.length 1) := HNN.out hp
          clear HNY HNN
          go_wp2_with fail
          go_roundw
          case rel => exact ⟨1 + 1, vs, by omega, by go_num, by rw [HP.out]; exact HG.out, HP2.out, by rw [HP.out]; exact HVL.out, by rw [HP.out]; exact HVS.out, HWx.out⟩
          case measure => simp [intOf]
      · subst hik
        have I : Hid (Its wq w.heap.size (.slice o2 (idx (hof ps os) os.length 2).length q2) (idx (hof ps os) os.length 2)) := I2.out
        have HNY : Hid (0 < (idx (hof ps os) os.length 2).length → grp (hof ps os) os.length (2 + 1) = grp (hof ps os) os.length 2 ++ [2]) := grp_yes _ _ _
        have HNN : Hid (¬ 0 < (idx (hof ps os) os.length 2).length → grp (hof ps os) os.length (2 + 1) = grp (hof ps os) os.length 2) := grp_no _ _ _
        clear I0 I1 I2
        have hx := index_sl2 (.slice o0 (idx (hof ps os) os.length 0).length q0) (.slice o1 (idx (hof ps os) os.length 1).length q1) (.slice o2 (idx (hof ps os) os.length 2).length q2)
        by_cases hp : 0 < (idx (hof ps os) os.length 2).length
        · have hp1 : (0 : Int) < ((idx (hof ps os) os.length 2).length : Int) := by omega
          have HP : Hid (grp (hof ps os) os.length (2 + 1) = grp (hof ps os) os.length 2 ++ [2]) := HNY.out hp
          clear HNY HNN
          go_wp2_with (first
            | (at_builtin; have _ := hgs; refine wpList_append_it rfl _ _ rfl wq.heap.size (.slice go (grp (hof ps os) os.length 2).length gc) (grp (hof ps os) os.length 2) rfl (HG.out.all ((Kept.refl _ _).alloc _)) (Nat.le_trans HWx.out.size ((Kept.refl (fun _ => True) _).alloc _).size) _ rfl 2 (0, 0) (heap_alloc_new _ _) (by omega) ?_; intro ao' cap' w5 ho5 hg5 hat5; have k5 : Kept (fun x => (Value.slice go (grp (hof ps os) os.length 2).length gc).ownBlock ≠ some x) wr w5 := ((Kept.refl _ _).alloc _).trans (grown_kept hg5); have HO5 : Hid (Its w5 wq.heap.size (.slice ao' ((grp (hof ps os) os.length 2).length + 1) cap') (grp (hof ps os) os.length 2 ++ [2])) := ho5; have HS5 : Hid (Sls w5 wq.heap.size (.slice po vs.length pc) vs) := HP2.out.kept k5 (fun x hx e => sls_its HP2.out HG.out x hx e); have HW5 : Hid (Kept (fun x => x < wq.heap.size) wq w5) := HWx.out.then k5 (fun x hx _ e => by have := HG.out.ge e; omega); clear ho5 hg5 hat5 k5 hgs)
            | (at_builtin; refine wpList_append_sl rfl _ _ rfl wq.heap.size (.slice po vs.length pc) vs rfl (HS5.out.all ((Kept.refl _ _).alloc _)) (Nat.le_trans HW5.out.size ((Kept.refl (fun _ => True) _).alloc _).size) _ rfl (.slice o2 (idx (hof ps os) os.length 2).length q2) rfl (0, 0) (heap_alloc_new _ _) (by omega) ?_; intro ao6 cap6 w6 ho6 hg6; have k6 : Kept (fun x => (Value.slice po vs.length pc).ownBlock ≠ some x) w5 w6 := ((Kept.refl _ _).alloc _).trans (grown_kept hg6); have HO6 : Hid (Sls w6 wq.heap.size (.slice ao6 (vs.length + 1) cap6) (vs ++ [.slice o2 (idx (hof ps os) os.length 2).length q2])) := ho6; have HI6 : Hid (Its w6 wq.heap.size (.slice ao' ((grp (hof ps os) os.length 2).length + 1) cap') (grp (hof ps os) os.length 2 ++ [2])) := HO5.out.kept k6 (fun x hx e => sls_its HS5.out HO5.out x e hx); have HW6 : Hid (Kept (fun x => x < wq.heap.size) wq w6) := HW5.out.then k6 (fun x hx _ e => by have := (World.ownsRow.lt HS5.out.1 x e).1; omega); clear ho6 hg6 k6))
          go_roundw
          case rel =>
            refine ⟨2 + 1, vs ++ [.slice o2 (idx (hof ps os) os.length 2).length q2], by omega, by go_num, ?_, ?_, ?_, ?_, HW6.out⟩
            · rw [HP.out]; exact HI6.out
            · exact HO6.out
            · rw [HP.out, List.length_append, List.length_append, HVL.out]; rfl
            · rw [HP.out]
              intro j h1 h2
              have hvl := HVL.out
              by_cases hj : j < vs.length
              · rw [List.getElem_append_left hj, List.getElem_append_left (by omega)]
                exact HVS.out j hj (by omega)
              · obtain rfl : j = vs.length := by simp at h1; omega
                rw [List.getElem_append_right (Nat.le_refl _), List.getElem_append_right (by omega)]
                simp [hvl]
                exact I.out
          case measure => simp [intOf]
        · have hp1 : ¬ ((0 : Int) < ((idx (hof ps os) os.length 2).length : Int)) := by omega
          have HP : Hid (grp (hof ps os) os.length (2 + 1) = grp (hof ps os) os.length 2) := HNN.out hp
          clear HNY HNN
          go_wp2_with fail
          go_roundw
          case rel => exact ⟨2 + 1, vs, by omega, by go_num, by rw [HP.out]; exact HG.out, HP2.out, by rw [HP.out]; exact HVL.out, by rw [HP.out]; exact HVS.out, HWx.out⟩
          case measure => simp [intOf]
      · subst hik
        clear I0 I1 I2 hgs
        go_wp2_with fail
        go_ret2
        refine ⟨_, _, vs, rfl, HG.out.low HWs.out.size, HP2.out.low HWs.out.size, HVL.out, fun j h1 h2 => ?_, HWs.out.then HWx.out (fun x hx _ => by have := HWs.out.size; omega)⟩
        have q := HVS.out j h1 h2
        exact q.kept HWx.out (fun x hx => q.lt hx)

theorem split_any {w : World} {ao : Option Addr} {cap : Nat} {ep : Int} {ps : List Pa} (h : Pv w ao ps) (hr : rgt ep ps = true) {am : Option Addr} {cm : Nat} {os : List Oz} (hm : Ov w am os) (hs : ∀ o ∈ os, o.cas.length ≤ 140737488355328) (hlo : os.length ≤ 1000) :
    Calls Try.prog 33 #[.agg #[.int .i64 ep, .slice ao ps.length cap], .slice am os.length cm] w fun e w' => ESplit (hof ps os) os.length w e w' :=
  (split_new (cap := cap) (cm := cm) h hr hm hs hlo).mono fun _ _ ⟨gv, pv, vs, e, h1, h2, h3, h4, h5⟩ => ⟨gv, pv, vs, e, h1.low (Nat.zero_le _), h2.low (Nat.zero_le _), h3, fun i a b => (h4 i a b).low (Nat.zero_le _), h5⟩

end Go.Proofs.Ytebpkhemkdgbjaa
