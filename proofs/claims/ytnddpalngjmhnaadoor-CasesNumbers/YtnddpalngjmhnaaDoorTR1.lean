/-
  The document's Names.
-/
import Derived.Test.YtnddpalngjmhnaaDoorT5
import Derived.Test.YtnddpalngjmhnaaDoorQR1
namespace Go.Proofs.YtnddpalngjmhnaaDoor
open Go.RowKit

set_option maxRecDepth 100000 in
set_option maxHeartbeats 8000000 in
theorem rnames_any {w : World} {v : Value} {t : Ty} (h : TyV w v t) (hm : (nms t).length ≤ 100000000) :
    Calls Tryd.prog 56 #[v] w fun e w' => ∃ v', e = .returned v' ∧ Txs w' w.heap.size v' (nms t) ∧ Kept (fun _ => True) w w' := by
  obtain ⟨va, vs, vm, rfl, ha, hs, hk⟩ := h
  obtain ⟨ao, ac, rfl, la⟩ := ha.form
  obtain ⟨so, sc, rfl, ls⟩ := hs.form
  obtain ⟨mo, mc, rfl, lm⟩ := hk.form
  have hnl : (nms t).length = t.attrs.length + t.stages.length + t.marks.length := by simp [nms]; omega
  rw [hnl] at hm
  have k0 : Kept (fun _ => True) w (w.alloc (.cells #[.string ⟨t.name.toArray⟩, .slice ao t.attrs.length ac, .slice so t.stages.length sc, .slice mo t.marks.length mc] 25)) := (Kept.refl _ _).alloc _
  have hX := heap_alloc_new w (.cells #[.string ⟨t.name.toArray⟩, .slice ao t.attrs.length ac, .slice so t.stages.length sc, .slice mo t.marks.length mc] 25)
  replace ha := ha.all k0
  replace hs := hs.all k0
  replace hk := hk.all k0
  have hsz : w.heap.size ≤ (w.alloc (.cells #[.string ⟨t.name.toArray⟩, .slice ao t.attrs.length ac, .slice so t.stages.length sc, .slice mo t.marks.length mc] 25)).heap.size := k0.size
  clear hnl
  go_enter Tryd.func56, Tryd.ntmps56
  go_wp2_with fail
  generalize w.alloc (.cells #[.string ⟨t.name.toArray⟩, .slice ao t.attrs.length ac, .slice so t.stages.length sc, .slice mo t.marks.length mc] 25) = w1 at *
  obtain ⟨B, hB⟩ : ∃ B, B = w.heap.size := ⟨_, rfl⟩
  rw [← hB] at hX ⊢
  have HB : Hid (B = w.heap.size) := hB
  have K0 : Hid (Kept (fun _ => True) w w1) := k0
  have HSZ : Hid (w.heap.size ≤ w1.heap.size) := hsz
  have HA : Hid (Av w1 (.slice ao t.attrs.length ac) t.attrs) := ha
  have HS : Hid (Rv w1 (.slice so t.stages.length sc) t.stages) := hs
  have HM : Hid (Rv w1 (.slice mo t.marks.length mc) t.marks) := hk
  have HX : Hid (w1.heap[B]? = some (.cells #[.string ⟨t.name.toArray⟩, .slice ao t.attrs.length ac, .slice so t.stages.length sc, .slice mo t.marks.length mc] 25 (0, 0))) := hX
  clear hB ha hs hk hX k0 hsz
  go_loopw [3, 4] (fun t3 ti wr => ∃ i : Nat, i ≤ t.attrs.length ∧ ti = .int .i64 i ∧ Txs wr w1.heap.size t3 ((t.attrs.take i).map At.name) ∧ Kept (fun _ => True) w1 wr) (fun _ ti _ => t.attrs.length - (intOf ti).toNat)
  case atStart => exact ⟨0, Nat.zero_le _, rfl, Txs.nil _ _, Kept.refl _ _⟩
  case round =>
    obtain ⟨i, hi, rfl, hT, hk⟩ := hrel
    obtain ⟨tq, tc, rfl, _, _⟩ := hT.shape
    have hln : ((t.attrs.take i).map At.name).length ≤ 100000000 := by simp only [List.length_map, List.length_take]; omega
    have HLN : Hid _ := hln
    have HT : Hid (Txs wr w1.heap.size (.slice tq ((t.attrs.take i).map At.name).length tc) ((t.attrs.take i).map At.name)) := hT
    have HKr : Hid (Kept (fun _ => True) w1 wr) := hk
    have hX2 := (HKr.out.block B (lt_of_block HX.out) trivial).trans HX.out
    clear hT hk hln
    by_cases hlt : i < t.attrs.length
    · obtain ⟨b, off, rfl, hb, hc0, hc1, hc2, hc3⟩ := (HA.out.all HKr.out).at i hlt
      obtain ⟨⟨y0, y1, y2, y3⟩, _⟩ := four_cell hX2
      have HST : Hid ((t.attrs.take (i + 1)).map At.name = (t.attrs.take i).map At.name ++ [(t.attrs[i]).name]) := map_take_succ _ _ _ hlt
      have i1 : (i : Int) < (t.attrs.length : Int) := by omega
      have i0 : (0 : Int) ≤ (i : Int) := by omega
      clear hX2 hb
      generalize t.attrs[i] = x at *
      have HK4 : Hid (Kept (fun _ => True) wr (wr.alloc (.cells #[.string ⟨x.name.toArray⟩] 9))) := (Kept.refl _ _).alloc _
      generalize hNs : ((t.attrs.take i).map At.name) = ns at *
      have HNS : Hid _ := hNs
      clear hNs
      go_wp2_with (at_builtin; refine wpList_append_text rfl (.tmp 14) (.tmp 21) rfl w1.heap.size (.slice tq ns.length tc) ns rfl (HT.out.kept (p := fun _ => True) HK4.out (fun _ _ => trivial)) (by have h1 := HKr.out.size; have h2 := HK4.out.size; omega) wr.heap.size rfl x.name (0, 0) (heap_alloc_new _ _) (by have := HLN.out; omega) ?_; intro ao' cap' w' hW hG hO; have HW : Hid _ := hW; have HGr : Hid _ := hG; clear hW hG hO)
      go_roundw
      case rel =>
        refine ⟨i + 1, by omega, by go_num, ?_, ?_⟩
        · rw [HST.out]
          exact HW.out
        · exact (HKr.out.trans HK4.out).grown HGr.out (fun k hk e => by have := (World.ownsRow.lt HT.out k e).1; omega)
      case measure => simp [intOf]; omega
    · have i1 : ¬ (i : Int) < (t.attrs.length : Int) := by omega
      have hie : i = t.attrs.length := by omega
      obtain ⟨⟨y0, y1, y2, y3⟩, _⟩ := four_cell hX2
      have HT2 : Hid (Txs wr w1.heap.size (.slice tq ((t.attrs.take i).map At.name).length tc) (t.attrs.map At.name)) := by
        have := HT.out
        rw [hie] at this ⊢
        rw [List.take_length] at this ⊢
        exact this
      generalize ((t.attrs.take i).map At.name).length = tl at *
      clear hX2 HT hie hlt
      go_wp2_with fail
      go_loopw [3, 5] (fun t3 ti wr => ∃ i : Nat, i ≤ t.stages.length ∧ ti = .int .i64 i ∧ Txs wr w1.heap.size t3 (t.attrs.map At.name ++ (t.stages.take i).map Ru.name) ∧ Kept (fun _ => True) w1 wr) (fun _ ti _ => t.stages.length - (intOf ti).toNat)
      case atStart => exact ⟨0, Nat.zero_le _, rfl, by simpa using HT2.out, HKr.out⟩
      case round =>
        obtain ⟨i, hi, rfl, hT, hk⟩ := hrel
        obtain ⟨tq, tc, rfl, _, _⟩ := hT.shape
        have hln : (t.attrs.map At.name ++ (t.stages.take i).map Ru.name).length ≤ 100000000 := by simp only [List.length_append, List.length_map, List.length_take]; omega
        have HLN : Hid _ := hln
        have HT : Hid (Txs wr w1.heap.size (.slice tq (t.attrs.map At.name ++ (t.stages.take i).map Ru.name).length tc) (t.attrs.map At.name ++ (t.stages.take i).map Ru.name)) := hT
        have HKr : Hid (Kept (fun _ => True) w1 wr) := hk
        have hX2 := (HKr.out.block B (lt_of_block HX.out) trivial).trans HX.out
        clear hT hk hln
        by_cases hlt : i < t.stages.length
        · obtain ⟨b, off, rfl, hb, hc0, hc1⟩ := (HS.out.all HKr.out).at i hlt
          obtain ⟨⟨y0, y1, y2, y3⟩, _⟩ := four_cell hX2
          have HST : Hid ((t.stages.take (i + 1)).map Ru.name = (t.stages.take i).map Ru.name ++ [(t.stages[i]).name]) := map_take_succ _ _ _ hlt
          have i1 : (i : Int) < (t.stages.length : Int) := by omega
          have i0 : (0 : Int) ≤ (i : Int) := by omega
          clear hX2 hb
          generalize t.stages[i] = x at *
          have HK4 : Hid (Kept (fun _ => True) wr (wr.alloc (.cells #[.string ⟨x.name.toArray⟩] 9))) := (Kept.refl _ _).alloc _
          generalize hNs : (t.attrs.map At.name ++ (t.stages.take i).map Ru.name) = ns at *
          have HNS : Hid _ := hNs
          clear hNs
          go_wp2_with (at_builtin; refine wpList_append_text rfl (.tmp 30) (.tmp 37) rfl w1.heap.size (.slice tq ns.length tc) ns rfl (HT.out.kept (p := fun _ => True) HK4.out (fun _ _ => trivial)) (by have h1 := HKr.out.size; have h2 := HK4.out.size; omega) wr.heap.size rfl x.name (0, 0) (heap_alloc_new _ _) (by have := HLN.out; omega) ?_; intro ao' cap' w' hW hG hO; have HW : Hid _ := hW; have HGr : Hid _ := hG; clear hW hG hO)
          go_roundw
          case rel =>
            refine ⟨i + 1, by omega, by go_num, ?_, ?_⟩
            · rw [HST.out, ← List.append_assoc, HNS.out]
              exact HW.out
            · exact (HKr.out.trans HK4.out).grown HGr.out (fun k hk e => by have := (World.ownsRow.lt HT.out k e).1; omega)
          case measure => simp [intOf]; omega
        · have i1 : ¬ (i : Int) < (t.stages.length : Int) := by omega
          have hie : i = t.stages.length := by omega
          obtain ⟨⟨y0, y1, y2, y3⟩, _⟩ := four_cell hX2
          have HT2 : Hid (Txs wr w1.heap.size (.slice tq (t.attrs.map At.name ++ (t.stages.take i).map Ru.name).length tc) (t.attrs.map At.name ++ t.stages.map Ru.name)) := by
            have := HT.out
            rw [hie] at this ⊢
            rw [List.take_length] at this ⊢
            exact this
          generalize (t.attrs.map At.name ++ (t.stages.take i).map Ru.name).length = tl at *
          clear hX2 HT hie hlt
          go_wp2_with fail
          go_loopw [3, 6] (fun t3 ti wr => ∃ i : Nat, i ≤ t.marks.length ∧ ti = .int .i64 i ∧ Txs wr w1.heap.size t3 (t.attrs.map At.name ++ t.stages.map Ru.name ++ (t.marks.take i).map Ru.name) ∧ Kept (fun _ => True) w1 wr) (fun _ ti _ => t.marks.length - (intOf ti).toNat)
          case atStart => exact ⟨0, Nat.zero_le _, rfl, by simpa using HT2.out, HKr.out⟩
          case round =>
            obtain ⟨i, hi, rfl, hT, hk⟩ := hrel
            obtain ⟨tq, tc, rfl, _, _⟩ := hT.shape
            have hln : (t.attrs.map At.name ++ t.stages.map Ru.name ++ (t.marks.take i).map Ru.name).length ≤ 100000000 := by simp only [List.length_append, List.length_map, List.length_take]; omega
            have HLN : Hid _ := hln
            have HT : Hid (Txs wr w1.heap.size (.slice tq (t.attrs.map At.name ++ t.stages.map Ru.name ++ (t.marks.take i).map Ru.name).length tc) (t.attrs.map At.name ++ t.stages.map Ru.name ++ (t.marks.take i).map Ru.name)) := hT
            have HKr : Hid (Kept (fun _ => True) w1 wr) := hk
            have hX2 := (HKr.out.block B (lt_of_block HX.out) trivial).trans HX.out
            clear hT hk hln
            by_cases hlt : i < t.marks.length
            · obtain ⟨b, off, rfl, hb, hc0, hc1⟩ := (HM.out.all HKr.out).at i hlt
              obtain ⟨⟨y0, y1, y2, y3⟩, _⟩ := four_cell hX2
              have HST : Hid ((t.marks.take (i + 1)).map Ru.name = (t.marks.take i).map Ru.name ++ [(t.marks[i]).name]) := map_take_succ _ _ _ hlt
              have i1 : (i : Int) < (t.marks.length : Int) := by omega
              have i0 : (0 : Int) ≤ (i : Int) := by omega
              clear hX2 hb
              generalize t.marks[i] = x at *
              have HK4 : Hid (Kept (fun _ => True) wr (wr.alloc (.cells #[.string ⟨x.name.toArray⟩] 9))) := (Kept.refl _ _).alloc _
              generalize hNs : (t.attrs.map At.name ++ t.stages.map Ru.name ++ (t.marks.take i).map Ru.name) = ns at *
              have HNS : Hid _ := hNs
              clear hNs
              go_wp2_with (at_builtin; refine wpList_append_text rfl (.tmp 46) (.tmp 53) rfl w1.heap.size (.slice tq ns.length tc) ns rfl (HT.out.kept (p := fun _ => True) HK4.out (fun _ _ => trivial)) (by have h1 := HKr.out.size; have h2 := HK4.out.size; omega) wr.heap.size rfl x.name (0, 0) (heap_alloc_new _ _) (by have := HLN.out; omega) ?_; intro ao' cap' w' hW hG hO; have HW : Hid _ := hW; have HGr : Hid _ := hG; clear hW hG hO)
              go_roundw
              case rel =>
                refine ⟨i + 1, by omega, by go_num, ?_, ?_⟩
                · rw [HST.out, ← List.append_assoc, HNS.out]
                  exact HW.out
                · exact (HKr.out.trans HK4.out).grown HGr.out (fun k hk e => by have := (World.ownsRow.lt HT.out k e).1; omega)
              case measure => simp [intOf]; omega
            · have i1 : ¬ (i : Int) < (t.marks.length : Int) := by omega
              have hie : i = t.marks.length := by omega
              obtain ⟨⟨y0, y1, y2, y3⟩, _⟩ := four_cell hX2
              have HT2 : Hid (Txs wr w1.heap.size (.slice tq (t.attrs.map At.name ++ t.stages.map Ru.name ++ (t.marks.take i).map Ru.name).length tc) (t.attrs.map At.name ++ t.stages.map Ru.name ++ t.marks.map Ru.name)) := by
                have := HT.out
                rw [hie] at this ⊢
                rw [List.take_length] at this ⊢
                exact this
              generalize (t.attrs.map At.name ++ t.stages.map Ru.name ++ (t.marks.take i).map Ru.name).length = tl at *
              clear hX2 HT hie hlt
              go_wp2_with fail
              go_ret
              rw [HB.out]
              refine ⟨.slice tq tl tc, rfl, ?_, K0.out.trans HKr.out⟩
              exact ownsRow_low HT2.out HSZ.out

end Go.Proofs.YtnddpalngjmhnaaDoor

namespace Go.Proofs.YtnddpalngjmhnaaDoor
open Go.RowKit

theorem mem_take_succ {ns : List (List UInt8)} {k : Nat} (hk : k < ns.length) {x : List UInt8} : x ∈ ns.take (k + 1) ↔ x ∈ ns.take k ∨ x = ns[k] := by
  rw [List.take_succ_eq_append_getElem hk, List.mem_append, List.mem_singleton]
/-- A row of rules without one, just made. -/
theorem Ro.made (w : World) : Ro (w.alloc (.cells #[] 55)) w.heap.size (.slice (some ⟨w.heap.size, 0, none⟩) 0 0) [] :=
  ⟨rfl, .inr ⟨w.heap.size, 0, #[], rfl, Nat.le_refl _, heap_alloc_new w _, Nat.le_refl _, by unfold maxLen; omega, rfl, by simp [rrow]⟩⟩

theorem step_append_rules {w : World} {ops : Array Oper} {o : Oper} {a : Act} {K : Act → World → Prop} {Q : Exit → Act → World → Prop} {E : Prop} (hgd : o.guard = none) (sl y : Operand) (ho : o.op = .call { callee := .builtin .append, args := #[sl, y], argTypes := #[23, 23] })
    (base : Nat) (v : Value) (xs : List Ru) (hs : a.eval sl = v) (h : Ro w base v xs) (hb : base ≤ w.heap.size) (yv : Value) (hy : a.eval y = yv) (ys : List Ru) (hR : Rv w yv ys) (hm : xs.length + ys.length ≤ 100000000) (n : Nat) (hn : xs.length + ys.length = n)
    (hK : ∀ ao' cap' w', Ro w' base (.slice ao' n cap') (xs ++ ys) → w.grownBy w' v.ownBlock → K (a.put o.dst (.slice ao' n cap')) w') : if Region.wanted o (yielded ops a.tmps) = true then Oper.wp Tryd.prog o a w K Q else E := by
  have hw : Region.wanted o (yielded ops a.tmps) = true := by simp [Region.wanted, hgd]
  rw [if_pos hw]
  subst hn
  obtain ⟨ao', cap', w', hr, h2, h3⟩ := append_rules w o.type base v xs h hb yv ys hR hm
  unfold Oper.wp execOp
  simp only [ho, resolve, invoke, builtin, Sem.run_bind, Sem.run_pure, Result.andThen_ok, List.map_toArray, List.map_cons, List.map_nil, hs, hy, hr]
  exact hK ao' cap' w' h2 h3
theorem cell_stays {p : Nat → Prop} {w w' : World} {a : Addr} {v : Value} (k : Kept p w w') (h : w.cell? a = some v) (hp : p a.block) : w'.cell? a = some v :=
  (World.cell?_of_block (w := w) (k.block a.block (World.block_lt_of_cell? w _ h) hp)).trans h

set_option maxRecDepth 100000 in
set_option maxHeartbeats 8000000 in
theorem rright_any {w : World} {v : Value} {t : Ty} (h : TyV w v t) (hz : Tsz t) :
    Calls Tryd.prog 48 #[v] w fun e w' => e = .returned (.int .i64 (right t : Nat)) ∧ Kept (fun _ => True) w w' := by
  obtain ⟨C, hC⟩ : ∃ C, C = right t := ⟨_, rfl⟩
  rw [← hC]
  unfold right at hC
  have HC : Hid _ := hC
  clear hC
  obtain ⟨va, vs, vm, rfl, ha, hs, hk⟩ := h
  obtain ⟨ao, ac, rfl, la⟩ := ha.form
  obtain ⟨so, sc, rfl, ls⟩ := hs.form
  obtain ⟨mo, mc, rfl, lm⟩ := hk.form
  have cn := fun W => rname_any (w := W) t.name hz.name
  have HZ : Hid (Tsz t) := hz
  have k0 : Kept (fun _ => True) w (w.alloc (.cells #[.string ⟨t.name.toArray⟩, .slice ao t.attrs.length ac, .slice so t.stages.length sc, .slice mo t.marks.length mc] 25)) := (Kept.refl _ _).alloc _
  have hX := heap_alloc_new w (.cells #[.string ⟨t.name.toArray⟩, .slice ao t.attrs.length ac, .slice so t.stages.length sc, .slice mo t.marks.length mc] 25)
  replace ha := ha.all k0
  replace hs := hs.all k0
  replace hk := hk.all k0
  obtain ⟨⟨z0, z1, z2, z3⟩, _⟩ := four_cell hX
  clear hz
  go_enter Tryd.func48, Tryd.ntmps48
  go_wp2_with fail
  generalize w.alloc (.cells #[.string ⟨t.name.toArray⟩, .slice ao t.attrs.length ac, .slice so t.stages.length sc, .slice mo t.marks.length mc] 25) = w1 at *
  obtain ⟨B, hB⟩ : ∃ B, B = w.heap.size := ⟨_, rfl⟩
  rw [← hB] at hX z0 z1 z2 z3 ⊢
  have K0 : Hid (Kept (fun _ => True) w w1) := k0
  have HA : Hid (Av w1 (.slice ao t.attrs.length ac) t.attrs) := ha
  have HS : Hid (Rv w1 (.slice so t.stages.length sc) t.stages) := hs
  have HM : Hid (Rv w1 (.slice mo t.marks.length mc) t.marks) := hk
  have HX : Hid (w1.heap[B]? = some (.cells #[.string ⟨t.name.toArray⟩, .slice ao t.attrs.length ac, .slice so t.stages.length sc, .slice mo t.marks.length mc] 25 (0, 0))) := hX
  clear hB ha hs hk hX k0
  refine Calls.mono (cn _) ?_
  rintro e w1 ⟨rfl, rfl⟩
  clear cn
  cases hN : isName t.name with
  | false =>
    have HE : Hid (C = 20) := by show _ = _; rw [HC.out, if_pos hN]
    clear HC hN
    go_wp2_with fail
    go_ret
    exact ⟨by rw [HE.out]; rfl, K0.out⟩
  | true =>
  have HC2 : Hid (C = if 6 < t.attrs.length ∨ 6 < t.stages.length ∨ 6 < t.marks.length then 4 else if rns t.attrs [] (nms t) ≠ 0 then rns t.attrs [] (nms t) else rgs (nms t) (t.stages ++ t.marks)) := by
    show _ = _
    rw [HC.out, if_neg (by rw [hN]; simp)]
  clear HC hN
  by_cases h6 : 6 < t.attrs.length ∨ 6 < t.stages.length ∨ 6 < t.marks.length
  · have HE : Hid (C = 4) := by show _ = _; rw [HC2.out, if_pos h6]
    have h6' : (6 : Int) < (t.attrs.length : Int) ∨ (¬ (6 : Int) < (t.attrs.length : Int) ∧ (6 : Int) < (t.stages.length : Int)) ∨ (¬ (6 : Int) < (t.attrs.length : Int) ∧ ¬ (6 : Int) < (t.stages.length : Int) ∧ (6 : Int) < (t.marks.length : Int)) := by omega
    clear HC2 h6
    rcases h6' with a1 | ⟨a1, a2⟩ | ⟨a1, a2, a3⟩
    all_goals
      go_wp2_with fail
      go_ret
      exact ⟨by rw [HE.out]; rfl, K0.out⟩
  have g1 : ¬ (6 : Int) < (t.attrs.length : Int) := by omega
  have g2 : ¬ (6 : Int) < (t.stages.length : Int) := by omega
  have g3 : ¬ (6 : Int) < (t.marks.length : Int) := by omega
  have HC3 : Hid (C = if rns t.attrs [] (nms t) ≠ 0 then rns t.attrs [] (nms t) else rgs (nms t) (t.stages ++ t.marks)) := by
    show _ = _
    rw [HC2.out, if_neg h6]
  have l1 : t.attrs.length ≤ 6 := by omega
  have l2 : t.stages.length ≤ 6 := by omega
  have l3 : t.marks.length ≤ 6 := by omega
  have hnl : (nms t).length = t.attrs.length + t.stages.length + t.marks.length := by simp [nms]; omega
  have cnm := rnames_any (w := w1) (v := .agg #[.string ⟨t.name.toArray⟩, .slice ao t.attrs.length ac, .slice so t.stages.length sc, .slice mo t.marks.length mc]) (t := t) ⟨_, _, _, rfl, HA.out, HS.out, HM.out⟩ (by omega)
  have HNL : Hid ((nms t).length ≤ 18) := by show _ ≤ _; omega
  have HNZ : Hid _ := HZ.out.names
  have HGZ : Hid _ := HZ.out.guards
  clear h6 HC2 hnl HZ
  generalize hns : nms t = ns at *
  clear hns
  go_wp2_with fail
  refine Calls.mono cnm ?_
  rintro e w3 ⟨nv, rfl, hT, k3⟩
  obtain ⟨no, nc, rfl, hnc, hng⟩ := hT.shape
  have HT : Hid (Txs w3 w1.heap.size (.slice no ns.length nc) ns) := hT
  have HK3 : Hid (Kept (fun _ => True) w1 w3) := k3
  have HNG : Hid _ := hng
  clear cnm hT k3 z0 z1 z2 z3 hng
  go_wp2_with fail
  go_loopw [4, 5, 6] (fun t4 _ _ wr => ∃ i : Nat, i ≤ ns.length ∧ t4 = .int .i64 i ∧ rns t.attrs [] ns = rns (t.attrs.drop i) (ns.take i) (ns.drop i) ∧ Kept (fun _ => True) w3 wr) (fun t4 _ _ _ => ns.length - (intOf t4).toNat)
  case atStart => exact ⟨0, Nat.zero_le _, rfl, rfl, Kept.refl _ _⟩
  case round =>
  obtain ⟨i, hi, rfl, hE, hk⟩ := hrel
  have HE : Hid (rns t.attrs [] ns = rns (t.attrs.drop i) (ns.take i) (ns.drop i)) := hE
  have HKr : Hid (Kept (fun _ => True) w3 wr) := hk
  have h18 : ns.length ≤ 18 := HNL.out
  clear hE hk
  by_cases hlt : i < ns.length
  · obtain ⟨g, rfl⟩ := HNG.out (by omega)
    have hTr := HT.out.kept (p := fun _ => True) HKr.out (fun _ _ => trivial)
    have q1 := hTr.cell i hlt
    have HS1 : Hid _ := rns_step (ats := t.attrs) hlt
    have c1 := fun W => rname_any (w := W) ns[i] (HNZ.out _ (List.getElem_mem hlt))
    have i1 : (i : Int) < (ns.length : Int) := by omega
    have i0 : (0 : Int) ≤ (i : Int) := by omega
    have HTr : Hid (Txs wr w1.heap.size (.slice (some ⟨g, 0, none⟩) ns.length nc) ns) := hTr
    have HKA : Hid (Kept (fun _ => True) w wr) := K0.out.trans (HK3.out.trans HKr.out)
    have HK14 : Hid (Kept (fun _ => True) w1 wr) := HK3.out.trans HKr.out
    obtain ⟨⟨y0, y1, y2, y3⟩, _⟩ := four_cell ((HK14.out.block B (lt_of_block HX.out) trivial).trans HX.out)
    clear hTr
    obtain ⟨x, hx⟩ : ∃ x, x = ns[i] := ⟨_, rfl⟩
    rw [← hx] at q1 c1
    have HXX : Hid (x = ns[i]) := hx
    obtain ⟨bn, hbn⟩ : ∃ bn, bn = isName x := ⟨_, rfl⟩
    rw [← hbn] at c1
    have HBN2 : Hid (bn = isName ns[i]) := by show _ = _; rw [hbn, HXX.out]
    clear hbn hx
    go_wp2_with fail
    refine Calls.mono (c1 _) ?_
    rintro e wo ⟨rfl, rfl⟩
    clear c1
    cases bn with
    | false =>
      have HF : Hid (C = 20) := by
        show _ = _
        have h1 := HS1.out
        rw [if_pos HBN2.out.symm, ← HE.out] at h1
        rw [HC3.out, h1]
        rfl
      clear HS1 HBN2
      go_wp2_with fail
      go_ret
      exact ⟨by rw [HF.out]; rfl, HKA.out⟩
    | true =>
    go_wp2_with fail
    go_loopw [5] (fun t5 wq => ∃ k : Nat, k ≤ i ∧ t5 = .int .i64 k ∧ ¬ ns[i] ∈ ns.take k ∧ Kept (fun _ => True) wo wq) (fun t5 _ => i - (intOf t5).toNat)
    case atStart => exact ⟨0, Nat.zero_le _, rfl, by simp, Kept.refl _ _⟩
    case round =>
    obtain ⟨k, hk, rfl, hno, hkq⟩ := hrel
    have HNO : Hid (¬ ns[i] ∈ ns.take k) := hno
    have HKq : Hid (Kept (fun _ => True) wo wr) := hkq
    have hTq := HTr.out.kept (p := fun _ => True) hkq (fun _ _ => trivial)
    have p1 := hTq.cell i hlt
    rw [← HXX.out] at p1
    clear hno hkq q1 y0 y1 y2 y3
    by_cases hki : k < i
    · have hkn : k < ns.length := by omega
      have p2 := hTq.cell k hkn
      have HMS : Hid (ns[i] ∈ ns.take (k + 1) ↔ ns[i] ∈ ns.take k ∨ ns[i] = ns[k]) := mem_take_succ hkn
      have HMM : Hid (ns[i] = ns[k] → ns[i] ∈ ns.take i) := fun h => by
        rw [h]
        refine List.mem_iff_getElem.2 ⟨k, by rw [List.length_take]; omega, by rw [List.getElem_take]⟩
      have k1 : (k : Int) < (i : Int) := by omega
      have k0 : (0 : Int) ≤ (k : Int) := by omega
      have k2 : (k : Int) < (ns.length : Int) := by omega
      obtain ⟨y, hy⟩ : ∃ y, y = ns[k] := ⟨_, rfl⟩
      rw [← hy] at p2
      have HYY : Hid (y = ns[k]) := hy
      clear hy hTq
      by_cases hxy : y = x
      · have HF : Hid (C = 21) := by
          show _ = _
          have h1 := HS1.out
          rw [if_neg (by rw [← HBN2.out]; simp), if_pos (HMM.out (by rw [← HXX.out, ← HYY.out, hxy])), ← HE.out] at h1
          rw [HC3.out, h1]
          rfl
        subst hxy
        clear HS1 HBN2 HMS HMM HYY HXX HNO
        go_wp2_with fail
        go_quiet (fail)
        go_wp2_with fail
        go_ret
        exact ⟨by rw [HF.out]; rfl, HKA.out.trans (HKq.out.drewN _)⟩
      · have hxy' : (y == x) = false := beq_eq_false_iff_ne.2 hxy
        have HNO2 : Hid (¬ ns[i] ∈ ns.take (k + 1)) := by
          intro h
          rcases HMS.out.1 h with h | h
          · exact HNO.out h
          · exact hxy (by rw [HXX.out, HYY.out, h])
        clear HMS HMM hxy HNO
        go_wp2_with fail
        go_quiet (fail)
        go_wp2_with fail
        go_roundw
        case rel => exact ⟨k + 1, by omega, by go_num, HNO2.out, HKq.out.drewN _⟩
        case measure => simp [intOf]; omega
    · have k1 : ¬ (k : Int) < (i : Int) := by omega
      have HS3 : Hid (rns (t.attrs.drop i) (ns.take i) (ns.drop i) = if (∃ h : i < t.attrs.length, ranged t.attrs[i] = false) then 23 else rns (t.attrs.drop (i + 1)) (ns.take (i + 1)) (ns.drop (i + 1))) := by
        show _ = _
        have h1 := HS1.out
        have h2 := HNO.out
        rw [show k = i by omega] at h2
        rwa [if_neg (by rw [← HBN2.out]; simp), if_neg h2] at h1
      have HK15 : Hid (Kept (fun _ => True) w1 wr) := HK14.out.trans HKq.out
      obtain ⟨⟨y0, y1, y2, y3⟩, _⟩ := four_cell ((HK15.out.block B (lt_of_block HX.out) trivial).trans HX.out)
      clear HS1 HBN2 HNO p1 hTq hki
      by_cases hat : i < t.attrs.length
      · obtain ⟨b, off, rfl, hb, r0, r1, r2, r3⟩ := (HA.out.all HK15.out).at i hat
        have ha' : (i : Int) < (t.attrs.length : Int) := by omega
        have HR1 : Hid (ranged t.attrs[i] = false → C = 23) := by
          intro h
          have e := HS3.out
          rw [if_pos ⟨hat, h⟩] at e
          rw [HC3.out, HE.out, e]
          rfl
        have HR2 : Hid (ranged t.attrs[i] = true → rns t.attrs [] ns = rns (t.attrs.drop (i + 1)) (ns.take (i + 1)) (ns.drop (i + 1))) := by
          intro h
          rw [HE.out, HS3.out, if_neg (fun h' => by obtain ⟨_, h'⟩ := h'; rw [h] at h'; cases h')]
        clear hb HS3
        generalize t.attrs[i] = y at *
        have HRG : Hid (ranged y = (decide (-1000 ≤ y.lo) && decide (y.lo ≤ y.start) && decide (y.start ≤ y.hi) && decide (y.hi ≤ 1000))) := by show _ = _; rfl
        have KA : Hid (∀ o : Obj, Kept (fun _ => True) wr (wr.alloc o)) := fun o => (Kept.refl _ _).alloc o
        obtain ⟨yn, ys, yl, yh⟩ := y
        simp only at r0 r1 r2 r3 HRG
        by_cases b1 : -1000 ≤ yl
        · by_cases b2 : yl ≤ ys
          · by_cases b3 : ys ≤ yh
            · by_cases b4 : yh ≤ 1000
              · have HF : Hid _ := HR2.out (by rw [HRG.out]; simp [b1, b2, b3, b4])
                clear HR1 HR2 HRG
                go_wp2_with fail
                go_roundw
                case rel => exact ⟨i + 1, by omega, by go_num, HF.out, HKr.out.trans (HKq.out.trans (KA.out _))⟩
                case measure => simp [intOf]; omega
              · have HF : Hid (C = 23) := HR1.out (by rw [HRG.out]; simp [b4])
                clear HR1 HR2 HRG
                go_wp2_with fail
                go_ret
                exact ⟨by rw [HF.out]; rfl, HKA.out.trans (HKq.out.trans (KA.out _))⟩
            · have HF : Hid (C = 23) := HR1.out (by rw [HRG.out]; simp [b3])
              clear HR1 HR2 HRG
              go_wp2_with fail
              go_ret
              exact ⟨by rw [HF.out]; rfl, HKA.out.trans (HKq.out.trans (KA.out _))⟩
          · have HF : Hid (C = 23) := HR1.out (by rw [HRG.out]; simp [b2])
            clear HR1 HR2 HRG
            go_wp2_with fail
            go_ret
            exact ⟨by rw [HF.out]; rfl, HKA.out.trans (HKq.out.trans (KA.out _))⟩
        · have HF : Hid (C = 23) := HR1.out (by rw [HRG.out]; simp [b1])
          clear HR1 HR2 HRG
          go_wp2_with fail
          go_ret
          exact ⟨by rw [HF.out]; rfl, HKA.out.trans (HKq.out.trans (KA.out _))⟩
      · have ha' : ¬ (i : Int) < (t.attrs.length : Int) := by omega
        have HF : Hid (rns t.attrs [] ns = rns (t.attrs.drop (i + 1)) (ns.take (i + 1)) (ns.drop (i + 1))) := by
          show _ = _
          rw [HE.out, HS3.out, if_neg (fun h => hat h.1)]
        have HI : Hid (i < ns.length) := hlt
        clear HS3 hat
        go_wp2_with fail
        go_roundw
        case rel => exact ⟨i + 1, HI.out, by go_num, HF.out, HKr.out.trans HKq.out⟩
        case measure =>
          have := HI.out
          simp [intOf]
          omega
  · have i1 : ¬ (i : Int) < (ns.length : Int) := by omega
    have HC4 : Hid (C = rgs ns (t.stages ++ t.marks)) := by
      show _ = _
      have h1 := HE.out
      rw [List.drop_eq_nil_of_le (by omega : ns.length ≤ i)] at h1
      have h2 : rns (t.attrs.drop i) (ns.take i) [] = 0 := by simp [rns]
      rw [HC3.out, h1, h2]
      rfl
    have HK13 : Hid (Kept (fun _ => True) w1 wr) := HK3.out.trans HKr.out
    obtain ⟨⟨y0, y1, y2, y3⟩, _⟩ := four_cell ((HK13.out.block B (lt_of_block HX.out) trivial).trans HX.out)
    have HRS : Hid (Rv wr (.slice so t.stages.length sc) t.stages) := HS.out.all HK13.out
    have HRM : Hid (Rv wr (.slice mo t.marks.length mc) t.marks) := HM.out.all HK13.out
    have hrl : t.stages.length + t.marks.length ≤ 12 := by omega
    obtain ⟨N2, hN2⟩ : ∃ N2, N2 = t.stages.length + t.marks.length := ⟨_, rfl⟩
    have HN1 : Hid (([] : List Ru).length + t.stages.length = t.stages.length) := by show _ = _; simp
    have HN2 : Hid (([] ++ t.stages).length + t.marks.length = N2) := by show _ = _; rw [hN2]; simp
    have HN3 : Hid (([] : List Ru).length + t.stages.length ≤ 100000000 ∧ ([] ++ t.stages).length + t.marks.length ≤ 100000000) := by
      refine ⟨?_, ?_⟩
      · rw [HN1.out]; omega
      · rw [HN2.out]; omega
    have h12 : N2 ≤ 12 := by omega
    have kd : Kept (fun _ => True) wr wr.drew := (Kept.refl _ _).drew
    have u2 : ∀ W, Kept (fun _ => True) wr W → W.cell? ⟨B, 2, none⟩ = some (.slice so t.stages.length sc) := fun W q => cell_stays q y2 trivial
    have u3 : ∀ W, Kept (fun _ => True) wr W → W.cell? ⟨B, 3, none⟩ = some (.slice mo t.marks.length mc) := fun W q => cell_stays q y3 trivial
    clear hlt HE HC3 y0 y1 y2 y3 hN2 hrl
    go_wp2_with fail
    go_region_held3 (fun W => Kept (fun _ => True) wr W) (first | assumption | exact Kept.alloc (by assumption) _) (first
      | (refine step_append_rules ?_ (.tmp 92) (.tmp 94) ?_ wr.heap.size (.slice (some ⟨wr.heap.size, 0, none⟩) 0 0) [] ?_ (Ro.made wr.drew) (by simp) (.slice so t.stages.length sc) ?_ t.stages (HRS.out.all (kd.alloc _)) HN3.out.1 t.stages.length HN1.out ?_; rfl; rfl; rfl; rfl; intro ao1 cap1 w5 t1 gr1; have k1 : Kept (fun _ => True) wr w5 := (kd.alloc _).grown gr1 (fun q hq e _ => by simp [Value.ownBlock] at e; omega))
      | (refine step_append_rules ?_ (.tmp 95) (.tmp 97) ?_ wr.heap.size (.slice ao1 t.stages.length cap1) ([] ++ t.stages) ?_ t1 k1.size (.slice mo t.marks.length mc) ?_ t.marks (HRM.out.all k1) HN3.out.2 N2 HN2.out ?_; rfl; rfl; rfl; rfl; intro ao2 cap2 w6 t2 gr2; have k2 : Kept (fun _ => True) wr w6 := k1.grown gr2 (fun q hq e _ => by have := (World.ownsRow.lt t1 q e).1; omega)))
    all_goals
      have hv : Rv w6 (.slice ao2 N2 cap2) (t.stages ++ t.marks) := Ro.view (show Ro w6 wr.heap.size (.slice ao2 N2 cap2) (t.stages ++ t.marks) from t2) (by rw [List.length_append]; omega)
      have HV : Hid (Rv w6 (.slice ao2 N2 cap2) (t.stages ++ t.marks)) := hv
      have HRL : Hid (N2 = (t.stages ++ t.marks).length) := by show _ = _; rw [← HN2.out]; simp
      have HK5 : Hid (Kept (fun _ => True) w3 w6) := HKr.out.trans k2
      have HNS : Hid (Ns w3 (.slice no ns.length nc) ns) := HT.out.ns (by have := HNL.out; omega)
      clear t1 t2 gr1 gr2 k1 k2 hv u2 u3 kd
      generalize t.stages ++ t.marks = rs at *
      go_wp2_with fail
      go_loopw [8, 9, 10] (fun t8 _ _ wq => ∃ j : Nat, j ≤ N2 ∧ t8 = .int .i64 j ∧ C = rgs ns (rs.drop j) ∧ Kept (fun _ => True) w6 wq) (fun t8 _ _ _ => N2 - (intOf t8).toNat)
      case atStart => exact ⟨0, Nat.zero_le _, rfl, HC4.out, Kept.refl _ _⟩
      case round =>
      obtain ⟨j, hj, rfl, hE, hk⟩ := hrel
      have HE : Hid (C = rgs ns (rs.drop j)) := hE
      have HKq : Hid (Kept (fun _ => True) w6 wr) := hk
      clear hE hk
      by_cases hlt : j < N2
      · have hltr : j < rs.length := by have := HRL.out; omega
        obtain ⟨b, off, rfl, hb, r0, r1⟩ := (HV.out.all HKq.out).at j hltr
        have j1 : (j : Int) < (N2 : Int) := by omega
        have j0 : (0 : Int) ≤ (j : Int) := by omega
        have cg := rcheck_any ((HNS.out.all HK5.out).all HKq.out) (rs[j]).guard (HGZ.out _ (List.getElem_mem hltr))
        have HSt : Hid _ := rgs_step (ns := ns) hltr
        clear hb
        generalize (chk ns (rs[j]).guard).2 = p2 at *
        generalize (chk ns (rs[j]).guard).1 = p1 at *
        generalize rs[j] = y at *
        go_wp2_with fail
        refine Calls.mono cg ?_
        rintro e w7 ⟨rfl, k6⟩
        have HK6 : Hid (Kept (fun _ => True) w6 w7) := HKq.out.trans k6
        clear k6 cg
        by_cases hp : p1 = 0
        · subst hp
          have HF : Hid (C = rgs ns (rs.drop (j + 1))) := by
            show _ = _
            rw [HE.out, HSt.out, if_neg (by simp)]
          clear HSt
          go_wp2_with fail
          go_roundw
          case rel => exact ⟨j + 1, by omega, by go_num, HF.out, HK6.out⟩
          case measure => simp [intOf]; omega
        · have hp' : ((p1 : Int) == 0) = false := by simp; omega
          have HF : Hid (C = p1) := by
            show _ = _
            rw [HE.out, HSt.out, if_pos hp]
          clear HSt hp
          go_wp2_with fail
          go_ret
          exact ⟨by rw [HF.out]; rfl, K0.out.trans (HK3.out.trans (HK5.out.trans HK6.out))⟩
      · have j1 : ¬ (j : Int) < (N2 : Int) := by omega
        have HF : Hid (C = 0) := by
          show _ = _
          rw [HE.out, List.drop_eq_nil_of_le (by have := HRL.out; omega)]
          rfl
        go_wp2_with fail
        go_ret
        exact ⟨by rw [HF.out]; rfl, K0.out.trans (HK3.out.trans (HK5.out.trans HKq.out))⟩

end Go.Proofs.YtnddpalngjmhnaaDoor
