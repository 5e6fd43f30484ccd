/-
  The document's Names.
-/
import Derived.Test.YtnddpalngjmhnaaDoorT9
import Derived.Test.YtnddpalngjmhnaaDoorQR4
namespace Go.Proofs.YtnddpalngjmhnaaDoor
open Go.RowKit

set_option maxRecDepth 100000 in
set_option maxHeartbeats 8000000 in
theorem rnames_any {w : World} {v : Value} {t : Ty} (h : TyV w v t) (hm : (nms t).length ≤ 100000000) :
    Calls Tryd.prog 56 #[v] w fun e w' => ∃ v', e = .returned v' ∧ Txs w' w.heap.size v' (nms t) ∧ Kept (fun _ => True) w w' := by
  obtain ⟨va, vs, vm, rfl, ha, hs, hk⟩ := h
  obtain ⟨ao, ac, rfl, la⟩ := ha.form
  obtain ⟨so, sc, rfl, ls⟩ := hs.form
  obtain ⟨mo, mc, rfl, lm⟩ := hk.form
  have hnl : (nms t).length = t.attrs.length + t.stages.length + t.marks.length := by simp [nms]; omega
  rw [hnl] at hm
  have k0 : Kept (fun _ => True) w (w.alloc (.cells #[.string ⟨t.name.toArray⟩, .slice ao t.attrs.length ac, .slice so t.stages.length sc, .slice mo t.marks.length mc] 25)) := (Kept.refl _ _).alloc _
  have hX := heap_alloc_new w (.cells #[.string ⟨t.name.toArray⟩, .slice ao t.attrs.length ac, .slice so t.stages.length sc, .slice mo t.marks.length mc] 25)
  replace ha := ha.all k0
  replace hs := hs.all k0
  replace hk := hk.all k0
  have hsz : w.heap.size ≤ (w.alloc (.cells #[.string ⟨t.name.toArray⟩, .slice ao t.attrs.length ac, .slice so t.stages.length sc, .slice mo t.marks.length mc] 25)).heap.size := k0.size
  clear hnl
  go_enter Tryd.func56, Tryd.ntmps56
  go_wp2_with fail
  generalize w.alloc (.cells #[.string ⟨t.name.toArray⟩, .slice ao t.attrs.length ac, .slice so t.stages.length sc, .slice mo t.marks.length mc] 25) = w1 at *
  obtain ⟨B, hB⟩ : ∃ B, B = w.heap.size := ⟨_, rfl⟩
  rw [← hB] at hX ⊢
  have HB : Hid (B = w.heap.size) := hB
  have K0 : Hid (Kept (fun _ => True) w w1) := k0
  have HSZ : Hid (w.heap.size ≤ w1.heap.size) := hsz
  have HA : Hid (Av w1 (.slice ao t.attrs.length ac) t.attrs) := ha
  have HS : Hid (Rv w1 (.slice so t.stages.length sc) t.stages) := hs
  have HM : Hid (Rv w1 (.slice mo t.marks.length mc) t.marks) := hk
  have HX : Hid (w1.heap[B]? = some (.cells #[.string ⟨t.name.toArray⟩, .slice ao t.attrs.length ac, .slice so t.stages.length sc, .slice mo t.marks.length mc] 25 (0, 0))) := hX
  clear hB ha hs hk hX k0 hsz
  go_loopw [3, 4] (fun t3 ti wr => ∃ i : Nat, i ≤ t.attrs.length ∧ ti = .int .i64 i ∧ Txs wr w1.heap.size t3 ((t.attrs.take i).map At.name) ∧ Kept (fun _ => True) w1 wr) (fun _ ti _ => t.attrs.length - (intOf ti).toNat)
  case atStart => exact ⟨0, Nat.zero_le _, rfl, Txs.nil _ _, Kept.refl _ _⟩
  case round =>
    obtain ⟨i, hi, rfl, hT, hk⟩ := hrel
    obtain ⟨tq, tc, rfl, _, _⟩ := hT.shape
    have hln : ((t.attrs.take i).map At.name).length ≤ 100000000 := by simp only [List.length_map, List.length_take]; omega
    have HLN : Hid _ := hln
    have HT : Hid (Txs wr w1.heap.size (.slice tq ((t.attrs.take i).map At.name).length tc) ((t.attrs.take i).map At.name)) := hT
    have HKr : Hid (Kept (fun _ => True) w1 wr) := hk
    have hX2 := (HKr.out.block B (lt_of_block HX.out) trivial).trans HX.out
    clear hT hk hln
    by_cases hlt : i < t.attrs.length
    · obtain ⟨b, off, rfl, hb, hc0, hc1, hc2, hc3⟩ := (HA.out.all HKr.out).at i hlt
      obtain ⟨⟨y0, y1, y2, y3⟩, _⟩ := four_cell hX2
      have HST : Hid ((t.attrs.take (i + 1)).map At.name = (t.attrs.take i).map At.name ++ [(t.attrs[i]).name]) := map_take_succ _ _ _ hlt
      have i1 : (i : Int) < (t.attrs.length : Int) := by omega
      have i0 : (0 : Int) ≤ (i : Int) := by omega
      clear hX2 hb
      generalize t.attrs[i] = x at *
      have HK4 : Hid (Kept (fun _ => True) wr (wr.alloc (.cells #[.string ⟨x.name.toArray⟩] 9))) := (Kept.refl _ _).alloc _
      generalize hNs : ((t.attrs.take i).map At.name) = ns at *
      have HNS : Hid _ := hNs
      clear hNs
      go_wp2_with (at_builtin; refine wpList_append_text rfl (.tmp 14) (.tmp 21) rfl w1.heap.size (.slice tq ns.length tc) ns rfl (HT.out.kept (p := fun _ => True) HK4.out (fun _ _ => trivial)) (by have h1 := HKr.out.size; have h2 := HK4.out.size; omega) wr.heap.size rfl x.name (0, 0) (heap_alloc_new _ _) (by have := HLN.out; omega) ?_; intro ao' cap' w' hW hG hO; have HW : Hid _ := hW; have HGr : Hid _ := hG; clear hW hG hO)
      go_roundw
      case rel =>
        refine ⟨i + 1, by omega, by go_num, ?_, ?_⟩
        · rw [HST.out]
          exact HW.out
        · exact (HKr.out.trans HK4.out).grown HGr.out (fun k hk e => by have := (World.ownsRow.lt HT.out k e).1; omega)
      case measure => simp [intOf]; omega
    · have i1 : ¬ (i : Int) < (t.attrs.length : Int) := by omega
      have hie : i = t.attrs.length := by omega
      obtain ⟨⟨y0, y1, y2, y3⟩, _⟩ := four_cell hX2
      have HT2 : Hid (Txs wr w1.heap.size (.slice tq ((t.attrs.take i).map At.name).length tc) (t.attrs.map At.name)) := by
        have := HT.out
        rw [hie] at this ⊢
        rw [List.take_length] at this ⊢
        exact this
      generalize ((t.attrs.take i).map At.name).length = tl at *
      clear hX2 HT hie hlt
      go_wp2_with fail
      go_loopw [3, 5] (fun t3 ti wr => ∃ i : Nat, i ≤ t.stages.length ∧ ti = .int .i64 i ∧ Txs wr w1.heap.size t3 (t.attrs.map At.name ++ (t.stages.take i).map Ru.name) ∧ Kept (fun _ => True) w1 wr) (fun _ ti _ => t.stages.length - (intOf ti).toNat)
      case atStart => exact ⟨0, Nat.zero_le _, rfl, by simpa using HT2.out, HKr.out⟩
      case round =>
        obtain ⟨i, hi, rfl, hT, hk⟩ := hrel
        obtain ⟨tq, tc, rfl, _, _⟩ := hT.shape
        have hln : (t.attrs.map At.name ++ (t.stages.take i).map Ru.name).length ≤ 100000000 := by simp only [List.length_append, List.length_map, List.length_take]; omega
        have HLN : Hid _ := hln
        have HT : Hid (Txs wr w1.heap.size (.slice tq (t.attrs.map At.name ++ (t.stages.take i).map Ru.name).length tc) (t.attrs.map At.name ++ (t.stages.take i).map Ru.name)) := hT
        have HKr : Hid (Kept (fun _ => True) w1 wr) := hk
        have hX2 := (HKr.out.block B (lt_of_block HX.out) trivial).trans HX.out
        clear hT hk hln
        by_cases hlt : i < t.stages.length
        · obtain ⟨b, off, rfl, hb, hc0, hc1⟩ := (HS.out.all HKr.out).at i hlt
          obtain ⟨⟨y0, y1, y2, y3⟩, _⟩ := four_cell hX2
          have HST : Hid ((t.stages.take (i + 1)).map Ru.name = (t.stages.take i).map Ru.name ++ [(t.stages[i]).name]) := map_take_succ _ _ _ hlt
          have i1 : (i : Int) < (t.stages.length : Int) := by omega
          have i0 : (0 : Int) ≤ (i : Int) := by omega
          clear hX2 hb
          generalize t.stages[i] = x at *
          have HK4 : Hid (Kept (fun _ => True) wr (wr.alloc (.cells #[.string ⟨x.name.toArray⟩] 9))) := (Kept.refl _ _).alloc _
          generalize hNs : (t.attrs.map At.name ++ (t.stages.take i).map Ru.name) = ns at *
          have HNS : Hid _ := hNs
          clear hNs
          go_wp2_with (at_builtin; refine wpList_append_text rfl (.tmp 30) (.tmp 37) rfl w1.heap.size (.slice tq ns.length tc) ns rfl (HT.out.kept (p := fun _ => True) HK4.out (fun _ _ => trivial)) (by have h1 := HKr.out.size; have h2 := HK4.out.size; omega) wr.heap.size rfl x.name (0, 0) (heap_alloc_new _ _) (by have := HLN.out; omega) ?_; intro ao' cap' w' hW hG hO; have HW : Hid _ := hW; have HGr : Hid _ := hG; clear hW hG hO)
          go_roundw
          case rel =>
            refine ⟨i + 1, by omega, by go_num, ?_, ?_⟩
            · rw [HST.out, ← List.append_assoc, HNS.out]
              exact HW.out
            · exact (HKr.out.trans HK4.out).grown HGr.out (fun k hk e => by have := (World.ownsRow.lt HT.out k e).1; omega)
          case measure => simp [intOf]; omega
        · have i1 : ¬ (i : Int) < (t.stages.length : Int) := by omega
          have hie : i = t.stages.length := by omega
          obtain ⟨⟨y0, y1, y2, y3⟩, _⟩ := four_cell hX2
          have HT2 : Hid (Txs wr w1.heap.size (.slice tq (t.attrs.map At.name ++ (t.stages.take i).map Ru.name).length tc) (t.attrs.map At.name ++ t.stages.map Ru.name)) := by
            have := HT.out
            rw [hie] at this ⊢
            rw [List.take_length] at this ⊢
            exact this
          generalize (t.attrs.map At.name ++ (t.stages.take i).map Ru.name).length = tl at *
          clear hX2 HT hie hlt
          go_wp2_with fail
          go_loopw [3, 6] (fun t3 ti wr => ∃ i : Nat, i ≤ t.marks.length ∧ ti = .int .i64 i ∧ Txs wr w1.heap.size t3 (t.attrs.map At.name ++ t.stages.map Ru.name ++ (t.marks.take i).map Ru.name) ∧ Kept (fun _ => True) w1 wr) (fun _ ti _ => t.marks.length - (intOf ti).toNat)
          case atStart => exact ⟨0, Nat.zero_le _, rfl, by simpa using HT2.out, HKr.out⟩
          case round =>
            obtain ⟨i, hi, rfl, hT, hk⟩ := hrel
            obtain ⟨tq, tc, rfl, _, _⟩ := hT.shape
            have hln : (t.attrs.map At.name ++ t.stages.map Ru.name ++ (t.marks.take i).map Ru.name).length ≤ 100000000 := by simp only [List.length_append, List.length_map, List.length_take]; omega
            have HLN : Hid _ := hln
            have HT : Hid (Txs wr w1.heap.size (.slice tq (t.attrs.map At.name ++ t.stages.map Ru.name ++ (t.marks.take i).map Ru.name).length tc) (t.attrs.map At.name ++ t.stages.map Ru.name ++ (t.marks.take i).map Ru.name)) := hT
            have HKr : Hid (Kept (fun _ => True) w1 wr) := hk
            have hX2 := (HKr.out.block B (lt_of_block HX.out) trivial).trans HX.out
            clear hT hk hln
            by_cases hlt : i < t.marks.length
            · obtain ⟨b, off, rfl, hb, hc0, hc1⟩ := (HM.out.all HKr.out).at i hlt
              obtain ⟨⟨y0, y1, y2, y3⟩, _⟩ := four_cell hX2
              have HST : Hid ((t.marks.take (i + 1)).map Ru.name = (t.marks.take i).map Ru.name ++ [(t.marks[i]).name]) := map_take_succ _ _ _ hlt
              have i1 : (i : Int) < (t.marks.length : Int) := by omega
              have i0 : (0 : Int) ≤ (i : Int) := by omega
              clear hX2 hb
              generalize t.marks[i] = x at *
              have HK4 : Hid (Kept (fun _ => True) wr (wr.alloc (.cells #[.string ⟨x.name.toArray⟩] 9))) := (Kept.refl _ _).alloc _
              generalize hNs : (t.attrs.map At.name ++ t.stages.map Ru.name ++ (t.marks.take i).map Ru.name) = ns at *
              have HNS : Hid _ := hNs
              clear hNs
              go_wp2_with (at_builtin; refine wpList_append_text rfl (.tmp 46) (.tmp 53) rfl w1.heap.size (.slice tq ns.length tc) ns rfl (HT.out.kept (p := fun _ => True) HK4.out (fun _ _ => trivial)) (by have h1 := HKr.out.size; have h2 := HK4.out.size; omega) wr.heap.size rfl x.name (0, 0) (heap_alloc_new _ _) (by have := HLN.out; omega) ?_; intro ao' cap' w' hW hG hO; have HW : Hid _ := hW; have HGr : Hid _ := hG; clear hW hG hO)
              go_roundw
              case rel =>
                refine ⟨i + 1, by omega, by go_num, ?_, ?_⟩
                · rw [HST.out, ← List.append_assoc, HNS.out]
                  exact HW.out
                · exact (HKr.out.trans HK4.out).grown HGr.out (fun k hk e => by have := (World.ownsRow.lt HT.out k e).1; omega)
              case measure => simp [intOf]; omega
            · have i1 : ¬ (i : Int) < (t.marks.length : Int) := by omega
              have hie : i = t.marks.length := by omega
              obtain ⟨⟨y0, y1, y2, y3⟩, _⟩ := four_cell hX2
              have HT2 : Hid (Txs wr w1.heap.size (.slice tq (t.attrs.map At.name ++ t.stages.map Ru.name ++ (t.marks.take i).map Ru.name).length tc) (t.attrs.map At.name ++ t.stages.map Ru.name ++ t.marks.map Ru.name)) := by
                have := HT.out
                rw [hie] at this ⊢
                rw [List.take_length] at this ⊢
                exact this
              generalize (t.attrs.map At.name ++ t.stages.map Ru.name ++ (t.marks.take i).map Ru.name).length = tl at *
              clear hX2 HT hie hlt
              go_wp2_with fail
              go_ret
              rw [HB.out]
              refine ⟨.slice tq tl tc, rfl, ?_, K0.out.trans HKr.out⟩
              exact ownsRow_low HT2.out HSZ.out

end Go.Proofs.YtnddpalngjmhnaaDoor
