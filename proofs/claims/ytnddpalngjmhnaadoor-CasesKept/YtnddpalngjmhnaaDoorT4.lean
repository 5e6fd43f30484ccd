/-
  Names of a type.
-/
import Derived.Test.YtnddpalngjmhnaaDoorTV
namespace Go.Proofs.YtnddpalngjmhnaaDoor
open Go.RowKit

theorem Av.at {w : World} {ao : Option Addr} {n cap : Nat} {xs : List At} (h : Av w (.slice ao n cap) xs) (i : Nat) (hi : i < xs.length) : ∃ b off, ao = some ⟨b, off, none⟩ ∧ b < w.heap.size ∧
    w.cell? ⟨b, off + i * 4, none⟩ = some (.string ⟨(xs[i]).name.toArray⟩) ∧ w.cell? ⟨b, off + i * 4 + 1, none⟩ = some (.int .i64 (xs[i]).start) ∧ w.cell? ⟨b, off + i * 4 + 2, none⟩ = some (.int .i64 (xs[i]).lo) ∧ w.cell? ⟨b, off + i * 4 + 3, none⟩ = some (.int .i64 (xs[i]).hi) := by
  obtain ⟨ao', cap', e, hl, hn, h⟩ := h
  cases e
  obtain ⟨b, off, e, hb, hc⟩ := h (by omega)
  exact ⟨b, off, e, hb, hc i hi⟩
theorem Rv.at {w : World} {ao : Option Addr} {n cap : Nat} {xs : List Ru} (h : Rv w (.slice ao n cap) xs) (i : Nat) (hi : i < xs.length) : ∃ b off, ao = some ⟨b, off, none⟩ ∧ b < w.heap.size ∧
    w.cell? ⟨b, off + i * 2, none⟩ = some (.string ⟨(xs[i]).name.toArray⟩) ∧ w.cell? ⟨b, off + i * 2 + 1, none⟩ = some (.string ⟨(xs[i]).guard.toArray⟩) := by
  obtain ⟨ao', cap', e, hl, hn, h⟩ := h
  cases e
  obtain ⟨b, off, e, hb, hc⟩ := h (by omega)
  exact ⟨b, off, e, hb, hc i hi⟩
/-- The slice's own parts. -/
theorem Av.form {w : World} {v : Value} {xs : List At} (h : Av w v xs) : ∃ ao cap, v = .slice ao xs.length cap ∧ xs.length ≤ 281474976710656 := by
  obtain ⟨ao, cap, e, hl, _⟩ := h
  exact ⟨ao, cap, e, hl⟩
theorem Rv.form {w : World} {v : Value} {xs : List Ru} (h : Rv w v xs) : ∃ ao cap, v = .slice ao xs.length cap ∧ xs.length ≤ 281474976710656 := by
  obtain ⟨ao, cap, e, hl, _⟩ := h
  exact ⟨ao, cap, e, hl⟩
theorem TyV.parts {w : World} {v : Value} {t : Ty} (h : TyV w v t) : ∃ ao an ac so sn sc mo mn mc, v = .agg #[.string ⟨t.name.toArray⟩, .slice ao an ac, .slice so sn sc, .slice mo mn mc] := by
  obtain ⟨va, vs, vm, rfl, h1, h2, h3⟩ := h
  obtain ⟨ao, ac, rfl, _⟩ := h1.form
  obtain ⟨so, sc, rfl, _⟩ := h2.form
  obtain ⟨mo, mc, rfl, _⟩ := h3.form
  exact ⟨_, _, _, _, _, _, _, _, _, rfl⟩
theorem map_take_succ {α β : Type} (f : α → β) (l : List α) (i : Nat) (h : i < l.length) : (l.take (i + 1)).map f = (l.take i).map f ++ [f l[i]] := by
  rw [List.take_succ_eq_append_getElem h, List.map_append]
  rfl

theorem ownsRow_low {w : World} {b b' e sz n : Nat} {v : Value} {xs : List Value} (h : w.ownsRow b e sz v n xs) (hb : b' ≤ b) : w.ownsRow b' e sz v n xs := by
  refine ⟨h.1, ?_⟩
  rcases h.2 with h0 | ⟨g, cap, cur, rfl, hg, rest⟩
  · exact .inl h0
  · exact .inr ⟨g, cap, cur, rfl, by omega, rest⟩

set_option maxRecDepth 100000 in
set_option maxHeartbeats 8000000 in
theorem names_any {w : World} {v : Value} {t : Ty} (h : TyV w v t) (hm : (nms t).length ≤ 100000000) :
    Calls Tryd.prog 63 #[v] w fun e w' => ∃ v', e = .returned v' ∧ Txs w' w.heap.size v' (nms t) ∧ Kept (fun _ => True) w w' := by
  obtain ⟨va, vs, vm, rfl, ha, hs, hk⟩ := h
  obtain ⟨ao, ac, rfl, la⟩ := ha.form
  obtain ⟨so, sc, rfl, ls⟩ := hs.form
  obtain ⟨mo, mc, rfl, lm⟩ := hk.form
  have hnl : (nms t).length = t.attrs.length + t.stages.length + t.marks.length := by simp [nms]; omega
  rw [hnl] at hm
  have k0 : Kept (fun _ => True) w (w.alloc (.cells #[.string ⟨t.name.toArray⟩, .slice ao t.attrs.length ac, .slice so t.stages.length sc, .slice mo t.marks.length mc] 25)) := (Kept.refl _ _).alloc _
  have hX := heap_alloc_new w (.cells #[.string ⟨t.name.toArray⟩, .slice ao t.attrs.length ac, .slice so t.stages.length sc, .slice mo t.marks.length mc] 25)
  replace ha := ha.all k0
  replace hs := hs.all k0
  replace hk := hk.all k0
  have hsz : w.heap.size ≤ (w.alloc (.cells #[.string ⟨t.name.toArray⟩, .slice ao t.attrs.length ac, .slice so t.stages.length sc, .slice mo t.marks.length mc] 25)).heap.size := k0.size
  obtain ⟨⟨z0, z1, z2, z3⟩, _⟩ := four_cell hX
  clear hnl
  go_enter Tryd.func63, Tryd.ntmps63
  go_wp2_with fail
  generalize w.alloc (.cells #[.string ⟨t.name.toArray⟩, .slice ao t.attrs.length ac, .slice so t.stages.length sc, .slice mo t.marks.length mc] 25) = w1 at *
  obtain ⟨B, hB⟩ : ∃ B, B = w.heap.size := ⟨_, rfl⟩
  have HBw : Hid (w.heap.size ≤ B) := Nat.le_of_eq hB.symm
  rw [← hB] at hX z0 z1 z2 z3 ⊢
  have HB : Hid (B = w.heap.size) := hB
  have K0 : Hid (Kept (fun _ => True) w w1) := k0
  have HSZ : Hid (w.heap.size ≤ w1.heap.size) := hsz
  have HA : Hid (Av w1 (.slice ao t.attrs.length ac) t.attrs) := ha
  have HS : Hid (Rv w1 (.slice so t.stages.length sc) t.stages) := hs
  have HM : Hid (Rv w1 (.slice mo t.marks.length mc) t.marks) := hk
  have HX : Hid (w1.heap[B]? = some (.cells #[.string ⟨t.name.toArray⟩, .slice ao t.attrs.length ac, .slice so t.stages.length sc, .slice mo t.marks.length mc] 25 (0, 0))) := hX
  clear hB ha hs hk hX k0 hsz
  go_loopw [3, 5, 13] (fun t3 _ ti wr => ∃ i : Nat, i ≤ t.attrs.length ∧ ti = .int .i64 i ∧ Txs wr w1.heap.size t3 ((t.attrs.take i).map At.name) ∧ Kept (fun _ => True) w1 wr) (fun _ _ ti _ => t.attrs.length - (intOf ti).toNat)
  case atStart => exact ⟨0, Nat.zero_le _, rfl, Txs.nil _ _, Kept.refl _ _⟩
  case round =>
    obtain ⟨i, hi, rfl, hT, hk⟩ := hrel
    obtain ⟨to, tc, rfl, _, _⟩ := hT.shape
    have hln : ((t.attrs.take i).map At.name).length ≤ 100000000 := by simp only [List.length_map, List.length_take]; omega
    have HLN : Hid _ := hln
    have HT : Hid (Txs wr w1.heap.size (.slice to ((t.attrs.take i).map At.name).length tc) ((t.attrs.take i).map At.name)) := hT
    have HKr : Hid (Kept (fun _ => True) w1 wr) := hk
    clear hT hk hln
    by_cases hlt : i < t.attrs.length
    · obtain ⟨b, off, rfl, hb, hc0, hc1, hc2, hc3⟩ := (HA.out.all HKr.out).at i hlt
      have HST : Hid ((t.attrs.take (i + 1)).map At.name = (t.attrs.take i).map At.name ++ [(t.attrs[i]).name]) := map_take_succ _ _ _ hlt
      have i1 : (i : Int) < (t.attrs.length : Int) := by omega
      have i0 : (0 : Int) ≤ (i : Int) := by omega
      generalize t.attrs[i] = x at *
      have HK4 : Hid (Kept (fun _ => True) wr (wr.alloc (.cells #[Value.string ⟨x.name.toArray⟩, Value.int .i64 x.start, Value.int .i64 x.lo, Value.int .i64 x.hi] 59))) := (Kept.refl _ _).alloc _
      have HNB : Hid (∀ o : Obj, ((wr.alloc (.cells #[Value.string ⟨x.name.toArray⟩, Value.int .i64 x.start, Value.int .i64 x.lo, Value.int .i64 x.hi] 59)).alloc o).heap[wr.heap.size + 1]? = some o) := fun o => heap_alloc2_new wr _ o
      generalize hNs : ((t.attrs.take i).map At.name) = ns at *
      have HNS : Hid _ := hNs
      clear hNs
      go_wp2_with (at_builtin; refine wpList_append_text rfl (.tmp 17) (.tmp 20) rfl w1.heap.size (.slice to ns.length tc) ns rfl (HT.out.kept (p := fun _ => True) (HK4.out.alloc _) (fun _ _ => trivial)) (by have h1 := HKr.out.size; have h2 := (HK4.out.alloc (.cells #[.string ⟨x.name.toArray⟩] 9)).size; omega) (wr.heap.size + 1) rfl x.name (0, 0) (HNB.out _) (by have := HLN.out; omega) ?_; intro ao' cap' w' hW hG hO; have HW : Hid _ := hW; have HGr : Hid _ := hG; clear hW hG hO)
      go_roundw
      case rel =>
        refine ⟨i + 1, by omega, by go_num, ?_, ?_⟩
        · rw [HST.out]
          exact HW.out
        · exact ((HKr.out.trans HK4.out).alloc _).grown HGr.out (fun k hk e => by have := (World.ownsRow.lt HT.out k e).1; omega)
      case measure => simp [intOf]; omega
    · have i1 : ¬ (i : Int) < (t.attrs.length : Int) := by omega
      have hie : i = t.attrs.length := by omega
      have hX2 := (HKr.out.block B (lt_of_block HX.out) trivial).trans HX.out
      obtain ⟨⟨y0, y1, y2, y3⟩, _⟩ := four_cell hX2
      have HT2 : Hid (Txs wr w1.heap.size (.slice to ((t.attrs.take i).map At.name).length tc) (t.attrs.map At.name)) := by
        have := HT.out
        rw [hie] at this ⊢
        rw [List.take_length] at this ⊢
        exact this
      generalize ((t.attrs.take i).map At.name).length = tl at *
      clear hX2 HT hie hlt
      go_wp2_with fail
      go_loopw [3, 7, 26] (fun t3 _ ti wr => ∃ i : Nat, i ≤ t.stages.length ∧ ti = .int .i64 i ∧ Txs wr w1.heap.size t3 (t.attrs.map At.name ++ (t.stages.take i).map Ru.name) ∧ Kept (fun _ => True) w1 wr) (fun _ _ ti _ => t.stages.length - (intOf ti).toNat)
      case atStart => exact ⟨0, Nat.zero_le _, rfl, by simpa using HT2.out, HKr.out⟩
      case round =>
        obtain ⟨i, hi, rfl, hT, hk⟩ := hrel
        obtain ⟨to, tc, rfl, _, _⟩ := hT.shape
        have hln : (t.attrs.map At.name ++ (t.stages.take i).map Ru.name).length ≤ 100000000 := by simp only [List.length_append, List.length_map, List.length_take]; omega
        have HLN : Hid _ := hln
        have HT : Hid (Txs wr w1.heap.size (.slice to (t.attrs.map At.name ++ (t.stages.take i).map Ru.name).length tc) (t.attrs.map At.name ++ (t.stages.take i).map Ru.name)) := hT
        have HKr : Hid (Kept (fun _ => True) w1 wr) := hk
        clear hT hk hln
        by_cases hlt : i < t.stages.length
        · obtain ⟨b, off, rfl, hb, hc0, hc1⟩ := (HS.out.all HKr.out).at i hlt
          have HST : Hid ((t.stages.take (i + 1)).map Ru.name = (t.stages.take i).map Ru.name ++ [(t.stages[i]).name]) := map_take_succ _ _ _ hlt
          have i1 : (i : Int) < (t.stages.length : Int) := by omega
          have i0 : (0 : Int) ≤ (i : Int) := by omega
          generalize t.stages[i] = x at *
          have HK4 : Hid (Kept (fun _ => True) wr (wr.alloc (.cells #[Value.string ⟨x.name.toArray⟩, Value.string ⟨x.guard.toArray⟩] 55))) := (Kept.refl _ _).alloc _
          have HNB : Hid (∀ o : Obj, ((wr.alloc (.cells #[Value.string ⟨x.name.toArray⟩, Value.string ⟨x.guard.toArray⟩] 55)).alloc o).heap[wr.heap.size + 1]? = some o) := fun o => heap_alloc2_new wr _ o
          generalize hNs : (t.attrs.map At.name ++ (t.stages.take i).map Ru.name) = ns at *
          have HNS : Hid _ := hNs
          clear hNs
          go_wp2_with (at_builtin; refine wpList_append_text rfl (.tmp 30) (.tmp 33) rfl w1.heap.size (.slice to ns.length tc) ns rfl (HT.out.kept (p := fun _ => True) (HK4.out.alloc _) (fun _ _ => trivial)) (by have h1 := HKr.out.size; have h2 := (HK4.out.alloc (.cells #[.string ⟨x.name.toArray⟩] 9)).size; omega) (wr.heap.size + 1) rfl x.name (0, 0) (HNB.out _) (by have := HLN.out; omega) ?_; intro ao' cap' w' hW hG hO; have HW : Hid _ := hW; have HGr : Hid _ := hG; clear hW hG hO)
          go_roundw
          case rel =>
            refine ⟨i + 1, by omega, by go_num, ?_, ?_⟩
            · rw [HST.out, ← List.append_assoc, HNS.out]
              exact HW.out
            · exact ((HKr.out.trans HK4.out).alloc _).grown HGr.out (fun k hk e => by have := (World.ownsRow.lt HT.out k e).1; omega)
          case measure => simp [intOf]; omega
        · have i1 : ¬ (i : Int) < (t.stages.length : Int) := by omega
          have hie : i = t.stages.length := by omega
          have hX2 := (HKr.out.block B (lt_of_block HX.out) trivial).trans HX.out
          obtain ⟨⟨y0, y1, y2, y3⟩, _⟩ := four_cell hX2
          have HT2 : Hid (Txs wr w1.heap.size (.slice to (t.attrs.map At.name ++ (t.stages.take i).map Ru.name).length tc) (t.attrs.map At.name ++ t.stages.map Ru.name)) := by
            have := HT.out
            rw [hie] at this ⊢
            rw [List.take_length] at this ⊢
            exact this
          generalize (t.attrs.map At.name ++ (t.stages.take i).map Ru.name).length = tl at *
          clear hX2 HT hie hlt
          go_wp2_with fail
          go_loopw [3, 9, 39] (fun t3 _ ti wr => ∃ i : Nat, i ≤ t.marks.length ∧ ti = .int .i64 i ∧ Txs wr w1.heap.size t3 (t.attrs.map At.name ++ t.stages.map Ru.name ++ (t.marks.take i).map Ru.name) ∧ Kept (fun _ => True) w1 wr) (fun _ _ ti _ => t.marks.length - (intOf ti).toNat)
          case atStart => exact ⟨0, Nat.zero_le _, rfl, by simpa using HT2.out, HKr.out⟩
          case round =>
            obtain ⟨i, hi, rfl, hT, hk⟩ := hrel
            obtain ⟨to, tc, rfl, _, _⟩ := hT.shape
            have hln : (t.attrs.map At.name ++ t.stages.map Ru.name ++ (t.marks.take i).map Ru.name).length ≤ 100000000 := by simp only [List.length_append, List.length_map, List.length_take]; omega
            have HLN : Hid _ := hln
            have HT : Hid (Txs wr w1.heap.size (.slice to (t.attrs.map At.name ++ t.stages.map Ru.name ++ (t.marks.take i).map Ru.name).length tc) (t.attrs.map At.name ++ t.stages.map Ru.name ++ (t.marks.take i).map Ru.name)) := hT
            have HKr : Hid (Kept (fun _ => True) w1 wr) := hk
            clear hT hk hln
            by_cases hlt : i < t.marks.length
            · obtain ⟨b, off, rfl, hb, hc0, hc1⟩ := (HM.out.all HKr.out).at i hlt
              have HST : Hid ((t.marks.take (i + 1)).map Ru.name = (t.marks.take i).map Ru.name ++ [(t.marks[i]).name]) := map_take_succ _ _ _ hlt
              have i1 : (i : Int) < (t.marks.length : Int) := by omega
              have i0 : (0 : Int) ≤ (i : Int) := by omega
              generalize t.marks[i] = x at *
              have HK4 : Hid (Kept (fun _ => True) wr (wr.alloc (.cells #[Value.string ⟨x.name.toArray⟩, Value.string ⟨x.guard.toArray⟩] 55))) := (Kept.refl _ _).alloc _
              have HNB : Hid (∀ o : Obj, ((wr.alloc (.cells #[Value.string ⟨x.name.toArray⟩, Value.string ⟨x.guard.toArray⟩] 55)).alloc o).heap[wr.heap.size + 1]? = some o) := fun o => heap_alloc2_new wr _ o
              generalize hNs : (t.attrs.map At.name ++ t.stages.map Ru.name ++ (t.marks.take i).map Ru.name) = ns at *
              have HNS : Hid _ := hNs
              clear hNs
              go_wp2_with (at_builtin; refine wpList_append_text rfl (.tmp 43) (.tmp 46) rfl w1.heap.size (.slice to ns.length tc) ns rfl (HT.out.kept (p := fun _ => True) (HK4.out.alloc _) (fun _ _ => trivial)) (by have h1 := HKr.out.size; have h2 := (HK4.out.alloc (.cells #[.string ⟨x.name.toArray⟩] 9)).size; omega) (wr.heap.size + 1) rfl x.name (0, 0) (HNB.out _) (by have := HLN.out; omega) ?_; intro ao' cap' w' hW hG hO; have HW : Hid _ := hW; have HGr : Hid _ := hG; clear hW hG hO)
              go_roundw
              case rel =>
                refine ⟨i + 1, by omega, by go_num, ?_, ?_⟩
                · rw [HST.out, ← List.append_assoc, HNS.out]
                  exact HW.out
                · exact ((HKr.out.trans HK4.out).alloc _).grown HGr.out (fun k hk e => by have := (World.ownsRow.lt HT.out k e).1; omega)
              case measure => simp [intOf]; omega
            · have i1 : ¬ (i : Int) < (t.marks.length : Int) := by omega
              have hie : i = t.marks.length := by omega
              have hX2 := (HKr.out.block B (lt_of_block HX.out) trivial).trans HX.out
              obtain ⟨⟨y0, y1, y2, y3⟩, _⟩ := four_cell hX2
              have HT2 : Hid (Txs wr w1.heap.size (.slice to (t.attrs.map At.name ++ t.stages.map Ru.name ++ (t.marks.take i).map Ru.name).length tc) (t.attrs.map At.name ++ t.stages.map Ru.name ++ t.marks.map Ru.name)) := by
                have := HT.out
                rw [hie] at this ⊢
                rw [List.take_length] at this ⊢
                exact this
              generalize (t.attrs.map At.name ++ t.stages.map Ru.name ++ (t.marks.take i).map Ru.name).length = tl at *
              clear hX2 HT hie hlt
              go_wp2_with fail
              go_ret
              refine ⟨.slice to tl tc, rfl, ?_, K0.out.trans HKr.out⟩
              exact ownsRow_low HT2.out HSZ.out

end Go.Proofs.YtnddpalngjmhnaaDoor
