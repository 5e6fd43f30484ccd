/-
  New.
-/
import Derived.Test.YtnddpalngjmhnaaDoorV8
namespace Go.Proofs.YtnddpalngjmhnaaDoor
open Go.RowKit

theorem own_nums {w : World} {g n base : Nat} (h : w.heap[g]? = some (.cells (madeCells #[.int .i64 0] n) 3 (0, 0))) (hb : base ≤ g) (hn : n ≤ 1000000) : w.ownsRow base 3 1 (.slice (some ⟨g, 0, none⟩) n n) n (iv (List.replicate n 0)) := by
  refine ⟨by simp [iv], .inr ⟨g, n, _, rfl, hb, h, Nat.le_refl _, by unfold maxLen; omega, by simp [madeCells], ?_⟩⟩
  rw [toList_madeCells_one]
  simp [iv]
theorem own_truths {w : World} {g n base : Nat} (h : w.heap[g]? = some (.cells (madeCells #[.bool false] n) 4 (0, 0))) (hb : base ≤ g) (hn : n ≤ 1000000) : w.ownsRow base 4 1 (.slice (some ⟨g, 0, none⟩) n n) n (bv (List.replicate n false)) := by
  refine ⟨by simp [bv], .inr ⟨g, n, _, rfl, hb, h, Nat.le_refl _, by unfold maxLen; omega, by simp [madeCells], ?_⟩⟩
  rw [toList_madeCells_one]
  simp [bv]

theorem iv_at (xs : List Int) (i : Nat) (h : i < xs.length) : (iv xs)[i]? = some (.int .i64 xs[i]) := by simp [iv, h]
theorem alloc_quad (w : World) (a b c d : Obj) : let W := ((((w.alloc a).alloc b).alloc c).alloc d).drew; W.heap[w.heap.size]? = some a ∧ W.heap[w.heap.size + 1]? = some b ∧ W.heap[w.heap.size + 1 + 1]? = some c ∧ W.heap[w.heap.size + 1 + 1 + 1]? = some d := by
  obtain ⟨h1, h2, h3⟩ := alloc_three w a b c
  have e : (((w.alloc a).alloc b).alloc c).heap.size = w.heap.size + 1 + 1 + 1 := by simp
  refine ⟨?_, ?_, ?_, ?_⟩
  · show ((((w.alloc a).alloc b).alloc c).alloc d).heap[w.heap.size]? = some a
    rw [heap_alloc_old _ _ (by omega)]; exact h1
  · show ((((w.alloc a).alloc b).alloc c).alloc d).heap[w.heap.size + 1]? = some b
    rw [heap_alloc_old _ _ (by omega)]; exact h2
  · show ((((w.alloc a).alloc b).alloc c).alloc d).heap[w.heap.size + 1 + 1]? = some c
    rw [heap_alloc_old _ _ (by omega)]; exact h3
  · show ((((w.alloc a).alloc b).alloc c).alloc d).heap[w.heap.size + 1 + 1 + 1]? = some d
    rw [← e]; exact heap_alloc_new _ d
/-- A new state's box, and its three rows. -/
structure Nw (w wx : World) (t : Ty) (D ga gs gm : Nat) : Prop where
  box : wx.heap[D]? = some (.cells #[.string ⟨t.name.toArray⟩, .slice (some ⟨ga, 0, none⟩) t.attrs.length t.attrs.length, .slice (some ⟨gs, 0, none⟩) t.stages.length t.stages.length, .slice (some ⟨gm, 0, none⟩) t.marks.length t.marks.length] 31 (0, 0))
  vals : wx.heap[ga]? = some (.cells (madeCells #[.int .i64 0] t.attrs.length) 3 (0, 0))
  done : wx.heap[gs]? = some (.cells (madeCells #[.bool false] t.stages.length) 4 (0, 0))
  got : wx.heap[gm]? = some (.cells (madeCells #[.bool false] t.marks.length) 4 (0, 0))
  low : w.heap.size ≤ D ∧ w.heap.size ≤ ga ∧ w.heap.size ≤ gs ∧ w.heap.size ≤ gm
  apart : gs ≠ gm ∧ D ≠ ga ∧ D ≠ gs ∧ D ≠ gm
  kept : Kept (fun _ => True) w wx
/-- While the starts are laid. -/
structure Nb (w wx : World) (t : Ty) (D ga gs gm : Nat) (i : Nat) : Prop where
  box : wx.heap[D]? = some (.cells #[.string ⟨t.name.toArray⟩, .slice (some ⟨ga, 0, none⟩) t.attrs.length t.attrs.length, .slice (some ⟨gs, 0, none⟩) t.stages.length t.stages.length, .slice (some ⟨gm, 0, none⟩) t.marks.length t.marks.length] 31 (0, 0))
  so : So wx w.heap.size (.slice (some ⟨ga, 0, none⟩) t.attrs.length t.attrs.length) (.slice (some ⟨gs, 0, none⟩) t.stages.length t.stages.length) (.slice (some ⟨gm, 0, none⟩) t.marks.length t.marks.length) { rawP t with vals := (t.attrs.take i).map At.start ++ List.replicate (t.attrs.length - i) 0 }
  low : w.heap.size ≤ D ∧ w.heap.size ≤ ga ∧ D ≠ ga
  kept : Kept (fun _ => True) w wx
theorem Nw.begin {w wx : World} {t : Ty} {D ga gs gm : Nat} (h : Nw w wx t D ga gs gm) (g : Good t) : Nb w wx t D ga gs gm 0 := by
  have := g.na; have := g.ns; have := g.nm
  refine ⟨h.box, ⟨?_, ?_, ?_, fun k e q => ?_⟩, ⟨h.low.1, h.low.2.1, h.apart.2.1⟩, h.kept⟩
  · have := own_nums h.vals h.low.2.1 (by omega)
    simpa using this
  · have := own_truths h.done h.low.2.2.1 (by omega)
    simpa [rawP] using this
  · have := own_truths h.got h.low.2.2.2 (by omega)
    simpa [rawP] using this
  · simp only [Value.ownBlock, Option.some.injEq] at e q
    exact h.apart.1 (e.trans q.symm)
theorem start_step (l : List At) (i : Nat) (h : i < l.length) : ((l.take i).map At.start ++ List.replicate (l.length - i) (0 : Int)).set i (l[i]).start = (l.take (i + 1)).map At.start ++ List.replicate (l.length - (i + 1)) 0 := by
  apply List.ext_getElem?
  intro k
  rw [List.getElem?_set]
  have e1 : ((l.take i).map At.start).length = i := by simp; omega
  have e2 : ((l.take (i + 1)).map At.start).length = i + 1 := by simp; omega
  by_cases hk : i = k
  · subst hk
    rw [if_pos rfl, if_pos (by simp; omega), List.getElem?_append_left (by omega)]
    simp [h]
  · rw [if_neg hk]
    rcases Nat.lt_or_ge k i with h1 | h1
    · rw [List.getElem?_append_left (by omega), List.getElem?_append_left (by omega)]
      simp [h1, show k < i + 1 by omega]
    · rw [List.getElem?_append_right (by omega), List.getElem?_append_right (by omega), e1, e2]
      simp only [List.getElem?_replicate]
      by_cases h2 : k < l.length
      · rw [if_pos (by omega), if_pos (by omega)]
      · rw [if_neg (by omega), if_neg (by omega)]
theorem Nb.put {w wx : World} {t : Ty} {D ga gs gm i : Nat} (h : Nb w wx t D ga gs gm i) (hi : i < t.attrs.length) : Nb w (wx.setCell ⟨ga, i, none⟩ (.int .i64 (t.attrs[i]).start)) t D ga gs gm (i + 1) := by
  have hl : t.attrs.length = ({ rawP t with vals := (t.attrs.take i).map At.start ++ List.replicate (t.attrs.length - i) 0 } : Sa).vals.length := by simp; omega
  have h2 := (h.so.setVal hl i (t.attrs[i]).start).1
  refine ⟨?_, ?_, h.low, h.kept.setNew h.low.2.1 _⟩
  · have k : Kept (· ≠ ga) wx (wx.setCell ⟨ga, i, none⟩ (.int .i64 (t.attrs[i]).start)) := (Kept.refl _ _).setCell (by simp) _
    exact (k.block D (lt_of_block h.box) h.low.2.2).trans h.box
  · simpa only [start_step t.attrs i hi] using h2
theorem Nb.all {w wx wy : World} {t : Ty} {D ga gs gm i : Nat} (h : Nb w wx t D ga gs gm i) (k : Kept (fun _ => True) wx wy) : Nb w wy t D ga gs gm i :=
  ⟨(k.block D (lt_of_block h.box) trivial).trans h.box, h.so.all k, h.low, h.kept.trans k⟩

set_option maxRecDepth 100000 in
set_option maxHeartbeats 8000000 in
theorem new_any {w : World} {tv : Value} {t : Ty} (ht : TyV w tv t) (g : Good t) :
    Calls Tryd.prog 10 #[tv] w fun e w' => ∃ v, e = .returned v ∧ StO w' w.heap.size v (newP t) ∧ Kept (fun _ => True) w w' := by
  have HTy : Hid (TyV w tv t) := ht
  obtain ⟨ta, ts, tm, rfl, ha, hss, hkk⟩ := ht
  obtain ⟨ao, ac, rfl, la⟩ := ha.form
  obtain ⟨so, sc, rfl, ls⟩ := hss.form
  obtain ⟨mo, mc, rfl, lm⟩ := hkk.form
  obtain ⟨x1, x2⟩ := alloc_two w (.cells #[.string ⟨t.name.toArray⟩, .slice ao t.attrs.length ac, .slice so t.stages.length sc, .slice mo t.marks.length mc] 25) (.cells #[.string ⟨#[]⟩, .slice none 0 0, .slice none 0 0, .slice none 0 0] 31)
  have hk1 : Kept (fun _ => True) w ((w.alloc (.cells #[.string ⟨t.name.toArray⟩, .slice ao t.attrs.length ac, .slice so t.stages.length sc, .slice mo t.marks.length mc] 25)).alloc (.cells #[.string ⟨#[]⟩, .slice none 0 0, .slice none 0 0, .slice none 0 0] 31)) := ((Kept.refl _ _).alloc _).alloc _
  have cs := small_any (HTy.out.all hk1) g
  obtain ⟨⟨y0, y1, y2, y3⟩, _⟩ := four_cell x1
  have X1 : Hid _ := x1
  have X2 : Hid _ := x2
  have K1 : Hid _ := hk1
  have HGd : Hid (Good t) := g
  have hna := g.na
  have hns := g.ns
  have hnm := g.nm
  clear ha hss hkk x1 x2 hk1 g
  go_enter Tryd.func10, Tryd.ntmps10
  go_wp2_with fail
  refine Calls.mono cs ?_
  rintro e w2 ⟨rfl, k2⟩
  have hB1 := (k2.block _ (lt_of_block X1.out) trivial).trans X1.out
  have hB2 := (k2.block _ (lt_of_block X2.out) trivial).trans X2.out
  have K2 : Hid (Kept (fun _ => True) w w2) := K1.out.trans k2
  have HX1 : Hid _ := hB1
  have HX2 : Hid _ := hB2
  clear cs y0 y1 y2 y3 k2 X1 X2 K1
  obtain ⟨B, hB⟩ : ∃ B, B = w.heap.size := ⟨_, rfl⟩
  have HB : Hid (B = w.heap.size) := hB
  rw [← hB] at HX1 HX2 hB1 hB2 ⊢
  clear hB
  go_upto_region 3 with fail
  have kd : Kept (fun _ => True) w2 w2.drew := (Kept.refl _ _).drew
  obtain ⟨⟨y0, y1, y2, y3⟩, _⟩ := four_cell hB1
  have Y0 := fun W (q : Kept (fun _ => True) w2 W) => (kept_cell q (lt_of_block hB1) trivial).trans y0
  have Y1 := fun W (q : Kept (fun _ => True) w2 W) => (kept_cell q (lt_of_block hB1) trivial).trans y1
  have Y2 := fun W (q : Kept (fun _ => True) w2 W) => (kept_cell q (lt_of_block hB1) trivial).trans y2
  have Y3 := fun W (q : Kept (fun _ => True) w2 W) => (kept_cell q (lt_of_block hB1) trivial).trans y3
  have mA := make_nums t.attrs.length (by omega)
  have mS := make_truths t.stages.length (by omega)
  have mM := make_truths t.marks.length (by omega)
  clear y0 y1 y2 y3 hB1 hB2
  go_cut [3] from 10 to 24 (fun t3 wx => ∃ D ga gs gm : Nat, t3 = .pointer (some ⟨D, 0, none⟩) ∧ Nw w2 wx t D ga gs gm)
  case first =>
    go_region_held3 (fun W => Kept (fun _ => True) w2 W) (first | assumption | (repeat (first | exact Kept.refl _ _ | refine Kept.drew ?_ | refine Kept.alloc ?_ _))) (fail)
    all_goals
      go_wp2_with fail
      go_meet
      exact ⟨_, _, _, _, rfl, ⟨(by first | exact (alloc_quad _ _ _ _ _).1 | exact (alloc_quad _ _ _ _ _).2.1 | exact (alloc_quad _ _ _ _ _).2.2.1 | exact (alloc_quad _ _ _ _ _).2.2.2), (by first | exact (alloc_quad _ _ _ _ _).1 | exact (alloc_quad _ _ _ _ _).2.1 | exact (alloc_quad _ _ _ _ _).2.2.1 | exact (alloc_quad _ _ _ _ _).2.2.2), (by first | exact (alloc_quad _ _ _ _ _).1 | exact (alloc_quad _ _ _ _ _).2.1 | exact (alloc_quad _ _ _ _ _).2.2.1 | exact (alloc_quad _ _ _ _ _).2.2.2), (by first | exact (alloc_quad _ _ _ _ _).1 | exact (alloc_quad _ _ _ _ _).2.1 | exact (alloc_quad _ _ _ _ _).2.2.1 | exact (alloc_quad _ _ _ _ _).2.2.2), ⟨by omega, by omega, by omega, by omega⟩, ⟨by omega, by omega, by omega, by omega⟩, (((((Kept.refl _ _).alloc _).alloc _).alloc _).alloc _).drew⟩⟩
  case rest =>
  obtain ⟨D, ga, gs, gm, rfl, hnw⟩ := hcut
  have hnb := hnw.begin HGd.out
  have HNb : Hid (Nb w2 wc t D ga gs gm 0) := hnb
  have hB1 := (hnb.kept.block _ (lt_of_block HX1.out) trivial).trans HX1.out
  obtain ⟨⟨y0, y1, y2, y3⟩, _⟩ := four_cell hB1
  clear hnw hnb hB1 Y0 Y1 Y2 Y3 mA mS mM kd
  have HAt : Hid (Av w2 (.slice ao t.attrs.length ac) t.attrs) := by
    obtain ⟨va', _, _, e4, hA', _, _⟩ := HTy.out.all K2.out
    cases e4
    exact hA'
  go_wp2_with fail
  clear y0 y1 y2 y3
  go_loopw [4, 5, 28] (fun _ _ ti wr => ∃ i : Nat, i ≤ t.attrs.length ∧ ti = .int .i64 i ∧ Nb w2 wr t D ga gs gm i) (fun _ _ ti _ => t.attrs.length - (intOf ti).toNat)
  case atStart => exact ⟨0, Nat.zero_le _, rfl, HNb.out⟩
  case round =>
  obtain ⟨i, hi, rfl, hnb⟩ := hrel
  have HN2 : Hid (Nb w2 wr t D ga gs gm i) := hnb
  by_cases hlt : i < t.attrs.length
  · obtain ⟨b, off, rfl, hb, q0, q1, q2, q3⟩ := (HAt.out.all hnb.kept).at i hlt
    have i1 : (i : Int) < (t.attrs.length : Int) := by omega
    have i0 : (0 : Int) ≤ (i : Int) := by omega
    have ka : Kept (fun _ => True) wr (wr.alloc (.cells #[.string ⟨(t.attrs[i]).name.toArray⟩, .int .i64 (t.attrs[i]).start, .int .i64 (t.attrs[i]).lo, .int .i64 (t.attrs[i]).hi] 59)) := (Kept.refl _ _).alloc _
    have hn3 := hnb.all ka
    obtain ⟨⟨z0, z1, z2, z3⟩, _⟩ := four_cell hn3.box
    have hvl : ({ rawP t with vals := (t.attrs.take i).map At.start ++ List.replicate (t.attrs.length - i) 0 } : Sa).vals.length = t.attrs.length := by simp; omega
    have hrow := hn3.so.vals
    rw [hvl] at hrow
    have hc := hrow.cellAt i (by omega)
    obtain ⟨old, ho⟩ : ∃ old : Int, (iv ((t.attrs.take i).map At.start ++ List.replicate (t.attrs.length - i) 0))[i]? = some (.int .i64 old) := by
      exact ⟨_, iv_at _ i (by simp; omega)⟩
    rw [show (iv ({ rawP t with vals := (t.attrs.take i).map At.start ++ List.replicate (t.attrs.length - i) 0 } : Sa).vals)[i]? = some (.int .i64 old) from ho] at hc
    have hf := hrow.frozenAt i
    have HN4 : Hid _ := hn3.put hlt
    clear hnb hn3 hrow hvl ho ka hb
    generalize t.attrs[i] = x at *
    go_wp2_with fail
    go_roundw
    case rel => exact ⟨i + 1, by omega, by go_num, HN4.out⟩
    case measure => simp [intOf]; omega
  · have i1 : ¬ (i : Int) < (t.attrs.length : Int) := by omega
    have hraw : ({ rawP t with vals := (t.attrs.take i).map At.start ++ List.replicate (t.attrs.length - i) 0 } : Sa) = rawP t := by
      rw [List.take_of_length_le (by omega), show t.attrs.length - i = 0 by omega]
      simp [rawP]
    have hso := hnb.so
    rw [hraw] at hso
    have hB1 := (hnb.kept.block _ (lt_of_block HX1.out) trivial).trans HX1.out
    obtain ⟨⟨y0, y1, y2, y3⟩, _⟩ := four_cell hB1
    obtain ⟨⟨z0, z1, z2, z3⟩, _⟩ := four_cell hnb.box
    have cst := settle_any (HTy.out.all K2.out) (hnb.kept.mono fun _ _ _ => trivial) hso HGd.out (Fit.raw HGd.out).sz
    have hgm : D ≠ gm := fun e => by
      have h1 := hnb.box
      have h2 := hso.got
      rcases h2.2 with ⟨q, _⟩ | ⟨g', c', cur, q, _, hg', _⟩
      · cases (Value.slice.inj q).1
      · cases (Value.slice.inj q).1
        rw [← e, h1] at hg'
        simp at hg'
    have HGM : Hid _ := hgm
    have HSo : Hid _ := hso
    clear hnb hraw hso hB1 hgm
    have e1 : (rawP t).type = t.name := rfl
    rw [e1] at cst
    go_wp2_with fail
    refine Calls.mono cst ?_
    rintro e w5 ⟨rfl, hs5, k5⟩
    have hbx := (k5.block D (lt_of_block HN2.out.box) (by simp only [Value.ownBlock, ne_eq, Option.some.injEq]; exact Ne.symm HGM.out)).trans HN2.out.box
    have klow := HSo.out.lowG k5
    have hrs := ((klow.block (B + 1) (by have := lt_of_block HX2.out; have := HN2.out.kept.size; omega) (lt_of_block HX2.out)).trans (HN2.out.kept.block (B + 1) (lt_of_block HX2.out) trivial)).trans HX2.out
    obtain ⟨⟨x0, x1, x2, x3⟩, _⟩ := four_cell hbx
    obtain ⟨⟨r0, r1, r2, r3⟩, _⟩ := four_cell hrs
    have HRS : Hid _ := hrs
    have HS5 : Hid _ := hs5
    have K5 : Hid (Kept (· < w2.heap.size) w2 w5) := (HN2.out.kept.mono fun _ _ _ => trivial).trans klow
    clear cst y0 y1 y2 y3 z0 z1 z2 z3 hbx hrs hs5 k5 klow
    go_wp2_with fail
    have kz : Kept (fun i => i ≠ B + 1) w5 ((((w5.setCell ⟨B + 1, 0, none⟩ (.string ⟨t.name.toArray⟩)).setCell ⟨B + 1, 1, none⟩ (.slice (some ⟨ga, 0, none⟩) t.attrs.length t.attrs.length)).setCell ⟨B + 1, 2, none⟩ (.slice (some ⟨gs, 0, none⟩) t.stages.length t.stages.length)).setCell ⟨B + 1, 3, none⟩ (.slice (some ⟨gm, 0, none⟩) t.marks.length t.marks.length)) := ((((Kept.refl _ w5).setCell (by simp) _).setCell (by simp) _).setCell (by simp) _).setCell (by simp) _
    have hlt1 := lt_of_block HX2.out
    have hsz := K2.out.size
    refine bodyPost_ret (results_state rfl _ _ rfl (set_cell (set_cell (set_cell (set_cell HRS.out 0 _) 1 _) 2 _) 3 _) rfl) rfl ⟨_, rfl, ⟨.slice (some ⟨ga, 0, none⟩) t.attrs.length t.attrs.length, .slice (some ⟨gs, 0, none⟩) t.stages.length t.stages.length, .slice (some ⟨gm, 0, none⟩) t.marks.length t.marks.length, ?_, ?_⟩, ?_⟩
    · rw [show (newP t).type = t.name from (settled_grows t (rawP t)).type]
      rfl
    · have hso := HS5.out
      exact ⟨ownsRow_low (own_keep hso.vals kz (fun k e q => by have := (hso.vals.lt k e).1; omega)) hsz, ownsRow_low (own_keep hso.done kz (fun k e q => by have := (hso.done.lt k e).1; omega)) hsz, ownsRow_low (own_keep hso.got kz (fun k e q => by have := (hso.got.lt k e).1; omega)) hsz, hso.apart⟩
    · exact (K2.out.then K5.out (fun i hi _ => by show i < _; omega)).then kz (fun i hi _ => by have := HB.out; omega)

end Go.Proofs.YtnddpalngjmhnaaDoor
