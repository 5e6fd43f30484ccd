/-
  The document's New.
-/
import Derived.Test.YtnddpalngjmhnaaDoorV11
import Derived.Test.YtnddpalngjmhnaaDoorVR2
namespace Go.Proofs.YtnddpalngjmhnaaDoor
open Go.RowKit

theorem alloc_tri (w : World) (a b c : Obj) : let W := (((w.alloc a).alloc b).alloc c).drew; W.heap[w.heap.size]? = some a ∧ W.heap[w.heap.size + 1]? = some b ∧ W.heap[w.heap.size + 1 + 1]? = some c := alloc_three w a b c
theorem own_off {w : World} {b e n D : Nat} {v : Value} {xs : List Value} {cs : Array Value} {T : TypeId} {fr : Nat × Nat} (h : w.ownsRow b e 1 v n xs) (hD : w.heap[D]? = some (.cells cs T fr)) (hne : e ≠ T) : v.ownBlock ≠ some D := by
  intro q
  rcases h.2 with ⟨rfl, _⟩ | ⟨g, cap, cur, rfl, _, hg, _⟩
  · cases q
  · cases q
    rw [hg] at hD
    simp only [Option.some.injEq, Obj.cells.injEq] at hD
    exact hne hD.2.1
/-- What an append to v leaves. -/
def Sx (v : Value) (w W : World) : Prop := Kept (fun b => v.ownBlock ≠ some b) w W
/-- A new state's box, its two rows of truths. -/
structure Nv (w wx : World) (t : Ty) (D gs gm : Nat) : Prop where
  box : wx.heap[D]? = some (.cells #[.string ⟨t.name.toArray⟩, .slice none 0 0, .slice (some ⟨gs, 0, none⟩) t.stages.length t.stages.length, .slice (some ⟨gm, 0, none⟩) t.marks.length t.marks.length] 31 (0, 0))
  done : wx.heap[gs]? = some (.cells (madeCells #[.bool false] t.stages.length) 4 (0, 0))
  got : wx.heap[gm]? = some (.cells (madeCells #[.bool false] t.marks.length) 4 (0, 0))
  low : w.heap.size ≤ D ∧ w.heap.size ≤ gs ∧ w.heap.size ≤ gm
  apart : gs ≠ gm
  kept : Kept (fun _ => True) w wx
/-- While the starts are appended. -/
structure Nr (w wx : World) (t : Ty) (D gs gm : Nat) (va : Value) (i : Nat) : Prop where
  box : wx.heap[D]? = some (.cells #[.string ⟨t.name.toArray⟩, va, .slice (some ⟨gs, 0, none⟩) t.stages.length t.stages.length, .slice (some ⟨gm, 0, none⟩) t.marks.length t.marks.length] 31 (0, 0))
  so : So wx w.heap.size va (.slice (some ⟨gs, 0, none⟩) t.stages.length t.stages.length) (.slice (some ⟨gm, 0, none⟩) t.marks.length t.marks.length) { rawP t with vals := (t.attrs.take i).map At.start }
  low : w.heap.size ≤ D
  kept : Kept (fun _ => True) w wx
theorem Nv.begin {w wx : World} {t : Ty} {D gs gm : Nat} (h : Nv w wx t D gs gm) (g : Good t) : Nr w wx t D gs gm (.slice none 0 0) 0 := by
  have := g.ns; have := g.nm
  refine ⟨h.box, ⟨?_, ?_, ?_, fun k e q => ?_⟩, h.low.1, h.kept⟩
  · simpa [iv] using World.ownsRow_nil wx w.heap.size 3 1
  · have := own_truths h.done h.low.2.1 (by omega)
    simpa [rawP] using this
  · have := own_truths h.got h.low.2.2 (by omega)
    simpa [rawP] using this
  · simp only [Value.ownBlock, Option.some.injEq] at e q
    exact h.apart (e.trans q.symm)
theorem Nr.len {w wx : World} {t : Ty} {D gs gm i : Nat} {va : Value} (h : Nr w wx t D gs gm va i) (hi : i ≤ t.attrs.length) : wx.ownsRow w.heap.size 3 1 va i (iv ((t.attrs.take i).map At.start)) := by
  have := h.so.vals
  rwa [show ({ rawP t with vals := (t.attrs.take i).map At.start } : Sa).vals.length = i by simp; omega] at this
theorem Nr.put {w wx wy : World} {t : Ty} {D gs gm i cap : Nat} {va : Value} {ao : Option Addr} (h : Nr w wx t D gs gm va i) (hi : i < t.attrs.length) (hW : wy.ownsRow w.heap.size 3 1 (.slice ao (i + 1) cap) (i + 1) (iv ((t.attrs.take i).map At.start) ++ [.int .i64 (t.attrs[i]).start])) (k : Kept (fun b => va.ownBlock ≠ some b) wx wy) (kw : Kept (fun _ => True) w wy) :
    Nr w (wy.setCell ⟨D, 1, none⟩ (.slice ao (i + 1) cap)) t D gs gm (.slice ao (i + 1) cap) (i + 1) := by
  have hD := (k.block D (lt_of_block h.box) (own_off h.so.vals h.box (by decide))).trans h.box
  have kd : Kept (· ≠ D) wy (wy.setCell ⟨D, 1, none⟩ (.slice ao (i + 1) cap)) := (Kept.refl _ _).setCell (by simp) _
  have s1 := own_keep h.so.done k (fun b e q => types_differ h.so.vals h.so.done b q e)
  have s2 := own_keep h.so.got k (fun b e q => types_differ h.so.vals h.so.got b q e)
  refine ⟨?_, ⟨?_, own_keep s1 kd (fun b e q => own_off s1 hD (by decide) (by rw [← q]; exact e)), own_keep s2 kd (fun b e q => own_off s2 hD (by decide) (by rw [← q]; exact e)), h.so.apart⟩, h.low, kw.setNew h.low _⟩
  · have := set_cell hD 1 (.slice ao (i + 1) cap)
    simpa using this
  · have e : iv ((t.attrs.take i).map At.start) ++ [.int .i64 (t.attrs[i]).start] = iv ((t.attrs.take (i + 1)).map At.start) := by
      rw [List.take_succ_eq_append_getElem hi, List.map_append, iv_append]
      rfl
    rw [e] at hW
    have := own_keep hW kd (fun b e q => own_off hW hD (by decide) (by rw [← q]; exact e))
    rwa [show ({ rawP t with vals := (t.attrs.take (i + 1)).map At.start } : Sa).vals.length = i + 1 by simp; omega]

set_option maxRecDepth 100000 in
set_option maxHeartbeats 8000000 in
theorem rnew_any {w : World} {tv : Value} {t : Ty} (ht : TyV w tv t) (g : Good t) :
    Calls Tryd.prog 11 #[tv] w fun e w' => ∃ v, e = .returned v ∧ StO w' w.heap.size v (newP t) ∧ Kept (fun _ => True) w w' := by
  have HTy : Hid (TyV w tv t) := ht
  obtain ⟨ta, ts, tm, rfl, ha, hss, hkk⟩ := ht
  obtain ⟨ao, ac, rfl, la⟩ := ha.form
  obtain ⟨so, sc, rfl, ls⟩ := hss.form
  obtain ⟨mo, mc, rfl, lm⟩ := hkk.form
  obtain ⟨x1, x2⟩ := alloc_two w (.cells #[.string ⟨t.name.toArray⟩, .slice ao t.attrs.length ac, .slice so t.stages.length sc, .slice mo t.marks.length mc] 25) (.cells #[.string ⟨#[]⟩, .slice none 0 0, .slice none 0 0, .slice none 0 0] 31)
  have hk1 : Kept (fun _ => True) w ((w.alloc (.cells #[.string ⟨t.name.toArray⟩, .slice ao t.attrs.length ac, .slice so t.stages.length sc, .slice mo t.marks.length mc] 25)).alloc (.cells #[.string ⟨#[]⟩, .slice none 0 0, .slice none 0 0, .slice none 0 0] 31)) := ((Kept.refl _ _).alloc _).alloc _
  have HX1 : Hid _ := x1
  have HX2 : Hid _ := x2
  have K2 : Hid _ := hk1
  have HGd : Hid (Good t) := g
  have HAt : Hid (Av _ (.slice ao t.attrs.length ac) t.attrs) := ha.all hk1
  have HT2 : Hid (TyV _ (.agg #[.string ⟨t.name.toArray⟩, .slice ao t.attrs.length ac, .slice so t.stages.length sc, .slice mo t.marks.length mc]) t) := HTy.out.all hk1
  have hna := g.na
  have hns := g.ns
  have hnm := g.nm
  clear ha hss hkk x1 x2 hk1 g HTy
  go_enter Tryd.func11, Tryd.ntmps11
  go_upto_region 1 with fail
  generalize (w.alloc (.cells #[.string ⟨t.name.toArray⟩, .slice ao t.attrs.length ac, .slice so t.stages.length sc, .slice mo t.marks.length mc] 25)).alloc (.cells #[.string ⟨#[]⟩, .slice none 0 0, .slice none 0 0, .slice none 0 0] 31) = w2 at *
  obtain ⟨B, hB⟩ : ∃ B, B = w.heap.size := ⟨_, rfl⟩
  have HB : Hid (B = w.heap.size) := hB
  rw [← hB] at HX1 HX2 ⊢
  clear hB
  have hB1 := HX1.out
  have kd : Kept (fun _ => True) w2 w2.drew := (Kept.refl _ _).drew
  obtain ⟨⟨y0, y1, y2, y3⟩, _⟩ := four_cell hB1
  have Y0 := fun W (q : Kept (fun _ => True) w2 W) => (kept_cell q (lt_of_block hB1) trivial).trans y0
  have Y2 := fun W (q : Kept (fun _ => True) w2 W) => (kept_cell q (lt_of_block hB1) trivial).trans y2
  have Y3 := fun W (q : Kept (fun _ => True) w2 W) => (kept_cell q (lt_of_block hB1) trivial).trans y3
  have mS := make_truths t.stages.length (by omega)
  have mM := make_truths t.marks.length (by omega)
  clear y0 y1 y2 y3 hB1
  go_cut [3] from 5 to 15 (fun t3 wx => ∃ D gs gm : Nat, t3 = .pointer (some ⟨D, 0, none⟩) ∧ Nv w2 wx t D gs gm)
  case first =>
    go_region_held3 (fun W => Kept (fun _ => True) w2 W) (first | assumption | (repeat (first | exact Kept.refl _ _ | refine Kept.drew ?_ | refine Kept.alloc ?_ _))) (fail)
    all_goals
      go_wp2_with fail
      go_meet
      exact ⟨_, _, _, rfl, ⟨(by first | exact (alloc_tri _ _ _ _).1 | exact (alloc_tri _ _ _ _).2.1 | exact (alloc_tri _ _ _ _).2.2), (by first | exact (alloc_tri _ _ _ _).1 | exact (alloc_tri _ _ _ _).2.1 | exact (alloc_tri _ _ _ _).2.2), (by first | exact (alloc_tri _ _ _ _).1 | exact (alloc_tri _ _ _ _).2.1 | exact (alloc_tri _ _ _ _).2.2), ⟨by omega, by omega, by omega⟩, by omega, ((((Kept.refl _ _).alloc _).alloc _).alloc _).drew⟩⟩
  case rest =>
  obtain ⟨D, gs, gm, rfl, hnw⟩ := hcut
  have HNb : Hid (Nr w2 wc t D gs gm (.slice none 0 0) 0) := hnw.begin HGd.out
  clear hnw Y0 Y2 Y3 mS mM kd
  go_wp2_with fail
  go_loopw [4] (fun ti wr => ∃ (i : Nat) (va : Value), i ≤ t.attrs.length ∧ ti = .int .i64 i ∧ Nr w2 wr t D gs gm va i) (fun ti _ => t.attrs.length - (intOf ti).toNat)
  case atStart => exact ⟨0, _, Nat.zero_le _, rfl, HNb.out⟩
  case round =>
  obtain ⟨i, va, hi, rfl, hnb⟩ := hrel
  have HN2 : Hid (Nr w2 wr t D gs gm va i) := hnb
  have hrow := hnb.len hi
  obtain ⟨vo, vc, rfl⟩ := own_shape_any hrow
  have hB1 := (hnb.kept.block _ (lt_of_block HX1.out) trivial).trans HX1.out
  obtain ⟨⟨y0, y1, y2, y3⟩, _⟩ := four_cell hB1
  by_cases hlt : i < t.attrs.length
  · obtain ⟨b, off, rfl, hb, _, q1', _, _⟩ := HAt.out.at i hlt
    have q1 := (kept_cell hnb.kept hb trivial).trans q1'
    have i1 : (i : Int) < (t.attrs.length : Int) := by omega
    have i0 : (0 : Int) ≤ (i : Int) := by omega
    have hbx := hnb.box
    obtain ⟨⟨z0, z1, z2, z3⟩, _⟩ := four_cell hbx
    have HRow : Hid _ := hrow
    have HPut : Hid (∀ wy ao cap, wy.ownsRow w2.heap.size 3 1 (.slice ao (i + 1) cap) (i + 1) (iv ((t.attrs.take i).map At.start) ++ [.int .i64 (t.attrs[i]).start]) → Kept (fun b => (Value.slice vo i vc).ownBlock ≠ some b) wr wy → Kept (fun _ => True) w2 wy → Nr w2 (wy.setCell ⟨D, 1, none⟩ (.slice ao (i + 1) cap)) t D gs gm (.slice ao (i + 1) cap) (i + 1)) := fun wy ao cap h1 h2 h3 => HN2.out.put hlt h1 h2 h3
    have HDn : Hid ((Value.slice vo i vc).ownBlock ≠ some D) := own_off hrow hbx (by decide)
    have HKw : Hid _ := hnb.kept
    have HLn : Hid ((iv ((t.attrs.take i).map At.start)).length = i) := by show _ = _; rw [iv_len]; simp; omega
    go_upto_region 5 with fail
    have HS : Hid (∀ W, Sx (Value.slice vo i vc) wr W → Kept (fun b => (Value.slice vo i vc).ownBlock ≠ some b) wr W) := fun W h => h
    have HS2 : Hid (∀ W, Kept (fun b => (Value.slice vo i vc).ownBlock ≠ some b) wr W → Sx (Value.slice vo i vc) wr W) := fun W h => h
    have hlow : ∀ k, k < w2.heap.size → (Value.slice vo i vc).ownBlock ≠ some k := fun k hk e => by have := (hrow.lt k e).1; omega
    have kd : Sx (Value.slice vo i vc) wr wr.drew := HS2.out _ (Kept.refl _ _).drew
    have Y1 := fun W (q : Sx (Value.slice vo i vc) wr W) => (kept_cell (HS.out W q) (lt_of_block hB1) (hlow _ (lt_of_block HX1.out))).trans y1
    have Z1 := fun W (q : Sx (Value.slice vo i vc) wr W) => (kept_cell (HS.out W q) (lt_of_block hbx) HDn.out).trans z1
    have Q1 := fun W (q : Sx (Value.slice vo i vc) wr W) => (kept_cell (HS.out W q) (Nat.lt_of_lt_of_le hb HKw.out.size) (hlow _ hb)).trans q1
    have HBx : Hid _ := hbx
    clear y0 y1 y2 y3 z0 z1 z2 z3 q1' q1 hb hB1 hbx hnb hrow hlow
    generalize t.attrs[i] = x at *
    generalize iv ((t.attrs.take i).map At.start) = xs at *
    refine Gz.begin (fun W => Sx (Value.slice vo i vc) wr W) (fun i => decide (i = 11)) (by kernel_rfl) ?_
    refine Gz.take (i := 0) (oi := { dst := some 23, op := Op.fieldAddr 31 (Operand.tmp 3) 1, type := 0, pos := _, after := #[], guard := none }) (v := ?_) rfl (by kernel_rfl) (by kernel_rfl) (by kernel_rfl) (by kernel_rfl) (fun _ _ _ h => h) (Or.inl ⟨by rfl, ?hy0⟩) kd ?_
    case hy0 => (intro W hSw; (try dsimp only at hSw); go_simp; try with_reducible rfl)
    try simp only [Act.put, List.setIfInBounds_toArray, List.set_cons_zero, List.set_cons_succ]
    refine Gz.take (i := 1) (oi := { dst := some 24, op := Op.load 28 (Operand.tmp 23), type := 28, pos := _, after := #[{ on := 0, ground := Ground.data }], guard := none }) (v := ?_) rfl (by kernel_rfl) (by kernel_rfl) (by kernel_rfl) (by kernel_rfl) (fun _ _ _ h => h) (Or.inl ⟨by rfl, ?hy1⟩) kd ?_
    case hy1 => (intro W hSw; (try dsimp only at hSw); go_simp; try with_reducible rfl)
    try simp only [Act.put, List.setIfInBounds_toArray, List.set_cons_zero, List.set_cons_succ]
    refine Gz.take (i := 2) (oi := { dst := some 25, op := Op.fieldAddr 25 (Operand.tmp 1) 1, type := 0, pos := _, after := #[], guard := none }) (v := ?_) rfl (by kernel_rfl) (by kernel_rfl) (by kernel_rfl) (by kernel_rfl) (fun _ _ _ h => h) (Or.inl ⟨by rfl, ?hy2⟩) kd ?_
    case hy2 => (intro W hSw; (try dsimp only at hSw); go_simp; try with_reducible rfl)
    try simp only [Act.put, List.setIfInBounds_toArray, List.set_cons_zero, List.set_cons_succ]
    refine Gz.take (i := 3) (oi := { dst := some 26, op := Op.load 22 (Operand.tmp 25), type := 22, pos := _, after := #[{ on := 2, ground := Ground.data }], guard := none }) (v := ?_) rfl (by kernel_rfl) (by kernel_rfl) (by kernel_rfl) (by kernel_rfl) (fun _ _ _ h => h) (Or.inl ⟨by rfl, ?hy3⟩) kd ?_
    case hy3 => (intro W hSw; (try dsimp only at hSw); go_simp; try with_reducible rfl)
    try simp only [Act.put, List.setIfInBounds_toArray, List.set_cons_zero, List.set_cons_succ]
    refine Gz.take (i := 4) (oi := { dst := some 27, op := Op.move (Operand.tmp 4), type := 3, pos := _, after := #[], guard := none }) (v := ?_) rfl (by kernel_rfl) (by kernel_rfl) (by kernel_rfl) (by kernel_rfl) (fun _ _ _ h => h) (Or.inl ⟨by rfl, ?hy4⟩) kd ?_
    case hy4 => (intro W hSw; (try dsimp only at hSw); go_simp; try with_reducible rfl)
    try simp only [Act.put, List.setIfInBounds_toArray, List.set_cons_zero, List.set_cons_succ]
    refine Gz.take (i := 5) (oi := { dst := some 28, op := Op.indexAddr 22 (Operand.tmp 26) (Operand.tmp 27), type := 0, pos := _, after := #[{ on := 3, ground := Ground.data }, { on := 4, ground := Ground.data }], guard := none }) (v := ?_) rfl (by kernel_rfl) (by kernel_rfl) (by kernel_rfl) (by kernel_rfl) (fun _ _ _ h => h) (Or.inl ⟨by rfl, ?hy5⟩) kd ?_
    case hy5 => (intro W hSw; (try dsimp only at hSw); go_simp; try with_reducible rfl)
    try simp only [Act.put, List.setIfInBounds_toArray, List.set_cons_zero, List.set_cons_succ]
    refine Gz.take (i := 6) (oi := { dst := some 29, op := Op.fieldAddr 59 (Operand.tmp 28) 1, type := 0, pos := _, after := #[{ on := 5, ground := Ground.data }], guard := none }) (v := ?_) rfl (by kernel_rfl) (by kernel_rfl) (by kernel_rfl) (by kernel_rfl) (fun _ _ _ h => h) (Or.inl ⟨by rfl, ?hy6⟩) kd ?_
    case hy6 => (intro W hSw; (try dsimp only at hSw); go_simp; try with_reducible rfl)
    try simp only [Act.put, List.setIfInBounds_toArray, List.set_cons_zero, List.set_cons_succ]
    refine Gz.take (i := 7) (oi := { dst := some 30, op := Op.load 3 (Operand.tmp 29), type := 3, pos := _, after := #[{ on := 6, ground := Ground.data }], guard := none }) (v := ?_) rfl (by kernel_rfl) (by kernel_rfl) (by kernel_rfl) (by kernel_rfl) (fun _ _ _ h => h) (Or.inl ⟨by rfl, ?hy7⟩) kd ?_
    case hy7 => (intro W hSw; (try dsimp only at hSw); go_simp; try with_reducible rfl)
    try simp only [Act.put, List.setIfInBounds_toArray, List.set_cons_zero, List.set_cons_succ]
    refine Gz.one (i := 8) (o := { dst := some 31, op := Op.buildSlice 28 1 #[(0, Operand.tmp 30)], type := 28, pos := _, after := #[{ on := 7, ground := Ground.data }], guard := none }) (by kernel_rfl) rfl (fun K hK => ?_)
    go_simp
    have ka : Kept (fun _ => True) wr (wr.drew.alloc (.cells #[.int .i64 x.start] 3)) := ((Kept.refl _ _).drew).alloc _
    refine hK.out _ _ (fun hEarly => HS2.out _ (ka.mono fun _ _ _ => trivial)) ?_
    clear hK K
    try simp only [Act.put, List.setIfInBounds_toArray, List.set_cons_zero, List.set_cons_succ]
    have HNB : Hid ((wr.drew.alloc (.cells #[.int .i64 x.start] 3)).heap[wr.drew.heap.size]? = some (.cells #[.int .i64 x.start] 3 (0, 0))) := heap_alloc_new _ _
    refine Gz.one (i := 9) (o := { dst := some 32, op := Op.call { callee := Callee.builtin Builtin.append, args := #[Operand.tmp 24, Operand.tmp 31], argTypes := #[28, 28] }, type := 28, pos := _, after := #[{ on := 1, ground := Ground.data }, { on := 8, ground := Ground.data }], guard := none }) (by kernel_rfl) rfl (fun K hK => ?_)
    refine step_append_nums rfl (.tmp 24) (.tmp 31) rfl w2.heap.size (.slice vo i vc) i xs rfl (own_keep HRow.out ka (fun _ _ => trivial)) (Nat.le_trans HKw.out.size ka.size) (.slice (some ⟨wr.heap.size, 0, none⟩) 1 1) rfl [.int .i64 x.start] (Cv.one_nums HNB.out) (num_one _) (by simp; omega) (i + 1) (by simp) ?_
    intro a9 c9 w9 hW hG hO
    have k9 : Kept (fun b => (Value.slice vo i vc).ownBlock ≠ some b) wr w9 := (ka.mono fun _ _ _ => trivial).grown hG (fun k hk e q => q e)
    have kw9 : Kept (fun _ => True) w2 w9 := (HKw.out.trans ka).grown hG (fun k hk e => by have := (World.ownsRow.lt HRow.out k e).1; omega)
    have HN9 : Hid _ := HPut.out _ _ _ hW k9 kw9
    have hbx := (k9.block D (lt_of_block HBx.out) HDn.out).trans HBx.out
    obtain ⟨⟨z0, z1, z2, z3⟩, _⟩ := four_cell hbx
    have HBy : Hid (Sx (Value.slice vo i vc) wr w9) := HS2.out _ k9
    refine hK.out _ _ (fun hEarly => HBy.out) ?_
    clear hK K hW hG hO k9 kw9
    try simp only [Act.put, List.setIfInBounds_toArray, List.set_cons_zero, List.set_cons_succ]
    refine Gz.one (i := 10) (o := { dst := some 33, op := Op.fieldAddr 31 (Operand.tmp 3) 1, type := 0, pos := _, after := #[{ on := 0, ground := Ground.phase }, { on := 1, ground := Ground.phase }, { on := 2, ground := Ground.phase }, { on := 3, ground := Ground.phase }, { on := 4, ground := Ground.phase }, { on := 5, ground := Ground.phase }, { on := 6, ground := Ground.phase }, { on := 7, ground := Ground.phase }, { on := 8, ground := Ground.phase }, { on := 9, ground := Ground.phase }], guard := none }) (by kernel_rfl) rfl (fun K hK => ?_)
    go_simp
    refine hK.out _ _ (fun hEarly => HBy.out) ?_
    clear hK K
    try simp only [Act.put, List.setIfInBounds_toArray, List.set_cons_zero, List.set_cons_succ]
    refine Gz.one (i := 11) (o := { dst := none, op := Op.store 28 (Operand.tmp 33) (Operand.tmp 32), type := 0, pos := _, after := #[{ on := 10, ground := Ground.data }, { on := 9, ground := Ground.data }, { on := 9, ground := Ground.chain }, { on := 0, ground := Ground.phase }, { on := 1, ground := Ground.phase }, { on := 2, ground := Ground.phase }, { on := 3, ground := Ground.phase }, { on := 4, ground := Ground.phase }, { on := 5, ground := Ground.phase }, { on := 6, ground := Ground.phase }, { on := 7, ground := Ground.phase }, { on := 8, ground := Ground.phase }, { on := 9, ground := Ground.phase }], guard := none }) (by kernel_rfl) rfl (fun K hK => ?_)
    go_simp
    refine hK.out _ _ (fun hEarly => by cases hEarly) ?_
    clear hK K
    try simp only [Act.put, List.setIfInBounds_toArray, List.set_cons_zero, List.set_cons_succ]
    refine Gz.done (by kernel_rfl) ?_ _
    clear Y1 Z1 Q1 kd ka hbx
    go_wp2_with fail
    go_roundw
    case rel => exact ⟨i + 1, _, by omega, by go_num, HN9.out⟩
    case measure => simp [intOf]; omega
  · have i1 : ¬ (i : Int) < (t.attrs.length : Int) := by omega
    have hraw : ({ rawP t with vals := (t.attrs.take i).map At.start } : Sa) = rawP t := by
      rw [List.take_of_length_le (by omega)]
      rfl
    have hso := hnb.so
    rw [hraw] at hso
    obtain ⟨⟨z0, z1, z2, z3⟩, _⟩ := four_cell hnb.box
    have cst := rsettle_any HT2.out (hnb.kept.mono fun _ _ _ => trivial) hso HGd.out (Fit.raw HGd.out).sz
    have e1 : (rawP t).type = t.name := rfl
    rw [e1] at cst
    have HKw : Hid _ := hnb.kept
    clear hnb hraw hso hB1 hrow
    go_wp2_with fail
    refine Calls.mono cst ?_
    rintro e w5 ⟨rfl, hs5, k5⟩
    have hrs := ((k5.block (B + 1) (by have := lt_of_block HX2.out; have := HKw.out.size; omega) (lt_of_block HX2.out)).trans (HKw.out.block (B + 1) (lt_of_block HX2.out) trivial)).trans HX2.out
    obtain ⟨⟨r0, r1, r2, r3⟩, _⟩ := four_cell hrs
    have HRS : Hid _ := hrs
    have HS5 : Hid _ := hs5
    have K5 : Hid (Kept (· < w2.heap.size) w2 w5) := (HKw.out.mono fun _ _ _ => trivial).trans k5
    clear cst y0 y1 y2 y3 z0 z1 z2 z3 hrs hs5 k5
    go_wp2_with fail
    have kz := put4_kept (p := (· ≠ B + 1)) (w := w5) (D := B + 1) (by simp) (.string ⟨t.name.toArray⟩) (.slice vo i vc) (.slice (some ⟨gs, 0, none⟩) t.stages.length t.stages.length) (.slice (some ⟨gm, 0, none⟩) t.marks.length t.marks.length)
    have hlt1 := lt_of_block HX2.out
    have hsz := K2.out.size
    refine bodyPost_ret (results_state rfl _ _ rfl (put4_at HRS.out _ _ _ _) rfl) rfl ⟨_, rfl, ⟨.slice vo i vc, .slice (some ⟨gs, 0, none⟩) t.stages.length t.stages.length, .slice (some ⟨gm, 0, none⟩) t.marks.length t.marks.length, ?_, ?_⟩, ?_⟩
    · rw [show (newP t).type = t.name from (settled_grows t (rawP t)).type]
    · have hso := HS5.out
      exact ⟨ownsRow_low (own_keep hso.vals kz (fun k e q => by have := (hso.vals.lt k e).1; omega)) hsz, ownsRow_low (own_keep hso.done kz (fun k e q => by have := (hso.done.lt k e).1; omega)) hsz, ownsRow_low (own_keep hso.got kz (fun k e q => by have := (hso.got.lt k e).1; omega)) hsz, hso.apart⟩
    · exact (K2.out.then K5.out (fun i hi _ => by show i < _; omega)).then kz (fun i hi _ => by have := HB.out; omega)

end Go.Proofs.YtnddpalngjmhnaaDoor
