/-
  Texts of the proofs, 3 of 6.
-/
import Derived.Test.YtenejaghgehnoaaGreatDoorXA
import Derived.Deep.RegionLaw
import Derived.Test.YtenejaghgehnoaaGreatDoorXB
import Derived.Deep.CutRange
import Derived.Deep.RegionHeld3
import Derived.Laws.Cover1
import Derived.Deep.RegionHeld
import Derived.Lib.SliceRun
import Derived.Laws.ResultCell
namespace Go.Proofs.YtenejaghgehnoaaGreatDoor
open Go.RowKit

/-- An append of one element's cells that lie in a block by themselves. -/
theorem append_cells {T e sz by' : Nat} {z : Value} (hT : Tryz.prog.underlying T = some (.slice e)) (hI : (Tryz.prog.info? e).map (fun i => (i.zero, i.size, i.bytes)) = some (some z, sz, by')) (hz : z.cells.size = sz) (hsz : 0 < sz) (hby : by' ≤ 64)
    (w : World) (ty : TypeId) (base : Nat) (v : Value) (n : Nat) (xs : List Value) (hown : w.ownsRow base e sz v n xs) (hb : base ≤ w.heap.size) (G : Nat) (news : List Value) (hnl : news.length = sz) (hone : ∀ u ∈ news, u.oneCell' = true) (fr : Nat × Nat) (hG : w.heap[G]? = some (.cells news.toArray e fr)) (hm : n ≤ 10000) :
    ∃ ao' cap' w', (Builtin.append_ #[T, T] ty #[v, .slice (some ⟨G, 0, none⟩) 1 1]).run Tryz.prog w = .ok (.slice ao' (n + 1) cap') w' ∧ w'.ownsRow base e sz (.slice ao' (n + 1) cap') (n + 1) (xs ++ news) ∧ w.grownBy w' v.ownBlock ∧
      ((Value.slice ao' (n + 1) cap').ownBlock = v.ownBlock ∨ (Value.slice ao' (n + 1) cap').ownBlock = some w.heap.size) := by
  obtain ⟨i, hi, hz0, hz1, hz2⟩ := info_parts hI
  obtain ⟨v', w', hr, h2, h3, _, h5⟩ := run_append_own_at (P := Tryz.prog) w base T ty e i z sz by' hT hi hz0 hz1 hz2 hz hsz v n xs hown ⟨G, 0, none⟩ 1 1 news (by omega) (World.news_of_block (w := w) hG) hone (by unfold maxLen; omega) (Nat.le_trans (Nat.mul_le_mul (by omega : n + 1 ≤ 10001) hby) (by decide)) hb
  obtain ⟨ao', cap', rfl⟩ := own_shape_any h2
  exact ⟨ao', cap', w', hr, h2, h3, h5⟩
theorem wpList_append_cells {T e sz by' : Nat} {z : Value} {w : World} {ops : Array Oper} {rest : List Oper} {o : Oper} {a : Act} {Q : Exit → Act → World → Prop} (hT : Tryz.prog.underlying T = some (.slice e)) (hI : (Tryz.prog.info? e).map (fun i => (i.zero, i.size, i.bytes)) = some (some z, sz, by')) (hz : z.cells.size = sz) (hsz : 0 < sz) (hby : by' ≤ 64)
    (hgd : o.guard = none) (sl y : Operand) (ho : o.op = .call { callee := .builtin .append, args := #[sl, y], argTypes := #[T, T] })
    (base : Nat) (v : Value) (n : Nat) (xs : List Value) (hs : a.eval sl = v) (hown : w.ownsRow base e sz v n xs) (hb : base ≤ w.heap.size) (G : Nat) (hy : a.eval y = .slice (some ⟨G, 0, none⟩) 1 1) (news : List Value) (hnl : news.length = sz) (hone : ∀ u ∈ news, u.oneCell' = true) (fr : Nat × Nat) (hG : w.heap[G]? = some (.cells news.toArray e fr)) (hm : n ≤ 10000)
    (h : ∀ ao' cap' w', w'.ownsRow base e sz (.slice ao' (n + 1) cap') (n + 1) (xs ++ news) → w.grownBy w' v.ownBlock → ((Value.slice ao' (n + 1) cap').ownBlock = v.ownBlock ∨ (Value.slice ao' (n + 1) cap').ownBlock = some w.heap.size) → wpList Tryz.prog ops Q rest (a.put o.dst (.slice ao' (n + 1) cap')) w') : wpList Tryz.prog ops Q (o :: rest) a w := by
  refine wpList_plain hgd fun K hK => ?_
  obtain ⟨ao', cap', w', hr, h2, h3, h4⟩ := append_cells hT hI hz hsz hby w o.type base v n xs hown hb G news hnl hone fr hG hm
  unfold Oper.wp execOp
  simp only [ho, resolve, invoke, builtin, Sem.run_bind, Sem.run_pure, Result.andThen_ok, List.map_toArray, List.map_cons, List.map_nil, hs, hy, hr]
  exact hK _ _ (h ao' cap' w' h2 h3 h4)
end Go.Proofs.YtenejaghgehnoaaGreatDoor

namespace Go.Proofs.YtenejaghgehnoaaGreatDoor
open Go.RowKit Go.Maps

theorem results_two {fn : Func} {p u : Nat} {ty : TypeId} (h : fn.results = #[.cell p ty, .tmp u]) (tmps : Array Value) (w : World) {g : Nat} {v : Value} (hp : tmps.getD p undef = .pointer (some ⟨g, 0, none⟩)) (hl : (loadVar ty ⟨g, 0, none⟩).run Tryz.prog w = .ok v w) :
    (results fn tmps).run Tryz.prog w = .ok (.tuple #[v, tmps.getD u undef]) w := by
  have hp' : tmps[p]?.getD undef = .pointer (some ⟨g, 0, none⟩) := by simpa using hp
  simp [results, h, hp', asAddr, hl]
theorem typ_drop {ts : List Ty} {x : List UInt8} {i : Nat} (hi : i < ts.length) : typ (ts.drop i) x = if (ts[i]).name = x then some ts[i] else typ (ts.drop (i + 1)) x := by
  rw [List.drop_eq_getElem_cons hi]
  rfl

set_option maxRecDepth 100000 in
set_option maxHeartbeats 4000000 in
theorem typeOf_any {w : World} {tv : Value} {ts : List Ty} (ht : TysV w tv ts) (x : List UInt8) :
    Calls Tryz.prog 120 #[tv, .string ⟨x.toArray⟩] w fun e w' => ∃ a1 n1 c1 a2 n2 c2 a3 n3 c3, e = .returned (.tuple #[.agg #[.string ⟨((typ ts x).getD Ty.none).name.toArray⟩, .slice a1 n1 c1, .slice a2 n2 c2, .slice a3 n3 c3], .bool (typ ts x).isSome]) ∧ TyV w' (.agg #[.string ⟨((typ ts x).getD Ty.none).name.toArray⟩, .slice a1 n1 c1, .slice a2 n2 c2, .slice a3 n3 c3]) ((typ ts x).getD Ty.none) ∧ Kept (fun _ => True) w w' := by
  obtain ⟨ao, cap, rfl, hl, -⟩ := ht.form
  have HT : Hid (TysV w (.slice ao ts.length cap) ts) := ht
  clear ht
  have k0 : Kept (fun _ => True) w (w.alloc (.cells #[.string ⟨#[]⟩, .slice none 0 0, .slice none 0 0, .slice none 0 0] 54)) := (Kept.refl _ _).alloc _
  have h0 := heap_alloc_new w (.cells #[.string ⟨#[]⟩, .slice none 0 0, .slice none 0 0, .slice none 0 0] 54)
  have K0 : Hid _ := k0
  have H0 : Hid _ := h0
  clear k0 h0
  go_enter Tryz.func120, Tryz.ntmps120
  go_wp2_with fail
  go_loopw [10, 7] (fun ti _ wr => ∃ i : Nat, i ≤ ts.length ∧ ti = .int .i64 i ∧ typ ts x = typ (ts.drop i) x ∧ wr.heap[w.heap.size]? = some (.cells #[.string ⟨#[]⟩, .slice none 0 0, .slice none 0 0, .slice none 0 0] 54 (0, 0)) ∧ Kept (fun _ => True) w wr) (fun ti _ _ => ts.length - (intOf ti).toNat)
  case atStart => exact ⟨0, Nat.zero_le _, rfl, rfl, H0.out, K0.out⟩
  case round =>
    obtain ⟨i, hi, rfl, htp, hb0, hk⟩ := hrel
    have HTP : Hid _ := htp
    have HB : Hid _ := hb0
    have HK : Hid _ := hk
    clear htp
    by_cases hlt : i < ts.length
    · obtain ⟨b, off, rfl, hb, a1, n1, c1, a2, n2, c2, a3, n3, c3, q0, q1, q2, q3, hty⟩ := HT.out.at i hlt
      rw [← kept_cell hk hb trivial] at q0 q1 q2 q3
      have HY : Hid (TyV w (.agg #[.string ⟨(ts[i]).name.toArray⟩, .slice a1 n1 c1, .slice a2 n2 c2, .slice a3 n3 c3]) ts[i]) := hty
      have HD : Hid (typ (ts.drop i) x = if (ts[i]).name = x then some ts[i] else typ (ts.drop (i + 1)) x) := typ_drop hlt
      have i1 : (i : Int) < (ts.length : Int) := by omega
      have i0 : (0 : Int) ≤ (i : Int) := by omega
      clear hty hb
      generalize ts[i] = t at *
      have ka : Kept (fun _ => True) wr (wr.alloc (.cells #[.string ⟨t.name.toArray⟩, .slice a1 n1 c1, .slice a2 n2 c2, .slice a3 n3 c3] 54)) := (Kept.refl _ _).alloc _
      have hb1 := (ka.block _ (lt_of_block hb0) trivial).trans hb0
      obtain ⟨⟨z0, z1, z2, z3⟩, f0, f1, f2, f3⟩ := four_cell hb1
      have HB1 : Hid _ := hb1
      have KA : Hid _ := ka
      clear hb0 hk hb1 ka
      by_cases hn : t.name = x
      · have hn' : (t.name == x) = true := by simpa using hn
        have HN : Hid (t.name = x) := hn
        clear hn
        go_wp2_with fail
        have e : typ ts x = some t := by rw [HTP.out, HD.out, if_pos HN.out]
        refine bodyPost_ret (results_two rfl _ _ rfl (load_type (put4_at HB1.out _ _ _ _) rfl)) rfl ?_
        rw [e]
        have kf := put4_new (HK.out.trans KA.out) (Nat.le_refl _) (.string ⟨t.name.toArray⟩) (.slice a1 n1 c1) (.slice a2 n2 c2) (.slice a3 n3 c3)
        exact ⟨a1, n1, c1, a2, n2, c2, a3, n3, c3, rfl, HY.out.all kf, kf⟩
      · have hn' : (t.name == x) = false := by simpa using hn
        have HN : Hid (¬ t.name = x) := hn
        clear hn
        go_wp2_with fail
        go_roundw
        case rel => exact ⟨i + 1, by omega, rfl, by rw [HTP.out, HD.out, if_neg HN.out], HB1.out, HK.out.trans KA.out⟩
        case measure => simp [intOf]; omega
    · obtain rfl : i = ts.length := by omega
      have i1 : ¬ ((ts.length : Int) < (ts.length : Int)) := by omega
      have e : typ ts x = none := by
        rw [HTP.out, List.drop_length]
        rfl
      have HE : Hid _ := e
      obtain ⟨⟨z0, z1, z2, z3⟩, f0, f1, f2, f3⟩ := four_cell hb0
      clear e hk hb0
      go_wp2_with fail
      refine bodyPost_ret (results_two rfl _ _ rfl (load_type (put4_at HB.out _ _ _ _) rfl)) rfl ?_
      rw [HE.out]
      refine ⟨none, 0, 0, none, 0, 0, none, 0, 0, rfl, TyV.none _, put4_new HK.out (Nat.le_refl _) _ _ _ _⟩

theorem tag_joins (x : List UInt8) (hx : x.length ≤ 140737488355327) : ∀ W, (Op.stringOp .add ⟨#[116]⟩ ⟨x.toArray⟩).run Tryz.prog W = .ok (.string ⟨(tag x).toArray⟩) W := by
  exact text_plus [116] x (by simp only [List.length_cons, List.length_nil]; omega)
set_option maxHeartbeats 400000 in
theorem holder_any {w : World} (x : List UInt8) (hx : x.length ≤ 140737488355327) : Calls Tryz.prog 99 #[.string ⟨x.toArray⟩] w fun e w' => e = .returned (.string ⟨(tag x).toArray⟩) ∧ w' = w := by
  have hj := tag_joins x hx
  go_enter Tryz.func99, Tryz.ntmps99
  go_wp2_with fail
  go_ret
  exact ⟨rfl, rfl⟩

set_option maxHeartbeats 400000 in
theorem inOrder_any {w : World} (lo hi : Int) : Calls Tryz.prog 62 #[.int .i64 lo, .int .i64 hi] w fun e w' => e = .returned (.bool (inO lo hi)) ∧ w' = w := by
  unfold inO
  by_cases h1 : 0 ≤ lo
  · by_cases h2 : lo ≤ hi
    · by_cases h3 : hi ≤ 256
      all_goals
        simp only [h1, h2, h3, decide_true, decide_false, Bool.and_true, Bool.and_false]
        go_enter Tryz.func62, Tryz.ntmps62
        go_wp2_with fail
        go_ret
        exact ⟨rfl, rfl⟩
    · simp only [h1, h2, decide_true, decide_false, Bool.and_false, Bool.false_and]
      go_enter Tryz.func62, Tryz.ntmps62
      go_wp2_with fail
      go_ret
      exact ⟨rfl, rfl⟩
  · simp only [h1, decide_false, Bool.false_and]
    go_enter Tryz.func62, Tryz.ntmps62
    go_wp2_with fail
    go_ret
    exact ⟨rfl, rfl⟩

theorem Tryz.infoWant : (Tryz.prog.info? 244).map (fun i => (i.zero, i.size, i.bytes)) = some (some (.agg #[.string .empty, .bool false]), 2, 24) := by kernel_rfl
theorem cells_want : (Value.agg #[.string .empty, .bool false]).cells.size = 2 := by simp [Value.cells]
def wk2 (z : List UInt8 × Bool) : List Value := [.string ⟨z.1.toArray⟩, .bool z.2]
def row2 (l : List (List UInt8 × Bool)) : List Value := l.flatMap wk2
theorem row2_get : ∀ (xs : List (List UInt8 × Bool)) (k : Nat) (h : k < xs.length) (j : Nat), j < 2 → (row2 xs)[k * 2 + j]? = (wk2 xs[k])[j]?
  | [], _, h, _, _ => by simp at h
  | x :: xs, 0, _, j, hj => by
    simp only [row2, List.flatMap_cons, Nat.zero_mul, Nat.zero_add, List.getElem_cons_zero]
    rw [List.getElem?_append_left (by simp [wk2]; omega)]
  | x :: xs, k + 1, h, j, hj => by
    have := row2_get xs k (by simpa using h) j hj
    simp only [row2, List.flatMap_cons, List.getElem_cons_succ] at this ⊢
    rw [List.getElem?_append_right (by simp [wk2]; omega), show (k + 1) * 2 + j - (wk2 x).length = k * 2 + j by simp [wk2]; omega]
    exact this
theorem wk2_one (z : List UInt8 × Bool) : ∀ u ∈ wk2 z, u.oneCell' = true := by
  intro u hu
  simp only [wk2, List.mem_cons, List.not_mem_nil, or_false] at hu
  rcases hu with rfl | rfl <;> rfl
theorem row2_wnP {w : World} {base : Nat} {v : Value} {l : List (List UInt8 × Bool)} (h : w.ownsRow base 244 2 v l.length (row2 l)) : Wn w v l := by
  rcases h.2 with ⟨rfl, h0⟩ | ⟨g, cap, cur, rfl, _⟩
  · obtain rfl := List.eq_nil_of_length_eq_zero h0
    exact ⟨none, 0, rfl, fun h => by simp at h⟩
  · exact ⟨_, _, rfl, fun _ => ⟨g, 0, rfl, fun i hi => by
      rw [Nat.zero_add]
      exact ⟨(h.cellAt (i * 2 + 0) (by omega)).trans (row2_get l i hi 0 (by omega)), (h.cellAt (i * 2 + 1) (by omega)).trans (row2_get l i hi 1 (by omega))⟩⟩⟩
theorem wants_take {ops : List Oq} {i : Nat} (h : i < ops.length) : wantsP (ops.take (i + 1)) = wantsP (ops.take i) ++ [((ops[i]).cas, decide ((ops[i]).kind ≠ 5))] := by
  unfold wantsP
  rw [map_take_succ _ _ _ h]
theorem wantsP_len (ops : List Oq) : (wantsP ops).length = ops.length := by simp [wantsP]
theorem row2_snoc (l : List (List UInt8 × Bool)) (q : List UInt8 × Bool) : row2 (l ++ [q]) = row2 l ++ wk2 q := by simp [row2]

set_option maxRecDepth 100000 in
set_option maxHeartbeats 4000000 in
theorem wants_any {w : World} {ov : Value} {ops : List Oq} (ho : Ov w ov ops) (hm : ops.length ≤ 1000) :
    Calls Tryz.prog 152 #[ov] w fun e w' => ∃ v, e = .returned v ∧ Wn w' v (wantsP ops) ∧ Kept (fun _ => True) w w' := by
  obtain ⟨ao, cap, rfl, hl⟩ := ho.form
  have HO : Hid (Ov w (.slice ao ops.length cap) ops) := ho
  clear ho
  go_enter Tryz.func152, Tryz.ntmps152
  go_wp2_with fail
  go_loopw [3, 8] (fun tl ti wr => ∃ (i : Nat), i ≤ ops.length ∧ ti = .int .i64 i ∧ wr.ownsRow w.heap.size 244 2 tl i (row2 (wantsP (ops.take i))) ∧ Kept (fun _ => True) w wr) (fun _ ti _ => ops.length - (intOf ti).toNat)
  case atStart => exact ⟨0, Nat.zero_le _, rfl, World.ownsRow_nil _ _ _ _, Kept.refl _ _⟩
  case round =>
    obtain ⟨i, hi, rfl, hrow, hk⟩ := hrel
    obtain ⟨lo, lc, rfl⟩ := own_shape_any hrow
    have HR : Hid (wr.ownsRow w.heap.size 244 2 (.slice lo i lc) i (row2 (wantsP (ops.take i)))) := hrow
    have HK : Hid (Kept (fun _ => True) w wr) := hk
    clear hrow
    by_cases hlt : i < ops.length
    · obtain ⟨b, off, rfl, hb, q0, q1, q2, q3⟩ := HO.out.at i hlt
      rw [← kept_cell hk hb trivial] at q0 q1 q2 q3
      have HW : Hid _ := wants_take hlt
      have i1 : (i : Int) < (ops.length : Int) := by omega
      have i0 : (0 : Int) ≤ (i : Int) := by omega
      clear hb hk
      generalize ops[i] = o at *
      have hdec : (o.kind != 5) = decide (o.kind ≠ 5) := by
        by_cases h : o.kind = 5 <;> simp [h]
      generalize decide (o.kind ≠ 5) = q at *
      have k1 : Kept (fun _ => True) w ((wr.alloc (.cells #[.int .i64 o.kind, .string ⟨o.cas.toArray⟩, .string ⟨o.name.toArray⟩, .int .i64 o.n] 61)).alloc (.cells (wk2 (o.cas, q)).toArray 244)) := (HK.out.alloc _).alloc _
      have K1 : Hid _ := k1
      have hb2 := heap_alloc_new (wr.alloc (.cells #[.int .i64 o.kind, .string ⟨o.cas.toArray⟩, .string ⟨o.name.toArray⟩, .int .i64 o.n] 61)) (.cells (wk2 (o.cas, q)).toArray 244)
      have hr2 := own_keep HR.out (((Kept.refl (fun _ => True) wr).alloc (.cells #[.int .i64 o.kind, .string ⟨o.cas.toArray⟩, .string ⟨o.name.toArray⟩, .int .i64 o.n] 61)).alloc (.cells (wk2 (o.cas, q)).toArray 244)) (fun _ _ => trivial)
      rw [show (wr.alloc (.cells #[.int .i64 o.kind, .string ⟨o.cas.toArray⟩, .string ⟨o.name.toArray⟩, .int .i64 o.n] 61)).heap.size = wr.heap.size + 1 by simp] at hb2
      have HR2 : Hid _ := hr2
      have HB2 : Hid _ := hb2
      clear hr2 hb2 k1
      go_wp2_with (at_builtin; refine wpList_append_cells Tryz.underlying213 Tryz.infoWant cells_want (by decide) (by decide) rfl (.tmp 12) (.tmp 19) rfl w.heap.size (.slice lo i lc) i _ rfl HR2.out K1.out.size (wr.heap.size + 1) rfl (wk2 (o.cas, q)) rfl (wk2_one _) (0, 0) HB2.out (by omega) ?_; intro ao1 cap1 w1 t1 g1 at1; have HO1 : Hid (w1.ownsRow w.heap.size 244 2 (.slice ao1 (i + 1) cap1) (i + 1) (row2 (wantsP (ops.take i)) ++ wk2 (o.cas, q))) := t1; have HK1 : Hid (Kept (fun _ => True) w w1) := K1.out.grown g1 (fun k hk e => by have := (World.ownsRow.lt HR.out k e).1; omega); clear t1 g1 at1)
      go_roundw
      case rel =>
        refine ⟨i + 1, by omega, by go_num, ?_, HK1.out⟩
        rw [HW.out, row2_snoc]
        exact HO1.out
      case measure => simp [intOf]; omega
    · obtain rfl : i = ops.length := by omega
      have i1 : ¬ ((ops.length : Int) < (ops.length : Int)) := by omega
      clear hk
      go_wp2_with fail
      go_ret
      have := HR.out
      rw [List.take_length] at this
      exact ⟨_, rfl, row2_wnP (by rw [wantsP_len]; exact this), HK.out⟩

end Go.Proofs.YtenejaghgehnoaaGreatDoor

namespace Go.Proofs.YtenejaghgehnoaaGreatDoor
open Go.RowKit

set_option maxHeartbeats 400000 in
theorem ctruth_any {w : World} (b : Bool) :
    Calls Tryz.prog 251 #[.bool b] w fun e w' => e = .returned (.int .i64 (tr b)) ∧ w' = w := by
  cases b
  all_goals
    go_enter Tryz.func251, Tryz.ntmps251
    go_wp2
    go_ret
    exact ⟨rfl, rfl⟩

theorem sees_step {l : List Bool} {i : Nat} (pre : List Int) (h : i < l.length) : iv (pre ++ (l.take (i + 1)).map tr) = iv (pre ++ (l.take i).map tr) ++ [.int .i64 (tr l[i])] := by
  rw [List.take_succ_eq_append_getElem h, List.map_append, ← List.append_assoc, iv_append]
  rfl
theorem num_one (n : Int) : ∀ u ∈ [Value.int .i64 n], u.oneCell' = true := by
  intro u hu
  obtain rfl := List.mem_singleton.1 hu
  rfl

set_option maxRecDepth 100000 in
set_option maxHeartbeats 8000000 in
theorem seen_any {w : World} {v : Value} {s : Sa} (h : StV w v s) (f : Few s) :
    Calls Tryz.prog 246 #[v] w fun e w' => ∃ v', e = .returned v' ∧ Cv w' v' (iv (sees s)) ∧ Kept (fun _ => True) w w' := by
  obtain ⟨va, vd, vg, rfl, h1, h2, h3⟩ := h
  obtain ⟨l1, l2, l3⟩ := f
  obtain ⟨vo, vc, rfl, -, -⟩ := h1.ints
  obtain ⟨eo, ec, rfl, -, -⟩ := h2.bools
  obtain ⟨go, gc, rfl, -, -⟩ := h3.bools
  have k0 : Kept (fun _ => True) w (w.alloc (.cells #[.string ⟨s.type.toArray⟩, .slice vo s.vals.length vc, .slice eo s.done.length ec, .slice go s.got.length gc] 70)) := (Kept.refl _ _).alloc _
  have hX := heap_alloc_new w (.cells #[.string ⟨s.type.toArray⟩, .slice vo s.vals.length vc, .slice eo s.done.length ec, .slice go s.got.length gc] 70)
  replace h1 := h1.all k0
  replace h2 := h2.all k0
  replace h3 := h3.all k0
  obtain ⟨⟨z0, z1, z2, z3⟩, _⟩ := four_cell hX
  go_enter Tryz.func246, Tryz.ntmps246
  go_upto_region 2 with fail
  generalize w.alloc (.cells #[.string ⟨s.type.toArray⟩, .slice vo s.vals.length vc, .slice eo s.done.length ec, .slice go s.got.length gc] 70) = w1 at *
  obtain ⟨B, hB⟩ : ∃ B, B = w.heap.size := ⟨_, rfl⟩
  rw [← hB] at hX z0 z1 z2 z3 ⊢
  have K0 : Hid (Kept (fun _ => True) w w1) := k0
  have HV : Hid (Cv w1 (.slice vo s.vals.length vc) (iv s.vals)) := h1
  have HE : Hid (Cv w1 (.slice eo s.done.length ec) (bv s.done)) := h2
  have HG : Hid (Cv w1 (.slice go s.got.length gc) (bv s.got)) := h3
  have HX : Hid (w1.heap[B]? = some (.cells #[.string ⟨s.type.toArray⟩, .slice vo s.vals.length vc, .slice eo s.done.length ec, .slice go s.got.length gc] 70 (0, 0))) := hX
  have HL : Hid (s.vals.length ≤ 1000000) := l1
  clear hB h1 h2 h3 hX k0
  go_wp2_with (at_builtin; refine wpList_append_nums rfl (.tmp 8) (.tmp 10) rfl w1.heap.size (.slice none 0 0) 0 [] rfl (World.ownsRow_nil _ _ _ _) (Nat.le_refl _) (.slice vo s.vals.length vc) rfl (iv s.vals) HV.out (iv_one _) (by rw [iv_len]; have := HL.out; omega) s.vals.length (by rw [iv_len]; omega) ?_; intro ao' cap' w2 hW hG hO; have HW : Hid (w2.ownsRow w1.heap.size 3 1 (.slice ao' s.vals.length cap') s.vals.length (iv s.vals)) := hW; have hk2 : Kept (fun _ => True) w1 w2 := (Kept.refl _ _).grown hG (fun k _ e => by cases e); have hX2 := (hk2.block B (lt_of_block HX.out) trivial).trans HX.out; obtain ⟨⟨y0, y1, y2, y3⟩, _⟩ := four_cell hX2; have HK2 : Hid (Kept (fun _ => True) w1 w2) := hk2; clear hW hG hO hk2 hX2)
  clear z0 z1 z2 z3 y0 y1 y2 y3
  go_loopw [3, 5, 15] (fun t3 _ ti wr => ∃ i : Nat, i ≤ s.done.length ∧ ti = .int .i64 i ∧ wr.ownsRow w1.heap.size 3 1 t3 (s.vals.length + i) (iv (s.vals ++ (s.done.take i).map tr)) ∧ Kept (fun _ => True) w1 wr) (fun _ _ ti _ => s.done.length - (intOf ti).toNat)
  case atStart => exact ⟨0, Nat.zero_le _, rfl, by simpa using HW.out, HK2.out⟩
  case round =>
  obtain ⟨i, hi, rfl, hT, hk⟩ := hrel
  obtain ⟨ao, cap, rfl⟩ := own_shape_any hT
  obtain ⟨L, hL⟩ : ∃ L, L = s.vals.length + i := ⟨_, rfl⟩
  rw [← hL] at hT ⊢
  have HT : Hid (wr.ownsRow w1.heap.size 3 1 (.slice ao L cap) L (iv (s.vals ++ (s.done.take i).map tr))) := hT
  have HKr : Hid (Kept (fun _ => True) w1 wr) := hk
  have HLe : Hid (L = s.vals.length + i) := hL
  clear hT hk hL
  by_cases hlt : i < s.done.length
  · obtain ⟨b, off, rfl, hb, hc⟩ := (HE.out.all HKr.out).boolAt i hlt
    have HST : Hid (iv (s.vals ++ (s.done.take (i + 1)).map tr) = iv (s.vals ++ (s.done.take i).map tr) ++ [.int .i64 (tr s.done[i])]) := sees_step _ hlt
    have i1 : (i : Int) < (s.done.length : Int) := by omega
    have i0 : (0 : Int) ≤ (i : Int) := by omega
    clear hb
    generalize s.done[i] = d at *
    have ct := fun W => ctruth_any (w := W) d
    generalize tr d = n at *
    have HNB : Hid _ := heap_alloc_new wr (.cells #[.int .i64 n] 3)
    go_wp2_with fail
    refine Calls.mono (ct _) ?_
    rintro e w3 ⟨rfl, rfl⟩
    clear ct
    go_wp2_with (at_builtin; refine wpList_append_nums rfl (.tmp 19) (.tmp 22) rfl w1.heap.size (.slice ao L cap) L (iv (s.vals ++ (s.done.take i).map tr)) rfl (own_keep HT.out ((Kept.refl (fun _ => True) _).alloc _) (fun _ _ => trivial)) (by have h1 := HKr.out.size; simp; omega) (.slice (some ⟨w3.heap.size, 0, none⟩) 1 1) rfl [.int .i64 n] (Cv.one_nums HNB.out) (num_one n) (by have := HLe.out; simp; omega) (L + 1) (by simp) ?_; intro ao' cap' w' hW hG hO; have HW4 : Hid (w'.ownsRow w1.heap.size 3 1 (.slice ao' (L + 1) cap') (L + 1) (iv (s.vals ++ (s.done.take i).map tr) ++ [.int .i64 n])) := hW; have HGr : Hid (Kept (fun _ => True) w1 w') := (HKr.out.alloc _).grown hG (fun k hk e => by have := (World.ownsRow.lt HT.out k e).1; omega); clear hW hG hO)
    go_roundw
    case rel =>
      refine ⟨i + 1, by omega, by go_num, ?_, HGr.out⟩
      rw [HST.out, show s.vals.length + (i + 1) = L + 1 by have := HLe.out; omega]
      exact HW4.out
    case measure => simp [intOf]; omega
  · have i1 : ¬ (i : Int) < (s.done.length : Int) := by omega
    have hie : i = s.done.length := by omega
    have hX2 := (HKr.out.block B (lt_of_block HX.out) trivial).trans HX.out
    obtain ⟨⟨y0, y1, y2, y3⟩, _⟩ := four_cell hX2
    have HT2 : Hid (wr.ownsRow w1.heap.size 3 1 (.slice ao L cap) L (iv (s.vals ++ s.done.map tr))) := by
      have := HT.out
      rw [hie, List.take_length] at this
      exact this
    clear HT hX2 HW HK2
    go_wp2_with fail
    clear y0 y1 y2 y3
    go_loopw [3, 7, 28] (fun t3 _ ti wq => ∃ j : Nat, j ≤ s.got.length ∧ ti = .int .i64 j ∧ wq.ownsRow w1.heap.size 3 1 t3 (L + j) (iv (s.vals ++ s.done.map tr ++ (s.got.take j).map tr)) ∧ Kept (fun _ => True) w1 wq) (fun _ _ ti _ => s.got.length - (intOf ti).toNat)
    case atStart => exact ⟨0, Nat.zero_le _, rfl, by simpa using HT2.out, HKr.out⟩
    case round =>
    obtain ⟨j, hj, rfl, hT, hk⟩ := hrel
    obtain ⟨ao2, cap2, rfl⟩ := own_shape_any hT
    obtain ⟨M, hM⟩ : ∃ M, M = L + j := ⟨_, rfl⟩
    rw [← hM] at hT ⊢
    have HT3 : Hid (wr.ownsRow w1.heap.size 3 1 (.slice ao2 M cap2) M (iv (s.vals ++ s.done.map tr ++ (s.got.take j).map tr))) := hT
    have HKq : Hid (Kept (fun _ => True) w1 wr) := hk
    have HMe : Hid (M = L + j) := hM
    clear hT hk hM
    by_cases hlt2 : j < s.got.length
    · obtain ⟨b, off, rfl, hb, hc⟩ := (HG.out.all HKq.out).boolAt j hlt2
      have HST : Hid (iv (s.vals ++ s.done.map tr ++ (s.got.take (j + 1)).map tr) = iv (s.vals ++ s.done.map tr ++ (s.got.take j).map tr) ++ [.int .i64 (tr s.got[j])]) := sees_step _ hlt2
      have j1 : (j : Int) < (s.got.length : Int) := by omega
      have j0 : (0 : Int) ≤ (j : Int) := by omega
      clear hb
      generalize s.got[j] = d at *
      have ct := fun W => ctruth_any (w := W) d
      generalize tr d = n at *
      have HNB : Hid _ := heap_alloc_new wr (.cells #[.int .i64 n] 3)
      go_wp2_with fail
      refine Calls.mono (ct _) ?_
      rintro e w3 ⟨rfl, rfl⟩
      clear ct
      go_wp2_with (at_builtin; refine wpList_append_nums rfl (.tmp 32) (.tmp 35) rfl w1.heap.size (.slice ao2 M cap2) M (iv (s.vals ++ s.done.map tr ++ (s.got.take j).map tr)) rfl (own_keep HT3.out ((Kept.refl (fun _ => True) _).alloc _) (fun _ _ => trivial)) (by have h1 := HKq.out.size; simp; omega) (.slice (some ⟨w3.heap.size, 0, none⟩) 1 1) rfl [.int .i64 n] (Cv.one_nums HNB.out) (num_one n) (by have := HLe.out; have := HMe.out; simp; omega) (M + 1) (by simp) ?_; intro ao' cap' w' hW hG hO; have HW4 : Hid (w'.ownsRow w1.heap.size 3 1 (.slice ao' (M + 1) cap') (M + 1) (iv (s.vals ++ s.done.map tr ++ (s.got.take j).map tr) ++ [.int .i64 n])) := hW; have HGr : Hid (Kept (fun _ => True) w1 w') := (HKq.out.alloc _).grown hG (fun k hk e => by have := (World.ownsRow.lt HT3.out k e).1; omega); clear hW hG hO)
      go_roundw
      case rel =>
        refine ⟨j + 1, by omega, by go_num, ?_, HGr.out⟩
        rw [HST.out, show L + (j + 1) = M + 1 by have := HMe.out; omega]
        exact HW4.out
      case measure => simp [intOf]; omega
    · have j1 : ¬ (j : Int) < (s.got.length : Int) := by omega
      have hje : j = s.got.length := by omega
      have HT4 : Hid (Cv wr (.slice ao2 M cap2) (iv (sees s))) := by
        have := HT3.out
        rw [hje, List.take_length] at this
        have hs : s.vals ++ s.done.map tr ++ s.got.map tr = sees s := by simp [sees]
        rw [hs] at this
        exact own_cv this (by have := HLe.out; have := HMe.out; omega)
      go_wp2_with fail
      go_ret
      exact ⟨_, rfl, HT4.out, K0.out.trans HKq.out⟩

set_option maxRecDepth 100000 in
set_option maxHeartbeats 4000000 in
theorem holds_any {w : World} {tv sv : Value} {t : Ty} {s : Sa} (ht : TyV w tv t) (hs : StV w sv s) (f : Few s) (hm : (nms t).length ≤ 1000000) {g : List UInt8} (hg : g.length ≤ 281474976710656) :
    Calls Tryz.prog 236 #[tv, sv, .string ⟨g.toArray⟩] w fun e w' => e = .returned (.bool (hld t s g)) ∧ Kept (fun _ => True) w w' := by
  have HT : Hid (TyV w tv t) := ht
  have HS : Hid (StV w sv s) := hs
  obtain ⟨tx0, tn, tc, so, sn, sc, mo, mn, mc, rfl⟩ := ht.parts
  obtain ⟨va, vd, vg, rfl, h1, h2, h3⟩ := hs
  obtain ⟨vo, vc, rfl, -, -⟩ := h1.ints
  obtain ⟨eo, ec, rfl, -, -⟩ := h2.bools
  obtain ⟨go, gc, rfl, -, -⟩ := h3.bools
  have hk : Kept (fun _ => True) w ((w.alloc (.cells #[.string ⟨t.name.toArray⟩, .slice tx0 tn tc, .slice so sn sc, .slice mo mn mc] 54)).alloc (.cells #[.string ⟨s.type.toArray⟩, .slice vo s.vals.length vc, .slice eo s.done.length ec, .slice go s.got.length gc] 70)) := ((Kept.refl _ _).alloc _).alloc _
  obtain ⟨x1, x2⟩ := alloc_two w (.cells #[.string ⟨t.name.toArray⟩, .slice tx0 tn tc, .slice so sn sc, .slice mo mn mc] 54) (.cells #[.string ⟨s.type.toArray⟩, .slice vo s.vals.length vc, .slice eo s.done.length ec, .slice go s.got.length gc] 70)
  have HF : Hid (Few s) := f
  have HM : Hid ((nms t).length ≤ 1000000) := hm
  have HGl : Hid (g.length ≤ 281474976710656) := hg
  obtain ⟨R, hR⟩ : ∃ R, R = (evl (nms t) (sees s) g).1 := ⟨_, rfl⟩
  have HR : Hid (hld t s g = (R != 0)) := by show _ = _; rw [hR]; rfl
  have HR2 : Hid (R = (evl (nms t) (sees s) g).1) := hR
  rw [HR.out]
  clear h1 h2 h3 f hm hg hR
  go_enter Tryz.func236, Tryz.ntmps236
  go_wp2_with fail
  generalize (w.alloc (.cells #[.string ⟨t.name.toArray⟩, .slice tx0 tn tc, .slice so sn sc, .slice mo mn mc] 54)).alloc (.cells #[.string ⟨s.type.toArray⟩, .slice vo s.vals.length vc, .slice eo s.done.length ec, .slice go s.got.length gc] 70) = wb at *
  generalize w.heap.size = B at *
  obtain ⟨⟨y0, y1, y2, y3⟩, _⟩ := four_cell x1
  obtain ⟨⟨z0, z1, z2, z3⟩, _⟩ := four_cell x2
  have HK : Hid (Kept (fun _ => True) w wb) := hk
  have HT1 : Hid (TyV wb (.agg #[.string ⟨t.name.toArray⟩, .slice tx0 tn tc, .slice so sn sc, .slice mo mn mc]) t) := HT.out.all hk
  have HS1 : Hid (StV wb (.agg #[.string ⟨s.type.toArray⟩, .slice vo s.vals.length vc, .slice eo s.done.length ec, .slice go s.got.length gc]) s) := HS.out.all hk
  have X0 := fun W (q : Kept (fun _ => True) wb W) => (kept_cell q (lt_of_block x1) trivial).trans y0
  have X1 := fun W (q : Kept (fun _ => True) wb W) => (kept_cell q (lt_of_block x1) trivial).trans y1
  have X2 := fun W (q : Kept (fun _ => True) wb W) => (kept_cell q (lt_of_block x1) trivial).trans y2
  have X3 := fun W (q : Kept (fun _ => True) wb W) => (kept_cell q (lt_of_block x1) trivial).trans y3
  have U0 := fun W (q : Kept (fun _ => True) wb W) => (kept_cell q (lt_of_block x2) trivial).trans z0
  have U1 := fun W (q : Kept (fun _ => True) wb W) => (kept_cell q (lt_of_block x2) trivial).trans z1
  have U2 := fun W (q : Kept (fun _ => True) wb W) => (kept_cell q (lt_of_block x2) trivial).trans z2
  have U3 := fun W (q : Kept (fun _ => True) wb W) => (kept_cell q (lt_of_block x2) trivial).trans z3
  have kd : Kept (fun _ => True) wb wb.drew := (Kept.refl _ _).drew
  clear hk HT HS x1 x2 y0 y1 y2 y3 z0 z1 z2 z3
  go_region_held3 (fun W => Kept (fun _ => True) wb W) (assumption) (first
    | (go_at_call 159; refine Calls.mono (names_any (HT1.out.all (by assumption)) (by have := HM.out; omega)) ?_; rintro e v5 ⟨nv, rfl, hn, m5⟩; have HN1 : Hid (Ns v5 nv (nms t)) := hn.ns (by have := HM.out; omega); obtain ⟨na, nc, rfl, _⟩ := hn.shape; have p5 : Kept (fun _ => True) wb v5 := Kept.trans (by assumption) m5; clear m5 hn)
    | (go_at_call 246; refine Calls.mono (seen_any (HS1.out.all (by assumption)) HF.out) ?_; rintro e v6 ⟨sv2, rfl, hn, m6⟩; have HN2 : Hid (Vi v6 sv2 (sees s)) := hn.vi; have HN3 : Hid (Ns v6 _ (nms t)) := HN1.out.all m6; obtain ⟨nb, nd, rfl, _⟩ := hn.ints; have p6 : Kept (fun _ => True) wb v6 := Kept.trans (by assumption) m6; clear m6 hn)
    | (go_at_call 245; have c := eval_any HN3.out HN2.out HGl.out; rw [← HR2.out] at c; refine Calls.mono c ?_; clear c; rintro e v7 ⟨rfl, m7⟩; have p7 : Kept (fun _ => True) wb v7 := Kept.trans (by assumption) m7; clear m7))
  all_goals
    go_wp2_with fail
    go_ret
    exact ⟨rfl, HK.out.trans (by assumption)⟩

end Go.Proofs.YtenejaghgehnoaaGreatDoor

namespace Go.Proofs.YtenejaghgehnoaaGreatDoor
open Go.RowKit

/-- A truth that tells whether P. -/
def Tells (e : Ending) (P : Prop) : Prop := ∃ q : Bool, e = .returned (.bool q) ∧ (q = true ↔ P)
theorem Tells.mk {e : Ending} {P : Prop} {q : Bool} (h : e = .returned (.bool q)) (hq : q = true ↔ P) : Tells e P := ⟨q, h, hq⟩
theorem Tells.yes {e : Ending} {P : Prop} (h : e = .returned (.bool true)) (hp : P) : Tells e P := ⟨true, h, fun _ => hp, fun _ => rfl⟩
theorem most_three (a b c : Nat) : ∃ M : Int, (∀ W, (Builtin.max_ #[3, 3, 3] 3 #[.int .i64 (a : Nat), .int .i64 (b : Nat), .int .i64 (c : Nat)]).run Tryz.prog W = .ok (.int .i64 M) W) ∧ (M ≤ 6 ↔ (a ≤ 6 ∧ b ≤ 6 ∧ c ≤ 6)) := by
  refine ⟨_, fun W => run_max_int3 _ _ _ _ _ _ _ _ _, ?_⟩
  repeat' split
  all_goals omega

set_option maxRecDepth 100000 in
set_option maxHeartbeats 4000000 in
theorem small_any {w : World} {v : Value} {t : Ty} (h : TyV w v t) (g : Good t) :
    Calls Tryz.prog 229 #[v] w fun e w' => e = .returned (.bool true) ∧ Kept (fun _ => True) w w' := by
  obtain ⟨va, vs, vm, rfl, ha, hs, hk⟩ := h
  obtain ⟨ao, ac, rfl, la⟩ := ha.form
  obtain ⟨so, sc, rfl, ls⟩ := hs.form
  obtain ⟨mo, mc, rfl, lm⟩ := hk.form
  have hX := heap_alloc_new w (.cells #[.string ⟨t.name.toArray⟩, .slice ao t.attrs.length ac, .slice so t.stages.length sc, .slice mo t.marks.length mc] 54)
  have K0 : Hid (Kept (fun _ => True) w (w.alloc (.cells #[.string ⟨t.name.toArray⟩, .slice ao t.attrs.length ac, .slice so t.stages.length sc, .slice mo t.marks.length mc] 54))) := (Kept.refl _ _).alloc _
  obtain ⟨⟨z0, z1, z2, z3⟩, _⟩ := four_cell hX
  obtain ⟨M, hM, hM6⟩ := most_three t.attrs.length t.stages.length t.marks.length
  have h6 : M ≤ 6 := hM6.2 ⟨g.na, g.ns, g.nm⟩
  clear ha hs hk g hM6 hX
  go_enter Tryz.func229, Tryz.ntmps229
  go_wp2_with fail
  go_ret
  exact ⟨rfl, K0.out⟩

set_option maxRecDepth 100000 in
set_option maxHeartbeats 4000000 in
theorem within_any {w : World} (x : At) (n : Int) :
    Calls Tryz.prog 171 #[.agg #[.string ⟨x.name.toArray⟩, .int .i64 x.start, .int .i64 x.lo, .int .i64 x.hi], .int .i64 n] w fun e w' => e = .returned (.bool (wthn x n)) ∧ Kept (fun _ => True) w w' := by
  have hX := heap_alloc_new w (.cells #[.string ⟨x.name.toArray⟩, .int .i64 x.start, .int .i64 x.lo, .int .i64 x.hi] 88)
  obtain ⟨⟨z0, z1, z2, z3⟩, _⟩ := four_cell hX
  have K1 : Hid _ := (Kept.refl (fun _ => True) w).alloc (.cells #[.string ⟨x.name.toArray⟩, .int .i64 x.start, .int .i64 x.lo, .int .i64 x.hi] 88)
  clear hX
  unfold wthn
  generalize x.start = s at *
  generalize x.lo = l at *
  generalize x.hi = h at *
  by_cases h1 : l ≤ n
  · by_cases h2 : n ≤ h
    all_goals
      simp only [h1, h2, decide_true, decide_false, Bool.and_true, Bool.and_false]
      go_enter Tryz.func171, Tryz.ntmps171
      go_wp2_with fail
      go_ret
      exact ⟨rfl, K1.out⟩
  · simp only [h1, decide_false, Bool.false_and]
    go_enter Tryz.func171, Tryz.ntmps171
    go_wp2_with fail
    go_ret
    exact ⟨rfl, K1.out⟩

theorem nat_yes {a b : Nat} (h : a = b) : ((a : Int) == (b : Int)) = true := by rw [h]; simp
theorem nat_no {a b : Nat} (h : ¬ a = b) : ((a : Int) == (b : Int)) = false := by
  simp only [beq_eq_false_iff_ne, ne_eq]
  omega

set_option maxRecDepth 100000 in
set_option maxHeartbeats 4000000 in
theorem sized_any {w : World} {tv sv : Value} {t : Ty} {s : Sa} (ht : TyV w tv t) (hs : StV w sv s) :
    Calls Tryz.prog 170 #[tv, sv] w fun e w' => Tells e (Sized t s) ∧ Kept (fun _ => True) w w' := by
  obtain ⟨ta, ts, tm, rfl, ha, hss, hk⟩ := ht
  obtain ⟨ao, ac, rfl, la⟩ := ha.form
  obtain ⟨so, sc, rfl, ls⟩ := hss.form
  obtain ⟨mo, mc, rfl, lm⟩ := hk.form
  obtain ⟨va, vd, vg, rfl, h1, h2, h3⟩ := hs
  obtain ⟨vo, vc, rfl, -, -⟩ := h1.ints
  obtain ⟨eo, ec, rfl, -, -⟩ := h2.bools
  obtain ⟨go, gc, rfl, -, -⟩ := h3.bools
  obtain ⟨x1, x2⟩ := alloc_two w (.cells #[.string ⟨t.name.toArray⟩, .slice ao t.attrs.length ac, .slice so t.stages.length sc, .slice mo t.marks.length mc] 54) (.cells #[.string ⟨s.type.toArray⟩, .slice vo s.vals.length vc, .slice eo s.done.length ec, .slice go s.got.length gc] 70)
  have K0 : Hid (Kept (fun _ => True) w ((w.alloc (.cells #[.string ⟨t.name.toArray⟩, .slice ao t.attrs.length ac, .slice so t.stages.length sc, .slice mo t.marks.length mc] 54)).alloc (.cells #[.string ⟨s.type.toArray⟩, .slice vo s.vals.length vc, .slice eo s.done.length ec, .slice go s.got.length gc] 70))) := ((Kept.refl _ _).alloc _).alloc _
  obtain ⟨⟨y0, y1, y2, y3⟩, _⟩ := four_cell x1
  obtain ⟨⟨z0, z1, z2, z3⟩, _⟩ := four_cell x2
  obtain ⟨P, hP⟩ : ∃ P : Prop, P ↔ Sized t s := ⟨_, Iff.rfl⟩
  have HP : Hid (P ↔ (s.vals.length = t.attrs.length ∧ s.done.length = t.stages.length ∧ s.got.length = t.marks.length)) := hP.trans ⟨fun h => ⟨h.1, h.2, h.3⟩, fun h => ⟨h.1, h.2.1, h.2.2⟩⟩
  have HP2 : Hid (Sized t s ↔ P) := hP.symm
  simp only [HP2.out]
  clear ha hss hk h1 h2 h3 x1 x2 hP
  generalize s.vals.length = a1 at *
  generalize s.done.length = a2 at *
  generalize s.got.length = a3 at *
  generalize t.attrs.length = b1 at *
  generalize t.stages.length = b2 at *
  generalize t.marks.length = b3 at *
  by_cases e1 : a1 = b1
  · have f1 := nat_yes e1
    by_cases e2 : a2 = b2
    · have f2 := nat_yes e2
      by_cases e3 : a3 = b3
      · have f3 := nat_yes e3
        have HQ : Hid P := HP.out.2 ⟨e1, e2, e3⟩
        clear e1 e2 e3
        go_enter Tryz.func170, Tryz.ntmps170
        go_wp2_with fail
        go_ret
        exact ⟨Tells.yes rfl HQ.out, K0.out⟩
      · have f3 := nat_no e3
        have HQ : Hid ((false : Bool) = true ↔ P) := by show _ ↔ _; rw [HP.out]; simp [e3]
        clear e1 e2 e3
        go_enter Tryz.func170, Tryz.ntmps170
        go_wp2_with fail
        go_ret
        exact ⟨Tells.mk rfl HQ.out, K0.out⟩
    · have f2 := nat_no e2
      have HQ : Hid ((false : Bool) = true ↔ P) := by show _ ↔ _; rw [HP.out]; simp [e2]
      clear e1 e2
      go_enter Tryz.func170, Tryz.ntmps170
      go_wp2_with fail
      go_ret
      exact ⟨Tells.mk rfl HQ.out, K0.out⟩
  · have f1 := nat_no e1
    have HQ : Hid ((false : Bool) = true ↔ P) := by show _ ↔ _; rw [HP.out]; simp [e1]
    clear e1
    go_enter Tryz.func170, Tryz.ntmps170
    go_wp2_with fail
    go_ret
    exact ⟨Tells.mk rfl HQ.out, K0.out⟩

theorem within_at {t : Ty} {s : Sa} (h : Sized t s) {i : Nat} (hi : i < t.attrs.length) : ∃ hv : i < s.vals.length, wthn (t.attrs.getD i At.nil) (s.vals.getD i 0) = wthn t.attrs[i] (s.vals[i]'hv) := by
  have hv : i < s.vals.length := by rw [h.vals]; exact hi
  refine ⟨hv, ?_⟩
  simp [List.getD_eq_getElem?_getD, hi, hv]

set_option maxRecDepth 100000 in
set_option maxHeartbeats 4000000 in
theorem fits_any {w : World} {tv sv : Value} {t : Ty} {s : Sa} (ht : TyV w tv t) (hs : StV w sv s) (g : Good t) :
    Calls Tryz.prog 132 #[tv, sv] w fun e w' => Tells e (Fit t s) ∧ Kept (fun _ => True) w w' := by
  have HT : Hid (TyV w tv t) := ht
  have HS : Hid (StV w sv s) := hs
  obtain ⟨ta, ts, tm, rfl, ha, hss, hk⟩ := ht
  obtain ⟨ao, ac, rfl, la⟩ := ha.form
  obtain ⟨so, sc, rfl, ls⟩ := hss.form
  obtain ⟨mo, mc, rfl, lm⟩ := hk.form
  obtain ⟨va, vd, vg, rfl, h1, h2, h3⟩ := hs
  obtain ⟨vo, vc, rfl, -, -⟩ := h1.ints
  obtain ⟨eo, ec, rfl, -, -⟩ := h2.bools
  obtain ⟨go, gc, rfl, -, -⟩ := h3.bools
  obtain ⟨x1, x2⟩ := alloc_two w (.cells #[.string ⟨t.name.toArray⟩, .slice ao t.attrs.length ac, .slice so t.stages.length sc, .slice mo t.marks.length mc] 54) (.cells #[.string ⟨s.type.toArray⟩, .slice vo s.vals.length vc, .slice eo s.done.length ec, .slice go s.got.length gc] 70)
  have hk0 : Kept (fun _ => True) w ((w.alloc (.cells #[.string ⟨t.name.toArray⟩, .slice ao t.attrs.length ac, .slice so t.stages.length sc, .slice mo t.marks.length mc] 54)).alloc (.cells #[.string ⟨s.type.toArray⟩, .slice vo s.vals.length vc, .slice eo s.done.length ec, .slice go s.got.length gc] 70)) := ((Kept.refl _ _).alloc _).alloc _
  have HA : Hid (Av _ (.slice ao t.attrs.length ac) t.attrs) := ha.all hk0
  have HV : Hid (Cv _ (.slice vo s.vals.length vc) (iv s.vals)) := h1.all hk0
  have cz := sized_any (HT.out.all hk0) (HS.out.all hk0)
  have hna := g.na
  have K0 : Hid _ := hk0
  obtain ⟨⟨y0, y1, y2, y3⟩, _⟩ := four_cell x1
  obtain ⟨⟨z0, z1, z2, z3⟩, _⟩ := four_cell x2
  have X1 : Hid _ := x1
  have X2 : Hid _ := x2
  clear ha hss hk h1 h2 h3 hk0 x1 x2 HT HS g
  go_enter Tryz.func132, Tryz.ntmps132
  by_cases hn : s.type = t.name
  · have hn' : (s.type == t.name) = true := by simpa using hn
    have HN : Hid _ := hn
    clear hn
    go_wp2_with fail
    refine Calls.mono cz ?_
    rintro e w2 ⟨⟨q, rfl, hq⟩, k2⟩
    clear cz
    cases q with
    | false =>
      have HQ : Hid ((false : Bool) = true ↔ Fit t s) := ⟨fun h => (by cases h), fun h => hq.2 h.sz⟩
      clear hq
      go_wp2_with fail
      go_ret
      exact ⟨Tells.mk rfl HQ.out, K0.out.trans k2⟩
    | true =>
      have HZ : Hid (Sized t s) := hq.1 rfl
      have HB1 : Hid _ := (k2.block _ (lt_of_block X1.out) trivial).trans X1.out
      have HB2 : Hid _ := (k2.block _ (lt_of_block X2.out) trivial).trans X2.out
      replace HA := HA.out.all k2
      replace HV := HV.out.all k2
      have K2 : Hid (Kept (fun _ => True) w w2) := K0.out.trans k2
      clear hq y0 y1 y2 y3 z0 z1 z2 z3 X1 X2 K0 k2
      have HA2 : Hid (Av w2 (.slice ao t.attrs.length ac) t.attrs) := HA
      have HV2 : Hid (Cv w2 (.slice vo s.vals.length vc) (iv s.vals)) := HV
      clear HA HV
      generalize w.heap.size = B at *
      obtain ⟨⟨y0, y1, y2, y3⟩, _⟩ := four_cell HB1.out
      go_wp2_with fail
      clear y0 y1 y2 y3
      go_loopw [5, 6, 21] (fun _ _ ti wr => ∃ i : Nat, i ≤ t.attrs.length ∧ ti = .int .i64 i ∧ (∀ k, k < i → wthn (t.attrs.getD k At.nil) (s.vals.getD k 0) = true) ∧ Kept (fun _ => True) w2 wr) (fun _ _ ti _ => t.attrs.length - (intOf ti).toNat)
      case atStart => exact ⟨0, Nat.zero_le _, rfl, fun k hk => (by omega), Kept.refl _ _⟩
      case round =>
      obtain ⟨i, hi, rfl, hall, hk⟩ := hrel
      have HAll : Hid (∀ k, k < i → wthn (t.attrs.getD k At.nil) (s.vals.getD k 0) = true) := hall
      have HKr : Hid (Kept (fun _ => True) w2 wr) := hk
      clear hall hk
      by_cases hlt : i < t.attrs.length
      · obtain ⟨hv, hwe⟩ := within_at HZ.out hlt
        obtain ⟨b, off, rfl, hb, q0, q1, q2, q3⟩ := (HA2.out.all HKr.out).at i hlt
        obtain ⟨b2, off2, rfl, hb2, c0⟩ := (HV2.out.all HKr.out).intAt i hv
        have HWE : Hid _ := hwe
        have i1 : (i : Int) < (t.attrs.length : Int) := by omega
        have i0 : (0 : Int) ≤ (i : Int) := by omega
        have i2 : (i : Int) < (s.vals.length : Int) := by omega
        clear hb hwe
        generalize t.attrs[i] = x at *
        generalize s.vals[i] = n at *
        have ka : Kept (fun _ => True) wr (wr.alloc (.cells #[.string ⟨x.name.toArray⟩, .int .i64 x.start, .int .i64 x.lo, .int .i64 x.hi] 88)) := (Kept.refl _ _).alloc _
        have hG := heap_alloc_new wr (.cells #[.string ⟨x.name.toArray⟩, .int .i64 x.start, .int .i64 x.lo, .int .i64 x.hi] 88)
        have c1 := (kept_cell ka hb2 trivial).trans c0
        have hb3 : b2 < (wr.alloc (.cells #[.string ⟨x.name.toArray⟩, .int .i64 x.start, .int .i64 x.lo, .int .i64 x.hi] 88)).heap.size := Nat.lt_of_lt_of_le hb2 ka.size
        have hB2 := ((HKr.out.trans ka).block _ (lt_of_block HB2.out) trivial).trans HB2.out
        have HKa : Hid (Kept (fun _ => True) w2 _) := HKr.out.trans ka
        clear ka c0 hb2
        go_upto_region 6 with fail
        generalize wr.alloc (.cells #[.string ⟨x.name.toArray⟩, .int .i64 x.start, .int .i64 x.lo, .int .i64 x.hi] 88) = w3 at *
        generalize wr.heap.size = G at *
        obtain ⟨⟨g0, g1, g2, g3⟩, _⟩ := four_cell hG
        obtain ⟨⟨z0, z1, z2, z3⟩, _⟩ := four_cell hB2
        have G0 := fun W (q : Kept (fun _ => True) w3 W) => (kept_cell q (lt_of_block hG) trivial).trans g0
        have G1 := fun W (q : Kept (fun _ => True) w3 W) => (kept_cell q (lt_of_block hG) trivial).trans g1
        have G2 := fun W (q : Kept (fun _ => True) w3 W) => (kept_cell q (lt_of_block hG) trivial).trans g2
        have G3 := fun W (q : Kept (fun _ => True) w3 W) => (kept_cell q (lt_of_block hG) trivial).trans g3
        have Z1 := fun W (q : Kept (fun _ => True) w3 W) => (kept_cell q (lt_of_block hB2) trivial).trans z1
        have C1 := fun W (q : Kept (fun _ => True) w3 W) => (kept_cell q hb3 trivial).trans c1
        have kd : Kept (fun _ => True) w3 w3.drew := (Kept.refl _ _).drew
        have cw := fun W => within_any (w := W) x n
        generalize wthn x n = wq at *
        clear g0 g1 g2 g3 z0 z1 z2 z3 c1 hG hB2 hb3
        go_region_held3 (fun W => Kept (fun _ => True) w3 W) (assumption) (first
          | (go_at_call 171; refine Calls.mono (cw _) ?_; rintro e v5 ⟨rfl, m5⟩; have p5 : Kept (fun _ => True) w3 v5 := Kept.trans (by assumption) m5; clear m5))
        all_goals
          have HP5 : Hid (Kept (fun _ => True) w2 v5) := HKa.out.trans p5
          clear G0 G1 G2 G3 Z1 C1 kd cw p5
          cases wq with
          | true =>
            go_wp2_with fail
            go_roundw
            case rel =>
              refine ⟨i + 1, by omega, by go_num, fun k hk => ?_, HP5.out⟩
              rcases Nat.lt_or_ge k i with h | h
              · exact HAll.out k h
              · obtain rfl : k = i := by omega
                exact HWE.out
            case measure => simp [intOf]; omega
          | false =>
            have HQ : Hid ((false : Bool) = true ↔ Fit t s) := ⟨fun h => (by cases h), fun h => (h.within i (by omega)).symm.trans HWE.out |>.symm⟩
            go_wp2_with fail
            go_ret
            exact ⟨Tells.mk rfl HQ.out, K2.out.trans HP5.out⟩
      · have i1 : ¬ (i : Int) < (t.attrs.length : Int) := by omega
        have HQ : Hid (Fit t s) := ⟨HN.out, HZ.out, fun k hk => HAll.out k (by omega)⟩
        go_wp2_with fail
        go_ret
        exact ⟨Tells.yes rfl HQ.out, K2.out.trans HKr.out⟩
  · have hn' : (s.type == t.name) = false := by simpa using hn
    have HQ : Hid ((false : Bool) = true ↔ Fit t s) := ⟨fun h => (by cases h), fun h => absurd h.type hn⟩
    clear hn
    go_wp2_with fail
    go_ret
    exact ⟨Tells.mk rfl HQ.out, K0.out⟩

end Go.Proofs.YtenejaghgehnoaaGreatDoor

namespace Go.Proofs.YtenejaghgehnoaaGreatDoor
open Go.RowKit

set_option maxRecDepth 100000 in
set_option maxHeartbeats 4000000 in
theorem sound_any {w : World} {tv sv : Value} {t : Ty} {s : Sa} (ht : TyV w tv t) (hs : StV w sv s) (g : Good t) (f : Fit t s) :
    Calls Tryz.prog 209 #[tv, sv] w fun e w' => e = .returned (.bool true) ∧ Kept (fun _ => True) w w' := by
  have HT : Hid (TyV w tv t) := ht
  have HS : Hid (StV w sv s) := hs
  obtain ⟨tx0, tn, tc, so, sn, sc, mo, mn, mc, rfl⟩ := ht.parts
  obtain ⟨va, vd, vg, rfl, h1, h2, h3⟩ := hs
  obtain ⟨vo, vc, rfl, -, -⟩ := h1.ints
  obtain ⟨eo, ec, rfl, -, -⟩ := h2.bools
  obtain ⟨go, gc, rfl, -, -⟩ := h3.bools
  obtain ⟨x1, x2⟩ := alloc_two w (.cells #[.string ⟨t.name.toArray⟩, .slice tx0 tn tc, .slice so sn sc, .slice mo mn mc] 54) (.cells #[.string ⟨s.type.toArray⟩, .slice vo s.vals.length vc, .slice eo s.done.length ec, .slice go s.got.length gc] 70)
  have hk : Kept (fun _ => True) w ((w.alloc (.cells #[.string ⟨t.name.toArray⟩, .slice tx0 tn tc, .slice so sn sc, .slice mo mn mc] 54)).alloc (.cells #[.string ⟨s.type.toArray⟩, .slice vo s.vals.length vc, .slice eo s.done.length ec, .slice go s.got.length gc] 70)) := ((Kept.refl _ _).alloc _).alloc _
  obtain ⟨⟨y0, y1, y2, y3⟩, _⟩ := four_cell x1
  have c1 := small_any (HT.out.all hk) g
  have HG : Hid (Good t) := g
  have HF : Hid (Fit t s) := f
  have X1 : Hid _ := x1
  have X2 : Hid _ := x2
  have K0 : Hid _ := hk
  clear h1 h2 h3 x1 x2 hk g f
  go_enter Tryz.func209, Tryz.ntmps209
  go_wp2_with fail
  refine Calls.mono c1 ?_
  rintro e w2 ⟨rfl, k2⟩
  have hB1 := (k2.block _ (lt_of_block X1.out) trivial).trans X1.out
  have hB2 := (k2.block _ (lt_of_block X2.out) trivial).trans X2.out
  have K2 : Hid (Kept (fun _ => True) w w2) := K0.out.trans k2
  have c2 := fits_any (HT.out.all K2.out) (HS.out.all K2.out) HG.out
  clear c1 k2 y0 y1 y2 y3 X1 X2 K0
  generalize w.heap.size = B at *
  obtain ⟨⟨y0, y1, y2, y3⟩, _⟩ := four_cell hB1
  obtain ⟨⟨z0, z1, z2, z3⟩, _⟩ := four_cell hB2
  clear hB1 hB2
  go_wp2_with fail
  refine Calls.mono c2 ?_
  rintro e w3 ⟨⟨q, rfl, hq⟩, k3⟩
  obtain rfl : q = true := hq.2 HF.out
  clear c2 hq
  go_wp2_with fail
  go_ret
  exact ⟨rfl, K2.out.trans k3⟩

theorem name_at {xs : List At} {i : Nat} (h : i < xs.length) : ∃ h' : i < (xs.map At.name).length, (xs.map At.name)[i] = (xs[i]).name := ⟨by simpa using h, by simp⟩
theorem rule_at {xs : List Ru} {i : Nat} (h : i < xs.length) : ∃ h' : i < (xs.map Ru.name).length, (xs.map Ru.name)[i] = (xs[i]).name := ⟨by simpa using h, by simp⟩
/-- A place as a number, -1 for none. -/
def spotN : Option Nat → Int
  | none => -1
  | some k => k

set_option maxRecDepth 100000 in
set_option maxHeartbeats 4000000 in
theorem attrOf_any {w : World} {tv : Value} {t : Ty} (ht : TyV w tv t) (g : Good t) (x : List UInt8) :
    Calls Tryz.prog 230 #[tv, .string ⟨x.toArray⟩] w fun e w' => e = .returned (.int .i64 (spotN (spot (t.attrs.map At.name) x))) ∧ Kept (fun _ => True) w w' := by
  obtain ⟨ta, ts, tm, rfl, ha, hss, hk⟩ := ht
  obtain ⟨ao, ac, rfl, la⟩ := ha.form
  obtain ⟨so, sc, rfl, ls⟩ := hss.form
  obtain ⟨mo, mc, rfl, lm⟩ := hk.form
  have hX := heap_alloc_new w (.cells #[.string ⟨t.name.toArray⟩, .slice ao t.attrs.length ac, .slice so t.stages.length sc, .slice mo t.marks.length mc] 54)
  have k0 : Kept (fun _ => True) w (w.alloc (.cells #[.string ⟨t.name.toArray⟩, .slice ao t.attrs.length ac, .slice so t.stages.length sc, .slice mo t.marks.length mc] 54)) := (Kept.refl _ _).alloc _
  obtain ⟨⟨z0, z1, z2, z3⟩, _⟩ := four_cell hX
  have HA : Hid (Av _ (.slice ao t.attrs.length ac) t.attrs) := ha.all k0
  have HN : Hid ((t.attrs.map At.name).Nodup) := g.attrN
  have K0 : Hid _ := k0
  have hna := g.na
  obtain ⟨Z, hZ⟩ : ∃ Z, Z = spotN (spot (t.attrs.map At.name) x) := ⟨_, rfl⟩
  have HZ : Hid (Z = spotN (spot (t.attrs.map At.name) x)) := hZ
  rw [← hZ]
  clear ha hss hk g hX k0 hZ
  go_enter Tryz.func230, Tryz.ntmps230
  go_wp2_with fail
  generalize w.alloc (.cells #[.string ⟨t.name.toArray⟩, .slice ao t.attrs.length ac, .slice so t.stages.length sc, .slice mo t.marks.length mc] 54) = w1 at *
  generalize w.heap.size = B at *
  clear z0 z1 z2 z3
  go_loopw [5, 6, 10] (fun _ _ ti wr => ∃ i : Nat, i ≤ t.attrs.length ∧ ti = .int .i64 i ∧ (∀ k (h : k < t.attrs.length), k < i → (t.attrs[k]).name ≠ x) ∧ Kept (fun _ => True) w1 wr) (fun _ _ ti _ => t.attrs.length - (intOf ti).toNat)
  case atStart => exact ⟨0, Nat.zero_le _, rfl, fun k _ hk => (by omega), Kept.refl _ _⟩
  case round =>
  obtain ⟨i, hi, rfl, hall, hk⟩ := hrel
  have HAll : Hid (∀ k (h : k < t.attrs.length), k < i → (t.attrs[k]).name ≠ x) := hall
  have HKr : Hid (Kept (fun _ => True) w1 wr) := hk
  clear hall hk
  by_cases hlt : i < t.attrs.length
  · obtain ⟨b, off, rfl, hb, q0, q1, q2, q3⟩ := (HA.out.all HKr.out).at i hlt
    have i1 : (i : Int) < (t.attrs.length : Int) := by omega
    have i0 : (0 : Int) ≤ (i : Int) := by omega
    have HKa : Hid (Kept (fun _ => True) w (wr.alloc (.cells #[.string ⟨(t.attrs[i]).name.toArray⟩, .int .i64 (t.attrs[i]).start, .int .i64 (t.attrs[i]).lo, .int .i64 (t.attrs[i]).hi] 88))) := (K0.out.trans HKr.out).alloc _
    have HKb : Hid (Kept (fun _ => True) w1 (wr.alloc (.cells #[.string ⟨(t.attrs[i]).name.toArray⟩, .int .i64 (t.attrs[i]).start, .int .i64 (t.attrs[i]).lo, .int .i64 (t.attrs[i]).hi] 88))) := HKr.out.alloc _
    by_cases hx : (t.attrs[i]).name = x
    · have hx' : ((t.attrs[i]).name == x) = true := by simpa using hx
      have HR : Hid (Z = (i : Int)) := by
        show _ = _
        obtain ⟨h1, h2⟩ := name_at hlt
        rw [HZ.out, spot_at HN.out i h1 (h2.trans hx)]
        rfl
      clear hx
      generalize t.attrs[i] = a at *
      go_wp2_with fail
      go_ret
      exact ⟨by rw [HR.out]; rfl, HKa.out⟩
    · have hx' : ((t.attrs[i]).name == x) = false := by simpa using hx
      have HAll2 : Hid (∀ k (h : k < t.attrs.length), k < i + 1 → (t.attrs[k]).name ≠ x) := fun k h hk => by
        rcases Nat.lt_or_ge k i with h2 | h2
        · exact HAll.out k h h2
        · obtain rfl : k = i := by omega
          exact hx
      clear hx
      generalize t.attrs[i] = a at *
      go_wp2_with fail
      go_roundw
      case rel => exact ⟨i + 1, by omega, by go_num, HAll2.out, HKb.out⟩
      case measure => simp [intOf]; omega
  · have i1 : ¬ (i : Int) < (t.attrs.length : Int) := by omega
    have HR : Hid (Z = -1) := by
      show _ = _
      rw [HZ.out, spot_no (fun k hk => ?_)]
      · rfl
      · have hk' : k < t.attrs.length := by simpa using hk
        obtain ⟨h1, h2⟩ := name_at hk'
        rw [h2]
        exact HAll.out k hk' (by omega)
    go_wp2_with fail
    go_ret
    exact ⟨by rw [HR.out]; rfl, K0.out.trans HKr.out⟩

set_option maxRecDepth 100000 in
set_option maxHeartbeats 4000000 in
theorem ready_any {w : World} {tv sv : Value} {t : Ty} {s : Sa} (ht : TyV w tv t) (hs : StV w sv s) (g : Good t) (f : Sized t s) (k : Nat) (hk : k < t.stages.length) :
    Calls Tryz.prog 232 #[tv, sv, .int .i64 (k : Nat)] w fun e w' => e = .returned (.bool (rdy t s k)) ∧ Kept (fun _ => True) w w' := by
  have HT : Hid (TyV w tv t) := ht
  have HS : Hid (StV w sv s) := hs
  obtain ⟨ta, ts, tm, rfl, ha, hss, hkk⟩ := ht
  obtain ⟨ao, ac, rfl, la⟩ := ha.form
  obtain ⟨so, sc, rfl, ls⟩ := hss.form
  obtain ⟨mo, mc, rfl, lm⟩ := hkk.form
  obtain ⟨va, vd, vg, rfl, h1, h2, h3⟩ := hs
  obtain ⟨vo, vc, rfl, -, -⟩ := h1.ints
  obtain ⟨eo, ec, rfl, -, -⟩ := h2.bools
  obtain ⟨go, gc, rfl, -, -⟩ := h3.bools
  obtain ⟨x1, x2⟩ := alloc_two w (.cells #[.string ⟨t.name.toArray⟩, .slice ao t.attrs.length ac, .slice so t.stages.length sc, .slice mo t.marks.length mc] 54) (.cells #[.string ⟨s.type.toArray⟩, .slice vo s.vals.length vc, .slice eo s.done.length ec, .slice go s.got.length gc] 70)
  have hk0 : Kept (fun _ => True) w ((w.alloc (.cells #[.string ⟨t.name.toArray⟩, .slice ao t.attrs.length ac, .slice so t.stages.length sc, .slice mo t.marks.length mc] 54)).alloc (.cells #[.string ⟨s.type.toArray⟩, .slice vo s.vals.length vc, .slice eo s.done.length ec, .slice go s.got.length gc] 70)) := ((Kept.refl _ _).alloc _).alloc _
  have hd : k < s.done.length := by rw [f.done]; exact hk
  obtain ⟨b, off, rfl, hb, q0, q1⟩ := (hss.all hk0).at k hk
  obtain ⟨b2, off2, rfl, hb2, c0⟩ := (h2.all hk0).boolAt k hd
  have k1 : (k : Int) < (t.stages.length : Int) := by omega
  have k2 : (k : Int) < (s.done.length : Int) := by omega
  have k3 : (0 : Int) ≤ (k : Int) := by omega
  have hfew : Few s := by
    have := g.na; have := g.ns; have := g.nm; have := f.vals; have := f.done; have := f.got
    exact ⟨by omega, by omega, by omega⟩
  have HH : Hid (∀ W, Kept (fun _ => True) w W → Calls Tryz.prog 236 #[.agg #[.string ⟨t.name.toArray⟩, .slice ao t.attrs.length ac, .slice (some ⟨b, off, none⟩) t.stages.length sc, .slice mo t.marks.length mc], .agg #[.string ⟨s.type.toArray⟩, .slice vo s.vals.length vc, .slice (some ⟨b2, off2, none⟩) s.done.length ec, .slice go s.got.length gc], .string ⟨(t.stages[k]).guard.toArray⟩] W fun e w' => e = .returned (.bool (hld t s (t.stages[k]).guard)) ∧ Kept (fun _ => True) W w') :=
    fun W q => holds_any (HT.out.all q) (HS.out.all q) hfew (by have := g.few; omega) (by have := g.guards _ (List.mem_append.2 (.inl (List.getElem_mem hk))); omega)
  have HR : Hid (rdy t s k = (!(s.done[k]) && hld t s (t.stages[k]).guard)) := by
    show _ = _
    simp [rdy, List.getD_eq_getElem?_getD, hk, hd]
  rw [HR.out]
  have K0 : Hid _ := hk0
  clear HR
  generalize s.done[k] = d at *
  generalize t.stages[k] = rl at *
  obtain ⟨rn, gd1⟩ := rl
  simp only at q0 q1 HH ⊢
  generalize hld t s gd1 = q at *
  clear h1 h2 h3 ha hss hkk HT HS g f hk hd hfew
  go_enter Tryz.func232, Tryz.ntmps232
  go_upto_region 1 with fail
  generalize (w.alloc (.cells #[.string ⟨t.name.toArray⟩, .slice ao t.attrs.length ac, .slice (some ⟨b, off, none⟩) t.stages.length sc, .slice mo t.marks.length mc] 54)).alloc (.cells #[.string ⟨s.type.toArray⟩, .slice vo s.vals.length vc, .slice (some ⟨b2, off2, none⟩) s.done.length ec, .slice go s.got.length gc] 70) = wb at *
  generalize w.heap.size = B at *
  obtain ⟨⟨y0, y1, y2, y3⟩, _⟩ := four_cell x1
  obtain ⟨⟨z0, z1, z2, z3⟩, _⟩ := four_cell x2
  have X0 := fun W (q : Kept (fun _ => True) wb W) => (kept_cell q (lt_of_block x1) trivial).trans y0
  have X1 := fun W (q : Kept (fun _ => True) wb W) => (kept_cell q (lt_of_block x1) trivial).trans y1
  have X2 := fun W (q : Kept (fun _ => True) wb W) => (kept_cell q (lt_of_block x1) trivial).trans y2
  have X3 := fun W (q : Kept (fun _ => True) wb W) => (kept_cell q (lt_of_block x1) trivial).trans y3
  have U0 := fun W (q : Kept (fun _ => True) wb W) => (kept_cell q (lt_of_block x2) trivial).trans z0
  have U1 := fun W (q : Kept (fun _ => True) wb W) => (kept_cell q (lt_of_block x2) trivial).trans z1
  have U2 := fun W (q : Kept (fun _ => True) wb W) => (kept_cell q (lt_of_block x2) trivial).trans z2
  have U3 := fun W (q : Kept (fun _ => True) wb W) => (kept_cell q (lt_of_block x2) trivial).trans z3
  have C0 := fun W (q : Kept (fun _ => True) wb W) => (kept_cell q hb2 trivial).trans c0
  have Q1 := fun W (q : Kept (fun _ => True) wb W) => (kept_cell q hb trivial).trans q1
  have kd : Kept (fun _ => True) wb wb.drew := (Kept.refl _ _).drew
  clear y0 y1 y2 y3 z0 z1 z2 z3 q0 q1 c0 x1 x2 hb hb2
  cases d
  · go_region_held3 (fun W => Kept (fun _ => True) wb W) (assumption) (first
      | (go_at_call 236; refine Calls.mono (HH.out _ (K0.out.trans (by assumption))) ?_; rintro e v5 ⟨rfl, m5⟩; have p5 : Kept (fun _ => True) wb v5 := Kept.trans (by assumption) m5; clear m5))
    all_goals
      go_wp2_with fail
      go_ret
      exact ⟨rfl, K0.out.trans (by assumption)⟩
  · have z2 := U2 wb (Kept.refl _ _)
    have c0 := C0 wb (Kept.refl _ _)
    clear X0 X1 X2 X3 U0 U1 U2 U3 C0 Q1 kd HH
    go_quiet (fail)
    go_wp2_with fail
    go_ret
    exact ⟨rfl, K0.out.drewN _⟩

end Go.Proofs.YtenejaghgehnoaaGreatDoor

namespace Go.Proofs.YtenejaghgehnoaaGreatDoor
open Go.RowKit

def isF : Option Value → Bool
  | some (.bool false) => true
  | _ => false
/-- How many of a row of truths are false. -/
def falses (w : World) : Value → Nat
  | .slice (some a) n _ => (List.range n).countP (fun i => isF (w.cell? ⟨a.block, i, none⟩))
  | _ => 0
def flag : Value → Nat
  | .bool true => 1
  | _ => 0
theorem count_isF : ∀ xs : List Bool, (List.range xs.length).countP (fun i => isF ((bv xs)[i]?)) = xs.count false
  | [] => rfl
  | b :: l => by
    have ih := count_isF l
    rw [List.length_cons, List.range_succ_eq_map, List.countP_cons, List.countP_map, List.count_cons]
    have e : ((fun i => isF ((bv (b :: l))[i]?)) ∘ Nat.succ) = fun i => isF ((bv l)[i]?) := by
      funext i
      simp [bv]
    rw [e, ih]
    cases b <;> simp [bv, isF]
theorem falses_own {w : World} {base n : Nat} {v : Value} {xs : List Bool} (h : w.ownsRow base 4 1 v n (bv xs)) (hn : n = xs.length) : falses w v = xs.count false := by
  subst hn
  rcases h.2 with ⟨rfl, h0⟩ | ⟨g, cap, cur, rfl, _⟩
  · obtain rfl := List.eq_nil_of_length_eq_zero h0
    rfl
  · rw [← count_isF xs]
    show (List.range xs.length).countP _ = _
    refine List.countP_congr fun i hi => ?_
    rw [h.cellAt i (by have := List.mem_range.1 hi; omega)]

/-- Rounds: what is settled is told by where one stands. -/
theorem round_again {t : Ty} {s s' : Sa} {b : Bool} (h : rnd t 0 t.marks s = (s', b)) : Grows s s' ∧ (b = true → settled t s' = settled t s ∧ wanting s' < wanting s) ∧ (b = false → s' = s ∧ settled t s = s) := by
  obtain ⟨h1, h2, h3, h4⟩ := rnd_facts t t.marks 0 s
  have e1 : (rnd t 0 t.marks s).1 = s' := by rw [h]
  have e2 : (rnd t 0 t.marks s).2 = b := by rw [h]
  rw [e1] at h1 h2 h3 h4
  rw [e2] at h2 h4
  refine ⟨h1, fun hb => ⟨?_, h4 hb⟩, fun hb => ⟨h2 hb, settled_stop (e2.trans hb)⟩⟩
  rw [settled_again (e2.trans hb), e1]
/-- One mark of a round: from where one stands. -/
theorem round_step {t : Ty} {s0 s : Sa} {i : Nat} {b d : Bool} (h : rnd t 0 t.marks s0 = ((rnd t i (t.marks.drop i) s).1, b || (rnd t i (t.marks.drop i) s).2)) (hi : i < t.marks.length) (hg : i < s.got.length) (hd : s.got[i] = d) :
    (d = true → rnd t 0 t.marks s0 = ((rnd t (i + 1) (t.marks.drop (i + 1)) s).1, b || (rnd t (i + 1) (t.marks.drop (i + 1)) s).2)) ∧
    (d = false → hld t s (t.marks[i]).guard = false → rnd t 0 t.marks s0 = ((rnd t (i + 1) (t.marks.drop (i + 1)) s).1, b || (rnd t (i + 1) (t.marks.drop (i + 1)) s).2)) ∧
    (d = false → hld t s (t.marks[i]).guard = true → rnd t 0 t.marks s0 = ((rnd t (i + 1) (t.marks.drop (i + 1)) (s.mark i)).1, true || (rnd t (i + 1) (t.marks.drop (i + 1)) (s.mark i)).2)) := by
  have e : s.got[i]? = some d := by rw [List.getElem?_eq_getElem hg, hd]
  have hs := rnd_step (s := s) hi
  rw [e] at hs
  refine ⟨fun h1 => ?_, fun h1 h2 => ?_, fun h1 h2 => ?_⟩
  · rw [if_neg (by rw [h1]; simp)] at hs
    rw [h, hs]
  · rw [if_neg (by rw [h2]; simp)] at hs
    rw [h, hs]
  · rw [if_pos ⟨by rw [h1], h2⟩] at hs
    rw [h, hs]
    simp

/-- A state whose marks are being got: in memory. -/
structure Ge (base : Nat) (w1 w : World) (va vd vg : Value) (s0 s : Sa) : Prop where
  so : So w base va vd vg s
  grows : Grows s0 s
  kept : Kept (fun k => vg.ownBlock ≠ some k) w1 w
theorem Ge.all {base : Nat} {w1 w w' : World} {va vd vg : Value} {s0 s : Sa} (h : Ge base w1 w va vd vg s0 s) (k : Kept (fun _ => True) w w') : Ge base w1 w' va vd vg s0 s :=
  ⟨h.so.all k, h.grows, h.kept.trans (k.mono fun _ _ _ => trivial)⟩
theorem Ge.mark {base g n cap : Nat} {w1 w : World} {va vd : Value} {s0 s : Sa} (h : Ge base w1 w va vd (.slice (some ⟨g, 0, none⟩) n cap) s0 s) (hn : n = s.got.length) (i : Nat) : Ge base w1 (w.setCell ⟨g, i, none⟩ (.bool true)) va vd (.slice (some ⟨g, 0, none⟩) n cap) s0 (s.mark i) :=
  ⟨(h.so.setGot hn i true).1, h.grows.trans (Grows.mark s i), h.kept.setCell (by simp [Value.ownBlock]) _⟩
/-- What does not lie in the row of marks stays. -/
theorem Ge.block {base : Nat} {w1 w : World} {va vd vg : Value} {s0 s : Sa} (h : Ge base w1 w va vd vg s0 s) {B : Nat} {o : Obj} (hB : w1.heap[B]? = some o) (hne : vg.ownBlock ≠ some B) : w.heap[B]? = some o := (h.kept.block B (lt_of_block hB) hne).trans hB

theorem So.lowG {w w' : World} {base : Nat} {va vd vg : Value} {s : Sa} (h : So w base va vd vg s) (k : Kept (fun k => vg.ownBlock ≠ some k) w w') : Kept (· < base) w w' :=
  k.mono fun i _ hi e => by have := (h.got.lt i e).1; omega
set_option maxRecDepth 100000 in
set_option maxHeartbeats 8000000 in
theorem settle_any {w0 w : World} {tv va vd vg : Value} {t : Ty} {s : Sa} (ht : TyV w0 tv t) (k0 : Kept (· < w0.heap.size) w0 w) (h : So w w0.heap.size va vd vg s) (g : Good t) (f : Sized t s) :
    Calls Tryz.prog 215 #[tv, .agg #[.string ⟨s.type.toArray⟩, va, vd, vg]] w fun e w' => e = .returned (.tuple #[]) ∧ So w' w0.heap.size va vd vg (settled t s) ∧ Kept (fun k => vg.ownBlock ≠ some k) w w' := by
  have HTy : Hid (TyV w0 tv t) := ht
  obtain ⟨ta, ts, tm, rfl, ha, hss, hkk⟩ := ht
  obtain ⟨ao, ac, rfl, la⟩ := ha.form
  obtain ⟨so, sc, rfl, ls⟩ := hss.form
  obtain ⟨mo, mc, rfl, lm⟩ := hkk.form
  obtain ⟨vo, vc, rfl⟩ := own_shape_any h.vals
  obtain ⟨eo, ec, rfl⟩ := own_shape_any h.done
  obtain ⟨go, gc, rfl⟩ := own_shape_any h.got
  obtain ⟨N0, hN0⟩ : ∃ N0, N0 = w0.heap.size := ⟨_, rfl⟩
  rw [← hN0] at h k0 ⊢
  obtain ⟨x1, x2⟩ := alloc_two w (.cells #[.string ⟨t.name.toArray⟩, .slice ao t.attrs.length ac, .slice so t.stages.length sc, .slice mo t.marks.length mc] 54) (.cells #[.string ⟨s.type.toArray⟩, .slice vo s.vals.length vc, .slice eo s.done.length ec, .slice go s.got.length gc] 70)
  have hk1 : Kept (fun _ => True) w ((w.alloc (.cells #[.string ⟨t.name.toArray⟩, .slice ao t.attrs.length ac, .slice so t.stages.length sc, .slice mo t.marks.length mc] 54)).alloc (.cells #[.string ⟨s.type.toArray⟩, .slice vo s.vals.length vc, .slice eo s.done.length ec, .slice go s.got.length gc] 70)) := ((Kept.refl _ _).alloc _).alloc _
  have hlow : ∀ k, (Value.slice go s.got.length gc).ownBlock = some k → N0 ≤ k ∧ k < w.heap.size := h.got.lt
  have hge0 : Ge N0 _ _ (.slice vo s.vals.length vc) (.slice eo s.done.length ec) (.slice go s.got.length gc) s s := ⟨h.all hk1, Grows.refl s, Kept.refl _ _⟩
  obtain ⟨B, hB⟩ : ∃ B, B = w.heap.size := ⟨_, rfl⟩
  have hb1 : (Value.slice go s.got.length gc).ownBlock ≠ some B := fun e => by have := (hlow B e).2; omega
  have hb2 : (Value.slice go s.got.length gc).ownBlock ≠ some (B + 1) := fun e => by have := (hlow (B + 1) e).2; omega
  rw [← hB] at x1 x2
  have hm := g.nm
  have hml : s.got.length = t.marks.length := f.got
  have HFew : Hid (∀ s', Grows s s' → Few s') := fun s' hg => by
    have := g.na; have := g.ns; have := f.vals; have := f.done
    exact ⟨by rw [hg.vals]; omega, by rw [hg.done]; omega, by rw [hg.got]; omega⟩
  have HGd : Hid (Good t) := g
  have HB0 : Hid (B = w.heap.size) := hB
  have HTW : Hid (∀ W s', Ge N0 ((w.alloc (.cells #[.string ⟨t.name.toArray⟩, .slice ao t.attrs.length ac, .slice so t.stages.length sc, .slice mo t.marks.length mc] 54)).alloc (.cells #[.string ⟨s.type.toArray⟩, .slice vo s.vals.length vc, .slice eo s.done.length ec, .slice go s.got.length gc] 70)) W (.slice vo s.vals.length vc) (.slice eo s.done.length ec) (.slice go s.got.length gc) s s' → TyV W (.agg #[.string ⟨t.name.toArray⟩, .slice ao t.attrs.length ac, .slice so t.stages.length sc, .slice mo t.marks.length mc]) t) := fun W s' hg => by
    refine HTy.out.low ?_
    rw [← hN0]
    exact (k0.trans (hk1.mono fun _ _ _ => trivial)).trans (hg.kept.mono fun i _ hi e => by have := (hlow i e).1; omega)
  have HEnd : Hid (∀ W s', Ge N0 ((w.alloc (.cells #[.string ⟨t.name.toArray⟩, .slice ao t.attrs.length ac, .slice so t.stages.length sc, .slice mo t.marks.length mc] 54)).alloc (.cells #[.string ⟨s.type.toArray⟩, .slice vo s.vals.length vc, .slice eo s.done.length ec, .slice go s.got.length gc] 70)) W (.slice vo s.vals.length vc) (.slice eo s.done.length ec) (.slice go s.got.length gc) s s' → Kept (fun k => (Value.slice go s.got.length gc).ownBlock ≠ some k) w W) := fun W s' hg =>
    (hk1.mono fun _ _ _ => trivial).trans hg.kept
  have HML : Hid (s.got.length = t.marks.length) := hml
  obtain ⟨R, hR⟩ : ∃ R, R = settled t s := ⟨_, rfl⟩
  have HR : Hid (settled t s = R) := hR.symm
  rw [← hR]
  clear hR
  clear ha hss hkk k0 h hk1 g f hN0 HTy hB hml
  go_enter Tryz.func215, Tryz.ntmps215
  go_upto_region 1 with fail
  rw [← HB0.out]
  generalize (w.alloc (.cells #[.string ⟨t.name.toArray⟩, .slice ao t.attrs.length ac, .slice so t.stages.length sc, .slice mo t.marks.length mc] 54)).alloc (.cells #[.string ⟨s.type.toArray⟩, .slice vo s.vals.length vc, .slice eo s.done.length ec, .slice go s.got.length gc] 70) = w1 at *
  have HG0 : Hid (Ge N0 w1 w1 (.slice vo s.vals.length vc) (.slice eo s.done.length ec) (.slice go s.got.length gc) s s) := hge0
  have X1 : Hid (w1.heap[B]? = some (.cells #[.string ⟨t.name.toArray⟩, .slice ao t.attrs.length ac, .slice so t.stages.length sc, .slice mo t.marks.length mc] 54 (0, 0))) := x1
  have X2 : Hid (w1.heap[B + 1]? = some (.cells #[.string ⟨s.type.toArray⟩, .slice vo s.vals.length vc, .slice eo s.done.length ec, .slice go s.got.length gc] 70 (0, 0))) := x2
  have N1 : Hid _ := hb1
  have N2 : Hid _ := hb2
  clear hge0 x1 x2 hb1 hb2 hlow HB0
  go_wp2_with fail
  go_loopw [4, 5, 6, 11] (fun t4 _ _ _ wr => ∃ (b : Bool) (s' : Sa), t4 = .bool b ∧ Ge N0 w1 wr (.slice vo s.vals.length vc) (.slice eo s.done.length ec) (.slice go s.got.length gc) s s' ∧ (b = true → settled t s' = R) ∧ (b = false → s' = R)) (fun t4 _ _ _ wr => 2 * falses wr (.slice go s.got.length gc) + flag t4)
  case atStart => exact ⟨true, s, rfl, HG0.out, fun _ => HR.out, fun h => (by cases h)⟩
  case round =>
  obtain ⟨b, s0, rfl, hge, hb1, hb2⟩ := hrel
  have HGe : Hid (Ge N0 w1 wr (.slice vo s.vals.length vc) (.slice eo s.done.length ec) (.slice go s.got.length gc) s s0) := hge
  cases b with
  | false =>
    have HE : Hid (s0 = R) := hb2 rfl
    clear hge hb1 hb2
    go_wp2_with fail
    go_end0
    refine ⟨rfl, ?_, HEnd.out _ _ HGe.out⟩
    rw [← HE.out]
    exact HGe.out.so
  | true =>
    have HE : Hid (settled t s0 = R) := hb1 rfl
    have HF0 : Hid (falses wr (.slice go s.got.length gc) = wanting s0) := falses_own hge.so.got (by rw [hge.grows.got])
    have hB1 := hge.block X1.out N1.out
    obtain ⟨⟨y0, y1, y2, y3⟩, _⟩ := four_cell hB1
    clear hge hb1 hb2 hB1
    go_wp2_with fail
    clear y0 y1 y2 y3
    go_loopw [4, 5, 6, 11] (fun t4 _ _ ti wq => ∃ (b : Bool) (i : Nat) (s' : Sa), i ≤ t.marks.length ∧ ti = .int .i64 i ∧ t4 = .bool b ∧ Ge N0 w1 wq (.slice vo s.vals.length vc) (.slice eo s.done.length ec) (.slice go s.got.length gc) s s' ∧ rnd t 0 t.marks s0 = ((rnd t i (t.marks.drop i) s').1, b || (rnd t i (t.marks.drop i) s').2)) (fun _ _ _ ti _ => t.marks.length - (intOf ti).toNat)
    case atStart => exact ⟨false, 0, s0, Nat.zero_le _, rfl, rfl, HGe.out, by simp⟩
    case round =>
    obtain ⟨b, i, s', hi, rfl, rfl, hge, hrn⟩ := hrel
    have HRn : Hid (rnd t 0 t.marks s0 = ((rnd t i (t.marks.drop i) s').1, b || (rnd t i (t.marks.drop i) s').2)) := hrn
    have HGe2 : Hid (Ge N0 w1 wr (.slice vo s.vals.length vc) (.slice eo s.done.length ec) (.slice go s.got.length gc) s s') := hge
    clear hrn
    by_cases hlt : i < t.marks.length
    · have hgl : s'.got.length = s.got.length := hge.grows.got
      have hgi : i < s'.got.length := by rw [hgl, HML.out]; exact hlt
      have hgi2 : i < s.got.length := by rw [HML.out]; exact hlt
      have hT := HTW.out wr s' hge
      obtain ⟨_, _, tm, e4, _, _, hM⟩ := hT
      cases e4
      obtain ⟨b2, off, rfl, hb, q0, q1⟩ := hM.at i hlt
      have hso := hge.so.got
      rw [hgl] at hso
      obtain ⟨g, rfl⟩ : ∃ g, go = some ⟨g, 0, none⟩ := by
        obtain ⟨ao', cap', e, _, _, h0⟩ := own_form hso
        cases e
        exact h0 (by omega)
      have c0 := hso.cellAt i (by omega)
      rw [show (bv s'.got)[i]? = some (.bool s'.got[i]) by simp [bv, hgi]] at c0
      have f0 := hso.frozenAt i
      have hgb : g < wr.heap.size := (hso.lt g rfl).2
      have hB2 := hge.block X2.out N2.out
      have hB1 := hge.block X1.out N1.out
      obtain ⟨hr1, hr2, hr3⟩ := round_step HRn.out hlt hgi rfl
      have R1 : Hid _ := hr1
      have R2 : Hid _ := hr2
      have R3 : Hid _ := hr3
      have i1 : (i : Int) < (t.marks.length : Int) := by omega
      have i2 : (i : Int) < (s.got.length : Int) := by omega
      have i0 : (0 : Int) ≤ (i : Int) := by omega
      have HGL : Hid ((t.marks[i]).guard.length ≤ 281474976710656) := by
        have := HGd.out.guards _ (List.mem_append.2 (.inr (List.getElem_mem hlt)))
        show _ ≤ _
        omega
      have ka : Kept (fun _ => True) wr (wr.alloc (.cells #[.string ⟨(t.marks[i]).name.toArray⟩, .string ⟨(t.marks[i]).guard.toArray⟩] 90)) := (Kept.refl _ _).alloc _
      have hge3 := hge.all ka
      have c1 := (kept_cell ka hgb (o := i) trivial).trans c0
      have hB3 := hge3.block X2.out N2.out
      have hB4 := hge3.block X1.out N1.out
      have hV3 : StV (wr.alloc (.cells #[.string ⟨(t.marks[i]).name.toArray⟩, .string ⟨(t.marks[i]).guard.toArray⟩] 90)) (.agg #[.string ⟨s.type.toArray⟩, .slice vo s.vals.length vc, .slice eo s.done.length ec, .slice (some ⟨g, 0, none⟩) s.got.length gc]) s' := by
        obtain ⟨p1, p2, p3⟩ := hge3.so.view (HFew.out _ hge.grows)
        exact ⟨_, _, _, by rw [hge.grows.type], p1, p2, p3⟩
      have ch := holds_any (HTW.out _ s' hge3) hV3 (HFew.out _ hge.grows) (by have := HGd.out.few; omega) HGL.out
      have HG3 : Hid _ := hge3
      have hGx := heap_alloc_new wr (.cells #[.string ⟨(t.marks[i]).name.toArray⟩, .string ⟨(t.marks[i]).guard.toArray⟩] 90)
      clear hge hM hr1 hr2 hr3 hge3 hV3 ka hso hgb hB1 hB2 hb c0
      generalize s'.got[i] = d at *
      generalize t.marks[i] = r at *
      obtain ⟨⟨y0, y1, y2, y3⟩, _⟩ := four_cell hB4
      obtain ⟨⟨z0, z1, z2, z3⟩, _⟩ := four_cell hB3
      clear hB3 hB4
      cases d with
      | true =>
        have HRN : Hid _ := R1.out (by simp)
        clear ch
        go_wp2_with fail
        go_roundw
        case rel => exact ⟨b, i + 1, s', by omega, by go_num, rfl, HG3.out, HRN.out⟩
        case measure => simp [intOf]; omega
      | false =>
        go_upto_region 7 with fail
        generalize wr.alloc (.cells #[.string ⟨r.name.toArray⟩, .string ⟨r.guard.toArray⟩] 90) = w3 at *
        generalize wr.heap.size = G at *
        obtain ⟨g0, g1⟩ := pair_cell hGx
        go_wp2_with fail
        refine Calls.mono ch ?_
        rintro e w4 ⟨rfl, k4⟩
        have hge4 := HG3.out.all k4
        have hB4 := hge4.block X2.out N2.out
        have HG4 : Hid _ := hge4
        have hso4 := hge4.so.got
        rw [hgl] at hso4
        have f4 := hso4.frozenAt i
        have c4 := hso4.cellAt i (by omega)
        rw [show (bv s'.got)[i]? = some (.bool s'.got[i]) by simp [bv, hgi]] at c4
        clear ch y0 y1 y2 y3 z0 z1 z2 z3 hge4 c1 f0 k4 g0 g1 hGx hso4
        obtain ⟨⟨z0, z1, z2, z3⟩, _⟩ := four_cell hB4
        generalize hq : hld t s' r.guard = q at *
        cases q with
        | false =>
          have HRN : Hid _ := R2.out (by simp) (by simp)
          clear hB4
          go_wp2_with fail
          go_roundw
          case rel => exact ⟨b, i + 1, s', by omega, by go_num, rfl, HG4.out, HRN.out⟩
          case measure => simp [intOf]; omega
        | true =>
          have HRN : Hid _ := R3.out (by simp) (by simp)
          have HG5 : Hid _ := HG4.out.mark hgl.symm i
          clear hB4
          generalize s'.got[i] = d2 at *
          go_wp2_with fail
          go_roundw
          case rel => exact ⟨true, i + 1, s'.mark i, by omega, by go_num, rfl, HG5.out, HRN.out⟩
          case measure => simp [intOf]; omega
    · have i1 : ¬ (i : Int) < (t.marks.length : Int) := by omega
      have hov := HRn.out
      rw [rnd_over (by omega)] at hov
      simp only [Bool.or_false] at hov
      obtain ⟨h1, h2, h3⟩ := round_again hov
      have HH : Hid _ := h2
      have HH3 : Hid _ := h3
      have HF1 : Hid (falses wr (.slice go s.got.length gc) = wanting s') := falses_own hge.so.got (by rw [hge.grows.got])
      clear hov h1 h2 h3 hge
      go_wp2_with fail
      go_roundw
      case rel =>
        refine ⟨b, s', rfl, HGe2.out, fun hb => ?_, fun hb => ?_⟩
        · exact (HH.out hb).1.trans HE.out
        · obtain ⟨q1, q2⟩ := HH3.out hb
          rw [q1, ← q2]
          exact HE.out
      case measure =>
        rw [HF1.out, HF0.out]
        cases b with
        | true => have := (HH.out rfl).2; simp only [flag]; omega
        | false => have := (HH3.out rfl).1; rw [this]; simp only [flag]; omega

end Go.Proofs.YtenejaghgehnoaaGreatDoor

namespace Go.Proofs.YtenejaghgehnoaaGreatDoor
open Go.RowKit

theorem wrap_ok {x : Int} (h1 : -9223372036854775808 ≤ x) (h2 : x ≤ 9223372036854775807) : IntKind.i64.wrap x = x := by
  simp [IntKind.wrap, IntKind.bits, IntKind.signed]
  omega
theorem alloc_three (w : World) (a b c : Obj) : (((w.alloc a).alloc b).alloc c).heap[w.heap.size]? = some a ∧ (((w.alloc a).alloc b).alloc c).heap[w.heap.size + 1]? = some b ∧ (((w.alloc a).alloc b).alloc c).heap[w.heap.size + 1 + 1]? = some c := by
  have e2 : ((w.alloc a).alloc b).heap.size = w.heap.size + 1 + 1 := by simp
  obtain ⟨h1, h2⟩ := alloc_two w a b
  refine ⟨?_, ?_, ?_⟩
  · rw [heap_alloc_old _ _ (by omega)]; exact h1
  · rw [heap_alloc_old _ _ (by omega)]; exact h2
  · rw [← e2]; exact heap_alloc_new _ c
/-- An operation's value. -/
def opV (o : Oq) : Value := .agg #[.int .i64 o.kind, .string ⟨o.cas.toArray⟩, .string ⟨o.name.toArray⟩, .int .i64 o.n]
/-- The same row of a state, whatever its lists' blocks. -/
theorem So.shapes {w : World} {base : Nat} {va vd vg : Value} {s : Sa} (h : So w base va vd vg s) : ∃ vo vc eo ec go gc, va = .slice vo s.vals.length vc ∧ vd = .slice eo s.done.length ec ∧ vg = .slice go s.got.length gc := by
  obtain ⟨vo, vc, e1⟩ := own_shape_any h.vals
  obtain ⟨eo, ec, e2⟩ := own_shape_any h.done
  obtain ⟨go, gc, e3⟩ := own_shape_any h.got
  exact ⟨vo, vc, eo, ec, go, gc, e1, e2, e3⟩

theorem So.lowK {w w' : World} {base : Nat} {va vd vg : Value} {s : Sa} (h : So w base va vd vg s) (k : Kept (fun k => va.ownBlock ≠ some k) w w') : Kept (· < base) w w' :=
  k.mono fun i _ hi e => by have := (h.vals.lt i e).1; omega
set_option maxRecDepth 100000 in
set_option maxHeartbeats 8000000 in
theorem put_any {w0 w : World} {tv va vd vg : Value} {t : Ty} {s : Sa} (ht : TyV w0 tv t) (k0 : Kept (· < w0.heap.size) w0 w) (h : So w w0.heap.size va vd vg s) (f : Sized t s) (k : Nat) (hk : k < t.attrs.length) (n : Int) :
    Calls Tryz.prog 231 #[tv, .agg #[.string ⟨s.type.toArray⟩, va, vd, vg], .int .i64 (k : Nat), .int .i64 n] w fun e w' => e = .returned (.int .i64 ((putP t s k n).2 : Nat)) ∧ So w' w0.heap.size va vd vg (putP t s k n).1 ∧ Kept (fun k => va.ownBlock ≠ some k) w w' := by
  have hT := ht.low k0
  obtain ⟨ta, ts, tm, rfl, ha, hss, hkk⟩ := hT
  obtain ⟨ao, ac, rfl, la⟩ := ha.form
  obtain ⟨so, sc, rfl, ls⟩ := hss.form
  obtain ⟨mo, mc, rfl, lm⟩ := hkk.form
  obtain ⟨vo, vc, eo, ec, go, gc, rfl, rfl, rfl⟩ := h.shapes
  obtain ⟨N0, hN0⟩ : ∃ N0, N0 = w0.heap.size := ⟨_, rfl⟩
  rw [← hN0] at h k0 ⊢
  have hv : k < s.vals.length := by rw [f.vals]; exact hk
  obtain ⟨g, rfl⟩ : ∃ g, vo = some ⟨g, 0, none⟩ := by
    obtain ⟨ao', cap', e, _, _, h0⟩ := own_form h.vals
    cases e
    exact h0 (by omega)
  obtain ⟨x1, x2⟩ := alloc_two w (.cells #[.string ⟨t.name.toArray⟩, .slice ao t.attrs.length ac, .slice so t.stages.length sc, .slice mo t.marks.length mc] 54) (.cells #[.string ⟨s.type.toArray⟩, .slice (some ⟨g, 0, none⟩) s.vals.length vc, .slice eo s.done.length ec, .slice go s.got.length gc] 70)
  have hk1 : Kept (fun _ => True) w ((w.alloc (.cells #[.string ⟨t.name.toArray⟩, .slice ao t.attrs.length ac, .slice so t.stages.length sc, .slice mo t.marks.length mc] 54)).alloc (.cells #[.string ⟨s.type.toArray⟩, .slice (some ⟨g, 0, none⟩) s.vals.length vc, .slice eo s.done.length ec, .slice go s.got.length gc] 70)) := ((Kept.refl _ _).alloc _).alloc _
  have hgw : g < w.heap.size := (h.vals.lt g rfl).2
  obtain ⟨b, off, rfl, hb, q0, q1, q2, q3⟩ := (ha.all hk1).at k hk
  have i1 : (k : Int) < (t.attrs.length : Int) := by omega
  have i2 : (k : Int) < (s.vals.length : Int) := by omega
  have i0 : (0 : Int) ≤ (k : Int) := by omega
  have cw := fun W => within_any (w := W) t.attrs[k] n
  have HP : Hid (putP t s k n = if wthn t.attrs[k] n = true then ({ s with vals := s.vals.set k n }, 0) else (s, 34)) := by
    show _ = _
    simp [putP, List.getD_eq_getElem?_getD, hk]
  have HSo : Hid (So w N0 (.slice (some ⟨g, 0, none⟩) s.vals.length vc) (.slice eo s.done.length ec) (.slice go s.got.length gc) s) := h
  have K1 : Hid _ := hk1
  have HK : Hid (Kept (· < N0) w w) := Kept.refl _ _
  obtain ⟨⟨y0, y1, y2, y3⟩, _⟩ := four_cell x1
  have X2 : Hid _ := x2
  have HGW : Hid (g < w.heap.size) := hgw
  rw [HP.out]
  clear ha hss hkk k0 h f hN0 hk1 x1 x2 ht HP hb hgw
  generalize t.attrs[k] = x at *
  generalize wthn x n = wq at *
  go_enter Tryz.func231, Tryz.ntmps231
  go_wp2_with fail
  refine Calls.mono (cw _) ?_
  rintro e w2 ⟨rfl, k2⟩
  have k3 : Kept (fun _ => True) w w2 := K1.out.trans k2
  cases wq with
  | false =>
    have HS2 : Hid _ := HSo.out.all k3
    clear cw k2
    go_wp2_with fail
    go_ret
    exact ⟨rfl, HS2.out, k3.mono fun _ _ _ => trivial⟩
  | true =>
    have hS2 := HSo.out.all k3
    have hX := (k2.block _ (lt_of_block X2.out) trivial).trans X2.out
    obtain ⟨⟨z0, z1, z2, z3⟩, _⟩ := four_cell hX
    have hc := hS2.vals.cellAt k (by omega)
    rw [show (iv s.vals)[k]? = some (.int .i64 s.vals[k]) by simp [iv, hv]] at hc
    have hfz := hS2.vals.frozenAt k
    have HS3 : Hid _ := hS2.setVal rfl k n
    have K3 : Hid (Kept (fun k => (Value.slice (some ⟨g, 0, none⟩) s.vals.length vc).ownBlock ≠ some k) w w2) := k3.mono fun _ _ _ => trivial
    clear cw k2 k3 hS2 hX y0 y1 y2 y3 X2 K1 HK HSo
    generalize s.vals[k] = old at *
    generalize w.heap.size = B at *
    go_wp2_with fail
    go_ret
    exact ⟨rfl, HS3.out.1, K3.out.setCell (by simp [Value.ownBlock]) _⟩

set_option maxRecDepth 100000 in
set_option maxHeartbeats 8000000 in
theorem set_any {w0 w : World} {tv va vd vg : Value} {t : Ty} {s : Sa} (ht : TyV w0 tv t) (k0 : Kept (· < w0.heap.size) w0 w) (h : So w w0.heap.size va vd vg s) (g : Good t) (f : Sized t s) (o : Oq) :
    Calls Tryz.prog 211 #[tv, .agg #[.string ⟨s.type.toArray⟩, va, vd, vg], opV o] w fun e w' => e = .returned (.int .i64 ((setP t s o).2 : Nat)) ∧ So w' w0.heap.size va vd vg (setP t s o).1 ∧ Kept (· < w0.heap.size) w w' := by
  have HTy : Hid (TyV w0 tv t) := ht
  obtain ⟨tx0, tn, tc, so, sn, sc, mo, mn, mc, rfl⟩ := ht.parts
  obtain ⟨vo, vc, eo, ec, go, gc, rfl, rfl, rfl⟩ := h.shapes
  obtain ⟨x1, x2, x3⟩ := alloc_three w (.cells #[.string ⟨t.name.toArray⟩, .slice tx0 tn tc, .slice so sn sc, .slice mo mn mc] 54) (.cells #[.string ⟨s.type.toArray⟩, .slice vo s.vals.length vc, .slice eo s.done.length ec, .slice go s.got.length gc] 70) (.cells #[.int .i64 o.kind, .string ⟨o.cas.toArray⟩, .string ⟨o.name.toArray⟩, .int .i64 o.n] 61)
  have hk1 : Kept (fun _ => True) w (((w.alloc (.cells #[.string ⟨t.name.toArray⟩, .slice tx0 tn tc, .slice so sn sc, .slice mo mn mc] 54)).alloc (.cells #[.string ⟨s.type.toArray⟩, .slice vo s.vals.length vc, .slice eo s.done.length ec, .slice go s.got.length gc] 70)).alloc (.cells #[.int .i64 o.kind, .string ⟨o.cas.toArray⟩, .string ⟨o.name.toArray⟩, .int .i64 o.n] 61)) := (((Kept.refl _ _).alloc _).alloc _).alloc _
  have ca := attrOf_any ((ht.low k0).all hk1) g o.name
  obtain ⟨⟨y0, y1, y2, y3⟩, _⟩ := four_cell x1
  obtain ⟨⟨o0, o1, o2, o3⟩, _⟩ := four_cell x3
  have X1 : Hid _ := x1
  have X2 : Hid _ := x2
  have X3 : Hid _ := x3
  have HSo : Hid (So w w0.heap.size (.slice vo s.vals.length vc) (.slice eo s.done.length ec) (.slice go s.got.length gc) s) := h
  have K0 : Hid (Kept (· < w0.heap.size) w0 w) := k0
  have K1 : Hid _ := hk1
  have HF : Hid (Sized t s) := f
  obtain ⟨sp, hsp⟩ : ∃ sp, sp = spot (t.attrs.map At.name) o.name := ⟨_, rfl⟩
  have HSp : Hid (spot (t.attrs.map At.name) o.name = sp) := hsp.symm
  rw [← hsp] at ca
  obtain ⟨RS, hRS⟩ : ∃ RS, RS = setP t s o := ⟨_, rfl⟩
  have HRS : Hid (RS = setK t s o sp) := by show _ = _; rw [hRS, setP, HSp.out]
  rw [← hRS]
  unfold opV
  clear x1 x2 x3 h k0 hk1 g f hsp hRS
  go_enter Tryz.func211, Tryz.ntmps211
  go_wp2_with fail
  refine Calls.mono ca ?_
  rintro e w2 ⟨rfl, k2⟩
  have k3 : Kept (fun _ => True) w w2 := K1.out.trans k2
  have hB1 := (k2.block _ (lt_of_block X1.out) trivial).trans X1.out
  have hB2 := (k2.block _ (lt_of_block X2.out) trivial).trans X2.out
  have hB3 := (k2.block _ (lt_of_block X3.out) trivial).trans X3.out
  clear ca k2 X1 X2 X3 K1 y0 y1 y2 y3 o0 o1 o2 o3
  cases sp with
  | none =>
    simp only [spotN]
    have HS2 : Hid _ := HSo.out.all k3
    have HQ : Hid (RS = (s, 31)) := HRS.out
    go_wp2_with fail
    go_ret
    exact ⟨by rw [HQ.out]; rfl, by rw [HQ.out]; exact HS2.out, k3.mono fun _ _ _ => trivial⟩
  | some k =>
    simp only [spotN]
    obtain ⟨hk', -⟩ := spot_some HSp.out
    have cp := put_any HTy.out (K0.out.trans (k3.mono fun _ _ _ => trivial)) (HSo.out.all k3) HF.out k (by simpa using hk') o.n
    have HLow : Hid (∀ W, Kept (fun k => (Value.slice vo s.vals.length vc).ownBlock ≠ some k) w2 W → Kept (· < w0.heap.size) w2 W) := fun W => (HSo.out.all k3).lowK
    have K3 : Hid (Kept (· < w0.heap.size) w w2) := k3.mono fun _ _ _ => trivial
    have i0 : ¬ (k : Int) < 0 := by omega
    obtain ⟨⟨y0, y1, y2, y3⟩, _⟩ := four_cell hB1
    obtain ⟨⟨z0, z1, z2, z3⟩, _⟩ := four_cell hB2
    obtain ⟨⟨o0, o1, o2, o3⟩, _⟩ := four_cell hB3
    clear hk' k3 hB1 hB2 hB3 HSo
    generalize w.heap.size = B at *
    have HQ : Hid (RS = putP t s k o.n) := HRS.out
    clear HRS
    generalize putP t s k o.n = pp at *
    go_wp2_with fail
    refine Calls.mono cp ?_
    rintro e w3 ⟨rfl, hs3, k4⟩
    have HS3 : Hid _ := hs3
    clear cp hs3
    go_wp2_with fail
    go_ret
    exact ⟨by rw [HQ.out]; rfl, by rw [HQ.out]; exact HS3.out, K3.out.trans (HLow.out _ k4)⟩

theorem sum_fits {a n : Int} (h1 : -1000 ≤ a) (h2 : a ≤ 1000) (h3 : ¬ n < -2000) (h4 : ¬ 2000 < n) : IntKind.i64.wrap (a + n) = a + n := wrap_ok (by omega) (by omega)

set_option maxRecDepth 100000 in
set_option maxHeartbeats 8000000 in
theorem add_any {w0 w : World} {tv va vd vg : Value} {t : Ty} {s : Sa} (ht : TyV w0 tv t) (k0 : Kept (· < w0.heap.size) w0 w) (h : So w w0.heap.size va vd vg s) (g : Good t) (f : Fit t s) (o : Oq) :
    Calls Tryz.prog 212 #[tv, .agg #[.string ⟨s.type.toArray⟩, va, vd, vg], opV o] w fun e w' => e = .returned (.int .i64 ((addP t s o).2 : Nat)) ∧ So w' w0.heap.size va vd vg (addP t s o).1 ∧ Kept (· < w0.heap.size) w w' := by
  have HTy : Hid (TyV w0 tv t) := ht
  obtain ⟨tx0, tn, tc, so, sn, sc, mo, mn, mc, rfl⟩ := ht.parts
  obtain ⟨vo, vc, eo, ec, go, gc, rfl, rfl, rfl⟩ := h.shapes
  obtain ⟨x1, x2, x3⟩ := alloc_three w (.cells #[.string ⟨t.name.toArray⟩, .slice tx0 tn tc, .slice so sn sc, .slice mo mn mc] 54) (.cells #[.string ⟨s.type.toArray⟩, .slice vo s.vals.length vc, .slice eo s.done.length ec, .slice go s.got.length gc] 70) (.cells #[.int .i64 o.kind, .string ⟨o.cas.toArray⟩, .string ⟨o.name.toArray⟩, .int .i64 o.n] 61)
  have hk1 : Kept (fun _ => True) w (((w.alloc (.cells #[.string ⟨t.name.toArray⟩, .slice tx0 tn tc, .slice so sn sc, .slice mo mn mc] 54)).alloc (.cells #[.string ⟨s.type.toArray⟩, .slice vo s.vals.length vc, .slice eo s.done.length ec, .slice go s.got.length gc] 70)).alloc (.cells #[.int .i64 o.kind, .string ⟨o.cas.toArray⟩, .string ⟨o.name.toArray⟩, .int .i64 o.n] 61)) := (((Kept.refl _ _).alloc _).alloc _).alloc _
  have ca := attrOf_any ((ht.low k0).all hk1) g o.name
  obtain ⟨⟨y0, y1, y2, y3⟩, _⟩ := four_cell x1
  obtain ⟨⟨o0, o1, o2, o3⟩, _⟩ := four_cell x3
  have X1 : Hid _ := x1
  have X2 : Hid _ := x2
  have X3 : Hid _ := x3
  have HSo : Hid (So w w0.heap.size (.slice vo s.vals.length vc) (.slice eo s.done.length ec) (.slice go s.got.length gc) s) := h
  have K0 : Hid (Kept (· < w0.heap.size) w0 w) := k0
  have K1 : Hid _ := hk1
  have HF : Hid (Fit t s) := f
  have HGd : Hid (Good t) := g
  obtain ⟨sp, hsp⟩ : ∃ sp, sp = spot (t.attrs.map At.name) o.name := ⟨_, rfl⟩
  have HSp : Hid (spot (t.attrs.map At.name) o.name = sp) := hsp.symm
  rw [← hsp] at ca
  obtain ⟨RS, hRS⟩ : ∃ RS, RS = addP t s o := ⟨_, rfl⟩
  have HRS : Hid (RS = addK t s o sp) := by show _ = _; rw [hRS, addP, HSp.out]
  rw [← hRS]
  unfold opV
  clear x1 x2 x3 h k0 hk1 g f hsp hRS
  go_enter Tryz.func212, Tryz.ntmps212
  go_wp2_with fail
  refine Calls.mono ca ?_
  rintro e w2 ⟨rfl, k2⟩
  have k3 : Kept (fun _ => True) w w2 := K1.out.trans k2
  have hB1 := (k2.block _ (lt_of_block X1.out) trivial).trans X1.out
  have hB2 := (k2.block _ (lt_of_block X2.out) trivial).trans X2.out
  have hB3 := (k2.block _ (lt_of_block X3.out) trivial).trans X3.out
  clear ca k2 X1 X2 X3 K1 y0 y1 y2 y3 o0 o1 o2 o3
  have K3 : Hid (Kept (· < w0.heap.size) w w2) := k3.mono fun _ _ _ => trivial
  cases sp with
  | none =>
    simp only [spotN]
    have HS2 : Hid _ := HSo.out.all k3
    have HQ : Hid (RS = (s, 31)) := HRS.out
    go_wp2_with fail
    go_ret
    exact ⟨by rw [HQ.out]; rfl, by rw [HQ.out]; exact HS2.out, K3.out⟩
  | some k =>
    simp only [spotN]
    obtain ⟨hk', -⟩ := spot_some HSp.out
    have hka : k < t.attrs.length := by simpa using hk'
    have i0 : ¬ (k : Int) < 0 := by omega
    obtain ⟨⟨o0, o1, o2, o3⟩, _⟩ := four_cell hB3
    by_cases hn1 : o.n < -2000
    · have HS2 : Hid _ := HSo.out.all k3
      have HQ : Hid (RS = (s, 34)) := HRS.out.trans (if_pos (.inl hn1))
      clear hB1 hB2 hB3 k3
      generalize w.heap.size = B at *
      go_wp2_with fail
      go_ret
      exact ⟨by rw [HQ.out]; rfl, by rw [HQ.out]; exact HS2.out, K3.out⟩
    by_cases hn2 : 2000 < o.n
    · have HS2 : Hid _ := HSo.out.all k3
      have HQ : Hid (RS = (s, 34)) := HRS.out.trans (if_pos (.inr hn2))
      clear hB1 hB2 hB3 k3
      generalize w.heap.size = B at *
      go_wp2_with fail
      go_ret
      exact ⟨by rw [HQ.out]; rfl, by rw [HQ.out]; exact HS2.out, K3.out⟩
    have hq : RS = putP t s k (s.vals.getD k 0 + o.n) := HRS.out.trans (if_neg (by omega))
    have hv : k < s.vals.length := by rw [HF.out.sz.vals]; exact hka
    have hS2 := HSo.out.all k3
    obtain ⟨g, rfl⟩ : ∃ g, vo = some ⟨g, 0, none⟩ := by
      obtain ⟨ao', cap', e, _, _, h0⟩ := own_form hS2.vals
      cases e
      exact h0 (by omega)
    have hc := hS2.vals.cellAt k (by omega)
    rw [show (iv s.vals)[k]? = some (.int .i64 s.vals[k]) by simp [iv, hv]] at hc
    have hgw := (hS2.vals.lt g rfl).2
    have hval : s.vals.getD k 0 = s.vals[k] := by simp [List.getD_eq_getElem?_getD, hv]
    rw [hval] at hq
    have HQ : Hid (RS = putP t s k (s.vals[k] + o.n)) := hq
    clear hq HRS
    have hbd : -1000 ≤ s.vals[k] ∧ s.vals[k] ≤ 1000 := by
      have h1 := HF.out.within k hka
      have h2 := HGd.out.ranges t.attrs[k] (List.getElem_mem hka)
      rw [hval] at h1
      simp only [List.getD_eq_getElem?_getD, hka, List.getElem?_eq_getElem, Option.getD_some, wthn, Bool.and_eq_true, decide_eq_true_eq] at h1
      omega
    have hwr := sum_fits hbd.1 hbd.2 hn1 hn2
    have hcp := put_any HTy.out (((K0.out.trans K3.out).trans (Kept.refl _ _)).drew) (hS2.all (Kept.refl _ _).drew) HF.out.sz k hka (s.vals[k] + o.n)
    have HLow : Hid (∀ W, Kept (fun k => (Value.slice (some ⟨g, 0, none⟩) s.vals.length vc).ownBlock ≠ some k) w2.drew W → Kept (· < w0.heap.size) w2 W) := fun W q => (Kept.refl _ _).drew.trans ((hS2.all (Kept.refl _ _).drew).lowK q)
    have hbg : w.heap.size ≠ g ∧ w.heap.size + 1 ≠ g ∧ w.heap.size + 1 + 1 ≠ g := by
      have := (HSo.out.vals.lt g rfl).2
      omega
    have i2 : (k : Int) < (s.vals.length : Int) := by omega
    have i3 : (0 : Int) ≤ (k : Int) := by omega
    generalize s.vals[k] = old at *
    generalize putP t s k (old + o.n) = pp at *
    clear hval hbd hk' hS2 HSo k3 HF HGd HSp
    go_upto_region 6 with fail
    generalize w.heap.size = B at *
    obtain ⟨⟨y0, y1, y2, y3⟩, _⟩ := four_cell hB1
    obtain ⟨⟨z0, z1, z2, z3⟩, _⟩ := four_cell hB2
    have Y0 := fun W (q : Kept (fun k => k ≠ g) w2 W) => (kept_cell q (lt_of_block hB1) hbg.1).trans y0
    have Y1 := fun W (q : Kept (fun k => k ≠ g) w2 W) => (kept_cell q (lt_of_block hB1) hbg.1).trans y1
    have Y2 := fun W (q : Kept (fun k => k ≠ g) w2 W) => (kept_cell q (lt_of_block hB1) hbg.1).trans y2
    have Y3 := fun W (q : Kept (fun k => k ≠ g) w2 W) => (kept_cell q (lt_of_block hB1) hbg.1).trans y3
    have Z0 := fun W (q : Kept (fun k => k ≠ g) w2 W) => (kept_cell q (lt_of_block hB2) hbg.2.1).trans z0
    have Z1 := fun W (q : Kept (fun k => k ≠ g) w2 W) => (kept_cell q (lt_of_block hB2) hbg.2.1).trans z1
    have Z2 := fun W (q : Kept (fun k => k ≠ g) w2 W) => (kept_cell q (lt_of_block hB2) hbg.2.1).trans z2
    have Z3 := fun W (q : Kept (fun k => k ≠ g) w2 W) => (kept_cell q (lt_of_block hB2) hbg.2.1).trans z3
    have O3 := fun W (q : Kept (fun k => k ≠ g) w2 W) => (kept_cell q (lt_of_block hB3) hbg.2.2).trans o3
    have kd : Kept (fun k => k ≠ g) w2 w2.drew := (Kept.refl _ _).drew
    clear y0 y1 y2 y3 z0 z1 z2 z3 o0 o1 o2 o3 hgw hB1 hB2 hB3 hbg
    refine wp_region_held_drew (S := fun W => Kept (fun k => k ≠ g) w2 W) (by kernel_rfl) kd (fun hHeld => ?_)
    refine wpAnyH_take (i := 0) (oi := { dst := some 22, op := Op.load 54 (Operand.tmp 3), type := 54, pos := _, after := #[], guard := none }) (v := ?_) rfl (by kernel_rfl) (by kernel_rfl) (by kernel_rfl) (fun _ _ _ h => h) (Or.inl ⟨by rfl, ?hy0⟩) (by assumption) ?_
    case hy0 => (intro W hSw; (try dsimp only at hSw); go_simp; try with_reducible rfl)
    try simp only [Act.put, List.setIfInBounds_toArray, List.set_cons_zero, List.set_cons_succ]
    refine wpAnyH_take (i := 1) (oi := { dst := some 23, op := Op.load 70 (Operand.tmp 4), type := 70, pos := _, after := #[], guard := none }) (v := ?_) rfl (by kernel_rfl) (by kernel_rfl) (by kernel_rfl) (fun _ _ _ h => h) (Or.inl ⟨by rfl, ?hy1⟩) (by assumption) ?_
    case hy1 => (intro W hSw; (try dsimp only at hSw); go_simp; try with_reducible rfl)
    try simp only [Act.put, List.setIfInBounds_toArray, List.set_cons_zero, List.set_cons_succ]
    refine wpAnyH_take (i := 2) (oi := { dst := some 24, op := Op.move (Operand.tmp 7), type := 3, pos := _, after := #[], guard := none }) (v := ?_) rfl (by kernel_rfl) (by kernel_rfl) (by kernel_rfl) (fun _ _ _ h => h) (Or.inl ⟨by rfl, ?hy2⟩) (by assumption) ?_
    case hy2 => (intro W hSw; (try dsimp only at hSw); go_simp; try with_reducible rfl)
    try simp only [Act.put, List.setIfInBounds_toArray, List.set_cons_zero, List.set_cons_succ]
    refine wpAnyH_take (i := 3) (oi := { dst := some 25, op := Op.fieldAddr 70 (Operand.tmp 4) 1, type := 0, pos := _, after := #[], guard := none }) (v := ?_) rfl (by kernel_rfl) (by kernel_rfl) (by kernel_rfl) (fun _ _ _ h => h) (Or.inl ⟨by rfl, ?hy3⟩) (by assumption) ?_
    case hy3 => (intro W hSw; (try dsimp only at hSw); go_simp; try with_reducible rfl)
    try simp only [Act.put, List.setIfInBounds_toArray, List.set_cons_zero, List.set_cons_succ]
    refine wpAnyH_take (i := 4) (oi := { dst := some 26, op := Op.load 38 (Operand.tmp 25), type := 38, pos := _, after := #[{ on := 3, ground := Ground.data }], guard := none }) (v := ?_) rfl (by kernel_rfl) (by kernel_rfl) (by kernel_rfl) (fun _ _ _ h => h) (Or.inl ⟨by rfl, ?hy4⟩) (by assumption) ?_
    case hy4 => (intro W hSw; (try dsimp only at hSw); go_simp; try with_reducible rfl)
    try simp only [Act.put, List.setIfInBounds_toArray, List.set_cons_zero, List.set_cons_succ]
    refine wpAnyH_take (i := 5) (oi := { dst := some 27, op := Op.move (Operand.tmp 7), type := 3, pos := _, after := #[], guard := none }) (v := ?_) rfl (by kernel_rfl) (by kernel_rfl) (by kernel_rfl) (fun _ _ _ h => h) (Or.inl ⟨by rfl, ?hy5⟩) (by assumption) ?_
    case hy5 => (intro W hSw; (try dsimp only at hSw); go_simp; try with_reducible rfl)
    try simp only [Act.put, List.setIfInBounds_toArray, List.set_cons_zero, List.set_cons_succ]
    refine wpAnyH_take (i := 6) (oi := { dst := some 28, op := Op.indexAddr 38 (Operand.tmp 26) (Operand.tmp 27), type := 0, pos := _, after := #[{ on := 4, ground := Ground.data }, { on := 5, ground := Ground.data }], guard := none }) (v := ?_) rfl (by kernel_rfl) (by kernel_rfl) (by kernel_rfl) (fun _ _ _ h => h) (Or.inl ⟨by rfl, ?hy6⟩) (by assumption) ?_
    case hy6 => (intro W hSw; (try dsimp only at hSw); go_simp; try with_reducible rfl)
    try simp only [Act.put, List.setIfInBounds_toArray, List.set_cons_zero, List.set_cons_succ]
    refine wpAnyH_take (i := 8) (oi := { dst := some 30, op := Op.fieldAddr 61 (Operand.tmp 5) 3, type := 0, pos := _, after := #[], guard := none }) (v := ?_) rfl (by kernel_rfl) (by kernel_rfl) (by kernel_rfl) (fun _ _ _ h => h) (Or.inl ⟨by rfl, ?hy8⟩) (by assumption) ?_
    case hy8 => (intro W hSw; (try dsimp only at hSw); go_simp; try with_reducible rfl)
    try simp only [Act.put, List.setIfInBounds_toArray, List.set_cons_zero, List.set_cons_succ]
    refine wpAnyH_take (i := 9) (oi := { dst := some 31, op := Op.load 3 (Operand.tmp 30), type := 3, pos := _, after := #[{ on := 8, ground := Ground.data }], guard := none }) (v := ?_) rfl (by kernel_rfl) (by kernel_rfl) (by kernel_rfl) (fun _ _ _ h => h) (Or.inl ⟨by rfl, ?hy9⟩) (by assumption) ?_
    case hy9 => (intro W hSw; (try dsimp only at hSw); go_simp; try with_reducible rfl)
    try simp only [Act.put, List.setIfInBounds_toArray, List.set_cons_zero, List.set_cons_succ]
    refine wpAnyH_ready (rs := [7]) (by kernel_rfl) (by simp) ?_
    refine AllReadyH.cons (o := { dst := some 29, op := Op.load 3 (Operand.tmp 28), type := 3, pos := _, after := #[{ on := 6, ground := Ground.data }], guard := none }) rfl (fun K hK => ?_) AllReadyH.nil
    go_simp
    refine hK.out _ _ kd (fun hHeld7 => ?_)
    clear hK K
    try simp only [Act.put, List.setIfInBounds_toArray, List.set_cons_zero, List.set_cons_succ]
    refine wpAnyH_take (i := 10) (oi := { dst := some 32, op := Op.binOp BinOp.add 3 (Operand.tmp 29) (Operand.tmp 31) 3, type := 3, pos := _, after := #[{ on := 7, ground := Ground.data }, { on := 9, ground := Ground.data }], guard := none }) (v := ?_) rfl (by kernel_rfl) (by kernel_rfl) (by kernel_rfl) (fun _ _ _ h => h) (Or.inl ⟨by rfl, ?hy10⟩) (by assumption) ?_
    case hy10 => (intro W hSw; (try dsimp only at hSw); go_simp; try with_reducible rfl)
    try simp only [Act.put, List.setIfInBounds_toArray, List.set_cons_zero, List.set_cons_succ]
    refine wpAnyH_ready (rs := [11]) (by kernel_rfl) (by simp) ?_
    refine AllReadyH.cons (o := { dst := some 33, op := Op.call { callee := Callee.value (Operand.func 231), args := #[Operand.tmp 22, Operand.tmp 23, Operand.tmp 24, Operand.tmp 32], argTypes := #[54, 70, 3, 3] }, type := 32, pos := _, after := #[{ on := 0, ground := Ground.data }, { on := 1, ground := Ground.data }, { on := 2, ground := Ground.data }, { on := 10, ground := Ground.data }], guard := none }) rfl (fun K hK => ?_) AllReadyH.nil
    go_simp
    refine Calls.mono hcp ?_
    rintro e v5 ⟨rfl, hs5, m5⟩
    have HS5 : Hid _ := hs5
    have HM5 : Hid _ := m5
    have p5 : Kept (fun k => k ≠ g) w2 v5 := kd.trans (m5.mono fun i _ hi e => hi (by simpa [Value.ownBlock] using e.symm))
    clear m5 hs5
    try go_wp2_with fail
    refine hK.out _ _ p5 (fun hHeld11 => ?_)
    clear hK K
    try simp only [Act.put, List.setIfInBounds_toArray, List.set_cons_zero, List.set_cons_succ]
    refine wpAnyH_ready (rs := [12]) (by kernel_rfl) (by simp) ?_
    refine AllReadyH.cons (o := { dst := some 6, op := Op.assign (Operand.tmp 33), type := 32, pos := _, after := #[{ on := 11, ground := Ground.data }, { on := 11, ground := Ground.chain }, { on := 0, ground := Ground.phase }, { on := 1, ground := Ground.phase }, { on := 2, ground := Ground.phase }, { on := 3, ground := Ground.phase }, { on := 4, ground := Ground.phase }, { on := 5, ground := Ground.phase }, { on := 6, ground := Ground.phase }, { on := 7, ground := Ground.phase }, { on := 8, ground := Ground.phase }, { on := 9, ground := Ground.phase }, { on := 10, ground := Ground.phase }, { on := 11, ground := Ground.phase }], guard := none }) rfl (fun K hK => ?_) AllReadyH.nil
    go_simp
    refine hK.out _ _ p5 (fun hHeld12 => ?_)
    clear hK K
    try simp only [Act.put, List.setIfInBounds_toArray, List.set_cons_zero, List.set_cons_succ]
    refine wpAnyH_done (by kernel_rfl) ?_ _
    go_wp2_with fail
    go_ret
    exact ⟨by rw [HQ.out]; rfl, by rw [HQ.out]; exact HS5.out, K3.out.trans (HLow.out _ HM5.out)⟩

end Go.Proofs.YtenejaghgehnoaaGreatDoor

namespace Go.Proofs.YtenejaghgehnoaaGreatDoor
open Go.RowKit

theorem So.stv {w : World} {base : Nat} {va vd vg : Value} {s : Sa} (h : So w base va vd vg s) (f : Few s) : StV w (.agg #[.string ⟨s.type.toArray⟩, va, vd, vg]) s := by
  obtain ⟨p1, p2, p3⟩ := h.view f
  exact ⟨_, _, _, rfl, p1, p2, p3⟩
theorem fire_at {t : Ty} {s : Sa} (g : Good t) {i : Nat} (h : i < t.stages.length) {o : Oq} (hn : (t.stages[i]).name = o.name) : fireP t s o = if rdy t s i = true then ({ s with done := s.done.set i true }, 0) else (s, 32) := by
  obtain ⟨h1, h2⟩ := rule_at h
  rw [fireP, spot_at g.stageN i h1 (h2.trans hn)]
  rfl
theorem fire_no {t : Ty} {s : Sa} {o : Oq} (h : ∀ i (hi : i < t.stages.length), (t.stages[i]).name ≠ o.name) : fireP t s o = (s, 32) := by
  rw [fireP, spot_no (fun k hk => ?_)]
  · rfl
  · have hk' : k < t.stages.length := by simpa using hk
    obtain ⟨h1, h2⟩ := rule_at hk'
    rw [h2]
    exact h k hk'
set_option maxRecDepth 100000 in
set_option maxHeartbeats 8000000 in
theorem fire_any {w0 w : World} {tv va vd vg : Value} {t : Ty} {s : Sa} (ht : TyV w0 tv t) (k0 : Kept (· < w0.heap.size) w0 w) (h : So w w0.heap.size va vd vg s) (g : Good t) (f : Sized t s) (o : Oq) :
    Calls Tryz.prog 213 #[tv, .agg #[.string ⟨s.type.toArray⟩, va, vd, vg], opV o] w fun e w' => e = .returned (.int .i64 ((fireP t s o).2 : Nat)) ∧ So w' w0.heap.size va vd vg (fireP t s o).1 ∧ Kept (· < w0.heap.size) w w' := by
  have hT := ht.low k0
  have HTy : Hid (TyV w tv t) := hT
  obtain ⟨ta, ts, tm, rfl, ha, hss, hkk⟩ := hT
  obtain ⟨ao, ac, rfl, la⟩ := ha.form
  obtain ⟨so, sc, rfl, ls⟩ := hss.form
  obtain ⟨mo, mc, rfl, lm⟩ := hkk.form
  obtain ⟨vo, vc, eo, ec, go, gc, rfl, rfl, rfl⟩ := h.shapes
  obtain ⟨x1, x2, x3⟩ := alloc_three w (.cells #[.string ⟨t.name.toArray⟩, .slice ao t.attrs.length ac, .slice so t.stages.length sc, .slice mo t.marks.length mc] 54) (.cells #[.string ⟨s.type.toArray⟩, .slice vo s.vals.length vc, .slice eo s.done.length ec, .slice go s.got.length gc] 70) (.cells #[.int .i64 o.kind, .string ⟨o.cas.toArray⟩, .string ⟨o.name.toArray⟩, .int .i64 o.n] 61)
  have hk1 : Kept (fun _ => True) w (((w.alloc (.cells #[.string ⟨t.name.toArray⟩, .slice ao t.attrs.length ac, .slice so t.stages.length sc, .slice mo t.marks.length mc] 54)).alloc (.cells #[.string ⟨s.type.toArray⟩, .slice vo s.vals.length vc, .slice eo s.done.length ec, .slice go s.got.length gc] 70)).alloc (.cells #[.int .i64 o.kind, .string ⟨o.cas.toArray⟩, .string ⟨o.name.toArray⟩, .int .i64 o.n] 61)) := (((Kept.refl _ _).alloc _).alloc _).alloc _
  obtain ⟨⟨y0, y1, y2, y3⟩, _⟩ := four_cell x1
  have X1 : Hid _ := x1
  have X2 : Hid _ := x2
  have X3 : Hid _ := x3
  have HSo : Hid (So w w0.heap.size (.slice vo s.vals.length vc) (.slice eo s.done.length ec) (.slice go s.got.length gc) s) := h
  have K1 : Hid _ := hk1
  have HF : Hid (Sized t s) := f
  have HGd : Hid (Good t) := g
  have HFew : Hid (Few s) := by
    have := g.na; have := g.ns; have := g.nm; have := f.vals; have := f.done; have := f.got
    exact ⟨by omega, by omega, by omega⟩
  have hns := g.ns
  obtain ⟨RS, hRS⟩ : ∃ RS, RS = fireP t s o := ⟨_, rfl⟩
  have HRS : Hid (RS = fireP t s o) := hRS
  rw [← hRS]
  unfold opV
  clear x1 x2 x3 h k0 hk1 g f hRS ha hss hkk ht
  go_enter Tryz.func213, Tryz.ntmps213
  go_wp2_with fail
  generalize ((w.alloc (.cells #[.string ⟨t.name.toArray⟩, .slice ao t.attrs.length ac, .slice so t.stages.length sc, .slice mo t.marks.length mc] 54)).alloc (.cells #[.string ⟨s.type.toArray⟩, .slice vo s.vals.length vc, .slice eo s.done.length ec, .slice go s.got.length gc] 70)).alloc (.cells #[.int .i64 o.kind, .string ⟨o.cas.toArray⟩, .string ⟨o.name.toArray⟩, .int .i64 o.n] 61) = w1 at *
  generalize w.heap.size = B at *
  clear y0 y1 y2 y3
  go_loopw [7, 8, 12] (fun _ _ ti wr => ∃ i : Nat, i ≤ t.stages.length ∧ ti = .int .i64 i ∧ (∀ k (h : k < t.stages.length), k < i → (t.stages[k]).name = o.name → RS = (s, 32)) ∧ Kept (fun _ => True) w1 wr) (fun _ _ ti _ => t.stages.length - (intOf ti).toNat)
  case atStart => exact ⟨0, Nat.zero_le _, rfl, fun k _ hk => (by omega), Kept.refl _ _⟩
  case round =>
  obtain ⟨i, hi, rfl, hall, hk⟩ := hrel
  have HAll : Hid (∀ k (h : k < t.stages.length), k < i → (t.stages[k]).name = o.name → RS = (s, 32)) := hall
  have HKr : Hid (Kept (fun _ => True) w1 wr) := hk
  clear hall hk
  by_cases hlt : i < t.stages.length
  · have hT2 := HTy.out.all (K1.out.trans HKr.out)
    obtain ⟨_, ts, _, e4, _, hS, _⟩ := hT2
    cases e4
    obtain ⟨b2, off, rfl, hb, q0, q1⟩ := hS.at i hlt
    have i1 : (i : Int) < (t.stages.length : Int) := by omega
    have i0 : (0 : Int) ≤ (i : Int) := by omega
    have ka : Kept (fun _ => True) wr (wr.alloc (.cells #[.string ⟨(t.stages[i]).name.toArray⟩, .string ⟨(t.stages[i]).guard.toArray⟩] 90)) := (Kept.refl _ _).alloc _
    have HKa : Hid (Kept (fun _ => True) w1 _) := HKr.out.trans ka
    have hB3 := (HKa.out.block _ (lt_of_block X3.out) trivial).trans X3.out
    obtain ⟨⟨o0, o1, o2, o3⟩, _⟩ := four_cell hB3
    clear hS hb ka hB3
    by_cases hx : (t.stages[i]).name = o.name
    · have hx' : ((t.stages[i]).name == o.name) = true := by simpa using hx
      have HX : Hid _ := hx
      have hB1 := (HKa.out.block _ (lt_of_block X1.out) trivial).trans X1.out
      have hB2 := (HKa.out.block _ (lt_of_block X2.out) trivial).trans X2.out
      obtain ⟨⟨y0, y1, y2, y3⟩, _⟩ := four_cell hB1
      obtain ⟨⟨z0, z1, z2, z3⟩, _⟩ := four_cell hB2
      have kw := K1.out.trans HKa.out
      have hSo2 := HSo.out.all kw
      have hV := hSo2.stv HFew.out
      have cr := ready_any (HTy.out.all kw) hV HGd.out HF.out i hlt
      have HFi : Hid (RS = if rdy t s i = true then ({ s with done := s.done.set i true }, 0) else (s, 32)) := HRS.out.trans (fire_at HGd.out hlt hx)
      clear hx hB1 hB2 kw hSo2 hV
      generalize hrr : t.stages[i] = r at *
      have HRR : Hid _ := hrr
      clear hrr
      generalize rdy t s i = q at *
      go_wp2_with fail
      refine Calls.mono cr ?_
      rintro e w4 ⟨rfl, k4⟩
      clear cr y0 y1 y2 y3 z0 z1 z2 z3 o0 o1 o2 o3
      have K4 : Hid (Kept (fun _ => True) w1 w4) := HKa.out.trans k4
      cases q with
      | false =>
        have HQ : Hid (RS = (s, 32)) := HFi.out
        go_wp2_with fail
        go_roundw
        case rel => exact ⟨i + 1, by omega, by go_num, fun _ _ _ _ => HQ.out, K4.out⟩
        case measure => simp [intOf]; omega
      | true =>
        have HQ : Hid (RS = ({ s with done := s.done.set i true }, 0)) := HFi.out
        have hSo4 := HSo.out.all (K1.out.trans K4.out)
        have hd : i < s.done.length := by rw [HF.out.done]; exact hlt
        obtain ⟨g, rfl⟩ : ∃ g, eo = some ⟨g, 0, none⟩ := by
          obtain ⟨ao', cap', e, _, _, h0⟩ := own_form hSo4.done
          cases e
          exact h0 (by omega)
        have hc := hSo4.done.cellAt i (by omega)
        rw [show (bv s.done)[i]? = some (.bool s.done[i]) by simp [bv, hd]] at hc
        have hfz := hSo4.done.frozenAt i
        have HS5 : Hid _ := hSo4.setDone rfl i true
        have hB2 := (K4.out.block _ (lt_of_block X2.out) trivial).trans X2.out
        obtain ⟨⟨z0, z1, z2, z3⟩, _⟩ := four_cell hB2
        have i2 : (i : Int) < (s.done.length : Int) := by omega
        have K5 : Hid (Kept (· < w0.heap.size) w w4) := (K1.out.trans K4.out).mono fun _ _ _ => trivial
        clear hSo4 hB2 k4
        generalize s.done[i] = old at *
        go_wp2_with fail
        go_ret
        exact ⟨by rw [HQ.out]; rfl, by rw [HQ.out]; exact HS5.out.1, K5.out.trans HS5.out.2⟩
    · have hx' : ((t.stages[i]).name == o.name) = false := by simpa using hx
      have HAll2 : Hid (∀ k (h : k < t.stages.length), k < i + 1 → (t.stages[k]).name = o.name → RS = (s, 32)) := fun k h hk he => by
        rcases Nat.lt_or_ge k i with h2 | h2
        · exact HAll.out k h h2 he
        · obtain rfl : k = i := by omega
          exact absurd he hx
      clear hx
      generalize t.stages[i] = a at *
      go_wp2_with fail
      go_roundw
      case rel => exact ⟨i + 1, by omega, by go_num, HAll2.out, HKa.out⟩
      case measure => simp [intOf]; omega
  · have i1 : ¬ (i : Int) < (t.stages.length : Int) := by omega
    have HQ : Hid (RS = (s, 32)) := by
      show _ = _
      by_cases hex : ∃ k, ∃ h : k < t.stages.length, (t.stages[k]).name = o.name
      · obtain ⟨k, hk, he⟩ := hex
        exact HAll.out k hk (by omega) he
      · rw [HRS.out, fire_no (fun k hk he => hex ⟨k, hk, he⟩)]
    have HS2 : Hid _ := HSo.out.all (K1.out.trans HKr.out)
    go_wp2_with fail
    go_ret
    exact ⟨by rw [HQ.out]; rfl, by rw [HQ.out]; exact HS2.out, (K1.out.trans HKr.out).mono fun _ _ _ => trivial⟩

set_option maxRecDepth 100000 in
set_option maxHeartbeats 4000000 in
theorem clone_nums {w : World} {v : Value} {xs : List Value} (h : Cv w v xs) (h1 : ∀ u ∈ xs, u.oneCell' = true) (hl : xs.length ≤ 1000000) :
    Calls Tryz.prog 142 #[v] w fun e w' => ∃ v', e = .returned v' ∧ w'.ownsRow w.heap.size 3 1 v' xs.length xs ∧ Kept (fun _ => True) w w' := by
  have HC : Hid (Cv w v xs) := h
  obtain ⟨ao, cap, rfl, _, hn, hx⟩ := h
  cases ao with
  | none =>
    have h0 : xs = [] := by
      rcases Nat.eq_zero_or_pos xs.length with h | h
      · exact List.eq_nil_of_length_eq_zero h
      · obtain ⟨_, _, e, _⟩ := hx h; cases e
    have hc := hn rfl
    subst h0 hc
    clear hn hx HC h1 hl
    have qT : ∀ W : World, (binOp .eql 38 (.slice none 0 0) (.slice none 0 0)).run Tryz.prog W = .ok (.bool true) W := fun W => run_eql_nil_slice W 38 3 none 0 0 0 0 Tryz.underlying38
    go_enter Tryz.func142, Tryz.ntmps142
    go_wp2_with fail
    go_ret
    exact ⟨_, rfl, World.ownsRow_nil _ _ _ _, Kept.refl _ _⟩
  | some ad =>
    have H1 : Hid _ := h1
    have HL : Hid (xs.length ≤ 1000000) := hl
    obtain ⟨n, hnn⟩ : ∃ n, n = xs.length := ⟨_, rfl⟩
    rw [← hnn] at HC ⊢
    have HN : Hid (n = xs.length) := hnn
    clear hn hx h1 hl hnn
    have qT : ∀ W : World, (binOp .eql 38 (.slice (some ad) n cap) (.slice none 0 0)).run Tryz.prog W = .ok (.bool false) W := fun W => Lib.run_eql_slice_nil W 38 3 (some ad) n cap 0 0 Tryz.underlying38
    go_enter Tryz.func142, Tryz.ntmps142
    go_wp2_with (at_builtin; refine wpList_append_nums rfl (.tmp 5) (.tmp 6) rfl w.heap.size (.slice (some ⟨w.heap.size, 0, none⟩) 0 0) 0 [] rfl (empty_nums w w.heap.size (Nat.le_refl _)) (by simp) (.slice (some ad) n cap) rfl xs (HC.out.all ((Kept.refl _ _).alloc _)) H1.out (by have := HL.out; omega) n (by have := HN.out; omega) ?_; intro ao' cap' w' hW hG hO; have HW : Hid (w'.ownsRow w.heap.size 3 1 (.slice ao' n cap') n xs) := hW; have HK : Hid (Kept (fun _ => True) w w') := ((Kept.refl _ _).alloc _).grown hG (fun k hk e => by simp [Value.ownBlock] at e; omega); clear hW hG hO)
    go_ret
    exact ⟨_, rfl, HW.out, HK.out⟩
set_option maxRecDepth 100000 in
set_option maxHeartbeats 4000000 in
theorem clone_truths {w : World} {v : Value} {xs : List Value} (h : Cv w v xs) (h1 : ∀ u ∈ xs, u.oneCell' = true) (hl : xs.length ≤ 1000000) :
    Calls Tryz.prog 143 #[v] w fun e w' => ∃ v', e = .returned v' ∧ w'.ownsRow w.heap.size 4 1 v' xs.length xs ∧ Kept (fun _ => True) w w' := by
  have HC : Hid (Cv w v xs) := h
  obtain ⟨ao, cap, rfl, _, hn, hx⟩ := h
  cases ao with
  | none =>
    have h0 : xs = [] := by
      rcases Nat.eq_zero_or_pos xs.length with h | h
      · exact List.eq_nil_of_length_eq_zero h
      · obtain ⟨_, _, e, _⟩ := hx h; cases e
    have hc := hn rfl
    subst h0 hc
    clear hn hx HC h1 hl
    have qT : ∀ W : World, (binOp .eql 56 (.slice none 0 0) (.slice none 0 0)).run Tryz.prog W = .ok (.bool true) W := fun W => run_eql_nil_slice W 56 4 none 0 0 0 0 Tryz.underlying56
    go_enter Tryz.func143, Tryz.ntmps143
    go_wp2_with fail
    go_ret
    exact ⟨_, rfl, World.ownsRow_nil _ _ _ _, Kept.refl _ _⟩
  | some ad =>
    have H1 : Hid _ := h1
    have HL : Hid (xs.length ≤ 1000000) := hl
    obtain ⟨n, hnn⟩ : ∃ n, n = xs.length := ⟨_, rfl⟩
    rw [← hnn] at HC ⊢
    have HN : Hid (n = xs.length) := hnn
    clear hn hx h1 hl hnn
    have qT : ∀ W : World, (binOp .eql 56 (.slice (some ad) n cap) (.slice none 0 0)).run Tryz.prog W = .ok (.bool false) W := fun W => Lib.run_eql_slice_nil W 56 4 (some ad) n cap 0 0 Tryz.underlying56
    go_enter Tryz.func143, Tryz.ntmps143
    go_wp2_with (at_builtin; refine wpList_append_truths rfl (.tmp 5) (.tmp 6) rfl w.heap.size (.slice (some ⟨w.heap.size, 0, none⟩) 0 0) 0 [] rfl (empty_truths w w.heap.size (Nat.le_refl _)) (by simp) (.slice (some ad) n cap) rfl xs (HC.out.all ((Kept.refl _ _).alloc _)) H1.out (by have := HL.out; omega) n (by have := HN.out; omega) ?_; intro ao' cap' w' hW hG hO; have HW : Hid (w'.ownsRow w.heap.size 4 1 (.slice ao' n cap') n xs) := hW; have HK : Hid (Kept (fun _ => True) w w') := ((Kept.refl _ _).alloc _).grown hG (fun k hk e => by simp [Value.ownBlock] at e; omega); clear hW hG hO)
    go_ret
    exact ⟨_, rfl, HW.out, HK.out⟩

end Go.Proofs.YtenejaghgehnoaaGreatDoor

namespace Go.Proofs.YtenejaghgehnoaaGreatDoor
open Go.RowKit

theorem Tryz.sizeState : (Tryz.prog.info? 70).map (·.size) = some 4 := by kernel_rfl
theorem load_state {w : World} {g : Nat} {cs : Array Value} {t : TypeId} {fr : Nat × Nat} (hg : w.heap[g]? = some (.cells cs t fr)) (hc : cs.size = 4) : (loadVar 70 ⟨g, 0, none⟩).run Tryz.prog w = .ok (.agg cs) w :=
  run_loadVar_row w g t 70 cs fr _ hg Tryz.underlying70 rfl (by rw [hc]; exact Tryz.sizeState)
theorem results_state {fn : Func} {p : Nat} (h : fn.results = #[.cell p 70]) (tmps : Array Value) (w : World) {g : Nat} {cs : Array Value} {t : TypeId} {fr : Nat × Nat} (hp : tmps.getD p undef = .pointer (some ⟨g, 0, none⟩)) (hg : w.heap[g]? = some (.cells cs t fr)) (hc : cs.size = 4) :
    (results fn tmps).run Tryz.prog w = .ok (.agg cs) w :=
  results_cell_row h tmps w g t cs fr _ hp hg Tryz.underlying70 rfl (by rw [hc]; exact Tryz.sizeState)
theorem results_three {fn : Func} {p u q : Nat} {ty : TypeId} (h : fn.results = #[.cell p ty, .tmp u, .tmp q]) (tmps : Array Value) (w : World) {g : Nat} {v : Value} (hp : tmps.getD p undef = .pointer (some ⟨g, 0, none⟩)) (hl : (loadVar ty ⟨g, 0, none⟩).run Tryz.prog w = .ok v w) :
    (results fn tmps).run Tryz.prog w = .ok (.tuple #[v, tmps.getD u undef, tmps.getD q undef]) w := by
  have hp' : tmps[p]?.getD undef = .pointer (some ⟨g, 0, none⟩) := by simpa using hp
  simp [results, h, hp', asAddr, hl]

/-- The box of a state while its lists are copied. -/
theorem box_three {w : World} {B : Nat} {x a b c : Value} (h : w.heap[B]? = some (.cells #[x, a, b, c] 70 (0, 0))) (a' b' c' : Value) :
    (((w.setCell ⟨B, 1, none⟩ a').setCell ⟨B, 2, none⟩ b').setCell ⟨B, 3, none⟩ c').heap[B]? = some (.cells #[x, a', b', c'] 70 (0, 0)) := by
  have h1 := set_cell h 1 a'
  have h2 := set_cell h1 2 b'
  have h3 := set_cell h2 3 c'
  simpa using h3

theorem copied_end {w w1 v7 wf : World} {B b1 b2 b3 : Nat} {va vd vg : Value} {s : Sa} (hB : B = w.heap.size) (k0 : Kept (fun _ => True) w w1) (p7 : Kept (fun _ => True) w1 v7) (hlt : B + 1 < w1.heap.size) (kf : Kept (fun i => i ≠ B ∧ i ≠ B + 1) v7 wf)
    (ha : v7.ownsRow b1 3 1 va s.vals.length (iv s.vals)) (hd : v7.ownsRow b2 4 1 vd s.done.length (bv s.done)) (hg : v7.ownsRow b3 4 1 vg s.got.length (bv s.got)) (l1 : w1.heap.size ≤ b1) (l2 : w1.heap.size ≤ b2) (l3 : w1.heap.size ≤ b3) (hap : ∀ k, vd.ownBlock = some k → k < b3) :
    So wf w.heap.size va vd vg s ∧ Kept (fun _ => True) w wf := by
  subst hB
  refine ⟨⟨own_keep (ownsRow_low ha (by omega)) kf (fun k e => ?_), own_keep (ownsRow_low hd (by omega)) kf (fun k e => ?_), own_keep (ownsRow_low hg (by omega)) kf (fun k e => ?_), fun k e q => ?_⟩, (k0.trans p7).then kf (fun i hi _ => by omega)⟩
  · have := (ha.lt k e).1; omega
  · have := (hd.lt k e).1; omega
  · have := (hg.lt k e).1; omega
  · have h1 := hap k e; have h2 := (hg.lt k q).1; omega
set_option maxRecDepth 100000 in
set_option maxHeartbeats 16000000 in
theorem copied_any {w : World} {sv : Value} {s : Sa} (hs : StV w sv s) (f : Few s) :
    Calls Tryz.prog 210 #[sv] w fun e w' => ∃ va vd vg, e = .returned (.agg #[.string ⟨s.type.toArray⟩, va, vd, vg]) ∧ So w' w.heap.size va vd vg s ∧ Kept (fun _ => True) w w' := by
  obtain ⟨va, vd, vg, rfl, h1, h2, h3⟩ := hs
  have HV : Hid (Cv w va (iv s.vals)) := h1
  have HE : Hid (Cv w vd (bv s.done)) := h2
  have HG : Hid (Cv w vg (bv s.got)) := h3
  obtain ⟨vo, vc, rfl, -, -⟩ := h1.ints
  obtain ⟨eo, ec, rfl, -, -⟩ := h2.bools
  obtain ⟨go, gc, rfl, -, -⟩ := h3.bools
  have hk : Kept (fun _ => True) w ((w.alloc (.cells #[.string ⟨s.type.toArray⟩, .slice vo s.vals.length vc, .slice eo s.done.length ec, .slice go s.got.length gc] 70)).alloc (.cells #[.string ⟨#[]⟩, .slice none 0 0, .slice none 0 0, .slice none 0 0] 70)) := ((Kept.refl _ _).alloc _).alloc _
  obtain ⟨x1, x2⟩ := alloc_two w (.cells #[.string ⟨s.type.toArray⟩, .slice vo s.vals.length vc, .slice eo s.done.length ec, .slice go s.got.length gc] 70) (.cells #[.string ⟨#[]⟩, .slice none 0 0, .slice none 0 0, .slice none 0 0] 70)
  have HF : Hid (Few s) := f
  have K0 : Hid _ := hk
  clear h1 h2 h3 f hk
  go_enter Tryz.func210, Tryz.ntmps210
  go_upto_region 1 with fail
  generalize (w.alloc (.cells #[.string ⟨s.type.toArray⟩, .slice vo s.vals.length vc, .slice eo s.done.length ec, .slice go s.got.length gc] 70)).alloc (.cells #[.string ⟨#[]⟩, .slice none 0 0, .slice none 0 0, .slice none 0 0] 70) = w1 at *
  obtain ⟨B, hB⟩ : ∃ B, B = w.heap.size := ⟨_, rfl⟩
  rw [← hB] at x1 x2 ⊢
  have HB : Hid (B = w.heap.size) := hB
  clear hB
  obtain ⟨⟨z0, z1, z2, z3⟩, _⟩ := four_cell x1
  have X1 : Hid _ := x1
  have X2 : Hid _ := x2
  have Z1 := fun W (q : Kept (fun _ => True) w1 W) => (kept_cell q (lt_of_block x1) trivial).trans z1
  have Z2 := fun W (q : Kept (fun _ => True) w1 W) => (kept_cell q (lt_of_block x1) trivial).trans z2
  have Z3 := fun W (q : Kept (fun _ => True) w1 W) => (kept_cell q (lt_of_block x1) trivial).trans z3
  have ZF := fun W (q : Kept (fun _ => True) w1 W) (o : Nat) => (kept_frozen (o := o) q (lt_of_block x1) trivial)
  clear x1 x2
  have kd : Kept (fun _ => True) w1 w1.drew := (Kept.refl _ _).drew
  refine Gz.begin (fun W => Kept (fun _ => True) w1 W) (fun i => decide (10 ≤ i)) (by kernel_rfl) ?_
  refine Gz.take (i := 0) (oi := { dst := some 3, op := Op.fieldAddr 70 (Operand.tmp 1) 1, type := 0, pos := _, after := #[], guard := none }) (v := ?_) rfl (by kernel_rfl) (by kernel_rfl) (by kernel_rfl) (by kernel_rfl) (fun _ _ _ h => h) (Or.inl ⟨by rfl, ?hy0⟩) kd ?_
  case hy0 => (intro W hSw; (try dsimp only at hSw); go_simp; try with_reducible rfl)
  try simp only [Act.put, List.setIfInBounds_toArray, List.set_cons_zero, List.set_cons_succ]
  refine Gz.take (i := 1) (oi := { dst := some 4, op := Op.load 38 (Operand.tmp 3), type := 38, pos := _, after := #[{ on := 0, ground := Ground.data }], guard := none }) (v := ?_) rfl (by kernel_rfl) (by kernel_rfl) (by kernel_rfl) (by kernel_rfl) (fun _ _ _ h => h) (Or.inl ⟨by rfl, ?hy1⟩) kd ?_
  case hy1 => (intro W hSw; (try dsimp only at hSw); go_simp; try with_reducible rfl)
  try simp only [Act.put, List.setIfInBounds_toArray, List.set_cons_zero, List.set_cons_succ]
  refine Gz.take (i := 3) (oi := { dst := some 6, op := Op.fieldAddr 70 (Operand.tmp 1) 2, type := 0, pos := _, after := #[], guard := none }) (v := ?_) rfl (by kernel_rfl) (by kernel_rfl) (by kernel_rfl) (by kernel_rfl) (fun _ _ _ h => h) (Or.inl ⟨by rfl, ?hy3⟩) kd ?_
  case hy3 => (intro W hSw; (try dsimp only at hSw); go_simp; try with_reducible rfl)
  try simp only [Act.put, List.setIfInBounds_toArray, List.set_cons_zero, List.set_cons_succ]
  refine Gz.take (i := 4) (oi := { dst := some 7, op := Op.load 56 (Operand.tmp 6), type := 56, pos := _, after := #[{ on := 3, ground := Ground.data }], guard := none }) (v := ?_) rfl (by kernel_rfl) (by kernel_rfl) (by kernel_rfl) (by kernel_rfl) (fun _ _ _ h => h) (Or.inl ⟨by rfl, ?hy4⟩) kd ?_
  case hy4 => (intro W hSw; (try dsimp only at hSw); go_simp; try with_reducible rfl)
  try simp only [Act.put, List.setIfInBounds_toArray, List.set_cons_zero, List.set_cons_succ]
  refine Gz.take (i := 6) (oi := { dst := some 9, op := Op.fieldAddr 70 (Operand.tmp 1) 3, type := 0, pos := _, after := #[], guard := none }) (v := ?_) rfl (by kernel_rfl) (by kernel_rfl) (by kernel_rfl) (by kernel_rfl) (fun _ _ _ h => h) (Or.inl ⟨by rfl, ?hy6⟩) kd ?_
  case hy6 => (intro W hSw; (try dsimp only at hSw); go_simp; try with_reducible rfl)
  try simp only [Act.put, List.setIfInBounds_toArray, List.set_cons_zero, List.set_cons_succ]
  refine Gz.take (i := 7) (oi := { dst := some 10, op := Op.load 56 (Operand.tmp 9), type := 56, pos := _, after := #[{ on := 6, ground := Ground.data }], guard := none }) (v := ?_) rfl (by kernel_rfl) (by kernel_rfl) (by kernel_rfl) (by kernel_rfl) (fun _ _ _ h => h) (Or.inl ⟨by rfl, ?hy7⟩) kd ?_
  case hy7 => (intro W hSw; (try dsimp only at hSw); go_simp; try with_reducible rfl)
  try simp only [Act.put, List.setIfInBounds_toArray, List.set_cons_zero, List.set_cons_succ]
  refine Gz.one (i := 2) (o := { dst := some 5, op := Op.call { callee := Callee.value (Operand.func 142), args := #[Operand.tmp 4], argTypes := #[38] }, type := 38, pos := _, after := #[{ on := 1, ground := Ground.data }], guard := none }) (by kernel_rfl) rfl (fun K hK => ?_)
  go_simp
  refine Calls.mono (clone_nums (HV.out.all (K0.out.trans kd)) (iv_one _) (by rw [iv_len]; exact HF.out.vals)) ?_
  rintro e v5 ⟨na, rfl, ha, m5⟩
  rw [iv_len] at ha
  obtain ⟨p1, p2, rfl⟩ := own_shape_any ha
  have p5 : Kept (fun _ => True) w1 v5 := Kept.trans kd m5
  have HA : Hid _ := ha
  clear m5 ha
  try go_wp2_with fail
  refine hK.out _ _ (fun hEarly => p5) ?_
  clear hK K
  try simp only [Act.put, List.setIfInBounds_toArray, List.set_cons_zero, List.set_cons_succ]
  refine Gz.take (i := 9) (oi := { dst := some 12, op := Op.fieldAddr 70 (Operand.tmp 1) 1, type := 0, pos := _, after := #[{ on := 0, ground := Ground.phase }, { on := 1, ground := Ground.phase }, { on := 2, ground := Ground.phase }, { on := 3, ground := Ground.phase }, { on := 4, ground := Ground.phase }, { on := 5, ground := Ground.textOnly Departure.lateStoresUnsure }, { on := 6, ground := Ground.phase }, { on := 7, ground := Ground.phase }, { on := 8, ground := Ground.textOnly Departure.lateStoresUnsure }], guard := none }) (v := ?_) rfl (by kernel_rfl) (by kernel_rfl) (by kernel_rfl) (by kernel_rfl) (fun _ _ _ h => h) (Or.inl ⟨by rfl, ?hy9⟩) p5 ?_
  case hy9 => (intro W hSw; (try dsimp only at hSw); go_simp; try with_reducible rfl)
  try simp only [Act.put, List.setIfInBounds_toArray, List.set_cons_zero, List.set_cons_succ]
  refine Gz.one (i := 5) (o := { dst := some 8, op := Op.call { callee := Callee.value (Operand.func 143), args := #[Operand.tmp 7], argTypes := #[56] }, type := 56, pos := _, after := #[{ on := 4, ground := Ground.data }, { on := 2, ground := Ground.chain }], guard := none }) (by kernel_rfl) rfl (fun K hK => ?_)
  go_simp
  refine Calls.mono (clone_truths (HE.out.all (K0.out.trans p5)) (bv_one _) (by rw [bv_len]; exact HF.out.done)) ?_
  rintro e v6 ⟨nb, rfl, hb, m6⟩
  rw [bv_len] at hb
  obtain ⟨p3, p4, rfl⟩ := own_shape_any hb
  have p6 : Kept (fun _ => True) w1 v6 := Kept.trans p5 m6
  have HA2 : Hid _ := own_keep HA.out m6 (fun _ _ => trivial)
  have HBn : Hid _ := hb
  have L6 : Hid (w1.heap.size ≤ v5.heap.size) := p5.size
  clear m6 hb
  try go_wp2_with fail
  refine hK.out _ _ (fun hEarly => p6) ?_
  clear hK K
  try simp only [Act.put, List.setIfInBounds_toArray, List.set_cons_zero, List.set_cons_succ]
  refine Gz.one (i := 8) (o := { dst := some 11, op := Op.call { callee := Callee.value (Operand.func 143), args := #[Operand.tmp 10], argTypes := #[56] }, type := 56, pos := _, after := #[{ on := 7, ground := Ground.data }, { on := 5, ground := Ground.chain }], guard := none }) (by kernel_rfl) rfl (fun K hK => ?_)
  go_simp
  refine Calls.mono (clone_truths (HG.out.all (K0.out.trans p6)) (bv_one _) (by rw [bv_len]; exact HF.out.got)) ?_
  rintro e v7 ⟨nc, rfl, hc, m7⟩
  rw [bv_len] at hc
  obtain ⟨p8, p9, rfl⟩ := own_shape_any hc
  have p7 : Kept (fun _ => True) w1 v7 := Kept.trans p6 m7
  have HA3 : Hid _ := own_keep HA2.out m7 (fun _ _ => trivial)
  have HBn2 : Hid _ := own_keep HBn.out m7 (fun _ _ => trivial)
  have HCn : Hid _ := hc
  have L7 : Hid (w1.heap.size ≤ v6.heap.size) := p6.size
  have L8 : Hid (∀ k, (Value.slice p3 s.done.length p4).ownBlock = some k → k < v6.heap.size) := fun k e => (World.ownsRow.lt HBn.out k e).2
  clear m7 hc
  try go_wp2_with fail
  refine hK.out _ _ (fun hEarly => p7) ?_
  clear hK K
  try simp only [Act.put, List.setIfInBounds_toArray, List.set_cons_zero, List.set_cons_succ]
  have hb7 := (p7.block B (lt_of_block X1.out) trivial).trans X1.out
  obtain ⟨⟨y0, y1, y2, y3⟩, f1, f2, f3⟩ := four_cell hb7
  have HB7 : Hid _ := hb7
  have P7 : Hid (Kept (fun _ => True) w1 v7) := p7
  clear z0 z1 z2 z3 Z1 Z2 Z3 ZF kd p5 p6 p7 hb7
  refine Gz.one (i := 10) (o := { dst := none, op := Op.store 38 (Operand.tmp 12) (Operand.tmp 5), type := 0, pos := _, after := #[{ on := 9, ground := Ground.data }, { on := 2, ground := Ground.data }, { on := 8, ground := Ground.chain }, { on := 0, ground := Ground.phase }, { on := 1, ground := Ground.phase }, { on := 2, ground := Ground.phase }, { on := 3, ground := Ground.phase }, { on := 4, ground := Ground.phase }, { on := 5, ground := Ground.textOnly Departure.lateStoresUnsure }, { on := 6, ground := Ground.phase }, { on := 7, ground := Ground.phase }, { on := 8, ground := Ground.textOnly Departure.lateStoresUnsure }], guard := none }) (by kernel_rfl) rfl (fun K hK => ?_)
  go_simp
  refine hK.out _ _ (fun hEarly => by cases hEarly) ?_
  clear hK K
  try simp only [Act.put, List.setIfInBounds_toArray, List.set_cons_zero, List.set_cons_succ]
  refine Gz.one (i := 11) (o := { dst := some 13, op := Op.fieldAddr 70 (Operand.tmp 1) 2, type := 0, pos := _, after := #[{ on := 0, ground := Ground.phase }, { on := 1, ground := Ground.phase }, { on := 2, ground := Ground.phase }, { on := 3, ground := Ground.phase }, { on := 4, ground := Ground.phase }, { on := 5, ground := Ground.phase }, { on := 6, ground := Ground.phase }, { on := 7, ground := Ground.phase }, { on := 8, ground := Ground.textOnly Departure.lateStoresUnsure }, { on := 9, ground := Ground.phase }, { on := 10, ground := Ground.phase }], guard := none }) (by kernel_rfl) rfl (fun K hK => ?_)
  go_simp
  refine hK.out _ _ (fun hEarly => by cases hEarly) ?_
  clear hK K
  try simp only [Act.put, List.setIfInBounds_toArray, List.set_cons_zero, List.set_cons_succ]
  refine Gz.one (i := 12) (o := { dst := none, op := Op.store 56 (Operand.tmp 13) (Operand.tmp 8), type := 0, pos := _, after := #[{ on := 11, ground := Ground.data }, { on := 5, ground := Ground.data }, { on := 10, ground := Ground.chain }, { on := 0, ground := Ground.phase }, { on := 1, ground := Ground.phase }, { on := 2, ground := Ground.phase }, { on := 3, ground := Ground.phase }, { on := 4, ground := Ground.phase }, { on := 5, ground := Ground.phase }, { on := 6, ground := Ground.phase }, { on := 7, ground := Ground.phase }, { on := 8, ground := Ground.textOnly Departure.lateStoresUnsure }, { on := 9, ground := Ground.phase }, { on := 10, ground := Ground.phase }], guard := none }) (by kernel_rfl) rfl (fun K hK => ?_)
  go_simp
  refine hK.out _ _ (fun hEarly => by cases hEarly) ?_
  clear hK K
  try simp only [Act.put, List.setIfInBounds_toArray, List.set_cons_zero, List.set_cons_succ]
  refine Gz.one (i := 13) (o := { dst := some 14, op := Op.fieldAddr 70 (Operand.tmp 1) 3, type := 0, pos := _, after := #[{ on := 0, ground := Ground.phase }, { on := 1, ground := Ground.phase }, { on := 2, ground := Ground.phase }, { on := 3, ground := Ground.phase }, { on := 4, ground := Ground.phase }, { on := 5, ground := Ground.phase }, { on := 6, ground := Ground.phase }, { on := 7, ground := Ground.phase }, { on := 8, ground := Ground.phase }, { on := 9, ground := Ground.phase }, { on := 10, ground := Ground.phase }, { on := 11, ground := Ground.phase }, { on := 12, ground := Ground.phase }], guard := none }) (by kernel_rfl) rfl (fun K hK => ?_)
  go_simp
  refine hK.out _ _ (fun hEarly => by cases hEarly) ?_
  clear hK K
  try simp only [Act.put, List.setIfInBounds_toArray, List.set_cons_zero, List.set_cons_succ]
  refine Gz.one (i := 14) (o := { dst := none, op := Op.store 56 (Operand.tmp 14) (Operand.tmp 11), type := 0, pos := _, after := #[{ on := 13, ground := Ground.data }, { on := 8, ground := Ground.data }, { on := 12, ground := Ground.chain }, { on := 0, ground := Ground.phase }, { on := 1, ground := Ground.phase }, { on := 2, ground := Ground.phase }, { on := 3, ground := Ground.phase }, { on := 4, ground := Ground.phase }, { on := 5, ground := Ground.phase }, { on := 6, ground := Ground.phase }, { on := 7, ground := Ground.phase }, { on := 8, ground := Ground.phase }, { on := 9, ground := Ground.phase }, { on := 10, ground := Ground.phase }, { on := 11, ground := Ground.phase }, { on := 12, ground := Ground.phase }], guard := none }) (by kernel_rfl) rfl (fun K hK => ?_)
  go_simp
  refine hK.out _ _ (fun hEarly => by cases hEarly) ?_
  clear hK K
  try simp only [Act.put, List.setIfInBounds_toArray, List.set_cons_zero, List.set_cons_succ]
  refine Gz.done (by kernel_rfl) ?_ _
  have hb := box_three HB7.out (.slice p1 s.vals.length p2) (.slice p3 s.done.length p4) (.slice p8 s.got.length p9)
  have hr := ((((Kept.refl (· ≠ B) v7).setCell (ad := ⟨B, 1, none⟩) (by simp) (.slice p1 s.vals.length p2)).setCell (ad := ⟨B, 2, none⟩) (by simp) (.slice p3 s.done.length p4)).setCell (ad := ⟨B, 3, none⟩) (by simp) (.slice p8 s.got.length p9)).block (B + 1) (by have := P7.out.size; have := lt_of_block X2.out; omega) (by omega)
  have hr2 := (hr.trans (P7.out.block (B + 1) (lt_of_block X2.out) trivial)).trans X2.out
  have kf : Kept (fun i => i ≠ B ∧ i ≠ B + 1) v7 (((v7.setCell ⟨B, 1, none⟩ (.slice p1 s.vals.length p2)).setCell ⟨B, 2, none⟩ (.slice p3 s.done.length p4)).setCell ⟨B, 3, none⟩ (.slice p8 s.got.length p9)) := (((Kept.refl _ v7).setCell (by simp) _).setCell (by simp) _).setCell (by simp) _
  have KF : Hid _ := kf
  have HR2 : Hid _ := hr2
  clear y0 y1 y2 y3 hr hr2 kf
  generalize ((v7.setCell ⟨B, 1, none⟩ (.slice p1 s.vals.length p2)).setCell ⟨B, 2, none⟩ (.slice p3 s.done.length p4)).setCell ⟨B, 3, none⟩ (.slice p8 s.got.length p9) = w8 at *
  obtain ⟨⟨z0, z1, z2, z3⟩, _⟩ := four_cell hb
  obtain ⟨⟨r0, r1, r2, r3⟩, _⟩ := four_cell HR2.out
  clear hb
  go_wp2_with fail
  obtain ⟨q1, q2⟩ := copied_end HB.out K0.out P7.out (lt_of_block X2.out) ((((KF.out.setCell (ad := ⟨B + 1, 0, none⟩) (by simp) (.string ⟨s.type.toArray⟩)).setCell (ad := ⟨B + 1, 1, none⟩) (by simp) (.slice p1 s.vals.length p2)).setCell (ad := ⟨B + 1, 2, none⟩) (by simp) (.slice p3 s.done.length p4)).setCell (ad := ⟨B + 1, 3, none⟩) (by simp) (.slice p8 s.got.length p9)) HA3.out HBn2.out HCn.out (Nat.le_refl _) L6.out L7.out L8.out
  refine bodyPost_ret (results_state rfl _ _ rfl (set_cell (set_cell (set_cell (set_cell HR2.out 0 _) 1 _) 2 _) 3 _) rfl) rfl ?_
  exact ⟨_, _, _, rfl, q1, q2⟩

end Go.Proofs.YtenejaghgehnoaaGreatDoor

namespace Go.Proofs.YtenejaghgehnoaaGreatDoor
open Go.RowKit

theorem own_nums {w : World} {g n base : Nat} (h : w.heap[g]? = some (.cells (madeCells #[.int .i64 0] n) 3 (0, 0))) (hb : base ≤ g) (hn : n ≤ 1000000) : w.ownsRow base 3 1 (.slice (some ⟨g, 0, none⟩) n n) n (iv (List.replicate n 0)) := by
  refine ⟨by simp [iv], .inr ⟨g, n, _, rfl, hb, h, Nat.le_refl _, by unfold maxLen; omega, by simp [madeCells], ?_⟩⟩
  rw [toList_madeCells_one]
  simp [iv]
theorem own_truths {w : World} {g n base : Nat} (h : w.heap[g]? = some (.cells (madeCells #[.bool false] n) 4 (0, 0))) (hb : base ≤ g) (hn : n ≤ 1000000) : w.ownsRow base 4 1 (.slice (some ⟨g, 0, none⟩) n n) n (bv (List.replicate n false)) := by
  refine ⟨by simp [bv], .inr ⟨g, n, _, rfl, hb, h, Nat.le_refl _, by unfold maxLen; omega, by simp [madeCells], ?_⟩⟩
  rw [toList_madeCells_one]
  simp [bv]

theorem iv_at (xs : List Int) (i : Nat) (h : i < xs.length) : (iv xs)[i]? = some (.int .i64 xs[i]) := by simp [iv, h]
theorem alloc_quad (w : World) (a b c d : Obj) : let W := ((((w.alloc a).alloc b).alloc c).alloc d).drew; W.heap[w.heap.size]? = some a ∧ W.heap[w.heap.size + 1]? = some b ∧ W.heap[w.heap.size + 1 + 1]? = some c ∧ W.heap[w.heap.size + 1 + 1 + 1]? = some d := by
  obtain ⟨h1, h2, h3⟩ := alloc_three w a b c
  have e : (((w.alloc a).alloc b).alloc c).heap.size = w.heap.size + 1 + 1 + 1 := by simp
  refine ⟨?_, ?_, ?_, ?_⟩
  · show ((((w.alloc a).alloc b).alloc c).alloc d).heap[w.heap.size]? = some a
    rw [heap_alloc_old _ _ (by omega)]; exact h1
  · show ((((w.alloc a).alloc b).alloc c).alloc d).heap[w.heap.size + 1]? = some b
    rw [heap_alloc_old _ _ (by omega)]; exact h2
  · show ((((w.alloc a).alloc b).alloc c).alloc d).heap[w.heap.size + 1 + 1]? = some c
    rw [heap_alloc_old _ _ (by omega)]; exact h3
  · show ((((w.alloc a).alloc b).alloc c).alloc d).heap[w.heap.size + 1 + 1 + 1]? = some d
    rw [← e]; exact heap_alloc_new _ d
/-- A new state's box, and its three rows. -/
structure Nw (w wx : World) (t : Ty) (D ga gs gm : Nat) : Prop where
  box : wx.heap[D]? = some (.cells #[.string ⟨t.name.toArray⟩, .slice (some ⟨ga, 0, none⟩) t.attrs.length t.attrs.length, .slice (some ⟨gs, 0, none⟩) t.stages.length t.stages.length, .slice (some ⟨gm, 0, none⟩) t.marks.length t.marks.length] 70 (0, 0))
  vals : wx.heap[ga]? = some (.cells (madeCells #[.int .i64 0] t.attrs.length) 3 (0, 0))
  done : wx.heap[gs]? = some (.cells (madeCells #[.bool false] t.stages.length) 4 (0, 0))
  got : wx.heap[gm]? = some (.cells (madeCells #[.bool false] t.marks.length) 4 (0, 0))
  low : w.heap.size ≤ D ∧ w.heap.size ≤ ga ∧ w.heap.size ≤ gs ∧ w.heap.size ≤ gm
  apart : gs ≠ gm ∧ D ≠ ga ∧ D ≠ gs ∧ D ≠ gm
  kept : Kept (fun _ => True) w wx
/-- While the starts are laid. -/
structure Nb (w wx : World) (t : Ty) (D ga gs gm : Nat) (i : Nat) : Prop where
  box : wx.heap[D]? = some (.cells #[.string ⟨t.name.toArray⟩, .slice (some ⟨ga, 0, none⟩) t.attrs.length t.attrs.length, .slice (some ⟨gs, 0, none⟩) t.stages.length t.stages.length, .slice (some ⟨gm, 0, none⟩) t.marks.length t.marks.length] 70 (0, 0))
  so : So wx w.heap.size (.slice (some ⟨ga, 0, none⟩) t.attrs.length t.attrs.length) (.slice (some ⟨gs, 0, none⟩) t.stages.length t.stages.length) (.slice (some ⟨gm, 0, none⟩) t.marks.length t.marks.length) { rawP t with vals := (t.attrs.take i).map At.start ++ List.replicate (t.attrs.length - i) 0 }
  low : w.heap.size ≤ D ∧ w.heap.size ≤ ga ∧ D ≠ ga
  kept : Kept (fun _ => True) w wx
theorem Nw.begin {w wx : World} {t : Ty} {D ga gs gm : Nat} (h : Nw w wx t D ga gs gm) (g : Good t) : Nb w wx t D ga gs gm 0 := by
  have := g.na; have := g.ns; have := g.nm
  refine ⟨h.box, ⟨?_, ?_, ?_, fun k e q => ?_⟩, ⟨h.low.1, h.low.2.1, h.apart.2.1⟩, h.kept⟩
  · have := own_nums h.vals h.low.2.1 (by omega)
    simpa using this
  · have := own_truths h.done h.low.2.2.1 (by omega)
    simpa [rawP] using this
  · have := own_truths h.got h.low.2.2.2 (by omega)
    simpa [rawP] using this
  · simp only [Value.ownBlock, Option.some.injEq] at e q
    exact h.apart.1 (e.trans q.symm)
theorem start_step (l : List At) (i : Nat) (h : i < l.length) : ((l.take i).map At.start ++ List.replicate (l.length - i) (0 : Int)).set i (l[i]).start = (l.take (i + 1)).map At.start ++ List.replicate (l.length - (i + 1)) 0 := by
  apply List.ext_getElem?
  intro k
  rw [List.getElem?_set]
  have e1 : ((l.take i).map At.start).length = i := by simp; omega
  have e2 : ((l.take (i + 1)).map At.start).length = i + 1 := by simp; omega
  by_cases hk : i = k
  · subst hk
    rw [if_pos rfl, if_pos (by simp; omega), List.getElem?_append_left (by omega)]
    simp [h]
  · rw [if_neg hk]
    rcases Nat.lt_or_ge k i with h1 | h1
    · rw [List.getElem?_append_left (by omega), List.getElem?_append_left (by omega)]
      simp [h1, show k < i + 1 by omega]
    · rw [List.getElem?_append_right (by omega), List.getElem?_append_right (by omega), e1, e2]
      simp only [List.getElem?_replicate]
      by_cases h2 : k < l.length
      · rw [if_pos (by omega), if_pos (by omega)]
      · rw [if_neg (by omega), if_neg (by omega)]
theorem Nb.put {w wx : World} {t : Ty} {D ga gs gm i : Nat} (h : Nb w wx t D ga gs gm i) (hi : i < t.attrs.length) : Nb w (wx.setCell ⟨ga, i, none⟩ (.int .i64 (t.attrs[i]).start)) t D ga gs gm (i + 1) := by
  have hl : t.attrs.length = ({ rawP t with vals := (t.attrs.take i).map At.start ++ List.replicate (t.attrs.length - i) 0 } : Sa).vals.length := by simp; omega
  have h2 := (h.so.setVal hl i (t.attrs[i]).start).1
  refine ⟨?_, ?_, h.low, h.kept.setNew h.low.2.1 _⟩
  · have k : Kept (· ≠ ga) wx (wx.setCell ⟨ga, i, none⟩ (.int .i64 (t.attrs[i]).start)) := (Kept.refl _ _).setCell (by simp) _
    exact (k.block D (lt_of_block h.box) h.low.2.2).trans h.box
  · simpa only [start_step t.attrs i hi] using h2
theorem Nb.all {w wx wy : World} {t : Ty} {D ga gs gm i : Nat} (h : Nb w wx t D ga gs gm i) (k : Kept (fun _ => True) wx wy) : Nb w wy t D ga gs gm i :=
  ⟨(k.block D (lt_of_block h.box) trivial).trans h.box, h.so.all k, h.low, h.kept.trans k⟩

set_option maxRecDepth 100000 in
set_option maxHeartbeats 8000000 in
theorem new_any {w : World} {tv : Value} {t : Ty} (ht : TyV w tv t) (g : Good t) :
    Calls Tryz.prog 208 #[tv] w fun e w' => ∃ v, e = .returned v ∧ StO w' w.heap.size v (newP t) ∧ Kept (fun _ => True) w w' := by
  have HTy : Hid (TyV w tv t) := ht
  obtain ⟨ta, ts, tm, rfl, ha, hss, hkk⟩ := ht
  obtain ⟨ao, ac, rfl, la⟩ := ha.form
  obtain ⟨so, sc, rfl, ls⟩ := hss.form
  obtain ⟨mo, mc, rfl, lm⟩ := hkk.form
  obtain ⟨x1, x2⟩ := alloc_two w (.cells #[.string ⟨t.name.toArray⟩, .slice ao t.attrs.length ac, .slice so t.stages.length sc, .slice mo t.marks.length mc] 54) (.cells #[.string ⟨#[]⟩, .slice none 0 0, .slice none 0 0, .slice none 0 0] 70)
  have hk1 : Kept (fun _ => True) w ((w.alloc (.cells #[.string ⟨t.name.toArray⟩, .slice ao t.attrs.length ac, .slice so t.stages.length sc, .slice mo t.marks.length mc] 54)).alloc (.cells #[.string ⟨#[]⟩, .slice none 0 0, .slice none 0 0, .slice none 0 0] 70)) := ((Kept.refl _ _).alloc _).alloc _
  have cs := small_any (HTy.out.all hk1) g
  obtain ⟨⟨y0, y1, y2, y3⟩, _⟩ := four_cell x1
  have X1 : Hid _ := x1
  have X2 : Hid _ := x2
  have K1 : Hid _ := hk1
  have HGd : Hid (Good t) := g
  have hna := g.na
  have hns := g.ns
  have hnm := g.nm
  clear ha hss hkk x1 x2 hk1 g
  go_enter Tryz.func208, Tryz.ntmps208
  go_wp2_with fail
  refine Calls.mono cs ?_
  rintro e w2 ⟨rfl, k2⟩
  have hB1 := (k2.block _ (lt_of_block X1.out) trivial).trans X1.out
  have hB2 := (k2.block _ (lt_of_block X2.out) trivial).trans X2.out
  have K2 : Hid (Kept (fun _ => True) w w2) := K1.out.trans k2
  have HX1 : Hid _ := hB1
  have HX2 : Hid _ := hB2
  clear cs y0 y1 y2 y3 k2 X1 X2 K1
  obtain ⟨B, hB⟩ : ∃ B, B = w.heap.size := ⟨_, rfl⟩
  have HB : Hid (B = w.heap.size) := hB
  rw [← hB] at HX1 HX2 hB1 hB2 ⊢
  clear hB
  go_upto_region 3 with fail
  have kd : Kept (fun _ => True) w2 w2.drew := (Kept.refl _ _).drew
  obtain ⟨⟨y0, y1, y2, y3⟩, _⟩ := four_cell hB1
  have Y0 := fun W (q : Kept (fun _ => True) w2 W) => (kept_cell q (lt_of_block hB1) trivial).trans y0
  have Y1 := fun W (q : Kept (fun _ => True) w2 W) => (kept_cell q (lt_of_block hB1) trivial).trans y1
  have Y2 := fun W (q : Kept (fun _ => True) w2 W) => (kept_cell q (lt_of_block hB1) trivial).trans y2
  have Y3 := fun W (q : Kept (fun _ => True) w2 W) => (kept_cell q (lt_of_block hB1) trivial).trans y3
  have mA := make_nums t.attrs.length (by omega)
  have mS := make_truths t.stages.length (by omega)
  have mM := make_truths t.marks.length (by omega)
  clear y0 y1 y2 y3 hB1 hB2
  go_cut [3] from 10 to 24 (fun t3 wx => ∃ D ga gs gm : Nat, t3 = .pointer (some ⟨D, 0, none⟩) ∧ Nw w2 wx t D ga gs gm)
  case first =>
    go_region_held3 (fun W => Kept (fun _ => True) w2 W) (first | assumption | (repeat (first | exact Kept.refl _ _ | refine Kept.drew ?_ | refine Kept.alloc ?_ _))) (fail)
    all_goals
      go_wp2_with fail
      go_meet
      exact ⟨_, _, _, _, rfl, ⟨(by first | exact (alloc_quad _ _ _ _ _).1 | exact (alloc_quad _ _ _ _ _).2.1 | exact (alloc_quad _ _ _ _ _).2.2.1 | exact (alloc_quad _ _ _ _ _).2.2.2), (by first | exact (alloc_quad _ _ _ _ _).1 | exact (alloc_quad _ _ _ _ _).2.1 | exact (alloc_quad _ _ _ _ _).2.2.1 | exact (alloc_quad _ _ _ _ _).2.2.2), (by first | exact (alloc_quad _ _ _ _ _).1 | exact (alloc_quad _ _ _ _ _).2.1 | exact (alloc_quad _ _ _ _ _).2.2.1 | exact (alloc_quad _ _ _ _ _).2.2.2), (by first | exact (alloc_quad _ _ _ _ _).1 | exact (alloc_quad _ _ _ _ _).2.1 | exact (alloc_quad _ _ _ _ _).2.2.1 | exact (alloc_quad _ _ _ _ _).2.2.2), ⟨by omega, by omega, by omega, by omega⟩, ⟨by omega, by omega, by omega, by omega⟩, (((((Kept.refl _ _).alloc _).alloc _).alloc _).alloc _).drew⟩⟩
  case rest =>
  obtain ⟨D, ga, gs, gm, rfl, hnw⟩ := hcut
  have hnb := hnw.begin HGd.out
  have HNb : Hid (Nb w2 wc t D ga gs gm 0) := hnb
  have hB1 := (hnb.kept.block _ (lt_of_block HX1.out) trivial).trans HX1.out
  obtain ⟨⟨y0, y1, y2, y3⟩, _⟩ := four_cell hB1
  clear hnw hnb hB1 Y0 Y1 Y2 Y3 mA mS mM kd
  have HAt : Hid (Av w2 (.slice ao t.attrs.length ac) t.attrs) := by
    obtain ⟨va', _, _, e4, hA', _, _⟩ := HTy.out.all K2.out
    cases e4
    exact hA'
  go_wp2_with fail
  clear y0 y1 y2 y3
  go_loopw [4, 5, 28] (fun _ _ ti wr => ∃ i : Nat, i ≤ t.attrs.length ∧ ti = .int .i64 i ∧ Nb w2 wr t D ga gs gm i) (fun _ _ ti _ => t.attrs.length - (intOf ti).toNat)
  case atStart => exact ⟨0, Nat.zero_le _, rfl, HNb.out⟩
  case round =>
  obtain ⟨i, hi, rfl, hnb⟩ := hrel
  have HN2 : Hid (Nb w2 wr t D ga gs gm i) := hnb
  by_cases hlt : i < t.attrs.length
  · obtain ⟨b, off, rfl, hb, q0, q1, q2, q3⟩ := (HAt.out.all hnb.kept).at i hlt
    have i1 : (i : Int) < (t.attrs.length : Int) := by omega
    have i0 : (0 : Int) ≤ (i : Int) := by omega
    have ka : Kept (fun _ => True) wr (wr.alloc (.cells #[.string ⟨(t.attrs[i]).name.toArray⟩, .int .i64 (t.attrs[i]).start, .int .i64 (t.attrs[i]).lo, .int .i64 (t.attrs[i]).hi] 88)) := (Kept.refl _ _).alloc _
    have hn3 := hnb.all ka
    obtain ⟨⟨z0, z1, z2, z3⟩, _⟩ := four_cell hn3.box
    have hvl : ({ rawP t with vals := (t.attrs.take i).map At.start ++ List.replicate (t.attrs.length - i) 0 } : Sa).vals.length = t.attrs.length := by simp; omega
    have hrow := hn3.so.vals
    rw [hvl] at hrow
    have hc := hrow.cellAt i (by omega)
    obtain ⟨old, ho⟩ : ∃ old : Int, (iv ((t.attrs.take i).map At.start ++ List.replicate (t.attrs.length - i) 0))[i]? = some (.int .i64 old) := by
      exact ⟨_, iv_at _ i (by simp; omega)⟩
    rw [show (iv ({ rawP t with vals := (t.attrs.take i).map At.start ++ List.replicate (t.attrs.length - i) 0 } : Sa).vals)[i]? = some (.int .i64 old) from ho] at hc
    have hf := hrow.frozenAt i
    have HN4 : Hid _ := hn3.put hlt
    clear hnb hn3 hrow hvl ho ka hb
    generalize t.attrs[i] = x at *
    go_wp2_with fail
    go_roundw
    case rel => exact ⟨i + 1, by omega, by go_num, HN4.out⟩
    case measure => simp [intOf]; omega
  · have i1 : ¬ (i : Int) < (t.attrs.length : Int) := by omega
    have hraw : ({ rawP t with vals := (t.attrs.take i).map At.start ++ List.replicate (t.attrs.length - i) 0 } : Sa) = rawP t := by
      rw [List.take_of_length_le (by omega), show t.attrs.length - i = 0 by omega]
      simp [rawP]
    have hso := hnb.so
    rw [hraw] at hso
    have hB1 := (hnb.kept.block _ (lt_of_block HX1.out) trivial).trans HX1.out
    obtain ⟨⟨y0, y1, y2, y3⟩, _⟩ := four_cell hB1
    obtain ⟨⟨z0, z1, z2, z3⟩, _⟩ := four_cell hnb.box
    have cst := settle_any (HTy.out.all K2.out) (hnb.kept.mono fun _ _ _ => trivial) hso HGd.out (Fit.raw HGd.out).sz
    have hgm : D ≠ gm := fun e => by
      have h1 := hnb.box
      have h2 := hso.got
      rcases h2.2 with ⟨q, _⟩ | ⟨g', c', cur, q, _, hg', _⟩
      · cases (Value.slice.inj q).1
      · cases (Value.slice.inj q).1
        rw [← e, h1] at hg'
        simp at hg'
    have HGM : Hid _ := hgm
    have HSo : Hid _ := hso
    clear hnb hraw hso hB1 hgm
    have e1 : (rawP t).type = t.name := rfl
    rw [e1] at cst
    go_wp2_with fail
    refine Calls.mono cst ?_
    rintro e w5 ⟨rfl, hs5, k5⟩
    have hbx := (k5.block D (lt_of_block HN2.out.box) (by simp only [Value.ownBlock, ne_eq, Option.some.injEq]; exact Ne.symm HGM.out)).trans HN2.out.box
    have klow := HSo.out.lowG k5
    have hrs := ((klow.block (B + 1) (by have := lt_of_block HX2.out; have := HN2.out.kept.size; omega) (lt_of_block HX2.out)).trans (HN2.out.kept.block (B + 1) (lt_of_block HX2.out) trivial)).trans HX2.out
    obtain ⟨⟨x0, x1, x2, x3⟩, _⟩ := four_cell hbx
    obtain ⟨⟨r0, r1, r2, r3⟩, _⟩ := four_cell hrs
    have HRS : Hid _ := hrs
    have HS5 : Hid _ := hs5
    have K5 : Hid (Kept (· < w2.heap.size) w2 w5) := (HN2.out.kept.mono fun _ _ _ => trivial).trans klow
    clear cst y0 y1 y2 y3 z0 z1 z2 z3 hbx hrs hs5 k5 klow
    go_wp2_with fail
    have kz : Kept (fun i => i ≠ B + 1) w5 ((((w5.setCell ⟨B + 1, 0, none⟩ (.string ⟨t.name.toArray⟩)).setCell ⟨B + 1, 1, none⟩ (.slice (some ⟨ga, 0, none⟩) t.attrs.length t.attrs.length)).setCell ⟨B + 1, 2, none⟩ (.slice (some ⟨gs, 0, none⟩) t.stages.length t.stages.length)).setCell ⟨B + 1, 3, none⟩ (.slice (some ⟨gm, 0, none⟩) t.marks.length t.marks.length)) := ((((Kept.refl _ w5).setCell (by simp) _).setCell (by simp) _).setCell (by simp) _).setCell (by simp) _
    have hlt1 := lt_of_block HX2.out
    have hsz := K2.out.size
    refine bodyPost_ret (results_state rfl _ _ rfl (set_cell (set_cell (set_cell (set_cell HRS.out 0 _) 1 _) 2 _) 3 _) rfl) rfl ⟨_, rfl, ⟨.slice (some ⟨ga, 0, none⟩) t.attrs.length t.attrs.length, .slice (some ⟨gs, 0, none⟩) t.stages.length t.stages.length, .slice (some ⟨gm, 0, none⟩) t.marks.length t.marks.length, ?_, ?_⟩, ?_⟩
    · rw [show (newP t).type = t.name from (settled_grows t (rawP t)).type]
      rfl
    · have hso := HS5.out
      exact ⟨ownsRow_low (own_keep hso.vals kz (fun k e q => by have := (hso.vals.lt k e).1; omega)) hsz, ownsRow_low (own_keep hso.done kz (fun k e q => by have := (hso.done.lt k e).1; omega)) hsz, ownsRow_low (own_keep hso.got kz (fun k e q => by have := (hso.got.lt k e).1; omega)) hsz, hso.apart⟩
    · exact (K2.out.then K5.out (fun i hi _ => by show i < _; omega)).then kz (fun i hi _ => by have := HB.out; omega)

end Go.Proofs.YtenejaghgehnoaaGreatDoor

namespace Go.Proofs.YtenejaghgehnoaaGreatDoor
open Go.RowKit

theorem zip_at {α β : Type} {l : List α} {m : List β} {i : Nat} (h : i < l.length) (h' : i < m.length) : ∃ hz : i < (l.zip m).length, (l.zip m)[i] = (l[i], m[i]) := ⟨by simp; omega, by simp⟩
theorem flat_le {α : Type} (f : α → List UInt8) (pre : List UInt8) (l : List α) (i N : Nat) (h : (pre ++ l.flatMap f).length ≤ N) : (pre ++ (l.take i).flatMap f).length ≤ N := by
  have e : (pre ++ (l.take i).flatMap f) ++ (l.drop i).flatMap f = pre ++ l.flatMap f := by rw [List.append_assoc, ← List.flatMap_append, List.take_append_drop]
  rw [← e, List.length_append] at h
  omega
/-- While a text is written: what was there, the two boxes, the builder at S. -/
structure Wq (B : Nat) (w wr : World) (o p : Obj) (S : Nat) (l : List UInt8) : Prop where
  here : B = w.heap.size
  kept : Kept (fun _ => True) w wr
  box : wr.heap[B]? = some o
  box2 : wr.heap[B + 1]? = some p
  bu : Bu wr S S l
  far : B + 1 < S
theorem Wq.all {B : Nat} {w wr w' : World} {o p : Obj} {S : Nat} {l : List UInt8} (h : Wq B w wr o p S l) (k : Kept (fun _ => True) wr w') : Wq B w w' o p S l :=
  ⟨h.here, h.kept.trans k, (k.block _ (lt_of_block h.box) trivial).trans h.box, (k.block _ (lt_of_block h.box2) trivial).trans h.box2, h.bu.all k, h.far⟩
theorem Wq.write {B : Nat} {w wr w' : World} {o p : Obj} {S : Nat} {l l' : List UInt8} (h : Wq B w wr o p S l) (k : Below S wr w') (hb : Bu w' S S l') : Wq B w w' o p S l' :=
  ⟨h.here, h.kept.then ⟨k.os, k.tape, k.output, k.size, fun i _ hp => k.block i hp⟩ (fun i hi _ => by have := h.far; have := h.here; show i < _; omega), (k.block _ (by have := h.far; omega)).trans h.box, (k.block _ (by have := h.far; omega)).trans h.box2, hb, h.far⟩
theorem Kept.ofWrite {w w' : World} {S G : Nat} {cs : Array Value} (k : Below S w w') (o : Lib.OthersKept 5 (some S) w w') (hG : w.heap[G]? = some (.cells cs 88 (0, 0))) (hne : G ≠ S) : Kept (fun i => i < S ∨ i = G) w w' :=
  ⟨k.os, k.tape, k.output, k.size, fun i _ hp => by
    rcases hp with hp | rfl
    · exact k.block i hp
    · rw [other_attr o hG hne, hG]⟩
theorem text_two (a b : List UInt8) (N : Nat) (h : a.length + b.length ≤ N) (hN : N ≤ 140737488355328) : ∃ y : List UInt8, Hid (y = a ++ b) ∧ y.length = a.length + b.length ∧ ∀ W, (Op.stringOp .add ⟨a.toArray⟩ ⟨b.toArray⟩).run Tryz.prog W = .ok (.string ⟨y.toArray⟩) W := ⟨a ++ b, rfl, by simp, text_plus a b (by omega)⟩

set_option maxRecDepth 100000 in
set_option maxHeartbeats 8000000 in
theorem ctext_any {w : World} {tv sv : Value} {t : Ty} {s : Sa} (ht : TyV w tv t) (hs : StV w sv s) (g : Good t) (f : Fit t s) (hTab : Tab w) (hl : (textP t s).length ≤ 1000000) :
    Calls Tryz.prog 214 #[tv, sv] w fun e w' => e = .returned (.string ⟨(textP t s).toArray⟩) ∧ Kept (fun _ => True) w w' := by
  have HTy : Hid (TyV w tv t) := ht
  have HSt : Hid (StV w sv s) := hs
  obtain ⟨ta, ts, tm, rfl, ha, hss, hkk⟩ := ht
  obtain ⟨ao, ac, rfl, la⟩ := ha.form
  obtain ⟨so, sc, rfl, ls⟩ := hss.form
  obtain ⟨mo, mc, rfl, lm⟩ := hkk.form
  obtain ⟨va, vd, vg, rfl, h1, h2, h3⟩ := hs
  obtain ⟨vo, vc, rfl, -, -⟩ := h1.ints
  obtain ⟨eo, ec, rfl, -, -⟩ := h2.bools
  obtain ⟨go, gc, rfl, -, -⟩ := h3.bools
  obtain ⟨x1, x2⟩ := alloc_two w (.cells #[.string ⟨t.name.toArray⟩, .slice ao t.attrs.length ac, .slice so t.stages.length sc, .slice mo t.marks.length mc] 54) (.cells #[.string ⟨s.type.toArray⟩, .slice vo s.vals.length vc, .slice eo s.done.length ec, .slice go s.got.length gc] 70)
  have hk1 : Kept (fun _ => True) w ((w.alloc (.cells #[.string ⟨t.name.toArray⟩, .slice ao t.attrs.length ac, .slice so t.stages.length sc, .slice mo t.marks.length mc] 54)).alloc (.cells #[.string ⟨s.type.toArray⟩, .slice vo s.vals.length vc, .slice eo s.done.length ec, .slice go s.got.length gc] 70)) := ((Kept.refl _ _).alloc _).alloc _
  have cs := sound_any (HTy.out.all hk1) (HSt.out.all hk1) g f
  obtain ⟨⟨y0, y1, y2, y3⟩, _⟩ := four_cell x1
  obtain ⟨⟨z0, z1, z2, z3⟩, _⟩ := four_cell x2
  have HA : Hid (Av w (.slice ao t.attrs.length ac) t.attrs) := ha
  have HS : Hid (Rv w (.slice so t.stages.length sc) t.stages) := hss
  have HM : Hid (Rv w (.slice mo t.marks.length mc) t.marks) := hkk
  have HV : Hid (Cv w (.slice vo s.vals.length vc) (iv s.vals)) := h1
  have HE : Hid (Cv w (.slice eo s.done.length ec) (bv s.done)) := h2
  have HG : Hid (Cv w (.slice go s.got.length gc) (bv s.got)) := h3
  have HTb : Hid (Tab w) := hTab
  have HF : Hid (Fit t s) := f
  have HGd : Hid (Good t) := g
  have K1 : Hid _ := hk1
  have X1 : Hid _ := x1
  have X2 : Hid _ := x2
  have HL3 : Hid ((t.name ++ (t.attrs.zip s.vals).flatMap tA ++ (t.stages.zip s.done).flatMap tS ++ (t.marks.zip s.got).flatMap tM).length ≤ 1000000) := hl
  have HL2 : Hid ((t.name ++ (t.attrs.zip s.vals).flatMap tA ++ (t.stages.zip s.done).flatMap tS).length ≤ 1000000) := by
    have := HL3.out; rw [List.length_append] at this; show _ ≤ _; omega
  have HL1 : Hid ((t.name ++ (t.attrs.zip s.vals).flatMap tA).length ≤ 1000000) := by
    have := HL2.out; rw [List.length_append] at this; show _ ≤ _; omega
  have HL0 : Hid (t.name.length ≤ 1000000) := by
    have := HL1.out; rw [List.length_append] at this; show _ ≤ _; omega
  obtain ⟨WT, hWT⟩ : ∃ WT, WT = textP t s := ⟨_, rfl⟩
  have HWT : Hid (t.name ++ (t.attrs.zip s.vals).flatMap tA ++ (t.stages.zip s.done).flatMap tS ++ (t.marks.zip s.got).flatMap tM = WT) := hWT.symm
  rw [← hWT]
  have ev : s.vals.length = t.attrs.length := f.sz.vals
  have ed : s.done.length = t.stages.length := f.sz.done
  have eg : s.got.length = t.marks.length := f.sz.got
  have EV : Hid _ := ev
  have ED : Hid _ := ed
  have EG : Hid _ := eg
  clear ha hss hkk h1 h2 h3 x1 x2 hk1 g f hTab hl hWT ev ed eg
  go_enter Tryz.func214, Tryz.ntmps214
  go_wp2_with fail
  refine Calls.mono cs ?_
  obtain ⟨B, hBB⟩ : ∃ B, B = w.heap.size := ⟨_, rfl⟩
  have HBB : Hid (B = w.heap.size) := hBB
  rw [← hBB] at X1 X2 ⊢
  clear hBB
  rintro e w2 ⟨rfl, k2⟩
  have hB1 := (k2.block _ (lt_of_block X1.out) trivial).trans X1.out
  have hB2 := (k2.block _ (lt_of_block X2.out) trivial).trans X2.out
  have K2 : Hid (Kept (fun _ => True) w w2) := K1.out.trans k2
  have ka : Kept (fun _ => True) w2 (w2.alloc (.cells #[.pointer none, .slice none 0 0] 299)) := (Kept.refl _ _).alloc _
  obtain ⟨O1, hO1⟩ : ∃ o, o = Obj.cells #[.string ⟨t.name.toArray⟩, .slice ao t.attrs.length ac, .slice so t.stages.length sc, .slice mo t.marks.length mc] 54 := ⟨_, rfl⟩
  obtain ⟨O2, hO2⟩ : ∃ o, o = Obj.cells #[.string ⟨s.type.toArray⟩, .slice vo s.vals.length vc, .slice eo s.done.length ec, .slice go s.got.length gc] 70 := ⟨_, rfl⟩
  have HO1 : Hid _ := hO1
  have HO2 : Hid _ := hO2
  have hW0 : Wq B w (w2.alloc (.cells #[.pointer none, .slice none 0 0] 299)) O1 O2 w2.heap.size [] := by
    refine ⟨HBB.out, K2.out.trans ka, ?_, ?_, .inl ⟨Nat.le_refl _, .slice none 0 0, heap_alloc_new _ _, World.ownsRowF_nil _ _ _ _, by simp [Value.ownBlock]⟩, ?_⟩
    · rw [hO1]; exact (ka.block _ (lt_of_block hB1) trivial).trans hB1
    · rw [hO2]; exact (ka.block _ (lt_of_block hB2) trivial).trans hB2
    · exact lt_of_block hB2
  have cw := writeS_any hW0.bu t.name (by have := HL0.out; simp; omega) (by have := hW0.bu.lt; omega)
  have hbx := hW0.box
  rw [hO1] at hbx
  have HW0 : Hid _ := hW0
  clear cs y0 y1 y2 y3 z0 z1 z2 z3 k2 X1 X2 K1 hB1 hB2 ka hO1 hO2 hW0
  obtain ⟨⟨y0, y1, y2, y3⟩, _⟩ := four_cell hbx
  obtain ⟨S, hS⟩ : ∃ S, S = w2.heap.size := ⟨_, rfl⟩
  rw [← hS] at cw HW0
  go_wp2_with fail
  rw [← hS]
  refine Calls.mono cw ?_
  rintro e w3 ⟨⟨r, rfl⟩, hb3, k3, _⟩
  have hW3 := HW0.out.write k3 (by simpa using hb3)
  have hbx3 := hW3.box
  rw [HO1.out] at hbx3
  have HW3 : Hid (Wq B w w3 O1 O2 S t.name) := hW3
  clear y0 y1 y2 y3 hbx cw hb3 k3 HW0 hW3 hS
  obtain ⟨⟨y0, y1, y2, y3⟩, _⟩ := four_cell hbx3
  clear hbx3
  go_wp2_with fail
  clear y0 y1 y2 y3
  go_loopw [6, 7, 22] (fun _ _ ti wr => ∃ i : Nat, i ≤ t.attrs.length ∧ ti = .int .i64 i ∧ Wq B w wr O1 O2 S (t.name ++ ((t.attrs.zip s.vals).take i).flatMap tA)) (fun _ _ ti _ => t.attrs.length - (intOf ti).toNat)
  case atStart => exact ⟨0, Nat.zero_le _, rfl, by simpa using HW3.out⟩
  case round =>
  obtain ⟨i, hi, rfl, hW⟩ := hrel
  have HW : Hid (Wq B w wr O1 O2 S (t.name ++ ((t.attrs.zip s.vals).take i).flatMap tA)) := hW
  by_cases hlt : i < t.attrs.length
  · have hv : i < s.vals.length := by rw [EV.out]; exact hlt
    obtain ⟨b, off, rfl, hb, q0, q1, q2, q3⟩ := (HA.out.all hW.kept).at i hlt
    obtain ⟨b2, off2, rfl, hb2, c00⟩ := HV.out.intAt i hv
    have c0 := (kept_cell hW.kept hb2 (o := off2 + i) trivial).trans c00
    have hb2w : b2 < wr.heap.size := Nat.lt_of_lt_of_le hb2 hW.kept.size
    have HB2 : Hid (b2 < w.heap.size) := hb2
    clear c00 hb2
    obtain ⟨hz1, hz2⟩ := zip_at hlt hv
    have HFin : Hid (t.name ++ ((t.attrs.zip s.vals).take (i + 1)).flatMap tA = t.name ++ ((t.attrs.zip s.vals).take i).flatMap tA ++ tA (t.attrs[i], s.vals[i])) := by
      show _ = _
      rw [flat_take_succ _ _ _ hz1, hz2, List.append_assoc]
    have hlen := flat_le tA t.name (t.attrs.zip s.vals) (i + 1) _ HL1.out
    rw [HFin.out] at hlen
    have hbd : -1000 ≤ s.vals[i] ∧ s.vals[i] ≤ 1000 := by
      have h1 := HF.out.within i hlt
      have h2 := HGd.out.ranges t.attrs[i] (List.getElem_mem hlt)
      simp only [List.getD_eq_getElem?_getD, hlt, hv, List.getElem?_eq_getElem, Option.getD_some, wthn, Bool.and_eq_true, decide_eq_true_eq] at h1
      omega
    have i1 : (i : Int) < (t.attrs.length : Int) := by omega
    have i2 : (i : Int) < (s.vals.length : Int) := by omega
    have i0 : (0 : Int) ≤ (i : Int) := by omega
    clear hz1 hz2 hb
    generalize t.attrs[i] = x at *
    generalize s.vals[i] = n at *
    generalize t.name ++ ((t.attrs.zip s.vals).take i).flatMap tA = pre at *
    have ka : Kept (fun _ => True) wr (wr.alloc (.cells #[.string ⟨x.name.toArray⟩, .int .i64 x.start, .int .i64 x.lo, .int .i64 x.hi] 88)) := (Kept.refl _ _).alloc _
    have hW4 := hW.all ka
    have hG := heap_alloc_new wr (.cells #[.string ⟨x.name.toArray⟩, .int .i64 x.start, .int .i64 x.lo, .int .i64 x.hi] 88)
    have c1 := (kept_cell ka hb2w (o := off2 + i) trivial).trans c0
    have hb3 : b2 < (wr.alloc (.cells #[.string ⟨x.name.toArray⟩, .int .i64 x.start, .int .i64 x.lo, .int .i64 x.hi] 88)).heap.size := Nat.lt_of_lt_of_le hb2w ka.size
    have hbx := hW4.box2
    rw [HO2.out] at hbx
    have HW4 : Hid (Wq B w (wr.alloc (.cells #[.string ⟨x.name.toArray⟩, .int .i64 x.start, .int .i64 x.lo, .int .i64 x.hi] 88)) O1 O2 S pre) := hW4
    simp only [tA, List.length_append, List.length_singleton] at hlen
    obtain ⟨ya, hya, lya, ja⟩ := text_two [32] x.name 1000000 (by simp only [List.length_singleton]; omega) (by omega)
    obtain ⟨yb, hyb, lyb, jb⟩ := text_two ya [61] 1000000 (by simp only [List.length_singleton] at lya ⊢; omega) (by omega)
    obtain ⟨yc, hyc, lyc, jc⟩ := text_two yb (Lib.itoa n) 1000000 (by simp only [List.length_singleton] at lya lyb; omega) (by omega)
    have HY : Hid (yc = tA (x, n)) := by show _ = _; rw [hyc.out, hyb.out, hya.out]; rfl
    have HYl : Hid (pre.length + yc.length ≤ 1000000) := by
      show _ ≤ _
      simp only [List.length_singleton] at lya lyb
      omega
    have HBd : Hid _ := hbd
    clear hW hW4 ka c0 hb2w hlen lya lyb lyc hya hyb hyc hbd
    go_upto_region 8 with fail
    generalize wr.alloc (.cells #[.string ⟨x.name.toArray⟩, .int .i64 x.start, .int .i64 x.lo, .int .i64 x.hi] 88) = w4 at *
    generalize wr.heap.size = G at *
    obtain ⟨⟨g0, g1, g2, g3⟩, _⟩ := four_cell hG
    obtain ⟨⟨z0, z1, z2, z3⟩, _⟩ := four_cell hbx
    have hGS : G ≠ S := by
      intro e
      have h1 := HW4.out.bu
      subst e
      rcases h1 with h1 | h1
      · obtain ⟨_, v, h2, _⟩ := h1
        rw [hG] at h2
        simp at h2
      · obtain ⟨_, v, h2, _⟩ := h1
        rw [hG] at h2
        simp at h2
    have HGS : Hid _ := hGS
    have HG4 : Hid _ := hG
    have hfar := HW4.out.far
    have hbS : b2 < S := by have := HB2.out; have := HBB.out; omega
    have hB1S : B + 1 < S := hfar
    have G0 := fun W (q : Kept (fun i => i < S ∨ i = G) w4 W) => (kept_cell q (lt_of_block hG) (Or.inr rfl)).trans g0
    have G1 := fun W (q : Kept (fun i => i < S ∨ i = G) w4 W) => (kept_cell q (lt_of_block hbx) (Or.inl hB1S)).trans z1
    have C1 := fun W (q : Kept (fun i => i < S ∨ i = G) w4 W) => (kept_cell q hb3 (Or.inl hbS)).trans c1
    have kd : Kept (fun i => i < S ∨ i = G) w4 w4.drew := (Kept.refl _ _).drew
    clear g0 g1 g2 g3 z0 z1 z2 z3 c1 hb3 hG hbx hGS hfar hbS hB1S q0 q1 q2 q3
    go_region_held3 (fun W => Kept (fun i => i < S ∨ i = G) w4 W) (assumption) (first
      | (go_at_call 234; refine Calls.mono (itoa_any n (by have := HBd.out; omega) (by have := HBd.out; omega) (HTb.out.all HW4.out.kept.drew)) ?_; rintro e w5 ⟨rfl, k5⟩; have HK5 : Hid (Kept (fun _ => True) w4 w5) := (Kept.refl _ _).drew.trans k5; have p5 : Kept (fun i => i < S ∨ i = G) w4 w5 := HK5.out.mono (fun _ _ _ => trivial); clear k5)
      | (go_at_call 233; refine Calls.mono (writeS_any (HW4.out.all HK5.out).bu yc (by have := HYl.out; omega) (by have := (HW4.out.all HK5.out).bu.lt; omega)) ?_; rintro e w6 ⟨⟨r6, rfl⟩, hb6, k6, o6⟩; have HW6 : Hid (Wq B w w6 O1 O2 S (pre ++ yc)) := (HW4.out.all HK5.out).write k6 hb6; have p6 : Kept (fun i => i < S ∨ i = G) w4 w6 := p5.trans (Kept.ofWrite k6 o6 ((HK5.out.block _ (lt_of_block HG4.out) trivial).trans HG4.out) HGS.out); clear hb6 k6 o6))
    all_goals
      have HW7 : Hid (Wq B w w6 O1 O2 S (t.name ++ ((t.attrs.zip s.vals).take (i + 1)).flatMap tA)) := by
        have := HW6.out
        rw [HY.out, ← HFin.out] at this
        exact this
      clear G0 G1 C1 kd p5 p6 ja jb jc
      go_wp2_with fail
      go_roundw
      case rel => exact ⟨i + 1, by omega, by go_num, HW7.out⟩
      case measure => simp [intOf]; omega
  · have i1 : ¬ (i : Int) < (t.attrs.length : Int) := by omega
    have HPS : Hid (Wq B w wr O1 O2 S (t.name ++ (t.attrs.zip s.vals).flatMap tA)) := by
      have := HW.out
      rw [List.take_of_length_le (by simp; omega)] at this
      exact this
    have hbx := HPS.out.box
    rw [HO1.out] at hbx
    obtain ⟨⟨y0, y1, y2, y3⟩, _⟩ := four_cell hbx
    clear hW HW hbx
    go_wp2_with fail
    clear y0 y1 y2 y3
    go_loopw [8, 9, 43] (fun _ _ ti wr => ∃ i : Nat, i ≤ t.stages.length ∧ ti = .int .i64 i ∧ Wq B w wr O1 O2 S (t.name ++ (t.attrs.zip s.vals).flatMap tA ++ ((t.stages.zip s.done).take i).flatMap tS)) (fun _ _ ti _ => t.stages.length - (intOf ti).toNat)
    case atStart => exact ⟨0, Nat.zero_le _, rfl, by simpa using HPS.out⟩
    case round =>
    obtain ⟨i, hi, rfl, hW⟩ := hrel
    have HW : Hid (Wq B w wr O1 O2 S (t.name ++ (t.attrs.zip s.vals).flatMap tA ++ ((t.stages.zip s.done).take i).flatMap tS)) := hW
    by_cases hlt : i < t.stages.length
    · have hv : i < s.done.length := by rw [ED.out]; exact hlt
      obtain ⟨b, off, rfl, hb, q0, q1⟩ := (HS.out.all hW.kept).at i hlt
      obtain ⟨b2, off2, rfl, hb2, c00⟩ := HE.out.boolAt i hv
      have c0 := (kept_cell hW.kept hb2 (o := off2 + i) trivial).trans c00
      have hb2w : b2 < wr.heap.size := Nat.lt_of_lt_of_le hb2 hW.kept.size
      obtain ⟨hz1, hz2⟩ := zip_at hlt hv
      have HFin : Hid (t.name ++ (t.attrs.zip s.vals).flatMap tA ++ ((t.stages.zip s.done).take (i + 1)).flatMap tS = t.name ++ (t.attrs.zip s.vals).flatMap tA ++ ((t.stages.zip s.done).take i).flatMap tS ++ tS (t.stages[i], s.done[i])) := by
        show _ = _
        rw [flat_take_succ _ _ _ hz1, hz2]
        simp only [List.append_assoc]
      have hlen := flat_le tS (t.name ++ (t.attrs.zip s.vals).flatMap tA) (t.stages.zip s.done) (i + 1) _ HL2.out
      rw [HFin.out] at hlen
      have i1 : (i : Int) < (t.stages.length : Int) := by omega
      have i2 : (i : Int) < (s.done.length : Int) := by omega
      have i0 : (0 : Int) ≤ (i : Int) := by omega
      clear hz1 hz2 hb c00
      generalize t.stages[i] = x at *
      generalize s.done[i] = n at *
      generalize t.name ++ (t.attrs.zip s.vals).flatMap tA ++ ((t.stages.zip s.done).take i).flatMap tS = pre at *
      have ka : Kept (fun _ => True) wr (wr.alloc (.cells #[.string ⟨x.name.toArray⟩, .string ⟨x.guard.toArray⟩] 90)) := (Kept.refl _ _).alloc _
      have hW4 := hW.all ka
      have hG := heap_alloc_new wr (.cells #[.string ⟨x.name.toArray⟩, .string ⟨x.guard.toArray⟩] 90)
      have c1 := (kept_cell ka hb2w (o := off2 + i) trivial).trans c0
      have hbx := hW4.box2
      rw [HO2.out] at hbx
      have HW4 : Hid (Wq B w (wr.alloc (.cells #[.string ⟨x.name.toArray⟩, .string ⟨x.guard.toArray⟩] 90)) O1 O2 S pre) := hW4
      obtain ⟨⟨z0, z1, z2, z3⟩, _⟩ := four_cell hbx
      clear hW hW4 ka c0 hb2 hb2w hbx
      cases n with
      | false =>
        have HQ : Hid (Wq B w (wr.alloc (.cells #[.string ⟨x.name.toArray⟩, .string ⟨x.guard.toArray⟩] 90)) O1 O2 S (t.name ++ (t.attrs.zip s.vals).flatMap tA ++ ((t.stages.zip s.done).take (i + 1)).flatMap tS)) := by
          have h4 := HW4.out
          show Wq _ _ _ _ _ _ _
          rw [HFin.out]
          simpa [tS] using h4
        clear hlen
        go_wp2_with fail
        go_roundw
        case rel => exact ⟨i + 1, by omega, by go_num, HQ.out⟩
        case measure => simp [intOf]; omega
      | true =>
        have hle2 : pre.length + ([32, 43] ++ x.name).length ≤ 1000000 := by
          have := hlen
          rw [List.length_append] at this
          simpa [tS] using this
        obtain ⟨ya, hya, lya, ja⟩ := text_two [32, 43] x.name 1000000 (by rw [← List.length_append]; omega) (by omega)
        have cw := writeS_any HW4.out.bu ya (by rw [hya.out]; omega) (by have := HW4.out.bu.lt; omega)
        have HYA : Hid (ya = tS (x, true)) := by show _ = _; rw [hya.out]; simp [tS]
        clear hlen hle2 lya hya
        go_wp2_with fail
        refine Calls.mono cw ?_
        rintro e w6 ⟨⟨r6, rfl⟩, hb6, k6, o6⟩
        have HQ : Hid (Wq B w w6 O1 O2 S (t.name ++ (t.attrs.zip s.vals).flatMap tA ++ ((t.stages.zip s.done).take (i + 1)).flatMap tS)) := by
          have := HW4.out.write k6 hb6
          rw [HYA.out, ← HFin.out] at this
          exact this
        clear cw hb6 k6 o6 z0 z1 z2 z3 c1 hG
        go_wp2_with fail
        go_roundw
        case rel => exact ⟨i + 1, by omega, by go_num, HQ.out⟩
        case measure => simp [intOf]; omega
    · have i1 : ¬ (i : Int) < (t.stages.length : Int) := by omega
      have HPM : Hid (Wq B w wr O1 O2 S (t.name ++ (t.attrs.zip s.vals).flatMap tA ++ (t.stages.zip s.done).flatMap tS)) := by
        have := HW.out
        rw [List.take_of_length_le (by simp; omega)] at this
        exact this
      have hbx := HPM.out.box
      rw [HO1.out] at hbx
      obtain ⟨⟨y0, y1, y2, y3⟩, _⟩ := four_cell hbx
      clear hW HW hbx
      go_wp2_with fail
      clear y0 y1 y2 y3
      go_loopw [10, 11, 61] (fun _ _ ti wr => ∃ i : Nat, i ≤ t.marks.length ∧ ti = .int .i64 i ∧ Wq B w wr O1 O2 S (t.name ++ (t.attrs.zip s.vals).flatMap tA ++ (t.stages.zip s.done).flatMap tS ++ ((t.marks.zip s.got).take i).flatMap tM)) (fun _ _ ti _ => t.marks.length - (intOf ti).toNat)
      case atStart => exact ⟨0, Nat.zero_le _, rfl, by simpa using HPM.out⟩
      case round =>
      obtain ⟨i, hi, rfl, hW⟩ := hrel
      have HW : Hid (Wq B w wr O1 O2 S (t.name ++ (t.attrs.zip s.vals).flatMap tA ++ (t.stages.zip s.done).flatMap tS ++ ((t.marks.zip s.got).take i).flatMap tM)) := hW
      by_cases hlt : i < t.marks.length
      · have hv : i < s.got.length := by rw [EG.out]; exact hlt
        obtain ⟨b, off, rfl, hb, q0, q1⟩ := (HM.out.all hW.kept).at i hlt
        obtain ⟨b2, off2, rfl, hb2, c00⟩ := HG.out.boolAt i hv
        have c0 := (kept_cell hW.kept hb2 (o := off2 + i) trivial).trans c00
        have hb2w : b2 < wr.heap.size := Nat.lt_of_lt_of_le hb2 hW.kept.size
        obtain ⟨hz1, hz2⟩ := zip_at hlt hv
        have HFin : Hid (t.name ++ (t.attrs.zip s.vals).flatMap tA ++ (t.stages.zip s.done).flatMap tS ++ ((t.marks.zip s.got).take (i + 1)).flatMap tM = t.name ++ (t.attrs.zip s.vals).flatMap tA ++ (t.stages.zip s.done).flatMap tS ++ ((t.marks.zip s.got).take i).flatMap tM ++ tM (t.marks[i], s.got[i])) := by
          show _ = _
          rw [flat_take_succ _ _ _ hz1, hz2]
          simp only [List.append_assoc]
        have hlen := flat_le tM (t.name ++ (t.attrs.zip s.vals).flatMap tA ++ (t.stages.zip s.done).flatMap tS) (t.marks.zip s.got) (i + 1) _ HL3.out
        rw [HFin.out] at hlen
        have i1 : (i : Int) < (t.marks.length : Int) := by omega
        have i2 : (i : Int) < (s.got.length : Int) := by omega
        have i0 : (0 : Int) ≤ (i : Int) := by omega
        clear hz1 hz2 hb c00
        generalize t.marks[i] = x at *
        generalize s.got[i] = n at *
        generalize t.name ++ (t.attrs.zip s.vals).flatMap tA ++ (t.stages.zip s.done).flatMap tS ++ ((t.marks.zip s.got).take i).flatMap tM = pre at *
        have ka : Kept (fun _ => True) wr (wr.alloc (.cells #[.string ⟨x.name.toArray⟩, .string ⟨x.guard.toArray⟩] 90)) := (Kept.refl _ _).alloc _
        have hW4 := hW.all ka
        have hG := heap_alloc_new wr (.cells #[.string ⟨x.name.toArray⟩, .string ⟨x.guard.toArray⟩] 90)
        have c1 := (kept_cell ka hb2w (o := off2 + i) trivial).trans c0
        have hbx := hW4.box2
        rw [HO2.out] at hbx
        have HW4 : Hid (Wq B w (wr.alloc (.cells #[.string ⟨x.name.toArray⟩, .string ⟨x.guard.toArray⟩] 90)) O1 O2 S pre) := hW4
        obtain ⟨⟨z0, z1, z2, z3⟩, _⟩ := four_cell hbx
        clear hW hW4 ka c0 hb2 hb2w hbx
        cases n with
        | false =>
          have HQ : Hid (Wq B w (wr.alloc (.cells #[.string ⟨x.name.toArray⟩, .string ⟨x.guard.toArray⟩] 90)) O1 O2 S (t.name ++ (t.attrs.zip s.vals).flatMap tA ++ (t.stages.zip s.done).flatMap tS ++ ((t.marks.zip s.got).take (i + 1)).flatMap tM)) := by
            have h4 := HW4.out
            show Wq _ _ _ _ _ _ _
            rw [HFin.out]
            simpa [tM] using h4
          clear hlen
          go_wp2_with fail
          go_roundw
          case rel => exact ⟨i + 1, by omega, by go_num, HQ.out⟩
          case measure => simp [intOf]; omega
        | true =>
          have hle2 : pre.length + ([32, 42] ++ x.name).length ≤ 1000000 := by
            have := hlen
            rw [List.length_append] at this
            simpa [tM] using this
          obtain ⟨ya, hya, lya, ja⟩ := text_two [32, 42] x.name 1000000 (by rw [← List.length_append]; omega) (by omega)
          have cw := writeS_any HW4.out.bu ya (by rw [hya.out]; omega) (by have := HW4.out.bu.lt; omega)
          have HYA : Hid (ya = tM (x, true)) := by show _ = _; rw [hya.out]; simp [tM]
          clear hlen hle2 lya hya
          go_wp2_with fail
          refine Calls.mono cw ?_
          rintro e w6 ⟨⟨r6, rfl⟩, hb6, k6, o6⟩
          have HQ : Hid (Wq B w w6 O1 O2 S (t.name ++ (t.attrs.zip s.vals).flatMap tA ++ (t.stages.zip s.done).flatMap tS ++ ((t.marks.zip s.got).take (i + 1)).flatMap tM)) := by
            have := HW4.out.write k6 hb6
            rw [HYA.out, ← HFin.out] at this
            exact this
          clear cw hb6 k6 o6 z0 z1 z2 z3 c1 hG
          go_wp2_with fail
          go_roundw
          case rel => exact ⟨i + 1, by omega, by go_num, HQ.out⟩
          case measure => simp [intOf]; omega
      · have i1 : ¬ (i : Int) < (t.marks.length : Int) := by omega
        have HW9 : Hid (Wq B w wr O1 O2 S (t.name ++ (t.attrs.zip s.vals).flatMap tA ++ (t.stages.zip s.done).flatMap tS ++ (t.marks.zip s.got).flatMap tM)) := by
          have := HW.out
          rw [List.take_of_length_le (by simp; omega)] at this
          exact this
        have cst := stringB_any HW9.out.bu (by have := HW9.out.bu.lt; omega)
        rw [HWT.out] at cst
        clear hW
        go_wp2_with fail
        refine Calls.mono cst ?_
        rintro e w9 ⟨rfl, k9⟩
        go_wp2_with fail
        go_ret
        refine ⟨rfl, HW9.out.kept.then ⟨k9.os, k9.tape, k9.output, k9.size, fun i _ hp => k9.block i hp⟩ (fun i hi _ => by have := HW9.out.far; have := HBB.out; show i < _; omega)⟩

end Go.Proofs.YtenejaghgehnoaaGreatDoor

namespace Go.Proofs.YtenejaghgehnoaaGreatDoor
open Go.RowKit

theorem itoa_small : ∀ n : Fin 2001, (Lib.itoa ((n.val : Int) - 1000)).length ≤ 5 := by decide +kernel
theorem itoa_few {n : Int} (h1 : -1000 ≤ n) (h2 : n ≤ 1000) : (Lib.itoa n).length ≤ 5 := by
  have := itoa_small ⟨(n + 1000).toNat, by omega⟩
  rwa [show (((n + 1000).toNat : Nat) : Int) - 1000 = n by omega] at this
theorem flat_few {α : Type} (f : α → List UInt8) (l : List α) (N : Nat) (h : ∀ x ∈ l, (f x).length ≤ N) : (l.flatMap f).length ≤ l.length * N := by
  induction l with
  | nil => simp
  | cons x l ih =>
    rw [List.flatMap_cons, List.length_append, List.length_cons, Nat.succ_mul]
    have h1 := h x (by simp)
    have h2 := ih (fun y hy => h y (by simp [hy]))
    omega
theorem Good.attrL {t : Ty} (h : Good t) {a : At} (ha : a ∈ t.attrs) : a.name.length ≤ 12 := h.names _ (by simp only [nms, List.mem_append, List.mem_map]; exact .inl (.inl ⟨a, ha, rfl⟩))
theorem Good.stageL {t : Ty} (h : Good t) {a : Ru} (ha : a ∈ t.stages) : a.name.length ≤ 12 := h.names _ (by simp only [nms, List.mem_append, List.mem_map]; exact .inl (.inr ⟨a, ha, rfl⟩))
theorem Good.markL {t : Ty} (h : Good t) {a : Ru} (ha : a ∈ t.marks) : a.name.length ≤ 12 := h.names _ (by simp only [nms, List.mem_append, List.mem_map]; exact .inr ⟨a, ha, rfl⟩)
/-- A right type's cases have short texts. -/
theorem text_short {t : Ty} {s : Sa} (g : Good t) (f : Fit t s) : (textP t s).length ≤ 1000000 := by
  have h1 : ((t.attrs.zip s.vals).flatMap tA).length ≤ (t.attrs.zip s.vals).length * 19 := flat_few _ _ _ fun p hp => by
    obtain ⟨k, hk, rfl⟩ := List.getElem_of_mem hp
    have hk1 : k < t.attrs.length := by simp at hk; omega
    have hk2 : k < s.vals.length := by simp at hk; omega
    have h1 := f.within k hk1
    have h2 := g.ranges t.attrs[k] (List.getElem_mem hk1)
    have h3 := g.attrL (List.getElem_mem hk1)
    simp only [List.getD_eq_getElem?_getD, hk1, hk2, List.getElem?_eq_getElem, Option.getD_some, wthn, Bool.and_eq_true, decide_eq_true_eq] at h1
    have h4 := itoa_few (n := s.vals[k]) (by omega) (by omega)
    simp only [tA, List.getElem_zip, List.length_append, List.length_singleton]
    omega
  have h2 : ((t.stages.zip s.done).flatMap tS).length ≤ (t.stages.zip s.done).length * 14 := flat_few _ _ _ fun p hp => by
    obtain ⟨k, hk, rfl⟩ := List.getElem_of_mem hp
    have hk1 : k < t.stages.length := by simp at hk; omega
    have h3 := g.stageL (List.getElem_mem hk1)
    simp only [tS, List.getElem_zip]
    split <;> simp <;> omega
  have h3 : ((t.marks.zip s.got).flatMap tM).length ≤ (t.marks.zip s.got).length * 14 := flat_few _ _ _ fun p hp => by
    obtain ⟨k, hk, rfl⟩ := List.getElem_of_mem hp
    have hk1 : k < t.marks.length := by simp at hk; omega
    have h3 := g.markL (List.getElem_mem hk1)
    simp only [tM, List.getElem_zip]
    split <;> simp <;> omega
  have := g.na; have := g.ns; have := g.nm; have := g.name
  simp only [List.length_zip] at h1 h2 h3
  simp only [textP, List.length_append]
  have : min t.attrs.length s.vals.length ≤ 6 := by omega
  have : min t.stages.length s.done.length ≤ 6 := by omega
  have : min t.marks.length s.got.length ≤ 6 := by omega
  omega

theorem So.far {w w' : World} {base : Nat} {va vd vg : Value} {s : Sa} (h : So w base va vd vg s) (k : Kept (base ≤ ·) w w') : So w' base va vd vg s :=
  ⟨own_keep h.vals k (fun i e => (h.vals.lt i e).1), own_keep h.done k (fun i e => (h.done.lt i e).1), own_keep h.got k (fun i e => (h.got.lt i e).1), h.apart⟩
theorem So.lower {w : World} {base b : Nat} {va vd vg : Value} {s : Sa} (h : So w base va vd vg s) (hb : b ≤ base) : So w b va vd vg s := ⟨ownsRow_low h.vals hb, ownsRow_low h.done hb, ownsRow_low h.got hb, h.apart⟩

set_option maxRecDepth 100000 in
set_option maxHeartbeats 16000000 in
theorem apply_any {w : World} {tv sv : Value} {t : Ty} {s : Sa} (ht : TyV w tv t) (hs : StV w sv s) (g : Good t) (f : Fit t s) (hTab : Tab w) (o : Oq) :
    Calls Tryz.prog 180 #[tv, sv, opV o] w fun e w' => ∃ v, e = .returned (.tuple #[v, .string ⟨(applyP t s o).2.1.toArray⟩, .int .i64 ((applyP t s o).2.2 : Nat)]) ∧ StO w' w.heap.size v (applyP t s o).1 ∧ Kept (fun _ => True) w w' := by
  have HTy : Hid (TyV w tv t) := ht
  have HSt : Hid (StV w sv s) := hs
  obtain ⟨tx0, tn, tc, so, sn, sc, mo, mn, mc, rfl⟩ := ht.parts
  obtain ⟨va0, vd0, vg0, rfl, h1, h2, h3⟩ := hs
  obtain ⟨vo, vc, rfl, -, -⟩ := h1.ints
  obtain ⟨eo, ec, rfl, -, -⟩ := h2.bools
  obtain ⟨go, gc, rfl, -, -⟩ := h3.bools
  have hq := alloc_quad w (.cells #[.string ⟨t.name.toArray⟩, .slice tx0 tn tc, .slice so sn sc, .slice mo mn mc] 54) (.cells #[.string ⟨s.type.toArray⟩, .slice vo s.vals.length vc, .slice eo s.done.length ec, .slice go s.got.length gc] 70) (.cells #[.int .i64 o.kind, .string ⟨o.cas.toArray⟩, .string ⟨o.name.toArray⟩, .int .i64 o.n] 61) (.cells #[.string ⟨#[]⟩, .slice none 0 0, .slice none 0 0, .slice none 0 0] 70)
  obtain ⟨x1, x2, x3, x4⟩ := hq
  have hk1 : Kept (fun _ => True) w ((((w.alloc (.cells #[.string ⟨t.name.toArray⟩, .slice tx0 tn tc, .slice so sn sc, .slice mo mn mc] 54)).alloc (.cells #[.string ⟨s.type.toArray⟩, .slice vo s.vals.length vc, .slice eo s.done.length ec, .slice go s.got.length gc] 70)).alloc (.cells #[.int .i64 o.kind, .string ⟨o.cas.toArray⟩, .string ⟨o.name.toArray⟩, .int .i64 o.n] 61)).alloc (.cells #[.string ⟨#[]⟩, .slice none 0 0, .slice none 0 0, .slice none 0 0] 70)) := ((((Kept.refl _ _).alloc _).alloc _).alloc _).alloc _
  have cs := sound_any (HTy.out.all hk1) (HSt.out.all hk1) g f
  obtain ⟨⟨y0, y1, y2, y3⟩, _⟩ := four_cell (show ((((w.alloc (.cells #[.string ⟨t.name.toArray⟩, .slice tx0 tn tc, .slice so sn sc, .slice mo mn mc] 54)).alloc (.cells #[.string ⟨s.type.toArray⟩, .slice vo s.vals.length vc, .slice eo s.done.length ec, .slice go s.got.length gc] 70)).alloc (.cells #[.int .i64 o.kind, .string ⟨o.cas.toArray⟩, .string ⟨o.name.toArray⟩, .int .i64 o.n] 61)).alloc (.cells #[.string ⟨#[]⟩, .slice none 0 0, .slice none 0 0, .slice none 0 0] 70)).heap[w.heap.size]? = _ from x1)
  obtain ⟨⟨z0, z1, z2, z3⟩, _⟩ := four_cell (show ((((w.alloc (.cells #[.string ⟨t.name.toArray⟩, .slice tx0 tn tc, .slice so sn sc, .slice mo mn mc] 54)).alloc (.cells #[.string ⟨s.type.toArray⟩, .slice vo s.vals.length vc, .slice eo s.done.length ec, .slice go s.got.length gc] 70)).alloc (.cells #[.int .i64 o.kind, .string ⟨o.cas.toArray⟩, .string ⟨o.name.toArray⟩, .int .i64 o.n] 61)).alloc (.cells #[.string ⟨#[]⟩, .slice none 0 0, .slice none 0 0, .slice none 0 0] 70)).heap[w.heap.size + 1]? = _ from x2)
  have X1 : Hid _ := x1
  have X2 : Hid _ := x2
  have X3 : Hid _ := x3
  have X4 : Hid _ := x4
  have K1 : Hid _ := hk1
  have HTb : Hid (Tab w) := hTab
  have HF : Hid (Fit t s) := f
  have HGd : Hid (Good t) := g
  obtain ⟨RS, hRS⟩ : ∃ RS, RS = applyP t s o := ⟨_, rfl⟩
  have HRS : Hid (RS = applyP t s o) := hRS
  rw [← hRS]
  unfold opV
  clear h1 h2 h3 x1 x2 x3 x4 hk1 g f hTab hRS
  go_enter Tryz.func180, Tryz.ntmps180
  go_wp2_with fail
  refine Calls.mono cs ?_
  rintro e w2 ⟨rfl, k2⟩
  have hB1 := (k2.block _ (lt_of_block X1.out) trivial).trans X1.out
  have hB2 := (k2.block _ (lt_of_block X2.out) trivial).trans X2.out
  have hB3 := (k2.block _ (lt_of_block X3.out) trivial).trans X3.out
  have hB4 := (k2.block _ (lt_of_block X4.out) trivial).trans X4.out
  have K2 : Hid (Kept (fun _ => True) w w2) := K1.out.trans k2
  clear cs y0 y1 y2 y3 z0 z1 z2 z3 k2 X1 X2 X3 X4 K1
  obtain ⟨B, hB⟩ : ∃ B, B = w.heap.size := ⟨_, rfl⟩
  have HB : Hid (B = w.heap.size) := hB
  rw [← hB] at hB1 hB2 hB3 hB4 ⊢
  clear hB
  have cc := copied_any (HSt.out.all K2.out) (HF.out.few HGd.out)
  have HB1 : Hid (w2.heap[B]? = some (.cells #[.string ⟨t.name.toArray⟩, .slice tx0 tn tc, .slice so sn sc, .slice mo mn mc] 54 (0, 0))) := hB1
  have HB2 : Hid (w2.heap[B + 1]? = some (.cells #[.string ⟨s.type.toArray⟩, .slice vo s.vals.length vc, .slice eo s.done.length ec, .slice go s.got.length gc] 70 (0, 0))) := hB2
  have HB3 : Hid (w2.heap[B + 1 + 1]? = some (.cells #[.int .i64 o.kind, .string ⟨o.cas.toArray⟩, .string ⟨o.name.toArray⟩, .int .i64 o.n] 61 (0, 0))) := hB3
  have HB4 : Hid (w2.heap[B + 1 + 1 + 1]? = some (.cells #[.string ⟨#[]⟩, .slice none 0 0, .slice none 0 0, .slice none 0 0] 70 (0, 0))) := hB4
  obtain ⟨⟨z0, z1, z2, z3⟩, _⟩ := four_cell hB2
  clear hB1 hB2 hB3 hB4
  go_upto_region 3 with fail
  go_cut [] from 9 to 16 (fun wx => ∃ va vd vg, wx.heap[B + 1]? = some (.cells #[.string ⟨s.type.toArray⟩, va, vd, vg] 70 (0, 0)) ∧ So wx w2.heap.size va vd vg s ∧ Kept (· < w2.heap.size) (put4 w2 (B + 1) (.string ⟨s.type.toArray⟩) va vd vg) wx)
  case first =>
    go_wp2_with fail
    refine Calls.mono cc ?_
    rintro e w3 ⟨va, vd, vg, rfl, hso, k3⟩
    obtain ⟨vo', vc', eo', ec', go', gc', rfl, rfl, rfl⟩ := hso.shapes
    have hb := (k3.block _ (lt_of_block HB2.out) trivial).trans HB2.out
    obtain ⟨⟨q0, q1, q2, q3⟩, q4, q5, q6, q7⟩ := four_cell hb
    have HBB : Hid _ := hb
    have HSo : Hid _ := hso
    have K3 : Hid _ := k3
    clear cc z0 z1 z2 z3 hso k3 hb
    go_wp2_with fail
    go_meet
    refine ⟨_, _, _, put4_at HBB.out _ _ _ _, ?_, put4_both K3.out HB2.out _ _ _ _⟩
    exact HSo.out.far (put4_kept (p := (w2.heap.size ≤ ·)) (by have := lt_of_block HB2.out; omega) _ _ _ _)
  case rest =>
  obtain ⟨va, vd, vg, hbx, hso, kq⟩ := hcut
  clear cc z0 z1 z2 z3
  obtain ⟨W0, hW0⟩ : ∃ W0, W0 = put4 w2 (B + 1) (.string ⟨s.type.toArray⟩) va vd vg := ⟨_, rfl⟩
  have hsz : W0.heap.size = w2.heap.size := by rw [hW0, put4_size]
  rw [← hW0] at kq
  rw [← hsz] at kq hso
  have hltb := lt_of_block HB4.out
  have KW : Hid (Kept (fun _ => True) w W0) := by rw [hW0]; exact put4_new K2.out (by have := HB.out; omega) _ _ _ _
  have HTW : Hid (TyV W0 (.agg #[.string ⟨t.name.toArray⟩, .slice tx0 tn tc, .slice so sn sc, .slice mo mn mc]) t) := HTy.out.all KW.out
  have hw1 := ((put4_kept (p := (· ≠ B + 1)) (w := w2) (D := B + 1) (by simp) (.string ⟨s.type.toArray⟩) va vd vg).block B (by omega) (by omega)).trans HB1.out
  rw [← hW0] at hw1
  have hw3 := ((put4_kept (p := (· ≠ B + 1)) (w := w2) (D := B + 1) (by simp) (.string ⟨s.type.toArray⟩) va vd vg).block (B + 1 + 1) (by omega) (by omega)).trans HB3.out
  rw [← hW0] at hw3
  have hw4 := ((put4_kept (p := (· ≠ B + 1)) (w := w2) (D := B + 1) (by simp) (.string ⟨s.type.toArray⟩) va vd vg).block (B + 1 + 1 + 1) (by omega) (by omega)).trans HB4.out
  rw [← hW0] at hw4
  have hw2 : W0.heap[B + 1]? = some (.cells #[.string ⟨s.type.toArray⟩, va, vd, vg] 70 (0, 0)) := by rw [hW0]; exact put4_at HB2.out _ _ _ _
  obtain ⟨vo', vc', eo', ec', go', gc', rfl, rfl, rfl⟩ := hso.shapes
  have HW1 : Hid (W0.heap[B]? = some (.cells #[.string ⟨t.name.toArray⟩, .slice tx0 tn tc, .slice so sn sc, .slice mo mn mc] 54 (0, 0))) := hw1
  have HW2 : Hid (W0.heap[B + 1]? = some (.cells #[.string ⟨s.type.toArray⟩, .slice vo' s.vals.length vc', .slice eo' s.done.length ec', .slice go' s.got.length gc'] 70 (0, 0))) := hw2
  have HW3 : Hid (W0.heap[B + 1 + 1]? = some (.cells #[.int .i64 o.kind, .string ⟨o.cas.toArray⟩, .string ⟨o.name.toArray⟩, .int .i64 o.n] 61 (0, 0))) := hw3
  have HW4 : Hid (W0.heap[B + 1 + 1 + 1]? = some (.cells #[.string ⟨#[]⟩, .slice none 0 0, .slice none 0 0, .slice none 0 0] 70 (0, 0))) := hw4
  have HLow : Hid (∀ W, Kept (· < W0.heap.size) W0 W → W.heap[B]? = some (.cells #[.string ⟨t.name.toArray⟩, .slice tx0 tn tc, .slice so sn sc, .slice mo mn mc] 54 (0, 0)) ∧ W.heap[B + 1]? = some (.cells #[.string ⟨s.type.toArray⟩, .slice vo' s.vals.length vc', .slice eo' s.done.length ec', .slice go' s.got.length gc'] 70 (0, 0)) ∧ W.heap[B + 1 + 1]? = some (.cells #[.int .i64 o.kind, .string ⟨o.cas.toArray⟩, .string ⟨o.name.toArray⟩, .int .i64 o.n] 61 (0, 0)) ∧ W.heap[B + 1 + 1 + 1]? = some (.cells #[.string ⟨#[]⟩, .slice none 0 0, .slice none 0 0, .slice none 0 0] 70 (0, 0))) := fun W q =>
    ⟨(q.block _ (lt_of_block HW1.out) (lt_of_block HW1.out)).trans HW1.out, (q.block _ (lt_of_block HW2.out) (lt_of_block HW2.out)).trans HW2.out, (q.block _ (lt_of_block HW3.out) (lt_of_block HW3.out)).trans HW3.out, (q.block _ (lt_of_block HW4.out) (lt_of_block HW4.out)).trans HW4.out⟩
  have HSo : Hid (So wc W0.heap.size (.slice vo' s.vals.length vc') (.slice eo' s.done.length ec') (.slice go' s.got.length gc') s) := hso
  have KQ : Hid (Kept (· < W0.heap.size) W0 wc) := kq
  have HEndK : Hid (∀ W, Kept (· < W0.heap.size) W0 W → ∀ a b c d, Kept (fun _ => True) w (put4 W (B + 1 + 1 + 1) a b c d)) := fun W q a b c d => put4_new (KW.out.then q (fun i hi _ => by have := KW.out.size; show i < _; omega)) (by have := HB.out; omega) a b c d
  have HBL : Hid (B + 1 + 1 + 1 < W0.heap.size) := lt_of_block hw4
  have HBW : Hid (w.heap.size ≤ W0.heap.size) := KW.out.size
  obtain ⟨p1, p2, p3, p4⟩ := HLow.out _ kq
  obtain ⟨⟨o0, o1, o2, o3⟩, _⟩ := four_cell p3
  clear hbx hso kq hW0 hsz hltb hw1 hw2 hw3 hw4 HB1 HB2 HB3 HB4 K2 p1 p2 p3 p4
  by_cases h2 : o.kind = 2
  · have HQ : Hid (RS = fin t (setP t s o)) := by
      show _ = _
      rw [HRS.out, applyP, if_pos h2]
    rw [h2] at o0
    have ck := set_any HTW.out KQ.out HSo.out HGd.out HF.out.sz o
    unfold opV at ck
    rw [h2] at ck
    have fitR := HF.out.set o
    have HFR : Hid _ := fitR
    obtain ⟨pp, hpp⟩ : ∃ pp, pp = setP t s o := ⟨_, rfl⟩
    rw [← hpp] at ck HQ HFR
    have HTp : Hid (pp.1.type = s.type) := by
      show _ = _
      rw [HFR.out.type, HF.out.type]
    obtain ⟨p1, p2, p3, p4⟩ := HLow.out _ KQ.out
    obtain ⟨⟨y0, y1, y2, y3⟩, _⟩ := four_cell p1
    obtain ⟨⟨z0, z1, z2, z3⟩, _⟩ := four_cell p2
    obtain ⟨⟨o0', o1, o2, o3⟩, _⟩ := four_cell p3
    rw [h2] at o0'
    clear p1 p2 p3 p4 fitR hpp h2
    go_wp2_with fail
    refine Calls.mono ck ?_
    rintro e w5 ⟨rfl, hs5, k5⟩
    have HS5 : Hid _ := hs5
    have K5 : Hid (Kept (· < W0.heap.size) W0 w5) := KQ.out.trans k5
    obtain ⟨p1, p2, p3, p4⟩ := HLow.out _ K5.out
    clear ck y0 y1 y2 y3 z0 z1 z2 z3 o0 o0' o1 o2 o3 hs5 k5
    obtain ⟨⟨y0, y1, y2, y3⟩, _⟩ := four_cell p1
    obtain ⟨⟨z0, z1, z2, z3⟩, _⟩ := four_cell p2
    obtain ⟨⟨r0, r1, r2, r3⟩, _⟩ := four_cell p4
    have HP4 : Hid _ := p4
    clear p1 p2 p3 p4
    obtain ⟨s5, c5⟩ := pp
    by_cases h0 : c5 = 0
    · subst h0
      have HQ2 : Hid (RS = (settled t s5, [], 0)) := HQ.out
      have ct := settle_any HTW.out K5.out HS5.out HGd.out HFR.out.sz
      rw [show s5.type = s.type from HTp.out] at ct
      clear HQ
      go_wp2_with fail
      refine Calls.mono ct ?_
      rintro e w6 ⟨rfl, hs6, k6⟩
      have HS6 : Hid _ := hs6
      have K6 : Hid (Kept (· < W0.heap.size) W0 w6) := K5.out.trans (HS5.out.lowG k6)
      obtain ⟨p1, p2, p3, p4⟩ := HLow.out _ K6.out
      clear ct y0 y1 y2 y3 z0 z1 z2 z3 r0 r1 r2 r3 hs6 k6 HP4
      obtain ⟨⟨z0, z1, z2, z3⟩, _⟩ := four_cell p2
      obtain ⟨⟨r0, r1, r2, r3⟩, _⟩ := four_cell p4
      have HP4 : Hid _ := p4
      clear p1 p2 p3 p4
      go_wp2_with fail
      refine bodyPost_ret (results_three rfl _ _ rfl (load_state (put4_at HP4.out _ _ _ _) rfl)) rfl ?_
      rw [HQ2.out]
      refine ⟨_, rfl, ⟨.slice vo' s.vals.length vc', .slice eo' s.done.length ec', .slice go' s.got.length gc', ?_, ?_⟩, HEndK.out _ K6.out _ _ _ _⟩
      · show _ = Value.agg #[.string ⟨(settled t s5).type.toArray⟩, .slice vo' s.vals.length vc', .slice eo' s.done.length ec', .slice go' s.got.length gc']
        rw [(settled_grows t s5).type, show s5.type = s.type from HTp.out]
      · exact (HS6.out.far (put4_kept (p := (W0.heap.size ≤ ·)) (by have := HBL.out; omega) _ _ _ _)).lower HBW.out
    · have HQ2 : Hid (RS = (Sa.none, [], c5)) := HQ.out.trans (if_neg h0)
      have hc : ((c5 : Int) != 0) = true := by simp; omega
      have hc2 : ((c5 : Int) == 0) = false := by simp; omega
      clear HQ h0
      go_wp2_with fail
      refine bodyPost_ret (results_three rfl _ _ rfl (load_state (put4_at HP4.out _ _ _ _) rfl)) rfl ?_
      rw [HQ2.out]
      exact ⟨_, rfl, StO.none _ _, HEndK.out _ K5.out _ _ _ _⟩
  by_cases h3 : o.kind = 3
  · have HQ : Hid (RS = fin t (addP t s o)) := by
      show _ = _
      rw [HRS.out, applyP, if_neg h2, if_pos h3]
    rw [h3] at o0
    have ck := add_any HTW.out KQ.out HSo.out HGd.out HF.out o
    unfold opV at ck
    rw [h3] at ck
    have fitR := HF.out.add o
    have HFR : Hid _ := fitR
    obtain ⟨pp, hpp⟩ : ∃ pp, pp = addP t s o := ⟨_, rfl⟩
    rw [← hpp] at ck HQ HFR
    have HTp : Hid (pp.1.type = s.type) := by
      show _ = _
      rw [HFR.out.type, HF.out.type]
    obtain ⟨p1, p2, p3, p4⟩ := HLow.out _ KQ.out
    obtain ⟨⟨y0, y1, y2, y3⟩, _⟩ := four_cell p1
    obtain ⟨⟨z0, z1, z2, z3⟩, _⟩ := four_cell p2
    obtain ⟨⟨o0', o1, o2, o3⟩, _⟩ := four_cell p3
    rw [h3] at o0'
    clear p1 p2 p3 p4 fitR hpp h3 h2
    go_wp2_with fail
    refine Calls.mono ck ?_
    rintro e w5 ⟨rfl, hs5, k5⟩
    have HS5 : Hid _ := hs5
    have K5 : Hid (Kept (· < W0.heap.size) W0 w5) := KQ.out.trans k5
    obtain ⟨p1, p2, p3, p4⟩ := HLow.out _ K5.out
    clear ck y0 y1 y2 y3 z0 z1 z2 z3 o0 o0' o1 o2 o3 hs5 k5
    obtain ⟨⟨y0, y1, y2, y3⟩, _⟩ := four_cell p1
    obtain ⟨⟨z0, z1, z2, z3⟩, _⟩ := four_cell p2
    obtain ⟨⟨r0, r1, r2, r3⟩, _⟩ := four_cell p4
    have HP4 : Hid _ := p4
    clear p1 p2 p3 p4
    obtain ⟨s5, c5⟩ := pp
    by_cases h0 : c5 = 0
    · subst h0
      have HQ2 : Hid (RS = (settled t s5, [], 0)) := HQ.out
      have ct := settle_any HTW.out K5.out HS5.out HGd.out HFR.out.sz
      rw [show s5.type = s.type from HTp.out] at ct
      clear HQ
      go_wp2_with fail
      refine Calls.mono ct ?_
      rintro e w6 ⟨rfl, hs6, k6⟩
      have HS6 : Hid _ := hs6
      have K6 : Hid (Kept (· < W0.heap.size) W0 w6) := K5.out.trans (HS5.out.lowG k6)
      obtain ⟨p1, p2, p3, p4⟩ := HLow.out _ K6.out
      clear ct y0 y1 y2 y3 z0 z1 z2 z3 r0 r1 r2 r3 hs6 k6 HP4
      obtain ⟨⟨z0, z1, z2, z3⟩, _⟩ := four_cell p2
      obtain ⟨⟨r0, r1, r2, r3⟩, _⟩ := four_cell p4
      have HP4 : Hid _ := p4
      clear p1 p2 p3 p4
      go_wp2_with fail
      refine bodyPost_ret (results_three rfl _ _ rfl (load_state (put4_at HP4.out _ _ _ _) rfl)) rfl ?_
      rw [HQ2.out]
      refine ⟨_, rfl, ⟨.slice vo' s.vals.length vc', .slice eo' s.done.length ec', .slice go' s.got.length gc', ?_, ?_⟩, HEndK.out _ K6.out _ _ _ _⟩
      · show _ = Value.agg #[.string ⟨(settled t s5).type.toArray⟩, .slice vo' s.vals.length vc', .slice eo' s.done.length ec', .slice go' s.got.length gc']
        rw [(settled_grows t s5).type, show s5.type = s.type from HTp.out]
      · exact (HS6.out.far (put4_kept (p := (W0.heap.size ≤ ·)) (by have := HBL.out; omega) _ _ _ _)).lower HBW.out
    · have HQ2 : Hid (RS = (Sa.none, [], c5)) := HQ.out.trans (if_neg h0)
      have hc : ((c5 : Int) != 0) = true := by simp; omega
      have hc2 : ((c5 : Int) == 0) = false := by simp; omega
      clear HQ h0
      go_wp2_with fail
      refine bodyPost_ret (results_three rfl _ _ rfl (load_state (put4_at HP4.out _ _ _ _) rfl)) rfl ?_
      rw [HQ2.out]
      exact ⟨_, rfl, StO.none _ _, HEndK.out _ K5.out _ _ _ _⟩
  by_cases h4 : o.kind = 4
  · have HQ : Hid (RS = fin t (fireP t s o)) := by
      show _ = _
      rw [HRS.out, applyP, if_neg h2, if_neg h3, if_pos h4]
    rw [h4] at o0
    have ck := fire_any HTW.out KQ.out HSo.out HGd.out HF.out.sz o
    unfold opV at ck
    rw [h4] at ck
    have fitR := HF.out.fire o
    have HFR : Hid _ := fitR
    obtain ⟨pp, hpp⟩ : ∃ pp, pp = fireP t s o := ⟨_, rfl⟩
    rw [← hpp] at ck HQ HFR
    have HTp : Hid (pp.1.type = s.type) := by
      show _ = _
      rw [HFR.out.type, HF.out.type]
    obtain ⟨p1, p2, p3, p4⟩ := HLow.out _ KQ.out
    obtain ⟨⟨y0, y1, y2, y3⟩, _⟩ := four_cell p1
    obtain ⟨⟨z0, z1, z2, z3⟩, _⟩ := four_cell p2
    obtain ⟨⟨o0', o1, o2, o3⟩, _⟩ := four_cell p3
    rw [h4] at o0'
    clear p1 p2 p3 p4 fitR hpp h4 h2 h3
    go_wp2_with fail
    refine Calls.mono ck ?_
    rintro e w5 ⟨rfl, hs5, k5⟩
    have HS5 : Hid _ := hs5
    have K5 : Hid (Kept (· < W0.heap.size) W0 w5) := KQ.out.trans k5
    obtain ⟨p1, p2, p3, p4⟩ := HLow.out _ K5.out
    clear ck y0 y1 y2 y3 z0 z1 z2 z3 o0 o0' o1 o2 o3 hs5 k5
    obtain ⟨⟨y0, y1, y2, y3⟩, _⟩ := four_cell p1
    obtain ⟨⟨z0, z1, z2, z3⟩, _⟩ := four_cell p2
    obtain ⟨⟨r0, r1, r2, r3⟩, _⟩ := four_cell p4
    have HP4 : Hid _ := p4
    clear p1 p2 p3 p4
    obtain ⟨s5, c5⟩ := pp
    by_cases h0 : c5 = 0
    · subst h0
      have HQ2 : Hid (RS = (settled t s5, [], 0)) := HQ.out
      have ct := settle_any HTW.out K5.out HS5.out HGd.out HFR.out.sz
      rw [show s5.type = s.type from HTp.out] at ct
      clear HQ
      go_wp2_with fail
      refine Calls.mono ct ?_
      rintro e w6 ⟨rfl, hs6, k6⟩
      have HS6 : Hid _ := hs6
      have K6 : Hid (Kept (· < W0.heap.size) W0 w6) := K5.out.trans (HS5.out.lowG k6)
      obtain ⟨p1, p2, p3, p4⟩ := HLow.out _ K6.out
      clear ct y0 y1 y2 y3 z0 z1 z2 z3 r0 r1 r2 r3 hs6 k6 HP4
      obtain ⟨⟨z0, z1, z2, z3⟩, _⟩ := four_cell p2
      obtain ⟨⟨r0, r1, r2, r3⟩, _⟩ := four_cell p4
      have HP4 : Hid _ := p4
      clear p1 p2 p3 p4
      go_wp2_with fail
      refine bodyPost_ret (results_three rfl _ _ rfl (load_state (put4_at HP4.out _ _ _ _) rfl)) rfl ?_
      rw [HQ2.out]
      refine ⟨_, rfl, ⟨.slice vo' s.vals.length vc', .slice eo' s.done.length ec', .slice go' s.got.length gc', ?_, ?_⟩, HEndK.out _ K6.out _ _ _ _⟩
      · show _ = Value.agg #[.string ⟨(settled t s5).type.toArray⟩, .slice vo' s.vals.length vc', .slice eo' s.done.length ec', .slice go' s.got.length gc']
        rw [(settled_grows t s5).type, show s5.type = s.type from HTp.out]
      · exact (HS6.out.far (put4_kept (p := (W0.heap.size ≤ ·)) (by have := HBL.out; omega) _ _ _ _)).lower HBW.out
    · have HQ2 : Hid (RS = (Sa.none, [], c5)) := HQ.out.trans (if_neg h0)
      have hc : ((c5 : Int) != 0) = true := by simp; omega
      have hc2 : ((c5 : Int) == 0) = false := by simp; omega
      clear HQ h0
      go_wp2_with fail
      refine bodyPost_ret (results_three rfl _ _ rfl (load_state (put4_at HP4.out _ _ _ _) rfl)) rfl ?_
      rw [HQ2.out]
      exact ⟨_, rfl, StO.none _ _, HEndK.out _ K5.out _ _ _ _⟩
  by_cases h5 : o.kind = 5
  · have HQ : Hid (RS = (s, textP t s, 0)) := by
      show _ = _
      rw [HRS.out, applyP, if_neg h2, if_neg h3, if_neg h4, if_pos h5]
    rw [h5] at o0
    have hV := (HSo.out.stv (HF.out.few HGd.out))
    have HV : Hid _ := hV
    have HTc : Hid (TyV wc (.agg #[.string ⟨t.name.toArray⟩, .slice tx0 tn tc, .slice so sn sc, .slice mo mn mc]) t) := HTW.out.low KQ.out
    have HTbW : Hid (Kept (fun _ => True) w wc) := KW.out.then KQ.out (fun i hi _ => by have := KW.out.size; show i < _; omega)
    have HLen : Hid ((textP t s).length ≤ 1000000) := text_short HGd.out HF.out
    obtain ⟨TX, hTX⟩ : ∃ TX, TX = textP t s := ⟨_, rfl⟩
    have HTX : Hid (textP t s = TX) := hTX.symm
    rw [← hTX] at HQ
    have HC : Hid (∀ W, Kept (fun _ => True) wc W → Calls Tryz.prog 214 #[.agg #[.string ⟨t.name.toArray⟩, .slice tx0 tn tc, .slice so sn sc, .slice mo mn mc], .agg #[.string ⟨s.type.toArray⟩, .slice vo' s.vals.length vc', .slice eo' s.done.length ec', .slice go' s.got.length gc']] W fun e w' => e = .returned (.string ⟨TX.toArray⟩) ∧ Kept (fun _ => True) W w') := fun W q => by
      have c := ctext_any (HTc.out.all q) (StV.all HV.out q) HGd.out HF.out (HTb.out.all (HTbW.out.trans q)) HLen.out
      rw [HTX.out] at c
      exact c
    clear hV hTX h2 h3 h4 h5
    go_upto_region 14 with fail
    obtain ⟨p1, p2, p3, p4⟩ := HLow.out _ KQ.out
    obtain ⟨⟨y0, y1, y2, y3⟩, _⟩ := four_cell p1
    obtain ⟨⟨z0, z1, z2, z3⟩, _⟩ := four_cell p2
    have R3 : B + 1 ≠ B + 1 + 1 + 1 := by omega
    have R0 : B ≠ B + 1 + 1 + 1 := by omega
    have Y0 := fun W (q : Kept (fun i => i ≠ B + 1 + 1 + 1) wc W) => (kept_cell q (lt_of_block p1) R0).trans y0
    have Y1 := fun W (q : Kept (fun i => i ≠ B + 1 + 1 + 1) wc W) => (kept_cell q (lt_of_block p1) R0).trans y1
    have Y2 := fun W (q : Kept (fun i => i ≠ B + 1 + 1 + 1) wc W) => (kept_cell q (lt_of_block p1) R0).trans y2
    have Y3 := fun W (q : Kept (fun i => i ≠ B + 1 + 1 + 1) wc W) => (kept_cell q (lt_of_block p1) R0).trans y3
    have Z0 := fun W (q : Kept (fun i => i ≠ B + 1 + 1 + 1) wc W) => (kept_cell q (lt_of_block p2) R3).trans z0
    have Z1 := fun W (q : Kept (fun i => i ≠ B + 1 + 1 + 1) wc W) => (kept_cell q (lt_of_block p2) R3).trans z1
    have Z2 := fun W (q : Kept (fun i => i ≠ B + 1 + 1 + 1) wc W) => (kept_cell q (lt_of_block p2) R3).trans z2
    have Z3 := fun W (q : Kept (fun i => i ≠ B + 1 + 1 + 1) wc W) => (kept_cell q (lt_of_block p2) R3).trans z3
    have kd : Kept (fun i => i ≠ B + 1 + 1 + 1) wc wc.drew := (Kept.refl _ _).drew
    clear y0 y1 y2 y3 z0 z1 z2 z3 p1 p2 p3 p4 o0 o1 o2 o3 R3 R0
    have kt : Kept (fun _ => True) wc wc.drew := (Kept.refl _ _).drew
    have hd4 := (HLow.out _ KQ.out).2.2.2
    go_region_held3 (fun W => Kept (fun i => i ≠ B + 1 + 1 + 1) wc W) (first | assumption | exact Kept.setCell (Kept.setCell (Kept.setCell (Kept.setCell (by assumption) (by simp) _) (by simp) _) (by simp) _) (by simp) _) (first
      | (go_at_call 214; refine Calls.mono (HC.out _ kt) ?_; rintro e w5 ⟨rfl, k5⟩; have K5 : Hid (Kept (fun _ => True) wc w5) := Kept.trans kt k5; have p5 : Kept (fun i => i ≠ B + 1 + 1 + 1) wc w5 := K5.out.mono (fun _ _ _ => trivial); have hp4 := (K5.out.block _ (lt_of_block hd4) trivial).trans hd4; obtain ⟨⟨r0, r1, r2, r3⟩, f0, f1, f2, f3⟩ := four_cell hp4; clear k5))
    all_goals
      have K6 : Hid (Kept (· < W0.heap.size) W0 w5) := KQ.out.trans (K5.out.mono fun _ _ _ => trivial)
      have HP4 : Hid _ := hp4
      clear Y0 Y1 Y2 Y3 Z0 Z1 Z2 Z3 kd kt
      go_wp2_with fail
      refine bodyPost_ret (results_three rfl _ _ rfl (load_state (put4_at HP4.out _ _ _ _) rfl)) rfl ?_
      rw [HQ.out]
      exact ⟨_, rfl, ⟨_, _, _, rfl, ((HSo.out.all K5.out).far (put4_kept (p := (W0.heap.size ≤ ·)) (by have := HBL.out; omega) _ _ _ _)).lower HBW.out⟩, HEndK.out _ K6.out _ _ _ _⟩
  · have HQ : Hid (RS = (Sa.none, [], 1)) := by
      show _ = _
      rw [HRS.out, applyP, if_neg h2, if_neg h3, if_neg h4, if_neg h5]
    have f2 : (o.kind == 2) = false := by simpa using h2
    have f3 : (o.kind == 3) = false := by simpa using h3
    have f4 : (o.kind == 4) = false := by simpa using h4
    have f5 : (o.kind == 5) = false := by simpa using h5
    obtain ⟨p1, p2, p3, p4⟩ := HLow.out _ KQ.out
    obtain ⟨⟨r0, r1, r2, r3⟩, _⟩ := four_cell p4
    have HP4 : Hid _ := p4
    clear p1 p2 p3 p4 h2 h3 h4 h5
    go_wp2_with fail
    refine bodyPost_ret (results_three rfl _ _ rfl (load_state (put4_at HP4.out _ _ _ _) rfl)) rfl ?_
    rw [HQ.out]
    exact ⟨_, rfl, StO.none _ _, HEndK.out _ KQ.out _ _ _ _⟩

end Go.Proofs.YtenejaghgehnoaaGreatDoor

namespace Go.Proofs.YtenejaghgehnoaaGreatDoor
open Go.RowKit Go.Maps

/-- A draft: it looks at the cases of map C, and keeps what was left in map L. -/
structure Df (w : World) (D C L n m : Nat) (tv : Value) (made most : Nat) (ts : List Ty) (f g : List UInt8 → Option Sa) : Prop where
  self : w.heap[D]? = some (.cells #[tv, .map (some C), .map (some L), .int .i64 (made : Nat), .int .i64 (most : Nat)] 160 (0, 0))
  types : TysV w tv ts
  cases : Cmap w C n f
  left : Cmap w L m g
  ne : C ≠ L
theorem five_cell {w : World} {b : Nat} {x0 x1 x2 x3 x4 : Value} {t : TypeId} (h : w.heap[b]? = some (.cells #[x0, x1, x2, x3, x4] t (0, 0))) : w.cell? ⟨b, 0, none⟩ = some x0 ∧ w.cell? ⟨b, 1, none⟩ = some x1 ∧ w.cell? ⟨b, 2, none⟩ = some x2 ∧ w.cell? ⟨b, 3, none⟩ = some x3 ∧ w.cell? ⟨b, 4, none⟩ = some x4 := by
  exact ⟨by simp [World.cell?, h], by simp [World.cell?, h], by simp [World.cell?, h], by simp [World.cell?, h], by simp [World.cell?, h]⟩
section
variable {w w' : World} {D C L n m made most : Nat} {tv : Value} {ts : List Ty} {f g : List UInt8 → Option Sa}
theorem Df.plain {p : Nat → Prop} (h : Df w D C L n m tv made most ts f g) (k : Kept p w w') (hp : Plainly p w) (hD : p D) (hC : p C) (hL : p L) : Df w' D C L n m tv made most ts f g :=
  ⟨(k.block D (lt_of_block h.self) hD).trans h.self, h.types.plain k hp, h.cases.plain k hC hp, h.left.plain k hL hp, h.ne⟩
theorem Df.all (h : Df w D C L n m tv made most ts f g) (k : Kept (fun _ => True) w w') : Df w' D C L n m tv made most ts f g := h.plain k (Plainly.all w) trivial trivial trivial
end

theorem plainly_ne {w : World} {D : Nat} {cs : Array Value} {ty : TypeId} {fr : Nat × Nat} (h : w.heap[D]? = some (.cells cs ty fr)) (ht : ty ≠ 3) (hb : ty ≠ 4) (hc : ∀ (i : Nat) (v : Value), cs[i]? = some v → (∀ x, v ≠ .string x) ∧ (∀ x, v ≠ .int .u64 x)) : Plainly (· ≠ D) w := by
  refine ⟨fun b o x e q => ?_, fun b cs' fr' e q => ?_, fun b cs' fr' e q => ?_, fun b o x e q => ?_⟩
  · subst q
    rw [cell_of_row w b o _ _ _ h] at e
    exact (hc o _ e).1 _ rfl
  · subst q
    rw [h] at e
    simp only [Option.some.injEq, Obj.cells.injEq] at e
    exact hb e.2.1
  · subst q
    rw [h] at e
    simp only [Option.some.injEq, Obj.cells.injEq] at e
    exact ht e.2.1
  · subst q
    rw [cell_of_row w b o _ _ _ h] at e
    exact (hc o _ e).2 _ rfl
section
variable {w w' : World} {D C L n m m' made most : Nat} {tv : Value} {ts : List Ty} {f g g' : List UInt8 → Option Sa}
theorem Df.dl (h : Df w D C L n m tv made most ts f g) : D ≠ L ∧ D ≠ C := by
  obtain ⟨es, clock, e⟩ := h.left.isMap
  obtain ⟨es', clock', e'⟩ := h.cases.isMap
  have hs := h.self
  refine ⟨fun q => ?_, fun q => ?_⟩
  · rw [q, e] at hs
    cases hs
  · rw [q, e'] at hs
    cases hs
theorem Df.more (h : Df w D C L n m tv made most ts f g) (k : Kept (· ≠ L) w w') (hL : Cmap w' L m' g') : Df w' D C L n m' tv made most ts f g' := by
  obtain ⟨es, clock, e⟩ := h.left.isMap
  have hp : Plainly (· ≠ L) w := (Plainly.noMap w).mono (fun i hi q => hi es clock (q ▸ e))
  exact ⟨(k.block D (lt_of_block h.self) h.dl.1).trans h.self, h.types.plain k hp, h.cases.plain k h.ne hp, hL, h.ne⟩
theorem Df.plainD (h : Df w D C L n m tv made most ts f g) : Plainly (· ≠ D) w := by
  obtain ⟨ao, cap, rfl, _⟩ := h.types.form
  refine plainly_ne h.self (by decide) (by decide) (fun i v e => ?_)
  rcases i with _ | _ | _ | _ | _ | i <;> simp at e <;> subst e <;> simp
theorem Df.inc (h : Df w D C L n m tv made most ts f g) : Df (w.setCell ⟨D, 3, none⟩ (.int .i64 ((made : Int) + 1))) D C L n m tv (made + 1) most ts f g := by
  have k : Kept (· ≠ D) w (w.setCell ⟨D, 3, none⟩ (.int .i64 ((made : Int) + 1))) := (Kept.refl _ _).setCell (by simp) _
  refine ⟨?_, h.types.plain k h.plainD, h.cases.plain k (Ne.symm h.dl.2) h.plainD, h.left.plain k (Ne.symm h.dl.1) h.plainD, h.ne⟩
  rw [heap_setCell_same w D 3 _ _ _ h.self]
  rfl
end

/-- What is found. -/
def orF (f g : List UInt8 → Option Sa) (x : List UInt8) : Option Sa := (g x).or (f x)

set_option maxRecDepth 100000 in
set_option maxHeartbeats 4000000 in
theorem find_any {w : World} {D C L n m made most : Nat} {tv : Value} {ts : List Ty} {f g : List UInt8 → Option Sa} (h : Df w D C L n m tv made most ts f g) {x : List UInt8} (hx : x.length ≤ 9223372036854775807) :
    Calls Tryz.prog 178 #[.pointer (some ⟨D, 0, none⟩), .string ⟨x.toArray⟩] w fun e w' => ∃ r : Sr, e = .returned (.tuple #[r.val, .bool (orF f g x).isSome]) ∧ StW w' r ((orF f g x).getD Sa.none) ∧ Kept (fun _ => True) w w' := by
  obtain ⟨x0, x1, x2, x3, x4⟩ := five_cell h.self
  have k0 : Kept (fun _ => True) w (w.alloc (.cells #[.string ⟨#[]⟩, .slice none 0 0, .slice none 0 0, .slice none 0 0] 70)) := (Kept.refl _ _).alloc _
  have h0 := heap_alloc_new w (.cells #[.string ⟨#[]⟩, .slice none 0 0, .slice none 0 0, .slice none 0 0] 70)
  obtain ⟨t1, a1, n1, c1, a2, n2, c2, a3, n3, c3, s1, l1⟩ := h.left.look hx
  obtain ⟨t4, a4, n4, c4, a5, n5, c5, a6, n6, c6, s2, l2⟩ := h.cases.look hx
  have y2 := (kept_cell k0 (lt_of_block h.self) trivial).trans x2
  have ka := (Kept.refl (fun _ => True) (w.alloc (.cells #[.string ⟨#[]⟩, .slice none 0 0, .slice none 0 0, .slice none 0 0] 70))).alloc (.cells #[.string ⟨t1.toArray⟩, .slice a1 n1 c1, .slice a2 n2 c2, .slice a3 n3 c3] 70)
  have hb1 := (ka.block _ (lt_of_block h0) trivial).trans h0
  have y1 := (kept_cell (k0.trans ka) (lt_of_block h.self) trivial).trans x1
  have HK1 : Hid _ := k0.trans ka
  have HS1 : Hid _ := s1
  have HS2 : Hid _ := s2
  have m1 := (l1 _ _ k0 trivial).1
  have m2 := (l2 _ _ HK1.out trivial).1
  clear h h0 k0 s1 s2 x0 x1 x2 x3 x4 l1 l2
  cases hg : g x with
  | some s =>
    rw [hg] at m1 HS1
    have HG : Hid (g x = some s) := hg
    have HB1 : Hid _ := hb1
    have hG := heap_alloc_new (w.alloc (.cells #[.string ⟨#[]⟩, .slice none 0 0, .slice none 0 0, .slice none 0 0] 70)) (.cells #[.string ⟨t1.toArray⟩, .slice a1 n1 c1, .slice a2 n2 c2, .slice a3 n3 c3] 70)
    rw [show (w.alloc (.cells #[.string ⟨#[]⟩, .slice none 0 0, .slice none 0 0, .slice none 0 0] 70)).heap.size = w.heap.size + 1 by simp] at hG
    have HG1 : Hid _ := hG
    clear hg ka hb1 m2 y1 hG
    simp only [Option.isSome_some] at m1
    go_enter Tryz.func178, Tryz.ntmps178
    go_upto_region 3 with fail
    clear m1 y2
    generalize (w.alloc (.cells #[.string ⟨#[]⟩, .slice none 0 0, .slice none 0 0, .slice none 0 0] 70)).alloc (.cells #[.string ⟨t1.toArray⟩, .slice a1 n1 c1, .slice a2 n2 c2, .slice a3 n3 c3] 70) = w2 at *
    obtain ⟨⟨z0, z1, z2, z3⟩, f0, f1, f2, f3⟩ := four_cell HB1.out
    obtain ⟨⟨p0, p1, p2, p3⟩, _⟩ := four_cell HG1.out
    go_wp2_with fail
    refine bodyPost_ret (results_two rfl _ _ rfl (load_state (put4_at HB1.out _ _ _ _) rfl)) rfl ?_
    unfold orF
    rw [HG.out]
    have kf := put4_new HK1.out (Nat.le_refl _) (.string ⟨t1.toArray⟩) (.slice a1 n1 c1) (.slice a2 n2 c2) (.slice a3 n3 c3)
    exact ⟨⟨t1, ⟨a1, n1, c1⟩, ⟨a2, n2, c2⟩, ⟨a3, n3, c3⟩⟩, rfl, HS1.out.plain kf (Plainly.all w), kf⟩
  | none =>
    rw [hg] at m1
    have HG : Hid (g x = none) := hg
    simp only [Option.isSome_none] at m1
    have kb := (Kept.refl (fun _ => True) ((w.alloc (.cells #[.string ⟨#[]⟩, .slice none 0 0, .slice none 0 0, .slice none 0 0] 70)).alloc (.cells #[.string ⟨t1.toArray⟩, .slice a1 n1 c1, .slice a2 n2 c2, .slice a3 n3 c3] 70))).alloc (.cells #[.string ⟨t4.toArray⟩, .slice a4 n4 c4, .slice a5 n5 c5, .slice a6 n6 c6] 70)
    have hb2 := (kb.block _ (lt_of_block hb1) trivial).trans hb1
    have HB2 : Hid _ := hb2
    have hG := heap_alloc_new ((w.alloc (.cells #[.string ⟨#[]⟩, .slice none 0 0, .slice none 0 0, .slice none 0 0] 70)).alloc (.cells #[.string ⟨t1.toArray⟩, .slice a1 n1 c1, .slice a2 n2 c2, .slice a3 n3 c3] 70)) (.cells #[.string ⟨t4.toArray⟩, .slice a4 n4 c4, .slice a5 n5 c5, .slice a6 n6 c6] 70)
    rw [show ((w.alloc (.cells #[.string ⟨#[]⟩, .slice none 0 0, .slice none 0 0, .slice none 0 0] 70)).alloc (.cells #[.string ⟨t1.toArray⟩, .slice a1 n1 c1, .slice a2 n2 c2, .slice a3 n3 c3] 70)).heap.size = w.heap.size + 1 + 1 by simp] at hG
    have HG2 : Hid _ := hG
    clear hG
    have HK2 : Hid _ := HK1.out.trans kb
    clear hg ka hb1 hb2 kb
    obtain ⟨q, hq⟩ : ∃ q, q = (f x).isSome := ⟨_, rfl⟩
    rw [← hq] at m2
    have HQ : Hid _ := hq.symm
    clear hq
    go_enter Tryz.func178, Tryz.ntmps178
    go_upto_region 5 with fail
    clear m1 m2 y1 y2
    generalize ((w.alloc (.cells #[.string ⟨#[]⟩, .slice none 0 0, .slice none 0 0, .slice none 0 0] 70)).alloc (.cells #[.string ⟨t1.toArray⟩, .slice a1 n1 c1, .slice a2 n2 c2, .slice a3 n3 c3] 70)).alloc (.cells #[.string ⟨t4.toArray⟩, .slice a4 n4 c4, .slice a5 n5 c5, .slice a6 n6 c6] 70) = w2 at *
    obtain ⟨⟨z0, z1, z2, z3⟩, f0, f1, f2, f3⟩ := four_cell HB2.out
    obtain ⟨⟨p0, p1, p2, p3⟩, _⟩ := four_cell HG2.out
    go_wp2_with fail
    refine bodyPost_ret (results_two rfl _ _ rfl (load_state (put4_at HB2.out _ _ _ _) rfl)) rfl ?_
    have kf := put4_new HK2.out (Nat.le_refl _) (.string ⟨t4.toArray⟩) (.slice a4 n4 c4) (.slice a5 n5 c5) (.slice a6 n6 c6)
    have e : orF f g x = f x := by
      unfold orF
      rw [HG.out]
      rfl
    rw [e]
    exact ⟨⟨t4, ⟨a4, n4, c4⟩, ⟨a5, n5, c5⟩, ⟨a6, n6, c6⟩⟩, by rw [HQ.out]; rfl, HS2.out.plain kf (Plainly.all w), kf⟩

end Go.Proofs.YtenejaghgehnoaaGreatDoor

namespace Go.Proofs.YtenejaghgehnoaaGreatDoor
open Go.RowKit Go.Maps

/-- The blocks of a shard: itself, its table of locks, its maps, the table's maps. -/
structure Ft where
  S : Nat
  T : Nat
  C : Nat
  P : Nat
  O : Nat
  B : Lab → Option Nat
/-- What a shard may write. -/
def Ft.Mine (a : Ft) (k : Nat) : Prop := k = a.S ∨ k = a.C ∨ k = a.P ∨ k = a.O ∨ ∃ x, a.B x = some k
def scell (tv : Value) (hs : Nat → Nat) (a : Ft) (i : Nat) : Value :=
  if i = 0 then tv else if i < 257 then .int .i64 (hs (i - 1) : Nat) else if i = 257 then .map (some a.C) else if i = 258 then .map (some a.P) else if i = 259 then .map (some a.O) else .pointer (some ⟨a.T, 0, none⟩)
/-- Rows of operations in a map. -/
def Pmap (w : World) (P n : Nat) (f : List UInt8 → Option (List Oq)) : Prop := ∃ fv : List UInt8 → Option Sv, Mp codeL w P n fv ∧ (∀ x, fv x = none ↔ f x = none) ∧ ∀ x r l, fv x = some r → f x = some l → Ov w r.val l

section
variable {p : Nat → Prop} {w w' : World} {P n : Nat} {f : List UInt8 → Option (List Oq)}
theorem Pmap.plain (h : Pmap w P n f) (k : Kept p w w') (hP : p P) (hp : Plainly p w) : Pmap w' P n f := by
  obtain ⟨fv, m, h1, h2⟩ := h
  exact ⟨fv, m.kept k hP, h1, fun x r s e1 e2 => (h2 x r s e1 e2).plain k hp⟩
theorem Pmap.isMap (h : Pmap w P n f) : ∃ es clock, w.heap[P]? = some (.map es clock) := by obtain ⟨fv, m, _⟩ := h; exact m.isMap
theorem Pmap.lt (h : Pmap w P n f) : P < w.heap.size := by obtain ⟨fv, m, _⟩ := h; exact m.lt
theorem Pmap.mono {m : Nat} (h : Pmap w P n f) (hm : n ≤ m) : Pmap w P m f := by
  obtain ⟨fv, q, h1, h2⟩ := h
  exact ⟨fv, q.mono hm, h1, h2⟩
theorem Pmap.congr {g : List UInt8 → Option (List Oq)} (h : Pmap w P n f) (hg : ∀ x, g x = f x) : Pmap w P n g := by
  obtain rfl : g = f := funext hg
  exact h
theorem Pmap.made (w : World) : Pmap (w.alloc (.map #[] 0)) w.heap.size 0 (fun _ => none) := ⟨fun _ => none, Mp.made codeL w, fun _ => ⟨fun _ => rfl, fun _ => rfl⟩, fun _ _ _ e _ => by cases e⟩
theorem Ov.empty (w : World) : Ov w (.slice none 0 0) [] := ⟨none, 0, rfl, by simp, fun h => by simp at h⟩
theorem Pmap.look (h : Pmap w P n f) {x : List UInt8} (hx : x.length ≤ 9223372036854775807) :
    ∃ ao m c, (Instr.lookup 111 (.map (some P)) (.string ⟨x.toArray⟩) true).run Tryz.prog w = .ok (.tuple #[.slice ao m c, .bool (f x).isSome]) w ∧ Ov w (.slice ao m c) ((f x).getD []) := by
  obtain ⟨fv, m, h1, h2⟩ := h
  have := m.look Tryz.underlying111 (zeroOps w) hx
  cases e : fv x with
  | none =>
    rw [e] at this
    refine ⟨none, 0, 0, ?_, ?_⟩
    · rw [(h1 x).1 e]
      exact this
    · rw [(h1 x).1 e]
      exact Ov.empty w
  | some r =>
    rw [e] at this
    obtain ⟨s, hs⟩ := Option.ne_none_iff_exists'.1 (show f x ≠ none from fun q => (by rw [(h1 x).2 q] at e; cases e))
    refine ⟨r.a, r.n, r.c, ?_, ?_⟩
    · rw [hs]
      exact this
    · rw [hs]
      exact h2 x r s e hs
theorem Pmap.look1 (h : Pmap w P n f) {x : List UInt8} (hx : x.length ≤ 9223372036854775807) :
    ∃ ao m c, (Instr.lookup 111 (.map (some P)) (.string ⟨x.toArray⟩) false).run Tryz.prog w = .ok (.slice ao m c) w ∧ Ov w (.slice ao m c) ((f x).getD []) := by
  obtain ⟨fv, m, h1, h2⟩ := h
  have := m.look1 Tryz.underlying111 (zeroOps w) hx
  cases e : fv x with
  | none =>
    rw [e] at this
    refine ⟨none, 0, 0, this, ?_⟩
    rw [(h1 x).1 e]
    exact Ov.empty w
  | some r =>
    rw [e] at this
    obtain ⟨s, hs⟩ := Option.ne_none_iff_exists'.1 (show f x ≠ none from fun q => (by rw [(h1 x).2 q] at e; cases e))
    refine ⟨r.a, r.n, r.c, this, ?_⟩
    rw [hs]
    exact h2 x r s e hs
theorem Pmap.store (h : Pmap w P n f) {x : List UInt8} (hx : x.length ≤ 9223372036854775807) (hn : n ≤ 1000000) {ao : Option Addr} {m c : Nat} {l : List Oq} (hs : Ov w (.slice ao m c) l) :
    ∃ w', (Instr.mapUpdate 111 (.map (some P)) (.string ⟨x.toArray⟩) (.slice ao m c)).run Tryz.prog w = .ok () w' ∧ Pmap w' P (n + 1) (putM f x l) ∧ Kept (· ≠ P) w w' ∧ w'.heap.size = w.heap.size := by
  obtain ⟨es, clock, hm⟩ := h.isMap
  obtain ⟨fv, q, h1, h2⟩ := h
  obtain ⟨w', e1, m', k, z⟩ := q.store Tryz.underlying111 hx hn ⟨ao, m, c⟩
  have hp : Plainly (· ≠ P) w := (Plainly.noMap w).mono (fun i hi e => hi es clock (e ▸ hm))
  refine ⟨w', e1, ⟨_, m', fun y => ?_, fun y r' s' e2 e3 => ?_⟩, k, z⟩
  · unfold putM
    split
    · simp
    · exact h1 y
  · unfold putM at e2 e3
    split at e2
    · rename_i q
      rw [if_pos q] at e3
      cases e2
      cases e3
      exact hs.plain k hp
    · rename_i q
      rw [if_neg q] at e3
      exact (h2 y r' s' e2 e3).plain k hp
theorem Pmap.drop (h : Pmap w P n f) {x : List UInt8} (hx : x.length ≤ 9223372036854775807) (ty : TypeId) :
    ∃ w', (Builtin.delete_ #[111, 9] ty #[.map (some P), .string ⟨x.toArray⟩]).run Tryz.prog w = .ok (.tuple #[]) w' ∧ Pmap w' P n (cutM f x) ∧ Kept (· ≠ P) w w' ∧ w'.heap.size = w.heap.size := by
  obtain ⟨es, clock, hm⟩ := h.isMap
  obtain ⟨fv, q, h1, h2⟩ := h
  obtain ⟨w', e1, m', k, z⟩ := q.drop Tryz.underlying111 hx ty
  have hp : Plainly (· ≠ P) w := (Plainly.noMap w).mono (fun i hi e => hi es clock (e ▸ hm))
  refine ⟨w', e1, ⟨_, m', fun y => ?_, fun y r' s' e2 e3 => ?_⟩, k, z⟩
  · unfold cutM
    split
    · simp
    · exact h1 y
  · unfold cutM at e2 e3
    split at e2
    · cases e2
    · rename_i q
      rw [if_neg q] at e3
      exact (h2 y r' s' e2 e3).plain k hp
end

/-- Outcomes as numbers. -/
def outF (l : List (List UInt8 × Nat)) (x : List UInt8) : Option Int := (look l x).map Int.ofNat
/-- A shard in memory. -/
structure Sm (w : World) (a : Ft) (n : Nat) (tv : Value) (h : Lk) (s : Sh) : Prop where
  self : Af w a.S 117 261 (scell tv s.hs a)
  types : TysV w tv s.types
  cases : Cmap w a.C n (look s.cs)
  preps : Pmap w a.P n (look s.ps)
  outs : Mp codeN w a.O n (outF s.outs)
  tb : Tb w a.T n a.B h
  alone : Alone h
  rep : Rep (tagd s.lk) h
  cp : a.C ≠ a.P
  co : a.C ≠ a.O
  po : a.P ≠ a.O
  bs : ∀ x, a.B x ≠ some a.C ∧ a.B x ≠ some a.P ∧ a.B x ≠ some a.O
/-- What a call that turns a shard leaves. -/
structure Fstep (a : Ft) (w w' : World) (a' : Ft) : Prop where
  kept : Kept (fun k => ¬ a.Mine k) w w'
  news : ∀ k, a'.Mine k → a.Mine k ∨ w.heap.size ≤ k
theorem Fstep.refl (a : Ft) (w : World) : Fstep a w w a := ⟨Kept.refl _ _, fun _ h => .inl h⟩
theorem Fstep.of (a : Ft) {w w' : World} (k : Kept (fun _ => True) w w') : Fstep a w w' a := ⟨k.mono (fun _ _ _ => trivial), fun _ h => .inl h⟩
theorem Fstep.trans {a a' a'' : Ft} {w w' w'' : World} (h : Fstep a w w' a') (k : Fstep a' w' w'' a'') : Fstep a w w'' a'' := by
  refine ⟨h.kept.then k.kept fun i hi hp q => ?_, fun i q => ?_⟩
  · rcases h.news i q with e | e
    · exact hp e
    · omega
  · have := h.kept.size
    rcases k.news i q with e | e
    · exact h.news i e
    · exact .inr (by omega)
theorem Fstep.ahead {a a' : Ft} {w w' w'' : World} (h : Fstep a w w' a') (k : Kept (fun _ => True) w' w'') : Fstep a w w'' a' := h.trans (Fstep.of a' k)

section
variable {w w' : World} {a : Ft} {n : Nat} {tv : Value} {h : Lk} {s : Sh}
theorem Sm.cell0 (m : Sm w a n tv h s) : w.cell? ⟨a.S, 0, none⟩ = some tv := m.self.cell (i := 0) (by omega)
theorem Sm.cellH (m : Sm w a n tv h s) {k : Nat} (hk : k < 256) : w.cell? ⟨a.S, 1 + k, none⟩ = some (.int .i64 (s.hs k : Nat)) := by
  have := m.self.cell (i := 1 + k) (by omega)
  rw [this]
  unfold scell
  rw [if_neg (by omega), if_pos (by omega), show 1 + k - 1 = k by omega]
theorem Sm.cellC (m : Sm w a n tv h s) : w.cell? ⟨a.S, 257, none⟩ = some (.map (some a.C)) := m.self.cell (i := 257) (by omega)
theorem Sm.cellP (m : Sm w a n tv h s) : w.cell? ⟨a.S, 258, none⟩ = some (.map (some a.P)) := m.self.cell (i := 258) (by omega)
theorem Sm.cellO (m : Sm w a n tv h s) : w.cell? ⟨a.S, 259, none⟩ = some (.map (some a.O)) := m.self.cell (i := 259) (by omega)
theorem Sm.cellT (m : Sm w a n tv h s) : w.cell? ⟨a.S, 260, none⟩ = some (.pointer (some ⟨a.T, 0, none⟩)) := m.self.cell (i := 260) (by omega)
theorem Sm.slt (m : Sm w a n tv h s) : a.S < w.heap.size := m.self.lt
theorem Sm.mine_lt (m : Sm w a n tv h s) {k : Nat} (hk : a.Mine k) : k < w.heap.size := by
  rcases hk with rfl | rfl | rfl | rfl | ⟨x, hx⟩
  · exact m.self.lt
  · exact m.cases.lt
  · exact m.preps.lt
  · exact m.outs.lt
  · exact Tw.lt m.tb hx
/-- A block of the shard is a map or the shard itself. -/
theorem Sm.kinds (m : Sm w a n tv h s) {k : Nat} (hk : a.Mine k) : k = a.S ∨ ∃ es clock, w.heap[k]? = some (.map es clock) := by
  rcases hk with rfl | rfl | rfl | rfl | ⟨x, hx⟩
  · exact .inl rfl
  · exact .inr m.cases.isMap
  · exact .inr m.preps.isMap
  · exact .inr m.outs.isMap
  · exact .inr (Tw.isMap m.tb hx)
theorem scell_no {tv : Value} {hs : Nat → Nat} {a : Ft} (htv : ∃ ao n c, tv = .slice ao n c) (i : Nat) : (∀ x, scell tv hs a i ≠ .string x) ∧ (∀ x, scell tv hs a i ≠ .bool x) ∧ (∀ x, scell tv hs a i ≠ .int .u64 x) := by
  obtain ⟨ao, n, c, rfl⟩ := htv
  unfold scell
  refine ⟨fun x => ?_, fun x => ?_, fun x => ?_⟩ <;> (repeat' split) <;> simp
theorem Sm.cells_ne (m : Sm w a n tv h s) {k : Nat} {cs : Array Value} {ty : TypeId} {fr : Nat × Nat} (hk : w.heap[k]? = some (.cells cs ty fr)) (ht : ty ≠ 117) : ¬ a.Mine k := by
  intro q
  rcases m.kinds q with rfl | ⟨es, clock, e⟩
  · have := m.self
    unfold Af at this
    rw [hk] at this
    simp only [Option.some.injEq, Obj.cells.injEq] at this
    exact ht this.2.1
  · rw [hk] at e
    cases e
theorem Sm.only (m : Sm w a n tv h s) {i : Nat} {v : Value} (hc : w.cell? ⟨a.S, i, none⟩ = some v) : v = scell tv s.hs a i := by
  have := m.self
  unfold Af at this
  rw [cell_of_row w a.S i _ _ _ this] at hc
  simp only [List.getElem?_toArray, List.getElem?_map] at hc
  rcases Nat.lt_or_ge i 261 with hi | hi
  · simp [hi] at hc
    exact hc.symm
  · simp [hi] at hc
theorem Sm.plainly (m : Sm w a n tv h s) : Plainly (fun k => ¬ a.Mine k) w := by
  obtain ⟨ao, c, e, _⟩ := m.types.form
  have hno := fun i => scell_no (hs := s.hs) (a := a) ⟨ao, _, c, e⟩ i
  refine ⟨fun b o x hc q => ?_, fun b cs fr hc => m.cells_ne hc (by decide), fun b cs fr hc => m.cells_ne hc (by decide), fun b o x hc q => ?_⟩
  · rcases m.kinds q with rfl | ⟨es, clock, e⟩
    · exact (hno o).1 _ (m.only hc).symm
    · exact noMap_cell hc es clock e
  · rcases m.kinds q with rfl | ⟨es, clock, e⟩
    · exact (hno o).2.2 _ (m.only hc).symm
    · exact noMap_cell hc es clock e
theorem Sm.tself (m : Sm w a n tv h s) : ∃ cs fr, w.heap[a.T]? = some (.cells cs 186 fr) := by
  obtain ⟨H, D, _, _, hs⟩ := m.tb.self
  exact ⟨_, _, hs⟩
/-- Something was written that is none of the shard's. -/
theorem Sm.beside {p : Nat → Prop} (m : Sm w a n tv h s) (k : Kept p w w') (hp : Plainly p w) (hm : ∀ i, a.Mine i → p i) (hT : p a.T) : Sm w' a n tv h s :=
  ⟨m.self.kept k (hm _ (.inl rfl)), m.types.plain k hp, m.cases.plain k (hm _ (.inr (.inl rfl))) hp, m.preps.plain k (hm _ (.inr (.inr (.inl rfl)))) hp, m.outs.kept k (hm _ (.inr (.inr (.inr (.inl rfl))))), Tw.kept m.tb k hT (fun x _ e => hm _ (.inr (.inr (.inr (.inr ⟨x, e⟩))))), m.alone, m.rep, m.cp, m.co, m.po, m.bs⟩
theorem Sm.all (m : Sm w a n tv h s) (k : Kept (fun _ => True) w w') : Sm w' a n tv h s := m.beside k (Plainly.all w) (fun _ _ => trivial) trivial
theorem Sm.mono {q : Nat} (m : Sm w a n tv h s) (hq : n ≤ q) : Sm w a q tv h s :=
  ⟨m.self, m.types, m.cases.mono hq, m.preps.mono hq, m.outs.mono hq, Tw.mono m.tb hq, m.alone, m.rep, m.cp, m.co, m.po, m.bs⟩
/-- The table of locks has gone on. -/
theorem Sm.locked {B' : Lab → Option Nat} {h' : Lk} {lk' : List Lo} {q : Nat} (m : Sm w a n tv h s) (hq : n ≤ q) (tb : Tb w' a.T q B' h') (st : Stp a.B w w' B') (ha : Alone h') (hr : Rep (tagd lk') h') : Sm w' { a with B := B' } q tv h' { s with lk := lk' } ∧ Fstep a w w' { a with B := B' } := by
  have hmine : ∀ i, ¬ a.Mine i → ∀ x, a.B x ≠ some i := fun i hi x e => hi (.inr (.inr (.inr (.inr ⟨x, e⟩))))
  have hpl : Plainly (fun k => ∀ x, a.B x ≠ some k) w := (Plainly.noMap w).mono (fun i hi x e => Tw.noMap m.tb hi x e)
  have hne : ∀ {k}, (∀ x, a.B x ≠ some k) → k < w.heap.size → ∀ x, B' x ≠ some k := fun {k} h1 h2 x e => by
    rcases st.news x k e with e | e
    · exact h1 x e
    · omega
  have hC := fun x => (m.bs x).1
  have hP := fun x => (m.bs x).2.1
  have hO := fun x => (m.bs x).2.2
  have hS : ∀ x, a.B x ≠ some a.S := fun x e => by
    obtain ⟨es, clock, e'⟩ := Tw.isMap m.tb e
    have := m.self
    unfold Af at this
    rw [e'] at this
    cases this
  refine ⟨⟨?_, m.types.plain st.kept hpl, (m.cases.plain st.kept hC hpl).mono hq, (m.preps.plain st.kept hP hpl).mono hq, (m.outs.kept st.kept hO).mono hq, tb, ha, hr, m.cp, m.co, m.po, fun x => ⟨hne hC m.cases.lt x, hne hP m.preps.lt x, hne hO m.outs.lt x⟩⟩, ⟨st.kept.mono (fun i _ => hmine i), fun i q => ?_⟩⟩
  · exact (m.self.kept st.kept hS)
  · rcases q with q | q | q | q | ⟨x, q⟩
    · exact .inl (.inl q)
    · exact .inl (.inr (.inl q))
    · exact .inl (.inr (.inr (.inl q)))
    · exact .inl (.inr (.inr (.inr (.inl q))))
    · rcases st.news x i q with e | e
      · exact .inl (.inr (.inr (.inr (.inr ⟨x, e⟩))))
      · exact .inr e
/-- A variable was written that holds neither texts nor any of the shard's. -/
theorem Sm.box {R : Nat} {cs : Array Value} {ty : TypeId} {fr : Nat × Nat} (m : Sm w a n tv h s) (hR : w.heap[R]? = some (.cells cs ty fr)) (h1 : ty ≠ 117) (h2 : ty ≠ 3) (h3 : ty ≠ 4) (h4 : ty ≠ 186) (hc : ∀ (i : Nat) (v : Value), cs[i]? = some v → (∀ x, v ≠ .string x) ∧ (∀ x, v ≠ .int .u64 x)) (k : Kept (· ≠ R) w w') : Sm w' a n tv h s := by
  refine m.beside k (plainly_ne hR h2 h3 hc) (fun i q e => ?_) (fun e => ?_)
  · subst e
    exact m.cells_ne hR h1 q
  · obtain ⟨cs', fr', e'⟩ := m.tself
    rw [e, hR] at e'
    simp only [Option.some.injEq, Obj.cells.injEq] at e'
    exact h4 e'.2.1
theorem Sm.ans {R : Nat} {x1 x4 : Value} {x0 x2 x3 : Int} {fr : Nat × Nat} (m : Sm w a n tv h s) (hR : w.heap[R]? = some (.cells #[.int .i64 x0, x1, .int .i64 x2, .int .i64 x3, x4] 35 fr)) (h1 : ∃ o k c, x1 = .slice o k c) (h4 : ∃ o k c, x4 = .slice o k c) (k : Kept (· ≠ R) w w') : Sm w' a n tv h s := by
  obtain ⟨o, l, c, rfl⟩ := h1
  obtain ⟨o', l', c', rfl⟩ := h4
  refine m.box hR (by decide) (by decide) (by decide) (by decide) (fun i v e => ?_) k
  rcases i with _ | _ | _ | _ | _ | i <;> simp at e <;> subst e <;> simp
theorem plainly_map {w : World} {X : Nat} (h : ∃ es clock, w.heap[X]? = some (.map es clock)) : Plainly (· ≠ X) w := by
  obtain ⟨es, clock, e⟩ := h
  exact (Plainly.noMap w).mono (fun i hi q => hi es clock (q ▸ e))
theorem Sm.notS (m : Sm w a n tv h s) {X : Nat} (hX : ∃ es clock, w.heap[X]? = some (.map es clock)) : a.S ≠ X ∧ a.T ≠ X := by
  obtain ⟨es, clock, e⟩ := hX
  refine ⟨fun q => ?_, fun q => ?_⟩
  · have := m.self
    unfold Af at this
    rw [q, e] at this
    cases this
  · obtain ⟨cs, fr, e'⟩ := m.tself
    rw [q, e] at e'
    cases e'
/-- The map of cases has gone on. -/
theorem Sm.casesTo {cs' : Css} {q : Nat} (m : Sm w a n tv h s) (hq : n ≤ q) (k : Kept (· ≠ a.C) w w') (hC : Cmap w' a.C q (look cs')) : Sm w' a q tv h { s with cs := cs' } ∧ Fstep a w w' a := by
  have hp := plainly_map m.cases.isMap
  obtain ⟨h1, h2⟩ := m.notS m.cases.isMap
  exact ⟨⟨m.self.kept k h1, m.types.plain k hp, hC, (m.preps.plain k (Ne.symm m.cp) hp).mono hq, (m.outs.kept k (Ne.symm m.co)).mono hq, Tw.mono (Tw.kept m.tb k h2 (fun x b e q => (m.bs x).1 (q ▸ e))) hq, m.alone, m.rep, m.cp, m.co, m.po, m.bs⟩, k.mono (fun i _ h e => h (.inr (.inl e))), fun _ h => .inl h⟩
theorem Sm.prepsTo {ps' : List (List UInt8 × List Oq)} {q : Nat} (m : Sm w a n tv h s) (hq : n ≤ q) (k : Kept (· ≠ a.P) w w') (hP : Pmap w' a.P q (look ps')) : Sm w' a q tv h { s with ps := ps' } ∧ Fstep a w w' a := by
  have hp := plainly_map m.preps.isMap
  obtain ⟨h1, h2⟩ := m.notS m.preps.isMap
  exact ⟨⟨m.self.kept k h1, m.types.plain k hp, (m.cases.plain k m.cp hp).mono hq, hP, (m.outs.kept k (Ne.symm m.po)).mono hq, Tw.mono (Tw.kept m.tb k h2 (fun x b e q => (m.bs x).2.1 (q ▸ e))) hq, m.alone, m.rep, m.cp, m.co, m.po, m.bs⟩, k.mono (fun i _ h e => h (.inr (.inr (.inl e)))), fun _ h => .inl h⟩
theorem Sm.outsTo {os' : List (List UInt8 × Nat)} {q : Nat} (m : Sm w a n tv h s) (hq : n ≤ q) (k : Kept (· ≠ a.O) w w') (hO : Mp codeN w' a.O q (outF os')) : Sm w' a q tv h { s with outs := os' } ∧ Fstep a w w' a := by
  have hp := plainly_map m.outs.isMap
  obtain ⟨h1, h2⟩ := m.notS m.outs.isMap
  exact ⟨⟨m.self.kept k h1, m.types.plain k hp, (m.cases.plain k m.co hp).mono hq, (m.preps.plain k m.po hp).mono hq, hO, Tw.mono (Tw.kept m.tb k h2 (fun x b e q => (m.bs x).2.2 (q ▸ e))) hq, m.alone, m.rep, m.cp, m.co, m.po, m.bs⟩, k.mono (fun i _ h e => h (.inr (.inr (.inr (.inl e))))), fun _ h => .inl h⟩
end

end Go.Proofs.YtenejaghgehnoaaGreatDoor

namespace Go.Proofs.YtenejaghgehnoaaGreatDoor
open Go.Proofs Go.Shelf
def keysS_ren : Go.Shelf.Ren := ⟨fun | 7 => 118 | 10 => 158 | n => n, fun | 23 => 110 | 26 => 9 | 3 => 70 | 28 => 134 | 0 => 0 | 27 => 133 | 33 => 73 | 4 => 4 | n => n, fun | n => n⟩
theorem keysS : Go.Proofs.SlLaysZ.n7 Tryz.prog keysS_ren := {
  mixed := by kernel_rfl
  f7 := ⟨Tryz.f118.name, by decide, Tryz.func118.trans (congrArg some (by kernel_rfl))⟩
  f10 := ⟨Tryz.f158.name, by decide, Tryz.func158.trans (congrArg some (by kernel_rfl))⟩
  t0 := Tryz.underlying0
  a0 := Tryz.isAgg0
  z0 := Tryz.sizeOf0
  v0 := Tryz.zeroValue0
  t4 := Tryz.underlying4
  a4 := Tryz.isAgg4
  z4 := Tryz.sizeOf4
  v4 := Tryz.zeroValue4
  t23 := Tryz.underlying110
  a23 := Tryz.isAgg110
  z23 := Tryz.sizeOf110
  v23 := Tryz.zeroValue110
  t26 := Tryz.underlying9
  a26 := Tryz.isAgg9
  z26 := Tryz.sizeOf9
  v26 := Tryz.zeroValue9
  t27 := Tryz.underlying133
  a27 := Tryz.isAgg133
  z27 := Tryz.sizeOf133
  v27 := Tryz.zeroValue133
  t28 := Tryz.underlying134
  a28 := Tryz.isAgg134
  z28 := Tryz.sizeOf134
  v28 := Tryz.zeroValue134
  t33 := Tryz.underlying73
  a33 := Tryz.isAgg73
  z33 := Tryz.sizeOf73
  v33 := Tryz.zeroValue73 }
def keysP_ren : Go.Shelf.Ren := ⟨fun | 7 => 95 | 10 => 150 | n => n, fun | 23 => 111 | 26 => 9 | 3 => 37 | 28 => 134 | 0 => 0 | 27 => 133 | 33 => 73 | 4 => 4 | n => n, fun | n => n⟩
theorem keysP : Go.Proofs.SlLaysZ.n7 Tryz.prog keysP_ren := {
  mixed := by kernel_rfl
  f7 := ⟨Tryz.f95.name, by decide, Tryz.func95.trans (congrArg some (by kernel_rfl))⟩
  f10 := ⟨Tryz.f150.name, by decide, Tryz.func150.trans (congrArg some (by kernel_rfl))⟩
  t0 := Tryz.underlying0
  a0 := Tryz.isAgg0
  z0 := Tryz.sizeOf0
  v0 := Tryz.zeroValue0
  t4 := Tryz.underlying4
  a4 := Tryz.isAgg4
  z4 := Tryz.sizeOf4
  v4 := Tryz.zeroValue4
  t23 := Tryz.underlying111
  a23 := Tryz.isAgg111
  z23 := Tryz.sizeOf111
  v23 := Tryz.zeroValue111
  t26 := Tryz.underlying9
  a26 := Tryz.isAgg9
  z26 := Tryz.sizeOf9
  v26 := Tryz.zeroValue9
  t27 := Tryz.underlying133
  a27 := Tryz.isAgg133
  z27 := Tryz.sizeOf133
  v27 := Tryz.zeroValue133
  t28 := Tryz.underlying134
  a28 := Tryz.isAgg134
  z28 := Tryz.sizeOf134
  v28 := Tryz.zeroValue134
  t33 := Tryz.underlying73
  a33 := Tryz.isAgg73
  z33 := Tryz.sizeOf73
  v33 := Tryz.zeroValue73 }
end Go.Proofs.YtenejaghgehnoaaGreatDoor
