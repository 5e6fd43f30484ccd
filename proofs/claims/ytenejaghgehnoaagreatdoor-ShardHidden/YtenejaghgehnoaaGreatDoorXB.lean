/-
  Texts of the proofs, 2 of 6.
-/
import Derived.Test.YtenejaghgehnoaaGreatDoorXA
import Derived.Laws.Concat
import Derived.Deep.OwnRows
import Derived.Shelf.SlIter.Nil
import Derived.Shelf.SortM.Plain
import Derived.Shelf.SortM.SortNone
import Derived.Test.YtenejaghgehnoaaGreatDoorRows
import Derived.Sort.KeysCollected
import Derived.Deep.QuietTactic
import Derived.Deep.RegionHeld
import Derived.Deep.RegionHeld3
import Derived.Deep.CutRange
import Derived.Laws.IdiomRangeMap
import Derived.Laws.OwnMore
import Derived.KernelRfl
import Derived.WalkKit
import Derived.Laws.BitsAllLaws
import Derived.Deep.RegionLaw
import Derived.Lib.ConvBytes
import Derived.Lib.SlBytesConst
namespace Go.Proofs.YtenejaghgehnoaaGreatDoor
open Go.RowKit

theorem grow_any {w : World} (n : Nat) (hn : n ≤ 1000) :
    Calls Tryz.prog 187 #[.slice none 0 0, .int .i64 (n : Nat)] w fun e w' => ∃ v, e = .returned v ∧ Ro w' w.heap.size v [] ∧ Kept (fun _ => True) w w' := by
  by_cases h0 : n = 0
  · subst h0
    refine (Any8.slices_Grow_room growQ none 0 0 0 w (Nat.le_refl _) (by omega) (by omega) (by omega)).mono ?_
    rintro e w' ⟨rfl, rfl⟩
    exact ⟨_, rfl, Ro.nil _ _, Kept.refl _ _⟩
  · obtain ⟨i, hi, hz0, hz1, hz2⟩ := info_parts Tryz.infoRule
    refine (Any8.slices_Grow_grow growQ i _ hi hz0 (by omega) none 0 0 n [] w (Nat.le_refl _) (by omega) (by rw [hz2]; omega) (by omega) (by simp) (fun _ => rfl) (fun _ h => by cases h)).mono ?_
    rintro e w' ⟨rfl, rfl⟩
    have hge := grownCap_ge w (0 + n) 0 90
    have hle := grownCap_le_maxLen w (0 + n) 0 90 (by unfold maxLen; omega)
    refine ⟨_, rfl, ⟨rfl, .inr ⟨_, _, _, rfl, Nat.le_refl _, heap_alloc_new w.drew _, Nat.zero_le _, hle, ?_, by simp [rrow]⟩⟩, ((Kept.refl _ _).drew).alloc _⟩
    simp only [Array.size_append, size_zeroCells, cells_rule, List.size_toArray, List.length_nil]
    show _ = grownCap w (0 + n) 0 90 * 2
    have e : growQ_ren.t 25 = 90 := rfl
    rw [e]
    omega

theorem rrow_cell {w : World} {b off : Nat} {ys : List Ru} (hc : ∀ i (h : i < ys.length), w.cell? ⟨b, off + i * 2, none⟩ = some (.string ⟨(ys[i]).name.toArray⟩) ∧ w.cell? ⟨b, off + i * 2 + 1, none⟩ = some (.string ⟨(ys[i]).guard.toArray⟩)) :
    ∀ j u, (rrow ys)[j]? = some u → w.cell? ((⟨b, off, none⟩ : Addr).add j) = some u := by
  intro j u hu
  rw [WideShapes.add_plain]
  have hj : j < ys.length * 2 := by
    have := (List.getElem?_eq_some_iff.1 hu).1
    rwa [rrow, flat_length rlay_len] at this
  have hi : j / 2 < ys.length := by omega
  have e := flat_get rlay_len ys (j / 2) hi (j % 2) (by omega)
  rw [show j / 2 * 2 + j % 2 = j by omega] at e
  rw [rrow, e] at hu
  obtain ⟨h1, h2⟩ := hc (j / 2) hi
  rcases Nat.mod_two_eq_zero_or_one j with h | h
  · rw [h] at hu
    rw [show off + j = off + j / 2 * 2 by omega, h1]
    exact hu
  · rw [h] at hu
    rw [show off + j = off + j / 2 * 2 + 1 by omega, h2]
    exact hu
theorem append_rules (w : World) (ty : TypeId) (base : Nat) (v : Value) (xs : List Ru) (h : Ro w base v xs) (hb : base ≤ w.heap.size) (y : Value) (ys : List Ru) (hy : Rv w y ys) (hm : xs.length + ys.length ≤ 100000000) :
    ∃ ao' cap' w', (Builtin.append_ #[52, 52] ty #[v, y]).run Tryz.prog w = .ok (.slice ao' (xs.length + ys.length) cap') w' ∧ Ro w' base (.slice ao' (xs.length + ys.length) cap') (xs ++ ys) ∧ w.grownBy w' v.ownBlock := by
  obtain ⟨i, hi, hz0, hz1, hz2⟩ := info_parts Tryz.infoRule
  obtain ⟨ao, cap, rfl, _, hn, hc⟩ := hy
  cases ao with
  | none =>
    have hc0 := hn rfl
    have h0 : ys.length = 0 := by
      rcases Nat.eq_zero_or_pos ys.length with h | h
      · exact h
      · obtain ⟨_, _, e, _⟩ := hc h; cases e
    obtain rfl := List.eq_nil_of_length_eq_zero h0
    subst hc0
    have hrun := run_append_owned_none (P := Tryz.prog) (w := w) base 52 ty 90 i 2 Tryz.underlying52 hi v xs.length (rrow xs) h
    obtain ⟨ao', cap', rfl, _⟩ := own_form h
    exact ⟨ao', cap', w, hrun, by simpa using h, ⟨rfl, rfl, rfl, Nat.le_refl _, fun _ _ _ => rfl⟩⟩
  | some ad =>
    have hsrc : ∀ j u, (rrow ys)[j]? = some u → w.cell? (ad.add j) = some u := by
      rcases Nat.eq_zero_or_pos ys.length with h0 | h0
      · obtain rfl := List.eq_nil_of_length_eq_zero h0
        intro j u hu
        simp [rrow] at hu
      · obtain ⟨b, off, e, _, hc'⟩ := hc h0
        cases e
        exact rrow_cell hc'
    obtain ⟨v', w', hr, h2, h3, _, h5⟩ := run_append_own_at (P := Tryz.prog) w base 52 ty 90 i (.agg #[.string .empty, .string .empty]) 2 32 Tryz.underlying52 hi hz0 hz1 hz2 cells_rule (by decide) v xs.length (rrow xs) h ad ys.length cap (rrow ys) (by rw [rrow, flat_length rlay_len]) hsrc (flat_one rlay_one ys) (by unfold maxLen; omega) (by omega) hb
    obtain ⟨ao', cap', rfl, _⟩ := own_form h2
    refine ⟨ao', cap', w', hr, ?_, h3⟩
    unfold Ro
    rw [rrow, List.flatMap_append, List.length_append]
    exact h2
theorem wpList_append_rules {w : World} {ops : Array Oper} {rest : List Oper} {o : Oper} {a : Act} {Q : Exit → Act → World → Prop} (hgd : o.guard = none) (sl y : Operand) (ho : o.op = .call { callee := .builtin .append, args := #[sl, y], argTypes := #[52, 52] })
    (base : Nat) (v : Value) (xs : List Ru) (hs : a.eval sl = v) (h : Ro w base v xs) (hb : base ≤ w.heap.size) (yv : Value) (hy : a.eval y = yv) (ys : List Ru) (hR : Rv w yv ys) (hm : xs.length + ys.length ≤ 100000000)
    (hK : ∀ ao' cap' w', Ro w' base (.slice ao' (xs.length + ys.length) cap') (xs ++ ys) → w.grownBy w' v.ownBlock → wpList Tryz.prog ops Q rest (a.put o.dst (.slice ao' (xs.length + ys.length) cap')) w') : wpList Tryz.prog ops Q (o :: rest) a w := by
  refine wpList_plain hgd fun K hK' => ?_
  obtain ⟨ao', cap', w', hr, h2, h3⟩ := append_rules w o.type base v xs h hb yv ys hR hm
  unfold Oper.wp execOp
  simp only [ho, resolve, invoke, builtin, Sem.run_bind, Sem.run_pure, Result.andThen_ok, List.map_toArray, List.map_cons, List.map_nil, hs, hy, hr]
  exact hK' _ _ (hK ao' cap' w' h2 h3)

set_option maxRecDepth 100000 in
set_option maxHeartbeats 4000000 in
theorem concat_any {w : World} {G : Nat} {v1 v2 : Value} {xs ys : List Ru} (hG : w.heap[G]? = some (.cells #[v1, v2] 52 (0, 0))) (h1 : Rv w v1 xs) (h2 : Rv w v2 ys) (l1 : xs.length ≤ 6) (l2 : ys.length ≤ 6) :
    Calls Tryz.prog 162 #[.slice (some ⟨G, 0, none⟩) 2 2] w fun e w' => ∃ v, e = .returned v ∧ Ro w' w.heap.size v (xs ++ ys) ∧ Kept (fun _ => True) w w' := by
  obtain ⟨o1, c1, rfl, _⟩ := h1.form
  obtain ⟨o2, c2, rfl, _⟩ := h2.form
  have HG : Hid (w.heap[G]? = some (.cells #[.slice o1 xs.length c1, .slice o2 ys.length c2] 52 (0, 0))) := hG
  have H1 : Hid (Rv w (.slice o1 xs.length c1) xs) := h1
  have H2 : Hid (Rv w (.slice o2 ys.length c2) ys) := h2
  obtain ⟨⟨z0, z1⟩, _⟩ := pair_cell hG
  clear h1 h2 hG
  go_enter Tryz.func162, Tryz.ntmps162
  go_wp2_with fail
  go_loop [3, 5, 11] (fun t3 _ t11 => ∃ i : Nat, i ≤ 2 ∧ t11 = .int .i64 i ∧ t3 = .int .i64 ((if i = 0 then 0 else if i = 1 then xs.length else xs.length + ys.length : Nat) : Nat)) (fun _ _ t11 => 2 - (intOf t11).toNat)
  case atStart => exact ⟨0, by omega, rfl, rfl⟩
  case round =>
    obtain ⟨i, hi, rfl, rfl⟩ := hrel
    have hcs : i = 0 ∨ i = 1 ∨ i = 2 := by omega
    rcases hcs with rfl | rfl | rfl
    · simp only [if_true]
      go_wp2_with fail
      go_round
      case rel => exact ⟨1, by omega, by go_num, by simp⟩
      case measure => simp [intOf]
    · simp only [if_true, Nat.one_ne_zero, if_false]
      go_wp2_with fail
      go_round
      case rel => exact ⟨2, by omega, by go_num, by simp⟩
      case measure => simp [intOf]
    · have e2 : (if (2 : Nat) = 0 then 0 else if (2 : Nat) = 1 then xs.length else xs.length + ys.length) = xs.length + ys.length := rfl
      rw [e2]
      have cg := fun W => grow_any (w := W) (xs.length + ys.length) (by omega)
      generalize xs.length + ys.length = n at *
      go_wp2_with fail
      refine Calls.mono (cg _) ?_
      rintro e w1 ⟨v, rfl, hR, k1⟩
      obtain ⟨vo, vc, rfl, _⟩ := own_form hR
      have HK1 : Hid (Kept (fun _ => True) w w1) := k1
      have HR1 : Hid (Ro w1 w.heap.size (.slice vo 0 vc) []) := hR
      clear hR k1 cg e2
      go_wp2_with fail
      go_loopw [6, 8, 27] (fun t6 _ t27 wr => ∃ i : Nat, i ≤ 2 ∧ t27 = .int .i64 i ∧ Ro wr w.heap.size t6 (if i = 0 then [] else if i = 1 then [] ++ xs else [] ++ xs ++ ys) ∧ Kept (fun _ => True) w wr) (fun _ _ t27 _ => 2 - (intOf t27).toNat)
      case atStart => exact ⟨0, by omega, rfl, HR1.out, HK1.out⟩
      case round =>
      obtain ⟨i, hi, rfl, hR, hk⟩ := hrel
      have HKr : Hid (Kept (fun _ => True) w wr) := hk
      obtain ⟨⟨y0, y1⟩, _⟩ := pair_cell ((hk.block G (lt_of_block HG.out) trivial).trans HG.out)
      clear hk
      have hcs : i = 0 ∨ i = 1 ∨ i = 2 := by omega
      rcases hcs with rfl | rfl | rfl
      · obtain ⟨so, sn, sc, rfl⟩ := own_parts hR
        have HR2 : Hid (Ro wr w.heap.size (.slice so sn sc) ([])) := hR
        clear hR
        go_wp2_with (at_builtin; refine wpList_append_rules rfl (.tmp 31) (.tmp 32) rfl w.heap.size (.slice so sn sc) ([]) rfl HR2.out (by have := HKr.out.size; omega) (Value.slice o1 xs.length c1) rfl xs (H1.out.all HKr.out) (by simp; omega) ?_; intro ao' cap' w' hW hGr; have HW : Hid _ := hW; have HGr : Hid _ := hGr; clear hW hGr)
        go_roundw
        case rel => exact ⟨0+1, by omega, by go_num, by simpa [Ro] using HW.out, HKr.out.grown HGr.out (fun i hi e => by have := (World.ownsRow.lt HR2.out i e).1; omega)⟩
        case measure => simp [intOf]
      · obtain ⟨so, sn, sc, rfl⟩ := own_parts hR
        have HR2 : Hid (Ro wr w.heap.size (.slice so sn sc) ([] ++ xs)) := hR
        clear hR
        go_wp2_with (at_builtin; refine wpList_append_rules rfl (.tmp 31) (.tmp 32) rfl w.heap.size (.slice so sn sc) ([] ++ xs) rfl HR2.out (by have := HKr.out.size; omega) (Value.slice o2 ys.length c2) rfl ys (H2.out.all HKr.out) (by simp; omega) ?_; intro ao' cap' w' hW hGr; have HW : Hid _ := hW; have HGr : Hid _ := hGr; clear hW hGr)
        go_roundw
        case rel => exact ⟨1+1, by omega, by go_num, HW.out, HKr.out.grown HGr.out (fun i hi e => by have := (World.ownsRow.lt HR2.out i e).1; omega)⟩
        case measure => simp [intOf]
      · obtain ⟨so, sn, sc, rfl⟩ := own_parts hR
        have HR2 : Hid (Ro wr w.heap.size (.slice so sn sc) (xs ++ ys)) := hR
        clear hR
        go_wp2_with fail
        go_ret
        exact ⟨.slice so sn sc, rfl, HR2.out, HKr.out⟩

theorem size_str (w0 : World) : (sizeOf (Tryz.prog.elem 31)).run Tryz.prog w0 = .ok 1 w0 := by
  have e : Tryz.prog.elem 31 = 9 := by kernel_rfl
  rw [e]
  exact Tryz.sizeOf9 w0
set_option maxRecDepth 100000 in
theorem cut_texts {g n cap : Nat} (m : Nat) (h : m ≤ cap) (w0 : World) : (Instr.slice 31 (.slice (some ⟨g, 0, none⟩) n cap) none (some (.int .i64 (m : Int))) none).run Tryz.prog w0 = .ok (.slice (some ⟨g, 0, none⟩) m cap) w0 := by
  have := run_slice_h (P := Tryz.prog) w0 31 (some ⟨g, 0, none⟩) n cap Tryz.underlying31 .i64 m (by omega) (by omega)
  rw [this, size_str]
  simp [Result.andThen, sliced, Addr.add]
theorem Txs.few {w : World} {base g cap : Nat} {n : Nat} {ns : List (List UInt8)} (h : Txs w base (.slice (some ⟨g, 0, none⟩) n cap) ns) (i : Nat) (hi : i ≤ ns.length) (hl : ns.length ≤ 1000000) : Ns w (.slice (some ⟨g, 0, none⟩) i cap) (ns.take i) := by
  have hlen : (ns.take i).length = i := by rw [List.length_take]; omega
  obtain ⟨ao, cap', e, _, _⟩ := h.shape
  injection e with e1 e2 e3
  subst e2 e3
  have hn := h.ns (by omega)
  obtain ⟨_, _, e, _, hc⟩ := hn
  cases e
  refine ⟨some ⟨g, 0, none⟩, _, by rw [hlen], by omega, fun h0 => ?_⟩
  obtain ⟨b, off, e, hb, hx⟩ := hc (by omega)
  refine ⟨b, off, e, hb, fun j hj => ?_⟩
  rw [List.getElem_take]
  exact hx j (by omega)

/-- The names that still come. -/
theorem rns_step {ats : List At} {ns : List (List UInt8)} {i : Nat} (hi : i < ns.length) :
    rns (ats.drop i) (ns.take i) (ns.drop i) = if isName ns[i] = false then 20 else if ns[i] ∈ ns.take i then 21 else if (∃ h : i < ats.length, ranged ats[i] = false) then 23 else rns (ats.drop (i + 1)) (ns.take (i + 1)) (ns.drop (i + 1)) := by
  rw [List.drop_eq_getElem_cons hi]
  unfold rns
  have e1 : (ats.drop i).tail = ats.drop (i + 1) := by rw [List.tail_drop]
  have e2 : ns.take i ++ [ns[i]] = ns.take (i + 1) := (List.take_succ_eq_append_getElem hi).symm
  rw [e1, e2]
  have e3 : ((ats.drop i).head?.any (fun a => !ranged a) = true) ↔ ∃ h : i < ats.length, ranged ats[i] = false := by
    rw [List.head?_drop]
    by_cases h : i < ats.length
    · simp [h]
    · simp [h]
  simp only [e3]
  cases ns.drop (i + 1) <;> rfl
/-- How long a type's texts may be. -/
structure Tsz (t : Ty) : Prop where
  name : t.name.length ≤ 281474976710656
  attrs : ∀ a ∈ t.attrs, a.name.length ≤ 281474976710656
  stages : ∀ r ∈ t.stages, r.name.length ≤ 281474976710656 ∧ r.guard.length ≤ 281474976710656
  marks : ∀ r ∈ t.marks, r.name.length ≤ 281474976710656 ∧ r.guard.length ≤ 281474976710656
theorem Tsz.names {t : Ty} (h : Tsz t) : ∀ n ∈ nms t, n.length ≤ 281474976710656 := by
  intro n hn
  simp only [nms, List.mem_append, List.mem_map] at hn
  rcases hn with (⟨a, ha, rfl⟩ | ⟨a, ha, rfl⟩) | ⟨a, ha, rfl⟩
  · exact h.attrs a ha
  · exact (h.stages a ha).1
  · exact (h.marks a ha).1
theorem Tsz.guards {t : Ty} (h : Tsz t) : ∀ r ∈ t.stages ++ t.marks, r.guard.length ≤ 281474976710656 := by
  intro r hr
  rcases List.mem_append.1 hr with hr | hr
  · exact (h.stages r hr).2
  · exact (h.marks r hr).2
theorem rgs_step {ns : List (List UInt8)} {rs : List Ru} {i : Nat} (hi : i < rs.length) : rgs ns (rs.drop i) = if (chk ns (rs[i]).guard).1 ≠ 0 then (chk ns (rs[i]).guard).1 else rgs ns (rs.drop (i + 1)) := by
  rw [List.drop_eq_getElem_cons hi]
  rfl

end Go.Proofs.YtenejaghgehnoaaGreatDoor

namespace Go.Proofs.YtenejaghgehnoaaGreatDoor
open Go.RowKit

theorem stringX : Builder.Extra Tryz.prog stringQ_ren := { sizeBuilder := by kernel_rfl, liesBuilder := by kernel_rfl, t5 := Tryz.underlying5, a5 := Tryz.isAgg5, z5 := Tryz.sizeOf5, v5 := Tryz.zeroValue5, infoByte := by kernel_rfl, cellsByte := by kernel_rfl, sizeByte := by kernel_rfl, neB5 := by decide }
theorem Tryz.sizeBuilder : (Tryz.prog.info? 299).map (·.size) = some 2 := by kernel_rfl

set_option maxHeartbeats 1000000 in
set_option maxRecDepth 100000 in
theorem copy_used {w : World} {b : Nat} (h0 : w.cell? ⟨b, 0, none⟩ = some (.pointer (some ⟨b, 0, none⟩))) :
    Calls Tryz.prog 243 #[.pointer (some ⟨b, 0, none⟩)] w fun e w' => e = .returned (.tuple #[]) ∧ w' = w := by
  obtain ⟨j, hj, _⟩ := Option.map_eq_some_iff.1 Tryz.sizeBuilder
  go_enter Tryz.func243, Tryz.ntmps243
  go_wp2
  rw [Lib.run_neq_ptr_same w _ Tryz.underlying297 hj]
  go_wp2
  go_end0
  exact ⟨rfl, rfl⟩
set_option maxHeartbeats 1000000 in
set_option maxRecDepth 100000 in
theorem copy_fresh {w : World} {b : Nat} (h0 : w.cell? ⟨b, 0, none⟩ = some (.pointer none)) (hsh : w.shape? b = some (299, 2)) (hfz : w.frozen? ⟨b, 0, none⟩ = false) :
    Calls Tryz.prog 243 #[.pointer (some ⟨b, 0, none⟩)] w fun e w' => e = .returned (.tuple #[]) ∧ w' = w.setCell ⟨b, 0, none⟩ (.pointer (some ⟨b, 0, none⟩)) := by
  obtain ⟨j, hj, hjs⟩ := Option.map_eq_some_iff.1 Tryz.sizeBuilder
  have t70 := Tryz.underlying297
  have t164 := Tryz.underlying313
  go_enter Tryz.func243, Tryz.ntmps243
  go_wp2
  rw [Lib.run_to_unsafe w ⟨b, 0, none⟩ t70 t164 hj (by rw [hjs]; decide) hsh (Nat.zero_lt_succ 1)]
  simp only [Result.andThen]
  rw [Oper.upon_value]
  go_wp2
  rw [run_callFunc_extern Tryz.func248 (by kernel_rfl) (by kernel_rfl) (by kernel_rfl) (e := Extern.AbiNoEscape.same) (by kernel_rfl)]
  rw [Lib.run_noEscape]
  simp only [Result.andThen]
  rw [Oper.upon_value]
  go_wp2
  rw [Lib.run_from_unsafe w ⟨b, 0, none⟩ t164 t70 hj hsh stringX.liesBuilder]
  simp only [Result.andThen]
  rw [Oper.upon_value]
  go_wp2
  go_end0
  exact ⟨rfl, rfl⟩

/-- A builder in block b, whose rows lie from B on; it holds the bytes l. -/
abbrev Bu (w : World) (B b : Nat) (l : List UInt8) : Prop := Lib.IsBuilderF 299 5 B b (Lib.byteCells l) w
theorem copy_any {w : World} {B b : Nat} {l : List UInt8} (h : Bu w B b l) :
    Calls Tryz.prog 243 #[.pointer (some ⟨b, 0, none⟩)] w fun e w' => e = .returned (.tuple #[]) ∧ (Lib.BuilderAtF 299 5 B b (.pointer (some ⟨b, 0, none⟩)) (Lib.byteCells l) w' ∧ Below B w w' ∧ Lib.OthersKept 5 (some b) w w') := by
  rcases h with h | h
  · refine (copy_fresh h.cell0 h.shape h.frozen0).mono ?_
    rintro e w' ⟨rfl, rfl⟩
    exact ⟨rfl, h.used _, (Below.refl B w).setCell (p := ⟨b, 0, none⟩) h.1 _, (Lib.OthersKept.refl _ _ w).setCell ⟨b, 0, none⟩ rfl _⟩
  · refine (copy_used h.cell0).mono ?_
    rintro e w' ⟨rfl, rfl⟩
    exact ⟨rfl, h, Below.refl B _, Lib.OthersKept.refl _ _ _⟩
theorem Tryz.neBuilder : (299 : Nat) ≠ 5 := by decide
set_option maxHeartbeats 2000000 in
set_option maxRecDepth 100000 in
theorem writeS_any {w : World} {B b : Nat} {l : List UInt8} (h : Bu w B b l) (s : List UInt8) (hlen : l.length + s.length ≤ 140737488355328) (hBw : B ≤ w.heap.size) :
    Calls Tryz.prog 233 #[.pointer (some ⟨b, 0, none⟩), .string ⟨s.toArray⟩] w fun e w' => (∃ r, e = .returned (.tuple #[r, .nilIface])) ∧ Bu w' B b (l ++ s) ∧ Below B w w' ∧ Lib.OthersKept 5 (some b) w w' := by
  obtain ⟨i0, hi, hz0, hz1, hz2⟩ := info_parts Tryz.infoU8
  have cc := copy_any h
  have hll := Lib.byteCells_length l
  have hss : (⟨s.toArray⟩ : ByteArray).size = s.length := by simp [ByteArray.size]
  go_enter Tryz.func233, Tryz.ntmps233
  go_wp2_with fail
  refine Calls.mono cc ?_
  rintro e w1 ⟨rfl, h1, hb1, hk1⟩
  obtain ⟨hB, v, hbk, hown, hne⟩ := h1
  have c0 : w1.cell? ⟨b, 0, none⟩ = some (.pointer (some ⟨b, 0, none⟩)) := by rw [Lib.cell_of_heap hbk]; rfl
  have c1 : w1.cell? ⟨b, 1, none⟩ = some v := by rw [Lib.cell_of_heap hbk]; rfl
  clear cc
  go_wp2_with (at_builtin; refine Lib.wpList_append_own_stringF (P := Tryz.prog) _ rfl (.tmp 12) (.tmp 13) 33 9 rfl B 5 i0 Tryz.underlying33 Tryz.underlying9 hi hz0 hz1 hz2 _ _ _ rfl hown ⟨s.toArray⟩ rfl ?c3 ?c4 ?c5 ?_)
  case c3 => rw [hll, hss]; unfold maxLen; omega
  case c4 => rw [hll, hss]; omega
  case c5 => have := hb1.size; omega
  intro v' w2 hown' hgrow _
  have hlt : b < w1.heap.size := lt_of_block hbk
  have hb2 : w2.heap[b]? = some (.cells #[.pointer (some ⟨b, 0, none⟩), v] 299 (0, 0)) := by
    rw [hgrow.block b hlt (fun e => hne e.symm)]
    exact hbk
  have d0 : w2.cell? ⟨b, 0, none⟩ = some (.pointer (some ⟨b, 0, none⟩)) := by rw [Lib.cell_of_heap hb2]; rfl
  have d1 : w2.cell? ⟨b, 1, none⟩ = some v := by rw [Lib.cell_of_heap hb2]; rfl
  have f1 : w2.frozen? ⟨b, 1, none⟩ = false := Lib.frozen_of_heap hb2 1
  obtain ⟨ao, n', cap, rfl⟩ : ∃ ao n' cap, v' = .slice ao n' cap := by
    rcases hown'.2 with ⟨hv, _⟩ | ⟨g, cap, cur, fz, hv, _⟩
    · exact ⟨_, _, _, hv⟩
    · exact ⟨_, _, _, hv⟩
  go_wp2
  go_ret2
  refine ⟨⟨_, rfl⟩, .inr ?_, ?_, (hk1.grown hgrow (Lib.ownsRowF_kind hown)).setCell ⟨b, 1, none⟩ rfl _⟩
  · refine Lib.BuilderAtF.put (T := 299) (e := 5) hB hb2 (bs' := Lib.byteCells (l ++ s)) ?_ Tryz.neBuilder
    rw [Lib.byteCells_append, List.length_append, Lib.byteCells_length l, Lib.byteCells_length s]
    exact hown'
  · exact (hb1.grown hgrow (by have := hb1.size; omega) (fun k hk => (hown.lt k hk).1)).setCell (p := ⟨b, 1, none⟩) hB _
theorem stringB_any {w : World} {B b : Nat} {l : List UInt8} (h : Bu w B b l) (hBw : B ≤ w.heap.size) :
    Calls Tryz.prog 235 #[.pointer (some ⟨b, 0, none⟩)] w fun e w' => e = .returned (.string ⟨l.toArray⟩) ∧ Below B w w' :=
  (Any.Builder_String_any_k stringQ stringX B b l w h hBw).mono fun _ _ h => ⟨h.1, h.2.2.1⟩
/-- The table that Itoa reads. -/
abbrev Tab (w : World) : Prop := Lib.TabIs Tryz.prog w "internal/strconv.uint64pow10" .u64 Lib.pow10Tab
theorem Tab.all {w w' : World} (h : Tab w) (k : Kept (fun _ => True) w w') : Tab w' := by
  unfold Tab Lib.TabIs World.var? at h ⊢
  cases hg : Tryz.prog.globalNamed "internal/strconv.uint64pow10" with
  | none => simp [hg] at h
  | some g =>
    simp only [hg] at h
    simp only [Option.bind_some] at h ⊢
    cases hx : w.heap[g]? with
    | none => rw [hx] at h; cases h
    | some o => rw [k.block g (lt_of_block hx) trivial]; exact h
theorem kept_grow (p : Nat → Prop) (w : World) (os : Array Obj) : Kept p w (Sort.grow w os) :=
  ⟨rfl, rfl, rfl, by simp [Sort.grow], fun k hk _ => by simp [Sort.grow, Array.getElem?_append_left hk]⟩
theorem itoa_any {w : World} (n : Int) (h0 : -9223372036854775808 ≤ n) (h1 : n ≤ 9223372036854775807) (ht : Tab w) :
    Calls Tryz.prog 234 #[.int .i64 n] w fun e w' => e = .returned (.string ⟨(Lib.itoa n).toArray⟩) ∧ Kept (fun _ => True) w w' :=
  (Any.strconv_Itoa itoaQ n h0 h1 w ht).mono fun e w' h => by
    obtain ⟨h1, k, os, rfl⟩ := h
    exact ⟨h1, ((Kept.refl _ w).drewN k).trans (kept_grow _ _ os)⟩
theorem Bu.all {w w' : World} {B b : Nat} {l : List UInt8} (h : Bu w B b l) (k : Kept (fun _ => True) w w') : Bu w' B b l := by
  have key : ∀ p, Lib.BuilderAtF 299 5 B b p (Lib.byteCells l) w → Lib.BuilderAtF 299 5 B b p (Lib.byteCells l) w' := by
    rintro p ⟨h1, v, h2, ⟨h3, h4⟩, h5⟩
    refine ⟨h1, v, (k.block b (lt_of_block h2) trivial).trans h2, ⟨h3, ?_⟩, h5⟩
    rcases h4 with h4 | ⟨g, cap, cur, fz, e, hb, hh, rest⟩
    · exact .inl h4
    · exact .inr ⟨g, cap, cur, fz, e, hb, (k.block g (lt_of_block hh) trivial).trans hh, rest⟩
  rcases h with h | h
  · exact .inl (key _ h)
  · exact .inr (key _ h)

end Go.Proofs.YtenejaghgehnoaaGreatDoor

namespace Go.Proofs.YtenejaghgehnoaaGreatDoor
open Go.RowKit

theorem text_plus (a b : List UInt8) (h : a.length + b.length ≤ 140737488355328) (W : World) : (Op.stringOp .add ⟨a.toArray⟩ ⟨b.toArray⟩).run Tryz.prog W = .ok (.string ⟨(a ++ b).toArray⟩) W := by
  rw [run_string_add_sum (P := Tryz.prog) W _ _ (by simp only [ByteArray.size, List.size_toArray]; omega), ByteArray.mk_append_mk]
theorem text_joins (a b : List UInt8) (h : a.length + b.length ≤ 140737488355328) : ∃ y : List UInt8, Hid (y = a ++ b) ∧ ∀ W, (Op.stringOp .add ⟨a.toArray⟩ ⟨b.toArray⟩).run Tryz.prog W = .ok (.string ⟨y.toArray⟩) W := ⟨_, rfl, text_plus a b h⟩

/-- While a text is written: what was there, the box, the builder. -/
structure Wt (w wr : World) (o : Obj) (l : List UInt8) : Prop where
  kept : Kept (fun _ => True) w wr
  box : wr.heap[w.heap.size]? = some o
  bu : Bu wr (w.heap.size + 1) (w.heap.size + 1) l
theorem Bu.lt {w : World} {B b : Nat} {l : List UInt8} (h : Bu w B b l) : b < w.heap.size := by
  rcases h with h | h
  · exact h.lt
  · exact h.lt
theorem Wt.all {w wr w' : World} {o : Obj} {l : List UInt8} (h : Wt w wr o l) (k : Kept (fun _ => True) wr w') : Wt w w' o l :=
  ⟨h.kept.trans k, (k.block _ (lt_of_block h.box) trivial).trans h.box, h.bu.all k⟩
theorem Wt.write {w wr w' : World} {o : Obj} {l l' : List UInt8} (h : Wt w wr o l) (k : Below (w.heap.size + 1) wr w') (hb : Bu w' (w.heap.size + 1) (w.heap.size + 1) l') : Wt w w' o l' :=
  ⟨h.kept.then ⟨k.os, k.tape, k.output, k.size, fun i _ hp => k.block i hp⟩ (fun i hi _ => by show i < _; omega), (k.block _ (by omega)).trans h.box, hb⟩
theorem other_attr {w w' : World} {b G : Nat} {cs : Array Value} (k : Lib.OthersKept 5 (some b) w w') (hG : w.heap[G]? = some (.cells cs 88 (0, 0))) (hb : G ≠ b) : w'.heap[G]? = some (.cells cs 88 (0, 0)) :=
  k G _ hG (fun e => hb (Option.some.inj e)) (fun c fz e => by simp at e)
theorem flat_take_succ {α β : Type} (f : α → List β) (l : List α) (i : Nat) (h : i < l.length) : (l.take (i + 1)).flatMap f = (l.take i).flatMap f ++ f l[i] := by
  rw [List.take_succ_eq_append_getElem h, List.flatMap_append]
  simp
end Go.Proofs.YtenejaghgehnoaaGreatDoor

namespace Go.Proofs.YtenejaghgehnoaaGreatDoor
open Go.RowKit

theorem own_shape_row {w : World} {b e sz n : Nat} {v : Value} {xs : List Value} (h : w.ownsRow b e sz v n xs) : ∃ ao cap, v = .slice ao n cap := by
  rcases h.2 with ⟨e, h0⟩ | ⟨g, cap, _, e, _⟩
  · exact ⟨_, _, h0 ▸ e⟩
  · exact ⟨_, _, e⟩

/-- Numbers as cells. -/
def irow (ns : List Nat) : List Value := ns.map fun n => .int .i64 (n : Nat)
theorem irow_append (a b : List Nat) : irow (a ++ b) = irow a ++ irow b := by simp [irow]
theorem irow_get (ns : List Nat) (k : Nat) (h : k < ns.length) : (irow ns)[k]? = some (.int .i64 (ns[k] : Nat)) := by simp [irow, h]
theorem irow_one (ns : List Nat) : ∀ u ∈ irow ns, u.oneCell' = true := by
  intro u hu
  obtain ⟨_, _, rfl⟩ := List.mem_map.1 hu
  rfl
theorem Tryz.infoInt : (Tryz.prog.info? 3).map (fun i => (i.zero, i.size, i.bytes)) = some (some (.int .i64 0), 1, 8) := by kernel_rfl

/-- A slice of the numbers ns, in a row of its own behind 'base'. -/
def Its (w : World) (base : Nat) (v : Value) (ns : List Nat) : Prop := w.ownsRow base 3 1 v ns.length (irow ns)
theorem Its.nil (w : World) (base : Nat) : Its w base (.slice none 0 0) [] := World.ownsRow_nil _ _ _ _
theorem Its.kept {p : Nat → Prop} {w w' : World} {base : Nat} {v : Value} {ns : List Nat} (h : Its w base v ns) (hk : Kept p w w') (hp : ∀ k, v.ownBlock = some k → p k) : Its w' base v ns := by
  refine ⟨h.1, ?_⟩
  rcases h.2 with h0 | ⟨g, cap, cur, rfl, hb, hh, rest⟩
  · exact .inl h0
  · exact .inr ⟨g, cap, cur, rfl, hb, (hk.block g (lt_of_block hh) (hp g rfl)).trans hh, rest⟩
theorem Its.fresh {w : World} {base : Nat} {v : Value} {ns : List Nat} (h : Its w base v ns) (o : Obj) : Its (w.alloc o) base v ns := h.kept (p := fun _ => True) ((Kept.refl _ _).alloc o) (fun _ _ => trivial)
theorem Its.grown {w0 w w' : World} {o : Obj} {v : Value} {ns : List Nat} (h : Its w w0.heap.size v ns) (k : Kept (fun _ => True) w0 w) (g : (w.alloc o).grownBy w' v.ownBlock) : Kept (fun _ => True) w0 w' :=
  (k.alloc o).grown g (fun i hi e => by have := (World.ownsRow.lt h i e).1; omega)
theorem Its.at {w : World} {base n cap : Nat} {ao : Option Addr} {ns : List Nat} (h : Its w base (.slice ao n cap) ns) (k : Nat) (hk : k < ns.length) : ∃ g, ao = some ⟨g, 0, none⟩ ∧ w.cell? ⟨g, k, none⟩ = some (.int .i64 (ns[k] : Nat)) := by
  rcases h.2 with ⟨hv, h0⟩ | ⟨g, cap', cur, hv, _⟩
  · omega
  · injection hv with e1 e2 e3
    subst e1 e2 e3
    have h' : w.ownsRow base 3 1 (.slice (some ⟨g, 0, none⟩) ns.length cap) ns.length (irow ns) := h
    exact ⟨g, rfl, (h'.cellAt k (by omega)).trans (irow_get ns k hk)⟩
/-- A row of bytes and a row of numbers are two. -/
theorem append_int (w : World) (ty : TypeId) (base : Nat) (v : Value) (ns : List Nat) (h : Its w base v ns) (hb : base ≤ w.heap.size) (G : Nat) (n : Nat) (fr : Nat × Nat) (hG : w.heap[G]? = some (.cells #[.int .i64 (n : Nat)] 3 fr)) (hm : ns.length ≤ 1099511627776) :
    ∃ ao' cap' w', (Builtin.append_ #[38, 38] ty #[v, .slice (some ⟨G, 0, none⟩) 1 1]).run Tryz.prog w = .ok (.slice ao' (ns.length + 1) cap') w' ∧ Its w' base (.slice ao' (ns.length + 1) cap') (ns ++ [n]) ∧ w.grownBy w' v.ownBlock := by
  obtain ⟨i, hi, hz0, hz1, hz2⟩ := info_parts Tryz.infoInt
  obtain ⟨v', w', hr, h2, h3, _, h5⟩ := run_append_own_at (P := Tryz.prog) w base 38 ty 3 i (.int .i64 0) 1 8 Tryz.underlying38 hi hz0 hz1 hz2 rfl (by decide) v ns.length (irow ns) h ⟨G, 0, none⟩ 1 1 (irow [n]) (by simp [irow]) (World.news_of_block (w := w) hG) (irow_one [n]) (by unfold maxLen; omega) (by omega) hb
  obtain ⟨ao', cap', rfl⟩ := own_shape_row h2
  refine ⟨ao', cap', w', hr, ?_, h3⟩
  unfold Its
  rw [irow_append, List.length_append]
  exact h2
theorem wpList_append_int {w : World} {ops : Array Oper} {rest : List Oper} {o : Oper} {a : Act} {Q : Exit → Act → World → Prop} (hgd : o.guard = none) (sl y : Operand) (ho : o.op = .call { callee := .builtin .append, args := #[sl, y], argTypes := #[38, 38] })
    (base : Nat) (v : Value) (ns : List Nat) (hs : a.eval sl = v) (h : Its w base v ns) (hb : base ≤ w.heap.size) (G : Nat) (hy : a.eval y = .slice (some ⟨G, 0, none⟩) 1 1) (n : Nat) (fr : Nat × Nat) (hG : w.heap[G]? = some (.cells #[.int .i64 (n : Nat)] 3 fr)) (hm : ns.length ≤ 1099511627776)
    (hK : ∀ ao' cap' w', Its w' base (.slice ao' (ns.length + 1) cap') (ns ++ [n]) → w.grownBy w' v.ownBlock → wpList Tryz.prog ops Q rest (a.put o.dst (.slice ao' (ns.length + 1) cap')) w') : wpList Tryz.prog ops Q (o :: rest) a w := by
  refine wpList_plain hgd fun K hK' => ?_
  obtain ⟨ao', cap', w', hr, h2, h3⟩ := append_int w o.type base v ns h hb G n fr hG hm
  unfold Oper.wp execOp
  simp only [ho, resolve, invoke, builtin, Sem.run_bind, Sem.run_pure, Result.andThen_ok, List.map_toArray, List.map_cons, List.map_nil, hs, hy, hr]
  exact hK' _ _ (hK ao' cap' w' h2 h3)

theorem Its.shape {w : World} {base : Nat} {v : Value} {ns : List Nat} (h : Its w base v ns) : ∃ ao cap, v = .slice ao ns.length cap := own_shape_row h
theorem Its.one {w : World} {G k : Nat} (h : w.heap[G]? = some (.cells #[.int .i64 (k : Nat)] 3 (0, 0))) : Its w 0 (.slice (some ⟨G, 0, none⟩) 1 1) [k] :=
  ⟨rfl, .inr ⟨G, 1, _, rfl, Nat.zero_le _, h, Nat.le_refl _, by decide, rfl, rfl⟩⟩

end Go.Proofs.YtenejaghgehnoaaGreatDoor

namespace Go.Proofs.YtenejaghgehnoaaGreatDoor
open Go.RowKit

def iv (xs : List Int) : List Value := xs.map (Value.int .i64)
def bv (xs : List Bool) : List Value := xs.map Value.bool
theorem iv_len (xs : List Int) : (iv xs).length = xs.length := by simp [iv]
theorem bv_len (xs : List Bool) : (bv xs).length = xs.length := by simp [bv]
theorem iv_one (xs : List Int) : ∀ u ∈ iv xs, u.oneCell' = true := by
  intro u hu
  obtain ⟨n, _, rfl⟩ := List.mem_map.1 hu
  rfl
theorem bv_one (xs : List Bool) : ∀ u ∈ bv xs, u.oneCell' = true := by
  intro u hu
  obtain ⟨n, _, rfl⟩ := List.mem_map.1 hu
  rfl
theorem iv_append (a b : List Int) : iv (a ++ b) = iv a ++ iv b := by simp [iv]
theorem iv_set (a : List Int) (i : Nat) (n : Int) : (iv a).set i (.int .i64 n) = iv (a.set i n) := by simp [iv, List.map_set]
theorem bv_set (a : List Bool) (i : Nat) (n : Bool) : (bv a).set i (.bool n) = bv (a.set i n) := by simp [bv, List.map_set]

/-- A row of cells that is looked at. -/
def Cv (w : World) (v : Value) (xs : List Value) : Prop :=
  ∃ ao cap, v = .slice ao xs.length cap ∧ xs.length ≤ 281474976710656 ∧ (ao = none → cap = 0) ∧ (0 < xs.length → ∃ b off, ao = some ⟨b, off, none⟩ ∧ b < w.heap.size ∧ ∀ i (h : i < xs.length), w.cell? ⟨b, off + i, none⟩ = some xs[i])
theorem Cv.kept {p : Nat → Prop} {w w' : World} {v : Value} {xs : List Value} (h : Cv w v xs) (k : Kept p w w') (hp : ∀ b, b < w.heap.size → p b) : Cv w' v xs := by
  obtain ⟨ao, cap, e, hl, hn, h⟩ := h
  refine ⟨ao, cap, e, hl, hn, fun h0 => ?_⟩
  obtain ⟨b, off, e, hb, hc⟩ := h h0
  exact ⟨b, off, e, Nat.lt_of_lt_of_le hb k.size, fun i hi => (kept_cell k hb (hp b hb)).trans (hc i hi)⟩
theorem Cv.all {w w' : World} {v : Value} {xs : List Value} (h : Cv w v xs) (k : Kept (fun _ => True) w w') : Cv w' v xs := h.kept k (fun _ _ => trivial)
theorem Cv.nil (w : World) : Cv w (.slice none 0 0) [] := ⟨none, 0, rfl, by simp, fun _ => rfl, fun h => by simp at h⟩
theorem Cv.vi {w : World} {v : Value} {xs : List Int} (h : Cv w v (iv xs)) : Vi w v xs := by
  obtain ⟨ao, cap, e, hl, hn, h⟩ := h
  rw [iv_len] at e hl
  refine ⟨ao, cap, e, fun h0 => ?_⟩
  obtain ⟨b, off, e, hb, hc⟩ := h (by rw [iv_len]; exact h0)
  exact ⟨b, off, e, hb, fun i hi => by rw [hc i (by rw [iv_len]; exact hi)]; simp [iv]⟩
theorem Cv.ints {w : World} {v : Value} {xs : List Int} (h : Cv w v (iv xs)) : ∃ ao cap, v = .slice ao xs.length cap ∧ xs.length ≤ 281474976710656 ∧ ∀ i (hi : i < xs.length), ∃ b off, ao = some ⟨b, off, none⟩ ∧ b < w.heap.size ∧ w.cell? ⟨b, off + i, none⟩ = some (.int .i64 xs[i]) := by
  obtain ⟨ao, cap, e, hl, hn, h⟩ := h
  rw [iv_len] at e hl
  refine ⟨ao, cap, e, hl, fun i hi => ?_⟩
  obtain ⟨b, off, e, hb, hc⟩ := h (by rw [iv_len]; omega)
  exact ⟨b, off, e, hb, by rw [hc i (by rw [iv_len]; exact hi)]; simp [iv]⟩
theorem Cv.bools {w : World} {v : Value} {xs : List Bool} (h : Cv w v (bv xs)) : ∃ ao cap, v = .slice ao xs.length cap ∧ xs.length ≤ 281474976710656 ∧ ∀ i (hi : i < xs.length), ∃ b off, ao = some ⟨b, off, none⟩ ∧ b < w.heap.size ∧ w.cell? ⟨b, off + i, none⟩ = some (.bool xs[i]) := by
  obtain ⟨ao, cap, e, hl, hn, h⟩ := h
  rw [bv_len] at e hl
  refine ⟨ao, cap, e, hl, fun i hi => ?_⟩
  obtain ⟨b, off, e, hb, hc⟩ := h (by rw [bv_len]; omega)
  exact ⟨b, off, e, hb, by rw [hc i (by rw [bv_len]; exact hi)]; simp [bv]⟩
/-- The same at a place, the slice's parts known. -/
theorem Cv.intAt {w : World} {ao : Option Addr} {n cap : Nat} {xs : List Int} (h : Cv w (.slice ao n cap) (iv xs)) (i : Nat) (hi : i < xs.length) : ∃ b off, ao = some ⟨b, off, none⟩ ∧ b < w.heap.size ∧ w.cell? ⟨b, off + i, none⟩ = some (.int .i64 xs[i]) := by
  obtain ⟨ao', cap', e, _, h2⟩ := h.ints
  cases e
  exact h2 i hi
theorem Cv.boolAt {w : World} {ao : Option Addr} {n cap : Nat} {xs : List Bool} (h : Cv w (.slice ao n cap) (bv xs)) (i : Nat) (hi : i < xs.length) : ∃ b off, ao = some ⟨b, off, none⟩ ∧ b < w.heap.size ∧ w.cell? ⟨b, off + i, none⟩ = some (.bool xs[i]) := by
  obtain ⟨ao', cap', e, _, h2⟩ := h.bools
  cases e
  exact h2 i hi
theorem own_cv {w : World} {b e n : Nat} {v : Value} {xs : List Value} (h : w.ownsRow b e 1 v n xs) (hl : n ≤ 281474976710656) : Cv w v xs := by
  have hx := h.1
  rw [Nat.mul_one] at hx
  rcases h.2 with ⟨rfl, rfl⟩ | ⟨g, cap, cur, rfl, hb, hg, h1, h2, h3, h4⟩
  · obtain rfl := List.eq_nil_of_length_eq_zero hx
    exact Cv.nil w
  · refine ⟨some ⟨g, 0, none⟩, cap, by rw [hx], by rw [hx]; exact hl, fun h => (by cases h), fun _ => ⟨g, 0, rfl, lt_of_block hg, fun i hi => ?_⟩⟩
    rw [Nat.zero_add, h.cellAt i (by omega)]
    simp [hi]
theorem Tryz.infoNum : (Tryz.prog.info? 3).map (fun i => (i.zero, i.size, i.bytes)) = some (some (.int .i64 0), 1, 8) := by kernel_rfl
theorem Tryz.infoTruth : (Tryz.prog.info? 4).map (fun i => (i.zero, i.size, i.bytes)) = some (some (.bool false), 1, 1) := by kernel_rfl

theorem append_nums (w : World) (ty : TypeId) (base : Nat) (v : Value) (n : Nat) (xs : List Value) (h : w.ownsRow base 3 1 v n xs) (hb : base ≤ w.heap.size) (y : Value) (ys : List Value) (hy : Cv w y ys) (h1 : ∀ u ∈ ys, u.oneCell' = true) (hm : n + ys.length ≤ 100000000) :
    ∃ ao' cap' w', (Builtin.append_ #[38, 38] ty #[v, y]).run Tryz.prog w = .ok (.slice ao' (n + ys.length) cap') w' ∧ w'.ownsRow base 3 1 (.slice ao' (n + ys.length) cap') (n + ys.length) (xs ++ ys) ∧ w.grownBy w' v.ownBlock ∧ ((Value.slice ao' (n + ys.length) cap').ownBlock = v.ownBlock ∨ (Value.slice ao' (n + ys.length) cap').ownBlock = some w.heap.size) := by
  obtain ⟨i, hi, hz0, hz1, hz2⟩ := info_parts Tryz.infoNum
  obtain ⟨ao, cap, rfl, _, hn, hc⟩ := hy
  cases ao with
  | none =>
    have hc0 := hn rfl
    have h0 : ys.length = 0 := by
      rcases Nat.eq_zero_or_pos ys.length with h | h
      · exact h
      · obtain ⟨_, _, e, _⟩ := hc h; cases e
    obtain rfl := List.eq_nil_of_length_eq_zero h0
    subst hc0
    have hrun := run_append_owned_none (P := Tryz.prog) (w := w) base 38 ty 3 i 1 Tryz.underlying38 hi v n xs h
    obtain ⟨ao', cap', rfl, _⟩ := own_form h
    exact ⟨ao', cap', w, hrun, by simpa using h, ⟨rfl, rfl, rfl, Nat.le_refl _, fun _ _ _ => rfl⟩, .inl rfl⟩
  | some ad =>
    have hsrc : ∀ j u, ys[j]? = some u → w.cell? (ad.add j) = some u := by
      intro j u hu
      obtain ⟨hj, e⟩ := List.getElem?_eq_some_iff.1 hu
      obtain ⟨b, off, e2, _, hc'⟩ := hc (by omega)
      cases e2
      rw [WideShapes.add_plain, hc' j hj, e]
    obtain ⟨v', w', hr, h2, h3, _, h5⟩ := run_append_own_at (P := Tryz.prog) w base 38 ty 3 i (.int .i64 0) 1 8 Tryz.underlying38 hi hz0 hz1 hz2 (by simp [Value.cells]) (by decide) v n xs h ad ys.length cap ys (by omega) hsrc h1 (by unfold maxLen; omega) (by omega) hb
    obtain ⟨ao', cap', rfl, _⟩ := own_form h2
    exact ⟨ao', cap', w', hr, h2, h3, h5⟩
theorem wpList_append_nums {w : World} {ops : Array Oper} {rest : List Oper} {o : Oper} {a : Act} {Q : Exit → Act → World → Prop} (hgd : o.guard = none) (sl y : Operand) (ho : o.op = .call { callee := .builtin .append, args := #[sl, y], argTypes := #[38, 38] })
    (base : Nat) (v : Value) (n : Nat) (xs : List Value) (hs : a.eval sl = v) (h : w.ownsRow base 3 1 v n xs) (hb : base ≤ w.heap.size) (yv : Value) (hy : a.eval y = yv) (ys : List Value) (hR : Cv w yv ys) (h1 : ∀ u ∈ ys, u.oneCell' = true) (hm : n + ys.length ≤ 100000000) (N : Nat) (hN : n + ys.length = N)
    (hK : ∀ ao' cap' w', w'.ownsRow base 3 1 (.slice ao' N cap') N (xs ++ ys) → w.grownBy w' v.ownBlock → ((Value.slice ao' N cap').ownBlock = v.ownBlock ∨ (Value.slice ao' N cap').ownBlock = some w.heap.size) → wpList Tryz.prog ops Q rest (a.put o.dst (.slice ao' N cap')) w') : wpList Tryz.prog ops Q (o :: rest) a w := by
  subst hN
  refine wpList_plain hgd fun K hK' => ?_
  obtain ⟨ao', cap', w', hr, h2, h3, h4⟩ := append_nums w o.type base v n xs h hb yv ys hR h1 hm
  unfold Oper.wp execOp
  simp only [ho, resolve, invoke, builtin, Sem.run_bind, Sem.run_pure, Result.andThen_ok, List.map_toArray, List.map_cons, List.map_nil, hs, hy, hr]
  exact hK' _ _ (hK ao' cap' w' h2 h3 h4)
theorem make_nums (n : Nat) (hn : n ≤ 1000000) (W : World) : (Instr.makeSlice 38 (.int .i64 (n : Int)) (.int .i64 (n : Int))).run Tryz.prog W = .ok (.slice (some ⟨W.heap.size, 0, none⟩) n n) (W.alloc (.cells (madeCells #[.int .i64 0] n) 3)) :=
  run_make_row' (P := Tryz.prog) 38 3 (.int .i64 0) 8 Tryz.underlying38 Tryz.infoNum (by simp [Value.cells]) .i64 .i64 n (by omega) (by omega) W
theorem empty_nums (w : World) (base : Nat) (hb : base ≤ w.heap.size) : (w.alloc (.cells #[] 3)).ownsRow base 3 1 (.slice (some ⟨w.heap.size, 0, none⟩) 0 0) 0 [] :=
  World.ownsRow_lit (base := base) (e := 3) (size := 1) w #[] 0 hb (by unfold maxLen; omega) (by simp)
/-- One that lies in a block of its own. -/
theorem Cv.one_nums {w : World} {G : Nat} {u : Value} {fr : Nat × Nat} (h : w.heap[G]? = some (.cells #[u] 3 fr)) : Cv w (.slice (some ⟨G, 0, none⟩) 1 1) [u] :=
  ⟨_, _, rfl, by simp, fun h => (by cases h), fun _ => ⟨G, 0, rfl, lt_of_block h, fun i hi => by
    have : i = 0 := by simpa using hi
    subst this
    rw [cell_of_row w G _ _ _ _ h]; rfl⟩⟩

theorem append_truths (w : World) (ty : TypeId) (base : Nat) (v : Value) (n : Nat) (xs : List Value) (h : w.ownsRow base 4 1 v n xs) (hb : base ≤ w.heap.size) (y : Value) (ys : List Value) (hy : Cv w y ys) (h1 : ∀ u ∈ ys, u.oneCell' = true) (hm : n + ys.length ≤ 100000000) :
    ∃ ao' cap' w', (Builtin.append_ #[56, 56] ty #[v, y]).run Tryz.prog w = .ok (.slice ao' (n + ys.length) cap') w' ∧ w'.ownsRow base 4 1 (.slice ao' (n + ys.length) cap') (n + ys.length) (xs ++ ys) ∧ w.grownBy w' v.ownBlock ∧ ((Value.slice ao' (n + ys.length) cap').ownBlock = v.ownBlock ∨ (Value.slice ao' (n + ys.length) cap').ownBlock = some w.heap.size) := by
  obtain ⟨i, hi, hz0, hz1, hz2⟩ := info_parts Tryz.infoTruth
  obtain ⟨ao, cap, rfl, _, hn, hc⟩ := hy
  cases ao with
  | none =>
    have hc0 := hn rfl
    have h0 : ys.length = 0 := by
      rcases Nat.eq_zero_or_pos ys.length with h | h
      · exact h
      · obtain ⟨_, _, e, _⟩ := hc h; cases e
    obtain rfl := List.eq_nil_of_length_eq_zero h0
    subst hc0
    have hrun := run_append_owned_none (P := Tryz.prog) (w := w) base 56 ty 4 i 1 Tryz.underlying56 hi v n xs h
    obtain ⟨ao', cap', rfl, _⟩ := own_form h
    exact ⟨ao', cap', w, hrun, by simpa using h, ⟨rfl, rfl, rfl, Nat.le_refl _, fun _ _ _ => rfl⟩, .inl rfl⟩
  | some ad =>
    have hsrc : ∀ j u, ys[j]? = some u → w.cell? (ad.add j) = some u := by
      intro j u hu
      obtain ⟨hj, e⟩ := List.getElem?_eq_some_iff.1 hu
      obtain ⟨b, off, e2, _, hc'⟩ := hc (by omega)
      cases e2
      rw [WideShapes.add_plain, hc' j hj, e]
    obtain ⟨v', w', hr, h2, h3, _, h5⟩ := run_append_own_at (P := Tryz.prog) w base 56 ty 4 i (.bool false) 1 1 Tryz.underlying56 hi hz0 hz1 hz2 (by simp [Value.cells]) (by decide) v n xs h ad ys.length cap ys (by omega) hsrc h1 (by unfold maxLen; omega) (by omega) hb
    obtain ⟨ao', cap', rfl, _⟩ := own_form h2
    exact ⟨ao', cap', w', hr, h2, h3, h5⟩
theorem wpList_append_truths {w : World} {ops : Array Oper} {rest : List Oper} {o : Oper} {a : Act} {Q : Exit → Act → World → Prop} (hgd : o.guard = none) (sl y : Operand) (ho : o.op = .call { callee := .builtin .append, args := #[sl, y], argTypes := #[56, 56] })
    (base : Nat) (v : Value) (n : Nat) (xs : List Value) (hs : a.eval sl = v) (h : w.ownsRow base 4 1 v n xs) (hb : base ≤ w.heap.size) (yv : Value) (hy : a.eval y = yv) (ys : List Value) (hR : Cv w yv ys) (h1 : ∀ u ∈ ys, u.oneCell' = true) (hm : n + ys.length ≤ 100000000) (N : Nat) (hN : n + ys.length = N)
    (hK : ∀ ao' cap' w', w'.ownsRow base 4 1 (.slice ao' N cap') N (xs ++ ys) → w.grownBy w' v.ownBlock → ((Value.slice ao' N cap').ownBlock = v.ownBlock ∨ (Value.slice ao' N cap').ownBlock = some w.heap.size) → wpList Tryz.prog ops Q rest (a.put o.dst (.slice ao' N cap')) w') : wpList Tryz.prog ops Q (o :: rest) a w := by
  subst hN
  refine wpList_plain hgd fun K hK' => ?_
  obtain ⟨ao', cap', w', hr, h2, h3, h4⟩ := append_truths w o.type base v n xs h hb yv ys hR h1 hm
  unfold Oper.wp execOp
  simp only [ho, resolve, invoke, builtin, Sem.run_bind, Sem.run_pure, Result.andThen_ok, List.map_toArray, List.map_cons, List.map_nil, hs, hy, hr]
  exact hK' _ _ (hK ao' cap' w' h2 h3 h4)
theorem make_truths (n : Nat) (hn : n ≤ 1000000) (W : World) : (Instr.makeSlice 56 (.int .i64 (n : Int)) (.int .i64 (n : Int))).run Tryz.prog W = .ok (.slice (some ⟨W.heap.size, 0, none⟩) n n) (W.alloc (.cells (madeCells #[.bool false] n) 4)) :=
  run_make_row' (P := Tryz.prog) 56 4 (.bool false) 1 Tryz.underlying56 Tryz.infoTruth (by simp [Value.cells]) .i64 .i64 n (by omega) (by omega) W
theorem empty_truths (w : World) (base : Nat) (hb : base ≤ w.heap.size) : (w.alloc (.cells #[] 4)).ownsRow base 4 1 (.slice (some ⟨w.heap.size, 0, none⟩) 0 0) 0 [] :=
  World.ownsRow_lit (base := base) (e := 4) (size := 1) w #[] 0 hb (by unfold maxLen; omega) (by simp)
/-- A state that is looked at; one of one's own, from base on. -/
def StV (w : World) (v : Value) (s : Sa) : Prop := ∃ va vd vg, v = .agg #[.string ⟨s.type.toArray⟩, va, vd, vg] ∧ Cv w va (iv s.vals) ∧ Cv w vd (bv s.done) ∧ Cv w vg (bv s.got)
structure So (w : World) (base : Nat) (va vd vg : Value) (s : Sa) : Prop where
  vals : w.ownsRow base 3 1 va s.vals.length (iv s.vals)
  done : w.ownsRow base 4 1 vd s.done.length (bv s.done)
  got : w.ownsRow base 4 1 vg s.got.length (bv s.got)
  apart : ∀ k, vd.ownBlock = some k → vg.ownBlock ≠ some k
def StO (w : World) (base : Nat) (v : Value) (s : Sa) : Prop := ∃ va vd vg, v = .agg #[.string ⟨s.type.toArray⟩, va, vd, vg] ∧ So w base va vd vg s
/-- Few of each. -/
structure Few (s : Sa) : Prop where
  vals : s.vals.length ≤ 1000000
  done : s.done.length ≤ 1000000
  got : s.got.length ≤ 1000000
theorem Fit.few {t : Ty} {s : Sa} (h : Fit t s) (g : Good t) : Few s := by
  have := g.na; have := g.ns; have := g.nm; have := h.sz.vals; have := h.sz.done; have := h.sz.got
  exact ⟨by omega, by omega, by omega⟩
theorem StV.all {w w' : World} {v : Value} {s : Sa} (h : StV w v s) (k : Kept (fun _ => True) w w') : StV w' v s := by
  obtain ⟨va, vd, vg, e, h1, h2, h3⟩ := h
  exact ⟨va, vd, vg, e, h1.all k, h2.all k, h3.all k⟩
theorem StV.low {w w' : World} {v : Value} {s : Sa} (h : StV w v s) (k : Kept (· < w.heap.size) w w') : StV w' v s := by
  obtain ⟨va, vd, vg, e, h1, h2, h3⟩ := h
  exact ⟨va, vd, vg, e, h1.kept k (fun _ h => h), h2.kept k (fun _ h => h), h3.kept k (fun _ h => h)⟩
theorem StV.none (w : World) : StV w (.agg #[.string ⟨#[]⟩, .slice none 0 0, .slice none 0 0, .slice none 0 0]) Sa.none := ⟨_, _, _, rfl, Cv.nil w, Cv.nil w, Cv.nil w⟩
theorem So.all {w w' : World} {base : Nat} {va vd vg : Value} {s : Sa} (h : So w base va vd vg s) (k : Kept (fun _ => True) w w') : So w' base va vd vg s :=
  ⟨own_keep h.vals k (fun _ _ => trivial), own_keep h.done k (fun _ _ => trivial), own_keep h.got k (fun _ _ => trivial), h.apart⟩
theorem StO.all {w w' : World} {base : Nat} {v : Value} {s : Sa} (h : StO w base v s) (k : Kept (fun _ => True) w w') : StO w' base v s := by
  obtain ⟨va, vd, vg, e, h⟩ := h
  exact ⟨va, vd, vg, e, h.all k⟩
theorem StO.none (w : World) (base : Nat) : StO w base (.agg #[.string ⟨#[]⟩, .slice none 0 0, .slice none 0 0, .slice none 0 0]) Sa.none :=
  ⟨_, _, _, rfl, World.ownsRow_nil _ _ _ _, World.ownsRow_nil _ _ _ _, World.ownsRow_nil _ _ _ _, fun k h => (by cases h)⟩
theorem StO.lower {w : World} {base b : Nat} {v : Value} {s : Sa} (h : StO w base v s) (hb : b ≤ base) : StO w b v s := by
  obtain ⟨va, vd, vg, e, h⟩ := h
  exact ⟨va, vd, vg, e, ownsRow_low h.vals hb, ownsRow_low h.done hb, ownsRow_low h.got hb, h.apart⟩
theorem So.view {w : World} {base : Nat} {va vd vg : Value} {s : Sa} (h : So w base va vd vg s) (f : Few s) : Cv w va (iv s.vals) ∧ Cv w vd (bv s.done) ∧ Cv w vg (bv s.got) := by
  have := f.vals; have := f.done; have := f.got
  exact ⟨own_cv h.vals (by omega), own_cv h.done (by omega), own_cv h.got (by omega)⟩
theorem StO.view {w : World} {base : Nat} {v : Value} {s : Sa} (h : StO w base v s) (f : Few s) : StV w v s := by
  obtain ⟨va, vd, vg, e, h⟩ := h
  obtain ⟨h1, h2, h3⟩ := h.view f
  exact ⟨va, vd, vg, e, h1, h2, h3⟩
theorem TyV.low {w w' : World} {v : Value} {t : Ty} (h : TyV w v t) (k : Kept (· < w.heap.size) w w') : TyV w' v t := by
  obtain ⟨va, vs, vm, e, ⟨a1, a2, a3, a4, a5, a6⟩, ⟨b1, b2, b3, b4, b5, b6⟩, ⟨c1, c2, c3, c4, c5, c6⟩⟩ := h
  refine ⟨va, vs, vm, e, ⟨a1, a2, a3, a4, a5, fun h0 => ?_⟩, ⟨b1, b2, b3, b4, b5, fun h0 => ?_⟩, ⟨c1, c2, c3, c4, c5, fun h0 => ?_⟩⟩
  · obtain ⟨b, off, e, hb, hc⟩ := a6 h0
    refine ⟨b, off, e, Nat.lt_of_lt_of_le hb k.size, fun i hi => ?_⟩
    simp only [kept_cell k hb hb]
    exact hc i hi
  · obtain ⟨b, off, e, hb, hc⟩ := b6 h0
    refine ⟨b, off, e, Nat.lt_of_lt_of_le hb k.size, fun i hi => ?_⟩
    simp only [kept_cell k hb hb]
    exact hc i hi
  · obtain ⟨b, off, e, hb, hc⟩ := c6 h0
    refine ⟨b, off, e, Nat.lt_of_lt_of_le hb k.size, fun i hi => ?_⟩
    simp only [kept_cell k hb hb]
    exact hc i hi
theorem types_differ {w : World} {b1 b2 n m : Nat} {u v : Value} {xs ys : List Value} (h : w.ownsRow b1 3 1 u n xs) (k : w.ownsRow b2 4 1 v m ys) : ∀ i, u.ownBlock = some i → v.ownBlock ≠ some i := by
  intro i hu hv
  rcases h.2 with ⟨rfl, _⟩ | ⟨g, cap, cur, rfl, _, hg, _⟩
  · cases hu
  · rcases k.2 with ⟨rfl, _⟩ | ⟨g', cap', cur', rfl, _, hg', _⟩
    · cases hv
    · cases hu
      cases hv
      rw [hg] at hg'
      simp at hg'
/-- A mark that is got, a stage that is done, an attribute that is set: in their own rows. -/
theorem So.setGot {w : World} {base g cap n : Nat} {va vd : Value} {s : Sa} (h : So w base va vd (.slice (some ⟨g, 0, none⟩) n cap) s) (hn : n = s.got.length) (i : Nat) (b : Bool) : So (w.setCell ⟨g, i, none⟩ (.bool b)) base va vd (.slice (some ⟨g, 0, none⟩) n cap) { s with got := s.got.set i b } ∧ Kept (· < base) w (w.setCell ⟨g, i, none⟩ (.bool b)) := by
  subst hn
  have hgb := (h.got.lt g rfl).1
  have k : Kept (· ≠ g) w (w.setCell ⟨g, i, none⟩ (.bool b)) := (Kept.refl _ _).setCell (by simp) _
  refine ⟨⟨own_keep h.vals k (fun i e q => types_differ h.vals h.got i e (by rw [q]; rfl)), own_keep h.done k (fun i e q => h.apart i e (by rw [q]; rfl)), ?_, h.apart⟩, (Kept.refl _ _).setCell (by simp; omega) _⟩
  have := (h.got.stored i (.bool b)).1
  rw [bv_set] at this
  simpa using this
theorem So.setDone {w : World} {base g cap n : Nat} {va vg : Value} {s : Sa} (h : So w base va (.slice (some ⟨g, 0, none⟩) n cap) vg s) (hn : n = s.done.length) (i : Nat) (b : Bool) : So (w.setCell ⟨g, i, none⟩ (.bool b)) base va (.slice (some ⟨g, 0, none⟩) n cap) vg { s with done := s.done.set i b } ∧ Kept (· < base) w (w.setCell ⟨g, i, none⟩ (.bool b)) := by
  subst hn
  have hgb := (h.done.lt g rfl).1
  have k : Kept (· ≠ g) w (w.setCell ⟨g, i, none⟩ (.bool b)) := (Kept.refl _ _).setCell (by simp) _
  refine ⟨⟨own_keep h.vals k (fun i e q => types_differ h.vals h.done i e (by rw [q]; rfl)), ?_, own_keep h.got k (fun i e q => h.apart g rfl (by rw [← q]; exact e)), h.apart⟩, (Kept.refl _ _).setCell (by simp; omega) _⟩
  have := (h.done.stored i (.bool b)).1
  rw [bv_set] at this
  simpa using this
theorem So.setVal {w : World} {base g cap n : Nat} {vd vg : Value} {s : Sa} (h : So w base (.slice (some ⟨g, 0, none⟩) n cap) vd vg s) (hn : n = s.vals.length) (i : Nat) (b : Int) : So (w.setCell ⟨g, i, none⟩ (.int .i64 b)) base (.slice (some ⟨g, 0, none⟩) n cap) vd vg { s with vals := s.vals.set i b } ∧ Kept (· < base) w (w.setCell ⟨g, i, none⟩ (.int .i64 b)) := by
  subst hn
  have hgb := (h.vals.lt g rfl).1
  have k : Kept (· ≠ g) w (w.setCell ⟨g, i, none⟩ (.int .i64 b)) := (Kept.refl _ _).setCell (by simp) _
  refine ⟨⟨?_, own_keep h.done k (fun i e q => types_differ h.vals h.done g rfl (by rw [← q]; exact e)), own_keep h.got k (fun i e q => types_differ h.vals h.got g rfl (by rw [← q]; exact e)), h.apart⟩, (Kept.refl _ _).setCell (by simp; omega) _⟩
  have := (h.vals.stored i (.int .i64 b)).1
  rw [iv_set] at this
  simpa using this

end Go.Proofs.YtenejaghgehnoaaGreatDoor

namespace Go.Proofs.YtenejaghgehnoaaGreatDoor
open Go.RowKit Go.Maps Go.Sort

/-- A slice's value. -/
structure Sv where
  a : Option Addr
  n : Nat
  c : Nat
def Sv.val (x : Sv) : Value := .slice x.a x.n x.c
def numD (n : Nat) : DataW Unit := .lit (.int .i64 (n : Int))
theorem numD_inj {n m : Nat} (h : numD n = numD m) : n = m := by
  simp only [numD, DataW.lit.injEq, Lit.int.injEq, true_and] at h
  exact Int.ofNat_inj.1 h
def spotD : Option Nat → DataW Unit
  | none => .nil
  | some k => numD k
theorem spotD_inj : ∀ {a b : Option Nat}, spotD a = spotD b → a = b
  | none, none, _ => rfl
  | some _, some _, h => by rw [numD_inj h]
  | none, some _, h => by cases h
  | some _, none, h => by cases h
def adD : Option Addr → DataW Unit
  | none => .nil
  | some a => .agg [numD a.block, numD a.off, spotD a.spot]
theorem adD_inj : ∀ {a b : Option Addr}, adD a = adD b → a = b
  | none, none, _ => rfl
  | some ⟨b, o, s⟩, some ⟨b', o', s'⟩, h => by
    simp only [adD, DataW.agg.injEq, List.cons.injEq, and_true] at h
    rw [numD_inj h.1, numD_inj h.2.1, spotD_inj h.2.2]
  | none, some _, h => by cases h
  | some _, none, h => by cases h
def svD (x : Sv) : DataW Unit := .agg [adD x.a, numD x.n, numD x.c]
theorem svD_inj (x y : Sv) (h : svD x = svD y) : x = y := by
  obtain ⟨a, n, c⟩ := x
  obtain ⟨a', n', c'⟩ := y
  simp only [svD, DataW.agg.injEq, List.cons.injEq, and_true] at h
  rw [adD_inj h.1, numD_inj h.2.1, numD_inj h.2.2]
def svR : Value → Option (DataW Unit × List MemPlace)
  | .slice a n c => some (svD ⟨a, n, c⟩, [])
  | _ => none
theorem svR_inv (v : Value) (z : DataW Unit × List MemPlace) (h : svR v = some z) : ∃ x : Sv, v = x.val ∧ z = (svD x, []) := by
  unfold svR at h
  split at h
  · exact ⟨⟨_, _, _⟩, rfl, by simpa using h.symm⟩
  · cases h
/-- Slices. -/
def codeL : Cde Sv := ⟨Sv.val, svD, svR, fun _ => rfl, svR_inv, svD_inj⟩

/-- Numbers. -/
def intD (n : Int) : DataW Unit := .lit (.int .i64 n)
def intR : Value → Option (DataW Unit × List MemPlace)
  | .int .i64 n => some (intD n, [])
  | _ => none
theorem intR_inv (v : Value) (z : DataW Unit × List MemPlace) (h : intR v = some z) : ∃ x : Int, v = .int .i64 x ∧ z = (intD x, []) := by
  unfold intR at h
  split at h
  · exact ⟨_, rfl, by simpa using h.symm⟩
  · cases h
def codeN : Cde Int := ⟨Value.int .i64, intD, intR, fun _ => rfl, intR_inv, fun x y h => by simpa [intD] using h⟩

/-- A state's value. -/
structure Sr where
  type : List UInt8
  vals : Sv
  done : Sv
  got : Sv
def Sr.val (x : Sr) : Value := .agg #[.string ⟨x.type.toArray⟩, x.vals.val, x.done.val, x.got.val]
def srD (x : Sr) : DataW Unit := .agg [.lit (.string x.type), svD x.vals, svD x.done, svD x.got]
theorem srD_inj (x y : Sr) (h : srD x = srD y) : x = y := by
  obtain ⟨t, a, b, c⟩ := x
  obtain ⟨t', a', b', c'⟩ := y
  simp only [srD, DataW.agg.injEq, List.cons.injEq, and_true, DataW.lit.injEq, Lit.string.injEq] at h
  rw [h.1, svD_inj _ _ h.2.1, svD_inj _ _ h.2.2.1, svD_inj _ _ h.2.2.2]
def srL : List Value → Option (DataW Unit × List MemPlace)
  | [.string s, .slice a1 n1 c1, .slice a2 n2 c2, .slice a3 n3 c3] => some (srD ⟨s.data.toList, ⟨a1, n1, c1⟩, ⟨a2, n2, c2⟩, ⟨a3, n3, c3⟩⟩, [])
  | _ => none
def srR : Value → Option (DataW Unit × List MemPlace)
  | .agg a => srL a.toList
  | _ => none
theorem srR_inv (v : Value) (z : DataW Unit × List MemPlace) (h : srR v = some z) : ∃ x : Sr, v = x.val ∧ z = (srD x, []) := by
  unfold srR at h
  split at h
  · rename_i a
    obtain ⟨l⟩ := a
    unfold srL at h
    split at h
    · rename_i s a1 n1 c1 a2 n2 c2 a3 n3 c3 e
      simp only at e
      subst e
      exact ⟨⟨s.data.toList, ⟨a1, n1, c1⟩, ⟨a2, n2, c2⟩, ⟨a3, n3, c3⟩⟩, by simp [Sr.val, Sv.val], by simpa using h.symm⟩
    · cases h
  · cases h
/-- States. -/
def codeS : Cde Sr := ⟨Sr.val, srD, srR, fun x => by simp [srR, srL, Sr.val, Sv.val], srR_inv, srD_inj⟩

theorem zeroSt (w : World) : (zeroValue 70).run Tryz.prog w = .ok (codeS.enc ⟨[], ⟨none, 0, 0⟩, ⟨none, 0, 0⟩, ⟨none, 0, 0⟩⟩) w := by kernel_rfl
theorem zeroOps (w : World) : (zeroValue 37).run Tryz.prog w = .ok (codeL.enc ⟨none, 0, 0⟩) w := by kernel_rfl
theorem zeroNum (w : World) : (zeroValue 3).run Tryz.prog w = .ok (codeN.enc 0) w := by kernel_rfl

/-- What is in a row lies in a block of its type. -/
def Typed (w : World) (e : TypeId) (x : Sv) : Prop := ∀ a, x.a = some a → 0 < x.n → ∃ cs fr, w.heap[a.block]? = some (.cells cs e fr)
/-- A state that a shard has. -/
structure StW (w : World) (r : Sr) (s : Sa) : Prop where
  view : StV w r.val s
  typed : Typed w 3 r.vals
  typed2 : Typed w 4 r.done
  typed3 : Typed w 4 r.got
/-- Cases in a map. -/
def Cmap (w : World) (C n : Nat) (f : List UInt8 → Option Sa) : Prop := ∃ fv : List UInt8 → Option Sr, Mp codeS w C n fv ∧ (∀ x, fv x = none ↔ f x = none) ∧ ∀ x r s, fv x = some r → f x = some s → StW w r s

theorem Typed.calm {w w' : World} {e : TypeId} {x : Sv} (h : Typed w e x) {p : Nat → Prop} (k : Kept p w w') (hp : ∀ b cs fr, w.heap[b]? = some (.cells cs e fr) → p b) : Typed w' e x := by
  intro a ha hn
  obtain ⟨cs, fr, q⟩ := h a ha hn
  exact ⟨cs, fr, (k.block _ (lt_of_block q) (hp _ _ _ q)).trans q⟩
end Go.Proofs.YtenejaghgehnoaaGreatDoor

namespace Go.Proofs.YtenejaghgehnoaaGreatDoor
open Go.RowKit

/-- A row of operations that is looked at. -/
def Ov (w : World) (v : Value) (xs : List Oq) : Prop :=
  ∃ ao cap, v = .slice ao xs.length cap ∧ xs.length ≤ 281474976710656 ∧ (0 < xs.length → ∃ b off, ao = some ⟨b, off, none⟩ ∧ b < w.heap.size ∧ ∀ i (h : i < xs.length), w.cell? ⟨b, off + i * 4, none⟩ = some (.int .i64 (xs[i]).kind) ∧ w.cell? ⟨b, off + i * 4 + 1, none⟩ = some (.string ⟨(xs[i]).cas.toArray⟩) ∧ w.cell? ⟨b, off + i * 4 + 2, none⟩ = some (.string ⟨(xs[i]).name.toArray⟩) ∧ w.cell? ⟨b, off + i * 4 + 3, none⟩ = some (.int .i64 (xs[i]).n))
theorem Ov.kept {p : Nat → Prop} {w w' : World} {v : Value} {xs : List Oq} (h : Ov w v xs) (k : Kept p w w') (hp : ∀ b, b < w.heap.size → p b) : Ov w' v xs := by
  obtain ⟨ao, cap, e, hl, h⟩ := h
  refine ⟨ao, cap, e, hl, fun h0 => ?_⟩
  obtain ⟨b, off, e, hb, hc⟩ := h h0
  refine ⟨b, off, e, Nat.lt_of_lt_of_le hb k.size, fun i hi => ?_⟩
  simp only [kept_cell k hb (hp b hb)]
  exact hc i hi
theorem Ov.all {w w' : World} {v : Value} {xs : List Oq} (h : Ov w v xs) (k : Kept (fun _ => True) w w') : Ov w' v xs := h.kept k (fun _ _ => trivial)
theorem Ov.form {w : World} {v : Value} {xs : List Oq} (h : Ov w v xs) : ∃ ao cap, v = .slice ao xs.length cap ∧ xs.length ≤ 281474976710656 := by
  obtain ⟨ao, cap, e, hl, _⟩ := h
  exact ⟨ao, cap, e, hl⟩
theorem Ov.at {w : World} {ao : Option Addr} {n cap : Nat} {xs : List Oq} (h : Ov w (.slice ao n cap) xs) (i : Nat) (hi : i < xs.length) : ∃ b off, ao = some ⟨b, off, none⟩ ∧ b < w.heap.size ∧
    w.cell? ⟨b, off + i * 4, none⟩ = some (.int .i64 (xs[i]).kind) ∧ w.cell? ⟨b, off + i * 4 + 1, none⟩ = some (.string ⟨(xs[i]).cas.toArray⟩) ∧ w.cell? ⟨b, off + i * 4 + 2, none⟩ = some (.string ⟨(xs[i]).name.toArray⟩) ∧ w.cell? ⟨b, off + i * 4 + 3, none⟩ = some (.int .i64 (xs[i]).n) := by
  obtain ⟨ao', cap', e, hl, h⟩ := h
  cases e
  obtain ⟨b, off, e, hb, hc⟩ := h (by omega)
  exact ⟨b, off, e, hb, hc i hi⟩

end Go.Proofs.YtenejaghgehnoaaGreatDoor

namespace Go.Proofs.YtenejaghgehnoaaGreatDoor
open Go.Proofs Go.Shelf
def sortedQ_ren : Go.Shelf.Ren := ⟨fun | 6 => 80 | 8 => 139 | 9 => 140 | 11 => 173 | 13 => 175 | 12 => 174 | 23 => 202 | 24 => 203 | 14 => 193 | 15 => 194 | 16 => 195 | 17 => 196 | 18 => 197 | 19 => 198 | 20 => 199 | 21 => 200 | 22 => 201 | 25 => 223 | 26 => 224 | 27 => 225 | 28 => 226 | 29 => 227 | 30 => 228 | 31 => 242 | n => n, fun | 26 => 9 | 28 => 134 | 24 => 31 | 0 => 0 | 3 => 3 | 37 => 206 | 48 => 136 | 50 => 202 | 4 => 4 | 40 => 264 | 39 => 263 | 45 => 231 | 5 => 5 | 9 => 9 | 51 => 286 | 55 => 290 | 57 => 307 | 58 => 188 | 33 => 73 | n => n, fun | n => n⟩
theorem sortedQ : Go.Proofs.SlLaysZ.n6 Tryz.prog sortedQ_ren := {
  mixed := by kernel_rfl
  f6 := ⟨Tryz.f80.name, by decide, Tryz.func80.trans (congrArg some (by kernel_rfl))⟩
  f8 := ⟨Tryz.f139.name, by decide, Tryz.func139.trans (congrArg some (by kernel_rfl))⟩
  f11 := ⟨Tryz.f173.name, by decide, Tryz.func173.trans (congrArg some (by kernel_rfl))⟩
  t0 := Tryz.underlying0
  a0 := Tryz.isAgg0
  z0 := Tryz.sizeOf0
  v0 := Tryz.zeroValue0
  t24 := Tryz.underlying31
  a24 := Tryz.isAgg31
  z24 := Tryz.sizeOf31
  v24 := Tryz.zeroValue31
  t26 := Tryz.underlying9
  a26 := Tryz.isAgg9
  z26 := Tryz.sizeOf9
  v26 := Tryz.zeroValue9
  t28 := Tryz.underlying134
  a28 := Tryz.isAgg134
  z28 := Tryz.sizeOf134
  v28 := Tryz.zeroValue134
  i26 := by kernel_rfl }
def sortQ_ren : Go.Shelf.Ren := ⟨fun | 6 => 140 | 8 => 175 | 9 => 174 | 19 => 202 | 20 => 203 | 21 => 193 | 22 => 194 | 23 => 195 | 24 => 196 | 25 => 197 | 26 => 198 | 27 => 199 | 28 => 200 | 29 => 201 | 36 => 223 | 31 => 224 | 32 => 225 | 37 => 226 | 38 => 227 | 39 => 228 | 41 => 242 | n => n, fun | 27 => 31 | 29 => 9 | 3 => 3 | 32 => 206 | 26 => 31 | 0 => 0 | 44 => 136 | 46 => 202 | 4 => 4 | 36 => 264 | 35 => 263 | 41 => 231 | 5 => 5 | 9 => 9 | 53 => 286 | 57 => 290 | 63 => 307 | 64 => 188 | n => n, fun | n => n⟩
theorem sortQ : Go.Proofs.SlLaysM.n6 Tryz.prog sortQ_ren := {
  mixed := by kernel_rfl
  f6 := ⟨Tryz.f140.name, by decide, Tryz.func140.trans (congrArg some (by kernel_rfl))⟩
  f8 := Tryz.func175.trans (congrArg some (by kernel_rfl))
  f9 := ⟨Tryz.f174.name, by decide, Tryz.func174.trans (congrArg some (by kernel_rfl))⟩
  f19 := Tryz.func202.trans (congrArg some (by kernel_rfl))
  f20 := Tryz.func203.trans (congrArg some (by kernel_rfl))
  f21 := ⟨Tryz.f193.name, by decide, Tryz.func193.trans (congrArg some (by kernel_rfl))⟩
  f22 := ⟨Tryz.f194.name, by decide, Tryz.func194.trans (congrArg some (by kernel_rfl))⟩
  f23 := ⟨Tryz.f195.name, by decide, Tryz.func195.trans (congrArg some (by kernel_rfl))⟩
  f24 := ⟨Tryz.f196.name, by decide, Tryz.func196.trans (congrArg some (by kernel_rfl))⟩
  f25 := ⟨Tryz.f197.name, by decide, Tryz.func197.trans (congrArg some (by kernel_rfl))⟩
  f26 := ⟨Tryz.f198.name, by decide, Tryz.func198.trans (congrArg some (by kernel_rfl))⟩
  f27 := ⟨Tryz.f199.name, by decide, Tryz.func199.trans (congrArg some (by kernel_rfl))⟩
  f28 := ⟨Tryz.f200.name, by decide, Tryz.func200.trans (congrArg some (by kernel_rfl))⟩
  f29 := ⟨Tryz.f201.name, by decide, Tryz.func201.trans (congrArg some (by kernel_rfl))⟩
  f31 := Tryz.func224.trans (congrArg some (by kernel_rfl))
  f32 := Tryz.func225.trans (congrArg some (by kernel_rfl))
  f36 := ⟨Tryz.f223.name, by decide, Tryz.func223.trans (congrArg some (by kernel_rfl))⟩
  f37 := ⟨Tryz.f226.name, by decide, Tryz.func226.trans (congrArg some (by kernel_rfl))⟩
  f38 := ⟨Tryz.f227.name, by decide, Tryz.func227.trans (congrArg some (by kernel_rfl))⟩
  f39 := ⟨Tryz.f228.name, by decide, Tryz.func228.trans (congrArg some (by kernel_rfl))⟩
  f41 := ⟨Tryz.f242.name, by decide, Tryz.func242.trans (congrArg some (by kernel_rfl))⟩
  t0 := Tryz.underlying0
  a0 := Tryz.isAgg0
  z0 := Tryz.sizeOf0
  v0 := Tryz.zeroValue0
  t3 := Tryz.underlying3
  a3 := Tryz.isAgg3
  z3 := Tryz.sizeOf3
  v3 := Tryz.zeroValue3
  t4 := Tryz.underlying4
  a4 := Tryz.isAgg4
  z4 := Tryz.sizeOf4
  v4 := Tryz.zeroValue4
  t5 := Tryz.underlying5
  a5 := Tryz.isAgg5
  z5 := Tryz.sizeOf5
  v5 := Tryz.zeroValue5
  t9 := Tryz.underlying9
  a9 := Tryz.isAgg9
  z9 := Tryz.sizeOf9
  v9 := Tryz.zeroValue9
  t26 := Tryz.underlying31
  a26 := Tryz.isAgg31
  z26 := Tryz.sizeOf31
  v26 := Tryz.zeroValue31
  t27 := Tryz.underlying31
  a27 := Tryz.isAgg31
  z27 := Tryz.sizeOf31
  v27 := Tryz.zeroValue31
  t29 := Tryz.underlying9
  a29 := Tryz.isAgg9
  z29 := Tryz.sizeOf9
  v29 := Tryz.zeroValue9
  t32 := Tryz.underlying206
  a32 := Tryz.isAgg206
  z32 := Tryz.sizeOf206
  v32 := Tryz.zeroValue206
  t35 := Tryz.underlying263
  a35 := Tryz.isAgg263
  z35 := Tryz.sizeOf263
  v35 := Tryz.zeroValue263
  t36 := Tryz.underlying264
  a36 := Tryz.isAgg264
  z36 := Tryz.sizeOf264
  v36 := Tryz.zeroValue264
  t41 := Tryz.underlying231
  a41 := Tryz.isAgg231
  z41 := Tryz.sizeOf231
  v41 := Tryz.zeroValue231
  t44 := Tryz.underlying136
  a44 := Tryz.isAgg136
  z44 := Tryz.sizeOf136
  v44 := Tryz.zeroValue136
  t46 := Tryz.underlying202
  a46 := Tryz.isAgg202
  z46 := Tryz.sizeOf202
  v46 := Tryz.zeroValue202
  t53 := Tryz.underlying286
  a53 := Tryz.isAgg286
  z53 := Tryz.sizeOf286
  v53 := Tryz.zeroValue286
  t57 := Tryz.underlying290
  a57 := Tryz.isAgg290
  z57 := Tryz.sizeOf290
  v57 := Tryz.zeroValue290
  t63 := Tryz.underlying307
  a63 := Tryz.isAgg307
  z63 := Tryz.sizeOf307
  v63 := Tryz.zeroValue307
  t64 := Tryz.underlying188
  a64 := Tryz.isAgg188
  z64 := Tryz.sizeOf188
  v64 := Tryz.zeroValue188 }
end Go.Proofs.YtenejaghgehnoaaGreatDoor

namespace Go.Proofs.YtenejaghgehnoaaGreatDoor
open Go.RowKit Go.Maps Go.Sort

theorem pairs_weaken {α : Type} {R S : α → α → Prop} (hRS : ∀ a b, R a b → S a b) {l : List α} (h : l.Pairwise R) : l.Pairwise S := by
  induction l with
  | nil => exact List.Pairwise.nil
  | cons a l ih =>
    rw [List.pairwise_cons] at h ⊢
    exact ⟨fun b hb => hRS a b (h.1 b hb), ih h.2⟩
theorem pairs_both {α : Type} {R S T : α → α → Prop} (hT : ∀ a b, R a b → S a b → T a b) {l : List α} (h : l.Pairwise R) (h' : l.Pairwise S) : l.Pairwise T := by
  induction l with
  | nil => exact List.Pairwise.nil
  | cons a l ih =>
    rw [List.pairwise_cons] at h h' ⊢
    exact ⟨fun b hb => hT a b (h.1 b hb) (h'.1 b hb), ih h.2 h'.2⟩
/-- In order, each once. -/
def Rises (us : List (List UInt8)) : Prop := us.Pairwise fun a b => a ≤ b ∧ a ≠ b
theorem Rises.nodup {us : List (List UInt8)} (h : Rises us) : us.Nodup := pairs_weaken (fun _ _ h => h.2) h
theorem Rises.up {us : List (List UInt8)} (h : Rises us) : us.Pairwise fun a b => a ≤ b := pairs_weaken (fun _ _ h => h.1) h
theorem rises_unique (us vs : List (List UInt8)) (hu : Rises us) (hv : Rises vs) (h : ∀ x, x ∈ us ↔ x ∈ vs) : us = vs := by
  have nu : us.Nodup := hu.nodup
  have nv : vs.Nodup := hv.nodup
  exact List.Perm.eq_of_pairwise (le := fun a b => a ≤ b) (fun a b _ _ h1 h2 => List.le_antisymm h1 h2) hu.up hv.up ((List.perm_ext_iff_of_nodup nu nv).2 h)
theorem rises_sort (ss : List (List UInt8)) (h : ss.Nodup) : Rises (ss.mergeSort (fun x y => decide (x ≤ y))) ∧ ∀ x, x ∈ ss.mergeSort (fun x y => decide (x ≤ y)) ↔ x ∈ ss := by
  have tr : ∀ a b c : List UInt8, leB a b = true → leB b c = true → leB a c = true := fun a b c h1 h2 => by simp only [leB, decide_eq_true_eq] at *; exact List.le_trans h1 h2
  have tot : ∀ a b : List UInt8, (leB a b || leB b a) = true := fun a b => by simp only [leB, Bool.or_eq_true, decide_eq_true_eq]; exact List.le_total a b
  have hp := List.mergeSort_perm ss (fun x y => decide (x ≤ y))
  have h1 := List.pairwise_mergeSort tr tot ss
  have h2 : (ss.mergeSort (fun x y => decide (x ≤ y))).Nodup := hp.nodup_iff.2 h
  refine ⟨?_, fun x => hp.mem_iff⟩
  exact pairs_both (fun a b h1 h2 => ⟨by simpa [leB] using h1, h2⟩) h1 h2
end Go.Proofs.YtenejaghgehnoaaGreatDoor

namespace Go.Proofs.YtenejaghgehnoaaGreatDoor
open Go.RowKit Go.Maps Go.Sort Go.Shelf Go.Proofs

theorem sortsK (m : Nat) : AnyZ.SortsIn Tryz.prog sortedQ_ren Fence.wide m :=
  ⟨fun blk off cap ss W hH hblk hsz => callsIn_wide.2 (AnyM.slices_Sort_string sortQ blk off cap ss W hH hblk hsz),
   fun p cap W => callsIn_wide.2 (AnyM.slices_Sort_string_none sortQ p cap W)⟩
theorem row_base {w : World} {b b' e sz n : Nat} {v : Value} {xs : List Value} (h : w.ownsRow b e sz v n xs) (hb : b' ≤ b) : w.ownsRow b' e sz v n xs := by
  refine ⟨h.1, ?_⟩
  rcases h.2 with h0 | ⟨g, cap, cur, rfl, hg, rest⟩
  · exact .inl h0
  · exact .inr ⟨g, cap, cur, rfl, by omega, rest⟩
theorem srow_enc (us : List (List UInt8)) : us.map encStr = srow us := rfl

set_option maxHeartbeats 1000000 in
/-- slices.Sorted of maps.Keys, whatever the map holds. -/
theorem sorted_keys {α : Type} {C : Cde α} {ρ : Ren} (L : SlLaysZ.n7 Tryz.prog ρ) (h26 : ρ.t 26 = 9) (hE : ∀ args w, (callFunc (ρ.f 10) args).run Tryz.prog w = .ok (.enter (ρ.f 10) args) w) {w : World} {mb : Option Nat} {n : Nat} {f : List UInt8 → Option α} (h : Mo C w mb n f) (hn : n ≤ 1000000) :
    Calls Tryz.prog 80 #[.func (.func (ρ.f 10)) #[] #[.pointer (some ⟨w.heap.size, 0, none⟩)]] (w.alloc (.cells #[.map mb] (ρ.t 23))) fun e w' => ∃ v us, e = .returned v ∧ Rises us ∧ (∀ x, x ∈ us ↔ f x ≠ none) ∧ us.length ≤ n ∧ Txs w' w.heap.size v us ∧ Kept (fun _ => True) w w' := by
  obtain ⟨S, N, hseq, hN, hS⟩ : ∃ (S : List (List UInt8) → Prop) (N : Nat), SeqGives Fence.wide 2 Tryz.prog (ρ.f 10) #[.pointer (some ⟨w.heap.size, 0, none⟩)] encStr S N (w.alloc (.cells #[.map mb] (ρ.t 23))) ∧ N ≤ n ∧ ∀ ss, S ss → ss.Nodup ∧ ss.length ≤ n ∧ ∀ x, x ∈ ss ↔ f x ≠ none := by
    rcases h with ⟨rfl, h⟩ | ⟨b, rfl, h⟩
    · refine ⟨_, 0, AnyZ.keys_gives_nil (ρ := ρ) { L with } Fence.wide _ trivial rfl w.heap.size _ (by simp) (by simp), Nat.zero_le _, ?_⟩
      rintro ss rfl
      exact ⟨by simp, Nat.zero_le _, fun x => by simp [h x]⟩
    · obtain ⟨D, ho, hh⟩ := h
      have hbl := ho.lt
      obtain ⟨k1, k2, k3⟩ := keys_of ho hh
      have hsz := ho.size_le
      refine ⟨fun ss => ss.Perm (strKeys D), Maps.size D, AnyZ.keys_gives (ρ := ρ) { L with } Fence.wide _ trivial rfl (by omega) w.heap.size b n D _ (by simp) (by simp) (by
        rw [h26]
        obtain ⟨es, clock, hb, Ft, hs, hD⟩ := ho
        exact ⟨es, clock, (Below.heap_alloc _ _ b hbl).trans hb, Ft, hs, hD⟩), hsz, ?_⟩
      intro ss hp
      exact ⟨hp.nodup_iff.2 k1, by rw [hp.length_eq, k2]; exact hsz, fun x => by rw [hp.mem_iff, k3 x]⟩
  have c := callsIn_wide.1 (AnyZ.sorted_in sortedQ Fence.wide 5 trivial trivial trivial trivial rfl (by omega) (sortsK _) (enters_of Tryz.func140 (by kernel_rfl) rfl) (ρ.f 10) #[.pointer (some ⟨w.heap.size, 0, none⟩)] trivial hE S N (by unfold maxLen; omega) (by omega) _ hseq)
  refine Calls.mono c ?_
  rintro e w' ⟨v, ss, rfl, hs, hrow, -, hb⟩
  obtain ⟨s1, s2, s3⟩ := hS ss hs
  obtain ⟨r1, r2⟩ := rises_sort ss s1
  refine ⟨v, ss.mergeSort (fun x y => decide (x ≤ y)), rfl, r1, fun x => by rw [r2 x, s3 x], by rw [List.length_mergeSort]; exact s2, ?_, ((Kept.refl _ _).alloc _).trans (Kept.ofBelow _ hb)⟩
  unfold Txs
  rw [List.length_mergeSort, ← srow_enc]
  exact row_base hrow (by simp)

end Go.Proofs.YtenejaghgehnoaaGreatDoor

namespace Go.Proofs.YtenejaghgehnoaaGreatDoor

/-- How transactions hold cases: by cases, then by transactions; whether to write. -/
abbrev Lk := List UInt8 → List UInt8 → Option Bool
/-- Another one than x holds c in a way that goes ill with a want. -/
def Ill (h : Lk) (x c : List UInt8) (wr : Bool) : Prop := ∃ y v, y ≠ x ∧ h c y = some v ∧ (v = true ∨ wr = true)
def give (h : Lk) (x c : List UInt8) (wr : Bool) : Lk := fun c' y => if c' = c ∧ y = x then some ((h c x).getD false || wr) else h c' y
def gives (h : Lk) (x : List UInt8) : List (List UInt8 × Bool) → Lk
  | [] => h
  | w :: l => gives (give h x w.1 w.2) x l
def freed (h : Lk) (x : List UInt8) : Lk := fun c y => if y = x then none else h c y
/-- Of a case there is one writer and nobody else, or readers. -/
def Alone (h : Lk) : Prop := ∀ c x y, h c x = some true → h c y ≠ none → y = x
/-- What Take answers and leaves. -/
def Takes (h : Lk) (x : List UInt8) (l : List (List UInt8 × Bool)) (e : Int) (h' : Lk) : Prop :=
  (x = [] ∧ e = 1 ∧ h' = h) ∨ (x ≠ [] ∧ (∃ w ∈ l, Ill h x w.1 w.2) ∧ e = 35 ∧ h' = h) ∨ (x ≠ [] ∧ (∀ w ∈ l, ¬ Ill h x w.1 w.2) ∧ e = 0 ∧ h' = gives h x l)
/-- What Writer answers. -/
def Writes (h : Lk) (c v : List UInt8) (ok : Bool) : Prop := (ok = true ∧ h c v = some true) ∨ (ok = false ∧ v = [] ∧ ∀ y, h c y ≠ some true)
/-- What Holders, Held and All answer. -/
def Hol (h : Lk) (c : List UInt8) (us : List (List UInt8)) : Prop := Rises us ∧ ∀ y, y ∈ us ↔ h c y ≠ none
/-- Whether somebody holds something. -/
def Some1 (h : Lk) (x : List UInt8) : Prop := ∃ c, h c x ≠ none

theorem give_self (h : Lk) (x c : List UInt8) (wr : Bool) : give h x c wr c x = some ((h c x).getD false || wr) := by simp [give]
theorem give_other (h : Lk) (x c : List UInt8) (wr : Bool) {c' y : List UInt8} (hne : ¬ (c' = c ∧ y = x)) : give h x c wr c' y = h c' y := by simp [give, hne]
theorem give_none {h : Lk} {x c c' y : List UInt8} {wr : Bool} : give h x c wr c' y ≠ none ↔ h c' y ≠ none ∨ (c' = c ∧ y = x) := by
  by_cases e : c' = c ∧ y = x
  · obtain ⟨rfl, rfl⟩ := e
    rw [give_self]
    simp
  · rw [give_other _ _ _ _ e]
    simp [e]
/-- Others hold what they held. -/
theorem gives_other {h : Lk} {x y : List UInt8} (hy : y ≠ x) (l : List (List UInt8 × Bool)) (c : List UInt8) : gives h x l c y = h c y := by
  induction l generalizing h with
  | nil => rfl
  | cons w l ih => rw [gives, ih, give_other _ _ _ _ (fun e => hy e.2)]
theorem gives_none {h : Lk} {x c : List UInt8} {l : List (List UInt8 × Bool)} : gives h x l c x ≠ none ↔ h c x ≠ none ∨ ∃ w ∈ l, w.1 = c := by
  induction l generalizing h with
  | nil => simp [gives]
  | cons w l ih =>
    rw [gives, ih, give_none]
    constructor
    · rintro ((h1 | ⟨rfl, _⟩) | ⟨v, hv, e⟩)
      · exact .inl h1
      · exact .inr ⟨w, List.mem_cons_self .., rfl⟩
      · exact .inr ⟨v, List.mem_cons_of_mem _ hv, e⟩
    · rintro (h1 | ⟨v, hv, e⟩)
      · exact .inl (.inl h1)
      · rcases List.mem_cons.1 hv with rfl | hv
        · exact .inl (.inr ⟨e.symm, rfl⟩)
        · exact .inr ⟨v, hv, e⟩
theorem gives_wrote {h : Lk} {x c : List UInt8} {l : List (List UInt8 × Bool)} : gives h x l c x = some true ↔ h c x = some true ∨ ∃ w ∈ l, w.1 = c ∧ w.2 = true := by
  induction l generalizing h with
  | nil => simp [gives]
  | cons w l ih =>
    rw [gives, ih]
    have e : give h x w.1 w.2 c x = some true ↔ h c x = some true ∨ (w.1 = c ∧ w.2 = true) := by
      by_cases e : c = w.1
      · subst e
        rw [give_self]
        cases hv : h w.1 x with
        | none => simp
        | some v => cases v <;> simp
      · rw [give_other _ _ _ _ (fun z => e z.1)]
        simp [Ne.symm e]
    rw [e]
    constructor
    · rintro ((h1 | h1) | ⟨v, hv, e2⟩)
      · exact .inl h1
      · exact .inr ⟨w, List.mem_cons_self .., h1⟩
      · exact .inr ⟨v, List.mem_cons_of_mem _ hv, e2⟩
    · rintro (h1 | ⟨v, hv, e2⟩)
      · exact .inl (.inl h1)
      · rcases List.mem_cons.1 hv with rfl | hv
        · exact .inl (.inr e2)
        · exact .inr ⟨v, hv, e2⟩
theorem gives_alone {h : Lk} (ha : Alone h) {x : List UInt8} {l : List (List UInt8 × Bool)} (hl : ∀ w ∈ l, ¬ Ill h x w.1 w.2) : Alone (gives h x l) := by
  intro c a b h1 h2
  by_cases hax : a = x
  · subst hax
    refine Classical.byContradiction fun hb => ?_
    rw [gives_other hb] at h2
    rcases gives_wrote.1 h1 with h1 | ⟨w, hw, rfl, e⟩
    · exact hb (ha c a b h1 h2)
    · obtain ⟨v, hv⟩ := Option.ne_none_iff_exists'.1 h2
      exact hl w hw ⟨b, v, hb, hv, .inr e⟩
  · rw [gives_other hax] at h1
    by_cases hbx : b = x
    · subst hbx
      rcases gives_none.1 h2 with h2 | ⟨w, hw, rfl⟩
      · exact ha c a b h1 h2
      · exact absurd ⟨a, true, hax, h1, .inl rfl⟩ (hl w hw)
    · rw [gives_other hbx] at h2
      exact ha c a b h1 h2
theorem Takes.alone {h h' : Lk} (ha : Alone h) {x : List UInt8} {l : List (List UInt8 × Bool)} {e : Int} (t : Takes h x l e h') : Alone h' := by
  rcases t with ⟨_, _, rfl⟩ | ⟨_, _, _, rfl⟩ | ⟨_, hl, _, rfl⟩
  · exact ha
  · exact ha
  · exact gives_alone ha hl
theorem freed_alone {h : Lk} (ha : Alone h) (x : List UInt8) : Alone (freed h x) := by
  intro c a b h1 h2
  unfold freed at h1 h2
  split at h1
  · cases h1
  · split at h2
    · exact absurd rfl h2
    · exact ha c a b h1 h2
theorem freed_none {h : Lk} {x c y : List UInt8} : freed h x c y ≠ none ↔ h c y ≠ none ∧ y ≠ x := by
  unfold freed
  split
  · rename_i e
    simp [e]
  · rename_i e
    simp [e]
theorem nobody_alone : Alone (fun _ _ => none) := fun c x y h _ => by cases h
/-- Who holds something behind a Take: x alone may be new. -/
theorem Takes.some {h h' : Lk} {x : List UInt8} {l : List (List UInt8 × Bool)} {e : Int} (t : Takes h x l e h') {c y : List UInt8} (hn : h' c y ≠ none) : h c y ≠ none ∨ (y = x ∧ ∃ w ∈ l, w.1 = c) := by
  rcases t with ⟨_, _, rfl⟩ | ⟨_, _, _, rfl⟩ | ⟨_, hl, _, rfl⟩
  · exact .inl hn
  · exact .inl hn
  · by_cases hy : y = x
    · subst hy
      rcases gives_none.1 hn with h1 | h1
      · exact .inl h1
      · exact .inr ⟨rfl, h1⟩
    · rw [gives_other hy] at hn
      exact .inl hn
/-- A writer is the one holder. -/
theorem Hol.one {h : Lk} (ha : Alone h) {c v : List UInt8} {us : List (List UInt8)} (a : Hol h c us) (b : h c v = some true) : us = [v] := by
  refine rises_unique us [v] a.1 (by simp [Rises]) fun y => ?_
  rw [a.2 y, List.mem_singleton]
  constructor
  · exact fun hy => ha c v y b hy
  · rintro rfl
    rw [b]
    simp

end Go.Proofs.YtenejaghgehnoaaGreatDoor

namespace Go.Proofs.YtenejaghgehnoaaGreatDoor
open Go.RowKit

/-- Which map of a table: by cases or by transactions; the whole, or one's own. -/
abbrev Lab := Bool × Option (List UInt8)
/-- One side of a table. -/
structure Sd {α : Type} (C : Cde α) (s : Bool) (w : World) (n : Nat) (B : Lab → Option Nat) (f : List UInt8 → List UInt8 → Option α) : Prop where
  out : ∃ b, B (s, none) = some b ∧ Mp codeM w b n (fun x => (B (s, some x)).map some)
  inn : ∀ x b, B (s, some x) = some b → Mp C w b n (f x)
  non : ∀ x, B (s, some x) = none → ∀ y, f x y = none
  any : ∀ x b, B (s, some x) = some b → ∃ y, f x y ≠ none
/-- A table in block T, whose maps are in the blocks B: f by cases, g by transactions. -/
structure Tw (w : World) (T n : Nat) (B : Lab → Option Nat) (f : Lk) (g : List UInt8 → List UInt8 → Option Unit) : Prop where
  self : ∃ H D, B (false, none) = some H ∧ B (true, none) = some D ∧ w.heap[T]? = some (.cells #[.map (some H), .map (some D)] 186 (0, 0))
  left : Sd codeH false w n B f
  right : Sd codeU true w n B g
  apart : ∀ x y b, B x = some b → B y = some b → x = y
/-- Who holds what, by transactions. -/
def flip (h : Lk) : List UInt8 → List UInt8 → Option Unit := fun y c => (h c y).map (fun _ => ())
/-- A table as it stands between calls. -/
def Tb (w : World) (T n : Nat) (B : Lab → Option Nat) (h : Lk) : Prop := Tw w T n B h (flip h)
/-- What a call that turns a table leaves. -/
structure Stp (B : Lab → Option Nat) (w w' : World) (B' : Lab → Option Nat) : Prop where
  kept : Kept (fun k => ∀ x, B x ≠ some k) w w'
  news : ∀ x k, B' x = some k → B x = some k ∨ w.heap.size ≤ k

theorem flip_none {h : Lk} {y c : List UInt8} : flip h y c ≠ none ↔ h c y ≠ none := by
  unfold flip
  cases h c y <;> simp
theorem Stp.refl (B : Lab → Option Nat) (w : World) : Stp B w w B := ⟨Kept.refl _ _, fun _ _ h => .inl h⟩
theorem Stp.trans {B B' B'' : Lab → Option Nat} {w w' w'' : World} (a : Stp B w w' B') (b : Stp B' w' w'' B'') : Stp B w w'' B'' := by
  refine ⟨a.kept.then b.kept fun i hi hp x e => ?_, fun x k e => ?_⟩
  · rcases a.news x i e with h | h
    · exact hp x h
    · omega
  · have := a.kept.size
    rcases b.news x k e with h | h
    · exact a.news x k h
    · exact .inr (by omega)
theorem Stp.of (B : Lab → Option Nat) {w w' : World} (k : Kept (fun _ => True) w w') : Stp B w w' B := ⟨k.mono (fun _ _ _ => trivial), fun _ _ h => .inl h⟩
theorem Stp.then {B B' : Lab → Option Nat} {w w' w'' : World} (a : Stp B w w' B') (k : Kept (fun _ => True) w' w'') : Stp B w w'' B' := a.trans (Stp.of B' k)

section
variable {α : Type} {C : Cde α} {s : Bool} {w w' : World} {n : Nat} {B : Lab → Option Nat} {f : List UInt8 → List UInt8 → Option α}
theorem Sd.lt (h : Sd C s w n B f) {x : Option (List UInt8)} {b : Nat} (hb : B (s, x) = some b) : b < w.heap.size := by
  cases x with
  | none =>
    obtain ⟨b', e, m⟩ := h.out
    rw [hb] at e
    cases e
    exact m.lt
  | some x => exact (h.inn x b hb).lt
theorem Sd.inner (h : Sd C s w n B f) (x : List UInt8) : Mo C w (B (s, some x)) n (f x) := by
  cases e : B (s, some x) with
  | none => exact .inl ⟨rfl, h.non x e⟩
  | some b => exact .inr ⟨b, rfl, h.inn x b e⟩
theorem Sd.kept {p : Nat → Prop} (h : Sd C s w n B f) (k : Kept p w w') (hp : ∀ x b, B (s, x) = some b → p b) : Sd C s w' n B f := by
  obtain ⟨b, e, m⟩ := h.out
  exact ⟨⟨b, e, m.kept k (hp _ b e)⟩, fun x b e => (h.inn x b e).kept k (hp _ b e), h.non, h.any⟩
theorem Sd.mono {m : Nat} (h : Sd C s w n B f) (hm : n ≤ m) : Sd C s w m B f := by
  obtain ⟨b, e, q⟩ := h.out
  exact ⟨⟨b, e, q.mono hm⟩, fun x b e => (h.inn x b e).mono hm, h.non, h.any⟩
theorem Sd.whole (h : Sd C s w n B f) {b : Nat} (hb : B (s, none) = some b) : Mp codeM w b n (fun x => (B (s, some x)).map some) := by
  obtain ⟨b', e, m⟩ := h.out
  rw [hb] at e
  cases e
  exact m
/-- m[x], the map of a side -/
theorem Sd.look1 (h : Sd C s w n B f) {b : Nat} (hb : B (s, none) = some b) {t e : TypeId} (ht : Tryz.prog.underlying t = some (.map 9 e)) (hz : (zeroValue e).run Tryz.prog w = .ok (.map none) w) {x : List UInt8} (hx : x.length ≤ 9223372036854775807) :
    (Instr.lookup t (.map (some b)) (.string ⟨x.toArray⟩) false).run Tryz.prog w = .ok (.map (B (s, some x))) w := by
  have := (h.whole hb).look1 ht (z := none) hz hx
  have e : ((B (s, some x)).map some).getD none = B (s, some x) := by cases B (s, some x) <;> rfl
  rw [e] at this
  exact this
theorem Sd.look (h : Sd C s w n B f) {b : Nat} (hb : B (s, none) = some b) {t e : TypeId} (ht : Tryz.prog.underlying t = some (.map 9 e)) (hz : (zeroValue e).run Tryz.prog w = .ok (.map none) w) {x : List UInt8} (hx : x.length ≤ 9223372036854775807) :
    (Instr.lookup t (.map (some b)) (.string ⟨x.toArray⟩) true).run Tryz.prog w = .ok (.tuple #[.map (B (s, some x)), .bool (B (s, some x)).isSome]) w := by
  have := (h.whole hb).look ht (z := none) hz hx
  have e : ((B (s, some x)).map some).getD none = B (s, some x) := by cases B (s, some x) <;> rfl
  rw [e, Option.isSome_map] at this
  exact this
theorem Sd.has (h : Sd C s w n B f) (x : List UInt8) : B (s, some x) ≠ none ↔ ∃ y, f x y ≠ none := by
  constructor
  · intro e
    obtain ⟨b, hb⟩ := Option.ne_none_iff_exists'.1 e
    exact h.any x b hb
  · rintro ⟨y, hy⟩ e
    exact hy (h.non x e y)
end

theorem zeroMapH (w : World) : (zeroValue 247).run Tryz.prog w = .ok (.map none) w := by kernel_rfl
theorem zeroMapU (w : World) : (zeroValue 196).run Tryz.prog w = .ok (.map none) w := by kernel_rfl
theorem zeroHold (w : World) : (zeroValue 276).run Tryz.prog w = .ok (.agg #[.bool false]) w := by kernel_rfl
theorem tcell {w : World} {b : Nat} {x y : Value} {t : TypeId} (h : w.heap[b]? = some (.cells #[x, y] t (0, 0))) : w.cell? ⟨b, 0, none⟩ = some x ∧ w.cell? ⟨b, 1, none⟩ = some y := by
  exact ⟨by simp [World.cell?, h], by simp [World.cell?, h]⟩

section
variable {w w' : World} {T n : Nat} {B : Lab → Option Nat} {f h : Lk} {g : List UInt8 → List UInt8 → Option Unit}
theorem Tw.tlt (t : Tw w T n B f g) : T < w.heap.size := by
  obtain ⟨H, D, _, _, hs⟩ := t.self
  exact lt_of_block hs
theorem Tw.lt (t : Tw w T n B f g) {x : Lab} {b : Nat} (hb : B x = some b) : b < w.heap.size := by
  obtain ⟨s, x⟩ := x
  cases s
  · exact t.left.lt hb
  · exact t.right.lt hb
theorem Tw.isMap (t : Tw w T n B f g) {x : Lab} {b : Nat} (hb : B x = some b) : ∃ es clock, w.heap[b]? = some (.map es clock) := by
  obtain ⟨s, x⟩ := x
  cases s
  · cases x with
    | none => exact (t.left.whole hb).isMap
    | some x => exact (t.left.inn x b hb).isMap
  · cases x with
    | none => exact (t.right.whole hb).isMap
    | some x => exact (t.right.inn x b hb).isMap
/-- What is no map is none of the table's. -/
theorem Tw.notMine (t : Tw w T n B f g) {k : Nat} {cs : Array Value} {ty : TypeId} {fr : Nat × Nat} (hk : w.heap[k]? = some (.cells cs ty fr)) (x : Lab) : B x ≠ some k := by
  intro e
  obtain ⟨es, clock, he⟩ := t.isMap e
  rw [hk] at he
  simp at he
theorem Tw.self_ne (t : Tw w T n B f g) (x : Lab) : B x ≠ some T := by
  obtain ⟨H, D, _, _, hs⟩ := t.self
  exact t.notMine hs x
theorem Tw.kept {p : Nat → Prop} (t : Tw w T n B f g) (k : Kept p w w') (hT : p T) (hp : ∀ x b, B x = some b → p b) : Tw w' T n B f g := by
  have hl := t.tlt
  obtain ⟨H, D, hH, hD, hs⟩ := t.self
  exact ⟨⟨H, D, hH, hD, (k.block T hl hT).trans hs⟩, t.left.kept k (fun x b e => hp _ b e), t.right.kept k (fun x b e => hp _ b e), t.apart⟩
theorem Tw.all (t : Tw w T n B f g) (k : Kept (fun _ => True) w w') : Tw w' T n B f g := t.kept k trivial (fun _ _ _ => trivial)
theorem Tw.mono {m : Nat} (t : Tw w T n B f g) (hm : n ≤ m) : Tw w T m B f g := ⟨t.self, t.left.mono hm, t.right.mono hm, t.apart⟩
theorem Tb.all (t : Tb w T n B h) (k : Kept (fun _ => True) w w') : Tb w' T n B h := Tw.all t k
theorem Tb.short (t : Tb w T n B h) {c y : List UInt8} (hn : h c y ≠ none) : c.length ≤ maxLen ∧ y.length ≤ maxLen := by
  refine ⟨?_, ?_⟩
  · obtain ⟨H, hH, m⟩ := t.left.out
    refine m.short (x := c) ?_
    have := (t.left.has c).2 ⟨y, hn⟩
    cases e : B (false, some c) with
    | none => exact absurd e this
    | some b => simp
  · obtain ⟨D, hD, m⟩ := t.right.out
    refine m.short (x := y) ?_
    have := (t.right.has y).2 ⟨c, flip_none.2 hn⟩
    cases e : B (true, some y) with
    | none => exact absurd e this
    | some b => simp
end

set_option maxHeartbeats 400000 in
theorem lnew_any {w : World} : Calls Tryz.prog 64 #[] w fun e w' => ∃ T B, e = .returned (.pointer (some ⟨T, 0, none⟩)) ∧ Tb w' T 0 B (fun _ _ => none) ∧ w.heap.size ≤ T ∧ (∀ x k, B x = some k → w.heap.size ≤ k) ∧ Kept (fun _ => True) w w' := by
  have hmm := @run_makeMap Tryz.prog
  have HH : Hid (Mp codeM (w.alloc (.map #[] 0)) w.heap.size 0 (fun _ => none)) := Mp.made codeM w
  have HD : Hid (Mp codeM ((w.alloc (.map #[] 0)).alloc (.map #[] 0)) (w.alloc (.map #[] 0)).heap.size 0 (fun _ => none)) := Mp.made codeM _
  go_enter Tryz.func64, Tryz.ntmps64
  go_wp2_with fail
  go_ret
  have hsz : (w.alloc (.map #[] 0)).heap.size = w.heap.size + 1 := by simp
  have hH := HH.out
  have hD := HD.out
  have hT := heap_alloc_new ((w.alloc (.map #[] 0)).alloc (.map #[] 0)) (.cells #[.map (some w.heap.size), .map (some (w.heap.size + 1))] 186)
  rw [show ((w.alloc (.map #[] 0)).alloc (.map #[] 0)).heap.size = w.heap.size + 1 + 1 by simp] at hT
  have k1 : ∀ (W : World) (o : Obj), Kept (fun _ => True) W (W.alloc o) := fun W o => (Kept.refl _ _).alloc o
  refine ⟨_, fun x => match x with | (false, none) => some w.heap.size | (true, none) => some (w.heap.size + 1) | _ => none, rfl, ⟨⟨_, _, rfl, rfl, hT⟩, ⟨⟨_, rfl, ?_⟩, ?_, ?_, ?_⟩, ⟨⟨_, rfl, ?_⟩, ?_, ?_, ?_⟩, ?_⟩, ?_, ?_, ((k1 w _).trans (k1 _ _)).trans (k1 _ _)⟩
  · exact (hH.kept (k1 _ _) trivial).kept (k1 _ _) trivial
  · exact fun x b e => by cases e
  · exact fun x _ y => rfl
  · exact fun x b e => by cases e
  · rw [hsz] at hD
    exact hD.kept (k1 _ _) trivial
  · exact fun x b e => by cases e
  · exact fun x _ y => rfl
  · exact fun x b e => by cases e
  · rintro ⟨_ | _, _ | x⟩ ⟨_ | _, _ | y⟩ b h1 h2 <;> simp at h1 h2 <;> first | rfl | omega
  · omega
  · rintro ⟨_ | _, _ | x⟩ k h1 <;> simp at h1 <;> omega

end Go.Proofs.YtenejaghgehnoaaGreatDoor

namespace Go.Proofs.YtenejaghgehnoaaGreatDoor
open Go.RowKit Go.Maps

set_option maxHeartbeats 1000000 in
theorem others_any {w : World} {T n : Nat} {B : Lab → Option Nat} {h : Lk} (t : Tb w T n B h) {x c : List UInt8} (hx : x.length ≤ 9223372036854775807) (hc : c.length ≤ 9223372036854775807) (hn : n ≤ 1000000) :
    Calls Tryz.prog 204 #[.pointer (some ⟨T, 0, none⟩), .string ⟨x.toArray⟩, .string ⟨c.toArray⟩] w fun e w' => ∃ m : Int, e = .returned (.int .i64 m) ∧ (0 < m ↔ ∃ y, y ≠ x ∧ h c y ≠ none) ∧ Kept (fun _ => True) w w' := by
  obtain ⟨H, D, hH, hD, hs⟩ := t.self
  obtain ⟨c0, c1⟩ := tcell hs
  have hl := t.left.look1 hH Tryz.underlying183 (zeroMapH w) hc
  have hi := t.left.inner c
  have hl2 := hi.look Tryz.underlying247 (z := false) (zeroHold w) hx
  have ka : ∀ v, Kept (fun _ => True) w (w.alloc (.cells #[.bool v] 276)) := fun v => (Kept.refl _ _).alloc _
  obtain ⟨k, hk, hkn, hlen⟩ := hi.len Tryz.underlying247
  have hlen2 : ∀ v ty, (Builtin.len_ #[247] ty #[.map (B (false, some c))]).run Tryz.prog (w.alloc (.cells #[.bool v] 276)) = .ok (.int .i64 (k : Nat)) (w.alloc (.cells #[.bool v] 276)) := by
    intro v ty
    obtain ⟨k', hk', _, hlen'⟩ := (hi.kept (ka v) (fun _ _ => trivial)).len Tryz.underlying247
    have : k' = k := by
      obtain ⟨ks, d1, l1, m1⟩ := hk
      obtain ⟨ks', d2, l2, m2⟩ := hk'
      have := (List.perm_ext_iff_of_nodup d1 d2).2 (fun z => by rw [m1 z, m2 z])
      rw [← l1, ← l2, this.length_eq]
    rw [← this]
    exact hlen' ty
  have HK : Hid (Count (h c) k) := hk
  change (Instr.lookup _ _ _ true).run _ _ = .ok (.tuple #[.agg #[.bool ((h c x).getD false)], .bool (h c x).isSome]) w at hl2
  clear t hs hlen hi hk
  cases hh : h c x with
  | none =>
    have HN : Hid (h c x = none) := hh
    rw [hh] at hl2
    change (Instr.lookup _ _ _ true).run _ _ = .ok (.tuple #[.agg #[.bool false], .bool false]) w at hl2
    clear hh
    go_enter Tryz.func204, Tryz.ntmps204
    go_wp2_with fail
    go_ret
    refine ⟨_, rfl, ?_, ka _⟩
    constructor
    · intro hp
      refine Classical.byContradiction fun hne => ?_
      have h0 := HK.out.zero.2 (fun y => Classical.byContradiction fun hy => hne ⟨y, fun e => hy (by rw [e]; exact HN.out), hy⟩)
      omega
    · rintro ⟨y, _, hy⟩
      have := HK.out.pos hy
      omega
  | some v =>
    have HN : Hid (h c x ≠ none) := by show _ ≠ _; rw [hh]; simp
    rw [hh] at hl2
    change (Instr.lookup _ _ _ true).run _ _ = .ok (.tuple #[.agg #[.bool v], .bool true]) w at hl2
    clear hh
    have hk1 := HK.out.pos HN.out
    go_enter Tryz.func204, Tryz.ntmps204
    go_wp2_with fail
    go_ret
    refine ⟨_, rfl, ?_, ka _⟩
    constructor
    · intro hp
      refine Classical.byContradiction fun hne => ?_
      have h0 := HK.out.few (x := x) (fun y hy => Classical.byContradiction fun e => hne ⟨y, e, hy⟩)
      omega
    · rintro ⟨y, hy1, hy⟩
      have := HK.out.two HN.out hy hy1
      omega

theorem textKey_inv {v : Value} {kl : Lit} (h : keyOf Tryz.prog 9 v = some kl) : ∃ x : List UInt8, v = .string ⟨x.toArray⟩ ∧ kl = .string x ∧ x.length ≤ maxLen := by
  obtain ⟨x, rfl, rfl, hs⟩ := Maps.keyOf_str Tryz.underlying9 h
  exact ⟨x, rfl, rfl, hs⟩
/-- How a case is held. -/
structure Hw where
  v : Bool
theorem sameText (y x : List UInt8) : (Lit.string y).sameKey (.string x) = decide (y = x) := by
  rw [Bool.eq_iff_iff, WideAt.sameKey_iff (by trivial)]
  simp
theorem ranges_kept {R : Value → Option (DataW Unit × List MemPlace)} {p : Nat → Prop} {w w' : World} {M r n cnt : Nat} {D : DataW Unit} {left : Lit → Bool} (h : w.ranges Tryz.prog 9 R M r n D left cnt) (k : Kept p w w') (hM : p M) (hr : p r) : w'.ranges Tryz.prog 9 R M r n D left cnt := by
  have h1 := h.owns.lt
  have h2 := h.lt
  obtain ⟨es, clock, since, seen, c0, hb, F, hs, hD, hr', rest⟩ := h
  exact ⟨es, clock, since, seen, c0, (k.block M h1 hM).trans hb, F, hs, hD, (k.block r h2 hr).trans hr', rest⟩

set_option maxRecDepth 100000 in
set_option maxHeartbeats 1000000 in
theorem writer_any {w : World} {T n : Nat} {B : Lab → Option Nat} {h : Lk} (t : Tb w T n B h) (ha : Alone h) {c : List UInt8} (hc : c.length ≤ 9223372036854775807) (_ : n ≤ 1000000) :
    Calls Tryz.prog 205 #[.pointer (some ⟨T, 0, none⟩), .string ⟨c.toArray⟩] w fun e w' => ∃ (v : List UInt8) (ok : Bool), e = .returned (.tuple #[.string ⟨v.toArray⟩, .bool ok]) ∧ Writes h c v ok ∧ Kept (fun _ => True) w w' := by
  obtain ⟨H, D, hH, hD, hs⟩ := t.self
  obtain ⟨c0, c1⟩ := tcell hs
  have hl := t.left.look1 hH Tryz.underlying183 (zeroMapH w) hc
  have hi := t.left.inner c
  obtain ⟨k, hk, hkn, hlen⟩ := hi.len Tryz.underlying247
  have HK : Hid (Count (h c) k) := hk
  by_cases h1 : k = 1
  · subst h1
    obtain ⟨b, hb, hm⟩ : ∃ b, B (false, some c) = some b ∧ Mp codeH w b n (h c) := by
      rcases hi with ⟨_, h0⟩ | ⟨b, e, m⟩
      · have := hk.zero.2 h0
        omega
      · exact ⟨b, e, m⟩
    rw [hb] at hl hlen
    obtain ⟨D0, ho, hh⟩ := hm
    have HH : Hid (Holds codeH D0 (h c)) := hh
    clear t hs hi hk hh hb
    go_enter Tryz.func205, Tryz.ntmps205
    go_wp2_with (first | (at_range; refine wpList_range_own _ rfl _ 247 rfl 9 276 text_keyed Tryz.underlying247 _ b n D0 rfl ho ?_; intro w0 hrg0 hg0 hs0) | go_in)
    go_frame
    have hr0 : w.heap.size ≤ w.heap.size := Nat.le_refl _
    generalize hr : w.heap.size = r at hrg0 hr0 ⊢
    go_loopw [7, 8] (fun _ _ wr => ∃ left cnt, wr.ranges Tryz.prog 9 holdR b r n D0 left cnt ∧ (∀ y, h c y = some true → left (.string y) = true) ∧ Kept (fun _ => True) w wr) (fun _ _ wr => wr.rangeLeft b r)
    case atStart => exact ⟨_, _, hrg0, fun y hy => Maps.has_true_of_atKey (HH.out.yes y true hy), (Kept.refl _ _).grown hg0 (fun _ _ e => by cases e)⟩
    case round =>
      obtain ⟨left, cnt, hrg, hL, hkw⟩ := hrel
      have HL : Hid (∀ y, h c y = some true → left (.string y) = true) := hL
      have HW : Hid (Kept (fun _ => True) w wr) := hkw
      clear hL hkw
      go_wp2_with (first | (at_next; refine wpList_next_ranges _ rfl _ rfl 9 text_keyed holdR (fun x : List UInt8 => .string ⟨x.toArray⟩) (fun u : Hw => .agg #[.bool u.v]) (fun key kl hkey => by obtain ⟨x, rfl, _⟩ := textKey_inv hkey; exact ⟨x, rfl⟩) (fun v y hv => by obtain ⟨x, rfl, _⟩ := holdR_inv v y hv; exact ⟨⟨x⟩, rfl⟩) b r n D0 left cnt rfl hrg ?_ ?_) | go_in)
      · intro _ hl0
        go_wp2_with fail
        go_ret2
        refine ⟨[], false, rfl, .inr ⟨rfl, rfl, fun y hy => ?_⟩, HW.out⟩
        have := HL.out y hy
        rw [hl0] at this
        cases this
      · rintro x u kl yd yp w1 cnt1 hkey hlx hv hat hrg1 hlt hg1 hs1 hen
        obtain ⟨v⟩ := u
        obtain ⟨x', ex, rfl, hxl⟩ := textKey_inv hkey
        obtain rfl : x = x' := by simpa using ex
        dsimp only at hen hv ⊢
        obtain ⟨v', ev, ez⟩ := holdR_inv _ _ hv
        cases ez
        obtain rfl : v = v' := by simpa using ev
        have hkw1 : Kept (fun _ => True) w w1 := HW.out.grown hg1 (fun i hi e => by cases e; omega)
        have HX : Hid (h c x = some v) := by
          show _ = _
          cases hf : h c x with
          | none =>
            have := Maps.has_true_of_atKey hat
            rw [HH.out.no x hf] at this
            cases this
          | some u =>
            have := (HH.out.yes x u hf (.agg [])).symm.trans (hat (.agg []))
            rw [codeH.inj u v this]
        have HM : Hid (w1.rangeLeft b r = cnt1 ∧ wr.rangeLeft b r = cnt) := ⟨hrg1.left_eq, hrg.left_eq⟩
        have k2 : Kept (fun _ => True) w1 (w1.alloc (.cells #[.bool v] 276)) := (Kept.refl _ _).alloc _
        clear hv hat ex ev hlx
        cases v with
        | true =>
          go_wp2_with fail
          go_ret2
          exact ⟨x, true, rfl, .inl ⟨rfl, HX.out⟩, hkw1.trans k2⟩
        | false =>
          have hrg2 := ranges_kept hrg1 k2 trivial trivial
          go_wp2_with fail
          go_roundw
          case rel =>
            refine ⟨_, _, hrg2, fun y hy => ?_, hkw1.trans k2⟩
            have hne : y ≠ x := by
              rintro rfl
              have := HX.out
              rw [hy] at this
              cases this
            rw [HL.out y hy, sameText, decide_eq_false hne]
            rfl
          case measure =>
            rw [hrg2.left_eq, HM.out.2]
            exact hlt
  · have h1' : ((k : Int) != 1) = true := by simp; omega
    have HN : Hid (∀ y, h c y ≠ some true) := by
      intro y hy
      have e1 := hk.few (x := y) (fun z hz => ha c y z hy hz)
      have e2 := hk.pos (x := y) (by rw [hy]; simp)
      omega
    clear t hs hi hk
    go_enter Tryz.func205, Tryz.ntmps205
    go_wp2_with fail
    go_ret2
    exact ⟨[], false, rfl, .inr ⟨rfl, rfl, HN.out⟩, Kept.refl _ _⟩

set_option maxHeartbeats 1000000 in
theorem busy_any {w : World} {T n : Nat} {B : Lab → Option Nat} {h : Lk} (t : Tb w T n B h) (ha : Alone h) {x c : List UInt8} (hx : x.length ≤ 9223372036854775807) (hc : c.length ≤ 9223372036854775807) (wr : Bool) (hn : n ≤ 1000000) :
    Calls Tryz.prog 176 #[.pointer (some ⟨T, 0, none⟩), .string ⟨x.toArray⟩, .agg #[.string ⟨c.toArray⟩, .bool wr]] w fun e w' => ∃ q : Bool, e = .returned (.bool q) ∧ (q = true ↔ Ill h x c wr) ∧ Kept (fun _ => True) w w' := by
  have k0 : Kept (fun _ => True) w (w.alloc (.cells #[.string ⟨c.toArray⟩, .bool wr] 244)) := (Kept.refl _ _).alloc _
  have HK : Hid (Kept (fun _ => True) w (w.alloc (.cells #[.string ⟨c.toArray⟩, .bool wr] 244))) := k0
  have t1 := t.all k0
  have HA : Hid (Alone h) := ha
  cases wr with
  | true =>
    have co := others_any t1 hx hc hn
    clear t t1 k0 ha
    go_enter Tryz.func176, Tryz.ntmps176
    go_wp2_with fail
    refine Calls.mono co ?_
    rintro e w1 ⟨m, rfl, hm, k1⟩
    clear co
    have HM : Hid (0 < m ↔ ∃ y, y ≠ x ∧ h c y ≠ none) := hm
    have HK1 : Hid (Kept (fun _ => True) w w1) := HK.out.trans k1
    clear hm k1
    go_wp2_with fail
    go_ret
    refine ⟨_, rfl, ?_, HK1.out⟩
    rw [decide_eq_true_iff, HM.out]
    constructor
    · rintro ⟨y, h1, h2⟩
      obtain ⟨v, hv⟩ := Option.ne_none_iff_exists'.1 h2
      exact ⟨y, v, h1, hv, .inr rfl⟩
    · rintro ⟨y, v, h1, h2, _⟩
      exact ⟨y, h1, by rw [h2]; simp⟩
  | false =>
    have co := writer_any t1 ha hc hn
    clear t t1 k0 ha
    go_enter Tryz.func176, Tryz.ntmps176
    go_wp2_with fail
    refine Calls.mono co ?_
    rintro e w1 ⟨v, ok, rfl, hw, k1⟩
    clear co
    have HW : Hid (Writes h c v ok) := hw
    have HK1 : Hid (Kept (fun _ => True) w w1) := HK.out.trans k1
    clear hw k1
    cases ok with
    | true =>
      have HV : Hid (h c v = some true) := by
        rcases HW.out with ⟨_, h1⟩ | ⟨h1, _⟩
        · exact h1
        · cases h1
      by_cases hv : v = x
      · subst hv
        go_wp2_with fail
        go_ret
        refine ⟨_, rfl, ?_, HK1.out⟩
        constructor
        · intro e; simp at e
        · rintro ⟨y, u, h1, h2, h3⟩
          rcases h3 with rfl | h3
          · exact absurd (HA.out c v y HV.out (by rw [h2]; simp)) h1
          · cases h3
      · have hv' : (v == x) = false := beq_eq_false_iff_ne.2 hv
        have HVX : Hid (v ≠ x) := hv
        clear hv
        go_wp2_with fail
        go_ret
        exact ⟨_, rfl, ⟨fun _ => ⟨v, true, HVX.out, HV.out, .inl rfl⟩, fun _ => rfl⟩, HK1.out⟩
    | false =>
      have HV : Hid (∀ y, h c y ≠ some true) := by
        rcases HW.out with ⟨h1, _⟩ | ⟨_, _, h1⟩
        · cases h1
        · exact h1
      go_wp2_with fail
      go_ret
      refine ⟨_, rfl, ?_, HK1.out⟩
      constructor
      · intro e; simp at e
      · rintro ⟨y, u, h1, h2, h3⟩
        rcases h3 with rfl | h3
        · exact absurd h2 (HV.out y)
        · cases h3

end Go.Proofs.YtenejaghgehnoaaGreatDoor

namespace Go.Proofs.YtenejaghgehnoaaGreatDoor
open Go.RowKit Go.Maps

/-- f with v at a, b. -/
def updF {α : Type} (f : List UInt8 → List UInt8 → Option α) (a b : List UInt8) (v : α) : List UInt8 → List UInt8 → Option α := fun x y => if x = a ∧ y = b then some v else f x y
/-- What a put into one side leaves. -/
structure Puts (s : Bool) (B : Lab → Option Nat) (w w' : World) (B' : Lab → Option Nat) : Prop where
  kept : Kept (fun k => ∀ x, B (s, x) ≠ some k) w w'
  other : ∀ x : Lab, x.1 ≠ s → B' x = B x
  top : B' (s, none) = B (s, none)
  apart : ∀ x y b, B' (s, x) = some b → B' (s, y) = some b → x = y
  news : ∀ x b, B' (s, x) = some b → B (s, x) = some b ∨ w.heap.size ≤ b

section
variable {α : Type} {C : Cde α} {s : Bool} {w w' : World} {n : Nat} {B : Lab → Option Nat} {f : List UInt8 → List UInt8 → Option α} {a b : List UInt8} {v : α}
theorem updF_row : updF f a b v a = putM (f a) b v := by
  funext y
  simp [updF, putM]
theorem updF_other {x : List UInt8} (hx : x ≠ a) : updF f a b v x = f x := by
  funext y
  simp [updF, hx]
theorem Sd.put_old (S : Sd C s w n B f) (hA : ∀ x y b, B (s, x) = some b → B (s, y) = some b → x = y) {k : Nat} (hk : B (s, some a) = some k) (m : Mp C w' k (n + 1) (putM (f a) b v)) (kp : Kept (· ≠ k) w w') :
    Sd C s w' (n + 1) B (updF f a b v) ∧ Puts s B w w' B := by
  obtain ⟨H, hH, mo⟩ := S.out
  have hne : ∀ x q, B (s, x) = some q → x ≠ some a → q ≠ k := fun x q hq hx e => hx (hA x (some a) k (e ▸ hq) hk)
  refine ⟨⟨⟨H, hH, (mo.kept kp (hne none H hH (by simp))).mono (by omega)⟩, fun x q hq => ?_, fun x hx y => ?_, fun x q hq => ?_⟩, kp.mono (fun i _ hi e => hi (some a) (e ▸ hk)), fun _ _ => rfl, rfl, hA, fun _ _ e => .inl e⟩
  · by_cases hx : x = a
    · subst hx
      rw [hk] at hq
      cases hq
      rw [updF_row]
      exact m
    · rw [updF_other hx]
      exact ((S.inn x q hq).kept kp (hne _ q hq (by simpa using hx))).mono (by omega)
  · have hxa : x ≠ a := by rintro rfl; rw [hk] at hx; cases hx
    rw [updF_other hxa]
    exact S.non x hx y
  · by_cases hx : x = a
    · subst hx
      exact ⟨b, by simp [updF]⟩
    · rw [updF_other hx]
      exact S.any x q hq
/-- B with q at a place. -/
def upB (B : Lab → Option Nat) (x : Lab) (q : Option Nat) : Lab → Option Nat := fun y => if y = x then q else B y
theorem upB_same (B : Lab → Option Nat) (x : Lab) (q : Option Nat) : upB B x q x = q := by simp [upB]
theorem upB_other (B : Lab → Option Nat) {x y : Lab} (q : Option Nat) (h : y ≠ x) : upB B x q y = B y := by simp [upB, h]
theorem Sd.put_new (S : Sd C s w n B f) (hA : ∀ x y b, B (s, x) = some b → B (s, y) = some b → x = y) (hk : B (s, some a) = none) {H q : Nat} (hH : B (s, none) = some H) (hq : w.heap.size ≤ q) (mo : Mp codeM w' H (n + 1) (putM (fun x => (B (s, some x)).map some) a (some q))) (mi : Mp C w' q (n + 1) (putM (fun _ => none) b v)) (kp : Kept (fun k => k ≠ H ∧ k ≠ q) w w') :
    Sd C s w' (n + 1) (upB B (s, some a) (some q)) (updF f a b v) ∧ Puts s B w w' (upB B (s, some a) (some q)) := by
  have hlt : ∀ x k, B (s, x) = some k → k < w.heap.size := fun x k e => S.lt e
  have hn0 : (s, none) ≠ ((s, some a) : Lab) := by simp
  have hf : f a = fun _ => none := funext (S.non a hk)
  refine ⟨⟨⟨H, by rw [upB_other _ _ hn0]; exact hH, ?_⟩, fun x k e => ?_, fun x e y => ?_, fun x k e => ?_⟩, kp.mono (fun i hi h => ⟨fun e => h none (e ▸ hH), fun e => by omega⟩), fun x hx => upB_other _ _ (fun e => hx (by rw [e])), upB_other _ _ hn0, fun x y k h1 h2 => ?_, fun x k e => ?_⟩
  · refine mo.congr fun x => ?_
    by_cases hx : x = a
    · subst hx
      rw [upB_same]
      simp [putM]
    · rw [upB_other _ _ (by simpa using hx)]
      simp [putM, hx]
  · by_cases hx : x = a
    · subst hx
      rw [upB_same] at e
      cases e
      rw [updF_row, hf]
      exact mi
    · rw [upB_other _ _ (by simpa using hx)] at e
      rw [updF_other hx]
      have h1 := hlt _ k e
      exact ((S.inn x k e).kept kp ⟨fun h => by have := hA (some x) none k e (h ▸ hH); simp at this, by omega⟩).mono (by omega)
  · by_cases hx : x = a
    · subst hx
      rw [upB_same] at e
      cases e
    · rw [upB_other _ _ (by simpa using hx)] at e
      rw [updF_other hx]
      exact S.non x e y
  · by_cases hx : x = a
    · subst hx
      exact ⟨b, by simp [updF]⟩
    · rw [upB_other _ _ (by simpa using hx)] at e
      rw [updF_other hx]
      exact S.any x k e
  · by_cases hx : x = some a
    · by_cases hy : y = some a
      · rw [hx, hy]
      · subst hx
        rw [upB_same] at h1
        cases h1
        rw [upB_other _ _ (by simpa using hy)] at h2
        have := hlt _ _ h2
        omega
    · rw [upB_other _ _ (by simpa using hx)] at h1
      by_cases hy : y = some a
      · subst hy
        rw [upB_same] at h2
        cases h2
        have := hlt _ _ h1
        omega
      · rw [upB_other _ _ (by simpa using hy)] at h2
        exact hA x y k h1 h2
  · by_cases hx : x = some a
    · subst hx
      rw [upB_same] at e
      cases e
      exact .inr hq
    · rw [upB_other _ _ (by simpa using hx)] at e
      exact .inl e
end

/-- Ahead of a put something was made. -/
theorem Puts.late {s : Bool} {B B' : Lab → Option Nat} {w w1 w' : World} (k : Kept (fun _ => True) w w1) (p : Puts s B w1 w' B') : Puts s B w w' B' :=
  ⟨(k.mono (fun _ _ _ => trivial)).trans p.kept, p.other, p.top, p.apart, fun x b e => by
    have := k.size
    rcases p.news x b e with h | h
    · exact .inl h
    · exact .inr (by omega)⟩

set_option maxRecDepth 100000 in
set_option maxHeartbeats 1000000 in
theorem put_hold {w : World} {n H : Nat} {B : Lab → Option Nat} {f : List UInt8 → List UInt8 → Option Bool} (S : Sd codeH false w n B f) (hA : ∀ x y b, B (false, x) = some b → B (false, y) = some b → x = y) (hH : B (false, none) = some H) {a b : List UInt8} (ha : a.length ≤ 9223372036854775807) (hb : b.length ≤ 9223372036854775807) (v : Bool) (hn : n ≤ 1000000) :
    Calls Tryz.prog 206 #[.map (some H), .string ⟨a.toArray⟩, .string ⟨b.toArray⟩, .agg #[.bool v]] w fun e w' => e = .returned (.tuple #[]) ∧ ∃ B', Sd codeH false w' (n + 1) B' (updF f a b v) ∧ Puts false B w w' B' := by
  have qm : ∀ (w : World) (r : Option Nat), (binOp .eql 247 (.map r) (.map none)).run Tryz.prog w = .ok (.bool r.isNone) w := fun w r => run_eql_map_nil w _ _ _ r Tryz.underlying247
  have k0 : Kept (fun _ => True) w (w.alloc (.cells #[.bool v] 276)) := (Kept.refl _ _).alloc _
  have HK0 : Hid (Kept (fun _ => True) w (w.alloc (.cells #[.bool v] 276))) := k0
  have S0 := S.kept k0 (fun _ _ _ => trivial)
  have hbx := heap_alloc_new w (.cells #[.bool v] 276)
  have hwl' : Hid ((w.alloc (.cells #[.bool v] 276)).heap.size = w.heap.size + 1) := by show _ = _; simp
  clear S
  have hl := S0.look1 hH Tryz.underlying183 (zeroMapH _) ha
  have HS : Hid (Sd codeH false (w.alloc (.cells #[.bool v] 276)) n B f) := S0
  have HA : Hid (∀ x y b, B (false, x) = some b → B (false, y) = some b → x = y) := hA
  clear hA k0
  cases hk : B (false, some a) with
  | some k =>
    have HB : Hid (B (false, some a) = some k) := hk
    rw [hk] at hl
    obtain ⟨w1, hst, m1, k1, z1⟩ := (S0.inn a k hk).store Tryz.underlying247 hb hn v
    have hst' : (Instr.mapUpdate 247 (.map (some k)) (.string ⟨b.toArray⟩) (.agg #[.bool v])).run Tryz.prog (w.alloc (.cells #[.bool v] 276)) = .ok () w1 := hst
    have HM : Hid (Mp codeH w1 k (n + 1) (putM (f a) b v)) := m1
    have HK1 : Hid (Kept (· ≠ k) (w.alloc (.cells #[.bool v] 276)) w1) := k1
    clear hst m1 k1 hk S0 hbx
    go_enter Tryz.func206, Tryz.ntmps206
    go_wp2_with fail
    go_end0
    obtain ⟨r1, r2⟩ := HS.out.put_old HA.out HB.out HM.out HK1.out
    exact ⟨rfl, B, r1, r2.late HK0.out⟩
  | none =>
    have HB : Hid (B (false, some a) = none) := hk
    rw [hk] at hl
    have hmm := @run_makeMap Tryz.prog
    have k1 : Kept (fun _ => True) (w.alloc (.cells #[.bool v] 276)) ((w.alloc (.cells #[.bool v] 276)).alloc (.map #[] 0)) := (Kept.refl _ _).alloc _
    have mi := Mp.made codeH (w.alloc (.cells #[.bool v] 276))
    rw [hwl'.out] at mi
    have S1 := S0.kept k1 (fun _ _ _ => trivial)
    obtain ⟨w2, hst, m2, k2, z2⟩ := (S1.whole hH).store Tryz.underlying183 ha hn (some (w.heap.size + 1))
    have hst' : (Instr.mapUpdate 183 (.map (some H)) (.string ⟨a.toArray⟩) (.map (some (w.heap.size + 1)))).run Tryz.prog ((w.alloc (.cells #[.bool v] 276)).alloc (.map #[] 0)) = .ok () w2 := hst
    have hHlt : H < w.heap.size + 1 := by have := S0.lt hH; have := hwl'.out; omega
    have mi2 := mi.kept k2 (fun e => by omega)
    have hl2 := m2.look1 Tryz.underlying183 (z := none) (zeroMapH w2) ha
    have el : (putM (fun x => (B (false, some x)).map some) a (some (w.heap.size + 1)) a).getD none = some (w.heap.size + 1) := by simp [putM]
    rw [el] at hl2
    change (Instr.lookup _ _ _ false).run _ _ = .ok (.map (some (w.heap.size + 1))) w2 at hl2
    have hne : w.heap.size ≠ H := by
      intro e
      obtain ⟨es, clock, hm⟩ := (S0.whole hH).isMap
      rw [e] at hbx
      rw [hm] at hbx
      simp at hbx
    have hbx2 : w2.heap[w.heap.size]? = some (.cells #[.bool v] 276) := (k2.block w.heap.size (by simp; omega) hne).trans ((k1.block w.heap.size (by simp) trivial).trans hbx)
    obtain ⟨w3, hst3, m3, k3, z3⟩ := mi2.store Tryz.underlying247 hb (by omega) v
    have hst3' : (Instr.mapUpdate 247 (.map (some (w.heap.size + 1))) (.string ⟨b.toArray⟩) (.agg #[.bool v])).run Tryz.prog w2 = .ok () w3 := hst3
    have HM : Hid (Mp codeM w3 H (n + 1) (putM (fun x => (B (false, some x)).map some) a (some (w.heap.size + 1)))) := m2.kept k3 (fun e => by omega)
    have HI : Hid (Mp codeH w3 (w.heap.size + 1) (n + 1) (putM (fun _ => none) b v)) := m3.mono (by omega)
    have HKK : Hid (Kept (fun k => k ≠ H ∧ k ≠ w.heap.size + 1) (w.alloc (.cells #[.bool v] 276)) w3) := ((k1.mono (fun _ _ _ => trivial)).trans (k2.mono (fun _ _ h => h.1))).trans (k3.mono (fun _ _ h => h.2))
    clear hst hst3 m2 m3 mi mi2 k1 k2 k3 S0 S1 hk el hbx hne
    have hcl : w2.cell? ⟨w.heap.size, 0, none⟩ = some (.bool v) := by simp [World.cell?, hbx2]
    go_enter Tryz.func206, Tryz.ntmps206
    go_wp2_with fail
    go_end0
    obtain ⟨r1, r2⟩ := HS.out.put_new HA.out HB.out hH (by rw [hwl'.out]; exact Nat.le_refl _) HM.out HI.out HKK.out
    exact ⟨rfl, _, r1, r2.late HK0.out⟩

set_option maxRecDepth 100000 in
set_option maxHeartbeats 1000000 in
theorem put_unit {w : World} {n H : Nat} {B : Lab → Option Nat} {f : List UInt8 → List UInt8 → Option Unit} (S : Sd codeU true w n B f) (hA : ∀ x y b, B (true, x) = some b → B (true, y) = some b → x = y) (hH : B (true, none) = some H) {a b : List UInt8} (ha : a.length ≤ 9223372036854775807) (hb : b.length ≤ 9223372036854775807) (hn : n ≤ 1000000) :
    Calls Tryz.prog 207 #[.map (some H), .string ⟨a.toArray⟩, .string ⟨b.toArray⟩, .agg #[]] w fun e w' => e = .returned (.tuple #[]) ∧ ∃ B', Sd codeU true w' (n + 1) B' (updF f a b ()) ∧ Puts true B w w' B' := by
  have qm : ∀ (w : World) (r : Option Nat), (binOp .eql 196 (.map r) (.map none)).run Tryz.prog w = .ok (.bool r.isNone) w := fun w r => run_eql_map_nil w _ _ _ r Tryz.underlying196
  have k0 : Kept (fun _ => True) w (w.alloc (.cells #[] 239)) := (Kept.refl _ _).alloc _
  have HK0 : Hid (Kept (fun _ => True) w (w.alloc (.cells #[] 239))) := k0
  have S0 := S.kept k0 (fun _ _ _ => trivial)
  have hbx := heap_alloc_new w (.cells #[] 239)
  have hwl' : Hid ((w.alloc (.cells #[] 239)).heap.size = w.heap.size + 1) := by show _ = _; simp
  clear S
  have hl := S0.look1 hH Tryz.underlying184 (zeroMapU _) ha
  have HS : Hid (Sd codeU true (w.alloc (.cells #[] 239)) n B f) := S0
  have HA : Hid (∀ x y b, B (true, x) = some b → B (true, y) = some b → x = y) := hA
  clear hA k0
  cases hk : B (true, some a) with
  | some k =>
    have HB : Hid (B (true, some a) = some k) := hk
    rw [hk] at hl
    obtain ⟨w1, hst, m1, k1, z1⟩ := (S0.inn a k hk).store Tryz.underlying196 hb hn ()
    have hst' : (Instr.mapUpdate 196 (.map (some k)) (.string ⟨b.toArray⟩) (.agg #[])).run Tryz.prog (w.alloc (.cells #[] 239)) = .ok () w1 := hst
    have HM : Hid (Mp codeU w1 k (n + 1) (putM (f a) b ())) := m1
    have HK1 : Hid (Kept (· ≠ k) (w.alloc (.cells #[] 239)) w1) := k1
    clear hst m1 k1 hk S0 hbx
    go_enter Tryz.func207, Tryz.ntmps207
    go_wp2_with fail
    go_end0
    obtain ⟨r1, r2⟩ := HS.out.put_old HA.out HB.out HM.out HK1.out
    exact ⟨rfl, B, r1, r2.late HK0.out⟩
  | none =>
    have HB : Hid (B (true, some a) = none) := hk
    rw [hk] at hl
    have hmm := @run_makeMap Tryz.prog
    have k1 : Kept (fun _ => True) (w.alloc (.cells #[] 239)) ((w.alloc (.cells #[] 239)).alloc (.map #[] 0)) := (Kept.refl _ _).alloc _
    have mi := Mp.made codeU (w.alloc (.cells #[] 239))
    rw [hwl'.out] at mi
    have S1 := S0.kept k1 (fun _ _ _ => trivial)
    obtain ⟨w2, hst, m2, k2, z2⟩ := (S1.whole hH).store Tryz.underlying184 ha hn (some (w.heap.size + 1))
    have hst' : (Instr.mapUpdate 184 (.map (some H)) (.string ⟨a.toArray⟩) (.map (some (w.heap.size + 1)))).run Tryz.prog ((w.alloc (.cells #[] 239)).alloc (.map #[] 0)) = .ok () w2 := hst
    have hHlt : H < w.heap.size + 1 := by have := S0.lt hH; have := hwl'.out; omega
    have mi2 := mi.kept k2 (fun e => by omega)
    have hl2 := m2.look1 Tryz.underlying184 (z := none) (zeroMapU w2) ha
    have el : (putM (fun x => (B (true, some x)).map some) a (some (w.heap.size + 1)) a).getD none = some (w.heap.size + 1) := by simp [putM]
    rw [el] at hl2
    change (Instr.lookup _ _ _ false).run _ _ = .ok (.map (some (w.heap.size + 1))) w2 at hl2
    have hne : w.heap.size ≠ H := by
      intro e
      obtain ⟨es, clock, hm⟩ := (S0.whole hH).isMap
      rw [e] at hbx
      rw [hm] at hbx
      simp at hbx
    have hbx2 : w2.heap[w.heap.size]? = some (.cells #[] 239) := (k2.block w.heap.size (by simp; omega) hne).trans ((k1.block w.heap.size (by simp) trivial).trans hbx)
    obtain ⟨w3, hst3, m3, k3, z3⟩ := mi2.store Tryz.underlying196 hb (by omega) ()
    have hst3' : (Instr.mapUpdate 196 (.map (some (w.heap.size + 1))) (.string ⟨b.toArray⟩) (.agg #[])).run Tryz.prog w2 = .ok () w3 := hst3
    have HM : Hid (Mp codeM w3 H (n + 1) (putM (fun x => (B (true, some x)).map some) a (some (w.heap.size + 1)))) := m2.kept k3 (fun e => by omega)
    have HI : Hid (Mp codeU w3 (w.heap.size + 1) (n + 1) (putM (fun _ => none) b ())) := m3.mono (by omega)
    have HKK : Hid (Kept (fun k => k ≠ H ∧ k ≠ w.heap.size + 1) (w.alloc (.cells #[] 239)) w3) := ((k1.mono (fun _ _ _ => trivial)).trans (k2.mono (fun _ _ h => h.1))).trans (k3.mono (fun _ _ h => h.2))
    clear hst hst3 m2 m3 mi mi2 k1 k2 k3 S0 S1 hk el hbx hne
    go_enter Tryz.func207, Tryz.ntmps207
    go_wp2_with fail
    go_end0
    obtain ⟨r1, r2⟩ := HS.out.put_new HA.out HB.out hH (by rw [hwl'.out]; exact Nat.le_refl _) HM.out HI.out HKK.out
    exact ⟨rfl, _, r1, r2.late HK0.out⟩

end Go.Proofs.YtenejaghgehnoaaGreatDoor

namespace Go.Proofs.YtenejaghgehnoaaGreatDoor
open Go

section
variable {P : Program} {md : Region.Mode} {ops : Array Oper} {Q : Exit → Act → World → Prop} {S : World → Prop} {late : Nat → Bool}

/-- Whatever order is picked: behind each operation that is not late, S. -/
def Gz (P : Program) (md : Region.Mode) (ops : Array Oper) (Q : Exit → Act → World → Prop) (S : World → Prop) (late : Nat → Bool) : Nat → Array Bool → Act → World → Prop
  | 0, done, a, w => Region.ready md ops done = [] ∧ Q .normal a w
  | n + 1, done, a, w => (Region.ready md ops done = [] → Q .normal a w) ∧
      ∀ i ∈ Region.ready md ops done, wpOp P ops Q i (fun a' w' => (late i = false → S w') ∧ Gz P md ops Q S late n (done.setIfInBounds i true) a' w') a w
theorem Gz.any : ∀ (n : Nat) (done : Array Bool) (a : Act) (w : World), Gz P md ops Q S late n done a w → wpAny P md ops Q n done a w
  | 0, _, _, _, h => h
  | n + 1, _, _, _, h => ⟨h.1, fun i hi => wpOp_mono (fun a' w' q => Gz.any n _ a' w' q.2) (h.2 i hi)⟩

/-- Each late one that is still to come waits for i. -/
def waits (md : Region.Mode) (ops : Array Oper) (late : Nat → Bool) (done : Array Bool) (i : Nat) : Bool :=
  (List.range ops.size).all fun j => !(late j) || done.getD j true || (match ops[j]? with
    | none => true
    | some o => o.after.any fun e => Region.binds md e && e.on == i)
theorem waits_spec {done : Array Bool} {i : Nat} (h : waits md ops late done i = true) (j : Nat) (oj : Oper) (hj : ops[j]? = some oj) (hl : late j = true) (hd : done.getD j true = false) : ∃ e ∈ oj.after, Region.binds md e = true ∧ e.on = i := by
  have hlt : j < ops.size := by
    rcases Nat.lt_or_ge j ops.size with h | h
    · exact h
    · rw [Array.getElem?_eq_none h] at hj; cases hj
  have := List.all_eq_true.1 h j (List.mem_range.2 hlt)
  simp only [hl, hd, hj, Bool.not_true, Bool.false_or] at this
  obtain ⟨e, he, hb⟩ := Array.any_eq_true'.1 this
  simp only [Bool.and_eq_true, beq_iff_eq] at hb
  exact ⟨e, he, hb.1, hb.2⟩

theorem not_done {done : Array Bool} {i : Nat} (h0 : done.getD i true = false) (h1 : done.getD i false = true) : False := by
  rcases Nat.lt_or_ge i done.size with h | h
  · simp [h] at h0 h1
    rw [h0] at h1
    cases h1
  · simp [Array.getElem?_eq_none h] at h1
/-- An operation that may come up, and yields v in every world that meets S, may be taken first: what may come ahead of it is not late, so S holds behind that. -/
theorem Gz.first {i : Nat} {oi : Oper} {v : Value} (hi : ops[i]? = some oi) (hs : Region.noSelect ops = true) (hQ : ∀ c a w, Q (.panic c) (a.put oi.dst v) w → Q (.panic c) a w) (n : Nat) :
    ∀ (done : Array Bool) (a : Act) (w : World), (∀ j oj, ops[j]? = some oj → j ≠ i → done.getD j true = false → (∀ e ∈ oj.after, Region.binds md e = true → e.on ≠ i) → oi.apart ops oj = true) →
      (∀ j oj, ops[j]? = some oj → late j = true → done.getD j true = false → ∃ e ∈ oj.after, Region.binds md e = true ∧ e.on = i) →
      i ∈ Region.ready md ops done → YieldsIf P ops S oi v a → S w → Gz P md ops Q S late n (done.setIfInBounds i true) (a.put oi.dst v) w → Gz P md ops Q S late (n + 1) done a w := by
  have sel := Region.noSelect_spec hs
  induction n with
  | zero =>
    intro done a w _ _ hr hy hS H
    refine ⟨fun h => ?_, fun j hj => ?_⟩
    · rw [h] at hr
      cases hr
    · rcases Decidable.em (j = i) with rfl | hne
      · exact hy.wpOp hi hS ⟨fun _ => hS, H⟩
      · have := ready_mono hj hne
        rw [H.1] at this
        cases this
  | succ n ih =>
    intro done a w hfree hlate hr hy hS H
    refine ⟨fun h => ?_, fun j hj => ?_⟩
    · rw [h] at hr
      cases hr
    · rcases Decidable.em (j = i) with rfl | hne
      · exact hy.wpOp hi hS ⟨fun _ => hS, H⟩
      · have hiu := (mem_ready.1 hr).1
        obtain ⟨hju, oj, hoj, hjr⟩ := mem_ready.1 hj
        have hno : ∀ e ∈ oj.after, Region.binds md e = true → e.on ≠ i := fun e he hb q => not_done hiu (by rw [← q]; exact hjr e he hb)
        have hearly : late j = false := by
          cases hl : late j with
          | false => rfl
          | true =>
            obtain ⟨e, he, hb, q⟩ := hlate j oj hoj hl hju
            exact absurd q (hno e he hb)
        have step := wpOp_putIf hoj (hfree j oj hoj hne hju hno) (fun cs b => sel i oi cs b hi) (fun cs b => sel j oj cs b hoj) hQ hy (H.2 j (ready_mono hj hne))
        have less : ∀ k, (done.setIfInBounds j true).getD k true = false → done.getD k true = false := fun k hk => by
          rcases Decidable.em (j = k) with rfl | h
          · exact hju
          · rwa [getD_set_ne true h] at hk
        refine wpOp_mono (fun a' w' q => ⟨q.2.1, ih _ a' w' (fun k ok hk hki hun hn => hfree k ok hk hki (less k hun) hn) (fun k ok hk hl hun => hlate k ok hk hl (less k hun)) (ready_mono hr (Ne.symm hne)) q.1 (q.2.1 hearly) ?_⟩) step
        rw [Array.setIfInBounds_comm _ _ hne]
        exact q.2.2
theorem Gz.take {i : Nat} {oi : Oper} {v : Value} {n : Nat} {done : Array Bool} {a : Act} {w : World} (hi : ops[i]? = some oi) (hs : Region.noSelect ops = true) (hf : Region.free md ops done i = true) (hr : (Region.ready md ops done).contains i = true) (hl : waits md ops late done i = true)
    (hQ : ∀ c a w, Q (.panic c) (a.put oi.dst v) w → Q (.panic c) a w) (hy : YieldsIf P ops S oi v a) (hS : S w) (h : Gz P md ops Q S late n (done.setIfInBounds i true) (a.put oi.dst v) w) : Gz P md ops Q S late (n + 1) done a w :=
  Gz.first hi hs hQ n done a w (Region.free_spec hi hf) (waits_spec hl) (by simpa using hr) hy hS h
/-- The only one that may come up. -/
theorem Gz.one {i : Nat} {o : Oper} {n : Nat} {done : Array Bool} {a : Act} {w : World} (hr : Region.ready md ops done = [i]) (ho : ops[i]? = some o)
    (h : ∀ K' : Act → World → Prop, Shut (∀ a w, (late i = false → S w) → Gz P md ops Q S late n (done.setIfInBounds i true) a w → K' a w) → if Region.wanted o (yielded ops a.tmps) = true then Oper.wp P o a w K' Q else K' (a.put o.dst undef) w) : Gz P md ops Q S late (n + 1) done a w := by
  refine ⟨fun h0 => ?_, fun j hj => ?_⟩
  · rw [hr] at h0
    cases h0
  · rw [hr] at hj
    obtain rfl := List.mem_singleton.1 hj
    exact wpOp_step ho (fun K' hK => h K' (fun a w hS hW => hK a w ⟨hS, hW⟩))
theorem Gz.done {done : Array Bool} {a : Act} {w : World} (hr : Region.ready md ops done = []) (h : Q .normal a w) : ∀ n, Gz P md ops Q S late n done a w
  | 0 => ⟨hr, h⟩
  | _ + 1 => ⟨fun _ => h, by rw [hr]; simp⟩
theorem Gz.begin {id : Nat} {a : Act} {w : World} (S : World → Prop) (late : Nat → Bool) (hm : P.follows .mixedOrders = true) (h : Gz P .any ops Q S late ops.size (Array.replicate ops.size false) a w.drew) : (Code.region id ops true).wp P Q a w :=
  wp_region_any hm (h.any)

end
end Go.Proofs.YtenejaghgehnoaaGreatDoor

namespace Go.Proofs.YtenejaghgehnoaaGreatDoor
open Go.RowKit Go.Maps

theorem Sd.labels {α : Type} {C : Cde α} {s : Bool} {w : World} {n : Nat} {B B' : Lab → Option Nat} {f : List UInt8 → List UInt8 → Option α} (S : Sd C s w n B f) (e : ∀ x, B' (s, x) = B (s, x)) : Sd C s w n B' f := by
  obtain ⟨H, hH, m⟩ := S.out
  refine ⟨⟨H, by rw [e]; exact hH, m.congr (fun x => by rw [e])⟩, fun x k h => S.inn x k (by rw [← e]; exact h), fun x h => S.non x (by rw [← e]; exact h), fun x k h => S.any x k (by rw [← e]; exact h)⟩
/-- Both sides are put into, one behind the other. -/
theorem Tw.two {w w1 w2 : World} {T n m : Nat} {B B1 B2 : Lab → Option Nat} {f f' : Lk} {g g' : List UInt8 → List UInt8 → Option Unit} (t : Tw w T n B f g) (SL : Sd codeH false w1 m B1 f') (P1 : Puts false B w w1 B1) (SR : Sd codeU true w2 m B2 g') (P2 : Puts true B1 w1 w2 B2) : Tw w2 T m B2 f' g' ∧ Stp B w w2 B2 := by
  have lt0 : ∀ x b, B x = some b → b < w.heap.size := fun x b e => t.lt e
  have hz := P1.kept.size
  have o1 : ∀ x, B1 (true, x) = B (true, x) := fun x => P1.other (true, x) (by simp)
  have o2 : ∀ x, B2 (false, x) = B1 (false, x) := fun x => P2.other (false, x) (by simp)
  have n1 : ∀ x b, B1 x = some b → B x = some b ∨ w.heap.size ≤ b := by
    rintro ⟨_ | _, x⟩ b e
    · exact P1.news x b e
    · rw [o1] at e
      exact .inl e
  have n2 : ∀ x b, B2 x = some b → B x = some b ∨ w.heap.size ≤ b := by
    rintro ⟨_ | _, x⟩ b e
    · rw [o2] at e
      exact n1 _ b e
    · rcases P2.news x b e with h | h
      · exact n1 _ b h
      · exact .inr (by omega)
  have kk : Kept (fun k => ∀ x, B x ≠ some k) w w2 := (P1.kept.mono (fun i _ h x => h (false, x))).then P2.kept (fun i hi h x e => by
    rw [o1] at e
    exact h _ e)
  have mix : ∀ x y b, B2 (false, x) = some b → B2 (true, y) = some b → False := by
    intro x y b e1 e2
    rw [o2] at e1
    have h1 := SL.lt e1
    rcases P2.news y b e2 with e2 | e2
    · rw [o1] at e2
      have h2 := lt0 _ b e2
      rcases P1.news x b e1 with e1 | e1
      · have := t.apart _ _ b e1 e2
        simp at this
      · omega
    · omega
  obtain ⟨H, D, hH, hD, hs⟩ := t.self
  refine ⟨⟨⟨H, D, ?_, ?_, (kk.block T t.tlt t.self_ne).trans hs⟩, ?_, SR, ?_⟩, kk, n2⟩
  · rw [o2, P1.top]
    exact hH
  · rw [P2.top, o1]
    exact hD
  · refine (SL.labels o2).kept P2.kept ?_
    intro x b e y e2
    rw [o2] at e
    have h1 := SL.lt e
    rw [o1] at e2
    have h2 := lt0 _ b e2
    rcases P1.news x b e with e | e
    · have := t.apart _ _ b e e2
      simp at this
    · omega
  · rintro ⟨_ | _, x⟩ ⟨_ | _, y⟩ b e1 e2
    · rw [o2] at e1 e2
      rw [P1.apart x y b e1 e2]
    · exact absurd (mix x y b e1 e2) (fun h => h)
    · exact absurd (mix y x b e2 e1) (fun h => h)
    · rw [P2.apart x y b e1 e2]
theorem give_upd (h : Lk) (x c : List UInt8) (wr : Bool) : give h x c wr = updF h c x ((h c x).getD false || wr) := rfl
theorem flip_give (h : Lk) (x c : List UInt8) (wr : Bool) : flip (give h x c wr) = updF (flip h) x c () := by
  funext y c'
  unfold flip updF
  by_cases e : c' = c ∧ y = x
  · rw [if_pos ⟨e.2, e.1⟩, e.1, e.2, give_self]
    rfl
  · rw [if_neg (fun z => e ⟨z.2, z.1⟩), give_other _ _ _ _ e]

set_option maxRecDepth 100000 in
set_option maxHeartbeats 2000000 in
theorem give_any {w : World} {T n : Nat} {B : Lab → Option Nat} {h : Lk} (t : Tb w T n B h) {x c : List UInt8} (hx : x.length ≤ 9223372036854775807) (hc : c.length ≤ 9223372036854775807) (wr : Bool) (hn : n ≤ 1000000) :
    Calls Tryz.prog 177 #[.pointer (some ⟨T, 0, none⟩), .string ⟨x.toArray⟩, .agg #[.string ⟨c.toArray⟩, .bool wr]] w fun e w' => e = .returned (.tuple #[]) ∧ ∃ B', Tb w' T (n + 1) B' (give h x c wr) ∧ Stp B w w' B' := by
  obtain ⟨H, D, hH, hD, hs⟩ := t.self
  have HT : Hid (Tb w T n B h) := t
  have ka : Kept (fun _ => True) w (w.alloc (.cells #[.string ⟨c.toArray⟩, .bool wr] 244)) := (Kept.refl _ _).alloc _
  have kb : Kept (fun _ => True) (w.alloc (.cells #[.string ⟨c.toArray⟩, .bool wr] 244)) ((w.alloc (.cells #[.string ⟨c.toArray⟩, .bool wr] 244)).alloc (.cells #[.bool false] 276)) := (Kept.refl _ _).alloc _
  have t0 := t.all ka
  have t1 := t0.all kb
  have e0 := (tcell ((ka.block T t.tlt trivial).trans hs)).1
  have e1 := (tcell ((kb.block T t0.tlt trivial).trans ((ka.block T t.tlt trivial).trans hs))).1
  have t0d := t0.all ((Kept.refl (fun _ => True) _).drew)
  have t1d := t1.all ((Kept.refl (fun _ => True) _).drew)
  have l0 := t0d.left.look1 hH Tryz.underlying183 (zeroMapH _) hc
  have l1 := t1d.left.look1 hH Tryz.underlying183 (zeroMapH _) hc
  have m0 := (t0d.left.inner c).look1 Tryz.underlying247 (z := false) (zeroHold _) hx
  have m1 := (t1d.left.inner c).look1 Tryz.underlying247 (z := false) (zeroHold _) hx
  change (Instr.lookup _ _ _ false).run _ _ = .ok (.agg #[.bool ((h c x).getD false)]) _ at m0
  change (Instr.lookup _ _ _ false).run _ _ = .ok (.agg #[.bool ((h c x).getD false)]) _ at m1
  have hV : ∃ v0, v0 = (h c x).getD false := ⟨_, rfl⟩
  obtain ⟨v0, hv0⟩ := hV
  have HV : Hid (v0 = (h c x).getD false) := hv0
  rw [← hv0] at m0 m1
  have hlt := t.tlt
  clear t t0 t1 t0d t1d hs ka kb hv0
  go_enter Tryz.func177, Tryz.ntmps177
  go_upto_region 1 with fail
  go_cut [6] from 7 to 15 (fun t6 wx => t6 = .pointer (some ⟨w.heap.size + 1, 0, none⟩) ∧ wx = ((w.alloc (.cells #[.string ⟨c.toArray⟩, .bool wr] 244)).alloc (.cells #[.bool v0] 276)).drew)
  case first =>
    go_region
    all_goals (go_wp2_with fail; go_meet; exact ⟨rfl, rfl⟩)
  case rest =>
  obtain ⟨rfl, hw⟩ := hcut
  generalize wc = wk at *
  clear e0 e1 l0 l1 m0 m1
  have ka : Kept (fun _ => True) w wk := by
    rw [hw]
    exact (((Kept.refl _ _).alloc _).alloc _).drew
  have hb1 : wk.heap[w.heap.size]? = some (.cells #[.string ⟨c.toArray⟩, .bool wr] 244) := by
    rw [hw]
    exact (Below.heap_alloc _ _ _ (by simp)).trans (heap_alloc_new w _)
  have hb2 : wk.heap[w.heap.size + 1]? = some (.cells #[.bool v0] 276) := by
    rw [hw]
    have := heap_alloc_new (w.alloc (.cells #[.string ⟨c.toArray⟩, .bool wr] 244)) (.cells #[.bool v0] 276)
    rw [show (w.alloc (.cells #[.string ⟨c.toArray⟩, .bool wr] 244)).heap.size = w.heap.size + 1 by simp] at this
    exact this
  clear hw
  generalize w.heap.size = G0 at *
  generalize G0 + 1 = G1 at *
  have tc := HT.out.all ka
  have td : Tb wk.drew T n B h := tc.all ((Kept.refl _ _).drew)
  obtain ⟨H', D', hH', hD', hs⟩ := tc.self
  rw [hH] at hH'
  cases hH'
  rw [hD] at hD'
  cases hD'
  have HTD : Hid (Tb wk.drew T n B h) := td
  have HKA : Hid (Kept (fun _ => True) w wk) := ka
  have cp := put_hold td.left (fun x y b e1 e2 => by have := td.apart _ _ b e1 e2; simpa using this) hH hc hx (v0 || wr) hn
  have nT := tc.self_ne
  have nG0 := tc.notMine hb1
  have nG1 := tc.notMine hb2
  have q1 := (tcell hb1).1
  have q2 := (tcell hb1).2
  have q3 : wk.cell? ⟨G1, 0, none⟩ = some (.bool v0) := by simp [World.cell?, hb2]
  have q4 := (tcell hs).1
  have q5 := (tcell hs).2
  have HKC : Hid (∀ W, Kept (fun k => ∀ x, B (false, x) ≠ some k) wk W → W.cell? ⟨T, 1, none⟩ = some (.map (some D)) ∧ W.cell? ⟨G0, 0, none⟩ = some (.string ⟨c.toArray⟩)) := fun W k => ⟨(kept_cell k (World.block_lt_of_cell? wk _ q5) (fun x => nT _)).trans q5, (kept_cell k (World.block_lt_of_cell? wk _ q1) (fun x => nG0 _)).trans q1⟩
  have r1 : ∀ W, Kept (fun k => ∀ x, B (false, x) ≠ some k) wk W → W.cell? ⟨G0, 0, none⟩ = some (.string ⟨c.toArray⟩) := fun W k => (kept_cell k (World.block_lt_of_cell? wk _ q1) (fun x => nG0 _)).trans q1
  have r2 : ∀ W, Kept (fun k => ∀ x, B (false, x) ≠ some k) wk W → W.cell? ⟨G0, 1, none⟩ = some (.bool wr) := fun W k => (kept_cell k (World.block_lt_of_cell? wk _ q2) (fun x => nG0 _)).trans q2
  have r3 : ∀ W, Kept (fun k => ∀ x, B (false, x) ≠ some k) wk W → W.cell? ⟨G1, 0, none⟩ = some (.bool v0) := fun W k => (kept_cell k (World.block_lt_of_cell? wk _ q3) (fun x => nG1 _)).trans q3
  have r4 : ∀ W, Kept (fun k => ∀ x, B (false, x) ≠ some k) wk W → W.cell? ⟨T, 0, none⟩ = some (.map (some H)) := fun W k => (kept_cell k (World.block_lt_of_cell? wk _ q4) (fun x => nT _)).trans q4
  have kd : Kept (fun k => ∀ x, B (false, x) ≠ some k) wk wk.drew := (Kept.refl _ _).drew
  clear hb1 hb2 nG1 tc td hs ka hlt
  obtain ⟨v1, hv1⟩ : ∃ v1, v1 = (v0 || wr) := ⟨_, rfl⟩
  rw [← hv1] at cp
  have HV1 : Hid (v1 = ((h c x).getD false || wr)) := by
    show _ = _
    rw [hv1, HV.out]
  go_upto_region 2 with fail
  go_cut [] from 16 to 30 (fun wx => ∃ B1, Sd codeH false wx (n + 1) B1 (updF h c x v1) ∧ Puts false B wk.drew wx B1)
  case first =>
    cases v0 with
    | true =>
      obtain rfl : v1 = true := by simpa using hv1
      clear hv1
      refine Gz.begin (fun W => Kept (fun k => ∀ x, B (false, x) ≠ some k) wk W) (fun _ => false) (by kernel_rfl) ?_
      refine Gz.take (i := 0) (oi := { dst := some 16, op := Op.move (Operand.tmp 0), type := 113, pos := _, after := #[], guard := none }) (v := ?_) rfl (by kernel_rfl) (by kernel_rfl) (by kernel_rfl) (by kernel_rfl) (fun _ _ _ h => h) (Or.inl ⟨by rfl, ?hy0⟩) kd ?_
      case hy0 => (intro W hSw; (try dsimp only at hSw); go_simp; try with_reducible rfl)
      try simp only [Act.put, List.setIfInBounds_toArray, List.set_cons_zero, List.set_cons_succ]
      refine Gz.take (i := 1) (oi := { dst := some 17, op := Op.nilCheck (Operand.tmp 16), type := 0, pos := _, after := #[{ on := 0, ground := Ground.data }], guard := none }) (v := ?_) rfl (by kernel_rfl) (by kernel_rfl) (by kernel_rfl) (by kernel_rfl) (fun _ _ _ h => h) (Or.inl ⟨by rfl, ?hy1⟩) kd ?_
      case hy1 => (intro W hSw; (try dsimp only at hSw); go_simp; try with_reducible rfl)
      try simp only [Act.put, List.setIfInBounds_toArray, List.set_cons_zero, List.set_cons_succ]
      refine Gz.take (i := 2) (oi := { dst := some 18, op := Op.fieldAddr 186 (Operand.tmp 17) 0, type := 0, pos := _, after := #[{ on := 1, ground := Ground.data }], guard := none }) (v := ?_) rfl (by kernel_rfl) (by kernel_rfl) (by kernel_rfl) (by kernel_rfl) (fun _ _ _ h => h) (Or.inl ⟨by rfl, ?hy2⟩) kd ?_
      case hy2 => (intro W hSw; (try dsimp only at hSw); go_simp; try with_reducible rfl)
      try simp only [Act.put, List.setIfInBounds_toArray, List.set_cons_zero, List.set_cons_succ]
      refine Gz.take (i := 3) (oi := { dst := some 19, op := Op.load 183 (Operand.tmp 18), type := 183, pos := _, after := #[{ on := 2, ground := Ground.data }], guard := none }) (v := ?_) rfl (by kernel_rfl) (by kernel_rfl) (by kernel_rfl) (by kernel_rfl) (fun _ _ _ h => h) (Or.inl ⟨by rfl, ?hy3⟩) kd ?_
      case hy3 => (intro W hSw; (try dsimp only at hSw); go_simp; try with_reducible rfl)
      try simp only [Act.put, List.setIfInBounds_toArray, List.set_cons_zero, List.set_cons_succ]
      refine Gz.take (i := 4) (oi := { dst := some 20, op := Op.fieldAddr 244 (Operand.tmp 5) 0, type := 0, pos := _, after := #[], guard := none }) (v := ?_) rfl (by kernel_rfl) (by kernel_rfl) (by kernel_rfl) (by kernel_rfl) (fun _ _ _ h => h) (Or.inl ⟨by rfl, ?hy4⟩) kd ?_
      case hy4 => (intro W hSw; (try dsimp only at hSw); go_simp; try with_reducible rfl)
      try simp only [Act.put, List.setIfInBounds_toArray, List.set_cons_zero, List.set_cons_succ]
      refine Gz.take (i := 5) (oi := { dst := some 21, op := Op.load 9 (Operand.tmp 20), type := 9, pos := _, after := #[{ on := 4, ground := Ground.data }], guard := none }) (v := ?_) rfl (by kernel_rfl) (by kernel_rfl) (by kernel_rfl) (by kernel_rfl) (fun _ _ _ h => h) (Or.inl ⟨by rfl, ?hy5⟩) kd ?_
      case hy5 => (intro W hSw; (try dsimp only at hSw); go_simp; try with_reducible rfl)
      try simp only [Act.put, List.setIfInBounds_toArray, List.set_cons_zero, List.set_cons_succ]
      refine Gz.take (i := 6) (oi := { dst := some 22, op := Op.move (Operand.tmp 1), type := 9, pos := _, after := #[], guard := none }) (v := ?_) rfl (by kernel_rfl) (by kernel_rfl) (by kernel_rfl) (by kernel_rfl) (fun _ _ _ h => h) (Or.inl ⟨by rfl, ?hy6⟩) kd ?_
      case hy6 => (intro W hSw; (try dsimp only at hSw); go_simp; try with_reducible rfl)
      try simp only [Act.put, List.setIfInBounds_toArray, List.set_cons_zero, List.set_cons_succ]
      refine Gz.take (i := 7) (oi := { dst := some 23, op := Op.fieldAddr 276 (Operand.tmp 6) 0, type := 0, pos := _, after := #[], guard := none }) (v := ?_) rfl (by kernel_rfl) (by kernel_rfl) (by kernel_rfl) (by kernel_rfl) (fun _ _ _ h => h) (Or.inl ⟨by rfl, ?hy7⟩) kd ?_
      case hy7 => (intro W hSw; (try dsimp only at hSw); go_simp; try with_reducible rfl)
      try simp only [Act.put, List.setIfInBounds_toArray, List.set_cons_zero, List.set_cons_succ]
      refine Gz.take (i := 8) (oi := { dst := some 24, op := Op.load 4 (Operand.tmp 23), type := 4, pos := _, after := #[{ on := 7, ground := Ground.data }], guard := none }) (v := ?_) rfl (by kernel_rfl) (by kernel_rfl) (by kernel_rfl) (by kernel_rfl) (fun _ _ _ h => h) (Or.inl ⟨by rfl, ?hy8⟩) kd ?_
      case hy8 => (intro W hSw; (try dsimp only at hSw); go_simp; try with_reducible rfl)
      try simp only [Act.put, List.setIfInBounds_toArray, List.set_cons_zero, List.set_cons_succ]
      refine Gz.take (i := 9) (oi := { dst := some 25, op := Op.move (Operand.tmp 24), type := 4, pos := _, after := #[{ on := 8, ground := Ground.data }], guard := none }) (v := ?_) rfl (by kernel_rfl) (by kernel_rfl) (by kernel_rfl) (by kernel_rfl) (fun _ _ _ h => h) (Or.inl ⟨by rfl, ?hy9⟩) kd ?_
      case hy9 => (intro W hSw; (try dsimp only at hSw); go_simp; try with_reducible rfl)
      try simp only [Act.put, List.setIfInBounds_toArray, List.set_cons_zero, List.set_cons_succ]
      refine Gz.take (i := 10) (oi := { dst := some 26, op := Op.fieldAddr 244 (Operand.tmp 5) 1, type := 0, pos := _, after := #[{ on := 9, ground := Ground.guard }], guard := some (9, false) }) (v := undef) rfl (by kernel_rfl) (by kernel_rfl) (by kernel_rfl) (by kernel_rfl) (fun _ _ _ h => h) (Or.inr ⟨by rfl, rfl⟩) kd ?_
      try simp only [Act.put, List.setIfInBounds_toArray, List.set_cons_zero, List.set_cons_succ]
      refine Gz.take (i := 11) (oi := { dst := some 27, op := Op.load 4 (Operand.tmp 26), type := 4, pos := _, after := #[{ on := 10, ground := Ground.data }, { on := 9, ground := Ground.guard }], guard := some (9, false) }) (v := undef) rfl (by kernel_rfl) (by kernel_rfl) (by kernel_rfl) (by kernel_rfl) (fun _ _ _ h => h) (Or.inr ⟨by rfl, rfl⟩) kd ?_
      try simp only [Act.put, List.setIfInBounds_toArray, List.set_cons_zero, List.set_cons_succ]
      refine Gz.take (i := 12) (oi := { dst := some 28, op := Op.pick (Operand.tmp 25) (Operand.const (Value.bool true)) (Operand.tmp 27), type := 4, pos := _, after := #[{ on := 9, ground := Ground.data }, { on := 11, ground := Ground.data }], guard := none }) (v := ?_) rfl (by kernel_rfl) (by kernel_rfl) (by kernel_rfl) (by kernel_rfl) (fun _ _ _ h => h) (Or.inl ⟨by rfl, ?hy12⟩) kd ?_
      case hy12 => (intro W hSw; (try dsimp only at hSw); go_simp; try with_reducible rfl)
      try simp only [Act.put, List.setIfInBounds_toArray, List.set_cons_zero, List.set_cons_succ]
      refine Gz.take (i := 13) (oi := { dst := some 29, op := Op.build 276 #[(0, Operand.tmp 28)], type := 276, pos := _, after := #[{ on := 12, ground := Ground.data }], guard := none }) (v := ?_) rfl (by kernel_rfl) (by kernel_rfl) (by kernel_rfl) (by kernel_rfl) (fun _ _ _ h => h) (Or.inl ⟨by rfl, ?hy13⟩) kd ?_
      case hy13 => (intro W hSw; (try dsimp only at hSw); go_simp; try with_reducible rfl)
      try simp only [Act.put, List.setIfInBounds_toArray, List.set_cons_zero, List.set_cons_succ]
      refine Gz.one (i := 14) (o := { dst := some 30, op := Op.call { callee := Callee.value (Operand.func 206), args := #[Operand.tmp 19, Operand.tmp 21, Operand.tmp 22, Operand.tmp 29], argTypes := #[183, 9, 9, 276] }, type := 0, pos := _, after := #[{ on := 3, ground := Ground.data }, { on := 5, ground := Ground.data }, { on := 6, ground := Ground.data }, { on := 13, ground := Ground.data }, { on := 9, ground := Ground.chain }], guard := none }) (by kernel_rfl) rfl (fun K hK => ?_)
      go_simp
      refine Calls.mono cp ?_
      rintro e w2 ⟨rfl, B1, s1, p1⟩
      have k2 : Kept (fun k => ∀ x, B (false, x) ≠ some k) wk w2 := kd.trans p1.kept
      try go_wp2_with fail
      refine hK.out _ _ (fun hEarly => k2) ?_
      clear hK K
      try simp only [Act.put, List.setIfInBounds_toArray, List.set_cons_zero, List.set_cons_succ]
      refine Gz.done (by kernel_rfl) ?_ _
      go_wp2_with fail
      go_meet
      exact ⟨B1, s1, p1⟩
    | false =>
      obtain rfl : v1 = wr := by simpa using hv1
      clear hv1
      go_wp2_with fail
      go_region_held (fun W => Kept (fun k => ∀ x, B (false, x) ≠ some k) wk W) (assumption) (first | (go_at_call 206; refine Calls.mono cp ?_; rintro e w2 ⟨rfl, B1, s1, p1⟩; have k2 : Kept (fun k => ∀ x, B (false, x) ≠ some k) wk w2 := kd.trans p1.kept))
      all_goals (go_wp2_with fail; go_meet; exact ⟨B1, s1, p1⟩)
  case rest =>
  obtain ⟨B1, s1, p1⟩ := hcut
  clear cp r1 r2 r3 r4 q1 q2 q3 q4 q5
  have o1 : ∀ x, B1 (true, x) = B (true, x) := fun x => p1.other (true, x) (by simp)
  have sr : Sd codeU true wc n B1 (flip h) := (HTD.out.right.labels o1).kept p1.kept (fun x b e y e2 => by
    rw [o1] at e
    have := HTD.out.apart _ _ b e e2
    simp at this)
  have srd : Sd codeU true wc.drew n B1 (flip h) := sr.kept ((Kept.refl (fun _ => True) _).drew) (fun _ _ _ => trivial)
  have cp := put_unit srd (fun x y b e1 e2 => by
    rw [o1] at e1 e2
    have := HTD.out.apart _ _ b e1 e2
    simpa using this) (by rw [o1]; exact hD) hx hc hn
  have n1 : ∀ x, B1 (true, x) ≠ some T := fun x => by rw [o1]; exact nT _
  have n2 : ∀ x, B1 (true, x) ≠ some G0 := fun x => by rw [o1]; exact nG0 _
  obtain ⟨q1, q2⟩ := HKC.out wc (kd.trans p1.kept)
  have r1 : ∀ W, Kept (fun k => ∀ x, B1 (true, x) ≠ some k) wc W → W.cell? ⟨T, 1, none⟩ = some (.map (some D)) := fun W k => (kept_cell k (World.block_lt_of_cell? wc _ q1) n1).trans q1
  have r2 : ∀ W, Kept (fun k => ∀ x, B1 (true, x) ≠ some k) wc W → W.cell? ⟨G0, 0, none⟩ = some (.string ⟨c.toArray⟩) := fun W k => (kept_cell k (World.block_lt_of_cell? wc _ q2) n2).trans q2
  have S1 : Hid (Sd codeH false wc.drew (n + 1) B1 (updF h c x v1)) := s1.kept ((Kept.refl (fun _ => True) _).drew) (fun _ _ _ => trivial)
  have P1 : Hid (Puts false B wk.drew wc.drew B1) := ⟨p1.kept.drew, p1.other, p1.top, p1.apart, p1.news⟩
  have kd2 : Kept (fun k => ∀ x, B1 (true, x) ≠ some k) wc wc.drew := (Kept.refl _ _).drew
  clear s1 p1 o1 sr srd HKC q1 q2 n1 n2 nT nG0 kd hv1
  go_wp2_with fail
  go_region_held (fun W => Kept (fun k => ∀ x, B1 (true, x) ≠ some k) wc W) (assumption) (first | (go_at_call 207; refine Calls.mono cp ?_; rintro e w2 ⟨rfl, B2, s2, p2⟩; have k2 : Kept (fun k => ∀ x, B1 (true, x) ≠ some k) wc w2 := kd2.trans p2.kept))
  all_goals (
    go_wp2_with fail
    go_end0
    obtain ⟨y1, y2⟩ := HTD.out.two S1.out P1.out s2 p2
    refine ⟨rfl, B2, ?_, (Stp.of B (HKA.out.trans (Kept.refl _ _).drew)).trans y2⟩
    unfold Tb
    rw [flip_give, give_upd, ← HV1.out]
    exact y1)

end Go.Proofs.YtenejaghgehnoaaGreatDoor

namespace Go.Proofs.YtenejaghgehnoaaGreatDoor
open Go.RowKit Go.Maps

/-- Block k is no map. -/
def NoMap (w : World) (k : Nat) : Prop := ∀ es clock, w.heap[k]? ≠ some (.map es clock)
theorem noMap_cell {w : World} {b o : Nat} {v : Value} (h : w.cell? ⟨b, o, none⟩ = some v) : NoMap w b := by
  intro es clock e
  simp [World.cell?, e] at h
theorem noMap_cells {w : World} {b : Nat} {cs : Array Value} {ty : TypeId} {fr : Nat × Nat} (h : w.heap[b]? = some (.cells cs ty fr)) : NoMap w b := by
  intro es clock e
  rw [h] at e
  simp at e
theorem Tw.noMap {w : World} {T n : Nat} {B : Lab → Option Nat} {f : Lk} {g : List UInt8 → List UInt8 → Option Unit} (t : Tw w T n B f g) {k : Nat} (hk : NoMap w k) (x : Lab) : B x ≠ some k := by
  intro e
  obtain ⟨es, clock, he⟩ := t.isMap e
  exact hk es clock he
theorem cell_kept {p : Nat → Prop} {w w' : World} {a : Addr} {v : Value} (k : Kept p w w') (h : w.cell? a = some v) (hp : p a.block) : w'.cell? a = some v :=
  (World.cell?_of_block (w := w) (k.block a.block (World.block_lt_of_cell? w _ h) hp)).trans h
/-- Wants that are looked at. -/
def Wn (w : World) (v : Value) (l : List (List UInt8 × Bool)) : Prop :=
  ∃ ao cap, v = .slice ao l.length cap ∧ (0 < l.length → ∃ b off, ao = some ⟨b, off, none⟩ ∧ ∀ i (h : i < l.length), w.cell? ⟨b, off + i * 2, none⟩ = some (.string ⟨(l[i].1).toArray⟩) ∧ w.cell? ⟨b, off + i * 2 + 1, none⟩ = some (.bool l[i].2))
theorem Wn.kept {p : Nat → Prop} {w w' : World} {v : Value} {l : List (List UInt8 × Bool)} (h : Wn w v l) (k : Kept p w w') (hp : ∀ b, NoMap w b → p b) : Wn w' v l := by
  obtain ⟨ao, cap, e, h⟩ := h
  refine ⟨ao, cap, e, fun h0 => ?_⟩
  obtain ⟨b, off, e, hc⟩ := h h0
  refine ⟨b, off, e, fun i hi => ?_⟩
  obtain ⟨h1, h2⟩ := hc i hi
  exact ⟨cell_kept k h1 (hp b (noMap_cell h1)), cell_kept k h2 (hp b (noMap_cell h2))⟩
theorem Wn.all {w w' : World} {v : Value} {l : List (List UInt8 × Bool)} (h : Wn w v l) (k : Kept (fun _ => True) w w') : Wn w' v l := h.kept k (fun _ _ => trivial)
theorem Wn.nil (w : World) : Wn w (.slice none 0 0) [] := ⟨none, 0, rfl, fun h => by simp at h⟩
theorem gives_snoc (h : Lk) (x : List UInt8) (l : List (List UInt8 × Bool)) (w : List UInt8 × Bool) : gives h x (l ++ [w]) = give (gives h x l) x w.1 w.2 := by
  induction l generalizing h with
  | nil => rfl
  | cons v l ih => exact ih _
theorem gives_take (h : Lk) (x : List UInt8) (l : List (List UInt8 × Bool)) (i : Nat) (hi : i < l.length) : gives h x (l.take (i + 1)) = give (gives h x (l.take i)) x l[i].1 l[i].2 := by
  rw [List.take_succ_eq_append_getElem hi, gives_snoc]

set_option maxRecDepth 100000 in
set_option maxHeartbeats 2000000 in
theorem take_any {w : World} {T n : Nat} {B : Lab → Option Nat} {h : Lk} (t : Tb w T n B h) (ha : Alone h) {x : List UInt8} (hx : x.length ≤ 9223372036854775807) {v : Value} {l : List (List UInt8 × Bool)} (hw : Wn w v l) (hl : ∀ z ∈ l, z.1.length ≤ 9223372036854775807) (hn : n + l.length ≤ 1000000) :
    Calls Tryz.prog 151 #[.pointer (some ⟨T, 0, none⟩), .string ⟨x.toArray⟩, v] w fun e w' => ∃ (r : Int) (h' : Lk) (B' : Lab → Option Nat), e = .returned (.int .i64 r) ∧ Takes h x l r h' ∧ Tb w' T (n + l.length) B' h' ∧ Stp B w w' B' := by
  obtain ⟨ao, cap, rfl, hc⟩ := hw
  have HT : Hid (Tb w T n B h) := t
  have HA : Hid (Alone h) := ha
  have HL : Hid (∀ z ∈ l, z.1.length ≤ 9223372036854775807) := hl
  have HC : Hid (0 < l.length → ∃ b off, ao = some ⟨b, off, none⟩ ∧ ∀ i (h : i < l.length), w.cell? ⟨b, off + i * 2, none⟩ = some (.string ⟨(l[i].1).toArray⟩) ∧ w.cell? ⟨b, off + i * 2 + 1, none⟩ = some (.bool l[i].2)) := hc
  clear t ha hl hc
  by_cases hx0 : x = []
  · subst hx0
    go_enter Tryz.func151, Tryz.ntmps151
    go_wp2_with fail
    go_ret
    exact ⟨1, h, B, rfl, .inl ⟨rfl, rfl, rfl⟩, HT.out.mono (by omega), Stp.refl _ _⟩
  · have hxe : (x == []) = false := beq_eq_false_iff_ne.2 hx0
    have HX : Hid (x ≠ []) := hx0
    clear hx0
    go_enter Tryz.func151, Tryz.ntmps151
    go_wp2_with fail
    go_loopw [8, 15] (fun _ t15 wr => ∃ i : Nat, i ≤ l.length ∧ t15 = .int .i64 (i : Nat) ∧ (∀ z ∈ l.take i, ¬ Ill h x z.1 z.2) ∧ Kept (fun _ => True) w wr) (fun _ t15 _ => l.length - (intOf t15).toNat)
    case atStart => exact ⟨0, Nat.zero_le _, rfl, by simp, Kept.refl _ _⟩
    case round =>
      obtain ⟨i, hi, rfl, hni, hk⟩ := hrel
      have HNI : Hid (∀ z ∈ l.take i, ¬ Ill h x z.1 z.2) := hni
      have HK : Hid (Kept (fun _ => True) w wr) := hk
      clear hni hk
      by_cases hlt : i < l.length
      · obtain ⟨b, off, rfl, hcs⟩ := HC.out (by omega)
        obtain ⟨c0, c1⟩ := hcs i hlt
        have q0 := cell_kept HK.out c0 trivial
        have q1 := cell_kept HK.out c1 trivial
        have hzl := HL.out l[i] (List.getElem_mem hlt)
        have HTK : Hid (l.take (i + 1) = l.take i ++ [l[i]]) := List.take_succ_eq_append_getElem hlt
        have HIN : Hid (l[i] ∈ l) := List.getElem_mem hlt
        have i1 : (i : Int) < (l.length : Int) := by omega
        have i0 : (0 : Int) ≤ (i : Int) := by omega
        clear hcs c0 c1
        generalize l[i] = z at *
        obtain ⟨c, wt⟩ := z
        simp only at q0 q1 hzl
        have HK2 : Hid (Kept (fun _ => True) w (wr.alloc (.cells #[.string ⟨c.toArray⟩, .bool wt] 244))) := HK.out.alloc _
        have cb := busy_any (HT.out.all HK2.out) HA.out hx hzl wt (by omega)
        go_wp2_with fail
        refine Calls.mono cb ?_
        rintro e w2 ⟨q, rfl, hq, k2⟩
        clear cb
        have HQ : Hid (q = true ↔ Ill h x c wt) := hq
        have HK3 : Hid (Kept (fun _ => True) w w2) := HK2.out.trans k2
        clear hq k2
        cases q with
        | true =>
          go_wp2_with fail
          go_ret
          exact ⟨35, h, B, rfl, .inr (.inl ⟨HX.out, ⟨(c, wt), HIN.out, HQ.out.1 (by simp)⟩, rfl, rfl⟩), (HT.out.all HK3.out).mono (by omega), Stp.of B HK3.out⟩
        | false =>
          go_wp2_with fail
          go_roundw
          case rel =>
            refine ⟨i + 1, by omega, by go_num, ?_, HK3.out⟩
            intro z hz
            rw [HTK.out, List.mem_append, List.mem_singleton] at hz
            rcases hz with hz | rfl
            · exact HNI.out z hz
            · intro hi
              have := HQ.out.2 hi
              cases this
          case measure => simp [intOf]; omega
      · have i1 : ¬ (i : Int) < (l.length : Int) := by omega
        have HAll : Hid (∀ z ∈ l, ¬ Ill h x z.1 z.2) := by
          have := HNI.out
          rwa [List.take_of_length_le (by omega)] at this
        clear HNI
        go_wp2_with fail
        have HW0 : Hid (Kept (fun _ => True) w wr) := HK.out
        generalize wr = w4 at *
        go_loopw [10, 26] (fun _ t26 wr => ∃ (i : Nat) (B' : Lab → Option Nat), i ≤ l.length ∧ t26 = .int .i64 (i : Nat) ∧ Tb wr T (n + i) B' (gives h x (l.take i)) ∧ Stp B w wr B') (fun _ t26 _ => l.length - (intOf t26).toNat)
        case atStart => exact ⟨0, B, Nat.zero_le _, rfl, HT.out.all HW0.out, Stp.of B HW0.out⟩
        case round =>
          obtain ⟨j, B', hj, rfl, hT, hS⟩ := hrel
          have HTj : Hid (Tb wr T (n + j) B' (gives h x (l.take j))) := hT
          have HSj : Hid (Stp B w wr B') := hS
          clear hT hS
          by_cases hlt : j < l.length
          · obtain ⟨b, off, rfl, hcs⟩ := HC.out (by omega)
            obtain ⟨c0, c1⟩ := hcs j hlt
            have q0 := cell_kept HSj.out.kept c0 (fun y => HT.out.noMap (noMap_cell c0) y)
            have q1 := cell_kept HSj.out.kept c1 (fun y => HT.out.noMap (noMap_cell c0) y)
            have hzl := HL.out l[j] (List.getElem_mem hlt)
            have HTK : Hid (gives h x (l.take (j + 1)) = give (gives h x (l.take j)) x l[j].1 l[j].2) := gives_take h x l j hlt
            have j1 : (j : Int) < (l.length : Int) := by omega
            have j0 : (0 : Int) ≤ (j : Int) := by omega
            clear hcs c0 c1
            generalize l[j] = z at *
            obtain ⟨c, wt⟩ := z
            simp only at q0 q1 hzl
            have HK2 : Hid (Kept (fun _ => True) wr (wr.alloc (.cells #[.string ⟨c.toArray⟩, .bool wt] 244))) := (Kept.refl _ _).alloc _
            have cg := give_any (HTj.out.all HK2.out) hx hzl wt (by omega)
            go_wp2_with fail
            refine Calls.mono cg ?_
            rintro e w2 ⟨rfl, B2, t2, s2⟩
            clear cg
            have HT2 : Hid (Tb w2 T (n + (j + 1)) B2 (gives h x (l.take (j + 1)))) := by
              show Tb _ _ _ _ _
              rw [HTK.out]
              exact t2
            have HS2 : Hid (Stp B w w2 B2) := (HSj.out.then HK2.out).trans s2
            clear t2 s2
            go_wp2_with fail
            go_roundw
            case rel => exact ⟨j + 1, B2, by omega, by go_num, HT2.out, HS2.out⟩
            case measure => simp [intOf]; omega
          · have j1 : ¬ (j : Int) < (l.length : Int) := by omega
            obtain rfl : j = l.length := by omega
            have HG : Hid (gives h x (l.take l.length) = gives h x l) := by
              show _ = _
              rw [List.take_length]
            go_wp2_with fail
            go_ret
            have := HTj.out
            rw [HG.out] at this
            exact ⟨0, rfl, gives h x l, .inr (.inr ⟨HX.out, HAll.out, rfl, rfl⟩), B', this, HSj.out⟩

end Go.Proofs.YtenejaghgehnoaaGreatDoor

namespace Go.Proofs.YtenejaghgehnoaaGreatDoor
open Go.RowKit Go.Maps

/-- f without a, b. -/
def cutF {α : Type} (f : List UInt8 → List UInt8 → Option α) (a b : List UInt8) : List UInt8 → List UInt8 → Option α := fun x y => if x = a ∧ y = b then none else f x y

section
variable {α : Type} {C : Cde α} {s : Bool} {w w' : World} {n : Nat} {B : Lab → Option Nat} {f f' : List UInt8 → List UInt8 → Option α} {a b : List UInt8}
theorem cutF_row : cutF f a b a = cutM (f a) b := by
  funext y
  simp [cutF, cutM]
theorem cutF_other {x : List UInt8} (hx : x ≠ a) : cutF f a b x = f x := by
  funext y
  simp [cutF, hx]
theorem Sd.cut_old (S : Sd C s w n B f) (hA : ∀ x y b, B (s, x) = some b → B (s, y) = some b → x = y) {k : Nat} (hk : B (s, some a) = some k) (m : Mp C w' k n (cutM (f a) b)) (kp : Kept (· ≠ k) w w') (he : ∃ y, cutM (f a) b y ≠ none) :
    Sd C s w' n B (cutF f a b) ∧ Puts s B w w' B := by
  obtain ⟨H, hH, mo⟩ := S.out
  have hne : ∀ x q, B (s, x) = some q → x ≠ some a → q ≠ k := fun x q hq hx e => hx (hA x (some a) k (e ▸ hq) hk)
  refine ⟨⟨⟨H, hH, mo.kept kp (hne none H hH (by simp))⟩, fun x q hq => ?_, fun x hx y => ?_, fun x q hq => ?_⟩, kp.mono (fun i _ hi e => hi (some a) (e ▸ hk)), fun _ _ => rfl, rfl, hA, fun _ _ e => .inl e⟩
  · by_cases hx : x = a
    · subst hx
      rw [hk] at hq
      cases hq
      rw [cutF_row]
      exact m
    · rw [cutF_other hx]
      exact (S.inn x q hq).kept kp (hne _ q hq (by simpa using hx))
  · have hxa : x ≠ a := by rintro rfl; rw [hk] at hx; cases hx
    rw [cutF_other hxa]
    exact S.non x hx y
  · by_cases hx : x = a
    · subst hx
      rw [cutF_row]
      exact he
    · rw [cutF_other hx]
      exact S.any x q hq
/-- The map of a is struck from its side. -/
theorem Sd.strike (S : Sd C s w n B f) (hA : ∀ x y b, B (s, x) = some b → B (s, y) = some b → x = y) {H : Nat} (hH : B (s, none) = some H) (mo : Mp codeM w' H n (cutM (fun x => (B (s, some x)).map some) a)) (kp : Kept (fun k => k ≠ H ∧ B (s, some a) ≠ some k) w w') (h0 : ∀ y, f' a y = none) (h1 : ∀ x, x ≠ a → f' x = f x) :
    Sd C s w' n (upB B (s, some a) none) f' ∧ Puts s B w w' (upB B (s, some a) none) := by
  have hn0 : (s, none) ≠ ((s, some a) : Lab) := by simp
  have hof : ∀ x k, upB B (s, some a) none (s, x) = some k → B (s, x) = some k ∧ x ≠ some a := by
    intro x k e
    by_cases hx : x = some a
    · subst hx
      rw [upB_same] at e
      cases e
    · rw [upB_other _ _ (by simpa using hx)] at e
      exact ⟨e, hx⟩
  refine ⟨⟨⟨H, by rw [upB_other _ _ hn0]; exact hH, ?_⟩, fun x k e => ?_, fun x e y => ?_, fun x k e => ?_⟩, kp.mono (fun i hi h => ⟨fun e => h none (e ▸ hH), h (some a)⟩), fun x hx => upB_other _ _ (fun e => hx (by rw [e])), upB_other _ _ hn0, fun x y k e1 e2 => hA x y k (hof x k e1).1 (hof y k e2).1, fun x k e => .inl (hof x k e).1⟩
  · refine mo.congr fun x => ?_
    by_cases hx : x = a
    · subst hx
      rw [upB_same]
      simp [cutM]
    · rw [upB_other _ _ (by simpa using hx)]
      simp [cutM, hx]
  · obtain ⟨e, hx⟩ := hof _ k e
    rw [h1 x (by simpa using hx)]
    exact (S.inn x k e).kept kp ⟨fun h => by have := hA (some x) none k e (h ▸ hH); simp at this, fun h => hx (hA (some x) (some a) k e h)⟩
  · by_cases hx : x = a
    · subst hx
      exact h0 y
    · rw [upB_other _ _ (by simpa using hx)] at e
      rw [h1 x hx]
      exact S.non x e y
  · obtain ⟨e, hx⟩ := hof _ k e
    rw [h1 x (by simpa using hx)]
    exact S.any x k e
end

/-- One side alone is turned. -/
theorem Tw.oneL {w w1 : World} {T n : Nat} {B B1 : Lab → Option Nat} {f f' : Lk} {g : List UInt8 → List UInt8 → Option Unit} (t : Tw w T n B f g) (SL : Sd codeH false w1 n B1 f') (P1 : Puts false B w w1 B1) : Tw w1 T n B1 f' g ∧ Stp B w w1 B1 := by
  have o1 : ∀ x, B1 (true, x) = B (true, x) := fun x => P1.other (true, x) (by simp)
  have sr : Sd codeU true w1 n B1 g := (t.right.labels o1).kept P1.kept (fun x b e y e2 => by
    rw [o1] at e
    have := t.apart _ _ b e e2
    simp at this)
  refine t.two SL P1 sr ⟨Kept.refl _ _, fun _ _ => rfl, rfl, fun x y b e1 e2 => ?_, fun _ _ e => .inl e⟩
  rw [o1] at e1 e2
  have := t.apart _ _ b e1 e2
  simpa using this
theorem Tw.oneR {w w1 : World} {T n : Nat} {B B1 : Lab → Option Nat} {f : Lk} {g g' : List UInt8 → List UInt8 → Option Unit} (t : Tw w T n B f g) (SR : Sd codeU true w1 n B1 g') (P1 : Puts true B w w1 B1) : Tw w1 T n B1 f g' ∧ Stp B w w1 B1 := by
  refine t.two t.left ⟨Kept.refl _ _, fun _ _ => rfl, rfl, fun x y b e1 e2 => ?_, fun _ _ e => .inl e⟩ SR P1
  have := t.apart _ _ b e1 e2
  simpa using this

set_option maxRecDepth 100000 in
set_option maxHeartbeats 1000000 in
theorem leave_any {w : World} {T n : Nat} {B : Lab → Option Nat} {f : Lk} {g : List UInt8 → List UInt8 → Option Unit} (t : Tw w T n B f g) {x c : List UInt8} (hx : x.length ≤ 9223372036854775807) (hc : c.length ≤ 9223372036854775807) (hf : f c x ≠ none) :
    Calls Tryz.prog 153 #[.pointer (some ⟨T, 0, none⟩), .string ⟨x.toArray⟩, .string ⟨c.toArray⟩] w fun e w' => e = .returned (.tuple #[]) ∧ ∃ B', Tw w' T n B' (cutF f c x) g ∧ Stp B w w' B' ∧ (∀ y, B' (true, y) = B (true, y)) ∧ Kept (fun k => ∀ y, B (false, y) ≠ some k) w w' := by
  obtain ⟨H, D, hH, hD, hs⟩ := t.self
  have hA : ∀ x y b, B (false, x) = some b → B (false, y) = some b → x = y := fun x y b e1 e2 => by
    have := t.apart _ _ b e1 e2
    simpa using this
  obtain ⟨k, hk⟩ := Option.ne_none_iff_exists'.1 ((t.left.has c).2 ⟨x, hf⟩)
  have hl := t.left.look1 hH Tryz.underlying183 (zeroMapH w) hc
  rw [hk] at hl
  obtain ⟨w1, hdr, m1, k1, z1⟩ := (t.left.inn c k hk).drop Tryz.underlying247 hx 0
  have hkH : k ≠ H := fun e => by have := hA (some c) none k hk (e ▸ hH); simp at this
  have hmo := (t.left.whole hH).kept k1 (Ne.symm hkH)
  have hl1 := hmo.look1 Tryz.underlying183 (z := none) (zeroMapH w1) hc
  rw [hk] at hl1
  change (Instr.lookup _ _ _ false).run _ _ = .ok (.map (some k)) w1 at hl1
  obtain ⟨m, hm, hmn, hlen⟩ := m1.len Tryz.underlying247
  have c0 := (tcell hs).1
  have hTk : T ≠ k := fun e => t.self_ne _ (e ▸ hk)
  have c1 := cell_kept k1 c0 hTk
  have HT : Hid (Tw w T n B f g) := t
  have HM : Hid (Count (cutM (f c) x) m) := hm
  have HM1 : Hid (Mp codeH w1 k n (cutM (f c) x)) := m1
  have HK1 : Hid (Kept (· ≠ k) w w1) := k1
  have HA : Hid (∀ x y b, B (false, x) = some b → B (false, y) = some b → x = y) := hA
  have HKK : Hid (B (false, some c) = some k) := hk
  by_cases h0 : m = 0
  · subst h0
    obtain ⟨w2, hdr2, m2, k2, z2⟩ := hmo.drop Tryz.underlying183 hc 0
    have HE : Hid (∀ y, cutM (f c) x y = none) := hm.zero.1 rfl
    have HM2 : Hid (Mp codeM w2 H n (cutM (fun x => (B (false, some x)).map some) c)) := m2
    have HK2 : Hid (Kept (fun i => i ≠ H ∧ B (false, some c) ≠ some i) w w2) := (k1.mono (fun i _ h e => h.2 (e ▸ hk))).trans (k2.mono (fun i _ h => h.1))
    clear t hs m1 k1 hmo hm m2 k2 hA hk hf
    go_enter Tryz.func153, Tryz.ntmps153
    go_wp2_with fail
    go_end0
    obtain ⟨r1, r2⟩ := HT.out.left.strike (f' := cutF f c x) HA.out hH HM2.out HK2.out (fun y => by rw [cutF_row]; exact HE.out y) (fun x hx => cutF_other hx)
    obtain ⟨y1, y2⟩ := HT.out.oneL r1 r2
    exact ⟨rfl, _, y1, y2, fun y => r2.other (true, y) (by simp), r2.kept⟩
  · have h0' : ((m : Int) == 0) = false := by simp; omega
    have HE : Hid (∃ y, cutM (f c) x y ≠ none) := by
      refine Classical.byContradiction fun hn => h0 (hm.zero.2 fun y => Classical.byContradiction fun hy => hn ⟨y, hy⟩)
    clear t hs m1 k1 hmo hm hA hk hf
    go_enter Tryz.func153, Tryz.ntmps153
    go_wp2_with fail
    go_end0
    obtain ⟨r1, r2⟩ := HT.out.left.cut_old HA.out HKK.out HM1.out HK1.out HE.out
    obtain ⟨y1, y2⟩ := HT.out.oneL r1 r2
    exact ⟨rfl, _, y1, y2, fun y => rfl, r2.kept⟩

end Go.Proofs.YtenejaghgehnoaaGreatDoor

namespace Go.Proofs.YtenejaghgehnoaaGreatDoor
open Go.RowKit Go.Maps

/-- Who holds what while x is taken from its cases: those that are left stand. -/
def leftF (h : Lk) (x : List UInt8) (left : Lit → Bool) : Lk := fun c y => if y = x ∧ left (.string c) = false then none else h c y
theorem leftF_cut (h : Lk) (x c : List UInt8) (left : Lit → Bool) : cutF (leftF h x left) c x = leftF h x (fun z => left z && !z.sameKey (.string c)) := by
  funext c' y
  unfold cutF leftF
  simp only [sameText]
  by_cases hy : y = x
  · by_cases hc : c' = c
    · simp [hy, hc]
    · simp [hy, hc]
  · simp [hy]
theorem leftF_none (h : Lk) (x : List UInt8) (left : Lit → Bool) (hl : ∀ kl, left kl = false) : leftF h x left = freed h x := by
  funext c y
  unfold leftF freed
  simp [hl]
theorem leftF_all (h : Lk) (x : List UInt8) (left : Lit → Bool) (hl : ∀ c, h c x ≠ none → left (.string c) = true) : leftF h x left = h := by
  funext c y
  unfold leftF
  split
  · rename_i e
    refine Classical.byContradiction fun hn => ?_
    have := hl c (by rw [← e.1]; exact fun e => hn e.symm)
    rw [e.2] at this
    cases this
  · rfl

set_option maxRecDepth 100000 in
set_option maxHeartbeats 2000000 in
theorem free_any {w : World} {T n : Nat} {B : Lab → Option Nat} {h : Lk} (t : Tb w T n B h) {x : List UInt8} (hx : x.length ≤ 9223372036854775807) (_ : n ≤ 1000000) (hsh : ∀ c y, h c y ≠ none → c.length ≤ 9223372036854775807) :
    Calls Tryz.prog 98 #[.pointer (some ⟨T, 0, none⟩), .string ⟨x.toArray⟩] w fun e w' => ∃ (q : Bool) (B' : Lab → Option Nat), e = .returned (.bool q) ∧ (q = true ↔ Some1 h x) ∧ Tb w' T n B' (freed h x) ∧ Stp B w w' B' := by
  obtain ⟨H, D, hH, hD, hs⟩ := t.self
  have c1 := (tcell hs).2
  have hl := t.right.look hD Tryz.underlying184 (zeroMapU w) hx
  have HT : Hid (Tb w T n B h) := t
  have HSH : Hid (∀ c y, h c y ≠ none → c.length ≤ 9223372036854775807) := hsh
  clear hsh
  cases hk : B (true, some x) with
  | none =>
    rw [hk] at hl
    change (Instr.lookup _ _ _ true).run _ _ = .ok (.tuple #[.map none, .bool false]) w at hl
    have HN : Hid (∀ c, h c x = none) := fun c => by
      have := t.right.non x hk c
      exact Classical.byContradiction fun hc => flip_none.2 hc this
    have k1 : Kept (fun _ => True) w (w.alloc (.mapIter none 0 #[] 0)) := (Kept.refl _ _).alloc _
    obtain ⟨w2, hdr, m2, k2, z2⟩ := ((t.right.whole hD).kept k1 trivial).drop Tryz.underlying184 hx 0
    have c1' := cell_kept k1 c1 trivial
    have HM2 : Hid (Mp codeM w2 D n (cutM (fun y => (B (true, some y)).map some) x)) := m2
    have HK2 : Hid (Kept (· ≠ D) (w.alloc (.mapIter none 0 #[] 0)) w2) := k2
    have HK1 : Hid (Kept (fun _ => True) w (w.alloc (.mapIter none 0 #[] 0))) := k1
    have HB : Hid (B (true, some x) = none) := hk
    have hrg := run_range_nilMap (P := Tryz.prog) w 196 9 239 Tryz.underlying196
    have hnx : ∀ ty, (Instr.next (.pointer (some ⟨w.heap.size, 0, none⟩)) false ty).run Tryz.prog (w.alloc (.mapIter none 0 #[] 0)) = _ := fun ty => run_next_nilMap _ ty 0 0 #[]
    clear t hs m2 k2 k1 hk
    go_enter Tryz.func98, Tryz.ntmps98
    go_wp2_with fail
    go_loopw [7] (fun _ wr => wr = w.alloc (.mapIter none 0 #[] 0)) (fun _ _ => 0)
    case atStart => rfl
    case round =>
      subst hrel
      go_wp2_with fail
      go_ret
      have tw := HT.out.all HK1.out
      obtain ⟨r1, r2⟩ := tw.right.strike (f' := flip (freed h x)) (fun a b k e1 e2 => by have := tw.apart _ _ k e1 e2; simpa using this) hD HM2.out (HK2.out.mono (fun i _ h => h.1)) (fun c => by simp [flip, freed]) (fun y hy => by funext c; simp [flip, freed, hy])
      obtain ⟨y1, y2⟩ := tw.oneR r1 r2
      have e : freed h x = h := by
        funext c y
        unfold freed
        split
        · rename_i e
          rw [e, HN.out c]
        · rfl
      have y3 : Tb w2 T n (upB B (true, some x) none) (freed h x) := by
        unfold Tb
        rw [e] at y1 ⊢
        exact y1
      refine ⟨false, _, rfl, ?_, y3, (Stp.of B HK1.out).trans y2⟩
      constructor
      · intro e
        simp at e
      · rintro ⟨c, hc⟩
        exact absurd (HN.out c) hc
  | some k =>
    rw [hk] at hl
    change (Instr.lookup _ _ _ true).run _ _ = .ok (.tuple #[.map (some k), .bool true]) w at hl
    have HS1 : Hid (Some1 h x) := by
      obtain ⟨c, hc⟩ := t.right.any x k hk
      exact ⟨c, flip_none.1 hc⟩
    have HB : Hid (B (true, some x) = some k) := hk
    have HD0 : Hid (B (true, none) = some D) := hD
    obtain ⟨D0, ho, hh⟩ := t.right.inn x k hk
    have HH : Hid (Holds codeU D0 (flip h x)) := hh
    have HC1 : Hid (w.cell? ⟨T, 1, none⟩ = some (.map (some D))) := c1
    clear t hs hh hk
    go_enter Tryz.func98, Tryz.ntmps98
    go_wp2_with (first | (at_range; refine wpList_range_own _ rfl _ 196 rfl 9 239 text_keyed Tryz.underlying196 _ k n D0 rfl ho ?_; intro w0 hrg0 hg0 hs0) | go_in)
    go_frame
    have hr0 : w.heap.size ≤ w.heap.size := Nat.le_refl _
    have k0 : Kept (fun _ => True) w w0 := (Kept.refl _ _).grown hg0 (fun _ _ e => by cases e)
    generalize hr : w.heap.size = r at hrg0 hr0 ⊢
    have HR : Hid (w.heap.size = r) := hr
    go_loopw [7] (fun _ wr => ∃ left cnt B', wr.ranges Tryz.prog 9 unitElem k r n D0 left cnt ∧ (∀ c, left (.string c) = true → h c x ≠ none) ∧ Tw wr T n B' (leftF h x left) (flip h) ∧ Stp B w wr B' ∧ (∀ y, B' (true, y) = B (true, y))) (fun _ wr => wr.rangeLeft k r)
    case atStart =>
      refine ⟨_, _, B, hrg0, fun c hc => ?_, ?_, Stp.of B k0, fun _ => rfl⟩
      · intro e
        have := HH.out.no c (by unfold flip; rw [e]; rfl)
        rw [hc] at this
        cases this
      · rw [leftF_all h x (Maps.has D0) (fun c hc => Maps.has_true_of_atKey (HH.out.yes c () (by
          obtain ⟨v, hv⟩ := Option.ne_none_iff_exists'.1 hc
          simp [flip, hv])))]
        exact HT.out.all k0
    case round =>
      obtain ⟨left, cnt, B', hrg, hL, htw, hst, hBt⟩ := hrel
      have HL : Hid (∀ c, left (.string c) = true → h c x ≠ none) := hL
      have HTW : Hid (Tw wr T n B' (leftF h x left) (flip h)) := htw
      have HST : Hid (Stp B w wr B') := hst
      have HBT : Hid (∀ y, B' (true, y) = B (true, y)) := hBt
      have cT := cell_kept hst.kept HC1.out HT.out.self_ne
      clear hL htw hst hBt
      go_wp2_with (first | (at_next; refine wpList_next_ranges _ rfl _ rfl 9 text_keyed unitElem (fun x : List UInt8 => .string ⟨x.toArray⟩) (fun _ : Unit => .agg #[]) (fun key kl hkey => by obtain ⟨x, rfl, _⟩ := textKey_inv hkey; exact ⟨x, rfl⟩) (fun v y hv => by obtain ⟨rfl, _⟩ := unitElem_inv hv; exact ⟨(), rfl⟩) k r n D0 left cnt rfl hrg ?_ ?_) | go_in)
      · intro _ hl0
        obtain ⟨w2, hdr, m2, k2, z2⟩ := (HTW.out.right.whole ((HBT.out none).trans HD0.out)).drop Tryz.underlying184 hx 0
        have HM2 : Hid (Mp codeM w2 D n (cutM (fun y => (B' (true, some y)).map some) x)) := m2
        have HK2 : Hid (Kept (· ≠ D) wr w2) := k2
        have HLE : Hid (leftF h x left = freed h x) := leftF_none h x left hl0
        clear m2 k2
        go_wp2_with fail
        go_ret
        have tw := HTW.out
        obtain ⟨r1, r2⟩ := tw.right.strike (f' := flip (freed h x)) (fun a b k e1 e2 => by have := tw.apart _ _ k e1 e2; simpa using this) ((HBT.out none).trans HD0.out) HM2.out (HK2.out.mono (fun i _ h => h.1)) (fun c => by simp [flip, freed]) (fun y hy => by funext c; simp [flip, freed, hy])
        obtain ⟨y1, y2⟩ := tw.oneR r1 r2
        rw [HLE.out] at y1
        exact ⟨true, _, rfl, ⟨fun _ => HS1.out, fun _ => rfl⟩, y1, HST.out.trans y2⟩
      · rintro c kl yd yp w1 cnt1 hkey hlx hv hat hrg1 hlt hg1 hs1 hen
        obtain ⟨c', ec, rfl, -⟩ := textKey_inv hkey
        obtain rfl : c = c' := by simpa using ec
        have hrm : NoMap wr r := by
          obtain ⟨es, clock, since, seen, c0, hb, F, hs, hD, hr', rest⟩ := hrg
          intro es' clock' e
          rw [hr'] at e
          simp at e
        have hrm1 : NoMap w1 r := by
          obtain ⟨es, clock, since, seen, c0, hb, F, hs, hD, hr', rest⟩ := hrg1
          intro es' clock' e
          rw [hr'] at e
          simp at e
        have kg : Kept (· ≠ r) wr w1 := (Kept.refl _ _).grown hg1 (fun i _ e h => h (by cases e; rfl))
        have hTr : T ≠ r := by
          have := HT.out.tlt
          omega
        have tw1 : Tw w1 T n B' (leftF h x left) (flip h) := HTW.out.kept kg hTr (fun y b e hb => HTW.out.noMap hrm y (hb ▸ e))
        have hcx := HL.out c hlx
        have cl := leave_any tw1 hx (HSH.out c x hcx) (by unfold leftF; simp [hlx]; exact hcx)
        have HM : Hid (wr.rangeLeft k r = cnt ∧ cnt1 < cnt) := ⟨hrg.left_eq, hlt⟩
        have HR1 : Hid (w1.ranges Tryz.prog 9 unitElem k r n D0 (fun z => left z && !z.sameKey (.string c)) cnt1) := hrg1
        have HS1' : Hid (Stp B w w1 B') := ⟨HST.out.kept.grown hg1 (fun i hi e => by cases e; omega), HST.out.news⟩
        have HNK : Hid (∀ y, B' (false, y) ≠ some k) := fun y e => by
          have := tw1.apart _ _ k e ((HBT.out (some x)).trans HB.out)
          simp at this
        have HNR : Hid (∀ y, B' (false, y) ≠ some r) := fun y => tw1.noMap hrm1 _
        clear hv hat hrg1 hg1 hs1 hrm hrm1 kg tw1 hcx ec hlt hrg
        go_wp2_with fail
        refine Calls.mono cl ?_
        rintro e w2 ⟨rfl, B2, t2, s2, o2, k2⟩
        clear cl
        have HR2 : Hid (w2.ranges Tryz.prog 9 unitElem k r n D0 (fun z => left z && !z.sameKey (.string c)) cnt1) := ranges_kept HR1.out k2 HNK.out HNR.out
        have HT2 : Hid (Tw w2 T n B2 (leftF h x (fun z => left z && !z.sameKey (.string c))) (flip h)) := by
          show Tw _ _ _ _ _ _
          rw [← leftF_cut]
          exact t2
        have HS2 : Hid (Stp B w w2 B2) := HS1'.out.trans s2
        have HO2 : Hid (∀ y, B2 (true, y) = B (true, y)) := fun y => (o2 y).trans (HBT.out y)
        clear t2 s2 o2 k2
        go_wp2_with fail
        go_roundw
        case rel =>
          refine ⟨_, _, B2, HR2.out, fun c' hc' => ?_, HT2.out, HS2.out, HO2.out⟩
          simp only [Bool.and_eq_true] at hc'
          exact HL.out c' hc'.1
        case measure =>
          rw [HR2.out.left_eq, HM.out.1]
          exact HM.out.2

end Go.Proofs.YtenejaghgehnoaaGreatDoor

namespace Go.Proofs.YtenejaghgehnoaaGreatDoor
open Go.RowKit Go.Maps

/-- What is no map is as it was. -/
def Calm (w w' : World) : Prop := Kept (NoMap w) w w'
theorem Calm.of {w w' : World} (k : Kept (fun _ => True) w w') : Calm w w' := k.mono (fun _ _ _ => trivial)
theorem Calm.refl (w : World) : Calm w w := Kept.refl _ _
theorem Calm.trans {a b c : World} (h : Calm a b) (k : Calm b c) : Calm a c :=
  Kept.then h k (fun i hi hp es clock e => hp es clock ((h.block i hi hp).symm.trans e))
theorem Calm.cell {w w' : World} (h : Calm w w') {b o : Nat} {v : Value} (hc : w.cell? ⟨b, o, none⟩ = some v) : w'.cell? ⟨b, o, none⟩ = some v := cell_kept h hc (noMap_cell hc)
theorem Calm.cells {w w' : World} (h : Calm w w') {b : Nat} {cs : Array Value} {ty : TypeId} {fr : Nat × Nat} (hc : w.heap[b]? = some (.cells cs ty fr)) : w'.heap[b]? = some (.cells cs ty fr) := (h.block b (lt_of_block hc) (noMap_cells hc)).trans hc
theorem Calm.wn {w w' : World} (h : Calm w w') {v : Value} {l : List (List UInt8 × Bool)} (a : Wn w v l) : Wn w' v l := a.kept h (fun _ hb => hb)
theorem Calm.txs {w w' : World} (h : Calm w w') {base : Nat} {v : Value} {ss : List (List UInt8)} (a : Txs w base v ss) : Txs w' base v ss := by
  refine ⟨a.1, ?_⟩
  rcases a.2 with h0 | ⟨g, cap, cur, rfl, hb, hh, rest⟩
  · exact .inl h0
  · exact .inr ⟨g, cap, cur, rfl, hb, h.cells hh, rest⟩

/-- A table that was made behind w0. -/
structure TM (w0 w : World) (T n : Nat) (B : Lab → Option Nat) (h : Lk) : Prop where
  tb : Tb w T n B h
  alone : Alone h
  top : w0.heap.size ≤ T
  low : ∀ x k, B x = some k → w0.heap.size ≤ k
  kept : Kept (fun _ => True) w0 w
  short : ∀ c y, h c y ≠ none → c.length ≤ 9223372036854775807 ∧ y.length ≤ 9223372036854775807

section
variable {w0 w w' : World} {T n m : Nat} {B B' : Lab → Option Nat} {h h' : Lk}
theorem TM.all (t : TM w0 w T n B h) (k : Kept (fun _ => True) w w') : TM w0 w' T n B h := ⟨t.tb.all k, t.alone, t.top, t.low, t.kept.trans k, t.short⟩
theorem TM.mono (t : TM w0 w T n B h) (hm : n ≤ m) : TM w0 w T m B h := ⟨Tw.mono t.tb hm, t.alone, t.top, t.low, t.kept, t.short⟩
/-- Something else was written that is none of the table's. -/
theorem TM.beside {p : Nat → Prop} (t : TM w0 w T n B h) (k : Kept p w w') (hT : p T) (hm : ∀ b es clock, w.heap[b]? = some (.map es clock) → p b) (hp : ∀ i, i < w0.heap.size → p i) : TM w0 w' T n B h :=
  ⟨Tw.kept t.tb k hT (fun x b e => by obtain ⟨es, clock, he⟩ := t.tb.isMap e; exact hm b es clock he), t.alone, t.top, t.low, t.kept.then k (fun i hi _ => hp i hi), t.short⟩
theorem TM.calm (t : TM w0 w T n B h) (s : Stp B w w' B') : Calm w w' := s.kept.mono (fun _ _ hi x => t.tb.noMap hi x)
theorem TM.step (t : TM w0 w T n B h) (s : Stp B w w' B') (tb : Tb w' T m B' h') (ha : Alone h') (hs : ∀ c y, h' c y ≠ none → c.length ≤ 9223372036854775807 ∧ y.length ≤ 9223372036854775807) : TM w0 w' T m B' h' := by
  have hz := t.kept.size
  refine ⟨tb, ha, t.top, fun x k e => ?_, t.kept.then s.kept (fun i hi _ x e => ?_), hs⟩
  · rcases s.news x k e with e | e
    · exact t.low x k e
    · omega
  · have := t.low x i e
    omega
end

/-- Rows of Wants that were made just now. -/
theorem Wn.one {w : World} {g cap : Nat} {c : List UInt8} {wt : Bool} {ty : TypeId} {fr : Nat × Nat} (h : w.heap[g]? = some (.cells #[.string ⟨c.toArray⟩, .bool wt] ty fr)) : Wn w (.slice (some ⟨g, 0, none⟩) 1 cap) [(c, wt)] := by
  refine ⟨_, _, rfl, fun _ => ⟨g, 0, rfl, fun i hi => ?_⟩⟩
  have : i = 0 := by simp at hi; omega
  subst this
  exact ⟨by simp [World.cell?, h], by simp [World.cell?, h]⟩
theorem Wn.two {w : World} {g cap : Nat} {c d : List UInt8} {wt wu : Bool} {ty : TypeId} {fr : Nat × Nat} (h : w.heap[g]? = some (.cells #[.string ⟨c.toArray⟩, .bool wt, .string ⟨d.toArray⟩, .bool wu] ty fr)) : Wn w (.slice (some ⟨g, 0, none⟩) 2 cap) [(c, wt), (d, wu)] := by
  refine ⟨_, _, rfl, fun _ => ⟨g, 0, rfl, fun i hi => ?_⟩⟩
  have : i = 0 ∨ i = 1 := by simp at hi; omega
  rcases this with rfl | rfl
  · exact ⟨by simp [World.cell?, h], by simp [World.cell?, h]⟩
  · exact ⟨by simp [World.cell?, h], by simp [World.cell?, h]⟩
theorem Takes.ok {h h' : Lk} {x : List UInt8} {l : List (List UInt8 × Bool)} {r : Int} (t : Takes h x l r h') (hx : x ≠ []) (hn : ∀ z ∈ l, ¬ Ill h x z.1 z.2) : r = 0 ∧ h' = gives h x l := by
  rcases t with ⟨h1, _⟩ | ⟨_, ⟨z, hz, h1⟩, _⟩ | ⟨_, _, h1⟩
  · exact absurd h1 hx
  · exact absurd h1 (hn z hz)
  · exact h1
end Go.Proofs.YtenejaghgehnoaaGreatDoor

namespace Go.Proofs.YtenejaghgehnoaaGreatDoor
open Go.RowKit

/-- The array of n cells g in block b. -/
def Af (w : World) (b t n : Nat) (g : Nat → Value) : Prop := w.heap[b]? = some (.cells ((List.range n).map g).toArray t (0, 0))
section
variable {w w' : World} {b t n : Nat} {g : Nat → Value}
theorem Af.lt (h : Af w b t n g) : b < w.heap.size := lt_of_block h
theorem Af.cell (h : Af w b t n g) {i : Nat} (hi : i < n) : w.cell? ⟨b, i, none⟩ = some (g i) := by
  rw [cell_of_row w b i _ _ _ h]
  simp [hi]
theorem Af.free (h : Af w b t n g) (i : Nat) : w.frozen? ⟨b, i, none⟩ = false := by
  unfold Af at h
  simp [World.frozen?, h]
theorem Af.kept {p : Nat → Prop} (h : Af w b t n g) (hk : Kept p w w') (hb : p b) : Af w' b t n g := (hk.block b h.lt hb).trans h
theorem Af.set (h : Af w b t n g) (j : Nat) (u : Value) : Af (w.setCell ⟨b, j, none⟩ u) b t n (fun i => if i = j then u else g i) := by
  have := heap_setCell_same w b j _ t u h
  unfold Af
  rw [this]
  congr 3
  apply Array.ext'
  rw [Array.toList_setIfInBounds]
  apply List.ext_getElem?
  intro i
  by_cases e : i = j
  · subst e
    by_cases hi : i < n
    · rw [List.getElem?_set_self (by simpa using hi)]
      simp [hi]
    · rw [List.getElem?_eq_none (by simp; omega), List.getElem?_eq_none (by simp; omega)]
  · rw [List.getElem?_set_ne (Ne.symm e)]
    simp 
    by_cases hi : i < n
    · simp [hi, e]
    · simp [hi]
theorem Af.congr {g' : Nat → Value} (h : Af w b t n g) (hg : ∀ i, i < n → g i = g' i) : Af w b t n g' := by
  unfold Af at *
  rw [h]
  congr 3
  apply List.map_congr_left
  intro i hi
  exact hg i (List.mem_range.1 hi)
end

end Go.Proofs.YtenejaghgehnoaaGreatDoor

namespace Go.Proofs.YtenejaghgehnoaaGreatDoor
open Go.RowKit Go.Maps

/-- What holds texts, truths or is a row of numbers may not be written. -/
structure Plainly (p : Nat → Prop) (w : World) : Prop where
  str : ∀ b o s, w.cell? ⟨b, o, none⟩ = some (.string s) → p b
  tru : ∀ b cs fr, w.heap[b]? = some (.cells cs 4 fr) → p b
  num : ∀ b cs fr, w.heap[b]? = some (.cells cs 3 fr) → p b
  u64 : ∀ b o n, w.cell? ⟨b, o, none⟩ = some (.int .u64 n) → p b
theorem Plainly.all (w : World) : Plainly (fun _ => True) w := ⟨fun _ _ _ _ => trivial, fun _ _ _ _ => trivial, fun _ _ _ _ => trivial, fun _ _ _ _ => trivial⟩
theorem Plainly.noMap (w : World) : Plainly (NoMap w) w := ⟨fun _ _ _ h => noMap_cell h, fun _ _ _ h => noMap_cells h, fun _ _ _ h => noMap_cells h, fun _ _ _ h => noMap_cell h⟩
theorem Plainly.and {p q : Nat → Prop} {w : World} (h : Plainly p w) (k : Plainly q w) : Plainly (fun i => p i ∧ q i) w :=
  ⟨fun b o s e => ⟨h.str b o s e, k.str b o s e⟩, fun b o s e => ⟨h.tru b o s e, k.tru b o s e⟩, fun b o s e => ⟨h.num b o s e, k.num b o s e⟩, fun b o s e => ⟨h.u64 b o s e, k.u64 b o s e⟩⟩
theorem Plainly.mono {p q : Nat → Prop} {w : World} (h : Plainly p w) (k : ∀ i, p i → q i) : Plainly q w :=
  ⟨fun b o s e => k _ (h.str b o s e), fun b o s e => k _ (h.tru b o s e), fun b o s e => k _ (h.num b o s e), fun b o s e => k _ (h.u64 b o s e)⟩

section
variable {p : Nat → Prop} {w w' : World} {v : Value}
theorem Av.plain {xs : List At} (h : Av w v xs) (k : Kept p w w') (hp : Plainly p w) : Av w' v xs := by
  obtain ⟨ao, cap, e, hl, hn, h⟩ := h
  refine ⟨ao, cap, e, hl, hn, fun h0 => ?_⟩
  obtain ⟨b, off, e, hb, hc⟩ := h h0
  have hpb := hp.str b _ _ (hc 0 h0).1
  refine ⟨b, off, e, Nat.lt_of_lt_of_le hb k.size, fun i hi => ?_⟩
  simp only [kept_cell k hb hpb]
  exact hc i hi
theorem Rv.plain {xs : List Ru} (h : Rv w v xs) (k : Kept p w w') (hp : Plainly p w) : Rv w' v xs := by
  obtain ⟨ao, cap, e, hl, hn, h⟩ := h
  refine ⟨ao, cap, e, hl, hn, fun h0 => ?_⟩
  obtain ⟨b, off, e, hb, hc⟩ := h h0
  have hpb := hp.str b _ _ (hc 0 h0).1
  refine ⟨b, off, e, Nat.lt_of_lt_of_le hb k.size, fun i hi => ?_⟩
  simp only [kept_cell k hb hpb]
  exact hc i hi
theorem TyV.plain {t : Ty} (h : TyV w v t) (k : Kept p w w') (hp : Plainly p w) : TyV w' v t := by
  obtain ⟨va, vs, vm, e, h1, h2, h3⟩ := h
  exact ⟨va, vs, vm, e, h1.plain k hp, h2.plain k hp, h3.plain k hp⟩
theorem Ov.plain {xs : List Oq} (h : Ov w v xs) (k : Kept p w w') (hp : Plainly p w) : Ov w' v xs := by
  obtain ⟨ao, cap, e, hl, h⟩ := h
  refine ⟨ao, cap, e, hl, fun h0 => ?_⟩
  obtain ⟨b, off, e, hb, hc⟩ := h h0
  have hpb := hp.str b _ _ (hc 0 h0).2.1
  refine ⟨b, off, e, Nat.lt_of_lt_of_le hb k.size, fun i hi => ?_⟩
  simp only [kept_cell k hb hpb]
  exact hc i hi
/-- A row stays, as far as its block does. -/
theorem Cv.typed {xs : List Value} {y : Sv} {e : TypeId} (h : Cv w y.val xs) (t : Typed w e y) (k : Kept p w w') (hp : ∀ b cs fr, w.heap[b]? = some (.cells cs e fr) → p b) : Cv w' y.val xs := by
  obtain ⟨ao, cap, e', hl, hn, h⟩ := h
  refine ⟨ao, cap, e', hl, hn, fun h0 => ?_⟩
  obtain ⟨b, off, e2, hb, hc⟩ := h h0
  have hr : y.a = some ⟨b, off, none⟩ ∧ 0 < y.n := by
    subst e2
    unfold Sv.val at e'
    simp only [Value.slice.injEq] at e'
    exact ⟨e'.1, by omega⟩
  obtain ⟨cs, fr, hcs⟩ := t _ hr.1 hr.2
  have hpb := hp b cs fr hcs
  refine ⟨b, off, e2, Nat.lt_of_lt_of_le hb k.size, fun i hi => ?_⟩
  simp only [kept_cell k hb hpb]
  exact hc i hi
theorem Sr.parts {r : Sr} {x : ByteArray} {va vd vg : Value} (e : r.val = .agg #[.string x, va, vd, vg]) : r.vals.val = va ∧ r.done.val = vd ∧ r.got.val = vg := by
  have := congrArg (fun z => match z with | Value.agg a => a.toList | _ => []) e
  simp only [Sr.val, List.cons.injEq, and_true] at this
  exact this.2
theorem StW.plain2 {r : Sr} {s : Sa} (h : StW w r s) (k : Kept p w w') (hn : ∀ b cs fr, w.heap[b]? = some (.cells cs 3 fr) → p b) (hb : ∀ b cs fr, w.heap[b]? = some (.cells cs 4 fr) → p b) : StW w' r s := by
  obtain ⟨⟨va, vd, vg, e, h1, h2, h3⟩, t1, t2, t3⟩ := h
  obtain ⟨rfl, rfl, rfl⟩ := Sr.parts e
  exact ⟨⟨_, _, _, e, h1.typed t1 k hn, h2.typed t2 k hb, h3.typed t3 k hb⟩, t1.calm k hn, t2.calm k hb, t3.calm k hb⟩
theorem StW.plain {r : Sr} {s : Sa} (h : StW w r s) (k : Kept p w w') (hp : Plainly p w) : StW w' r s := h.plain2 k hp.num hp.tru
theorem Cmap.plain2 {C n : Nat} {f : List UInt8 → Option Sa} (h : Cmap w C n f) (k : Kept p w w') (hC : p C) (hn : ∀ b cs fr, w.heap[b]? = some (.cells cs 3 fr) → p b) (hb : ∀ b cs fr, w.heap[b]? = some (.cells cs 4 fr) → p b) : Cmap w' C n f := by
  obtain ⟨fv, m, h1, h2⟩ := h
  exact ⟨fv, m.kept k hC, h1, fun x r s e1 e2 => (h2 x r s e1 e2).plain2 k hn hb⟩
theorem Cmap.plain {C n : Nat} {f : List UInt8 → Option Sa} (h : Cmap w C n f) (k : Kept p w w') (hC : p C) (hp : Plainly p w) : Cmap w' C n f := by
  obtain ⟨fv, m, h1, h2⟩ := h
  exact ⟨fv, m.kept k hC, h1, fun x r s e1 e2 => (h2 x r s e1 e2).plain k hp⟩
theorem Cmap.all {C n : Nat} {f : List UInt8 → Option Sa} (h : Cmap w C n f) (k : Kept (fun _ => True) w w') : Cmap w' C n f := h.plain k trivial (Plainly.all w)
theorem Cmap.lt {C n : Nat} {f : List UInt8 → Option Sa} (h : Cmap w C n f) : C < w.heap.size := by obtain ⟨fv, m, _⟩ := h; exact m.lt
theorem Cmap.isMap {C n : Nat} {f : List UInt8 → Option Sa} (h : Cmap w C n f) : ∃ es clock, w.heap[C]? = some (.map es clock) := by obtain ⟨fv, m, _⟩ := h; exact m.isMap
theorem Cmap.mono {C n m : Nat} {f : List UInt8 → Option Sa} (h : Cmap w C n f) (hm : n ≤ m) : Cmap w C m f := by
  obtain ⟨fv, q, h1, h2⟩ := h
  exact ⟨fv, q.mono hm, h1, h2⟩
theorem Cmap.congr {C n : Nat} {f g : List UInt8 → Option Sa} (h : Cmap w C n f) (hg : ∀ x, g x = f x) : Cmap w C n g := by
  obtain rfl : g = f := funext hg
  exact h
theorem Cmap.made (w : World) : Cmap (w.alloc (.map #[] 0)) w.heap.size 0 (fun _ => none) := ⟨fun _ => none, Mp.made codeS w, fun _ => ⟨fun _ => rfl, fun _ => rfl⟩, fun _ _ _ e _ => by cases e⟩
/-- A state that was made just now is fit for a shard. -/
theorem StO.typed {base : Nat} {s : Sa} (h : StO w base v s) (f : Few s) : ∃ r : Sr, v = r.val ∧ StW w r s := by
  obtain ⟨va, vd, vg, rfl, so⟩ := h
  have hv := so.view f
  obtain ⟨ao, ac, rfl, _⟩ := hv.1.ints
  obtain ⟨dd, dc, rfl, _⟩ := hv.2.1.bools
  obtain ⟨gg, gc, rfl, _⟩ := hv.2.2.bools
  have key : ∀ {e : TypeId} {o : Option Addr} {n c N : Nat} {xs : List Value}, w.ownsRow base e 1 (.slice o n c) N xs → Typed w e ⟨o, n, c⟩ := fun {e o n c N xs} h a ha hn => by
    rcases h.2 with ⟨q, _⟩ | ⟨g, cap, cur, q, hb, hg, _⟩
    · simp only [Value.slice.injEq] at q
      dsimp only at ha
      rw [q.1] at ha
      cases ha
    · simp only [Value.slice.injEq] at q
      dsimp only at ha
      rw [q.1] at ha
      cases ha
      exact ⟨_, _, hg⟩
  exact ⟨⟨s.type, ⟨ao, _, ac⟩, ⟨dd, _, dc⟩, ⟨gg, _, gc⟩⟩, rfl, ⟨_, _, _, rfl, hv.1, hv.2.1, hv.2.2⟩, key so.vals, key so.done, key so.got⟩
end

/-- A row of types that is looked at. -/
def TysV (w : World) (v : Value) (ts : List Ty) : Prop :=
  ∃ ao cap, v = .slice ao ts.length cap ∧ ts.length ≤ 281474976710656 ∧ (ao = none → cap = 0) ∧ (0 < ts.length → ∃ b off, ao = some ⟨b, off, none⟩ ∧ b < w.heap.size ∧ ∀ i (h : i < ts.length), ∃ a1 n1 c1 a2 n2 c2 a3 n3 c3,
    w.cell? ⟨b, off + i * 4, none⟩ = some (.string ⟨(ts[i]).name.toArray⟩) ∧ w.cell? ⟨b, off + i * 4 + 1, none⟩ = some (.slice a1 n1 c1) ∧ w.cell? ⟨b, off + i * 4 + 2, none⟩ = some (.slice a2 n2 c2) ∧ w.cell? ⟨b, off + i * 4 + 3, none⟩ = some (.slice a3 n3 c3) ∧
    TyV w (.agg #[.string ⟨(ts[i]).name.toArray⟩, .slice a1 n1 c1, .slice a2 n2 c2, .slice a3 n3 c3]) ts[i])
section
variable {p : Nat → Prop} {w w' : World} {v : Value} {ts : List Ty}
theorem TysV.plain (h : TysV w v ts) (k : Kept p w w') (hp : Plainly p w) : TysV w' v ts := by
  obtain ⟨ao, cap, e, hl, hn, h⟩ := h
  refine ⟨ao, cap, e, hl, hn, fun h0 => ?_⟩
  obtain ⟨b, off, e, hb, hc⟩ := h h0
  have hpb : p b := by
    obtain ⟨_, _, _, _, _, _, _, _, _, h1, _⟩ := hc 0 h0
    exact hp.str b _ _ h1
  refine ⟨b, off, e, Nat.lt_of_lt_of_le hb k.size, fun i hi => ?_⟩
  obtain ⟨a1, n1, c1, a2, n2, c2, a3, n3, c3, h1, h2, h3, h4, h5⟩ := hc i hi
  simp only [kept_cell k hb hpb]
  exact ⟨a1, n1, c1, a2, n2, c2, a3, n3, c3, h1, h2, h3, h4, h5.plain k hp⟩
theorem TysV.all (h : TysV w v ts) (k : Kept (fun _ => True) w w') : TysV w' v ts := h.plain k (Plainly.all w)
theorem TysV.form (h : TysV w v ts) : ∃ ao cap, v = .slice ao ts.length cap ∧ ts.length ≤ 281474976710656 ∧ (ao = none → cap = 0) := by
  obtain ⟨ao, cap, e, hl, hn, h⟩ := h
  exact ⟨ao, cap, e, hl, hn⟩
theorem TysV.at {ao : Option Addr} {n cap : Nat} (h : TysV w (.slice ao n cap) ts) (i : Nat) (hi : i < ts.length) : ∃ b off, ao = some ⟨b, off, none⟩ ∧ b < w.heap.size ∧ ∃ a1 n1 c1 a2 n2 c2 a3 n3 c3,
    w.cell? ⟨b, off + i * 4, none⟩ = some (.string ⟨(ts[i]).name.toArray⟩) ∧ w.cell? ⟨b, off + i * 4 + 1, none⟩ = some (.slice a1 n1 c1) ∧ w.cell? ⟨b, off + i * 4 + 2, none⟩ = some (.slice a2 n2 c2) ∧ w.cell? ⟨b, off + i * 4 + 3, none⟩ = some (.slice a3 n3 c3) ∧
    TyV w (.agg #[.string ⟨(ts[i]).name.toArray⟩, .slice a1 n1 c1, .slice a2 n2 c2, .slice a3 n3 c3]) ts[i] := by
  obtain ⟨ao', cap', e, hl, hn, h⟩ := h
  cases e
  obtain ⟨b, off, e, hb, hc⟩ := h (by omega)
  exact ⟨b, off, e, hb, hc i hi⟩
/-- The first types of a row. -/
theorem TysV.take {ao : Option Addr} {n cap : Nat} (h : TysV w (.slice ao n cap) ts) (i : Nat) (hi : i ≤ ts.length) : TysV w (.slice ao i cap) (ts.take i) := by
  obtain ⟨ao', cap', e, hl, hn, h⟩ := h
  cases e
  have hm : (ts.take i).length = i := by simp; omega
  refine ⟨ao, cap, by rw [hm], by omega, hn, fun h0 => ?_⟩
  obtain ⟨b, off, e, hb, hc⟩ := h (by omega)
  refine ⟨b, off, e, hb, fun k hk => ?_⟩
  have hk' : k < ts.length := by omega
  have e : (ts.take i)[k] = ts[k] := by simp
  rw [e]
  exact hc k hk'
end

/-- v, ok := m[x], and m[x] -/
theorem Cmap.look {w : World} {C n : Nat} {f : List UInt8 → Option Sa} (h : Cmap w C n f) {x : List UInt8} (hx : x.length ≤ 9223372036854775807) :
    ∃ t a1 n1 c1 a2 n2 c2 a3 n3 c3, StW w ⟨t, ⟨a1, n1, c1⟩, ⟨a2, n2, c2⟩, ⟨a3, n3, c3⟩⟩ ((f x).getD Sa.none) ∧ ∀ (p : Nat → Prop) w', Kept p w w' → p C →
      (Instr.lookup 110 (.map (some C)) (.string ⟨x.toArray⟩) true).run Tryz.prog w' = .ok (.tuple #[.agg #[.string ⟨t.toArray⟩, .slice a1 n1 c1, .slice a2 n2 c2, .slice a3 n3 c3], .bool (f x).isSome]) w' ∧
      (Instr.lookup 110 (.map (some C)) (.string ⟨x.toArray⟩) false).run Tryz.prog w' = .ok (.agg #[.string ⟨t.toArray⟩, .slice a1 n1 c1, .slice a2 n2 c2, .slice a3 n3 c3]) w' := by
  obtain ⟨fv, m, h1, h2⟩ := h
  have L := fun (p : Nat → Prop) w' (k : Kept p w w') (hC : p C) => (m.kept k hC).look Tryz.underlying110 (zeroSt w') hx
  have L1 := fun (p : Nat → Prop) w' (k : Kept p w w') (hC : p C) => (m.kept k hC).look1 Tryz.underlying110 (zeroSt w') hx
  cases e : fv x with
  | none =>
    rw [e] at L L1
    refine ⟨[], none, 0, 0, none, 0, 0, none, 0, 0, ?_, fun p w' k hC => ⟨?_, L1 p w' k hC⟩⟩
    · rw [(h1 x).1 e]
      exact ⟨StV.none w, fun a ha => (by cases ha), fun a ha => (by cases ha), fun a ha => (by cases ha)⟩
    · rw [(h1 x).1 e]
      exact L p w' k hC
  | some r =>
    rw [e] at L L1
    obtain ⟨s, hs⟩ := Option.ne_none_iff_exists'.1 (show f x ≠ none from fun q => (by rw [(h1 x).2 q] at e; cases e))
    obtain ⟨t, ⟨a1, n1, c1⟩, ⟨a2, n2, c2⟩, ⟨a3, n3, c3⟩⟩ := r
    refine ⟨t, a1, n1, c1, a2, n2, c2, a3, n3, c3, ?_, fun p w' k hC => ⟨?_, L1 p w' k hC⟩⟩
    · rw [hs]
      exact h2 x _ s e hs
    · rw [hs]
      exact L p w' k hC
/-- m[x] = s -/
theorem Cmap.store {w : World} {C n : Nat} {f : List UInt8 → Option Sa} (h : Cmap w C n f) {x : List UInt8} (hx : x.length ≤ 9223372036854775807) (hn : n ≤ 1000000) {r : Sr} {s : Sa} (hs : StW w r s) :
    ∃ w', (Instr.mapUpdate 110 (.map (some C)) (.string ⟨x.toArray⟩) r.val).run Tryz.prog w = .ok () w' ∧ Cmap w' C (n + 1) (putM f x s) ∧ Kept (· ≠ C) w w' ∧ w'.heap.size = w.heap.size := by
  obtain ⟨es, clock, hm⟩ := h.isMap
  obtain ⟨fv, m, h1, h2⟩ := h
  obtain ⟨w', e1, m', k, z⟩ := m.store Tryz.underlying110 hx hn r
  have hp : Plainly (· ≠ C) w := (Plainly.noMap w).mono (fun i hi e => hi es clock (e ▸ hm))
  refine ⟨w', e1, ⟨_, m', fun y => ?_, fun y r' s' e2 e3 => ?_⟩, k, z⟩
  · unfold putM
    split
    · simp
    · exact h1 y
  · unfold putM at e2 e3
    split at e2
    · rename_i q
      rw [if_pos q] at e3
      cases e2
      cases e3
      exact hs.plain k hp
    · rename_i q
      rw [if_neg q] at e3
      exact (h2 y r' s' e2 e3).plain k hp
/-- delete(m, x) -/
theorem Cmap.drop {w : World} {C n : Nat} {f : List UInt8 → Option Sa} (h : Cmap w C n f) {x : List UInt8} (hx : x.length ≤ 9223372036854775807) (ty : TypeId) :
    ∃ w', (Builtin.delete_ #[110, 9] ty #[.map (some C), .string ⟨x.toArray⟩]).run Tryz.prog w = .ok (.tuple #[]) w' ∧ Cmap w' C n (cutM f x) ∧ Kept (· ≠ C) w w' ∧ w'.heap.size = w.heap.size := by
  obtain ⟨es, clock, hm⟩ := h.isMap
  obtain ⟨fv, m, h1, h2⟩ := h
  obtain ⟨w', e1, m', k, z⟩ := m.drop Tryz.underlying110 hx ty
  have hp : Plainly (· ≠ C) w := (Plainly.noMap w).mono (fun i hi e => hi es clock (e ▸ hm))
  refine ⟨w', e1, ⟨_, m', fun y => ?_, fun y r' s' e2 e3 => ?_⟩, k, z⟩
  · unfold cutM
    split
    · simp
    · exact h1 y
  · unfold cutM at e2 e3
    split at e2
    · cases e2
    · rename_i q
      rw [if_neg q] at e3
      exact (h2 y r' s' e2 e3).plain k hp
theorem Cmap.len {w : World} {C n : Nat} {f : List UInt8 → Option Sa} (h : Cmap w C n f) :
    ∃ k, Count f k ∧ k ≤ n ∧ ∀ ty, (Builtin.len_ #[110] ty #[.map (some C)]).run Tryz.prog w = .ok (.int .i64 (k : Nat)) w := by
  obtain ⟨fv, m, h1, h2⟩ := h
  obtain ⟨k, ⟨ks, a, b, c⟩, d, e⟩ := m.len Tryz.underlying110
  exact ⟨k, ⟨ks, a, b, fun x => by rw [c x]; exact not_congr (h1 x)⟩, d, e⟩
theorem Tab.plain {p : Nat → Prop} {w w' : World} (h : Tab w) (k : Kept p w w') (hp : Plainly p w) : Tab w' := by
  unfold Tab Lib.TabIs World.var? at h ⊢
  cases hg : Tryz.prog.globalNamed "internal/strconv.uint64pow10" with
  | none => simp [hg] at h
  | some g =>
    simp only [hg] at h
    simp only [Option.bind_some] at h ⊢
    cases hx : w.heap[g]? with
    | none => rw [hx] at h; cases h
    | some o =>
      rw [k.block g (lt_of_block hx) ?_]
      · exact h
      · rw [hx] at h
        cases o with
        | cells cs ty fr =>
          have h' : cs = (Lib.pow10Tab.map fun z => Value.int IntKind.u64 z).toArray := by simpa using h
          refine hp.u64 g 0 1 ?_
          have : w.cell? ⟨g, 0, none⟩ = cs[0]? := by simp [World.cell?, hx]
          rw [this, h']
          rfl
        | _ => simp at h

end Go.Proofs.YtenejaghgehnoaaGreatDoor

namespace Go.Proofs.YtenejaghgehnoaaGreatDoor
open Go.RowKit

/-- One lock. -/
structure Lo where
  t : List UInt8
  c : List UInt8
  w : Bool
/-- The locks say just what h says. -/
structure Rep (xs : List Lo) (h : Lk) : Prop where
  yes : ∀ z ∈ xs, h z.c z.t = some z.w
  all : ∀ c y, h c y ≠ none → ∃ z ∈ xs, z.c = c ∧ z.t = y
theorem Rep.nil : Rep [] (fun _ _ => none) := ⟨fun z hz => by simp at hz, fun c y e => absurd rfl e⟩
theorem Rep.ill {xs : List Lo} {h : Lk} (r : Rep xs h) {x c : List UInt8} {wr : Bool} : Ill h x c wr ↔ ∃ z ∈ xs, z.t ≠ x ∧ z.c = c ∧ (z.w = true ∨ wr = true) := by
  constructor
  · rintro ⟨y, v, h1, h2, h3⟩
    obtain ⟨z, hz, rfl, rfl⟩ := r.all c y (by rw [h2]; simp)
    have := r.yes z hz
    rw [h2] at this
    cases this
    exact ⟨z, hz, h1, rfl, h3⟩
  · rintro ⟨z, hz, h1, rfl, h3⟩
    exact ⟨z.t, z.w, h1, r.yes z hz, h3⟩
/-- What one round of Take leaves of a lock. -/
def lup (x c : List UInt8) (wr : Bool) (z : Lo) : Lo := if z.t = x ∧ z.c = c then ⟨z.t, z.c, z.w || wr⟩ else z
/-- .. and of all. -/
def lgive (xs : List Lo) (x c : List UInt8) (wr : Bool) : List Lo := xs.map (lup x c wr) ++ (if xs.any (fun z => decide (z.t = x ∧ z.c = c)) = true then [] else [⟨x, c, wr⟩])
theorem lup_tc (x c : List UInt8) (wr : Bool) (z : Lo) : (lup x c wr z).t = z.t ∧ (lup x c wr z).c = z.c := by
  unfold lup
  split <;> exact ⟨rfl, rfl⟩
theorem Rep.give {xs : List Lo} {h : Lk} (r : Rep xs h) (x c : List UInt8) (wr : Bool) : Rep (lgive xs x c wr) (give h x c wr) := by
  constructor
  · intro z hz
    rcases List.mem_append.1 hz with hz | hz
    · obtain ⟨y, hy, rfl⟩ := List.mem_map.1 hz
      rw [(lup_tc x c wr y).1, (lup_tc x c wr y).2]
      unfold lup
      by_cases e : y.t = x ∧ y.c = c
      · rw [if_pos e]
        obtain ⟨rfl, rfl⟩ := e
        rw [give_self, r.yes y hy]
        rfl
      · rw [if_neg e, give_other _ _ _ _ (fun q => e ⟨q.2, q.1⟩)]
        exact r.yes y hy
    · split at hz
      · simp at hz
      · rename_i hn
        simp only [List.mem_singleton] at hz
        subst hz
        rw [give_self]
        have : h c x = none := Classical.byContradiction fun hh => by
          obtain ⟨z, hz, e1, e2⟩ := r.all c x hh
          exact hn (List.any_eq_true.2 ⟨z, hz, by simp [e1, e2]⟩)
        rw [this]
        simp
  · intro c' y hn
    rcases give_none.1 hn with h1 | ⟨rfl, rfl⟩
    · obtain ⟨z, hz, e1, e2⟩ := r.all c' y h1
      exact ⟨lup x c wr z, List.mem_append_left _ (List.mem_map.2 ⟨z, hz, rfl⟩), by rw [(lup_tc x c wr z).2, e1], by rw [(lup_tc x c wr z).1, e2]⟩
    · by_cases ha : xs.any (fun z => decide (z.t = y ∧ z.c = c')) = true
      · obtain ⟨z, hz, e⟩ := List.any_eq_true.1 ha
        simp only [decide_eq_true_eq] at e
        exact ⟨lup y c' wr z, List.mem_append_left _ (List.mem_map.2 ⟨z, hz, rfl⟩), by rw [(lup_tc y c' wr z).2, e.2], by rw [(lup_tc y c' wr z).1, e.1]⟩
      · exact ⟨⟨y, c', wr⟩, List.mem_append_right _ (by rw [if_neg ha]; simp), rfl, rfl⟩
theorem Rep.freed {xs : List Lo} {h : Lk} (r : Rep xs h) (x : List UInt8) : Rep (xs.filter (fun z => decide (z.t ≠ x))) (freed h x) := by
  constructor
  · intro z hz
    rw [List.mem_filter] at hz
    have hne : z.t ≠ x := by simpa using hz.2
    unfold Proofs.YtenejaghgehnoaaGreatDoor.freed
    rw [if_neg hne]
    exact r.yes z hz.1
  · intro c y hn
    obtain ⟨h1, h2⟩ := freed_none.1 hn
    obtain ⟨z, hz, e1, e2⟩ := r.all c y h1
    exact ⟨z, List.mem_filter.2 ⟨hz, by simpa [e2] using h2⟩, e1, e2⟩
/-- All of l is given, one want behind the other. -/
def lgives (xs : List Lo) (x : List UInt8) : List (List UInt8 × Bool) → List Lo
  | [] => xs
  | q :: l => lgives (lgive xs x q.1 q.2) x l
/-- One lock goes ill with a want. -/
def ill1 (x : List UInt8) (q : List UInt8 × Bool) (z : Lo) : Prop := z.t ≠ x ∧ z.c = q.1 ∧ (z.w = true ∨ q.2 = true)
/-- What the document's Take answers and leaves. -/
def RTakes (xs : List Lo) (x : List UInt8) (l : List (List UInt8 × Bool)) (r : Int) (ys : List Lo) : Prop :=
  (x = [] ∧ r = 1 ∧ ys = xs) ∨ (x ≠ [] ∧ (∃ q ∈ l, ∃ z ∈ xs, ill1 x q z) ∧ r = 35 ∧ ys = xs) ∨ (x ≠ [] ∧ (∀ q ∈ l, ∀ z ∈ xs, ¬ ill1 x q z) ∧ r = 0 ∧ ys = lgives xs x l)
theorem Rep.gives {xs : List Lo} {h : Lk} (r : Rep xs h) (x : List UInt8) (l : List (List UInt8 × Bool)) : Rep (lgives xs x l) (gives h x l) := by
  induction l generalizing xs h with
  | nil => exact r
  | cons q l ih => exact ih (r.give x q.1 q.2)
theorem RTakes.rep {xs ys : List Lo} {h : Lk} (r : Rep xs h) {x : List UInt8} {l : List (List UInt8 × Bool)} {e : Int} (t : RTakes xs x l e ys) : ∃ h', Takes h x l e h' ∧ Rep ys h' := by
  rcases t with ⟨h1, rfl, rfl⟩ | ⟨h1, ⟨q, hq, z, hz, h2⟩, rfl, rfl⟩ | ⟨h1, h2, rfl, rfl⟩
  · exact ⟨h, .inl ⟨h1, rfl, rfl⟩, r⟩
  · exact ⟨h, .inr (.inl ⟨h1, ⟨q, hq, r.ill.2 ⟨z, hz, h2⟩⟩, rfl, rfl⟩), r⟩
  · refine ⟨gives h x l, .inr (.inr ⟨h1, fun q hq hi => ?_, rfl, rfl⟩), r.gives x l⟩
    obtain ⟨z, hz, h3⟩ := r.ill.1 hi
    exact h2 q hq z hz h3

end Go.Proofs.YtenejaghgehnoaaGreatDoor

namespace Go.Proofs.YtenejaghgehnoaaGreatDoor

/-! ### CRC-32, bit by bit -/
def crcStep (c : Nat) : Nat := if c % 2 = 1 then (c / 2) ^^^ 3988292384 else c / 2
def crcSteps : Nat → Nat → Nat
  | 0, c => c
  | k + 1, c => crcSteps k (crcStep c)
def crcByte (c : Nat) (b : UInt8) : Nat := crcSteps 8 (c ^^^ b.toNat)
def crcFrom (c : Nat) (bs : List UInt8) : Nat := bs.foldl crcByte c
def crcOf (bs : List UInt8) : Nat := crcFrom 4294967295 bs ^^^ 4294967295

theorem crcStep_lt (c : Nat) (h : c < 4294967296) : crcStep c < 4294967296 := by
  unfold crcStep
  split
  · exact Nat.xor_lt_two_pow (n := 32) (by omega) (by decide)
  · omega
theorem crcSteps_lt (k c : Nat) (h : c < 4294967296) : crcSteps k c < 4294967296 := by
  induction k generalizing c with
  | zero => exact h
  | succ k ih => exact ih _ (crcStep_lt c h)
theorem crcByte_lt (c : Nat) (b : UInt8) (h : c < 4294967296) : crcByte c b < 4294967296 := by
  refine crcSteps_lt 8 _ (Nat.xor_lt_two_pow (n := 32) h ?_)
  have := b.toNat_lt
  omega
theorem crcFrom_lt (c : Nat) (bs : List UInt8) (h : c < 4294967296) : crcFrom c bs < 4294967296 := by
  induction bs generalizing c with
  | nil => exact h
  | cons b bs ih => exact ih _ (crcByte_lt c b h)
theorem crcOf_lt (bs : List UInt8) : crcOf bs < 4294967296 := Nat.xor_lt_two_pow (n := 32) (crcFrom_lt _ _ (by decide)) (by decide)

end Go.Proofs.YtenejaghgehnoaaGreatDoor

namespace Go.Proofs.YtenejaghgehnoaaGreatDoor

/-! ### SHA-256 -/
def rotr (x n : Nat) : Nat := (x / 2 ^ n) ||| (x * 2 ^ (32 - n) % 4294967296)
def ssig0 (x : Nat) : Nat := rotr x 7 ^^^ rotr x 18 ^^^ (x / 8)
def ssig1 (x : Nat) : Nat := rotr x 17 ^^^ rotr x 19 ^^^ (x / 1024)
def bsig0 (x : Nat) : Nat := rotr x 2 ^^^ rotr x 13 ^^^ rotr x 22
def bsig1 (x : Nat) : Nat := rotr x 6 ^^^ rotr x 11 ^^^ rotr x 25
def ch (e f g : Nat) : Nat := (e &&& f) ^^^ ((4294967295 - e) &&& g)
def maj (a b c : Nat) : Nat := (a &&& b) ^^^ (a &&& c) ^^^ (b &&& c)

/-- The next word of the schedule. -/
def nextWord (ws : List Nat) : Nat := (ws.getD (ws.length - 16) 0 + ssig0 (ws.getD (ws.length - 15) 0) + ws.getD (ws.length - 7) 0 + ssig1 (ws.getD (ws.length - 2) 0)) % 4294967296
/-- k more words. -/
def sched : Nat → List Nat → List Nat
  | 0, ws => ws
  | k + 1, ws => sched k ws ++ [nextWord (sched k ws)]
/-- The eight words. -/
structure H8 where
  a : Nat
  b : Nat
  c : Nat
  d : Nat
  e : Nat
  f : Nat
  g : Nat
  h : Nat
def H8.ok (v : H8) : Prop := v.a < 4294967296 ∧ v.b < 4294967296 ∧ v.c < 4294967296 ∧ v.d < 4294967296 ∧ v.e < 4294967296 ∧ v.f < 4294967296 ∧ v.g < 4294967296 ∧ v.h < 4294967296
def H8.words (v : H8) : List Nat := [v.a, v.b, v.c, v.d, v.e, v.f, v.g, v.h]
def H8.t (v : H8) (k w : Nat) : Nat := (v.h + bsig1 v.e + ch v.e v.f v.g + k + w) % 4294967296
def H8.round (v : H8) (k w : Nat) : H8 := ⟨(v.t k w + bsig0 v.a + maj v.a v.b v.c) % 4294967296, v.a, v.b, v.c, (v.d + v.t k w) % 4294967296, v.e, v.f, v.g⟩
def kOf : List Nat := [0x428a2f98, 0x71374491, 0xb5c0fbcf, 0xe9b5dba5, 0x3956c25b, 0x59f111f1, 0x923f82a4, 0xab1c5ed5, 0xd807aa98, 0x12835b01, 0x243185be, 0x550c7dc3, 0x72be5d74, 0x80deb1fe, 0x9bdc06a7, 0xc19bf174, 0xe49b69c1, 0xefbe4786, 0x0fc19dc6, 0x240ca1cc, 0x2de92c6f, 0x4a7484aa, 0x5cb0a9dc, 0x76f988da, 0x983e5152, 0xa831c66d, 0xb00327c8, 0xbf597fc7, 0xc6e00bf3, 0xd5a79147, 0x06ca6351, 0x14292967, 0x27b70a85, 0x2e1b2138, 0x4d2c6dfc, 0x53380d13, 0x650a7354, 0x766a0abb, 0x81c2c92e, 0x92722c85, 0xa2bfe8a1, 0xa81a664b, 0xc24b8b70, 0xc76c51a3, 0xd192e819, 0xd6990624, 0xf40e3585, 0x106aa070, 0x19a4c116, 0x1e376c08, 0x2748774c, 0x34b0bcb5, 0x391c0cb3, 0x4ed8aa4a, 0x5b9cca4f, 0x682e6ff3, 0x748f82ee, 0x78a5636f, 0x84c87814, 0x8cc70208, 0x90befffa, 0xa4506ceb, 0xbef9a3f7, 0xc67178f2]
/-- The first i rounds. -/
def H8.rounds (v : H8) (ws : List Nat) : Nat → H8
  | 0 => v
  | i + 1 => (v.rounds ws i).round (kOf.getD i 0) (ws.getD i 0)
def H8.add (v u : H8) : H8 := ⟨(v.a + u.a) % 4294967296, (v.b + u.b) % 4294967296, (v.c + u.c) % 4294967296, (v.d + u.d) % 4294967296, (v.e + u.e) % 4294967296, (v.f + u.f) % 4294967296, (v.g + u.g) % 4294967296, (v.h + u.h) % 4294967296⟩
/-- The word of four bytes from at on. -/
def wordAt (m : List UInt8) (at_ : Nat) : Nat := (m.getD at_ 0).toNat * 16777216 + (m.getD (at_ + 1) 0).toNat * 65536 + (m.getD (at_ + 2) 0).toNat * 256 + (m.getD (at_ + 3) 0).toNat
def wordsAt (m : List UInt8) (at_ : Nat) (k : Nat) : List Nat := (List.range k).map fun i => wordAt m (at_ + 4 * i)
/-- One block. -/
def H8.block (v : H8) (m : List UInt8) (at_ : Nat) : H8 := v.add (v.rounds (sched 48 (wordsAt m at_ 16)) 64)
def h0 : H8 := ⟨0x6a09e667, 0xbb67ae85, 0x3c6ef372, 0xa54ff53a, 0x510e527f, 0x9b05688c, 0x1f83d9ab, 0x5be0cd19⟩
end Go.Proofs.YtenejaghgehnoaaGreatDoor

namespace Go.Proofs.YtenejaghgehnoaaGreatDoor

theorem xor_bits (a b : Nat) (ha : a < 4294967296) (hb : b < 4294967296) : bits BinOp.xor .u32 (a : Int) (b : Int) = ((a ^^^ b : Nat) : Int) := u32_xor_nat a b ha hb
theorem and_bits (a b : Nat) (ha : a < 4294967296) (hb : b < 4294967296) : bits BinOp.and .u32 (a : Int) (b : Int) = ((a &&& b : Nat) : Int) := u32_and_nat a b ha hb

end Go.Proofs.YtenejaghgehnoaaGreatDoor

namespace Go.Proofs.YtenejaghgehnoaaGreatDoor
open Go.RowKit

theorem crcSteps_succ (k c : Nat) : crcSteps (k + 1) c = crcStep (crcSteps k c) := by
  induction k generalizing c with
  | zero => rfl
  | succ k ih => exact ih (crcStep c)
theorem crcFrom_take (bs : List UInt8) (k : Nat) (h : k < bs.length) (c : Nat) : crcFrom c (bs.take (k + 1)) = crcByte (crcFrom c (bs.take k)) bs[k] := by
  unfold crcFrom
  rw [List.take_succ_eq_append_getElem h, List.foldl_append]
  rfl
/-- The lowest bit. -/
theorem low_bits (s : Nat) (h : s < 4294967296) : bits BinOp.and .u32 (s : Int) 1 = ((s % 2 : Nat) : Int) := by
  have := and_bits s 1 h (by decide)
  rw [Nat.and_one_is_mod] at this
  exact this

set_option maxHeartbeats 1000000 in
theorem crc_any {w : World} {ao : Option Addr} {cap : Nat} {bs : List UInt8} (hh : Has w ao bs) (hl : (bs.length : Int) ≤ 140737488355328) :
    Calls Tryz.prog 144 #[.slice ao bs.length cap] w fun e w' => e = .returned (.int .u32 (crcOf bs : Nat)) ∧ w' = w := by
  have HH : Hid (Has w ao bs) := hh
  clear hh
  go_enter Tryz.func144, Tryz.ntmps144
  go_wp2
  go_loopw [9, 3] (fun t r wr => ∃ k : Nat, k ≤ bs.length ∧ t = .int .i64 k ∧ r = .int .u32 (crcFrom 4294967295 (bs.take k) : Nat) ∧ wr = w) (fun t _ _ => bs.length - (intOf t).toNat)
  case atStart => exact ⟨0, Nat.zero_le _, rfl, rfl, rfl⟩
  case round =>
    obtain ⟨k, hk, rfl, rfl, rfl⟩ := hrel
    by_cases hlt : k < bs.length
    · obtain ⟨b1, o1, rfl, h1⟩ := has_plain HH.out (by omega)
      have c1 := h1 k hlt
      have hkl : (k : Int) < (bs.length : Int) := by omega
      have hk0 : (0 : Int) ≤ (k : Int) := by omega
      have hs := crcFrom_take bs k hlt 4294967295
      have hb := crcFrom_lt 4294967295 (bs.take k) (by decide)
      generalize crcFrom 4294967295 (bs.take k) = c at *
      have hy := (bs[k]).toNat_lt
      have hx := xor_bits c (bs[k]).toNat hb (by omega)
      generalize bs[k] = y at *
      clear h1
      go_wp2
      go_loopw [17, 3] (fun t r v => ∃ j : Nat, j ≤ 8 ∧ t = .int .i64 j ∧ r = .int .u32 (crcSteps j (c ^^^ y.toNat) : Nat) ∧ v = wr) (fun t _ _ => 8 - (intOf t).toNat)
      case atStart => exact ⟨0, Nat.zero_le _, rfl, rfl, rfl⟩
      case round =>
        obtain ⟨j, hj, rfl, rfl, rfl⟩ := hrel
        by_cases hlj : j < 8
        · have hjl : (j : Int) < 8 := by omega
          have st := crcSteps_succ j (c ^^^ y.toNat)
          have sb := crcSteps_lt j (c ^^^ y.toNat) (Nat.xor_lt_two_pow (n := 32) hb (by omega))
          generalize crcSteps j (c ^^^ y.toNat) = s at *
          have lb := low_bits s sb
          by_cases hodd : s % 2 = 1
          · have xb := xor_bits (s / 2) 3988292384 (by omega) (by decide)
            rw [hodd] at lb
            go_wp2
            go_roundw
            case rel =>
              refine ⟨j + 1, by omega, by go_num, ?_, by trivial⟩
              rw [st, crcStep, if_pos hodd]
              exact congrArg _ xb
            case measure => simp [intOf]; omega
          · have h0 : s % 2 = 0 := by omega
            rw [h0] at lb
            go_wp2
            go_roundw
            case rel =>
              refine ⟨j + 1, by omega, by go_num, ?_, by trivial⟩
              rw [st, crcStep, if_neg hodd]
              rfl
            case measure => simp [intOf]; omega
        · have hjl : ¬ ((j : Int) < 8) := by omega
          obtain rfl : j = 8 := by omega
          go_wp2
          go_roundw
          case rel =>
            refine ⟨k + 1, by omega, by go_num, ?_, by trivial⟩
            rw [hs]
            rfl
          case measure => simp [intOf]; omega
    · have hkl : ¬ ((k : Int) < (bs.length : Int)) := by omega
      obtain rfl : k = bs.length := by omega
      rw [List.take_length]
      have hb := crcFrom_lt 4294967295 bs (by decide)
      have hc : crcOf bs = crcFrom 4294967295 bs ^^^ 4294967295 := rfl
      generalize crcFrom 4294967295 bs = c at *
      have hnot : bits BinOp.xor .u32 IntKind.u32.max (c : Int) = ((c ^^^ 4294967295 : Nat) : Int) := by
        rw [Nat.xor_comm]
        exact xor_bits 4294967295 c (by decide) hb
      go_wp2
      go_ret
      exact ⟨rfl, rfl⟩

end Go.Proofs.YtenejaghgehnoaaGreatDoor

namespace Go.Proofs.YtenejaghgehnoaaGreatDoor
open Go.RowKit

/-- []byte(s) of a text. -/
theorem conv_str (w : World) (bs : List UInt8) : ∃ cap w1, (convert 9 33 (.string ⟨bs.toArray⟩)).run Tryz.prog w = .ok (.slice (some ⟨w.heap.size, 0, none⟩) bs.length cap) w1 ∧ Has w1 (some ⟨w.heap.size, 0, none⟩) bs ∧ Kept (fun _ => True) w w1 := by
  refine ⟨_, _, Lib.run_convert_string_bytes (P := Tryz.prog) w 9 33 5 ⟨bs.toArray⟩ Tryz.underlying9 Tryz.underlying33 Tryz.underlying5, ?_, ?_⟩
  · intro _
    refine ⟨_, rfl, fun j hj => ?_⟩
    rw [WideShapes.add_plain, Nat.zero_add, Lib.bytesWorld_cell w 5 ⟨bs.toArray⟩ j hj]
    simp [List.getD, List.getElem?_eq_getElem hj]
  · refine ⟨rfl, rfl, rfl, ?_, fun k hk _ => Lib.bytesWorld_at_old w _ _ k hk⟩
    rw [Lib.bytesWorld_size]
    omega

theorem low8_bits (s : Nat) (h : s < 4294967296) : bits BinOp.and .u32 (s : Int) 255 = ((s % 256 : Nat) : Int) := by
  have := and_bits s 255 h (by decide)
  rw [show (255 : Nat) = 2 ^ 8 - 1 from rfl, Nat.and_two_pow_sub_one_eq_mod] at this
  exact this

def hashOf (bs : List UInt8) : Nat := crcOf bs % 256
theorem hashOf_lt (bs : List UInt8) : hashOf bs < 256 := Nat.mod_lt _ (by decide)

set_option maxHeartbeats 400000 in
theorem hash_any {w : World} (bs : List UInt8) (hl : (bs.length : Int) ≤ 140737488355328) :
    Calls Tryz.prog 86 #[.string ⟨bs.toArray⟩] w fun e w' => e = .returned (.int .i64 (hashOf bs : Nat)) ∧ Kept (fun _ => True) w w' := by
  obtain ⟨cap, w1, hc, hh, hk⟩ := conv_str w bs
  have c := crc_any (cap := cap) hh hl
  have l := low8_bits (crcOf bs) (crcOf_lt bs)
  have hlt := hashOf_lt bs
  rw [show crcOf bs % 256 = hashOf bs from rfl] at l
  have hw : IntKind.i64.wrap (hashOf bs : Int) = (hashOf bs : Int) := by simp [IntKind.wrap, IntKind.bits, IntKind.signed]; omega
  generalize hashOf bs = h at *
  generalize crcOf bs = s at *
  clear hh
  go_enter Tryz.func86, Tryz.ntmps86
  go_wp2_with (go_at_call 144; refine Calls.mono c ?_; rintro e _ ⟨rfl, rfl⟩)
  go_ret
  exact ⟨rfl, hk⟩

def kc : List UInt8 := [49, 50, 51, 52, 53, 54, 55, 56, 57]
end Go.Proofs.YtenejaghgehnoaaGreatDoor

namespace Go.Proofs.YtenejaghgehnoaaGreatDoor
open Go.RowKit

section
variable {α : Type}
/-- What a row has under a name: the first. -/
def look : List (List UInt8 × α) → List UInt8 → Option α
  | [], _ => none
  | p :: l, x => if p.1 = x then some p.2 else look l x
def putL : List (List UInt8 × α) → List UInt8 → α → List (List UInt8 × α)
  | [], x, a => [(x, a)]
  | p :: l, x, a => if p.1 = x then (x, a) :: l else p :: putL l x a
def delL (l : List (List UInt8 × α)) (x : List UInt8) : List (List UInt8 × α) := l.filter (fun p => decide (p.1 ≠ x))
def nams (l : List (List UInt8 × α)) : List (List UInt8) := l.map Prod.fst

theorem look_none {l : List (List UInt8 × α)} {x : List UInt8} : look l x = none ↔ x ∉ nams l := by
  induction l with
  | nil => simp [look, nams]
  | cons p l ih =>
    by_cases h : p.1 = x
    · simp [look, nams, h]
    · simp only [look, if_neg h, ih, nams, List.map_cons, List.mem_cons, not_or]
      exact ⟨fun k => ⟨fun e => h e.symm, k⟩, fun k => k.2⟩
theorem look_mem {l : List (List UInt8 × α)} {x : List UInt8} {a : α} (h : look l x = some a) : (x, a) ∈ l := by
  induction l with
  | nil => cases h
  | cons p l ih =>
    by_cases e : p.1 = x
    · simp only [look, if_pos e, Option.some.injEq] at h
      subst h; subst e
      exact List.mem_cons_self ..
    · simp only [look, if_neg e] at h
      exact List.mem_cons_of_mem _ (ih h)
theorem look_append {l m : List (List UInt8 × α)} {x : List UInt8} : look (l ++ m) x = (look l x).or (look m x) := by
  induction l with
  | nil => simp [look]
  | cons p l ih =>
    by_cases h : p.1 = x
    · simp [look, h]
    · simp [look, h, ih]
theorem look_put (l : List (List UInt8 × α)) (x : List UInt8) (a : α) (y : List UInt8) : look (putL l x a) y = if y = x then some a else look l y := by
  induction l with
  | nil =>
    by_cases h : y = x
    · simp [putL, look, h]
    · simp [putL, look, h, Ne.symm h]
  | cons p l ih =>
    by_cases h : p.1 = x
    · rw [putL, if_pos h]
      by_cases e : y = x
      · simp [look, e]
      · simp [look, e, Ne.symm e, h]
    · rw [putL, if_neg h]
      by_cases e : p.1 = y
      · have : y ≠ x := fun q => h (e.trans q)
        simp [look, e, this]
      · simp only [look, if_neg e, ih]
theorem look_del (l : List (List UInt8 × α)) (x y : List UInt8) : look (delL l x) y = if y = x then none else look l y := by
  induction l with
  | nil => simp [delL, look]
  | cons p l ih =>
    unfold delL at ih ⊢
    by_cases h : p.1 = x
    · rw [List.filter_cons_of_neg (by simp [h]), ih]
      by_cases e : y = x
      · simp [e]
      · simp [e, look, h, Ne.symm e]
    · rw [List.filter_cons_of_pos (by simp [h])]
      by_cases e : p.1 = y
      · have : y ≠ x := fun q => h (e.trans q)
        simp [look, e, this]
      · simp only [look, if_neg e, ih]
theorem put_new {l : List (List UInt8 × α)} {x : List UInt8} {a : α} (h : look l x = none) : putL l x a = l ++ [(x, a)] := by
  induction l with
  | nil => rfl
  | cons p l ih =>
    by_cases e : p.1 = x
    · simp [look, e] at h
    · rw [look, if_neg e] at h
      rw [putL, if_neg e, ih h]
      rfl
theorem put_nams {l : List (List UInt8 × α)} {x : List UInt8} {a : α} (h : look l x ≠ none) : nams (putL l x a) = nams l := by
  induction l with
  | nil => exact absurd rfl h
  | cons p l ih =>
    by_cases e : p.1 = x
    · simp [putL, nams, e]
    · rw [look, if_neg e] at h
      rw [putL, if_neg e]
      simp only [nams, List.map_cons, List.cons.injEq, true_and]
      exact ih h
theorem put_nodup {l : List (List UInt8 × α)} {x : List UInt8} {a : α} (h : (nams l).Nodup) : (nams (putL l x a)).Nodup := by
  cases e : look l x with
  | none =>
    rw [put_new e]
    simp only [nams, List.map_append, List.map_cons, List.map_nil]
    refine List.nodup_append.2 ⟨h, by simp, fun a ha b hb => ?_⟩
    simp only [List.mem_singleton] at hb
    subst hb
    exact fun q => look_none.1 e (q ▸ ha)
  | some b => rw [put_nams (by rw [e]; simp)]; exact h
theorem put_length {l : List (List UInt8 × α)} {x : List UInt8} {a : α} (h : look l x ≠ none) : (putL l x a).length = l.length := by
  have := congrArg List.length (put_nams (a := a) h)
  simpa [nams] using this
theorem put_mem {l : List (List UInt8 × α)} {x : List UInt8} {a : α} {p : List UInt8 × α} (h : p ∈ putL l x a) : p = (x, a) ∨ p ∈ l := by
  induction l with
  | nil => exact .inl (by simpa [putL] using h)
  | cons q l ih =>
    by_cases e : q.1 = x
    · rw [putL, if_pos e] at h
      rcases List.mem_cons.1 h with h | h
      · exact .inl h
      · exact .inr (List.mem_cons_of_mem _ h)
    · rw [putL, if_neg e] at h
      rcases List.mem_cons.1 h with h | h
      · exact .inr (h ▸ List.mem_cons_self ..)
      · rcases ih h with h | h
        · exact .inl h
        · exact .inr (List.mem_cons_of_mem _ h)
end

/-- The type of a name. -/
def typ : List Ty → List UInt8 → Option Ty
  | [], _ => none
  | t :: l, x => if t.name = x then some t else typ l x
theorem typ_mem {ts : List Ty} {x : List UInt8} {t : Ty} (h : typ ts x = some t) : t ∈ ts ∧ t.name = x := by
  induction ts with
  | nil => cases h
  | cons u l ih =>
    by_cases e : u.name = x
    · simp only [typ, if_pos e, Option.some.injEq] at h
      subst h
      exact ⟨List.mem_cons_self .., e⟩
    · simp only [typ, if_neg e] at h
      exact ⟨List.mem_cons_of_mem _ (ih h).1, (ih h).2⟩
theorem typ_none {ts : List Ty} {x : List UInt8} : typ ts x = none ↔ ∀ t ∈ ts, t.name ≠ x := by
  induction ts with
  | nil => simp [typ]
  | cons u l ih =>
    by_cases e : u.name = x
    · simp [typ, e]
    · simp [typ, e, ih]

/-- Cases by names. -/
abbrev Css := List (List UInt8 × Sa)
/-- One operation: what is left, the text, why it is refused (0: it is not). -/
def madeP (l : Css) (o : Oq) : Option Ty → Nat → Css × List UInt8 × Nat
  | none, _ => ([], [], 38)
  | some t, most => if most ≤ l.length then ([], [], 34) else if isName o.cas = true then (l ++ [(o.cas, newP t)], [], 0) else ([], [], 31)
def doneP (l : Css) (o : Oq) (r : Sa × List UInt8 × Nat) : Css × List UInt8 × Nat := if r.2.2 = 0 then (putL l o.cas r.1, r.2.1, 0) else ([], [], r.2.2)
def goesP (l : Css) (o : Oq) (s : Sa) : Option Ty → Css × List UInt8 × Nat
  | none => ([], [], 1)
  | some t => doneP l o (applyP t s o)
def stepP (ts : List Ty) (most : Nat) (l : Css) (o : Oq) : Css × List UInt8 × Nat :=
  if o.kind = 1 then (match look l o.cas with
    | some _ => ([], [], 33)
    | none => madeP l o (typ ts o.name) most)
  else (match look l o.cas with
    | none => ([], [], 30)
    | some s => goesP l o s (typ ts s.type))
/-- What ran: what is left, the texts, which one was refused, and why. -/
structure Rn where
  left : Css
  texts : List (List UInt8)
  at' : Nat
  why : Nat
def runP (ts : List Ty) (most : Nat) : List Oq → Css → List (List UInt8) → Nat → Rn
  | [], l, xs, _ => ⟨l, xs, 0, 0⟩
  | o :: os, l, xs, i => if (stepP ts most l o).2.2 = 0 then runP ts most os (stepP ts most l o).1 (xs ++ [(stepP ts most l o).2.1]) (i + 1) else ⟨[], [], i, (stepP ts most l o).2.2⟩
def wantsP (ops : List Oq) : List (List UInt8 × Bool) := ops.map (fun o => (o.cas, decide (o.kind ≠ 5)))

/-- A shard: how it stands to hashes (0 away, 1 owned, 2 frozen), its cases, locks, what is prepared, outcomes. -/
structure Sh where
  types : List Ty
  hs : Nat → Nat
  cs : Css
  lk : List Lo
  ps : List (List UInt8 × List Oq)
  outs : List (List UInt8 × Nat)
structure Cm where
  kind : Int
  tx : List UInt8
  ops : List Oq
  at' : List Int
  lo : Int
  hi : Int
  data : List UInt8
/-- An answer but for its Data. -/
structure An where
  kind : Nat
  texts : List (List UInt8)
  at' : Int
  why : Nat
def An.of (k : Nat) : An := ⟨k, [], 0, 0⟩
def boundless : Nat := 9223372036854775807
def opsOk (c : Cm) : Bool := decide (c.ops.length ≠ 0) && decide (c.ops.length ≤ 4) && (decide (c.at'.length = 0) || decide (c.at'.length = c.ops.length)) && c.ops.all (fun o => decide (1 ≤ o.kind) && decide (o.kind ≤ 5))
def inO (lo hi : Int) : Bool := decide (0 ≤ lo) && decide (lo ≤ hi) && decide (hi ≤ 256)
def formedP (c : Cm) : Bool :=
  if c.kind = 1 then opsOk c else if c.kind = 2 then decide (c.tx ≠ []) && opsOk c else if c.kind = 3 ∨ c.kind = 4 then decide (c.tx ≠ [])
  else if c.kind = 5 ∨ c.kind = 6 ∨ c.kind = 7 then inO c.lo c.hi else false
def staleP (s : Sh) (ops : List Oq) : Bool := ops.any (fun o => decide (s.hs (hashOf o.cas) ≠ 1))
def busyP (lk : List Lo) (tx : List UInt8) (ops : List Oq) : Bool := (wantsP ops).any (fun q => lk.any (fun z => decide (z.t ≠ tx) && decide (z.c = q.1) && (z.w || q.2)))
/-- Where a refusal stands. -/
def placedP (at' : List Int) (i : Nat) : Int := if at'.length = 0 then (i : Int) else at'.getD i 0
def ranP (at' : List Int) (r : Rn) : An := if r.why = 0 then ⟨1, r.texts, 0, 0⟩ else ⟨2, [], placedP at' r.at', r.why⟩
def onceP (s : Sh) (c : Cm) : An × Sh :=
  if staleP s c.ops = true then (An.of 4, s) else if busyP s.lk [] c.ops = true then (An.of 3, s)
  else (ranP c.at' (runP s.types 32 c.ops s.cs [] 0), if (runP s.types 32 c.ops s.cs [] 0).why = 0 then { s with cs := (runP s.types 32 c.ops s.cs [] 0).left } else s)
def againP (s : Sh) (ops : List Oq) : An × Sh := (⟨1, (runP s.types boundless ops s.cs [] 0).texts, 0, 0⟩, s)
def prepareP (s : Sh) (c : Cm) : An × Sh :=
  match look s.ps c.tx with
  | some ops => againP s ops
  | none => if look s.outs c.tx ≠ none then (An.of 5, s) else if staleP s c.ops = true then (An.of 4, s) else if busyP s.lk c.tx c.ops = true then (An.of 3, s)
    else (ranP c.at' (runP s.types 32 c.ops s.cs [] 0), if (runP s.types 32 c.ops s.cs [] 0).why = 0 then { s with lk := lgives s.lk c.tx (wantsP c.ops), ps := s.ps ++ [(c.tx, c.ops)] } else s)
def freeL (lk : List Lo) (tx : List UInt8) : List Lo := lk.filter (fun z => decide (z.t ≠ tx))
def decideP (s : Sh) (tx : List UInt8) (k : Nat) : Sh := { s with lk := freeL s.lk tx, ps := delL s.ps tx, outs := putL s.outs tx k }
def commitP (s : Sh) (tx : List UInt8) : An × Sh :=
  match look s.ps tx with
  | some ops => (An.of 5, decideP { s with cs := (runP s.types boundless ops s.cs [] 0).left } tx 1)
  | none => if look s.outs tx = some 1 then (An.of 5, s) else (An.of 6, s)
def abortP (s : Sh) (tx : List UInt8) : An × Sh := if look s.outs tx = some 1 then (An.of 6, s) else (An.of 5, decideP s tx 2)
def inR (x : List UInt8) (lo hi : Int) : Bool := decide (lo ≤ (hashOf x : Int)) && decide ((hashOf x : Int) < hi)
def turnP (hs : Nat → Nat) (lo hi : Int) (k : Nat) : Nat → Nat := fun h => if lo ≤ (h : Int) ∧ (h : Int) < hi then k else hs h
/-- Stand all hashes from lo to hi so? -/
def allH (hs : Nat → Nat) (lo hi : Int) (p : Nat → Bool) : Bool := (List.range 256).all (fun h => !(decide (lo ≤ (h : Int)) && decide ((h : Int) < hi)) || p (hs h))
def freezeP (s : Sh) (lo hi : Int) : An × Sh :=
  if s.lk.any (fun z => inR z.c lo hi) = true then (An.of 3, s) else if allH s.hs lo hi (fun k => decide (k ≠ 0)) = true then (An.of 5, { s with hs := turnP s.hs lo hi 2 }) else (An.of 4, s)
def leaveP (s : Sh) (lo hi : Int) : An × Sh :=
  if allH s.hs lo hi (fun k => decide (k = 2)) = true then (An.of 5, { s with cs := s.cs.filter (fun p => !inR p.1 lo hi), hs := turnP s.hs lo hi 0 }) else (An.of 6, s)
/-- A command but Take. -/
def doP (s : Sh) (c : Cm) : An × Sh :=
  if formedP c = false then (An.of 6, s) else if c.kind = 1 then onceP s c else if c.kind = 2 then prepareP s c else if c.kind = 3 then commitP s c.tx else if c.kind = 4 then abortP s c.tx
  else if c.kind = 5 then freezeP s c.lo c.hi else if c.kind = 7 then leaveP s c.lo c.hi else (An.of 6, s)
def newS (ts : List Ty) (lo hi : Int) : Sh := ⟨ts, turnP (fun _ => 0) lo hi 1, [], [], [], []⟩

/-- What is so of cases. -/
structure Cok (ts : List Ty) (l : Css) : Prop where
  alone : (nams l).Nodup
  names : ∀ p ∈ l, isName p.1 = true
  fits : ∀ p ∈ l, ∃ t, typ ts p.2.type = some t ∧ Fit t p.2
/-- What is so of types. -/
structure Tok (ts : List Ty) : Prop where
  few : ts.length ≤ 4
  right : ∀ t ∈ ts, right t = 0
  alone : (ts.map Ty.name).Nodup
theorem Tok.good {ts : List Ty} (h : Tok ts) {x : List UInt8} {t : Ty} (ht : typ ts x = some t) : Good t := good_of (h.right t (typ_mem ht).1)
theorem apply_type {t : Ty} {s : Sa} {o : Oq} (h0 : (applyP t s o).2.2 = 0) (f : Fit t s) : (applyP t s o).1.type = s.type := by
  rw [(f.apply o h0).type, f.type]
theorem step_ok {ts : List Ty} (ht : Tok ts) {l : Css} (h : Cok ts l) {most : Nat} {o : Oq} (h0 : (stepP ts most l o).2.2 = 0) : Cok ts (stepP ts most l o).1 := by
  unfold stepP at h0 ⊢
  by_cases hk : o.kind = 1
  · rw [if_pos hk] at h0 ⊢
    cases hl : look l o.cas with
    | some s => rw [hl] at h0; cases h0
    | none =>
      rw [hl] at h0
      show Cok ts (madeP l o (typ ts o.name) most).1
      have h0 : (madeP l o (typ ts o.name) most).2.2 = 0 := h0
      cases hy : typ ts o.name with
      | none => rw [hy] at h0; cases h0
      | some t =>
        rw [hy] at h0
        unfold madeP at h0 ⊢
        dsimp only at h0 ⊢
        by_cases hm : most ≤ l.length
        · rw [if_pos hm] at h0; cases h0
        · rw [if_neg hm] at h0 ⊢
          by_cases hn : isName o.cas = true
          · rw [if_pos hn]
            have hg := ht.good hy
            refine ⟨?_, fun p hp => ?_, fun p hp => ?_⟩
            · have := put_nodup (x := o.cas) (a := newP t) h.alone
              rwa [put_new hl] at this
            · rcases List.mem_append.1 hp with hp | hp
              · exact h.names p hp
              · simp only [List.mem_singleton] at hp
                subst hp
                exact hn
            · rcases List.mem_append.1 hp with hp | hp
              · exact h.fits p hp
              · simp only [List.mem_singleton] at hp
                subst hp
                refine ⟨t, ?_, Fit.new hg⟩
                rw [(Fit.new hg).type]
                rw [(typ_mem hy).2]
                exact hy
          · rw [if_neg hn] at h0; cases h0
  · rw [if_neg hk] at h0 ⊢
    cases hl : look l o.cas with
    | none => rw [hl] at h0; cases h0
    | some s =>
      rw [hl] at h0
      obtain ⟨t, hy, hf⟩ := h.fits _ (look_mem hl)
      show Cok ts (goesP l o s (typ ts s.type)).1
      have h0 : (goesP l o s (typ ts s.type)).2.2 = 0 := h0
      have hy : typ ts s.type = some t := hy
      rw [hy] at h0 ⊢
      unfold goesP doneP at h0 ⊢
      dsimp only at h0 ⊢
      by_cases hr : (applyP t s o).2.2 = 0
      · rw [if_pos hr]
        refine ⟨put_nodup h.alone, fun p hp => ?_, fun p hp => ?_⟩
        · rcases put_mem hp with rfl | hp
          · exact h.names (o.cas, s) (look_mem hl)
          · exact h.names p hp
        · rcases put_mem hp with rfl | hp
          · exact ⟨t, by rw [apply_type hr hf]; exact hy, hf.apply o hr⟩
          · exact h.fits p hp
      · rw [if_neg hr] at h0; exact absurd h0 hr
theorem run_ok {ts : List Ty} (ht : Tok ts) {most : Nat} : ∀ {ops : List Oq} {l : Css} {xs : List (List UInt8)} {i : Nat}, Cok ts l → (runP ts most ops l xs i).why = 0 → Cok ts (runP ts most ops l xs i).left
  | [], _, _, _, h, _ => h
  | o :: os, l, xs, i, h, h0 => by
    unfold runP at h0 ⊢
    by_cases hs : (stepP ts most l o).2.2 = 0
    · rw [if_pos hs] at h0 ⊢
      exact run_ok ht (step_ok ht h hs) h0
    · rw [if_neg hs] at h0; exact absurd h0 hs

end Go.Proofs.YtenejaghgehnoaaGreatDoor

namespace Go.Proofs.YtenejaghgehnoaaGreatDoor
open Go.RowKit

def tag (x : List UInt8) : List UInt8 := 116 :: x
def tagd (lk : List Lo) : List Lo := lk.map (fun z => ⟨tag z.t, z.c, z.w⟩)
theorem tag_inj {x y : List UInt8} : tag x = tag y ↔ x = y := by simp [tag]
theorem tagd_mem {lk : List Lo} {z : Lo} : z ∈ tagd lk ↔ ∃ y ∈ lk, z = ⟨tag y.t, y.c, y.w⟩ := by
  simp only [tagd, List.mem_map]
  exact ⟨fun ⟨y, h, e⟩ => ⟨y, h, e.symm⟩, fun ⟨y, h, e⟩ => ⟨y, h, e.symm⟩⟩
section
variable {lk : List Lo} {h h' : Lk} {tx : List UInt8} {ops : List Oq}
theorem busy_ill (r : Rep (tagd lk) h) : (∃ q ∈ wantsP ops, Ill h (tag tx) q.1 q.2) ↔ busyP lk tx ops = true := by
  unfold busyP
  rw [List.any_eq_true]
  constructor
  · rintro ⟨q, hq, hi⟩
    obtain ⟨z, hz, h1, h2, h3⟩ := r.ill.1 hi
    obtain ⟨y, hy, rfl⟩ := tagd_mem.1 hz
    refine ⟨q, hq, List.any_eq_true.2 ⟨y, hy, ?_⟩⟩
    have h1' : y.t ≠ tx := fun e => h1 (by rw [e])
    simp only [Bool.and_eq_true, decide_eq_true_eq, Bool.or_eq_true]
    exact ⟨⟨h1', h2⟩, h3⟩
  · rintro ⟨q, hq, hi⟩
    obtain ⟨y, hy, e⟩ := List.any_eq_true.1 hi
    simp only [Bool.and_eq_true, decide_eq_true_eq, Bool.or_eq_true] at e
    exact ⟨q, hq, r.ill.2 ⟨⟨tag y.t, y.c, y.w⟩, tagd_mem.2 ⟨y, hy, rfl⟩, fun q => e.1.1 (tag_inj.1 q), e.1.2, e.2⟩⟩
theorem takes_of (r : Rep (tagd lk) h) {e : Int} (t : Takes h (tag tx) (wantsP ops) e h') : (busyP lk tx ops = true ∧ e = 35 ∧ h' = h) ∨ (busyP lk tx ops = false ∧ e = 0 ∧ h' = gives h (tag tx) (wantsP ops)) := by
  rcases t with ⟨a, _⟩ | ⟨_, a, b, c⟩ | ⟨_, a, b, c⟩
  · cases a
  · exact .inl ⟨(busy_ill r).1 a, b, c⟩
  · refine .inr ⟨?_, b, c⟩
    cases hb : busyP lk tx ops with
    | false => rfl
    | true =>
      obtain ⟨q, hq, hi⟩ := (busy_ill r).2 hb
      exact absurd hi (a q hq)
theorem lgive_tag (x c : List UInt8) (wr : Bool) : lgive (tagd lk) (tag x) c wr = tagd (lgive lk x c wr) := by
  unfold lgive
  have e1 : (tagd lk).map (lup (tag x) c wr) = tagd (lk.map (lup x c wr)) := by
    unfold tagd
    rw [List.map_map, List.map_map]
    apply List.map_congr_left
    intro z _
    simp only [Function.comp, lup, tag_inj]
    split <;> rfl
  have e2 : (tagd lk).any (fun z => decide (z.t = tag x ∧ z.c = c)) = lk.any (fun z => decide (z.t = x ∧ z.c = c)) := by
    unfold tagd
    rw [List.any_map]
    congr 1
    funext z
    simp [Function.comp, tag_inj]
  rw [e1, e2]
  split
  · simp
  · simp [tagd]
theorem lgives_tag (x : List UInt8) (l : List (List UInt8 × Bool)) : lgives (tagd lk) (tag x) l = tagd (lgives lk x l) := by
  induction l generalizing lk with
  | nil => rfl
  | cons q l ih =>
    unfold lgives
    rw [lgive_tag]
    exact ih
theorem rep_gives (r : Rep (tagd lk) h) (x : List UInt8) (l : List (List UInt8 × Bool)) : Rep (tagd (lgives lk x l)) (gives h (tag x) l) := by
  rw [← lgives_tag]
  exact r.gives _ _
theorem rep_freed (r : Rep (tagd lk) h) (x : List UInt8) : Rep (tagd (freeL lk x)) (freed h (tag x)) := by
  have := r.freed (tag x)
  have e : (tagd lk).filter (fun z => decide (z.t ≠ tag x)) = tagd (freeL lk x) := by
    unfold tagd freeL
    rw [List.filter_map]
    congr 1
    apply List.filter_congr
    intro z _
    simp [Function.comp, tag_inj]
  rw [e] at this
  exact this
theorem none_held (r : Rep (tagd lk) h) (hx : ∀ z ∈ lk, z.t ≠ tx) (c : List UInt8) : h c (tag tx) = none := by
  refine Classical.byContradiction fun hn => ?_
  obtain ⟨z, hz, _, e⟩ := r.all c (tag tx) hn
  obtain ⟨y, hy, rfl⟩ := tagd_mem.1 hz
  exact hx y hy (tag_inj.1 e)
theorem freed_gives {x : List UInt8} (hx : ∀ c, h c x = none) (l : List (List UInt8 × Bool)) : freed (gives h x l) x = h := by
  funext c y
  unfold freed
  split
  · rename_i e
    rw [e, hx c]
  · rename_i e
    exact gives_other e l c
theorem freed_same {x : List UInt8} (hx : ∀ c, h c x = none) : freed h x = h := by
  funext c y
  unfold freed
  split
  · rename_i e
    rw [e, hx c]
  · rfl
theorem free_same (hx : ∀ z ∈ lk, z.t ≠ tx) : freeL lk tx = lk := by
  unfold freeL
  rw [List.filter_eq_self]
  intro z hz
  simp [hx z hz]
end

end Go.Proofs.YtenejaghgehnoaaGreatDoor

namespace Go.Proofs.YtenejaghgehnoaaGreatDoor
open Go.RowKit

/-- Four cells of a box are written. -/
def put4 (w : World) (D : Nat) (a b c d : Value) : World := (((w.setCell ⟨D, 0, none⟩ a).setCell ⟨D, 1, none⟩ b).setCell ⟨D, 2, none⟩ c).setCell ⟨D, 3, none⟩ d
theorem put4_at {w : World} {D : Nat} {x y z u : Value} {T : TypeId} {fr : Nat × Nat} (h : w.heap[D]? = some (.cells #[x, y, z, u] T fr)) (a b c d : Value) : (put4 w D a b c d).heap[D]? = some (.cells #[a, b, c, d] T fr) := by
  have := set_cell (set_cell (set_cell (set_cell h 0 a) 1 b) 2 c) 3 d
  simpa [put4] using this
theorem put4_kept {p : Nat → Prop} {w : World} {D : Nat} (hp : ¬ p D) (a b c d : Value) : Kept p w (put4 w D a b c d) := ((((Kept.refl p w).setCell hp _).setCell hp _).setCell hp _).setCell hp _
theorem put4_new {p : Nat → Prop} {w0 w : World} {D : Nat} (h : Kept p w0 w) (hD : w0.heap.size ≤ D) (a b c d : Value) : Kept p w0 (put4 w D a b c d) := (((h.setNew hD _).setNew hD _).setNew hD _).setNew hD _
theorem put4_size (w : World) (D : Nat) (a b c d : Value) : (put4 w D a b c d).heap.size = w.heap.size := by simp [put4]
/-- The same box written in two worlds. -/
theorem put4_both {w2 w3 : World} {D : Nat} {x y z u : Value} {T : TypeId} {fr : Nat × Nat} (k : Kept (fun _ => True) w2 w3) (h : w2.heap[D]? = some (.cells #[x, y, z, u] T fr)) (a b c d : Value) : Kept (· < w2.heap.size) (put4 w2 D a b c d) (put4 w3 D a b c d) := by
  have h3 := (k.block D (lt_of_block h) trivial).trans h
  refine ⟨k.os, k.tape, k.output, ?_, fun i hi hp => ?_⟩
  · rw [put4_size, put4_size]; exact k.size
  · by_cases e : i = D
    · subst e
      rw [put4_at h, put4_at h3]
    · have k2 := (put4_kept (p := (· ≠ D)) (w := w2) (D := D) (by simp) a b c d).block i hp e
      have k3 := (put4_kept (p := (· ≠ D)) (w := w3) (D := D) (by simp) a b c d).block i (Nat.lt_of_lt_of_le hp k.size) e
      rw [k2, k3]
      exact k.block i hp trivial

end Go.Proofs.YtenejaghgehnoaaGreatDoor
