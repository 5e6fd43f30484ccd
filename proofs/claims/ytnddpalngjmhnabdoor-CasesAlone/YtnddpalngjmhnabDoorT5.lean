/-
  slices.Grow and Concat at rules; Right.
-/
import Derived.Test.YtnddpalngjmhnabDoorT1
import Derived.Test.YtnddpalngjmhnabDoorUGrow
import Derived.Laws.Concat
namespace Go.Proofs.YtnddpalngjmhnabDoor
open Go.RowKit

theorem rrow_cell {w : World} {b off : Nat} {ys : List Ru} (hc : ∀ i (h : i < ys.length), w.cell? ⟨b, off + i * 2, none⟩ = some (.string ⟨(ys[i]).name.toArray⟩) ∧ w.cell? ⟨b, off + i * 2 + 1, none⟩ = some (.string ⟨(ys[i]).guard.toArray⟩)) :
    ∀ j u, (rrow ys)[j]? = some u → w.cell? ((⟨b, off, none⟩ : Addr).add j) = some u := by
  intro j u hu
  rw [WideShapes.add_plain]
  have hj : j < ys.length * 2 := by
    have := (List.getElem?_eq_some_iff.1 hu).1
    rwa [rrow, flat_length rlay_len] at this
  have hi : j / 2 < ys.length := by omega
  have e := flat_get rlay_len ys (j / 2) hi (j % 2) (by omega)
  rw [show j / 2 * 2 + j % 2 = j by omega] at e
  rw [rrow, e] at hu
  obtain ⟨h1, h2⟩ := hc (j / 2) hi
  rcases Nat.mod_two_eq_zero_or_one j with h | h
  · rw [h] at hu
    rw [show off + j = off + j / 2 * 2 by omega, h1]
    exact hu
  · rw [h] at hu
    rw [show off + j = off + j / 2 * 2 + 1 by omega, h2]
    exact hu
theorem append_rules (w : World) (ty : TypeId) (base : Nat) (v : Value) (xs : List Ru) (h : Ro w base v xs) (hb : base ≤ w.heap.size) (y : Value) (ys : List Ru) (hy : Rv w y ys) (hm : xs.length + ys.length ≤ 100000000) :
    ∃ ao' cap' w', (Builtin.append_ #[24, 24] ty #[v, y]).run Tryd.prog w = .ok (.slice ao' (xs.length + ys.length) cap') w' ∧ Ro w' base (.slice ao' (xs.length + ys.length) cap') (xs ++ ys) ∧ w.grownBy w' v.ownBlock := by
  obtain ⟨i, hi, hz0, hz1, hz2⟩ := info_parts Tryd.infoRule
  obtain ⟨ao, cap, rfl, _, hn, hc⟩ := hy
  cases ao with
  | none =>
    have hc0 := hn rfl
    have h0 : ys.length = 0 := by
      rcases Nat.eq_zero_or_pos ys.length with h | h
      · exact h
      · obtain ⟨_, _, e, _⟩ := hc h; cases e
    obtain rfl := List.eq_nil_of_length_eq_zero h0
    subst hc0
    have hrun := run_append_owned_none (P := Tryd.prog) (w := w) base 24 ty 50 i 2 Tryd.underlying24 hi v xs.length (rrow xs) h
    obtain ⟨ao', cap', rfl, _⟩ := own_form h
    exact ⟨ao', cap', w, hrun, by simpa using h, ⟨rfl, rfl, rfl, Nat.le_refl _, fun _ _ _ => rfl⟩⟩
  | some ad =>
    have hsrc : ∀ j u, (rrow ys)[j]? = some u → w.cell? (ad.add j) = some u := by
      rcases Nat.eq_zero_or_pos ys.length with h0 | h0
      · obtain rfl := List.eq_nil_of_length_eq_zero h0
        intro j u hu
        simp [rrow] at hu
      · obtain ⟨b, off, e, _, hc'⟩ := hc h0
        cases e
        exact rrow_cell hc'
    obtain ⟨v', w', hr, h2, h3, _, h5⟩ := run_append_own_at (P := Tryd.prog) w base 24 ty 50 i (.agg #[.string .empty, .string .empty]) 2 32 Tryd.underlying24 hi hz0 hz1 hz2 cells_rule (by decide) v xs.length (rrow xs) h ad ys.length cap (rrow ys) (by rw [rrow, flat_length rlay_len]) hsrc (flat_one rlay_one ys) (by unfold maxLen; omega) (by omega) hb
    obtain ⟨ao', cap', rfl, _⟩ := own_form h2
    refine ⟨ao', cap', w', hr, ?_, h3⟩
    unfold Ro
    rw [rrow, List.flatMap_append, List.length_append]
    exact h2
theorem wpList_append_rules {w : World} {ops : Array Oper} {rest : List Oper} {o : Oper} {a : Act} {Q : Exit → Act → World → Prop} (hgd : o.guard = none) (sl y : Operand) (ho : o.op = .call { callee := .builtin .append, args := #[sl, y], argTypes := #[24, 24] })
    (base : Nat) (v : Value) (xs : List Ru) (hs : a.eval sl = v) (h : Ro w base v xs) (hb : base ≤ w.heap.size) (yv : Value) (hy : a.eval y = yv) (ys : List Ru) (hR : Rv w yv ys) (hm : xs.length + ys.length ≤ 100000000)
    (hK : ∀ ao' cap' w', Ro w' base (.slice ao' (xs.length + ys.length) cap') (xs ++ ys) → w.grownBy w' v.ownBlock → wpList Tryd.prog ops Q rest (a.put o.dst (.slice ao' (xs.length + ys.length) cap')) w') : wpList Tryd.prog ops Q (o :: rest) a w := by
  refine wpList_plain hgd fun K hK' => ?_
  obtain ⟨ao', cap', w', hr, h2, h3⟩ := append_rules w o.type base v xs h hb yv ys hR hm
  unfold Oper.wp execOp
  simp only [ho, resolve, invoke, builtin, Sem.run_bind, Sem.run_pure, Result.andThen_ok, List.map_toArray, List.map_cons, List.map_nil, hs, hy, hr]
  exact hK' _ _ (hK ao' cap' w' h2 h3)

/-- Two slices of rules in a row. -/
theorem two_at {w : World} {G : Nat} {x y : Value} {t : TypeId} {fr : Nat × Nat} (h : w.heap[G]? = some (.cells #[x, y] t fr)) (k : Nat) (hk : k < 2) : w.cell? ⟨G, k, none⟩ = some (if k = 0 then x else y) := by
  rcases k with _ | _ | k
  · simp [World.cell?, h]
  · simp [World.cell?, h]
  · omega

theorem size_str (w0 : World) : (sizeOf (Tryd.prog.elem 75)).run Tryd.prog w0 = .ok 1 w0 := by
  have e : Tryd.prog.elem 75 = 9 := by kernel_rfl
  rw [e]
  exact Tryd.sizeOf9 w0
set_option maxRecDepth 100000 in
theorem cut_texts {g n cap : Nat} (m : Nat) (h : m ≤ cap) (w0 : World) : (Instr.slice 75 (.slice (some ⟨g, 0, none⟩) n cap) none (some (.int .i64 (m : Int))) none).run Tryd.prog w0 = .ok (.slice (some ⟨g, 0, none⟩) m cap) w0 := by
  have := run_slice_h (P := Tryd.prog) w0 75 (some ⟨g, 0, none⟩) n cap Tryd.underlying75 .i64 m (by omega) (by omega)
  rw [this, size_str]
  simp [Result.andThen, sliced, Addr.add]
theorem Txs.few {w : World} {base g cap : Nat} {n : Nat} {ns : List (List UInt8)} (h : Txs w base (.slice (some ⟨g, 0, none⟩) n cap) ns) (i : Nat) (hi : i ≤ ns.length) (hl : ns.length ≤ 1000000) : Ns w (.slice (some ⟨g, 0, none⟩) i cap) (ns.take i) := by
  have hlen : (ns.take i).length = i := by rw [List.length_take]; omega
  obtain ⟨ao, cap', e, _, _⟩ := h.shape
  injection e with e1 e2 e3
  subst e2 e3
  have hn := h.ns (by omega)
  obtain ⟨_, _, e, _, hc⟩ := hn
  cases e
  refine ⟨some ⟨g, 0, none⟩, _, by rw [hlen], by omega, fun h0 => ?_⟩
  obtain ⟨b, off, e, hb, hx⟩ := hc (by omega)
  refine ⟨b, off, e, hb, fun j hj => ?_⟩
  rw [List.getElem_take]
  exact hx j (by omega)

/-- The names that still come. -/
theorem rns_step {ats : List At} {ns : List (List UInt8)} {i : Nat} (hi : i < ns.length) :
    rns (ats.drop i) (ns.take i) (ns.drop i) = if isName ns[i] = false then 20 else if ns[i] ∈ ns.take i then 21 else if (∃ h : i < ats.length, ranged ats[i] = false) then 23 else rns (ats.drop (i + 1)) (ns.take (i + 1)) (ns.drop (i + 1)) := by
  rw [List.drop_eq_getElem_cons hi]
  unfold rns
  have e1 : (ats.drop i).tail = ats.drop (i + 1) := by rw [List.tail_drop]
  have e2 : ns.take i ++ [ns[i]] = ns.take (i + 1) := (List.take_succ_eq_append_getElem hi).symm
  rw [e1, e2]
  have e3 : ((ats.drop i).head?.any (fun a => !ranged a) = true) ↔ ∃ h : i < ats.length, ranged ats[i] = false := by
    rw [List.head?_drop]
    by_cases h : i < ats.length
    · simp [h]
    · simp [h]
  simp only [e3]
  cases ns.drop (i + 1) <;> rfl
/-- How long a type's texts may be. -/
structure Tsz (t : Ty) : Prop where
  name : t.name.length ≤ 281474976710656
  attrs : ∀ a ∈ t.attrs, a.name.length ≤ 281474976710656
  stages : ∀ r ∈ t.stages, r.name.length ≤ 281474976710656 ∧ r.guard.length ≤ 281474976710656
  marks : ∀ r ∈ t.marks, r.name.length ≤ 281474976710656 ∧ r.guard.length ≤ 281474976710656
theorem Tsz.names {t : Ty} (h : Tsz t) : ∀ n ∈ nms t, n.length ≤ 281474976710656 := by
  intro n hn
  simp only [nms, List.mem_append, List.mem_map] at hn
  rcases hn with (⟨a, ha, rfl⟩ | ⟨a, ha, rfl⟩) | ⟨a, ha, rfl⟩
  · exact h.attrs a ha
  · exact (h.stages a ha).1
  · exact (h.marks a ha).1
theorem Tsz.guards {t : Ty} (h : Tsz t) : ∀ r ∈ t.stages ++ t.marks, r.guard.length ≤ 281474976710656 := by
  intro r hr
  rcases List.mem_append.1 hr with hr | hr
  · exact (h.stages r hr).2
  · exact (h.marks r hr).2
theorem rgs_step {ns : List (List UInt8)} {rs : List Ru} {i : Nat} (hi : i < rs.length) : rgs ns (rs.drop i) = if (chk ns (rs[i]).guard).1 ≠ 0 then (chk ns (rs[i]).guard).1 else rgs ns (rs.drop (i + 1)) := by
  rw [List.drop_eq_getElem_cons hi]
  rfl

end Go.Proofs.YtnddpalngjmhnabDoor

namespace Go.Proofs.YtnddpalngjmhnabDoor
open Go.RowKit

theorem stringX : Builder.Extra Tryd.prog stringQ_ren := { sizeBuilder := by kernel_rfl, liesBuilder := by kernel_rfl, t5 := Tryd.underlying5, a5 := Tryd.isAgg5, z5 := Tryd.sizeOf5, v5 := Tryd.zeroValue5, infoByte := by kernel_rfl, cellsByte := by kernel_rfl, sizeByte := by kernel_rfl, neB5 := by decide }
theorem Tryd.sizeBuilder : (Tryd.prog.info? 66).map (·.size) = some 2 := by kernel_rfl

set_option maxHeartbeats 1000000 in
set_option maxRecDepth 100000 in
theorem copy_used {w : World} {b : Nat} (h0 : w.cell? ⟨b, 0, none⟩ = some (.pointer (some ⟨b, 0, none⟩))) :
    Calls Tryd.prog 40 #[.pointer (some ⟨b, 0, none⟩)] w fun e w' => e = .returned (.tuple #[]) ∧ w' = w := by
  obtain ⟨j, hj, _⟩ := Option.map_eq_some_iff.1 Tryd.sizeBuilder
  go_enter Tryd.func40, Tryd.ntmps40
  go_wp2
  rw [Lib.run_neq_ptr_same w _ Tryd.underlying63 hj]
  go_wp2
  go_end0
  exact ⟨rfl, rfl⟩
set_option maxHeartbeats 1000000 in
set_option maxRecDepth 100000 in
theorem copy_fresh {w : World} {b : Nat} (h0 : w.cell? ⟨b, 0, none⟩ = some (.pointer none)) (hsh : w.shape? b = some (66, 2)) (hfz : w.frozen? ⟨b, 0, none⟩ = false) :
    Calls Tryd.prog 40 #[.pointer (some ⟨b, 0, none⟩)] w fun e w' => e = .returned (.tuple #[]) ∧ w' = w.setCell ⟨b, 0, none⟩ (.pointer (some ⟨b, 0, none⟩)) := by
  obtain ⟨j, hj, hjs⟩ := Option.map_eq_some_iff.1 Tryd.sizeBuilder
  have t70 := Tryd.underlying63
  have t164 := Tryd.underlying85
  go_enter Tryd.func40, Tryd.ntmps40
  go_wp2
  rw [Lib.run_to_unsafe w ⟨b, 0, none⟩ t70 t164 hj (by rw [hjs]; decide) hsh (Nat.zero_lt_succ 1)]
  simp only [Result.andThen]
  rw [Oper.upon_value]
  go_wp2
  rw [run_callFunc_extern Tryd.func45 (by kernel_rfl) (by kernel_rfl) (by kernel_rfl) (e := Extern.AbiNoEscape.same) (by kernel_rfl)]
  rw [Lib.run_noEscape]
  simp only [Result.andThen]
  rw [Oper.upon_value]
  go_wp2
  rw [Lib.run_from_unsafe w ⟨b, 0, none⟩ t164 t70 hj hsh stringX.liesBuilder]
  simp only [Result.andThen]
  rw [Oper.upon_value]
  go_wp2
  go_end0
  exact ⟨rfl, rfl⟩

/-- A builder in block b, whose rows lie from B on; it holds the bytes l. -/
abbrev Bu (w : World) (B b : Nat) (l : List UInt8) : Prop := Lib.IsBuilderF 66 5 B b (Lib.byteCells l) w
theorem copy_any {w : World} {B b : Nat} {l : List UInt8} (h : Bu w B b l) :
    Calls Tryd.prog 40 #[.pointer (some ⟨b, 0, none⟩)] w fun e w' => e = .returned (.tuple #[]) ∧ (Lib.BuilderAtF 66 5 B b (.pointer (some ⟨b, 0, none⟩)) (Lib.byteCells l) w' ∧ Below B w w' ∧ Lib.OthersKept 5 (some b) w w') := by
  rcases h with h | h
  · refine (copy_fresh h.cell0 h.shape h.frozen0).mono ?_
    rintro e w' ⟨rfl, rfl⟩
    exact ⟨rfl, h.used _, (Below.refl B w).setCell (p := ⟨b, 0, none⟩) h.1 _, (Lib.OthersKept.refl _ _ w).setCell ⟨b, 0, none⟩ rfl _⟩
  · refine (copy_used h.cell0).mono ?_
    rintro e w' ⟨rfl, rfl⟩
    exact ⟨rfl, h, Below.refl B _, Lib.OthersKept.refl _ _ _⟩
theorem Tryd.neBuilder : (66 : Nat) ≠ 5 := by decide
set_option maxHeartbeats 2000000 in
set_option maxRecDepth 100000 in
theorem writeS_any {w : World} {B b : Nat} {l : List UInt8} (h : Bu w B b l) (s : List UInt8) (hlen : l.length + s.length ≤ 140737488355328) (hBw : B ≤ w.heap.size) :
    Calls Tryd.prog 32 #[.pointer (some ⟨b, 0, none⟩), .string ⟨s.toArray⟩] w fun e w' => (∃ r, e = .returned (.tuple #[r, .nilIface])) ∧ Bu w' B b (l ++ s) ∧ Below B w w' ∧ Lib.OthersKept 5 (some b) w w' := by
  obtain ⟨i0, hi, hz0, hz1, hz2⟩ := info_parts Tryd.infoU8
  have cc := copy_any h
  have hll := Lib.byteCells_length l
  have hss : (⟨s.toArray⟩ : ByteArray).size = s.length := by simp [ByteArray.size]
  go_enter Tryd.func32, Tryd.ntmps32
  go_wp2_with fail
  refine Calls.mono cc ?_
  rintro e w1 ⟨rfl, h1, hb1, hk1⟩
  obtain ⟨hB, v, hbk, hown, hne⟩ := h1
  have c0 : w1.cell? ⟨b, 0, none⟩ = some (.pointer (some ⟨b, 0, none⟩)) := by rw [Lib.cell_of_heap hbk]; rfl
  have c1 : w1.cell? ⟨b, 1, none⟩ = some v := by rw [Lib.cell_of_heap hbk]; rfl
  clear cc
  go_wp2_with (at_builtin; refine Lib.wpList_append_own_stringF (P := Tryd.prog) _ rfl (.tmp 12) (.tmp 13) 64 9 rfl B 5 i0 Tryd.underlying64 Tryd.underlying9 hi hz0 hz1 hz2 _ _ _ rfl hown ⟨s.toArray⟩ rfl ?c3 ?c4 ?c5 ?_)
  case c3 => rw [hll, hss]; unfold maxLen; omega
  case c4 => rw [hll, hss]; omega
  case c5 => have := hb1.size; omega
  intro v' w2 hown' hgrow _
  have hlt : b < w1.heap.size := lt_of_block hbk
  have hb2 : w2.heap[b]? = some (.cells #[.pointer (some ⟨b, 0, none⟩), v] 66 (0, 0)) := by
    rw [hgrow.block b hlt (fun e => hne e.symm)]
    exact hbk
  have d0 : w2.cell? ⟨b, 0, none⟩ = some (.pointer (some ⟨b, 0, none⟩)) := by rw [Lib.cell_of_heap hb2]; rfl
  have d1 : w2.cell? ⟨b, 1, none⟩ = some v := by rw [Lib.cell_of_heap hb2]; rfl
  have f1 : w2.frozen? ⟨b, 1, none⟩ = false := Lib.frozen_of_heap hb2 1
  obtain ⟨ao, n', cap, rfl⟩ : ∃ ao n' cap, v' = .slice ao n' cap := by
    rcases hown'.2 with ⟨hv, _⟩ | ⟨g, cap, cur, fz, hv, _⟩
    · exact ⟨_, _, _, hv⟩
    · exact ⟨_, _, _, hv⟩
  go_wp2
  go_ret2
  refine ⟨⟨_, rfl⟩, .inr ?_, ?_, (hk1.grown hgrow (Lib.ownsRowF_kind hown)).setCell ⟨b, 1, none⟩ rfl _⟩
  · refine Lib.BuilderAtF.put (T := 66) (e := 5) hB hb2 (bs' := Lib.byteCells (l ++ s)) ?_ Tryd.neBuilder
    rw [Lib.byteCells_append, List.length_append, Lib.byteCells_length l, Lib.byteCells_length s]
    exact hown'
  · exact (hb1.grown hgrow (by have := hb1.size; omega) (fun k hk => (hown.lt k hk).1)).setCell (p := ⟨b, 1, none⟩) hB _
theorem stringB_any {w : World} {B b : Nat} {l : List UInt8} (h : Bu w B b l) (hBw : B ≤ w.heap.size) :
    Calls Tryd.prog 34 #[.pointer (some ⟨b, 0, none⟩)] w fun e w' => e = .returned (.string ⟨l.toArray⟩) ∧ Below B w w' :=
  (Any.Builder_String_any_k stringQ stringX B b l w h hBw).mono fun _ _ h => ⟨h.1, h.2.2.1⟩
/-- The table that Itoa reads. -/
abbrev Tab (w : World) : Prop := Lib.TabIs Tryd.prog w "internal/strconv.uint64pow10" .u64 Lib.pow10Tab
theorem Tab.all {w w' : World} (h : Tab w) (k : Kept (fun _ => True) w w') : Tab w' := by
  unfold Tab Lib.TabIs World.var? at h ⊢
  cases hg : Tryd.prog.globalNamed "internal/strconv.uint64pow10" with
  | none => simp [hg] at h
  | some g =>
    simp only [hg] at h
    simp only [Option.bind_some] at h ⊢
    cases hx : w.heap[g]? with
    | none => rw [hx] at h; cases h
    | some o => rw [k.block g (lt_of_block hx) trivial]; exact h
theorem kept_grow (p : Nat → Prop) (w : World) (os : Array Obj) : Kept p w (Sort.grow w os) :=
  ⟨rfl, rfl, rfl, by simp [Sort.grow], fun k hk _ => by simp [Sort.grow, Array.getElem?_append_left hk]⟩
theorem itoa_any {w : World} (n : Int) (h0 : -9223372036854775808 ≤ n) (h1 : n ≤ 9223372036854775807) (ht : Tab w) :
    Calls Tryd.prog 33 #[.int .i64 n] w fun e w' => e = .returned (.string ⟨(Lib.itoa n).toArray⟩) ∧ Kept (fun _ => True) w w' :=
  (Any.strconv_Itoa itoaQ n h0 h1 w ht).mono fun e w' h => by
    obtain ⟨h1, k, os, rfl⟩ := h
    exact ⟨h1, ((Kept.refl _ w).drewN k).trans (kept_grow _ _ os)⟩
theorem Bu.all {w w' : World} {B b : Nat} {l : List UInt8} (h : Bu w B b l) (k : Kept (fun _ => True) w w') : Bu w' B b l := by
  have key : ∀ p, Lib.BuilderAtF 66 5 B b p (Lib.byteCells l) w → Lib.BuilderAtF 66 5 B b p (Lib.byteCells l) w' := by
    rintro p ⟨h1, v, h2, ⟨h3, h4⟩, h5⟩
    refine ⟨h1, v, (k.block b (lt_of_block h2) trivial).trans h2, ⟨h3, ?_⟩, h5⟩
    rcases h4 with h4 | ⟨g, cap, cur, fz, e, hb, hh, rest⟩
    · exact .inl h4
    · exact .inr ⟨g, cap, cur, fz, e, hb, (k.block g (lt_of_block hh) trivial).trans hh, rest⟩
  rcases h with h | h
  · exact .inl (key _ h)
  · exact .inr (key _ h)

end Go.Proofs.YtnddpalngjmhnabDoor

namespace Go.Proofs.YtnddpalngjmhnabDoor
open Go.RowKit

theorem text_plus (a b : List UInt8) (h : a.length + b.length ≤ 140737488355328) (W : World) : (Op.stringOp .add ⟨a.toArray⟩ ⟨b.toArray⟩).run Tryd.prog W = .ok (.string ⟨(a ++ b).toArray⟩) W := by
  rw [run_string_add_sum (P := Tryd.prog) W _ _ (by simp only [ByteArray.size, List.size_toArray]; omega), ByteArray.mk_append_mk]
theorem text_joins (a b : List UInt8) (h : a.length + b.length ≤ 140737488355328) : ∃ y : List UInt8, Hid (y = a ++ b) ∧ ∀ W, (Op.stringOp .add ⟨a.toArray⟩ ⟨b.toArray⟩).run Tryd.prog W = .ok (.string ⟨y.toArray⟩) W := ⟨_, rfl, text_plus a b h⟩

/-- While a text is written: what was there, the box, the builder. -/
structure Wt (w wr : World) (o : Obj) (l : List UInt8) : Prop where
  kept : Kept (fun _ => True) w wr
  box : wr.heap[w.heap.size]? = some o
  bu : Bu wr (w.heap.size + 1) (w.heap.size + 1) l
theorem Bu.lt {w : World} {B b : Nat} {l : List UInt8} (h : Bu w B b l) : b < w.heap.size := by
  rcases h with h | h
  · exact h.lt
  · exact h.lt
theorem Wt.all {w wr w' : World} {o : Obj} {l : List UInt8} (h : Wt w wr o l) (k : Kept (fun _ => True) wr w') : Wt w w' o l :=
  ⟨h.kept.trans k, (k.block _ (lt_of_block h.box) trivial).trans h.box, h.bu.all k⟩
theorem Wt.write {w wr w' : World} {o : Obj} {l l' : List UInt8} (h : Wt w wr o l) (k : Below (w.heap.size + 1) wr w') (hb : Bu w' (w.heap.size + 1) (w.heap.size + 1) l') : Wt w w' o l' :=
  ⟨h.kept.then ⟨k.os, k.tape, k.output, k.size, fun i _ hp => k.block i hp⟩ (fun i hi _ => by show i < _; omega), (k.block _ (by omega)).trans h.box, hb⟩
theorem other_attr {w w' : World} {b G : Nat} {cs : Array Value} (k : Lib.OthersKept 5 (some b) w w') (hG : w.heap[G]? = some (.cells cs 48 (0, 0))) (hb : G ≠ b) : w'.heap[G]? = some (.cells cs 48 (0, 0)) :=
  k G _ hG (fun e => hb (Option.some.inj e)) (fun c fz e => by simp at e)
/-- Numbers fit. -/
def F64 (n : Int) : Prop := -9223372036854775808 ≤ n ∧ n ≤ 9223372036854775807
def Tfit (t : Ty) : Prop := ∀ a ∈ t.attrs, F64 a.start ∧ F64 a.lo ∧ F64 a.hi
def nmsOf (x : At) : List Int := [x.start, x.lo, x.hi]
def nmT (n : Int) : List UInt8 := [32] ++ Lib.itoa n
theorem semi_attr (x : At) : [59, 32, 97, 116, 116, 114, 32] ++ x.name ++ (nmsOf x).flatMap nmT = semi (pA x) := by
  simp [semi, pA, nmsOf, nmT]
theorem semi_stage (x : Ru) : [59, 32, 115, 116, 97, 103, 101, 32] ++ x.name ++ [32] ++ x.guard = semi (pS x) := by simp [semi, pS]
theorem semi_mark (x : Ru) : [59, 32, 109, 97, 114, 107, 32] ++ x.name ++ [32] ++ x.guard = semi (pM x) := by simp [semi, pM]
theorem flat_take_succ {α β : Type} (f : α → List β) (l : List α) (i : Nat) (h : i < l.length) : (l.take (i + 1)).flatMap f = (l.take i).flatMap f ++ f l[i] := by
  rw [List.take_succ_eq_append_getElem h, List.flatMap_append]
  simp
theorem itoa_len (n : Int) : (Lib.itoa n).length ≤ (Lib.itoa n).length := Nat.le_refl _

end Go.Proofs.YtnddpalngjmhnabDoor
