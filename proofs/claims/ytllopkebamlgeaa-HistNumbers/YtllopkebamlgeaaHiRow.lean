/-
  Events and calls in memory; clones; copied.
-/
import Derived.Test.YtllopkebamlgeaaIRow
import Derived.Test.YtllopkebamlgeaaHiPlain
import Derived.Deep.CutRange
namespace Go.Proofs.Ytllopkebamlgeaa
open Go.RowKit Go.Maps Go.Sort

/-- An event in memory. -/
structure Ev where
  k : Int
  cl : Int
  oa : Option Addr
  on : Nat
  oc : Nat
  out : Int
  ta : Option Addr
  tn : Nat
  tc : Nat
  ix : Int
  why : Int
def Ev.pe (e : Ev) : Pe := ⟨e.k, e.cl, e.out⟩
def evc (e : Ev) : List Value := [.int .i64 e.k, .int .i64 e.cl, .slice e.oa e.on e.oc, .int .i64 e.out, .slice e.ta e.tn e.tc, .int .i64 e.ix, .int .i64 e.why]
def evS : Shp Ev := ⟨7, evc, fun _ => rfl, fun x u hu => by
  simp only [evc, List.mem_cons, List.not_mem_nil, or_false] at hu
  rcases hu with rfl | rfl | rfl | rfl | rfl | rfl | rfl <;> rfl⟩
/-- A call in memory. -/
structure Oc where
  cl : Int
  oa : Option Addr
  on : Nat
  oc : Nat
  out : Int
  ta : Option Addr
  tn : Nat
  tc : Nat
  ix : Int
  why : Int
  fr : Int
  tz : Int
def Oc.pc (x : Oc) : Pc := ⟨x.cl, x.out, x.fr, x.tz⟩
def occ (x : Oc) : List Value := [.int .i64 x.cl, .slice x.oa x.on x.oc, .int .i64 x.out, .slice x.ta x.tn x.tc, .int .i64 x.ix, .int .i64 x.why, .int .i64 x.fr, .int .i64 x.tz]
def opS : Shp Oc := ⟨8, occ, fun _ => rfl, fun x u hu => by
  simp only [occ, List.mem_cons, List.not_mem_nil, or_false] at hu
  rcases hu with rfl | rfl | rfl | rfl | rfl | rfl | rfl | rfl <;> rfl⟩
theorem opT : ElT 22 35 8 96 (.agg #[.int .i64 0, .slice none 0 0, .int .i64 0, .slice none 0 0, .int .i64 0, .int .i64 0, .int .i64 0, .int .i64 0]) := ⟨Try.underlying22, by kernel_rfl, by simp [Value.cells], by decide, by decide⟩
/-- What an event's slices ask of memory. -/
structure EvOk (w : World) (e : Ev) : Prop where
  ops : ∃ cs, Fl w (.slice e.oa e.on e.oc) e.on 4 cs ∧ ∀ u ∈ cs, u.oneCell' = true
  texts : ∃ cs, Fl w (.slice e.ta e.tn e.tc) e.tn 1 cs ∧ ∀ u ∈ cs, u.oneCell' = true
  few : e.on ≤ 1100000 ∧ e.tn ≤ 1100000
  fit : Fits e.cl
theorem EvOk.all {w w' : World} {e : Ev} (h : EvOk w e) (k : Kept (fun _ => True) w w') : EvOk w' e := by
  obtain ⟨⟨c1, h1, o1⟩, ⟨c2, h2, o2⟩, h3, h4⟩ := h
  exact ⟨⟨c1, h1.all k, o1⟩, ⟨c2, h2.all k, o2⟩, h3, h4⟩
theorem Try.infoOp : (Try.prog.info? 52).map (fun i => (i.zero, i.size, i.bytes)) = some (some (.agg #[.int .i64 0, .string .empty, .string .empty, .int .i64 0]), 4, 48) := by kernel_rfl
theorem cells_op : (Value.agg #[.int .i64 0, .string .empty, .string .empty, .int .i64 0]).cells.size = 4 := by simp [Value.cells]
theorem Try.infoText : (Try.prog.info? 9).map (fun i => (i.zero, i.size, i.bytes)) = some (some (.string .empty), 1, 16) := by kernel_rfl
theorem cells_text : (Value.string .empty).cells.size = 1 := by simp [Value.cells]

set_option maxRecDepth 100000 in
set_option maxHeartbeats 4000000 in
theorem clone_ops {w : World} {v : Value} {n : Nat} {cs : List Value} (h : Fl w v n 4 cs) (h1 : ∀ u ∈ cs, u.oneCell' = true) (hl : n ≤ 1100000) :
    Calls Try.prog 16 #[v] w fun e w' => ∃ v', e = .returned v' ∧ w'.ownsRow w.heap.size 52 4 v' n cs ∧ Kept (fun _ => True) w w' := by
  have HC : Hid (Fl w v n 4 cs) := h
  obtain ⟨ao, cap, rfl, hcl, _, hn, hx⟩ := h
  cases ao with
  | none =>
    have h0 : n = 0 := by
      rcases Nat.eq_zero_or_pos n with h | h
      · exact h
      · obtain ⟨_, _, e, _⟩ := hx h; cases e
    subst h0
    have hcs : cs = [] := List.eq_nil_of_length_eq_zero (by omega)
    have hc := hn rfl
    subst hcs hc
    clear hn hx HC h1 hl hcl
    have qT : ∀ W : World, (binOp .eql 26 (.slice none 0 0) (.slice none 0 0)).run Try.prog W = .ok (.bool true) W := fun W => run_eql_nil_slice W 26 52 none 0 0 0 0 Try.underlying26
    go_enter Try.func16, Try.ntmps16
    go_wp2_with fail
    go_ret
    exact ⟨_, rfl, World.ownsRow_nil _ _ _ _, Kept.refl _ _⟩
  | some ad =>
    have qT : ∀ W : World, (binOp .eql 26 (.slice (some ad) n cap) (.slice none 0 0)).run Try.prog W = .ok (.bool false) W := fun W => Lib.run_eql_slice_nil W 26 52 (some ad) n cap 0 0 Try.underlying26
    have ka := (Kept.refl (fun _ => True) w).alloc (.cells #[] 52)
    have HKa : Hid _ := ka
    have HO0 : Hid _ := World.ownsRow_lit (base := w.heap.size) (e := 52) (size := 4) w #[] 0 (Nat.le_refl _) (by unfold maxLen; omega) (by simp)
    have HF : Hid (Fl _ (.slice (some ad) n cap) n 4 cs) := HC.out.all ka
    have H1 : Hid _ := h1
    clear hn hx h1 hcl HC ka
    go_enter Try.func16, Try.ntmps16
    go_wp2_with (at_builtin; refine wpList_append_flat Try.underlying26 Try.infoOp cells_op (by decide) (by decide) rfl (.tmp 5) (.tmp 6) rfl w.heap.size (.slice (some ⟨w.heap.size, 0, none⟩) 0 0) rfl HO0.out (by simp) (.slice (some ad) n cap) rfl HF.out H1.out hl ?_; intro ao' cap' w' hW hG; have HW : Hid (w'.ownsRow w.heap.size 52 4 (.slice ao' n cap') n cs) := hW; have HK : Hid (Kept (fun _ => True) w w') := HKa.out.grown hG (fun i hi e => by simp [Value.ownBlock] at e; omega); clear hW hG)
    go_ret
    exact ⟨_, rfl, HW.out, HK.out⟩

set_option maxRecDepth 100000 in
set_option maxHeartbeats 4000000 in
theorem clone_texts {w : World} {v : Value} {n : Nat} {cs : List Value} (h : Fl w v n 1 cs) (h1 : ∀ u ∈ cs, u.oneCell' = true) (hl : n ≤ 1100000) :
    Calls Try.prog 23 #[v] w fun e w' => ∃ v', e = .returned v' ∧ w'.ownsRow w.heap.size 9 1 v' n cs ∧ Kept (fun _ => True) w w' := by
  have HC : Hid (Fl w v n 1 cs) := h
  obtain ⟨ao, cap, rfl, hcl, _, hn, hx⟩ := h
  cases ao with
  | none =>
    have h0 : n = 0 := by
      rcases Nat.eq_zero_or_pos n with h | h
      · exact h
      · obtain ⟨_, _, e, _⟩ := hx h; cases e
    subst h0
    have hcs : cs = [] := List.eq_nil_of_length_eq_zero (by omega)
    have hc := hn rfl
    subst hcs hc
    clear hn hx HC h1 hl hcl
    have qT : ∀ W : World, (binOp .eql 27 (.slice none 0 0) (.slice none 0 0)).run Try.prog W = .ok (.bool true) W := fun W => run_eql_nil_slice W 27 9 none 0 0 0 0 Try.underlying27
    go_enter Try.func23, Try.ntmps23
    go_wp2_with fail
    go_ret
    exact ⟨_, rfl, World.ownsRow_nil _ _ _ _, Kept.refl _ _⟩
  | some ad =>
    have qT : ∀ W : World, (binOp .eql 27 (.slice (some ad) n cap) (.slice none 0 0)).run Try.prog W = .ok (.bool false) W := fun W => Lib.run_eql_slice_nil W 27 9 (some ad) n cap 0 0 Try.underlying27
    have ka := (Kept.refl (fun _ => True) w).alloc (.cells #[] 9)
    have HKa : Hid _ := ka
    have HO0 : Hid _ := World.ownsRow_lit (base := w.heap.size) (e := 9) (size := 1) w #[] 0 (Nat.le_refl _) (by unfold maxLen; omega) (by simp)
    have HF : Hid (Fl _ (.slice (some ad) n cap) n 1 cs) := HC.out.all ka
    have H1 : Hid _ := h1
    clear hn hx h1 hcl HC ka
    go_enter Try.func23, Try.ntmps23
    go_wp2_with (at_builtin; refine wpList_append_flat Try.underlying27 Try.infoText cells_text (by decide) (by decide) rfl (.tmp 5) (.tmp 6) rfl w.heap.size (.slice (some ⟨w.heap.size, 0, none⟩) 0 0) rfl HO0.out (by simp) (.slice (some ad) n cap) rfl HF.out H1.out hl ?_; intro ao' cap' w' hW hG; have HW : Hid (w'.ownsRow w.heap.size 9 1 (.slice ao' n cap') n cs) := hW; have HK : Hid (Kept (fun _ => True) w w') := HKa.out.grown hG (fun i hi e => by simp [Value.ownBlock] at e; omega); clear hW hG)
    go_ret
    exact ⟨_, rfl, HW.out, HK.out⟩
theorem heap_size_alloc (w : World) (o : Obj) : (w.alloc o).heap.size = w.heap.size + 1 := by simp
theorem Bk.four {w : World} {X : Nat} {t : TypeId} {a b c d : Value} (h : Bk w X t [a, b, c, d]) : w.cell? ⟨X, 0, none⟩ = some a ∧ w.cell? ⟨X, 1, none⟩ = some b ∧ w.cell? ⟨X, 2, none⟩ = some c ∧ w.cell? ⟨X, 3, none⟩ = some d :=
  ⟨cell_of_row _ _ 0 _ _ _ h, cell_of_row _ _ 1 _ _ _ h, cell_of_row _ _ 2 _ _ _ h, cell_of_row _ _ 3 _ _ _ h⟩
theorem result_c {fn : Func} {p : Nat} {ty : TypeId} (h : fn.results = #[.cell p ty]) (tmps : Array Value) (w : World) {g : Nat} {v : Value} (hp : tmps.getD p undef = .pointer (some ⟨g, 0, none⟩)) (hl : (loadVar ty ⟨g, 0, none⟩).run Try.prog w = .ok v w) :
    (results fn tmps).run Try.prog w = .ok v w := by
  have hp' : tmps[p]?.getD undef = .pointer (some ⟨g, 0, none⟩) := by simpa using hp
  simp [results, h, hp', asAddr, hl]
theorem load_reply {w : World} {g : Nat} {a b c d : Value} (hg : Bk w g 29 [a, b, c, d]) : (loadVar 29 ⟨g, 0, none⟩).run Try.prog w = .ok (.agg #[a, b, c, d]) w :=
  run_loadVar_row w g 29 29 #[a, b, c, d] _ _ hg Try.underlying29 rfl (by kernel_rfl)

set_option maxRecDepth 100000 in
set_option maxHeartbeats 4000000 in
theorem copied_any {w : World} {ta : Option Addr} {tn tc : Nat} {cs : List Value} (out ix why : Int) (h : Fl w (.slice ta tn tc) tn 1 cs) (h1 : ∀ u ∈ cs, u.oneCell' = true) (hl : tn ≤ 1100000) :
    Calls Try.prog 17 #[.agg #[.int .i64 out, .slice ta tn tc, .int .i64 ix, .int .i64 why]] w fun e w' => (∃ a c, e = .returned (.agg #[.int .i64 out, .slice a tn c, .int .i64 ix, .int .i64 why])) ∧ Kept (fun _ => True) w w' := by
  obtain ⟨w1, hw1⟩ : ∃ x, x = (w.alloc (.cells #[.int .i64 out, .slice ta tn tc, .int .i64 ix, .int .i64 why] 29)).alloc (.cells #[.int .i64 0, .slice none 0 0, .int .i64 0, .int .i64 0] 29) := ⟨_, rfl⟩
  have F1 : Bk w1 w.heap.size 29 [.int .i64 out, .slice ta tn tc, .int .i64 ix, .int .i64 why] := by rw [hw1]; exact alloc_old _ (heap_alloc_new w _)
  have F2 : Bk w1 (w.heap.size + 1) 29 [.int .i64 0, .slice none 0 0, .int .i64 0, .int .i64 0] := by
    rw [hw1]
    have := heap_alloc_new (w.alloc (.cells #[.int .i64 out, .slice ta tn tc, .int .i64 ix, .int .i64 why] 29)) (.cells #[.int .i64 0, .slice none 0 0, .int .i64 0, .int .i64 0] 29)
    rwa [heap_size_alloc] at this
  have K1 : Hid (Kept (fun _ => True) w w1) := by rw [hw1]; exact ((Kept.refl _ _).alloc _).alloc _
  have cc := clone_texts (h.all K1.out) h1 hl
  obtain ⟨x0, x1, x2, x3⟩ := F1.four
  have xf := F1.free
  have HF1 : Hid (Bk w1 w.heap.size 29 [.int .i64 out, .slice ta tn tc, .int .i64 ix, .int .i64 why]) := F1
  have HF2 : Hid (Bk w1 (w.heap.size + 1) 29 [.int .i64 0, .slice none 0 0, .int .i64 0, .int .i64 0]) := F2
  clear F1 F2 h h1 hl
  go_enter Try.func17, Try.ntmps17
  go_upto_region 1 with fail
  rw [← hw1]
  clear hw1
  obtain ⟨X, hX⟩ : ∃ X, X = w.heap.size := ⟨_, rfl⟩
  have HX : Hid (X = w.heap.size) := hX
  rw [← hX] at x0 x1 x2 x3 xf HF1 HF2 ⊢
  clear hX
  go_upto_region 2 with (go_at_call 23; (with_reducible refine Calls.mono cc ?_); rintro e w2 ⟨v2, rfl, ho, k2⟩; obtain ⟨a2, c2, rfl, _⟩ := own_form ho; have F3 := HF1.out.kept k2 trivial; obtain ⟨x0, x1, x2, x3⟩ := F3.four; have xf := F3.free; have HF3 : Hid (Bk w2 X 29 [.int .i64 out, .slice ta tn tc, .int .i64 ix, .int .i64 why]) := F3; have K2 : Hid (Kept (fun _ => True) w1 w2) := k2; clear F3 k2 ho)
  obtain ⟨w3, hw3⟩ : ∃ x, x = w2.setCell ⟨X, 1, none⟩ (.slice a2 tn c2) := ⟨_, rfl⟩
  have F4 : Bk w3 X 29 [.int .i64 out, .slice a2 tn c2, .int .i64 ix, .int .i64 why] := by rw [hw3]; exact HF3.out.set 1 _
  have F5 : Hid (Bk w3 (X + 1) 29 [.int .i64 0, .slice none 0 0, .int .i64 0, .int .i64 0]) := by
    show Bk _ _ _ _
    rw [hw3]
    exact (HF2.out.kept K2.out trivial).kept kept_set (by simp)
  have K3 : Hid (Kept (fun _ => True) w w3) := by
    show Kept _ _ _
    rw [hw3]
    exact kept_fresh (K1.out.trans K2.out) (by rw [HX.out]; exact Nat.le_refl _) _
  rw [← hw3]
  clear hw3
  clear x0 x1 x2 x3 xf cc
  obtain ⟨x0, x1, x2, x3⟩ := F4.four
  obtain ⟨y0, y1, y2, y3⟩ := F5.out.four
  have yf := F5.out.free
  go_wp2_with fail
  refine bodyPost_ret (result_c rfl _ _ rfl (load_reply ((((F5.out.set 0 (.int .i64 out)).set 1 (.slice a2 tn c2)).set 2 (.int .i64 ix)).set 3 (.int .i64 why)))) rfl ⟨⟨_, _, rfl⟩, ?_⟩
  have hz : w.heap.size ≤ X + 1 := by rw [HX.out]; omega
  exact kept_fresh (kept_fresh (kept_fresh (kept_fresh K3.out hz _) hz _) hz _) hz _

/-- A call that is answered. -/
def Oc.ans (x : Oc) (out : Int) (ta : Option Addr) (tn tc : Nat) (ix why : Int) (i : Nat) : Oc := ⟨x.cl, x.oa, x.on, x.oc, out, ta, tn, tc, ix, why, x.fr, i⟩
theorem row_ans (out : Int) (ta : Option Addr) (tn tc : Nat) (ix why : Int) (i : Nat) : ∀ (xs : List Oc) (q : Nat), q < xs.length →
    (((((opS.row xs).set (q * 8 + 2) (.int .i64 out)).set (q * 8 + 3) (.slice ta tn tc)).set (q * 8 + 4) (.int .i64 ix)).set (q * 8 + 5) (.int .i64 why)).set (q * 8 + 7) (.int .i64 i) = opS.row (xs.modify q (fun x => x.ans out ta tn tc ix why i))
  | [], q, h => by simp at h
  | x :: xs, 0, _ => by
    rw [List.modify_zero_cons, row_cons, row_cons]
    rfl
  | x :: xs, q + 1, h => by
    have ih := row_ans out ta tn tc ix why i xs q (by simpa using h)
    rw [List.modify_succ_cons, row_cons, row_cons, ← ih]
    have hl : (opS.cell x).length = 8 := rfl
    rw [List.set_append_right _ _ (by omega), List.set_append_right _ _ (by omega), List.set_append_right _ _ (by omega), List.set_append_right _ _ (by omega), List.set_append_right _ _ (by omega), hl]
    rw [show (q + 1) * 8 + 2 - 8 = q * 8 + 2 by omega, show (q + 1) * 8 + 3 - 8 = q * 8 + 3 by omega, show (q + 1) * 8 + 4 - 8 = q * 8 + 4 by omega, show (q + 1) * 8 + 5 - 8 = q * 8 + 5 by omega, show (q + 1) * 8 + 7 - 8 = q * 8 + 7 by omega]
/-- An answer is written into a row of calls. -/
theorem ow_ans {w : World} {base g c q : Nat} {xs : List Oc} (h : Ow opS 35 w base (.slice (some ⟨g, 0, none⟩) xs.length c) xs) (hq : q < xs.length) (out : Int) (ta : Option Addr) (tn tc : Nat) (ix why : Int) (i : Nat) :
    Ow opS 35 (((((w.setCell ⟨g, q * 8 + 2, none⟩ (.int .i64 out)).setCell ⟨g, q * 8 + 3, none⟩ (.slice ta tn tc)).setCell ⟨g, q * 8 + 4, none⟩ (.int .i64 ix)).setCell ⟨g, q * 8 + 5, none⟩ (.int .i64 why)).setCell ⟨g, q * 8 + 7, none⟩ (.int .i64 i)) base (.slice (some ⟨g, 0, none⟩) xs.length c) (xs.modify q (fun x => x.ans out ta tn tc ix why i)) ∧
      Kept (· ≠ g) w (((((w.setCell ⟨g, q * 8 + 2, none⟩ (.int .i64 out)).setCell ⟨g, q * 8 + 3, none⟩ (.slice ta tn tc)).setCell ⟨g, q * 8 + 4, none⟩ (.int .i64 ix)).setCell ⟨g, q * 8 + 5, none⟩ (.int .i64 why)).setCell ⟨g, q * 8 + 7, none⟩ (.int .i64 i)) := by
  refine ⟨?_, (((kept_set.trans kept_set).trans kept_set).trans kept_set).trans kept_set⟩
  unfold Ow at h ⊢
  rw [List.length_modify, ← row_ans out ta tn tc ix why i xs q hq]
  have h1 := (World.ownsRow.stored h (q * 8 + 2) (.int .i64 out)).1
  have h2 := (World.ownsRow.stored h1 (q * 8 + 3) (.slice ta tn tc)).1
  have h3 := (World.ownsRow.stored h2 (q * 8 + 4) (.int .i64 ix)).1
  have h4 := (World.ownsRow.stored h3 (q * 8 + 5) (.int .i64 why)).1
  exact (World.ownsRow.stored h4 (q * 8 + 7) (.int .i64 i)).1

end Go.Proofs.Ytllopkebamlgeaa
