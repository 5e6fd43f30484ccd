/-
  Texts of the proofs, 6 of 52.
-/
import Derived.Test.YtmcaoimgmgjjiaaWE
import Derived.Deep.CutRange
import Derived.Test.YtmcaoimgmgjjiaaWA
import Derived.Laws.BitsAllLaws
import Derived.Test.YtmcaoimgmgjjiaaWB
namespace Go.Proofs.Ytmcaoimgmgjjiaa
open Go.RowKit

theorem step_append_int {w : World} {ops : Array Oper} {o : Oper} {a : Act} {K : Act → World → Prop} {Q : Exit → Act → World → Prop} {E : Prop} (hgd : o.guard = none) (sl y : Operand) (ho : o.op = .call { callee := .builtin .append, args := #[sl, y], argTypes := #[22, 22] })
    (base : Nat) (v : Value) (ns : List Nat) (hs : a.eval sl = v) (h : Its w base v ns) (hb : base ≤ w.heap.size) (G : Nat) (hy : a.eval y = .slice (some ⟨G, 0, none⟩) 1 1) (n : Nat) (fr : Nat × Nat) (hG : w.heap[G]? = some (.cells #[.int .i64 (n : Nat)] 3 fr)) (hm : ns.length ≤ 1099511627776)
    (hK : ∀ ao' cap' w', Its w' base (.slice ao' (ns.length + 1) cap') (ns ++ [n]) → w.grownBy w' v.ownBlock → K (a.put o.dst (.slice ao' (ns.length + 1) cap')) w') : if Region.wanted o (yielded ops a.tmps) = true then Oper.wp Try.prog o a w K Q else E := by
  have hw : Region.wanted o (yielded ops a.tmps) = true := by simp [Region.wanted, hgd]
  rw [if_pos hw]
  obtain ⟨ao', cap', w', hr, h2, h3⟩ := append_int w o.type base v ns h hb G n fr hG hm
  unfold Oper.wp execOp
  simp only [ho, resolve, invoke, builtin, Sem.run_bind, Sem.run_pure, Result.andThen_ok, List.map_toArray, List.map_cons, List.map_nil, hs, hy, hr]
  exact hK _ _ _ h2 h3
theorem heap_size_alloc (w : World) (o : Obj) : (w.alloc o).heap.size = w.heap.size + 1 := by simp
def Four4 (w : World) (X : Nat) (t : TypeId) (a b c d : Value) : Prop := w.heap[X]? = some (.cells #[a, b, c, d] t (0, 0))
section
variable {w w' : World} {X : Nat} {t : TypeId} {a b c d : Value}
theorem Four4.lt (h : Four4 w X t a b c d) : X < w.heap.size := lt_of_block h
theorem Four4.kept {p : Nat → Prop} (h : Four4 w X t a b c d) (k : Kept p w w') (hp : p X) : Four4 w' X t a b c d := (k.block X h.lt hp).trans h
theorem Four4.cell (h : Four4 w X t a b c d) : w.cell? ⟨X, 0, none⟩ = some a ∧ w.cell? ⟨X, 1, none⟩ = some b ∧ w.cell? ⟨X, 2, none⟩ = some c ∧ w.cell? ⟨X, 3, none⟩ = some d :=
  ⟨cell_of_row _ _ 0 _ _ _ h, cell_of_row _ _ 1 _ _ _ h, cell_of_row _ _ 2 _ _ _ h, cell_of_row _ _ 3 _ _ _ h⟩
theorem Four4.free (h : Four4 w X t a b c d) (i : Nat) : w.frozen? ⟨X, i, none⟩ = false := by
  unfold Four4 at h
  simp [World.frozen?, h]
theorem uset_at {cs : Array Value} {fr : Nat × Nat} (h : w.heap[X]? = some (.cells cs t fr)) (k : Nat) (u : Value) : (w.setCell ⟨X, k, none⟩ u).heap[X]? = some (.cells (cs.setIfInBounds k u) t fr) := by
  have hlt := lt_of_block h
  have h' : w.heap[X] = .cells cs t fr := by simpa [Array.getElem?_eq_getElem hlt] using h
  show (w.heap.modify X _)[X]? = _
  rw [Array.getElem?_eq_getElem (by simpa using hlt), Array.getElem_modify_self, h']
  rfl
theorem Four4.set0 (h : Four4 w X t a b c d) (v : Value) : Four4 (w.setCell ⟨X, 0, none⟩ v) X t v b c d := uset_at h 0 v
theorem Four4.set1 (h : Four4 w X t a b c d) (v : Value) : Four4 (w.setCell ⟨X, 1, none⟩ v) X t a v c d := uset_at h 1 v
theorem Four4.set2 (h : Four4 w X t a b c d) (v : Value) : Four4 (w.setCell ⟨X, 2, none⟩ v) X t a b v d := uset_at h 2 v
theorem Four4.set3 (h : Four4 w X t a b c d) (v : Value) : Four4 (w.setCell ⟨X, 3, none⟩ v) X t a b c v := uset_at h 3 v
theorem kept_set {v : Value} {i : Nat} : Kept (· ≠ X) w (w.setCell ⟨X, i, none⟩ v) := (Kept.refl _ _).setCell (by simp) _
end
theorem results_cu {fn : Func} {p u : Nat} {ty : TypeId} (h : fn.results = #[.cell p ty, .tmp u]) (tmps : Array Value) (w : World) {g : Nat} {v : Value} (hp : tmps.getD p undef = .pointer (some ⟨g, 0, none⟩)) (hl : (loadVar ty ⟨g, 0, none⟩).run Try.prog w = .ok v w) :
    (results fn tmps).run Try.prog w = .ok (.tuple #[v, tmps.getD u undef]) w := by
  have hp' : tmps[p]?.getD undef = .pointer (some ⟨g, 0, none⟩) := by simpa using hp
  simp [results, h, hp', asAddr, hl]
theorem Try.sizeRec : (Try.prog.info? 24).map (·.size) = some 4 := by kernel_rfl
theorem load_rec {w : World} {g : Nat} {t : TypeId} {a b c d : Value} (hg : Four4 w g t a b c d) : (loadVar 24 ⟨g, 0, none⟩).run Try.prog w = .ok (.agg #[a, b, c, d]) w :=
  run_loadVar_row w g t 24 #[a, b, c, d] _ _ hg Try.underlying24 rfl Try.sizeRec
theorem kept_fresh {p : Nat → Prop} {a w : World} (h : Kept p a w) {ad : Addr} (hp : a.heap.size ≤ ad.block) (u : Value) : Kept p a (w.setCell ad u) :=
  ⟨h.os, h.tape, h.output, by simpa [World.setCell] using h.size, fun k hk hpk => (Below.heap_setCell _ _ _ _ (by omega)).trans (h.block k hk hpk)⟩
def ERead (bs : List UInt8) (w : World) (e : Ending) (w' : World) : Prop := ((rec? bs = none ∧ e = .returned (.tuple #[.agg #[.int .i64 0, .string ⟨#[]⟩, .slice none 0 0, .string ⟨#[]⟩], .int .i64 12])) ∨ ∃ r a c, rec? bs = some r ∧ e = .returned (.tuple #[r.val a c, .int .i64 0]) ∧ Its w' w.heap.size (.slice a r.gs.length c) r.gs) ∧ Kept (fun _ => True) w w'

set_option maxRecDepth 100000 in
set_option maxHeartbeats 4000000 in
theorem readA_any {w : World} {bs : List UInt8} (hb : (bs.length : Int) ≤ 140737488355328) :
    Calls Try.prog 17 #[.string ⟨bs.toArray⟩] w fun e w' => ERead bs w e w' := by
  obtain ⟨cb, wb, hrun, hhas, kb⟩ := conv_strU (w.alloc (.cells #[.int .i64 0, .string ⟨#[]⟩, .slice none 0 0, .string ⟨#[]⟩] 24)) bs
  rw [heap_size_alloc] at hrun hhas
  have cr := newReader_any (w := wb) (cap := cb) hb hhas
  have f2 : Four4 wb w.heap.size 24 (.int .i64 0) (.string ⟨#[]⟩) (.slice none 0 0) (.string ⟨#[]⟩) := Four4.kept (w := w.alloc _) (heap_alloc_new w _) kb trivial
  have kwb : Kept (fun _ => True) w wb := ((Kept.refl _ _).alloc _).trans kb
  have F2 : Hid (Four4 wb w.heap.size 24 (.int .i64 0) (.string ⟨#[]⟩) (.slice none 0 0) (.string ⟨#[]⟩)) := f2
  have KWB : Hid (Kept (fun _ => True) w wb) := kwb
  clear hhas kb f2 kwb
  go_enter Try.func17, Try.ntmps17
  go_upto_region 3 with (go_at_call 41; (with_reducible refine Calls.mono cr ?_); rintro e w2 ⟨B, R, rfl, h2, k2, lB, lR⟩; have RS2 : Hid (Rs w2 B R bs bs.length ⟨0, 0⟩) := h2; have L2 : Hid (wb.heap.size ≤ B ∧ wb.heap.size ≤ R) := ⟨lB, lR⟩; clear h2 lB lR)
  clear cr hrun
  have KA : Kept (fun _ => True) w2 (w2.alloc (.cells #[.int .i64 0, .string ⟨#[]⟩, .slice none 0 0, .string ⟨#[]⟩] 24)) := (Kept.refl _ _).alloc _
  have F5 : Hid (Four4 _ w2.heap.size 24 (.int .i64 0) (.string ⟨#[]⟩) (.slice none 0 0) (.string ⟨#[]⟩)) := heap_alloc_new w2 (.cells #[.int .i64 0, .string ⟨#[]⟩, .slice none 0 0, .string ⟨#[]⟩] 24)
  have FZ : Hid (Four4 _ w.heap.size 24 (.int .i64 0) (.string ⟨#[]⟩) (.slice none 0 0) (.string ⟨#[]⟩)) := F2.out.kept (k2.trans KA) trivial
  have RS3 : Hid (Rs _ B R bs bs.length ⟨0, 0⟩) := RS2.out.kept KA trivial trivial
  have KW3 : Hid (Kept (fun _ => True) w _) := KWB.out.trans (k2.trans KA)
  have HX : Hid (w.heap.size < wb.heap.size ∧ B < w2.heap.size ∧ R < w2.heap.size ∧ wb.heap.size ≤ B ∧ wb.heap.size ≤ R) := ⟨F2.out.lt, RS2.out.lt, RS2.out.rowlt, L2.out.1, L2.out.2⟩
  clear F2 KWB RS2 L2 KA k2
  generalize hw3 : w2.alloc (.cells #[.int .i64 0, .string ⟨#[]⟩, .slice none 0 0, .string ⟨#[]⟩] 24) = w3 at *
  have hb3 : w3.heap.size = w2.heap.size + 1 := by rw [← hw3, heap_size_alloc]
  clear hw3
  obtain ⟨Z, hZ⟩ : ∃ Z, Z = w.heap.size := ⟨_, rfl⟩
  rw [← hZ] at FZ HX ⊢
  generalize w2.heap.size = X at *
  have HN : Hid (Z < B ∧ Z < R ∧ Z < X ∧ B < X ∧ R < X ∧ w3.heap.size = X + 1 ∧ Z = w.heap.size) := by
    obtain ⟨h1, h2, h3, h4, h5⟩ := HX.out
    exact ⟨by omega, by omega, by omega, h2, h3, hb3, hZ⟩
  clear HX hb3 hZ
  have c3 : Calls Try.prog 42 #[.pointer (some ⟨B, 0, none⟩)] w3 fun e w' => e = .returned (.int .i64 ((rdK bs).1 : Nat)) ∧ Rs w' B R bs bs.length (rdK bs).2 ∧ Kept (· ≠ B) w3 w' := byte_any RS3.out
  go_upto_region 4 with (go_at_call 42; (with_reducible refine Calls.mono c3 ?_); rintro e w4 ⟨rfl, h4, k4⟩; have F4 : Four4 w4 X 24 (.int .i64 0) (.string ⟨#[]⟩) (.slice none 0 0) (.string ⟨#[]⟩) := F5.out.kept k4 (by have := HN.out; omega); obtain ⟨x0, x1, x2, x3⟩ := F4.cell; have xf := F4.free)
  have FX4 : Hid (Four4 (w4.setCell ⟨X, 0, none⟩ (.int .i64 ((rdK bs).1 : Nat))) X 24 (.int .i64 ((rdK bs).1 : Nat)) (.string ⟨#[]⟩) (.slice none 0 0) (.string ⟨#[]⟩)) := F4.set0 _
  have FZ4 : Hid (Four4 (w4.setCell ⟨X, 0, none⟩ (.int .i64 ((rdK bs).1 : Nat))) Z 24 (.int .i64 0) (.string ⟨#[]⟩) (.slice none 0 0) (.string ⟨#[]⟩)) := (FZ.out.kept k4 (by have := HN.out; omega)).kept kept_set (by have := HN.out; omega)
  have RS4 : Hid (Rs (w4.setCell ⟨X, 0, none⟩ (.int .i64 ((rdK bs).1 : Nat))) B R bs bs.length (rdK bs).2) := h4.kept kept_set (by have := HN.out; omega) (by have := HN.out; omega)
  have KW4 : Hid (Kept (fun x => x ≠ B ∧ x ≠ X) w3 (w4.setCell ⟨X, 0, none⟩ (.int .i64 ((rdK bs).1 : Nat)))) := (k4.mono (fun _ _ h => h.1)).then kept_set (fun _ _ h => h.2)
  clear x0 x1 x2 x3 xf F4 h4 k4 c3 F5 FZ RS3
  generalize w4.setCell ⟨X, 0, none⟩ (.int .i64 ((rdK bs).1 : Nat)) = w4 at *
  have c4 : Calls Try.prog 43 #[.pointer (some ⟨B, 0, none⟩), .int .i64 4000] w4 fun e w' => e = .returned (.string ⟨(rdX bs).1.toArray⟩) ∧ Rs w' B R bs bs.length (rdX bs).2 ∧ Kept (· ≠ B) w4 w' := text_any 4000 RS4.out
  go_upto_region 5 with (go_at_call 43; (with_reducible refine Calls.mono c4 ?_); rintro e w5 ⟨rfl, h5, k5⟩; have F5 : Four4 w5 X 24 (.int .i64 ((rdK bs).1 : Nat)) (.string ⟨#[]⟩) (.slice none 0 0) (.string ⟨#[]⟩) := FX4.out.kept k5 (by have := HN.out; omega); obtain ⟨x0, x1, x2, x3⟩ := F5.cell; have xf := F5.free)
  have FX5 : Hid (Four4 (w5.setCell ⟨X, 1, none⟩ (.string ⟨(rdX bs).1.toArray⟩)) X 24 (.int .i64 ((rdK bs).1 : Nat)) (.string ⟨(rdX bs).1.toArray⟩) (.slice none 0 0) (.string ⟨#[]⟩)) := F5.set1 _
  have FZ5 : Hid (Four4 (w5.setCell ⟨X, 1, none⟩ (.string ⟨(rdX bs).1.toArray⟩)) Z 24 (.int .i64 0) (.string ⟨#[]⟩) (.slice none 0 0) (.string ⟨#[]⟩)) := (FZ4.out.kept k5 (by have := HN.out; omega)).kept kept_set (by have := HN.out; omega)
  have RS5 : Hid (Rs (w5.setCell ⟨X, 1, none⟩ (.string ⟨(rdX bs).1.toArray⟩)) B R bs bs.length (rdX bs).2) := h5.kept kept_set (by have := HN.out; omega) (by have := HN.out; omega)
  have KW5 : Hid (Kept (fun x => x ≠ B ∧ x ≠ X) w3 (w5.setCell ⟨X, 1, none⟩ (.string ⟨(rdX bs).1.toArray⟩))) := KW4.out.trans ((k5.mono (fun _ _ h => h.1)).then kept_set (fun _ _ h => h.2))
  clear x0 x1 x2 x3 xf F5 h5 k5 c4 FX4 FZ4 RS4 KW4
  generalize w5.setCell ⟨X, 1, none⟩ (.string ⟨(rdX bs).1.toArray⟩) = w5 at *
  have c5 : Calls Try.prog 42 #[.pointer (some ⟨B, 0, none⟩)] w5 fun e w' => e = .returned (.int .i64 ((rdC bs).1 : Nat)) ∧ Rs w' B R bs bs.length (rdC bs).2 ∧ Kept (· ≠ B) w5 w' := byte_any RS5.out
  have hC : (rdC bs).1 < 256 := RS.num_lt1 _ _
  have HC : Hid ((rdC bs).1 < 256) := hC
  clear hC
  go_wp2_with (go_at_call 42; (with_reducible refine Calls.mono c5 ?_); rintro e w6 ⟨rfl, h6, k6⟩)
  have FX6 : Hid (Four4 w6 X 24 (.int .i64 ((rdK bs).1 : Nat)) (.string ⟨(rdX bs).1.toArray⟩) (.slice none 0 0) (.string ⟨#[]⟩)) := FX5.out.kept k6 (by have := HN.out; omega)
  have FZ6 : Hid (Four4 w6 Z 24 (.int .i64 0) (.string ⟨#[]⟩) (.slice none 0 0) (.string ⟨#[]⟩)) := FZ5.out.kept k6 (by have := HN.out; omega)
  have RS6 : Hid (Rs w6 B R bs bs.length (rdC bs).2) := h6
  have KW6 : Hid (Kept (fun x => x ≠ B ∧ x ≠ X) w3 w6) := KW5.out.trans (k6.mono (fun _ _ h => h.1))
  have L6 : Hid (w3.heap.size ≤ w6.heap.size) := KW6.out.size
  clear h6 k6 c5 FX5 FZ5 RS5 KW5
  generalize hnn : (rdC bs).1 = n at *
  have HNn : Hid ((rdC bs).1 = n) := hnn
  clear hnn
  go_loopw [19] (fun t wr => ∃ (i : Nat) (a7 : Option Addr) (c7 : Nat), i ≤ n ∧ t = .int .i64 i ∧ Four4 wr X 24 (.int .i64 ((rdK bs).1 : Nat)) (.string ⟨(rdX bs).1.toArray⟩) (.slice a7 i c7) (.string ⟨#[]⟩) ∧ Four4 wr Z 24 (.int .i64 0) (.string ⟨#[]⟩) (.slice none 0 0) (.string ⟨#[]⟩) ∧ Its wr w3.heap.size (.slice a7 i c7) (rdG bs (rdC bs).2 i).1 ∧ Rs wr B R bs bs.length (rdG bs (rdC bs).2 i).2 ∧ Kept (fun x => x < w3.heap.size ∧ x ≠ B ∧ x ≠ X) w6 wr) (fun t _ => n - (intOf t).toNat)
  case atStart => exact ⟨0, none, 0, Nat.zero_le _, rfl, FX6.out, FZ6.out, Its.nil _ _, RS6.out, Kept.refl _ _⟩
  case round =>
    obtain ⟨i, ao, c, hi, rfl, hX, hZ, hI, hR, hK⟩ := hrel
    have FXr : Hid (Four4 wr X 24 (.int .i64 ((rdK bs).1 : Nat)) (.string ⟨(rdX bs).1.toArray⟩) (.slice ao i c) (.string ⟨#[]⟩)) := hX
    have FZr : Hid (Four4 wr Z 24 (.int .i64 0) (.string ⟨#[]⟩) (.slice none 0 0) (.string ⟨#[]⟩)) := hZ
    have ITr : Hid (Its wr w3.heap.size (.slice ao i c) (rdG bs (rdC bs).2 i).1) := hI
    have RSr : Hid (Rs wr B R bs bs.length (rdG bs (rdC bs).2 i).2) := hR
    have KR : Hid (Kept (fun x => x < w3.heap.size ∧ x ≠ B ∧ x ≠ X) w6 wr) := hK
    have Lr : Hid (w3.heap.size ≤ wr.heap.size) := Nat.le_trans L6.out hK.size
    clear hX hZ hI hR hK FX6 FZ6 RS6
    by_cases hlt : i < n
    · have j0 : (i : Int) < (n : Int) := by omega
      have HLi : Hid ((rdG bs (rdC bs).2 i).1.length = i) := rdG_len _ _ _
      have HG1 : Hid ((rdG bs (rdC bs).2 (i + 1)).1 = (rdG bs (rdC bs).2 i).1 ++ [((rdG bs (rdC bs).2 i).2.num bs 1).1]) := rfl
      have HG2 : Hid ((rdG bs (rdC bs).2 (i + 1)).2 = ((rdG bs (rdC bs).2 i).2.num bs 1).2) := rfl
      generalize (rdG bs (rdC bs).2 i).1 = gi at *
      generalize (rdG bs (rdC bs).2 i).2 = si at *
      obtain ⟨b0, hb0⟩ : ∃ b0, b0 = w3.heap.size := ⟨_, rfl⟩
      rw [← hb0] at ITr KR Lr
      have HB0 : Hid (B < b0 ∧ X < b0 ∧ b0 ≤ wr.heap.size ∧ Z < b0 ∧ R < b0) := ⟨by have := HN.out; omega, by have := HN.out; omega, Lr.out, by have := HN.out; omega, by have := HN.out; omega⟩
      have hXB : X ≠ B := by have := HN.out; omega
      have hXb : X < b0 := HB0.out.2.1
      have hXlt : X < wr.heap.size := FXr.out.lt
      obtain ⟨x0, x1, x2, x3⟩ := FXr.out.cell
      have cg := x2
      have fg := FXr.out.free 2
      have cgA : ∀ W, Kept (fun y => y ≠ B ∧ y < b0) wr W → W.cell? ⟨X, 2, none⟩ = some (.slice ao i c) := fun W hW => (kept_cell hW hXlt ⟨hXB, hXb⟩).trans cg
      have RSd : Hid (Rs wr.drew B R bs bs.length si) := RSr.out.kept ((Kept.refl (fun _ => True) wr).drew) trivial trivial
      have ITd : Hid (Its wr.drew b0 (.slice ao i c) gi) := ITr.out.kept ((Kept.refl (fun _ => True) wr).drew) (fun _ _ => trivial)
      have HI : Hid (i < n) := hlt
      have hn6 : n < 256 := HC.out
      have HBB : Hid (b0 = w3.heap.size) := hb0
      clear x0 x1 x2 x3 hi hlt hb0
      go_wp2_with fail
      refine Gz.begin (fun W => Kept (fun y => y ≠ B ∧ y < b0) wr W) (fun i => decide (i = 7)) (by kernel_rfl) ?_
      refine Gz.tkT (i := 0) (oi := ⟨some 21, .fieldAddr 24 (.tmp 5) 2, 0, _, _, none⟩) (v := ?_) rfl (by kernel_rfl) (fun _ _ _ h => h) (Or.inl ⟨by rfl, ?hy0⟩) (Kept.refl _ _).drew ?_
      case hy0 => (intro W hS; (try dsimp only at hS); go_simp; try with_reducible rfl)
      try simp only [Act.put, lyA, ly0, ly1]
      refine Gz.tkT (i := 1) (oi := ⟨some 22, .load 22 (.tmp 21), 22, _, _, none⟩) (v := ?_) rfl (by kernel_rfl) (fun _ _ _ h => h) (Or.inl ⟨by rfl, ?hy1⟩) (Kept.refl _ _).drew ?_
      case hy1 => (intro W hS; (try dsimp only at hS); go_simp; try with_reducible rfl)
      try simp only [Act.put, lyA, ly0, ly1]
      refine Gz.tkT (i := 2) (oi := ⟨some 23, .move (.tmp 4), 89, _, _, none⟩) (v := ?_) rfl (by kernel_rfl) (fun _ _ _ h => h) (Or.inl ⟨by rfl, ?hy2⟩) (Kept.refl _ _).drew ?_
      case hy2 => (intro W hS; (try dsimp only at hS); go_simp; try with_reducible rfl)
      try simp only [Act.put, lyA, ly0, ly1]
      refine Gz.one (i := 3) (o := ⟨some 24, .call { callee := .value (.func 42), args := #[.tmp 23], argTypes := #[89] }, 3, _, _, none⟩) (by kernel_rfl) rfl (fun K hK => ?_)
      go_simp
      with_reducible refine Calls.mono (byte_any (RSd.out)) ?_
      rintro e w6 ⟨rfl, h6, k6⟩
      have s6 : Kept (fun y => y ≠ B ∧ y < b0) wr w6 := (Kept.refl _ _).drew.trans (k6.mono (fun _ _ h => h.1))
      have RS6 : Hid (Rs w6 B R bs bs.length _) := h6
      have IT6 : Hid (Its w6 b0 (.slice ao i c) gi) := ITd.out.kept k6 (fun x hx => by have := (World.ownsRow.lt ITd.out x hx).1; have := HB0.out.1; omega)
      clear h6
      try go_wp2_with fail
      refine hK.out _ _ (fun _ => s6) ?_
      clear hK K
      try simp only [Act.put, lyA, ly0, ly1]
      refine Gz.one (i := 4) (o := ⟨some 25, .buildSlice 22 1 #[(0, .tmp 24)], 22, _, _, none⟩) (by kernel_rfl) rfl (fun K hK => ?_)
      go_simp
      refine hK.out _ _ (fun hEarly => (s6.alloc _)) ?_
      clear hK K
      try simp only [Act.put, lyA, ly0, ly1]
      refine Gz.one (i := 5) (o := ⟨some 26, .call { callee := .builtin Builtin.append, args := #[.tmp 22, .tmp 25], argTypes := #[22, 22] }, 22, _, _, none⟩) (by kernel_rfl) rfl (fun K hK => ?_)
      refine step_append_int rfl (.tmp 22) (.tmp 25) rfl b0 (.slice ao i c) gi rfl (IT6.out.fresh _) (by have := s6.size; have := HB0.out.2.2; simp only [heap_size_alloc]; omega) w6.heap.size rfl _ _ (heap_alloc_new w6 _) (by rw [HLi.out]; omega) ?_
      intro a7 c7 w7 h7 g7
      have s7 : Kept (fun y => y ≠ B ∧ y < b0) wr w7 := (s6.alloc _).grown g7 (fun x _ e => by have := (World.ownsRow.lt IT6.out x e).1; omega)
      have r7 : Kept (fun y => y < b0) w6 w7 := ((Kept.refl _ _).alloc _).grown g7 (fun x _ e => by have := (World.ownsRow.lt IT6.out x e).1; omega)
      rw [HLi.out] at h7 ⊢
      have c27 := (kept_cell s7 hXlt ⟨hXB, hXb⟩).trans cg
      have f27 := (kept_frozen s7 hXlt ⟨hXB, hXb⟩).trans fg
      refine hK.out _ _ (fun _ => s7) ?_
      clear hK K
      try simp only [Act.put, lyA, ly0, ly1]
      refine Gz.tkT (i := 6) (oi := ⟨some 27, .fieldAddr 24 (.tmp 5) 2, 0, _, _, none⟩) (v := ?_) rfl (by kernel_rfl) (fun _ _ _ h => h) (Or.inl ⟨by rfl, ?hy6⟩) s7 ?_
      case hy6 => (intro W hS; (try dsimp only at hS); go_simp; try with_reducible rfl)
      try simp only [Act.put, lyA, ly0, ly1]
      refine Gz.one (i := 7) (o := ⟨none, .store 22 (.tmp 27) (.tmp 26), 0, _, _, none⟩) (by kernel_rfl) rfl (fun K hK => ?_)
      go_simp
      refine hK.out _ _ (fun hEarly => by cases hEarly) ?_
      clear hK K
      try simp only [Act.put, lyA, ly0, ly1]
      refine Gz.done (by kernel_rfl) ?_ _
      go_wp2_with fail
      go_roundw
      case rel =>
        rw [← HBB.out]
        refine ⟨i + 1, a7, c7, by have := HI.out; omega, by go_num, (FXr.out.kept s7 ⟨hXB, hXb⟩).set2 _, (FZr.out.kept s7 ⟨by have := HN.out; omega, HB0.out.2.2.2.1⟩).kept kept_set (by have := HN.out; omega), ?_, ?_, ?_⟩
        · rw [HG1.out]
          exact h7.kept kept_set (fun x hx e => by have := (World.ownsRow.lt h7 x hx).1; omega)
        · rw [HG2.out]
          exact (RS6.out.kept r7 HB0.out.1 HB0.out.2.2.2.2).kept kept_set (by have := HN.out; omega) (by have := HN.out; omega)
        · exact KR.out.trans ((s7.mono (fun _ _ h => ⟨h.2.1, h.1⟩)).then kept_set (fun _ _ h => h.2.2))
      case measure => have := HI.out; simp [intOf]; omega
    · obtain rfl : i = n := by omega
      have j0 : ¬ (i : Int) < (i : Int) := by omega
      have hg : rdGs bs = rdG bs (rdC bs).2 i := by unfold rdGs; rw [HNn.out]
      rw [← hg] at ITr RSr
      have el : (rdGs bs).1.length = i := by rw [hg]; exact rdG_len _ _ _
      have EL : Hid ((rdGs bs).1.length = i) := el
      have KWr : Hid (Kept (fun x => x < w3.heap.size ∧ x ≠ B ∧ x ≠ X) w3 wr) := (KW6.out.mono (fun _ _ h => ⟨h.2.1, h.2.2⟩)).trans KR.out
      have hi6 : i < 256 := HC.out
      have HC2 : Hid (i < 256) := hi6
      clear hg el KR KW6 HNn HC hi hlt
      have c9 : Calls Try.prog 43 #[.pointer (some ⟨B, 0, none⟩), .int .i64 4000] wr fun e w' => e = .returned (.string ⟨(rdD bs).1.toArray⟩) ∧ Rs w' B R bs bs.length (rdD bs).2 ∧ Kept (· ≠ B) wr w' := text_any 4000 RSr.out
      go_upto_region 10 with (go_at_call 43; (with_reducible refine Calls.mono c9 ?_); rintro e w9 ⟨rfl, h9, k9⟩; have F9 : Four4 w9 X 24 (.int .i64 ((rdK bs).1 : Nat)) (.string ⟨(rdX bs).1.toArray⟩) (.slice ao i c) (.string ⟨#[]⟩) := FXr.out.kept k9 (by have := HN.out; omega); obtain ⟨x0, x1, x2, x3⟩ := F9.cell; have xf := F9.free)
      have FX9 : Hid (Four4 (w9.setCell ⟨X, 3, none⟩ (.string ⟨(rdD bs).1.toArray⟩)) X 24 (.int .i64 ((rdK bs).1 : Nat)) (.string ⟨(rdX bs).1.toArray⟩) (.slice ao i c) (.string ⟨(rdD bs).1.toArray⟩)) := F9.set3 _
      have FZ9 : Hid (Four4 (w9.setCell ⟨X, 3, none⟩ (.string ⟨(rdD bs).1.toArray⟩)) Z 24 (.int .i64 0) (.string ⟨#[]⟩) (.slice none 0 0) (.string ⟨#[]⟩)) := (FZr.out.kept k9 (by have := HN.out; omega)).kept kept_set (by have := HN.out; omega)
      have RS9 : Hid (Rs (w9.setCell ⟨X, 3, none⟩ (.string ⟨(rdD bs).1.toArray⟩)) B R bs bs.length (rdD bs).2) := h9.kept kept_set (by have := HN.out; omega) (by have := HN.out; omega)
      have IT9 : Hid (Its (w9.setCell ⟨X, 3, none⟩ (.string ⟨(rdD bs).1.toArray⟩)) w3.heap.size (.slice ao i c) (rdGs bs).1) := ((ITr.out.kept k9 (fun x hx => by have := (World.ownsRow.lt ITr.out x hx).1; have := HN.out; omega)).kept kept_set (fun x hx e => by have := (World.ownsRow.lt ITr.out x hx).1; have := HN.out; omega))
      have KW9 : Hid (Kept (fun x => x < w3.heap.size ∧ x ≠ B ∧ x ≠ X) w3 (w9.setCell ⟨X, 3, none⟩ (.string ⟨(rdD bs).1.toArray⟩))) := KWr.out.trans ((k9.mono (fun _ _ h => h.2.1)).then kept_set (fun _ _ h => h.2.2))
      clear x0 x1 x2 x3 xf F9 h9 k9 c9 FXr FZr RSr ITr KWr
      generalize w9.setCell ⟨X, 3, none⟩ (.string ⟨(rdD bs).1.toArray⟩) = w9 at *
      have ce := end_any RS9.out
      have cf : ∀ W, Kept (fun _ => True) w9 W → Calls Try.prog 45 #[.agg #[.int .i64 ((rdK bs).1 : Nat), .string ⟨(rdX bs).1.toArray⟩, .slice ao i c, .string ⟨(rdD bs).1.toArray⟩]] W fun e w' => e = .returned (.bool (fmd (rdR bs).1)) ∧ Kept (fun _ => True) W w' := fun W k => by
        have := formed_any (r := (rdR bs).1) (cap := c) (IT9.out.gv.all k) (by show (rdGs bs).1.length ≤ _; rw [EL.out]; omega)
        unfold Ur.val at this
        rw [show (rdR bs).1.gs.length = i from EL.out] at this
        exact this
      obtain ⟨x0, x1, x2, x3⟩ := FX9.out.cell
      have HREC : Hid (rec? bs = if ((rdD bs).2.end_ bs).1 = 0 ∧ fmd (rdR bs).1 = true then some (rdR bs).1 else none) := rfl
      have KF : Hid (Kept (fun _ => True) w w9) := KW3.out.then KW9.out (fun i hi _ => by have := HN.out; omega)
      have hz : w.heap.size ≤ Z := by have := HN.out; omega
      have hzz : Z < w3.heap.size := by have := HN.out; omega
      by_cases he : ((rdD bs).2.end_ bs).1 = 0
      · cases hf : fmd (rdR bs).1
        · rw [hf] at cf HREC
          rw [he] at ce HREC
          clear he hf
          have HREC2 : Hid (rec? bs = none) := by have := HREC.out; show _ = _; simpa using this
          clear HREC
          go_wp2_with (first
            | (go_at_call 44; (with_reducible refine Calls.mono ce ?_); rintro e w10 ⟨rfl, n10, rfl⟩)
            | (go_at_call 45; (with_reducible refine Calls.mono (cf _ ((Kept.refl _ _).drewN _)) ?_); rintro e w11 ⟨rfl, k11⟩; have k12 : Kept (fun _ => True) w9 w11 := ((Kept.refl _ _).drewN _).trans k11; have F11 := FZ9.out.kept k12 trivial; obtain ⟨z0, z1, z2, z3⟩ := F11.cell; have zf := F11.free; have F12 := FX9.out.kept k12 trivial; obtain ⟨x0, x1, x2, x3⟩ := F12.cell))
          refine bodyPost_ret (results_cu rfl _ _ rfl (load_rec ((((F11.set0 _).set1 _).set2 _).set3 _))) rfl ⟨.inl ⟨HREC2.out, rfl⟩, ?_⟩
          exact kept_fresh (kept_fresh (kept_fresh (kept_fresh (KF.out.trans k12) hz _) hz _) hz _) hz _
        · rw [hf] at cf HREC
          rw [he] at ce HREC
          clear he hf
          have HREC2 : Hid (rec? bs = some (rdR bs).1) := by have := HREC.out; show _ = _; simpa using this
          clear HREC
          go_wp2_with (first
            | (go_at_call 44; (with_reducible refine Calls.mono ce ?_); rintro e w10 ⟨rfl, n10, rfl⟩)
            | (go_at_call 45; (with_reducible refine Calls.mono (cf _ ((Kept.refl _ _).drewN _)) ?_); rintro e w11 ⟨rfl, k11⟩; have k12 : Kept (fun _ => True) w9 w11 := ((Kept.refl _ _).drewN _).trans k11; have F11 := FZ9.out.kept k12 trivial; obtain ⟨z0, z1, z2, z3⟩ := F11.cell; have zf := F11.free; have F12 := FX9.out.kept k12 trivial; obtain ⟨x0, x1, x2, x3⟩ := F12.cell))
          refine bodyPost_ret (results_cu rfl _ _ rfl (load_rec ((((F11.set0 _).set1 _).set2 _).set3 _))) rfl ⟨.inr ⟨(rdR bs).1, ao, c, HREC2.out, ?_, ?_⟩, ?_⟩
          · unfold Ur.val
            rw [show (rdR bs).1.gs.length = i from EL.out]
            rfl
          · have I11 := IT9.out.kept k12 (fun _ _ => trivial)
            have hne : ∀ x, (Value.slice ao i c).ownBlock = some x → x ≠ Z := fun x hx => by have := (World.ownsRow.lt I11 x hx).1; omega
            show Its _ _ (.slice ao (rdGs bs).1.length c) (rdGs bs).1
            rw [EL.out]
            exact World.ownsRow.mono ((((I11.kept kept_set hne).kept kept_set hne).kept kept_set hne).kept kept_set hne) (by omega)
          · exact kept_fresh (kept_fresh (kept_fresh (kept_fresh (KF.out.trans k12) hz _) hz _) hz _) hz _
      · have hne : (((rdD bs).2.end_ bs).1 == 0) = false := by simpa using he
        have hne2 : (((rdD bs).2.end_ bs).1 != 0) = true := by simpa using he
        have HREC2 : Hid (rec? bs = none) := by have := HREC.out; show _ = _; simpa [he] using this
        clear HREC
        go_wp2_with (go_at_call 44; (with_reducible refine Calls.mono ce ?_); rintro e w10 ⟨rfl, n10, rfl⟩; have k12 : Kept (fun _ => True) w9 (w9.drewN n10) := (Kept.refl _ _).drewN _; have F11 := FZ9.out.kept k12 trivial; obtain ⟨z0, z1, z2, z3⟩ := F11.cell; have zf := F11.free)
        refine bodyPost_ret (results_cu rfl _ _ rfl (load_rec ((((F11.set0 _).set1 _).set2 _).set3 _))) rfl ⟨.inl ⟨HREC2.out, rfl⟩, ?_⟩
        exact kept_fresh (kept_fresh (kept_fresh (kept_fresh (KF.out.trans k12) hz _) hz _) hz _) hz _

end Go.Proofs.Ytmcaoimgmgjjiaa

namespace Go.Proofs.Ytmcaoimgmgjjiaa

theorem xor_bits (a b : Nat) (ha : a < 4294967296) (hb : b < 4294967296) : bits BinOp.xor .u32 (a : Int) (b : Int) = ((a ^^^ b : Nat) : Int) := u32_xor_nat a b ha hb
theorem and_bits (a b : Nat) (ha : a < 4294967296) (hb : b < 4294967296) : bits BinOp.and .u32 (a : Int) (b : Int) = ((a &&& b : Nat) : Int) := u32_and_nat a b ha hb

end Go.Proofs.Ytmcaoimgmgjjiaa
