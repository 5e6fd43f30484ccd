/-
  A transaction: New.
-/
import Derived.Test.YtebpkhemkdgbjaaYJ
import Derived.Test.YtebpkhemkdgbjaaMSr
import Derived.Deep.CutBlock
import Derived.Deep.OwnRows
namespace Go.Proofs.Ytebpkhemkdgbjaa
open Go.RowKit

theorem make_ints (n : Nat) (hn : n ≤ 1000000) (W : World) : (Instr.makeSlice 39 (.int .i64 (n : Int)) (.int .i64 (n : Int))).run Try.prog W = .ok (.slice (some ⟨W.heap.size, 0, none⟩) n n) (W.alloc (.cells (madeCells #[.int .i64 0] n) 3)) :=
  run_make_row' (P := Try.prog) 39 3 (.int .i64 0) 8 Try.underlying39 Try.infoInt (by simp [Value.cells]) .i64 .i64 n (by omega) (by omega) W
theorem make_texts (n : Nat) (hn : n ≤ 1000000) (W : World) : (Instr.makeSlice 37 (.int .i64 (n : Int)) (.int .i64 (n : Int))).run Try.prog W = .ok (.slice (some ⟨W.heap.size, 0, none⟩) n n) (W.alloc (.cells (madeCells #[.string ⟨#[]⟩] n) 9)) :=
  run_make_row' (P := Try.prog) 37 9 (.string ⟨#[]⟩) 16 Try.underlying37 Try.infoText (by simp [Value.cells]) .i64 .i64 n (by omega) (by omega) W
theorem own_ints {w : World} {g n base : Nat} (h : w.heap[g]? = some (.cells (madeCells #[.int .i64 0] n) 3 (0, 0))) (hb : base ≤ g) (hn : n ≤ 1000000) : Its w base (.slice (some ⟨g, 0, none⟩) n n) (List.replicate n 0) := by
  refine ⟨by simp [irow], .inr ⟨g, n, _, by simp, hb, h, by simp, by unfold maxLen; omega, by simp [madeCells], ?_⟩⟩
  rw [toList_madeCells_one]
  simp [irow]
theorem own_texts0 {w : World} {g n base : Nat} (h : w.heap[g]? = some (.cells (madeCells #[.string ⟨#[]⟩] n) 9 (0, 0))) (hb : base ≤ g) (hn : n ≤ 1000000) : Txs w base (.slice (some ⟨g, 0, none⟩) n n) (List.replicate n []) := by
  refine ⟨by simp [srow], .inr ⟨g, n, _, by simp, hb, h, by simp, by unfold maxLen; omega, by simp [madeCells], ?_⟩⟩
  rw [toList_madeCells_one]
  simp [srow]
theorem alloc_tri (w : World) (a b c : Obj) : let W := (((w.alloc a).alloc b).alloc c).drew; W.heap[w.heap.size]? = some a ∧ W.heap[w.heap.size + 1]? = some b ∧ W.heap[w.heap.size + 1 + 1]? = some c := by
  have e1 : (w.alloc a).heap.size = w.heap.size + 1 := by simp
  have e2 : ((w.alloc a).alloc b).heap.size = w.heap.size + 1 + 1 := by simp
  refine ⟨?_, ?_, ?_⟩
  · show (((w.alloc a).alloc b).alloc c).heap[w.heap.size]? = some a
    rw [heap_alloc_old _ _ (by omega), heap_alloc_old _ _ (by omega)]; exact heap_alloc_new _ a
  · show (((w.alloc a).alloc b).alloc c).heap[w.heap.size + 1]? = some b
    rw [heap_alloc_old _ _ (by omega), ← e1]; exact heap_alloc_new _ b
  · show (((w.alloc a).alloc b).alloc c).heap[w.heap.size + 1 + 1]? = some c
    rw [← e2]; exact heap_alloc_new _ c

/-- A transaction that is made, its owners to be told. -/
def rawT (L : List Nat) : Tn := ⟨L, List.replicate L.length [], B3.none, B3.none, 0, 0, 0⟩
/-- Its block, and two rows. -/
structure Nt (w wx : World) (n T go gt : Nat) : Prop where
  box : wx.heap[T]? = some (.cells (tcells (.slice (some ⟨go, 0, none⟩) n n) (.slice (some ⟨gt, 0, none⟩) n n) (rawT (List.replicate n 0))) 83 (0, 0))
  ow : wx.heap[go]? = some (.cells (madeCells #[.int .i64 0] n) 3 (0, 0))
  tx : wx.heap[gt]? = some (.cells (madeCells #[.string ⟨#[]⟩] n) 9 (0, 0))
  low : w.heap.size ≤ T ∧ w.heap.size ≤ go ∧ w.heap.size ≤ gt
  kept : Kept (fun _ => True) w wx
theorem Nt.tm {w wx : World} {n T go gt : Nat} (h : Nt w wx n T go gt) (h4 : n ≤ 4) : Tm wx w.heap.size T (.slice (some ⟨go, 0, none⟩) n n) (.slice (some ⟨gt, 0, none⟩) n n) (rawT (List.replicate n 0)) := by
  refine ⟨h.box, own_ints h.ow h.low.2.1 (by omega), ?_, by simp [rawT], fun g hg => ?_, by simp [rawT]; omega, h.low.1⟩
  · have := own_texts0 h.tx h.low.2.2 (by omega)
    simpa [rawT] using this
  · have := List.eq_of_mem_replicate hg
    omega
theorem Its.set {w : World} {base g n cap : Nat} {ss : List Nat} (h : Its w base (.slice (some ⟨g, 0, none⟩) n cap) ss) (k x : Nat) :
    Its (w.setCell ⟨g, k, none⟩ (.int .i64 x)) base (.slice (some ⟨g, 0, none⟩) n cap) (ss.set k x) ∧ w.frozen? ⟨g, k, none⟩ = false := by
  have hn : n = ss.length := by
    rcases h.2 with ⟨h', _⟩ | ⟨g', cap', cur, h', _⟩
    · simp at h'
    · simp at h'
      simpa using h'.2.1
  subst hn
  have h2 : w.ownsRow base 3 1 (.slice (some ⟨g, 0, none⟩) ss.length cap) ss.length (irow ss) := h
  refine ⟨?_, h2.frozenAt _⟩
  have h3 := (h2.stored k (.int .i64 x)).1
  unfold Its
  rw [List.length_set]
  have e : irow (ss.set k x) = (irow ss).set k (.int .i64 x) := by
    unfold irow
    rw [List.map_set]
  rw [e]
  exact h3
theorem Tm.owner {w : World} {b T go n c : Nat} {tv : Value} {L : List Nat} (h : Tm w b T (.slice (some ⟨go, 0, none⟩) n c) tv (rawT L)) (k x : Nat) (hx : x < 3) : Tm (w.setCell ⟨go, k, none⟩ (.int .i64 x)) b T (.slice (some ⟨go, 0, none⟩) n c) tv (rawT (L.set k x)) := by
  have kk : Kept (· ≠ go) w (w.setCell ⟨go, k, none⟩ (.int .i64 x)) := (Kept.refl _ _).setCell (by simp) _
  have hT : T ≠ go := fun e => h.ovT (by rw [e]; rfl)
  refine ⟨(kk.block T h.lt hT).trans h.self, (h.ow.set k x).1, ?_, by simp [rawT], fun g hg => ?_, by have := h.few; simpa [rawT] using this, h.tb⟩
  · have := h.tx.kept kk (fun y hy e => h.ovtv (by rw [e]; rfl : (Value.slice (some ⟨go, 0, none⟩) n c).ownBlock = some y) hy)
    simpa [rawT] using this
  · rcases List.mem_or_eq_of_mem_set hg with q | q
    · exact h.lt3 g q
    · omega

/-- Of which operations the owner is laid: those of the first i groups, and the first m places of group i. -/
def Laid (h : Nat → Int) (n i m : Nat) (L : List Nat) : Prop :=
  L.length = n ∧ ∀ k, k < n → ((∃ j : Nat, j < i ∧ ∃ hj : j < (grp h n 3).length, h k = ((grp h n 3)[j] : Int)) ∨ (∃ q : Nat, q < m ∧ ∃ hi : i < (grp h n 3).length, ∃ hq : q < (idx h n (grp h n 3)[i]).length, (idx h n (grp h n 3)[i])[q] = k)) → L[k]? = some (h k).toNat
theorem Laid.start (h : Nat → Int) (n : Nat) : Laid h n 0 0 (List.replicate n 0) := by
  refine ⟨by simp, fun k _ hk => ?_⟩
  rcases hk with ⟨j, hj, _⟩ | ⟨q, hq, _⟩ <;> omega
theorem Laid.one {h : Nat → Int} {n i m : Nat} {L : List Nat} (hl : Laid h n i m L) (hi : i < (grp h n 3).length) (hm : m < (idx h n (grp h n 3)[i]).length) : Laid h n i (m + 1) (L.set (idx h n (grp h n 3)[i])[m] (grp h n 3)[i]) := by
  refine ⟨by rw [List.length_set]; exact hl.1, fun k hk hq => ?_⟩
  obtain ⟨a1, a2⟩ := idx_mem (List.getElem_mem hm)
  by_cases e : (idx h n (grp h n 3)[i])[m] = k
  · subst e
    rw [List.getElem?_set_self (by rw [hl.1]; exact a1), a2]
    rfl
  · rw [List.getElem?_set_ne e]
    refine hl.2 k hk ?_
    rcases hq with hq | ⟨q, hq1, hq2, hq3, hq4⟩
    · exact .inl hq
    · refine .inr ⟨q, ?_, hq2, hq3, hq4⟩
      by_cases e2 : q = m
      · subst e2
        exact absurd hq4 e
      · omega
theorem Laid.next {h : Nat → Int} {n i : Nat} {L : List Nat} (hi : i < (grp h n 3).length) (hl : Laid h n i (idx h n (grp h n 3)[i]).length L) : Laid h n (i + 1) 0 L := by
  refine ⟨hl.1, fun k hk hq => hl.2 k hk ?_⟩
  rcases hq with ⟨j, hj, hj2, e⟩ | ⟨q, hq, _⟩
  · by_cases e2 : j = i
    · subst e2
      have hm : k ∈ idx h n (grp h n 3)[j] := by
        unfold idx
        exact List.mem_filter.2 ⟨List.mem_range.2 hk, by simpa using e⟩
      obtain ⟨q, hq, e3⟩ := List.getElem_of_mem hm
      exact .inr ⟨q, hq, hi, hq, e3⟩
    · exact .inl ⟨j, by omega, hj2, e⟩
  · omega
/-- Whose the operations are. -/
def owl (h : Nat → Int) (n : Nat) : List Nat := (List.range n).map fun k => (h k).toNat
theorem owl_length (h : Nat → Int) (n : Nat) : (owl h n).length = n := by simp [owl]
theorem Laid.done {h : Nat → Int} {n : Nat} {L : List Nat} (hl : Laid h n (grp h n 3).length 0 L) (hg : ∀ k, k < n → 0 ≤ h k ∧ h k < 3) : L = owl h n := by
  apply List.ext_getElem?
  intro k
  by_cases hk : k < n
  · rw [hl.2 k hk ?_]
    · simp [owl, hk]
    · have hc := hg k hk
      have hm : k ∈ idx h n (h k).toNat := List.mem_filter.2 ⟨List.mem_range.2 hk, by simp; omega⟩
      have : (h k).toNat ∈ grp h n 3 := List.mem_filter.2 ⟨List.mem_range.2 (by omega), by
        cases hq : idx h n (h k).toNat with
        | nil => rw [hq] at hm; cases hm
        | cons _ _ => rfl⟩
      obtain ⟨j, hj, e⟩ := List.getElem_of_mem this
      exact .inl ⟨j, hj, hj, by rw [e]; omega⟩
  · rw [List.getElem?_eq_none (by rw [hl.1]; omega), List.getElem?_eq_none (by rw [owl_length]; omega)]
theorem oh_owl {h : Nat → Int} {n : Nat} (hg : ∀ k, k < n → 0 ≤ h k ∧ h k < 3) {k : Nat} (hk : k < n) : oh (owl h n) k = h k := by
  have := hg k hk
  simp [oh, owl, hk]
  omega

theorem Txs.low {w : World} {b b' : Nat} {v : Value} {ss : List (List UInt8)} (h : Txs w b v ss) (hb : b' ≤ b) : Txs w b' v ss := by
  refine ⟨h.1, ?_⟩
  rcases h.2 with h0 | ⟨g, cap, cur, rfl, hg, rest⟩
  · exact .inl h0
  · exact .inr ⟨g, cap, cur, rfl, Nat.le_trans hb hg, rest⟩

set_option maxRecDepth 100000 in
set_option maxHeartbeats 4000000 in
theorem new_txn {w : World} (tx : List UInt8) (ht : tx.isEmpty = false) {ao : Option Addr} {cap : Nat} {ep : Int} {ps : List Pa} (h : Pv w ao ps) (hr : rgt ep ps = true) {am : Option Addr} {cm : Nat} {os : List Oz} (hm : Ov w am os) (hs : ∀ o ∈ os, o.cas.length ≤ 140737488355328) (h0 : 0 < os.length) (h4 : os.length ≤ 4) :
    Calls Try.prog 9 #[.string ⟨tx.toArray⟩, .slice am os.length cm, .agg #[.int .i64 ep, .slice ao ps.length cap]] w fun e w' => ∃ T ov tv, e = .returned (.tuple #[.pointer (some ⟨T, 0, none⟩), .int .i64 0]) ∧ Tm w' w.heap.size T ov tv (rawT (owl (hof ps os) os.length)) ∧ Kept (fun _ => True) w w' := by
  obtain ⟨-, -, hrE⟩ := rgt_iff.1 hr
  have hl := rgt_most hrE
  have hGG : Hid (∀ k, k < os.length → 0 ≤ hof ps os k ∧ hof ps os k < 3) := fun k hk => by
    obtain ⟨g, hg, e⟩ := hof_group (ps := ps) (os := os) hk hrE
    omega
  have HB : Hid (Bx (w.alloc (.cells #[.int .i64 ep, .slice ao ps.length cap] 24)) w.heap.size ao cap ep ps) := Bx.made h
  have HK : Hid (Kept (fun _ => True) w (w.alloc (.cells #[.int .i64 ep, .slice ao ps.length cap] 24))) := (Kept.refl _ _).alloc _
  have HM : Hid (Ov w am os) := hm
  have c := right_any (cap := cap) (ep := ep) HB.out.view (by omega)
  rw [hr] at c
  obtain ⟨x0, x1⟩ := HB.out.cells
  have n0 : (os.length : Int) ≠ 0 := by omega
  have n0b : ((os.length : Int) == 0) = false := by simpa using n0
  have n4 : ¬ ((4 : Int) < (os.length : Int)) := by omega
  have CS : Hid (∀ W, Pv W ao ps → Ov W am os → Calls Try.prog 33 #[.agg #[.int .i64 ep, .slice ao ps.length cap], .slice am os.length cm] W fun e w' => ESplitB W.heap.size (hof ps os) os.length W e w') := fun W a b => split_new (cap := cap) (cm := cm) a hr b hs (by omega)
  clear h hr hm hs hrE
  have HSt := Laid.start (hof ps os) os.length
  have HG3 : Hid (∀ g ∈ grp (hof ps os) os.length 3, g < 3) := fun g hg => by
    have := List.mem_filter.1 hg
    exact List.mem_range.1 this.1
  have HMM : Hid (∀ g k, k ∈ idx (hof ps os) os.length g → k < os.length) := fun g k hk => (idx_mem hk).1
  have HIM : Hid (∀ g, (idx (hof ps os) os.length g).length ≤ os.length) := fun g => idx_most _ _ _
  have hgm := grp_most (hof ps os) os.length 3
  generalize hof ps os = h at *
  go_enter Try.func9, Try.ntmps9
  go_wp2_with (go_at_call 35; (with_reducible refine Calls.mono c ?_); rintro e w2 ⟨rfl, k2⟩)
  have HB2 : Hid (Bx w2 w.heap.size ao cap ep ps) := HB.out.all k2
  have K2 : Hid (Kept (fun _ => True) w w2) := HK.out.trans k2
  have HM2 : Hid (Ov w2 am os) := HM.out.all K2.out
  have mI := make_ints os.length (by omega)
  have mT := make_texts os.length (by omega)
  have hn : os.length = os.length := rfl
  clear c x0 x1 n0 n0b n4 k2 HB HK HM
  go_upto_region 3 with fail
  go_cut [8] from 32 to 39 (fun t8 wx => ∃ T go gt : Nat, t8 = .pointer (some ⟨T, 0, none⟩) ∧ Nt w2 wx os.length T go gt)
  case first =>
    go_region_held3 (fun W => Kept (fun _ => True) w2 W) (first | assumption | (repeat (first | exact Kept.refl _ _ | refine Kept.drew ?_ | refine Kept.alloc ?_ _))) (fail)
    all_goals
      go_wp2_with fail
      go_meet
      exact ⟨_, _, _, rfl, ⟨(by first | exact (alloc_tri _ _ _ _).1 | exact (alloc_tri _ _ _ _).2.1 | exact (alloc_tri _ _ _ _).2.2), (by first | exact (alloc_tri _ _ _ _).1 | exact (alloc_tri _ _ _ _).2.1 | exact (alloc_tri _ _ _ _).2.2), (by first | exact (alloc_tri _ _ _ _).1 | exact (alloc_tri _ _ _ _).2.1 | exact (alloc_tri _ _ _ _).2.2), ⟨by omega, by omega, by omega⟩, (((((Kept.refl _ _).alloc _).alloc _).alloc _).drew)⟩⟩
  case rest =>
  obtain ⟨T, go, gt, rfl, hnt⟩ := hcut
  have HT : Hid (Tm wc w2.heap.size T (.slice (some ⟨go, 0, none⟩) os.length os.length) (.slice (some ⟨gt, 0, none⟩) os.length os.length) (rawT (List.replicate os.length 0))) := hnt.tm h4
  have HKc : Hid (Kept (fun _ => True) w2 wc) := hnt.kept
  have HBc : Hid (Bx wc w.heap.size ao cap ep ps) := HB2.out.all hnt.kept
  have cs := CS.out _ HBc.out.view (HM2.out.all hnt.kept)
  obtain ⟨x0, x1⟩ := HBc.out.cells
  have HGo : Hid (go < wc.heap.size) := HT.out.ow.lt rfl
  have HGo2 : Hid (w2.heap.size ≤ go) := HT.out.ow.ge rfl
  clear hnt mI mT HB2 HM2
  go_wp2_with (go_at_call 33; (with_reducible refine Calls.mono cs ?_); rintro e w4 ⟨gv, pv, vs, rfl, hg4, hp4, hl4, hv4, k4⟩; obtain ⟨gp, gc, rfl⟩ := hg4.shape; obtain ⟨pp, pc, rfl⟩ := hp4.shape; have HG4 : Hid (Its w4 wc.heap.size (.slice gp (grp h os.length 3).length gc) (grp h os.length 3)) := hg4; have HP4 : Hid (Sls w4 wc.heap.size (.slice pp vs.length pc) vs) := hp4; have HV4 : Hid (∀ i (h1 : i < vs.length) (h2 : i < (grp h os.length 3).length), Its w4 wc.heap.size vs[i] (idx h os.length (grp h os.length 3)[i])) := hv4; have HL4 : Hid (vs.length = (grp h os.length 3).length) := hl4; have K4 : Hid (Kept (fun _ => True) wc w4) := k4; have HT4 : Hid (Tm w4 w2.heap.size T (.slice (some ⟨go, 0, none⟩) os.length os.length) (.slice (some ⟨gt, 0, none⟩) os.length os.length) (rawT (List.replicate os.length 0))) := HT.out.all k4; clear hg4 hp4 hv4 hl4 k4)
  clear x0 x1 HT HBc cs
  go_loopw [48] (fun t wr => ∃ (i : Nat) (L : List Nat), i ≤ (grp h os.length 3).length ∧ t = .int .i64 i ∧ Laid h os.length i 0 L ∧ Tm wr w2.heap.size T (.slice (some ⟨go, 0, none⟩) os.length os.length) (.slice (some ⟨gt, 0, none⟩) os.length os.length) (rawT L) ∧ Kept (· ≠ go) w4 wr) (fun t _ => (grp h os.length 3).length - (intOf t).toNat)
  case atStart => exact ⟨0, _, Nat.zero_le _, rfl, HSt, HT4.out, Kept.refl _ _⟩
  case round =>
    obtain ⟨i, L, hi, rfl, hLd, hTm, hKp⟩ := hrel
    have HLd : Hid (Laid h os.length i 0 L) := hLd
    have HTm : Hid (Tm wr w2.heap.size T (.slice (some ⟨go, 0, none⟩) os.length os.length) (.slice (some ⟨gt, 0, none⟩) os.length os.length) (rawT L)) := hTm
    have HKp : Hid (Kept (· ≠ go) w4 wr) := hKp
    clear hLd hTm hKp HSt HT4
    by_cases hlt : i < (grp h os.length 3).length
    · have hHG : Its wr wc.heap.size (.slice gp (grp h os.length 3).length gc) (grp h os.length 3) := HG4.out.kept HKp.out (fun x hx e => by have := HG4.out.ge hx; have := HGo.out; omega)
      have hHP : Sls wr wc.heap.size (.slice pp vs.length pc) vs := HP4.out.kept HKp.out (fun x hx e => by have := (World.ownsRow.lt HP4.out.1 x hx).1; have := HGo.out; omega)
      have hil : i < vs.length := by have := HL4.out; omega
      obtain ⟨gp', rfl, c0⟩ := hHG.at i hlt
      obtain ⟨pp', rfl, c1⟩ := hHP.at i hil
      have hIv := HV4.out i hil hlt
      obtain ⟨io, ic, hsh⟩ := hIv.shape
      rw [hsh] at c1 hIv
      have g3 := HG3.out _ (List.getElem_mem hlt)
      have HLo : Hid (∀ m (hm : m < (idx h os.length (grp h os.length 3)[i]).length) L, Laid h os.length i m L → Laid h os.length i (m + 1) (L.set (idx h os.length (grp h os.length 3)[i])[m] (grp h os.length 3)[i])) := fun m hm L hl => hl.one hlt hm
      have HLn : Hid (∀ L, Laid h os.length i (idx h os.length (grp h os.length 3)[i]).length L → Laid h os.length (i + 1) 0 L) := fun L hl => Laid.next hlt hl
      have him := HIM.out (grp h os.length 3)[i]
      have HMM1 : Hid (∀ k, k ∈ idx h os.length (grp h os.length 3)[i] → k < os.length) := fun k hk => HMM.out _ k hk
      have HIv : Hid (Its w4 wc.heap.size (.slice io (idx h os.length (grp h os.length 3)[i]).length ic) (idx h os.length (grp h os.length 3)[i])) := hIv
      have i0 : (0 : Int) ≤ (i : Int) := by omega
      have i1 : (i : Int) < (vs.length : Int) := by omega
      have i2 : (i : Int) < ((grp h os.length 3).length : Int) := by omega
      clear hHG hHP hIv hsh
      generalize (grp h os.length 3)[i] = gI at *
      generalize idx h os.length gI = ix at *
      obtain ⟨wo, ewo⟩ : ∃ x, x = wr := ⟨_, rfl⟩
      subst ewo
      go_wp2_with fail
      go_loopw [58] (fun t wr => ∃ (q : Nat) (L : List Nat), q ≤ ix.length ∧ t = .int .i64 q ∧ Laid h os.length i q L ∧ Tm wr w2.heap.size T (.slice (some ⟨go, 0, none⟩) os.length os.length) (.slice (some ⟨gt, 0, none⟩) os.length os.length) (rawT L) ∧ Kept (· ≠ go) w4 wr) (fun t _ => ix.length - (intOf t).toNat)
      case atStart => exact ⟨0, L, Nat.zero_le _, rfl, HLd.out, HTm.out, HKp.out⟩
      case round =>
      obtain ⟨q, L2, hq, rfl, hLd, hTm, hKp⟩ := hrel
      have HLd2 : Hid (Laid h os.length i q L2) := hLd
      have HTm2 : Hid (Tm wr w2.heap.size T (.slice (some ⟨go, 0, none⟩) os.length os.length) (.slice (some ⟨gt, 0, none⟩) os.length os.length) (rawT L2)) := hTm
      have HKp2 : Hid (Kept (· ≠ go) w4 wr) := hKp
      clear hLd hTm hKp HLd HTm HKp c0 c1
      have j0 : (0 : Int) ≤ (q : Int) := by omega
      by_cases hlq : q < ix.length
      · have hI2 : Its wr wc.heap.size (.slice io ix.length ic) ix := HIv.out.kept HKp2.out (fun x hx e => by have := HIv.out.ge hx; have := HGo.out; omega)
        obtain ⟨gi, rfl, c2⟩ := hI2.at q hlq
        have hm1 := HMM1.out ix[q] (List.getElem_mem hlq)
        have HL3 : Hid (Laid h os.length i (q + 1) (L2.set ix[q] gI)) := HLo.out q hlq L2 HLd2.out
        have d0 := HTm2.out.c.1
        have hL2 : L2.length = os.length := HLd2.out.1
        generalize ix[q] = m at *
        obtain ⟨u9, d1⟩ : ∃ u9, wr.cell? ⟨go, m, none⟩ = some u9 := by
          obtain ⟨_, e9, d9⟩ := HTm2.out.ow.at m (by show m < L2.length; omega)
          cases e9
          exact ⟨_, d9⟩
        have d2 := (HTm2.out.ow.set m gI).2
        have HT3 : Hid (Tm (wr.setCell ⟨go, m, none⟩ (.int .i64 (gI : Nat))) w2.heap.size T (.slice (some ⟨go, 0, none⟩) os.length os.length) (.slice (some ⟨gt, 0, none⟩) os.length os.length) (rawT (L2.set m gI))) := HTm2.out.owner m gI g3
        have j1 : (q : Int) < (ix.length : Int) := by omega
        have m0 : (0 : Int) ≤ (m : Int) := by omega
        have m1 : (m : Int) < (os.length : Int) := by omega
        clear hI2 hL2
        go_wp2_with fail
        go_roundw
        case rel => exact ⟨q + 1, _, by omega, by go_num, HL3.out, HT3.out, HKp2.out.setCell (by simp) _⟩
        case measure => simp [intOf]; omega
      · have hke : q = ix.length := by omega
        subst hke
        go_wp2_with fail
        go_roundw
        case rel => exact ⟨i + 1, L2, by omega, by go_num, HLn.out _ HLd2.out, HTm2.out, HKp2.out⟩
        case measure => simp [intOf]; omega
    · have hie : i = (grp h os.length 3).length := by omega
      subst hie
      go_wp2_with fail
      go_ret2
      refine ⟨T, .slice (some ⟨go, 0, none⟩) os.length os.length, .slice (some ⟨gt, 0, none⟩) os.length os.length, rfl, ?_, (K2.out.trans (HKc.out.trans K4.out)).then HKp.out (fun x hx _ e => by have := K2.out.size; have := HGo2.out; omega)⟩
      have e := HLd.out.done hGG.out
      rw [← e]
      have q := HTm.out
      have hsz := K2.out.size
      exact ⟨q.self, q.ow.low hsz, Txs.low q.tx hsz, q.len, q.lt3, q.few, Nat.le_trans hsz q.tb⟩

end Go.Proofs.Ytebpkhemkdgbjaa
