/-
  readPart and Load: the program's.
-/
import Derived.Test.YtclgdgdponoomaaM8
import Derived.Test.YtclgdgdponoomaaM3
import Derived.Test.YtclgdgdponoomaaMCall
namespace Go.Proofs.Ytclgdgdponoomaa
open Go.RowKit

theorem Try.sizePa : (Try.prog.info? 30).map (·.size) = some 3 := by kernel_rfl
theorem results_pa {fn : Func} {p : Nat} (h : fn.results = #[.cell p 30]) (tmps : Array Value) (w : World) {g : Nat} {x y z : Value} {t : TypeId} {fr : Nat × Nat} (hp : tmps.getD p undef = .pointer (some ⟨g, 0, none⟩)) (hg : w.heap[g]? = some (.cells #[x, y, z] t fr)) :
    (results fn tmps).run Try.prog w = .ok (.agg #[x, y, z]) w :=
  results_cell_row h tmps w g t #[x, y, z] fr _ hp hg Try.underlying30 rfl Try.sizePa

set_option maxRecDepth 100000 in
set_option maxHeartbeats 1000000 in
theorem readPart_any {w : World} {B R : Nat} {bs : List UInt8} {cap : Nat} {s : RS} (h : Rs w B R bs cap s) :
    Calls Try.prog 33 #[.pointer (some ⟨B, 0, none⟩)] w fun e w' => e = .returned (.agg #[.int .i64 (rpart s bs).1.lo, .int .i64 (rpart s bs).1.hi, .int .i64 (rpart s bs).1.g]) ∧ Rs w' B R bs cap (rpart s bs).2 ∧ Kept (· ≠ B) w w' := by
  have k1 : Kept (fun _ => True) w (w.alloc (.cells #[.int .i64 0, .int .i64 0, .int .i64 0] 30)) := (Kept.refl _ _).alloc _
  have h1 := h.kept k1 trivial trivial
  have hB : w.heap.size ≠ B ∧ w.heap.size ≠ R := ⟨Ne.symm (Nat.ne_of_lt h.lt), Ne.symm (Nat.ne_of_lt h.rowlt)⟩
  have hX := heap_alloc_new w (.cells #[.int .i64 0, .int .i64 0, .int .i64 0] 30)
  unfold rpart
  have cn := fun W (q : Rs W B R bs cap s) => eight_any q
  generalize s.num bs 8 = n at cn ⊢
  obtain ⟨n, s2⟩ := n
  have cn2 := fun W (q : Rs W B R bs cap s2) => eight_any q
  simp only at cn ⊢
  generalize s2.num bs 8 = n2 at cn2 ⊢
  obtain ⟨n2, s3⟩ := n2
  have cn3 := fun W (q : Rs W B R bs cap s3) => eight_any q
  simp only at cn2 ⊢
  generalize s3.num bs 8 = n3 at cn3 ⊢
  obtain ⟨n3, s4⟩ := n3
  simp only at cn3 ⊢
  go_enter Try.func33, Try.ntmps33
  go_wp2_with fail
  generalize hw1 : w.alloc (.cells #[.int .i64 0, .int .i64 0, .int .i64 0] 30) = w1 at *
  generalize hXe : w.heap.size = X at hX hB ⊢
  have HX : Hid (w.heap.size ≤ X) := Nat.le_of_eq hXe
  clear hw1 hXe
  refine Calls.mono (cn _ h1) ?_
  rintro e w3 ⟨rfl, h3, k3⟩
  have hX3 := (k3.block X (lt_of_block hX) hB.1).trans hX
  clear h1 hX cn
  go_wp2_with fail
  refine Calls.mono (cn2 _ h3) ?_
  rintro e w4 ⟨rfl, h4, k4⟩
  have hX4 := (k4.block X (lt_of_block hX3) hB.1).trans hX3
  clear h3 hX3 cn2
  go_wp2_with fail
  refine Calls.mono (cn3 _ h4) ?_
  rintro e w7 ⟨rfl, h7, k7⟩
  have hX7 := (k7.block X (lt_of_block hX4) hB.1).trans hX4
  have k8 : Kept (· ≠ B) w w7 := (k1.mono (fun _ _ _ => trivial)).trans (k3.trans (k4.trans k7))
  have f0 : w7.frozen? ⟨X, 0, none⟩ = false := by simp [World.frozen?, hX7]
  have f1 : w7.frozen? ⟨X, 1, none⟩ = false := by simp [World.frozen?, hX7]
  have f2 : w7.frozen? ⟨X, 2, none⟩ = false := by simp [World.frozen?, hX7]
  obtain ⟨x0, x1, x2⟩ := mthree_cell hX7
  clear h4 hX4 cn3
  go_wp2_with fail
  refine bodyPost_ret (results_pa rfl _ _ rfl (mset_at (mset_at (mset_at hX7 0 _) 1 _) 2 _)) rfl ⟨rfl, h7.kept (p := (· ≠ X)) ((((Kept.refl _ _).setCell (by simp) _).setCell (by simp) _).setCell (by simp) _) (Ne.symm hB.1) (Ne.symm hB.2), ((k8.setFresh HX.out _).setFresh HX.out _).setFresh HX.out _⟩

/-- A reader, a Map's variable and the result's, side by side; behind w0. -/
structure Lm (w0 w : World) (B R : Nat) (bs : List UInt8) (s : RS) (A : Nat) (v : Value) (ep : Int) (ps : List Pa) : Prop where
  rs : Rs w B R bs bs.length s
  self : w.heap[A]? = some (.cells #[.int .i64 ep, v] 24 (0, 0))
  po : Po 30 w w0.heap.size v ps
  res : w.heap[w0.heap.size]? = some (.cells #[.int .i64 0, .slice none 0 0] 24 (0, 0))
  kept : Kept (fun _ => True) w0 w
  a0 : w0.heap.size < A
  b0 : w0.heap.size ≤ B
section
variable {w0 w w' : World} {B R : Nat} {bs : List UInt8} {s s' : RS} {A : Nat} {v v' : Value} {ep : Int} {ps qs : List Pa}
theorem Lm.ab (h : Lm w0 w B R bs s A v ep ps) : A ≠ B ∧ A ≠ R ∧ w0.heap.size ≠ B ∧ w0.heap.size ≠ R := by
  obtain ⟨cur, hr, -⟩ := h.rs.rd.row
  refine ⟨fun q => ?_, fun q => ?_, fun q => ?_, fun q => ?_⟩
  · have := h.self; rw [q, h.rs.rd.self] at this; simp at this
  · have := h.self; rw [q, hr] at this; simp at this
  · have := h.res; rw [q, h.rs.rd.self] at this; simp at this
  · have := h.res; rw [q, hr] at this; simp at this
theorem Lm.vb (h : Lm w0 w B R bs s A v ep ps) : v.ownBlock ≠ some A ∧ v.ownBlock ≠ some B ∧ v.ownBlock ≠ some R ∧ v.ownBlock ≠ some w0.heap.size := by
  obtain ⟨cur, hr, -⟩ := h.rs.rd.row
  exact ⟨h.po.ne h.self (by decide), h.po.ne h.rs.rd.self (by decide), h.po.ne hr (by decide), h.po.ne h.res (by decide)⟩
theorem Lm.all (h : Lm w0 w B R bs s A v ep ps) (k : Kept (fun _ => True) w w') : Lm w0 w' B R bs s A v ep ps :=
  ⟨h.rs.kept k trivial trivial, (k.block _ (lt_of_block h.self) trivial).trans h.self, h.po.all k, (k.block _ (lt_of_block h.res) trivial).trans h.res, h.kept.trans k, h.a0, h.b0⟩
theorem Lm.read (h : Lm w0 w B R bs s A v ep ps) (r : Rs w' B R bs bs.length s') (k : Kept (· ≠ B) w w') : Lm w0 w' B R bs s' A v ep ps :=
  ⟨r, (k.block _ (lt_of_block h.self) h.ab.1).trans h.self, h.po.kept k (fun x hx e => h.vb.2.1 (e ▸ hx)), (k.block _ (lt_of_block h.res) h.ab.2.2.1).trans h.res, h.kept.then k (fun i hi _ => by have := h.b0; omega), h.a0, h.b0⟩
/-- Behind an append and the store. -/
theorem Lm.push (h : Lm w0 w B R bs s A v ep ps) (hp : Po 30 w' w0.heap.size v' qs) (k : Kept (fun x => v.ownBlock ≠ some x) w w') : Lm w0 (w'.setCell ⟨A, 1, none⟩ v') B R bs s A v' ep qs := by
  have hs := (k.block _ (lt_of_block h.self) h.vb.1).trans h.self
  have hr := (k.block _ (lt_of_block h.res) h.vb.2.2.2).trans h.res
  have kA : Kept (· ≠ A) w' (w'.setCell ⟨A, 1, none⟩ v') := (Kept.refl _ _).setCell (by simp) _
  refine ⟨(h.rs.kept k h.vb.2.1 h.vb.2.2.1).kept kA (Ne.symm h.ab.1) (Ne.symm h.ab.2.1), mset_at hs 1 _, hp.kept kA (fun x hx e => hp.ne hs (by decide) (e ▸ hx)), ?_, ?_, h.a0, h.b0⟩
  · exact (kA.block _ (lt_of_block hr) (Nat.ne_of_lt h.a0)).trans hr
  · exact (h.kept.then k (fun i hi _ e => by have := h.po.ge e; omega)).setFresh (Nat.le_of_lt h.a0) _
end

set_option maxRecDepth 100000 in
set_option maxHeartbeats 2000000 in
theorem load_any {w : World} {bs : List UInt8} {cap : Nat} {ao : Option Addr} (hb : (bs.length : Int) ≤ 140737488355328) (hc : Has w ao bs) :
    Calls Try.prog 12 #[.slice ao bs.length cap] w fun e w' => ((loadM bs = none ∧ e = .returned (.tuple #[.agg #[.int .i64 0, .slice none 0 0], .int .i64 12])) ∨ ∃ ep ps ao' cap', loadM bs = some (ep, ps) ∧ e = .returned (.tuple #[.agg #[.int .i64 ep, .slice ao' ps.length cap'], .int .i64 0]) ∧ Po 30 w' w.heap.size (.slice ao' ps.length cap') ps) ∧ Kept (fun _ => True) w w' := by
  have hX := heap_alloc_new w (.cells #[.int .i64 0, .slice none 0 0] 24)
  have kX : Kept (fun _ => True) w (w.alloc (.cells #[.int .i64 0, .slice none 0 0] 24)) := (Kept.refl _ _).alloc _
  have cn := newReader_any (cap := cap) hb (hc.kept kX (fun _ _ => trivial))
  have HX : Hid _ := hX
  have KX : Hid _ := kX
  clear hX kX hc
  have hl0 : loadM bs = loadM bs := rfl
  conv at hl0 => rhs; unfold loadM
  have ce := fun W B R cap (q : Rs W B R bs cap ⟨0, 0⟩) => eight_any q
  generalize (⟨0, 0⟩ : RS).num bs 8 = r at ce hl0
  obtain ⟨m, s1⟩ := r
  simp only at ce hl0
  have cc := fun W B R cap (q : Rs W B R bs cap s1) => count_any 256 q
  have hcm := count_most256 s1 bs
  generalize s1.count bs 256 = r at cc hl0 hcm
  obtain ⟨n, s2⟩ := r
  simp only at cc hl0 hcm
  generalize loadM bs = LD at *
  generalize i64 (m : Nat) = ep at *
  generalize hLL : rparts bs n s2 [] = LL at *
  have HLL : Hid (rparts bs (n - 0) s2 [] = LL) := hLL
  have HL : Hid (LD = if (LL.1.end_ bs).1 = 0 ∧ rgt ep LL.2 = true then some (ep, LL.2) else none) := hl0
  clear hLL hl0
  go_enter Try.func12, Try.ntmps12
  go_wp2_with fail
  refine Calls.mono cn ?_
  rintro e w1 ⟨B, R, rfl, h1, k1, b1, r1⟩
  have H1 : Hid (Rs w1 B R bs bs.length ⟨0, 0⟩) := h1
  have hX1 := (k1.block _ (lt_of_block HX.out) trivial).trans HX.out
  have HX1 : Hid (w1.heap[w.heap.size]? = some (.cells #[.int .i64 0, .slice none 0 0] 24 (0, 0))) := hX1
  have K1 : Hid (Kept (fun _ => True) w w1 ∧ w.heap.size < B) := ⟨KX.out.trans k1, Nat.lt_of_lt_of_le (lt_of_block HX.out) b1⟩
  clear h1 k1 b1 r1 cn hX1 HX KX
  go_wp2_with fail
  refine Calls.mono (ce _ _ _ _ H1.out) ?_
  rintro e w2 ⟨rfl, h2, k2⟩
  have kA : Kept (fun _ => True) w2 (w2.alloc (.cells #[.int .i64 ep, .slice none 0 0] 24)) := (Kept.refl _ _).alloc _
  have hX2 := (k2.block _ (lt_of_block HX1.out) (Nat.ne_of_lt K1.out.2)).trans HX1.out
  have L3 : Hid (Lm w (w2.alloc (.cells #[.int .i64 ep, .slice none 0 0] 24)) B R bs s1 w2.heap.size (.slice none 0 0) ep []) :=
    ⟨h2.kept kA trivial trivial, heap_alloc_new w2 _, Po.nil _ _ _, (kA.block _ (lt_of_block hX2) trivial).trans hX2, (K1.out.1.then k2 (fun i hi _ => by have := K1.out.2; omega)).trans kA, lt_of_block hX2, Nat.le_of_lt K1.out.2⟩
  clear h2 k2 kA hX2 ce K1 HX1 H1
  go_wp2_with fail
  generalize w2.alloc (.cells #[.int .i64 ep, .slice none 0 0] 24) = w3 at *
  generalize w2.heap.size = A at *
  refine Calls.mono (cc _ _ _ _ L3.out.rs) ?_
  rintro e w4 ⟨rfl, h4, k4⟩
  have L4 : Hid (Lm w w4 B R bs s2 A (.slice none 0 0) ep []) := L3.out.read h4 k4
  clear L3 h4 k4 cc
  go_wp2_with fail
  go_loopw [15] (fun t wr => ∃ (j : Nat) (s : RS) (v : Value) (ps : List Pa), j ≤ n ∧ ps.length = j ∧ t = .int .i64 j ∧ rparts bs (n - j) s ps = LL ∧ Lm w wr B R bs s A v ep ps) (fun t _ => n - (intOf t).toNat)
  case atStart => exact ⟨0, s2, _, [], Nat.zero_le _, rfl, rfl, HLL.out, L4.out⟩
  case round =>
    obtain ⟨j, s, v, ps, hj, rfl, rfl, hll, hld⟩ := hrel
    have LW : Hid (Lm w wr B R bs s A v ep ps) := hld
    clear hld L4 HLL
    by_cases hjn : ps.length < n
    · obtain ⟨q, hq⟩ : ∃ q, n - ps.length = q + 1 := ⟨n - ps.length - 1, by omega⟩
      have hq1 : Hid (n - (ps.length + 1) = q) := by show _ = _; omega
      rw [hq] at hll
      unfold rparts at hll
      have cv := fun W (q : Rs W B R bs bs.length s) => readPart_any q
      generalize rpart s bs = r at hll cv
      obtain ⟨⟨plo, phi, pg⟩, s'⟩ := r
      simp only at hll cv
      have HLL : Hid (rparts bs q s' (ps ++ [⟨plo, phi, pg⟩]) = LL) := hll
      have g1 : (ps.length : Int) < (n : Int) := by omega
      obtain ⟨ao2, cap2, rfl, -⟩ := LW.out.po.shape
      obtain ⟨c0, c1⟩ := mtwo_cell LW.out.self
      clear hll hq
      have c1d : wr.drew.cell? ⟨A, 1, none⟩ = some (.slice ao2 ps.length cap2) := c1
      have LD1 : Hid (Lm w wr.drew B R bs s A (.slice ao2 ps.length cap2) ep ps) := LW.out.all ((Kept.refl _ _).drew)
      have CV : Hid (Calls Try.prog 33 #[.pointer (some ⟨B, 0, none⟩)] wr.drew fun e w' => e = .returned (.agg #[.int .i64 plo, .int .i64 phi, .int .i64 pg]) ∧ Rs w' B R bs bs.length s' ∧ Kept (· ≠ B) wr.drew w') := cv _ LD1.out.rs
      have hfn : (callFunc 33 #[.pointer (some ⟨B, 0, none⟩)]).run Try.prog wr.drew = .ok (.enter 33 #[.pointer (some ⟨B, 0, none⟩)]) wr.drew := run_enter Try.func33 (by kernel_rfl) (by kernel_rfl) _ _
      have HF : Hid _ := hfn
      clear hfn cv LW
      go_wp2_with fail
      go_region_law (first
        | (refine step_call ?_ 33 #[.tmp 19] #[72] ?_ ?_ HF.out CV.out ?_; rfl; rfl; rfl; rintro e w7 ⟨rfl, h7, k7⟩; refine ⟨_, rfl, ?_⟩; have L7 : Hid (Lm w w7 B R bs s' A (.slice ao2 ps.length cap2) ep ps) := LD1.out.read h7 k7; have d1 := (mtwo_cell L7.out.self).2; have lA := lt_of_block L7.out.self; clear h7 k7)
        | (refine step_append_pa Try.underlying22 Try.infoPa rfl ?_ (.tmp 18) (.tmp 21) ?_ w.heap.size (.slice ao2 ps.length cap2) ps.length ps ?_ rfl (L7.out.po.all ((Kept.refl _ _).alloc _)) (Nat.le_trans L7.out.kept.size ((Kept.refl (fun _ => True) _).alloc _).size) w7.heap.size ?_ ⟨plo, phi, pg⟩ (0, 0) (heap_alloc_new w7 _) (by omega) ?_; rfl; rfl; rfl; rfl; intro a3 p3 w3 ho3 hg3 hl3; have L8 := L7.out.all ((Kept.refl (fun _ => True) w7).alloc (.cells #[.int .i64 plo, .int .i64 phi, .int .i64 pg] 30)); have k3 := grown_kept hg3; have hs3 := (k3.block _ (lt_of_block L8.self) L8.vb.1).trans L8.self; have e0 := (mtwo_cell hs3).2; have f1 : w3.frozen? ⟨A, 1, none⟩ = false := (by simp [World.frozen?, hs3]); have L9 : Hid _ := L8.push ho3 k3; clear L8 k3 hs3 ho3 hg3 hl3))
      all_goals
        go_wp2_with fail
        go_roundw
        case rel => exact ⟨ps.length + 1, s', _, ps ++ [⟨plo, phi, pg⟩], by omega, by simp, by go_num, by rw [hq1.out]; exact HLL.out, L9.out⟩
        case measure => simp [intOf]; omega
    · have hje : ps.length = n := by omega
      subst hje
      have HL2 : Hid (LL = (s, ps)) := by
        show _ = _
        rw [← hll, Nat.sub_self]
        rfl
      clear hll
      have ce := end_any LW.out.rs
      generalize hE : s.end_ bs = E at ce
      obtain ⟨E1, E2⟩ := E
      have HE : Hid (s.end_ bs = (E1, E2)) := hE
      clear hE
      simp only at ce
      obtain ⟨ao2, cap2, rfl, -⟩ := LW.out.po.shape
      go_wp2_with fail
      refine Calls.mono ce ?_
      rintro e w9 ⟨rfl, m9, rfl⟩
      have L9 : Hid (Lm w (wr.drewN m9) B R bs s A (.slice ao2 ps.length cap2) ep ps) := LW.out.all ((Kept.refl _ _).drewN m9)
      clear ce LW
      generalize wr.drewN m9 = w9 at *
      have kz : Hid (w.heap.size ≤ w.heap.size) := Nat.le_refl _
      by_cases hE1 : E1 = 0
      · subst hE1
        obtain ⟨d0, d1⟩ := mtwo_cell L9.out.self
        have cr := right_any (cap := cap2) (ep := ep) L9.out.po.view (by omega)
        by_cases hr : rgt ep ps = true
        · rw [hr] at cr
          have HR : Hid (LD = some (ep, ps)) := by
            show _ = _
            rw [HL.out, HL2.out]
            simp [HE.out, hr]
          clear hr
          go_wp2_with (go_at_call 16; refine Calls.mono cr ?_; rintro e w10 ⟨rfl, k10⟩; have hA := (k10.block _ (lt_of_block L9.out.self) trivial).trans L9.out.self; have hX := (k10.block _ (lt_of_block L9.out.res) trivial).trans L9.out.res; obtain ⟨e0, e1⟩ := mtwo_cell hA; obtain ⟨g0, g1⟩ := mtwo_cell hX; have f0 : w10.frozen? ⟨w.heap.size, 0, none⟩ = false := (by simp [World.frozen?, hX]); have f1 : w10.frozen? ⟨w.heap.size, 1, none⟩ = false := (by simp [World.frozen?, hX]); have HX : Hid _ := hX; have L10 : Hid _ := L9.out.all k10; clear hA hX k10)
          refine bodyPost_ret (results_cm rfl _ _ rfl (load_map (mset_at (mset_at HX.out 0 _) 1 _))) rfl ⟨.inr ⟨ep, ps, ao2, cap2, HR.out, rfl, ?_⟩, (L10.out.kept.setFresh (Nat.le_refl _) _).setFresh (Nat.le_refl _) _⟩
          exact L10.out.po.kept (p := (· ≠ w.heap.size)) (((Kept.refl _ _).setCell (by simp) _).setCell (by simp) _) (fun k hk e => L10.out.vb.2.2.2 (e ▸ hk))
        · have hr' : rgt ep ps = false := by simpa using hr
          rw [hr'] at cr
          have HR : Hid (LD = none) := by
            show _ = _
            rw [HL.out, HL2.out]
            simp [hr']
          clear hr hr'
          go_wp2_with (go_at_call 16; refine Calls.mono cr ?_; rintro e w10 ⟨rfl, k10⟩; have hX := (k10.block _ (lt_of_block L9.out.res) trivial).trans L9.out.res; obtain ⟨g0, g1⟩ := mtwo_cell hX; have f0 : w10.frozen? ⟨w.heap.size, 0, none⟩ = false := (by simp [World.frozen?, hX]); have f1 : w10.frozen? ⟨w.heap.size, 1, none⟩ = false := (by simp [World.frozen?, hX]); have HX : Hid _ := hX; have L10 : Hid _ := L9.out.all k10; clear hX k10)
          exact bodyPost_ret (results_cm rfl _ _ rfl (load_map (mset_at (mset_at HX.out 0 _) 1 _))) rfl ⟨.inl ⟨HR.out, rfl⟩, (L10.out.kept.setFresh (Nat.le_refl _) _).setFresh (Nat.le_refl _) _⟩
      · have hE2 : (E1 == 0) = false := by simpa using hE1
        have HR : Hid (LD = none) := by
          show _ = _
          rw [HL.out, HL2.out]
          simp [HE.out, hE1]
        have hX := L9.out.res
        obtain ⟨g0, g1⟩ := mtwo_cell hX
        have f0 : w9.frozen? ⟨w.heap.size, 0, none⟩ = false := by simp [World.frozen?, hX]
        have f1 : w9.frozen? ⟨w.heap.size, 1, none⟩ = false := by simp [World.frozen?, hX]
        have HX : Hid _ := hX
        clear hX
        go_wp2_with fail
        exact bodyPost_ret (results_cm rfl _ _ rfl (load_map (mset_at (mset_at HX.out 0 _) 1 _))) rfl ⟨.inl ⟨HR.out, rfl⟩, (L9.out.kept.setFresh (Nat.le_refl _) _).setFresh (Nat.le_refl _) _⟩

end Go.Proofs.Ytclgdgdponoomaa
