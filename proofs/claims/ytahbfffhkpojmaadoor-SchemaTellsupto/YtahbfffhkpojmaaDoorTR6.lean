/-
  part: an attribute.
-/
import Derived.Test.YtahbfffhkpojmaaDoorTR5
namespace Go.Proofs.YtahbfffhkpojmaaDoor
open Go.RowKit

theorem step_append_attr {w : World} {ops : Array Oper} {o : Oper} {a : Act} {K : Act → World → Prop} {Q : Exit → Act → World → Prop} {E : Prop} (hgd : o.guard = none) (sl y : Operand) (ho : o.op = .call { callee := .builtin .append, args := #[sl, y], argTypes := #[23, 23] })
    (base : Nat) (v : Value) (xs : List At) (hs : a.eval sl = v) (h : Ao w base v xs) (hb : base ≤ w.heap.size) (G : Nat) (hy : a.eval y = .slice (some ⟨G, 0, none⟩) 1 1) (x : At) (fr : Nat × Nat) (hG : w.heap[G]? = some (.cells (alay x).toArray 50 fr)) (hm : xs.length ≤ 1000000) (n : Nat) (hn : xs.length + 1 = n)
    (hK : ∀ ao' cap' w', Ao w' base (.slice ao' n cap') (xs ++ [x]) → w.grownBy w' v.ownBlock → K (a.put o.dst (.slice ao' n cap')) w') : if Region.wanted o (yielded ops a.tmps) = true then Oper.wp Tryd.prog o a w K Q else E := by
  have hw : Region.wanted o (yielded ops a.tmps) = true := by simp [Region.wanted, hgd]
  rw [if_pos hw]
  subst hn
  obtain ⟨ao', cap', w', hr, h2, h3, _⟩ := append_attr w o.type base v xs h hb G x fr hG hm
  unfold Oper.wp execOp
  simp only [ho, resolve, invoke, builtin, Sem.run_bind, Sem.run_pure, Result.andThen_ok, List.map_toArray, List.map_cons, List.map_nil, hs, hy, hr]
  exact hK ao' cap' w' h2 h3
theorem step_append_rule {w : World} {ops : Array Oper} {o : Oper} {a : Act} {K : Act → World → Prop} {Q : Exit → Act → World → Prop} {E : Prop} (hgd : o.guard = none) (sl y : Operand) (ho : o.op = .call { callee := .builtin .append, args := #[sl, y], argTypes := #[24, 24] })
    (base : Nat) (v : Value) (xs : List Ru) (hs : a.eval sl = v) (h : Ro w base v xs) (hb : base ≤ w.heap.size) (G : Nat) (hy : a.eval y = .slice (some ⟨G, 0, none⟩) 1 1) (x : Ru) (fr : Nat × Nat) (hG : w.heap[G]? = some (.cells (rlay x).toArray 44 fr)) (hm : xs.length ≤ 1000000) (n : Nat) (hn : xs.length + 1 = n)
    (hK : ∀ ao' cap' w', Ro w' base (.slice ao' n cap') (xs ++ [x]) → w.grownBy w' v.ownBlock → ((Value.slice ao' n cap').ownBlock = v.ownBlock ∨ (Value.slice ao' n cap').ownBlock = some w.heap.size) → K (a.put o.dst (.slice ao' n cap')) w') : if Region.wanted o (yielded ops a.tmps) = true then Oper.wp Tryd.prog o a w K Q else E := by
  have hw : Region.wanted o (yielded ops a.tmps) = true := by simp [Region.wanted, hgd]
  rw [if_pos hw]
  subst hn
  obtain ⟨ao', cap', w', hr, h2, h3, h4⟩ := append_rule w o.type base v xs h hb G x fr hG hm
  unfold Oper.wp execOp
  simp only [ho, resolve, invoke, builtin, Sem.run_bind, Sem.run_pure, Result.andThen_ok, List.map_toArray, List.map_cons, List.map_nil, hs, hy, hr]
  exact hK ao' cap' w' h2 h3 h4
theorem Kept.low {v : Value} {T : Nat} {w w' : World} (k : Kept (fun j => v.ownBlock ≠ some j) w w') (hv : ∀ i, v.ownBlock = some i → T + 1 ≤ i) : Kept (· < T) w w' :=
  k.mono (fun i _ hi e => by have := hv i e; omega)

set_option maxRecDepth 100000 in
set_option maxHeartbeats 8000000 in
theorem part_attr {w : World} {T : Nat} {t : Ty} {va vs vm : Value} (h : Pt w T t va vs vm) (hm : t.attrs.length ≤ 10000) (p : List UInt8) (hp : p.length ≤ 10000) {a : Nat × List UInt8} {r : List (Nat × List UInt8)} (hw : Wo p 0 = a :: r) (ha : a.2 = [97, 116, 116, 114]) :
    Calls Tryd.prog 21 #[.pointer (some ⟨T, 0, none⟩), .bool false, .string ⟨p.toArray⟩] w (Pans w T t (par t p)) := by
  obtain ⟨E, hE⟩ := end_some p
  obtain ⟨f1, f2⟩ := par_attr5 hE t hw ha
  have F1 : Hid _ := f1
  have F2 : Hid _ := f2
  have cw := words_any (w := w) p hp
  have HP : Hid (Pt w T t va vs vm) := h
  have hsh : ∀ x ∈ a :: r, x.2.length ≤ 281474976710656 := by rw [← hw]; exact fun x hx => texts_short p hp x hx
  have HSH : Hid _ := hsh
  rw [hw] at cw
  generalize par t p = O at *
  clear f1 f2 hE h hsh
  go_enter Tryd.func21, Tryd.ntmps21
  go_wp2_with fail
  refine Calls.mono cw ?_
  rintro e w1 ⟨⟨v, rfl, hW⟩, k1⟩
  obtain ⟨wo, wc, rfl, hwc, hwg⟩ := hW.shape
  obtain ⟨g, rfl⟩ := hwg (by simp)
  have HP1 : Hid (Pt w1 T t va vs vm) := HP.out.all k1
  have HK1 : Hid (Kept (· < T) w w1) := k1.mono (fun _ _ _ => trivial)
  have hcells := fun i hi => hW.cells i hi
  obtain ⟨n, hn⟩ : ∃ n, n = (a :: r).length := ⟨_, rfl⟩
  have HN : Hid (n = r.length + 1) := by show _ = _; rw [hn]; simp
  have d1 := (hcells 0 (by simp)).2
  simp only [Nat.zero_mul, Nat.zero_add, List.getElem_cons_zero] at d1
  rw [ha] at d1
  have HCE : Hid _ := hcells
  rw [← hn] at hwc ⊢
  clear cw hW k1 HP hwg hn hcells hw
  have n0 : ((n : Int) == 0) = false := by have := HN.out; simp; omega
  have n0' : (0 : Int) < (n : Int) := by have := HN.out; omega
  by_cases h5 : n = 5
  · subst h5
    obtain ⟨b, c, d, e, rfl⟩ : ∃ b c d e, r = [b, c, d, e] := by
      have := HN.out
      rcases r with _ | ⟨b, _ | ⟨c, _ | ⟨d, _ | ⟨e, _ | ⟨x, r⟩⟩⟩⟩⟩
      · simp at this
      · simp at this
      · simp at this
      · simp at this
      · exact ⟨b, c, d, e, rfl⟩
      · simp at this
    have hO := F2.out b c d e rfl
    have d3 := (HCE.out 1 (by simp)).2
    have d5 := (HCE.out 2 (by simp)).2
    have d7 := (HCE.out 3 (by simp)).2
    have d9 := (HCE.out 4 (by simp)).2
    simp only [List.getElem_cons_zero, List.getElem_cons_succ, Nat.one_mul, Nat.reduceMul, Nat.reduceAdd] at d3 d5 d7 d9
    have c1 := fun W => number_any (w := W) c.2 (HSH.out c (by simp))
    have c2 := fun W => number_any (w := W) d.2 (HSH.out d (by simp))
    have c3 := fun W => number_any (w := W) e.2 (HSH.out e (by simp))
    have hO2 : (isNum c.2 = true ∧ isNum d.2 = true ∧ isNum e.2 = true → O = some { t with attrs := t.attrs ++ [⟨b.2, (if isNum c.2 = true then num c.2 else 0), (if isNum d.2 = true then num d.2 else 0), (if isNum e.2 = true then num e.2 else 0)⟩] }) ∧ (¬ (isNum c.2 = true ∧ isNum d.2 = true ∧ isNum e.2 = true) → O = none) := by
      refine ⟨fun h => ?_, fun h => by rw [hO, if_neg h]⟩
      rw [hO, if_pos h, if_pos h.1, if_pos h.2.1, if_pos h.2.2]
    have HO : Hid _ := hO2
    clear F1 F2 HSH HCE hO hO2
    generalize (if isNum c.2 = true then num c.2 else 0) = m1 at *
    generalize (if isNum d.2 = true then num d.2 else 0) = m2 at *
    generalize (if isNum e.2 = true then num e.2 else 0) = m3 at *
    generalize isNum c.2 = b1 at *
    generalize isNum d.2 = b2 at *
    generalize isNum e.2 = b3 at *
    generalize c.2 = x2 at *
    generalize d.2 = x3 at *
    generalize e.2 = x4 at *
    generalize b.2 = x1 at *
    obtain ⟨⟨z0, z1, z2, z3⟩, e0, e1, e2, e3⟩ := four_cell HP1.out.self
    obtain ⟨ao, an, ac, rfl⟩ := own_parts HP1.out.attrs
    go_wp2_with fail
    refine Calls.mono (c1 _) ?_
    rintro e w1 ⟨rfl, rfl⟩
    go_wp2_with fail
    refine Calls.mono (c2 _) ?_
    rintro e w1 ⟨rfl, rfl⟩
    go_wp2_with fail
    refine Calls.mono (c3 _) ?_
    rintro e w1 ⟨rfl, rfl⟩
    clear c1 c2 c3 d1 d5 d7 d9
    have hT : T < w1.heap.size := lt_of_block HP1.out.self
    have kd : Kept (fun _ => True) w1 w1.drew := (Kept.refl _ _).drew
    have u1 : ∀ o : Obj, (w1.drew.alloc o).cell? ⟨T, 1, none⟩ = some (.slice ao an ac) := fun o => cell_stays (kd.alloc o) z1 trivial
    have u3 : ∀ o : Obj, (w1.drew.alloc o).cell? ⟨g, 3, none⟩ = some (.string ⟨x1.toArray⟩) := fun o => cell_stays (kd.alloc o) d3 trivial
    obtain ⟨N, hN⟩ : ∃ N, N = t.attrs.length + 1 := ⟨_, rfl⟩
    have HNN : Hid (t.attrs.length + 1 = N) := hN.symm
    have HMM : Hid (t.attrs.length ≤ 1000000) := by show _ ≤ _; omega
    have HS1 : Hid (T + 1 ≤ w1.heap.size) := hT
    have HAo : Hid (∀ o : Obj, Ao (w1.drew.alloc o) (T + 1) (.slice ao an ac) t.attrs) := fun o => own_keep HP1.out.attrs (kd.alloc o) (fun _ _ => trivial)
    have HRW : Hid (∀ i, (Value.slice ao an ac).ownBlock = some i → T + 1 ≤ i) := fun i e => (HP1.out.rows (.inl rfl) i e).1
    have HZ1 : Hid _ := z1
    have HE1 : Hid _ := e1
    clear hN
    go_wp2_with fail
    go_region_law ((refine step_append_attr ?_ (.tmp 75) (.tmp 84) ?_ (T + 1) (.slice ao an ac) t.attrs ?_ (HAo.out _) (Nat.le_trans HS1.out (kd.alloc _).size) w1.heap.size ?_ ⟨x1, m1, m2, m3⟩ (0, 0) (heap_alloc_new w1.drew _) HMM.out N HNN.out ?_; rfl; rfl; rfl; rfl; intro ao1 cap1 w5 t1 gr1; have k1 : Kept (fun j => (Value.slice ao an ac).ownBlock ≠ some j) w1 w5 := ((Kept.refl _ w1).drew.alloc _).grown gr1 (fun k _ e => by simp [e]); have hlow : (Value.slice ao an ac).ownBlock ≠ some T := fun e => (by have := HRW.out _ e; omega); have s1 : w5.cell? ⟨T, 1, none⟩ = some (.slice ao an ac) := (kept_cell k1 hT hlow).trans HZ1.out; have s2 : w5.frozen? ⟨T, 1, none⟩ = false := (kept_frozen k1 hT hlow).trans HE1.out))
    all_goals
      have HP5 : Hid _ := HP1.out.putA (x := ⟨x1, m1, m2, m3⟩) t1 k1
      have HK5 : Hid (∀ u, Kept (· < T) w (w5.setCell ⟨T, 1, none⟩ u)) := fun u => (HK1.out.trans (k1.low HRW.out)).setCell (by simp) u
      clear u1 u3 s1 s2 t1 gr1 k1 kd
      cases b1 with
      | false =>
        have HF : Hid _ := HO.out.2 (by simp)
        go_wp2_with fail
        go_ret
        exact ⟨false, _, _, _, _, rfl, HP5.out, HK5.out _, .inl ⟨HF.out, rfl⟩⟩
      | true =>
      cases b2 with
      | false =>
        have HF : Hid _ := HO.out.2 (by simp)
        go_wp2_with fail
        go_ret
        exact ⟨false, _, _, _, _, rfl, HP5.out, HK5.out _, .inl ⟨HF.out, rfl⟩⟩
      | true =>
      cases b3 with
      | false =>
        have HF : Hid _ := HO.out.2 (by simp)
        go_wp2_with fail
        go_ret
        exact ⟨false, _, _, _, _, rfl, HP5.out, HK5.out _, .inl ⟨HF.out, rfl⟩⟩
      | true =>
        have HF : Hid _ := HO.out.1 (by simp)
        go_wp2_with fail
        go_ret
        exact ⟨true, _, _, _, _, rfl, HP5.out, HK5.out _, .inr ⟨HF.out, rfl⟩⟩
  · have HF : Hid (O = none) := F1.out (by have := HN.out; omega)
    have h5' : ((n : Int) != 5) = true := by simp; omega
    clear F1 F2 h5 HSH HCE
    go_wp2_with fail
    go_ret
    exact ⟨false, _, _, _, _, rfl, HP1.out, HK1.out, .inl ⟨HF.out, rfl⟩⟩

end Go.Proofs.YtahbfffhkpojmaaDoor
