/-
  part: stages and marks.
-/
import Derived.Test.YtahbfffhkpojmaaDoorTR6
namespace Go.Proofs.YtahbfffhkpojmaaDoor
open Go.RowKit

set_option maxRecDepth 100000 in
set_option maxHeartbeats 8000000 in
theorem part_stage {w : World} {T : Nat} {t : Ty} {va vs vm : Value} (h : Pt w T t va vs vm) (hm : t.stages.length ≤ 10000) (p : List UInt8) (hp : p.length ≤ 10000) {a : Nat × List UInt8} {r : List (Nat × List UInt8)} (hw : Wo p 0 = a :: r) (ha : a.2 = [115, 116, 97, 103, 101]) :
    Calls Tryd.prog 21 #[.pointer (some ⟨T, 0, none⟩), .bool false, .string ⟨p.toArray⟩] w (Pans w T t (par t p)) := by
  have F1 : Hid (r.length < 2 → par t p = none) := by
    obtain ⟨E, hE⟩ := end_some p
    exact ((par_rules hE t hw).1 ha).1
  have F2 : Hid (∀ E, IsEnd p E → ∀ b c l, r = b :: c :: l → par t p = some { t with stages := t.stages ++ [⟨b.2, tex p c.1 E⟩] }) := fun E hE => ((par_rules hE t hw).1 ha).2
  have HQE : Hid (∀ E, IsEnd p E → ∀ b c l, r = b :: c :: l → c.1 < E) := by
    intro E hE b c l hr
    subst hr
    have g1 := fw_cons (Nat.zero_le _) hw
    have g2 := fw_cons g1.within g1.rest.symm
    have g3 := fw_cons g2.within g2.rest.symm
    exact (word_ahead hE g3).2
  have cw := words_any (w := w) p hp
  have HP : Hid (Pt w T t va vs vm) := h
  rw [hw] at cw
  generalize par t p = O at *
  clear h
  go_enter Tryd.func21, Tryd.ntmps21
  go_wp2_with fail
  refine Calls.mono cw ?_
  rintro e w1 ⟨⟨v, rfl, hW⟩, k1⟩
  obtain ⟨wo, wc, rfl, hwc, hwg⟩ := hW.shape
  obtain ⟨g, rfl⟩ := hwg (by simp)
  have HP1 : Hid (Pt w1 T t va vs vm) := HP.out.all k1
  have HK1 : Hid (Kept (· < T) w w1) := k1.mono (fun _ _ _ => trivial)
  have hcells := fun i hi => hW.cells i hi
  obtain ⟨n, hn⟩ : ∃ n, n = (a :: r).length := ⟨_, rfl⟩
  have HN : Hid (n = r.length + 1) := by show _ = _; rw [hn]; simp
  have d1 := (hcells 0 (by simp)).2
  simp only [Nat.zero_mul, Nat.zero_add, List.getElem_cons_zero] at d1
  rw [ha] at d1
  have HCE : Hid _ := hcells
  rw [← hn] at hwc ⊢
  clear cw hW k1 HP hwg hn hcells hw
  have n0 : ((n : Int) == 0) = false := by have := HN.out; simp; omega
  have n0' : (0 : Int) < (n : Int) := by have := HN.out; omega
  by_cases h3 : n < 3
  · have h3' : (n : Int) < 3 := by omega
    have HF : Hid (O = none) := F1.out (by have := HN.out; omega)
    clear F1 F2 HCE HQE
    go_wp2_with fail
    go_ret
    exact ⟨false, _, _, _, _, rfl, HP1.out, HK1.out, .inl ⟨HF.out, rfl⟩⟩
  · have h3' : ¬ (n : Int) < 3 := by omega
    obtain ⟨b, c, l, rfl⟩ : ∃ b c l, r = b :: c :: l := by
      have := HN.out
      rcases r with _ | ⟨b, _ | ⟨c, l⟩⟩
      · simp at this; omega
      · simp at this; omega
      · exact ⟨b, c, l, rfl⟩
    have d3 := (HCE.out 1 (by simp)).2
    have d4 := (HCE.out 2 (by simp)).1
    simp only [List.getElem_cons_zero, List.getElem_cons_succ, Nat.one_mul, Nat.reduceMul, Nat.reduceAdd] at d3 d4
    have n1' : (1 : Int) < (n : Int) := by omega
    have n2' : (2 : Int) < (n : Int) := by omega
    have HF2 : Hid (∀ E, IsEnd p E → O = some { t with stages := t.stages ++ [⟨b.2, tex p c.1 E⟩] } ∧ c.1 < E) := fun E hE => ⟨F2.out E hE b c l rfl, HQE.out E hE b c l rfl⟩
    have HD1 : Hid _ := d1
    clear F1 F2 HCE HQE h3
    generalize b.2 = x1 at *
    generalize c.1 = cq at *
    go_wp2_with fail
    go_loop [14] (fun t14 => ∃ E : Nat, E ≤ p.length ∧ t14 = .int .i64 (E : Nat) ∧ ∀ i (h : i < p.length), E ≤ i → p[i] = 32) (fun t14 => (intOf t14).toNat)
    case atStart => exact ⟨p.length, Nat.le_refl _, rfl, fun i h h2 => by omega⟩
    case round =>
    obtain ⟨E, hEl, rfl, hEb⟩ := hrel
    have HEb : Hid (∀ i (h : i < p.length), E ≤ i → p[i] = 32) := hEb
    clear hEb
    by_cases hgo : ∃ h : 0 < E, p[E - 1]'(by omega) = 32
    · obtain ⟨hE0, hc⟩ := hgo
      have hx := at_text p (E - 1) (by omega) (by simpa [ByteArray.size] using (by omega : E - 1 < p.length))
      rw [hc] at hx
      have i0 : (0 : Int) < (E : Int) := by omega
      have HEb2 : Hid (∀ i (h : i < p.length), E - 1 ≤ i → p[i] = 32) := by
        intro i h h2
        rcases Nat.eq_or_lt_of_le h2 with e | e
        · subst e; exact hc
        · exact HEb.out i h (by omega)
      obtain ⟨E', hE'⟩ : ∃ E', E = E' + 1 := ⟨E - 1, by omega⟩
      subst hE'
      simp only [Nat.add_sub_cancel] at hx HEb2
      have i1 : (0 : Int) ≤ (E' : Int) := by omega
      have i2 : (E' : Int) < (p.length : Int) := by omega
      have i3 : (((E' + 1 : Nat) : Int)) - 1 = (E' : Int) := by omega
      have i4 : (E' : Int) + 1 - 1 = (E' : Int) := by omega
      clear hc
      go_wp2_with fail
      go_round
      case rel => exact ⟨E', by omega, by first | rfl | (rw [i3]) | (rw [i4]) | simp, HEb2.out⟩
      case measure => simp [intOf]
    · have hE : IsEnd p E := ⟨hEl, fun h0 hc => hgo ⟨h0, hc⟩, HEb.out⟩
      obtain ⟨f1, f2⟩ := HF2.out E hE
      have HF : Hid _ := f1
      have hcut := cut_text p cq E (Nat.le_of_lt f2) hEl
      obtain ⟨E', rfl⟩ : ∃ E', E = E' + 1 := ⟨E - 1, by omega⟩
      have hpc : p[E']'(by omega) ≠ 32 := fun hc => hgo ⟨by omega, by simpa using hc⟩
      have hx := at_text p E' (by omega) (by simpa [ByteArray.size] using (by omega : E' < p.length))
      have hpc' : ((((p[E']'(by omega)).toNat : Nat) : Int) == 32) = false := by
        simp only [beq_eq_false_iff_ne, ne_eq]
        intro q
        exact hpc (UInt8.toNat_inj.1 (by simpa using (by omega : (p[E']'(by omega)).toNat = 32)))
      generalize tex p cq (E' + 1) = gd at *
      have hcast : ((E' + 1 : Nat) : Int) = (E' : Int) + 1 := by omega
      simp only [hcast] at hcut
      generalize p[E']'(by omega) = pc at *
      have i0 : (0 : Int) < ((E' + 1 : Nat) : Int) := by omega
      have i0' : (0 : Int) < (E' : Int) + 1 := by omega
      have i1 : (0 : Int) ≤ (E' : Int) := by omega
      have i2 : (E' : Int) < (p.length : Int) := by omega
      have i4 : (E' : Int) + 1 - 1 = (E' : Int) := by omega
      have kd : Kept (fun _ => True) w1 w1.drew := (Kept.refl _ _).drew
      have u3 : ∀ o : Obj, (w1.drew.alloc o).cell? ⟨g, 3, none⟩ = some (.string ⟨x1.toArray⟩) := fun o => cell_stays (kd.alloc o) d3 trivial
      have u4 : ∀ o : Obj, (w1.drew.alloc o).cell? ⟨g, 4, none⟩ = some (.int .i64 (cq : Nat)) := fun o => cell_stays (kd.alloc o) d4 trivial
      have v3 : ∀ o : Obj, (w1.alloc o).drew.cell? ⟨g, 3, none⟩ = some (.string ⟨x1.toArray⟩) := u3
      have v4 : ∀ o : Obj, (w1.alloc o).drew.cell? ⟨g, 4, none⟩ = some (.int .i64 (cq : Nat)) := u4
      have b0 : (0 : Int) ≤ (E' : Int) + 1 := by omega
      have b1 : (E' : Int) + 1 ≤ (p.length : Int) := by omega
      have b2 : (cq : Int) ≤ (E' : Int) + 1 := by omega
      clear HF2 HEb hgo f1 hpc hE
      go_wp2_with fail
      go_region
      have k2 : Kept (fun _ => True) w1 (w1.alloc (.cells #[.string ⟨x1.toArray⟩, .string ⟨gd.toArray⟩] 44)).drew := ((Kept.refl _ _).alloc _).drew
      have hR : (w1.alloc (.cells #[.string ⟨x1.toArray⟩, .string ⟨gd.toArray⟩] 44)).drew.heap[w1.heap.size]? = some (.cells #[.string ⟨x1.toArray⟩, .string ⟨gd.toArray⟩] 44 (0, 0)) := heap_alloc_new w1 _
      have hP2 := HP1.out.all k2
      have hK2 : Kept (· < T) w (w1.alloc (.cells #[.string ⟨x1.toArray⟩, .string ⟨gd.toArray⟩] 44)).drew := HK1.out.trans (k2.mono (fun _ _ _ => trivial))
      have g1 := cell_stays k2 HD1.out trivial
      clear u3 u4 v3 v4 kd k2 d1 d3 d4 HD1 HP1 HK1
      generalize (w1.alloc (.cells #[.string ⟨x1.toArray⟩, .string ⟨gd.toArray⟩] 44)).drew = w2 at *
      generalize w1.heap.size = R at *
      have HP2 : Hid (Pt w2 T t va vs vm) := hP2
      have HK2 : Hid (Kept (· < T) w w2) := hK2
      obtain ⟨⟨r0, r1⟩, _⟩ := pair_cell hR
      obtain ⟨⟨z0, z1, z2, z3⟩, e0, e1, e2, e3⟩ := four_cell hP2.self
      have hT : T < w2.heap.size := lt_of_block hP2.self
      obtain ⟨ao, an, ac, rfl⟩ := own_parts hP2.stages
      have kd : Kept (fun _ => True) w2 w2.drew := (Kept.refl _ _).drew
      have y1 : ∀ o : Obj, (w2.drew.alloc o).cell? ⟨T, 2, none⟩ = some (.slice ao an ac) := fun o => cell_stays (kd.alloc o) z2 trivial
      have y2 : ∀ o : Obj, (w2.drew.alloc o).cell? ⟨R, 0, none⟩ = some (.string ⟨x1.toArray⟩) := fun o => cell_stays (kd.alloc o) r0 trivial
      have y3 : ∀ o : Obj, (w2.drew.alloc o).cell? ⟨R, 1, none⟩ = some (.string ⟨gd.toArray⟩) := fun o => cell_stays (kd.alloc o) r1 trivial
      obtain ⟨N, hN⟩ : ∃ N, N = t.stages.length + 1 := ⟨_, rfl⟩
      have HNN : Hid (t.stages.length + 1 = N) := hN.symm
      have HMM : Hid (t.stages.length ≤ 1000000) := by show _ ≤ _; omega
      have HS1 : Hid (T + 1 ≤ w2.heap.size) := hT
      have HAo : Hid (∀ o : Obj, Ro (w2.drew.alloc o) (T + 1) (.slice ao an ac) t.stages) := fun o => own_keep HP2.out.stages (kd.alloc o) (fun _ _ => trivial)
      have HRW : Hid (∀ i, (Value.slice ao an ac).ownBlock = some i → T + 1 ≤ i) := fun i e => (HP2.out.rows (.inr (.inl rfl)) i e).1
      have HZ1 : Hid _ := z2
      have HE1 : Hid _ := e2
      clear hN hP2 hK2 hR
      go_wp2_with fail
      go_region_law ((refine step_append_rule ?_ (.tmp 146) (.tmp 148) ?_ (T + 1) (.slice ao an ac) t.stages ?_ (HAo.out _) (Nat.le_trans HS1.out (kd.alloc _).size) w2.heap.size ?_ ⟨x1, gd⟩ (0, 0) (heap_alloc_new w2.drew _) HMM.out N HNN.out ?_; rfl; rfl; rfl; rfl; intro ao1 cap1 w5 t1 gr1 or1; have k1 : Kept (fun j => (Value.slice ao an ac).ownBlock ≠ some j) w2 w5 := ((Kept.refl _ w2).drew.alloc _).grown gr1 (fun k _ e => by simp [e]); have hlow : (Value.slice ao an ac).ownBlock ≠ some T := fun e => (by have := HRW.out _ e; omega); have s1 : w5.cell? ⟨T, 2, none⟩ = some (.slice ao an ac) := (kept_cell k1 hT hlow).trans HZ1.out; have s2 : w5.frozen? ⟨T, 2, none⟩ = false := (kept_frozen k1 hT hlow).trans HE1.out))
      all_goals
        have hor : ∀ k, (Value.slice ao1 N cap1).ownBlock = some k → (Value.slice ao an ac).ownBlock = some k ∨ w2.heap.size ≤ k := by
          intro k hk
          rcases or1 with q | q
          · exact .inl (q ▸ hk)
          · rw [q] at hk
            right
            simp at hk
            omega
        have HP5 : Hid _ := HP2.out.putS (x := ⟨x1, gd⟩) t1 k1 hor
        have HK5 : Hid (∀ u, Kept (· < T) w (w5.setCell ⟨T, 2, none⟩ u)) := fun u => (HK2.out.trans (k1.low HRW.out)).setCell (by simp) u
        clear y1 y2 y3 s1 s2 t1 gr1 k1 kd hor or1
        go_wp2_with fail
        go_ret
        exact ⟨true, _, _, _, _, rfl, HP5.out, HK5.out _, .inr ⟨HF.out, rfl⟩⟩

end Go.Proofs.YtahbfffhkpojmaaDoor
