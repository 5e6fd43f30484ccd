/-
  The document's eval and Eval.
-/
import Derived.Test.YtpjfmgmhohpjmaaQR4
namespace Go.Proofs.Ytpjfmgmhohpjmaa
open Go.RowKit

theorem size_rw (w0 : World) : (sizeOf (Try.prog.elem 49)).run Try.prog w0 = .ok 2 w0 := by
  obtain ⟨i, hi, hz0, hz1, hz2⟩ := info_parts Try.infoRW
  have e : Try.prog.elem 49 = 52 := by kernel_rfl
  rw [e]
  simp [sizeOf, typeInfo, hi, hz1]
/-- All but the first m words. -/
theorem words_cut {b off n cap : Nat} (m : Nat) (h1 : m < n) (h2 : n ≤ cap) (w0 : World) : (Instr.slice 49 (.slice (some ⟨b, off, none⟩) n cap) (some (.int .i64 (m : Int))) none none).run Try.prog w0 = .ok (.slice (some ⟨b, off + m * 2, none⟩) (n - m) (cap - m)) w0 := by
  have := run_slice_l (P := Try.prog) w0 49 (some ⟨b, off, none⟩) n cap Try.underlying49 .i64 m (by omega) (by omega)
  rw [this, size_rw]
  have e1 : ¬ (cap = m) := by omega
  simp [Result.andThen, sliced, Addr.add, e1]
theorem Wv.drop {w : World} {b off n cap : Nat} {ws : List (Nat × List UInt8)} (h : Wv w (.slice (some ⟨b, off, none⟩) n cap) ws) (m : Nat) (hm : m < ws.length) : Wv w (.slice (some ⟨b, off + m * 2, none⟩) (n - m) (cap - m)) (ws.drop m) := by
  obtain ⟨ao, cap', e, hc, hx⟩ := h
  injection e with e1 e2 e3
  subst e1 e2 e3
  obtain ⟨b', off', e, hb, hx⟩ := hx (by omega)
  cases e
  refine ⟨_, _, by rw [List.length_drop], by rw [List.length_drop]; omega, fun _ => ⟨b, off + m * 2, rfl, hb, fun i hi => ?_⟩⟩
  have := hx (m + i) (by rw [List.length_drop] at hi; omega)
  rw [List.getElem_drop]
  rw [show off + m * 2 + i * 2 = off + (m + i) * 2 by omega]
  exact this
theorem op_word {x : List UInt8} (h : 4 ≤ kd x) : x ∈ opWords := by
  have h1 := kd_op x h
  unfold opOf at h1
  by_cases a1 : x = [110, 111, 116]
  · subst a1; decide
  · by_cases a2 : x = [97, 110, 100]
    · subst a2; decide
    · by_cases a3 : x = [111, 114]
      · subst a3; decide
      · by_cases a4 : x = [108, 116]
        · subst a4; decide
        · by_cases a5 : x = [101, 113]
          · subst a5; decide
          · by_cases a6 : x = [97, 100, 100]
            · subst a6; decide
            · by_cases a7 : x = [115, 117, 98]
              · subst a7; decide
              · simp [a1, a2, a3, a4, a5, a6, a7] at h1
                omega
/-- How many words a guard has. -/
theorem gd_drop (ns : List (List UInt8)) (f : Nat) (xs r : List (List UInt8)) (h : gd ns f xs = .inr r) : ∃ k, 1 ≤ k ∧ k ≤ xs.length ∧ r = xs.drop k := by
  induction f generalizing xs r with
  | zero => cases h
  | succ f ih =>
    obtain ⟨f', x, ys, hf, rfl, h1, h3, ht⟩ := gd_cons h
    obtain rfl : f = f' := by omega
    have hk := kd_cases x
    have ha : ar (kd x) = 0 ∨ ar (kd x) = 1 ∨ ar (kd x) = 2 := by unfold ar; split <;> (try split) <;> omega
    rcases ha with ha | ha | ha
    · rw [ha] at ht
      simp only [times, Sum.inr.injEq] at ht
      exact ⟨1, Nat.le_refl _, by simp, by rw [← ht]; rfl⟩
    · rw [ha] at ht
      obtain ⟨k, k1, k2, rfl⟩ := ih ys r (times_one ht)
      exact ⟨k + 1, by omega, by simp; omega, rfl⟩
    · rw [ha] at ht
      obtain ⟨r1, t1, t2⟩ := times_two ht
      obtain ⟨k, k1, k2, rfl⟩ := ih ys r1 t1
      obtain ⟨m, m1, m2, rfl⟩ := ih _ r t2
      rw [List.length_drop] at m2
      exact ⟨k + m + 1, by omega, by simp; omega, by rw [List.drop_drop]; simp⟩

set_option maxRecDepth 100000 in
set_option maxHeartbeats 4000000 in
theorem reval_word {u v : Value} {ns : List (List UInt8)} {vs : List Int} (hl : ns.length ≤ vs.length) (f : Nat) : ∀ {w : World} {lv : Value} {ws : List (Nat × List UInt8)} (_ : Ns w v ns) (_ : Vi w u vs) (_ : Wv w lv ws) (_ : ∀ x ∈ ws, x.2.length ≤ 1000000) (_ : ws.length ≤ 10000) (r : List (List UInt8)) (_ : gd ns f (ws.map Prod.snd) = .inr r),
    Calls Try.prog 29 #[lv, v, u] w fun e w' => (∃ kk : Nat, e = .returned (.tuple #[.int .i64 (vl (env ns vs) f (ws.map Prod.snd)).1, .int .i64 (kk : Nat)]) ∧ 1 ≤ kk ∧ kk ≤ ws.length ∧ r = (ws.map Prod.snd).drop kk) ∧ w' = w := by
  induction f with
  | zero => intro w lv ws _ _ _ _ _ r h; cases h
  | succ f ih =>
    intro w lv ws hn hv hw hxl hwl r hg
    have HI : Hid (∀ {w : World} {lv : Value} {ws : List (Nat × List UInt8)} (_ : Ns w v ns) (_ : Vi w u vs) (_ : Wv w lv ws) (_ : ∀ x ∈ ws, x.2.length ≤ 1000000) (_ : ws.length ≤ 10000) (r : List (List UInt8)) (_ : gd ns f (ws.map Prod.snd) = .inr r),
      Calls Try.prog 29 #[lv, v, u] w fun e w' => (∃ kk : Nat, e = .returned (.tuple #[.int .i64 (vl (env ns vs) f (ws.map Prod.snd)).1, .int .i64 (kk : Nat)]) ∧ 1 ≤ kk ∧ kk ≤ ws.length ∧ r = (ws.map Prod.snd).drop kk) ∧ w' = w) := ih
    clear ih
    cases ws with
    | nil => cases hg
    | cons px ws =>
      obtain ⟨p, x⟩ := px
      obtain ⟨f', x', ys, hf', hxs, hk1, hk3, hT⟩ := gd_cons hg
      obtain rfl : f = f' := by omega
      simp only [List.map_cons, List.cons.injEq] at hxs
      obtain ⟨rfl, rfl⟩ := hxs
      have HT : Hid (times (gd ns f) (ar (kd x)) (ws.map Prod.snd) = .inr r) := hT
      have HN : Hid (Ns w v ns) := hn
      have HV : Hid (Vi w u vs) := hv
      have HW : Hid (Wv w lv ((p, x) :: ws)) := hw
      have HXL : Hid (∀ x ∈ ws, x.2.length ≤ 1000000) := fun z hz => hxl z (List.mem_cons_of_mem _ hz)
      have HWL : Hid (ws.length ≤ 10000) := by show _ ≤ _; simp at hwl; omega
      have hx1 : x.length ≤ 1000000 := hxl (p, x) (by simp)
      obtain ⟨V, hV⟩ : ∃ V, V = (vl (env ns vs) (f + 1) (((p, x) :: ws).map Prod.snd)).1 := ⟨_, rfl⟩
      rw [← hV]
      have HVV : Hid (V = (vl (env ns vs) (f + 1) (x :: ws.map Prod.snd)).1) := hV
      obtain ⟨ao, cap, rfl, -⟩ := hn
      obtain ⟨bo, bcap, rfl, hvc⟩ := hv
      obtain ⟨wao, wcap, rfl, hwc, hwx⟩ := hw
      obtain ⟨b, off, rfl, hb, hwx⟩ := hwx (by simp)
      obtain ⟨q0, q1⟩ := hwx 0 (by simp)
      simp only [Nat.zero_mul, Nat.add_zero, List.getElem_cons_zero] at q0 q1
      have HVC : Hid (0 < vs.length → ∃ b off, bo = some ⟨b, off, none⟩ ∧ b < w.heap.size ∧ ∀ i (h : i < vs.length), w.cell? ⟨b, off + i, none⟩ = some (.int .i64 (vs[i]))) := hvc
      have HL : Hid (ns.length ≤ vs.length) := hl
      have hkc := kd_cases x
      have cnum := fun W => number_any (w := W) x hx1
      have ctak := fun W => takes_any (w := W) x
      have hl0 : (0 : Int) < (ws.length : Int) + 1 := by omega
      simp only [List.length_cons] at hwc hwl ⊢
      clear hwx hvc hg hT hf' hV hxl hl
      have HWD : Hid (∀ m, m < ws.length + 1 → Wv w (.slice (some ⟨b, off + m * 2, none⟩) (ws.length + 1 - m) (wcap - m)) (((p, x) :: ws).drop m)) := fun m hm => HW.out.drop m (by simpa using hm)
      by_cases h2 : kd x = 2
      · have hn2 : isNum x = true := (kd_num x).1 h2
        have e1 : Hid (V = num x) := by show V = _; rw [HVV.out]; simp [vl, h2]
        have hr : Hid (ws.map Prod.snd = r) := by
          have := HT.out
          rw [h2] at this
          show _ = r
          simpa [ar, times] using this
        rw [hn2] at cnum
        simp only [if_true] at cnum
        clear ctak
        go_enter Try.func29, Try.ntmps29
        go_wp2_with fail
        refine Calls.mono (cnum _) ?_
        rintro e w ⟨rfl, rfl⟩
        go_wp2_with fail
        go_ret2
        exact ⟨⟨1, by rw [e1.out]; rfl, Nat.le_refl _, by omega, by rw [← hr.out]; rfl⟩, rfl⟩
      · have hn2 : isNum x = false := by
          cases hx : isNum x with
          | false => rfl
          | true => exact absurd ((kd_num x).2 hx) h2
        rw [hn2] at cnum
        simp only [Bool.false_eq_true, if_false] at cnum
        by_cases h3 : kd x = 3
        · have hx : x ∈ ns := hk3 h3
          obtain ⟨-, ha0, -⟩ := kind_name h3
          rw [ha0] at ctak
          have hr : Hid (ws.map Prod.snd = r) := by
            have := HT.out
            rw [h3] at this
            show _ = r
            simpa [ar, times] using this
          have hlt : ns.idxOf x < vs.length := Nat.lt_of_lt_of_le (List.idxOf_lt_length_of_mem hx) HL.out
          have hix : ix ns x = (ns.idxOf x : Int) := if_pos hx
          have e1 : Hid (V = vs[ns.idxOf x]) := by
            show V = _
            rw [HVV.out]
            simp only [vl]
            rw [if_neg h2, if_pos h3]
            simp [env, hlt]
          obtain ⟨vb, voff, rfl, hvb, hvc⟩ := HVC.out (by omega)
          have cidx := rindex_any HN.out x
          rw [hix] at cidx
          have q2 := hvc _ hlt
          clear hvc hix hx hk3 ha0
          generalize vs[ns.idxOf x] = z at *
          generalize ns.idxOf x = j at *
          have j1 : (j : Int) < (vs.length : Int) := by omega
          have j0 : (0 : Int) ≤ (j : Int) := by omega
          go_enter Try.func29, Try.ntmps29
          go_wp2_with fail
          refine Calls.mono (cnum _) ?_
          rintro e w ⟨rfl, rfl⟩
          go_wp2_with fail
          refine Calls.mono (ctak _) ?_
          rintro e w ⟨rfl, rfl⟩
          go_wp2_with fail
          refine Calls.mono cidx ?_
          rintro e w ⟨rfl, rfl⟩
          go_wp2_with fail
          go_ret2
          exact ⟨⟨1, by rw [e1.out]; rfl, Nat.le_refl _, by omega, by rw [← hr.out]; rfl⟩, rfl⟩
        · have hk4 : 4 ≤ kd x := by omega
          have hop := op_word hk4
          have ct := fun W b => rtruth_any (w := W) b
          simp only [opWords, List.mem_cons, List.not_mem_nil, or_false] at hop
          clear hk3 hkc hx1 h2 h3 hn2 hk1
          have HGD : Hid (∀ {r1}, gd ns f (ws.map Prod.snd) = .inr r1 → ∃ k, 1 ≤ k ∧ k ≤ ws.length ∧ r1 = (ws.map Prod.snd).drop k) := fun h => by
            obtain ⟨k, a1, a2, a3⟩ := gd_drop ns f _ _ h
            exact ⟨k, a1, by simpa using a2, a3⟩
          rcases hop with rfl | rfl | rfl | rfl | rfl | rfl | rfl
          · have hT1 : gd ns f (ws.map Prod.snd) = .inr r := times_one (by have := HT.out; rw [show kd [110, 111, 116] = 4 by decide +kernel] at this; exact this)
            have hpos : 0 < ws.length := by obtain ⟨k, a1, a2, -⟩ := HGD.out hT1; omega
            have e1 : Hid (V = tr (decide ((vl (env ns vs) f (ws.map Prod.snd)).1 = 0))) := by
              show V = _
              rw [HVV.out]
              simp only [vl]
              rw [if_neg (by decide +kernel), if_neg (by decide +kernel), if_pos (by decide +kernel)]
            have hc1 : ∀ w0, (Instr.slice 49 (.slice (some ⟨b, off, none⟩) (ws.length + 1) wcap) (some (.int .i64 1)) none none).run Try.prog w0 = .ok (.slice (some ⟨b, off + 2, none⟩) ws.length (wcap - 1)) w0 := words_cut 1 (by omega) hwc
            have ck := HI.out HN.out HV.out (HWD.out 1 (by omega)) HXL.out HWL.out r hT1
            simp only [Nat.one_mul, Nat.add_sub_cancel, List.drop_succ_cons, List.drop_zero] at ck
            clear hT1 hk4
            generalize (vl (env ns vs) f (ws.map Prod.snd)).1 = A at *
            go_enter Try.func29, Try.ntmps29
            go_wp2_with fail
            refine Calls.mono (cnum _) ?_
            rintro e w ⟨rfl, rfl⟩
            go_wp2_with fail
            refine Calls.mono (ctak _) ?_
            rintro e w ⟨rfl, rfl⟩
            go_wp2_with fail
            refine Calls.mono ck ?_
            rintro e w ⟨⟨kk, rfl, b1, b2, b3⟩, rfl⟩
            have HB3 : Hid (r = (ws.map Prod.snd).drop kk) := b3
            clear b3 ck
            by_cases ha : A = 0
            · subst ha
              go_wp2_with fail
              refine Calls.mono (ct _ _) ?_
              rintro e w ⟨rfl, rfl⟩
              go_wp2_with fail
              go_ret2
              exact ⟨⟨1 + kk, by rw [e1.out]; go_num, by omega, by omega, by rw [HB3.out, Nat.add_comm]; rfl⟩, rfl⟩
            · have ha' : (A == 0) = false := by simpa using ha
              have e2 : Hid (V = 0) := by show V = 0; rw [e1.out, decide_eq_false ha]; rfl
              clear ha
              go_wp2_with fail
              refine Calls.mono (ct _ _) ?_
              rintro e w ⟨rfl, rfl⟩
              go_wp2_with fail
              go_ret2
              exact ⟨⟨1 + kk, by rw [e2.out]; go_num, by omega, by omega, by rw [HB3.out, Nat.add_comm]; rfl⟩, rfl⟩
          · obtain ⟨r1, hT1, hT2⟩ := times_two (by have := HT.out; rw [show kd [97, 110, 100] = 5 by decide +kernel] at this; exact this)
            have hg1 := gd_vl ns (env ns vs) f _ r1 hT1
            have hpos : 0 < ws.length := by obtain ⟨k, a1, a2, -⟩ := HGD.out hT1; omega
            have HR1 : Hid (0 < r1.length) := by obtain ⟨k, a1, a2, -⟩ := gd_drop ns f _ _ hT2; show _ < _; omega
            have e1 : Hid (V = jn 5 (vl (env ns vs) f (ws.map Prod.snd)).1 (vl (env ns vs) f r1).1) := by
              show V = _
              rw [HVV.out]
              simp only [vl]
              rw [if_neg (by decide +kernel), if_neg (by decide +kernel), if_neg (by decide +kernel), hg1, show kd [97, 110, 100] = 5 by decide +kernel]
            have hc1 : ∀ w0, (Instr.slice 49 (.slice (some ⟨b, off, none⟩) (ws.length + 1) wcap) (some (.int .i64 1)) none none).run Try.prog w0 = .ok (.slice (some ⟨b, off + 2, none⟩) ws.length (wcap - 1)) w0 := words_cut 1 (by omega) hwc
            have ck := HI.out HN.out HV.out (HWD.out 1 (by omega)) HXL.out HWL.out r1 hT1
            simp only [Nat.one_mul, Nat.add_sub_cancel, List.drop_succ_cons, List.drop_zero] at ck
            have HT2 : Hid (gd ns f r1 = .inr r) := hT2
            clear hT1 hT2 hk4 hg1
            generalize (vl (env ns vs) f (ws.map Prod.snd)).1 = A at *
            go_enter Try.func29, Try.ntmps29
            go_wp2_with fail
            refine Calls.mono (cnum _) ?_
            rintro e w ⟨rfl, rfl⟩
            go_wp2_with fail
            refine Calls.mono (ctak _) ?_
            rintro e w ⟨rfl, rfl⟩
            go_wp2_with fail
            refine Calls.mono ck ?_
            rintro e w ⟨⟨kk, rfl, b1, b2, b3⟩, rfl⟩
            have HB3 : Hid (r1 = (ws.map Prod.snd).drop kk) := b3
            have hkl : kk < ws.length := by have := HR1.out; rw [b3, List.length_drop, List.length_map] at this; omega
            have hc2 := words_cut (b := b) (off := off) (n := ws.length + 1) (cap := wcap) (1 + kk) (by omega) hwc
            have hci : ((1 + kk : Nat) : Int) = 1 + (kk : Int) := by omega
            rw [hci] at hc2
            have ck2 := HI.out HN.out HV.out (HWD.out (1 + kk) (by omega)) (fun z hz => HXL.out z (List.mem_of_mem_drop (by rw [Nat.add_comm] at hz; exact hz))) (by have := HWL.out; rw [List.length_drop]; simp; omega) r (by
              have e9 : (((p, [97, 110, 100]) :: ws).drop (1 + kk)).map Prod.snd = r1 := by
                rw [Nat.add_comm, List.drop_succ_cons, b3, List.map_drop]
              rw [e9]
              exact HT2.out)
            have e9 : (((p, [97, 110, 100]) :: ws).drop (1 + kk)).map Prod.snd = r1 := by
              rw [Nat.add_comm, List.drop_succ_cons, b3, List.map_drop]
            have e10 : (((p, [97, 110, 100]) :: ws).drop (1 + kk)).length = ws.length - kk := by rw [Nat.add_comm, List.drop_succ_cons, List.length_drop]
            rw [e9, e10] at ck2
            have hw1 : ws.length + 1 - (1 + kk) = ws.length - kk := by omega
            rw [hw1] at hc2 ck2
            clear b3 ck hci e9 e10 hw1
            generalize (vl (env ns vs) f r1).1 = B at *
            generalize off + (1 + kk) * 2 = off2 at *
            generalize hnl : ws.length - kk = nl2 at *
            have HNL : Hid (ws.length - kk = nl2) := hnl
            have hnl2 : nl2 ≤ 10000 := by omega
            clear hnl
            generalize wcap - (1 + kk) = wc2 at *
            go_wp2_with fail
            refine Calls.mono ck2 ?_
            rintro e w ⟨⟨mm, rfl, b4, b5, b6⟩, rfl⟩
            have HB4 : Hid (r = r1.drop mm) := b6
            clear b6 ck2
            by_cases ha : A = 0
            · have e2 : Hid (V = 0) := by show V = 0; rw [e1.out, ha]; rfl
              subst ha
              go_wp2_with fail
              refine Calls.mono (ct _ _) ?_
              rintro e w ⟨rfl, rfl⟩
              go_wp2_with fail
              go_ret2
              exact ⟨⟨1 + kk + mm, by rw [e2.out]; go_num, by omega, by have := HNL.out; omega, by rw [HB4.out, HB3.out, List.drop_drop, show 1 + kk + mm = (kk + mm) + 1 by omega]; rfl⟩, rfl⟩
            · have ha' : (A == 0) = false := by simpa using ha
              have ha2 : (A != 0) = true := by simp [ha]
              by_cases hb0 : B = 0
              · have e2 : Hid (V = 0) := by show V = 0; rw [e1.out, hb0]; simp [jn, tr]
                subst hb0
                clear ha
                go_wp2_with fail
                refine Calls.mono (ct _ _) ?_
                rintro e w ⟨rfl, rfl⟩
                go_wp2_with fail
                go_ret2
                exact ⟨⟨1 + kk + mm, by rw [e2.out]; go_num, by omega, by have := HNL.out; omega, by rw [HB4.out, HB3.out, List.drop_drop, show 1 + kk + mm = (kk + mm) + 1 by omega]; rfl⟩, rfl⟩
              · have hb' : (B != 0) = true := by simp [hb0]
                have e2 : Hid (V = 1) := by show V = 1; rw [e1.out]; simp [jn, tr, ha, hb0]
                clear ha hb0
                go_wp2_with fail
                refine Calls.mono (ct _ _) ?_
                rintro e w ⟨rfl, rfl⟩
                go_wp2_with fail
                go_ret2
                exact ⟨⟨1 + kk + mm, by rw [e2.out]; go_num, by omega, by have := HNL.out; omega, by rw [HB4.out, HB3.out, List.drop_drop, show 1 + kk + mm = (kk + mm) + 1 by omega]; rfl⟩, rfl⟩
          · obtain ⟨r1, hT1, hT2⟩ := times_two (by have := HT.out; rw [show kd [111, 114] = 6 by decide +kernel] at this; exact this)
            have hg1 := gd_vl ns (env ns vs) f _ r1 hT1
            have hpos : 0 < ws.length := by obtain ⟨k, a1, a2, -⟩ := HGD.out hT1; omega
            have HR1 : Hid (0 < r1.length) := by obtain ⟨k, a1, a2, -⟩ := gd_drop ns f _ _ hT2; show _ < _; omega
            have e1 : Hid (V = jn 6 (vl (env ns vs) f (ws.map Prod.snd)).1 (vl (env ns vs) f r1).1) := by
              show V = _
              rw [HVV.out]
              simp only [vl]
              rw [if_neg (by decide +kernel), if_neg (by decide +kernel), if_neg (by decide +kernel), hg1, show kd [111, 114] = 6 by decide +kernel]
            have hc1 : ∀ w0, (Instr.slice 49 (.slice (some ⟨b, off, none⟩) (ws.length + 1) wcap) (some (.int .i64 1)) none none).run Try.prog w0 = .ok (.slice (some ⟨b, off + 2, none⟩) ws.length (wcap - 1)) w0 := words_cut 1 (by omega) hwc
            have ck := HI.out HN.out HV.out (HWD.out 1 (by omega)) HXL.out HWL.out r1 hT1
            simp only [Nat.one_mul, Nat.add_sub_cancel, List.drop_succ_cons, List.drop_zero] at ck
            have HT2 : Hid (gd ns f r1 = .inr r) := hT2
            clear hT1 hT2 hk4 hg1
            generalize (vl (env ns vs) f (ws.map Prod.snd)).1 = A at *
            go_enter Try.func29, Try.ntmps29
            go_wp2_with fail
            refine Calls.mono (cnum _) ?_
            rintro e w ⟨rfl, rfl⟩
            go_wp2_with fail
            refine Calls.mono (ctak _) ?_
            rintro e w ⟨rfl, rfl⟩
            go_wp2_with fail
            refine Calls.mono ck ?_
            rintro e w ⟨⟨kk, rfl, b1, b2, b3⟩, rfl⟩
            have HB3 : Hid (r1 = (ws.map Prod.snd).drop kk) := b3
            have hkl : kk < ws.length := by have := HR1.out; rw [b3, List.length_drop, List.length_map] at this; omega
            have hc2 := words_cut (b := b) (off := off) (n := ws.length + 1) (cap := wcap) (1 + kk) (by omega) hwc
            have hci : ((1 + kk : Nat) : Int) = 1 + (kk : Int) := by omega
            rw [hci] at hc2
            have ck2 := HI.out HN.out HV.out (HWD.out (1 + kk) (by omega)) (fun z hz => HXL.out z (List.mem_of_mem_drop (by rw [Nat.add_comm] at hz; exact hz))) (by have := HWL.out; rw [List.length_drop]; simp; omega) r (by
              have e9 : (((p, [111, 114]) :: ws).drop (1 + kk)).map Prod.snd = r1 := by
                rw [Nat.add_comm, List.drop_succ_cons, b3, List.map_drop]
              rw [e9]
              exact HT2.out)
            have e9 : (((p, [111, 114]) :: ws).drop (1 + kk)).map Prod.snd = r1 := by
              rw [Nat.add_comm, List.drop_succ_cons, b3, List.map_drop]
            have e10 : (((p, [111, 114]) :: ws).drop (1 + kk)).length = ws.length - kk := by rw [Nat.add_comm, List.drop_succ_cons, List.length_drop]
            rw [e9, e10] at ck2
            have hw1 : ws.length + 1 - (1 + kk) = ws.length - kk := by omega
            rw [hw1] at hc2 ck2
            clear b3 ck hci e9 e10 hw1
            generalize (vl (env ns vs) f r1).1 = B at *
            generalize off + (1 + kk) * 2 = off2 at *
            generalize hnl : ws.length - kk = nl2 at *
            have HNL : Hid (ws.length - kk = nl2) := hnl
            have hnl2 : nl2 ≤ 10000 := by omega
            clear hnl
            generalize wcap - (1 + kk) = wc2 at *
            go_wp2_with fail
            refine Calls.mono ck2 ?_
            rintro e w ⟨⟨mm, rfl, b4, b5, b6⟩, rfl⟩
            have HB4 : Hid (r = r1.drop mm) := b6
            clear b6 ck2
            by_cases ha : A = 0
            · by_cases hb0 : B = 0
              · have e2 : Hid (V = 0) := by show V = 0; rw [e1.out, ha, hb0]; rfl
                subst ha hb0
                go_wp2_with fail
                refine Calls.mono (ct _ _) ?_
                rintro e w ⟨rfl, rfl⟩
                go_wp2_with fail
                go_ret2
                exact ⟨⟨1 + kk + mm, by rw [e2.out]; go_num, by omega, by have := HNL.out; omega, by rw [HB4.out, HB3.out, List.drop_drop, show 1 + kk + mm = (kk + mm) + 1 by omega]; rfl⟩, rfl⟩
              · have hb' : (B != 0) = true := by simp [hb0]
                have e2 : Hid (V = 1) := by show V = 1; rw [e1.out]; simp [jn, tr, ha, hb0]
                subst ha
                clear hb0
                go_wp2_with fail
                refine Calls.mono (ct _ _) ?_
                rintro e w ⟨rfl, rfl⟩
                go_wp2_with fail
                go_ret2
                exact ⟨⟨1 + kk + mm, by rw [e2.out]; go_num, by omega, by have := HNL.out; omega, by rw [HB4.out, HB3.out, List.drop_drop, show 1 + kk + mm = (kk + mm) + 1 by omega]; rfl⟩, rfl⟩
            · have ha2 : (A != 0) = true := by simp [ha]
              have e2 : Hid (V = 1) := by show V = 1; rw [e1.out]; simp [jn, tr, ha]
              clear ha
              go_wp2_with fail
              refine Calls.mono (ct _ _) ?_
              rintro e w ⟨rfl, rfl⟩
              go_wp2_with fail
              go_ret2
              exact ⟨⟨1 + kk + mm, by rw [e2.out]; go_num, by omega, by have := HNL.out; omega, by rw [HB4.out, HB3.out, List.drop_drop, show 1 + kk + mm = (kk + mm) + 1 by omega]; rfl⟩, rfl⟩
          · obtain ⟨r1, hT1, hT2⟩ := times_two (by have := HT.out; rw [show kd [108, 116] = 7 by decide +kernel] at this; exact this)
            have hg1 := gd_vl ns (env ns vs) f _ r1 hT1
            have hpos : 0 < ws.length := by obtain ⟨k, a1, a2, -⟩ := HGD.out hT1; omega
            have HR1 : Hid (0 < r1.length) := by obtain ⟨k, a1, a2, -⟩ := gd_drop ns f _ _ hT2; show _ < _; omega
            have e1 : Hid (V = jn 7 (vl (env ns vs) f (ws.map Prod.snd)).1 (vl (env ns vs) f r1).1) := by
              show V = _
              rw [HVV.out]
              simp only [vl]
              rw [if_neg (by decide +kernel), if_neg (by decide +kernel), if_neg (by decide +kernel), hg1, show kd [108, 116] = 7 by decide +kernel]
            have hc1 : ∀ w0, (Instr.slice 49 (.slice (some ⟨b, off, none⟩) (ws.length + 1) wcap) (some (.int .i64 1)) none none).run Try.prog w0 = .ok (.slice (some ⟨b, off + 2, none⟩) ws.length (wcap - 1)) w0 := words_cut 1 (by omega) hwc
            have ck := HI.out HN.out HV.out (HWD.out 1 (by omega)) HXL.out HWL.out r1 hT1
            simp only [Nat.one_mul, Nat.add_sub_cancel, List.drop_succ_cons, List.drop_zero] at ck
            have HT2 : Hid (gd ns f r1 = .inr r) := hT2
            clear hT1 hT2 hk4 hg1
            generalize (vl (env ns vs) f (ws.map Prod.snd)).1 = A at *
            go_enter Try.func29, Try.ntmps29
            go_wp2_with fail
            refine Calls.mono (cnum _) ?_
            rintro e w ⟨rfl, rfl⟩
            go_wp2_with fail
            refine Calls.mono (ctak _) ?_
            rintro e w ⟨rfl, rfl⟩
            go_wp2_with fail
            refine Calls.mono ck ?_
            rintro e w ⟨⟨kk, rfl, b1, b2, b3⟩, rfl⟩
            have HB3 : Hid (r1 = (ws.map Prod.snd).drop kk) := b3
            have hkl : kk < ws.length := by have := HR1.out; rw [b3, List.length_drop, List.length_map] at this; omega
            have hc2 := words_cut (b := b) (off := off) (n := ws.length + 1) (cap := wcap) (1 + kk) (by omega) hwc
            have hci : ((1 + kk : Nat) : Int) = 1 + (kk : Int) := by omega
            rw [hci] at hc2
            have ck2 := HI.out HN.out HV.out (HWD.out (1 + kk) (by omega)) (fun z hz => HXL.out z (List.mem_of_mem_drop (by rw [Nat.add_comm] at hz; exact hz))) (by have := HWL.out; rw [List.length_drop]; simp; omega) r (by
              have e9 : (((p, [108, 116]) :: ws).drop (1 + kk)).map Prod.snd = r1 := by
                rw [Nat.add_comm, List.drop_succ_cons, b3, List.map_drop]
              rw [e9]
              exact HT2.out)
            have e9 : (((p, [108, 116]) :: ws).drop (1 + kk)).map Prod.snd = r1 := by
              rw [Nat.add_comm, List.drop_succ_cons, b3, List.map_drop]
            have e10 : (((p, [108, 116]) :: ws).drop (1 + kk)).length = ws.length - kk := by rw [Nat.add_comm, List.drop_succ_cons, List.length_drop]
            rw [e9, e10] at ck2
            have hw1 : ws.length + 1 - (1 + kk) = ws.length - kk := by omega
            rw [hw1] at hc2 ck2
            clear b3 ck hci e9 e10 hw1
            generalize (vl (env ns vs) f r1).1 = B at *
            generalize off + (1 + kk) * 2 = off2 at *
            generalize hnl : ws.length - kk = nl2 at *
            have HNL : Hid (ws.length - kk = nl2) := hnl
            have hnl2 : nl2 ≤ 10000 := by omega
            clear hnl
            generalize wcap - (1 + kk) = wc2 at *
            go_wp2_with fail
            refine Calls.mono ck2 ?_
            rintro e w ⟨⟨mm, rfl, b4, b5, b6⟩, rfl⟩
            have HB4 : Hid (r = r1.drop mm) := b6
            clear b6 ck2
            by_cases ha : A < B
            · have e2 : Hid (V = 1) := by show V = 1; rw [e1.out]; simp [jn, tr, ha]
              go_wp2_with fail
              refine Calls.mono (ct _ _) ?_
              rintro e w ⟨rfl, rfl⟩
              go_wp2_with fail
              go_ret2
              exact ⟨⟨1 + kk + mm, by rw [e2.out]; go_num, by omega, by have := HNL.out; omega, by rw [HB4.out, HB3.out, List.drop_drop, show 1 + kk + mm = (kk + mm) + 1 by omega]; rfl⟩, rfl⟩
            · have ha2 : decide (A < B) = false := decide_eq_false ha
              have e2 : Hid (V = 0) := by show V = 0; rw [e1.out]; simp [jn, tr, ha2]
              clear ha
              go_wp2_with fail
              refine Calls.mono (ct _ _) ?_
              rintro e w ⟨rfl, rfl⟩
              go_wp2_with fail
              go_ret2
              exact ⟨⟨1 + kk + mm, by rw [e2.out]; go_num, by omega, by have := HNL.out; omega, by rw [HB4.out, HB3.out, List.drop_drop, show 1 + kk + mm = (kk + mm) + 1 by omega]; rfl⟩, rfl⟩
          · obtain ⟨r1, hT1, hT2⟩ := times_two (by have := HT.out; rw [show kd [101, 113] = 8 by decide +kernel] at this; exact this)
            have hg1 := gd_vl ns (env ns vs) f _ r1 hT1
            have hpos : 0 < ws.length := by obtain ⟨k, a1, a2, -⟩ := HGD.out hT1; omega
            have HR1 : Hid (0 < r1.length) := by obtain ⟨k, a1, a2, -⟩ := gd_drop ns f _ _ hT2; show _ < _; omega
            have e1 : Hid (V = jn 8 (vl (env ns vs) f (ws.map Prod.snd)).1 (vl (env ns vs) f r1).1) := by
              show V = _
              rw [HVV.out]
              simp only [vl]
              rw [if_neg (by decide +kernel), if_neg (by decide +kernel), if_neg (by decide +kernel), hg1, show kd [101, 113] = 8 by decide +kernel]
            have hc1 : ∀ w0, (Instr.slice 49 (.slice (some ⟨b, off, none⟩) (ws.length + 1) wcap) (some (.int .i64 1)) none none).run Try.prog w0 = .ok (.slice (some ⟨b, off + 2, none⟩) ws.length (wcap - 1)) w0 := words_cut 1 (by omega) hwc
            have ck := HI.out HN.out HV.out (HWD.out 1 (by omega)) HXL.out HWL.out r1 hT1
            simp only [Nat.one_mul, Nat.add_sub_cancel, List.drop_succ_cons, List.drop_zero] at ck
            have HT2 : Hid (gd ns f r1 = .inr r) := hT2
            clear hT1 hT2 hk4 hg1
            generalize (vl (env ns vs) f (ws.map Prod.snd)).1 = A at *
            go_enter Try.func29, Try.ntmps29
            go_wp2_with fail
            refine Calls.mono (cnum _) ?_
            rintro e w ⟨rfl, rfl⟩
            go_wp2_with fail
            refine Calls.mono (ctak _) ?_
            rintro e w ⟨rfl, rfl⟩
            go_wp2_with fail
            refine Calls.mono ck ?_
            rintro e w ⟨⟨kk, rfl, b1, b2, b3⟩, rfl⟩
            have HB3 : Hid (r1 = (ws.map Prod.snd).drop kk) := b3
            have hkl : kk < ws.length := by have := HR1.out; rw [b3, List.length_drop, List.length_map] at this; omega
            have hc2 := words_cut (b := b) (off := off) (n := ws.length + 1) (cap := wcap) (1 + kk) (by omega) hwc
            have hci : ((1 + kk : Nat) : Int) = 1 + (kk : Int) := by omega
            rw [hci] at hc2
            have ck2 := HI.out HN.out HV.out (HWD.out (1 + kk) (by omega)) (fun z hz => HXL.out z (List.mem_of_mem_drop (by rw [Nat.add_comm] at hz; exact hz))) (by have := HWL.out; rw [List.length_drop]; simp; omega) r (by
              have e9 : (((p, [101, 113]) :: ws).drop (1 + kk)).map Prod.snd = r1 := by
                rw [Nat.add_comm, List.drop_succ_cons, b3, List.map_drop]
              rw [e9]
              exact HT2.out)
            have e9 : (((p, [101, 113]) :: ws).drop (1 + kk)).map Prod.snd = r1 := by
              rw [Nat.add_comm, List.drop_succ_cons, b3, List.map_drop]
            have e10 : (((p, [101, 113]) :: ws).drop (1 + kk)).length = ws.length - kk := by rw [Nat.add_comm, List.drop_succ_cons, List.length_drop]
            rw [e9, e10] at ck2
            have hw1 : ws.length + 1 - (1 + kk) = ws.length - kk := by omega
            rw [hw1] at hc2 ck2
            clear b3 ck hci e9 e10 hw1
            generalize (vl (env ns vs) f r1).1 = B at *
            generalize off + (1 + kk) * 2 = off2 at *
            generalize hnl : ws.length - kk = nl2 at *
            have HNL : Hid (ws.length - kk = nl2) := hnl
            have hnl2 : nl2 ≤ 10000 := by omega
            clear hnl
            generalize wcap - (1 + kk) = wc2 at *
            go_wp2_with fail
            refine Calls.mono ck2 ?_
            rintro e w ⟨⟨mm, rfl, b4, b5, b6⟩, rfl⟩
            have HB4 : Hid (r = r1.drop mm) := b6
            clear b6 ck2
            by_cases ha : A = B
            · have e2 : Hid (V = 1) := by show V = 1; rw [e1.out]; simp [jn, tr, ha]
              subst ha
              go_wp2_with fail
              refine Calls.mono (ct _ _) ?_
              rintro e w ⟨rfl, rfl⟩
              go_wp2_with fail
              go_ret2
              exact ⟨⟨1 + kk + mm, by rw [e2.out]; go_num, by omega, by have := HNL.out; omega, by rw [HB4.out, HB3.out, List.drop_drop, show 1 + kk + mm = (kk + mm) + 1 by omega]; rfl⟩, rfl⟩
            · have ha2 : (A == B) = false := by simpa using ha
              have e2 : Hid (V = 0) := by show V = 0; rw [e1.out]; simp [jn, tr, ha]
              clear ha
              go_wp2_with fail
              refine Calls.mono (ct _ _) ?_
              rintro e w ⟨rfl, rfl⟩
              go_wp2_with fail
              go_ret2
              exact ⟨⟨1 + kk + mm, by rw [e2.out]; go_num, by omega, by have := HNL.out; omega, by rw [HB4.out, HB3.out, List.drop_drop, show 1 + kk + mm = (kk + mm) + 1 by omega]; rfl⟩, rfl⟩
          · obtain ⟨r1, hT1, hT2⟩ := times_two (by have := HT.out; rw [show kd [97, 100, 100] = 9 by decide +kernel] at this; exact this)
            have hg1 := gd_vl ns (env ns vs) f _ r1 hT1
            have hpos : 0 < ws.length := by obtain ⟨k, a1, a2, -⟩ := HGD.out hT1; omega
            have HR1 : Hid (0 < r1.length) := by obtain ⟨k, a1, a2, -⟩ := gd_drop ns f _ _ hT2; show _ < _; omega
            have e1 : Hid (V = jn 9 (vl (env ns vs) f (ws.map Prod.snd)).1 (vl (env ns vs) f r1).1) := by
              show V = _
              rw [HVV.out]
              simp only [vl]
              rw [if_neg (by decide +kernel), if_neg (by decide +kernel), if_neg (by decide +kernel), hg1, show kd [97, 100, 100] = 9 by decide +kernel]
            have hc1 : ∀ w0, (Instr.slice 49 (.slice (some ⟨b, off, none⟩) (ws.length + 1) wcap) (some (.int .i64 1)) none none).run Try.prog w0 = .ok (.slice (some ⟨b, off + 2, none⟩) ws.length (wcap - 1)) w0 := words_cut 1 (by omega) hwc
            have ck := HI.out HN.out HV.out (HWD.out 1 (by omega)) HXL.out HWL.out r1 hT1
            simp only [Nat.one_mul, Nat.add_sub_cancel, List.drop_succ_cons, List.drop_zero] at ck
            have HT2 : Hid (gd ns f r1 = .inr r) := hT2
            clear hT1 hT2 hk4 hg1
            generalize (vl (env ns vs) f (ws.map Prod.snd)).1 = A at *
            go_enter Try.func29, Try.ntmps29
            go_wp2_with fail
            refine Calls.mono (cnum _) ?_
            rintro e w ⟨rfl, rfl⟩
            go_wp2_with fail
            refine Calls.mono (ctak _) ?_
            rintro e w ⟨rfl, rfl⟩
            go_wp2_with fail
            refine Calls.mono ck ?_
            rintro e w ⟨⟨kk, rfl, b1, b2, b3⟩, rfl⟩
            have HB3 : Hid (r1 = (ws.map Prod.snd).drop kk) := b3
            have hkl : kk < ws.length := by have := HR1.out; rw [b3, List.length_drop, List.length_map] at this; omega
            have hc2 := words_cut (b := b) (off := off) (n := ws.length + 1) (cap := wcap) (1 + kk) (by omega) hwc
            have hci : ((1 + kk : Nat) : Int) = 1 + (kk : Int) := by omega
            rw [hci] at hc2
            have ck2 := HI.out HN.out HV.out (HWD.out (1 + kk) (by omega)) (fun z hz => HXL.out z (List.mem_of_mem_drop (by rw [Nat.add_comm] at hz; exact hz))) (by have := HWL.out; rw [List.length_drop]; simp; omega) r (by
              have e9 : (((p, [97, 100, 100]) :: ws).drop (1 + kk)).map Prod.snd = r1 := by
                rw [Nat.add_comm, List.drop_succ_cons, b3, List.map_drop]
              rw [e9]
              exact HT2.out)
            have e9 : (((p, [97, 100, 100]) :: ws).drop (1 + kk)).map Prod.snd = r1 := by
              rw [Nat.add_comm, List.drop_succ_cons, b3, List.map_drop]
            have e10 : (((p, [97, 100, 100]) :: ws).drop (1 + kk)).length = ws.length - kk := by rw [Nat.add_comm, List.drop_succ_cons, List.length_drop]
            rw [e9, e10] at ck2
            have hw1 : ws.length + 1 - (1 + kk) = ws.length - kk := by omega
            rw [hw1] at hc2 ck2
            clear b3 ck hci e9 e10 hw1
            generalize (vl (env ns vs) f r1).1 = B at *
            generalize off + (1 + kk) * 2 = off2 at *
            generalize hnl : ws.length - kk = nl2 at *
            have HNL : Hid (ws.length - kk = nl2) := hnl
            have hnl2 : nl2 ≤ 10000 := by omega
            clear hnl
            generalize wcap - (1 + kk) = wc2 at *
            go_wp2_with fail
            refine Calls.mono ck2 ?_
            rintro e w ⟨⟨mm, rfl, b4, b5, b6⟩, rfl⟩
            have HB4 : Hid (r = r1.drop mm) := b6
            clear b6 ck2
            go_wp2_with fail
            go_ret2
            exact ⟨⟨1 + kk + mm, by rw [e1.out]; go_num, by omega, by have := HNL.out; omega, by rw [HB4.out, HB3.out, List.drop_drop, show 1 + kk + mm = (kk + mm) + 1 by omega]; rfl⟩, rfl⟩
          · obtain ⟨r1, hT1, hT2⟩ := times_two (by have := HT.out; rw [show kd [115, 117, 98] = 10 by decide +kernel] at this; exact this)
            have hg1 := gd_vl ns (env ns vs) f _ r1 hT1
            have hpos : 0 < ws.length := by obtain ⟨k, a1, a2, -⟩ := HGD.out hT1; omega
            have HR1 : Hid (0 < r1.length) := by obtain ⟨k, a1, a2, -⟩ := gd_drop ns f _ _ hT2; show _ < _; omega
            have e1 : Hid (V = jn 10 (vl (env ns vs) f (ws.map Prod.snd)).1 (vl (env ns vs) f r1).1) := by
              show V = _
              rw [HVV.out]
              simp only [vl]
              rw [if_neg (by decide +kernel), if_neg (by decide +kernel), if_neg (by decide +kernel), hg1, show kd [115, 117, 98] = 10 by decide +kernel]
            have hc1 : ∀ w0, (Instr.slice 49 (.slice (some ⟨b, off, none⟩) (ws.length + 1) wcap) (some (.int .i64 1)) none none).run Try.prog w0 = .ok (.slice (some ⟨b, off + 2, none⟩) ws.length (wcap - 1)) w0 := words_cut 1 (by omega) hwc
            have ck := HI.out HN.out HV.out (HWD.out 1 (by omega)) HXL.out HWL.out r1 hT1
            simp only [Nat.one_mul, Nat.add_sub_cancel, List.drop_succ_cons, List.drop_zero] at ck
            have HT2 : Hid (gd ns f r1 = .inr r) := hT2
            clear hT1 hT2 hk4 hg1
            generalize (vl (env ns vs) f (ws.map Prod.snd)).1 = A at *
            go_enter Try.func29, Try.ntmps29
            go_wp2_with fail
            refine Calls.mono (cnum _) ?_
            rintro e w ⟨rfl, rfl⟩
            go_wp2_with fail
            refine Calls.mono (ctak _) ?_
            rintro e w ⟨rfl, rfl⟩
            go_wp2_with fail
            refine Calls.mono ck ?_
            rintro e w ⟨⟨kk, rfl, b1, b2, b3⟩, rfl⟩
            have HB3 : Hid (r1 = (ws.map Prod.snd).drop kk) := b3
            have hkl : kk < ws.length := by have := HR1.out; rw [b3, List.length_drop, List.length_map] at this; omega
            have hc2 := words_cut (b := b) (off := off) (n := ws.length + 1) (cap := wcap) (1 + kk) (by omega) hwc
            have hci : ((1 + kk : Nat) : Int) = 1 + (kk : Int) := by omega
            rw [hci] at hc2
            have ck2 := HI.out HN.out HV.out (HWD.out (1 + kk) (by omega)) (fun z hz => HXL.out z (List.mem_of_mem_drop (by rw [Nat.add_comm] at hz; exact hz))) (by have := HWL.out; rw [List.length_drop]; simp; omega) r (by
              have e9 : (((p, [115, 117, 98]) :: ws).drop (1 + kk)).map Prod.snd = r1 := by
                rw [Nat.add_comm, List.drop_succ_cons, b3, List.map_drop]
              rw [e9]
              exact HT2.out)
            have e9 : (((p, [115, 117, 98]) :: ws).drop (1 + kk)).map Prod.snd = r1 := by
              rw [Nat.add_comm, List.drop_succ_cons, b3, List.map_drop]
            have e10 : (((p, [115, 117, 98]) :: ws).drop (1 + kk)).length = ws.length - kk := by rw [Nat.add_comm, List.drop_succ_cons, List.length_drop]
            rw [e9, e10] at ck2
            have hw1 : ws.length + 1 - (1 + kk) = ws.length - kk := by omega
            rw [hw1] at hc2 ck2
            clear b3 ck hci e9 e10 hw1
            generalize (vl (env ns vs) f r1).1 = B at *
            generalize off + (1 + kk) * 2 = off2 at *
            generalize hnl : ws.length - kk = nl2 at *
            have HNL : Hid (ws.length - kk = nl2) := hnl
            have hnl2 : nl2 ≤ 10000 := by omega
            clear hnl
            generalize wcap - (1 + kk) = wc2 at *
            go_wp2_with fail
            refine Calls.mono ck2 ?_
            rintro e w ⟨⟨mm, rfl, b4, b5, b6⟩, rfl⟩
            have HB4 : Hid (r = r1.drop mm) := b6
            clear b6 ck2
            go_wp2_with fail
            go_ret2
            exact ⟨⟨1 + kk + mm, by rw [e1.out]; go_num, by omega, by have := HNL.out; omega, by rw [HB4.out, HB3.out, List.drop_drop, show 1 + kk + mm = (kk + mm) + 1 by omega]; rfl⟩, rfl⟩

set_option maxRecDepth 100000 in
set_option maxHeartbeats 4000000 in
theorem reval_any {w : World} {v u : Value} {ns : List (List UInt8)} {vs : List Int} (h : Ns w v ns) (hv : Vi w u vs) (s : List UInt8) (hs : s.length ≤ 10000) :
    Calls Try.prog 12 #[.string ⟨s.toArray⟩, v, u] w fun e w' => e = .returned (.tuple #[.int .i64 (evl ns vs s).1, .int .i64 ((evl ns vs s).2 : Nat)]) ∧ Kept (fun _ => True) w w' := by
  have HN : Hid (Ns w v ns) := h
  have HV : Hid (Vi w u vs) := hv
  have cc := rcheck_any h s hs
  have HS : Hid (s.length ≤ 10000) := hs
  obtain ⟨ao, cap, rfl, -⟩ := h
  obtain ⟨bo, bcap, rfl, -⟩ := hv
  obtain ⟨C, hC⟩ : ∃ C, C = evl ns vs s := ⟨_, rfl⟩
  have HC : Hid (C = evl ns vs s) := hC
  rw [← hC]
  clear hC
  by_cases h0 : (chk ns s).1 = 0
  · have hg := chk_gd.1 h0
    rw [h0] at cc
    by_cases hl : vs.length < ns.length
    · have e1 : Hid (C = (0, 1)) := by
        show C = (0, 1)
        rw [HC.out, evl, if_neg (by omega), if_pos hl]
      have hl' : (vs.length : Int) < (ns.length : Int) := by omega
      clear h0 hg
      generalize (chk ns s).2 = q at *
      go_enter Try.func12, Try.ntmps12
      go_wp2_with fail
      refine Calls.mono cc ?_
      rintro e w1 ⟨rfl, k1⟩
      clear cc
      go_wp2_with fail
      go_ret2
      exact ⟨by rw [e1.out]; rfl, k1⟩
    · have e1 : Hid (C = ((vl (env ns vs) 17 (tx s)).1, 0)) := by
        show C = _
        rw [HC.out, evl, if_neg (by omega), if_neg hl]
      have hl' : ¬ (vs.length : Int) < (ns.length : Int) := by omega
      have cw := fun W => words_any (w := W) s hs
      have ck := fun W lv (hk : Kept (fun _ => True) w W) (hw : Wv W lv (Wo s 0)) => reval_word (by omega) 17 (HN.out.all hk) (HV.out.all hk) hw (fun x hx => texts_short s HS.out x hx) (by have := words_few s; have := HS.out; omega) [] (by rw [Wo_tx]; exact hg.2)
      rw [Wo_tx] at ck
      have HCK : Hid _ := ck
      clear h0 hg ck
      generalize (chk ns s).2 = q at *
      generalize (vl (env ns vs) 17 (tx s)).1 = V at *
      go_enter Try.func12, Try.ntmps12
      go_wp2_with fail
      refine Calls.mono cc ?_
      rintro e w1 ⟨rfl, k1⟩
      clear cc
      go_wp2_with fail
      refine Calls.mono (cw _) ?_
      rintro e w2 ⟨⟨wv, rfl, hW⟩, k2⟩
      have c2 := HCK.out w2 wv (k1.trans k2) hW.view
      obtain ⟨wao, wcap, rfl, -⟩ := hW.view
      clear cw
      go_wp2_with fail
      refine Calls.mono c2 ?_
      rintro e w2 ⟨⟨q2, rfl, -⟩, rfl⟩
      go_wp2_with fail
      go_ret2
      exact ⟨by rw [e1.out]; rfl, k1.trans k2⟩
  · have e1 : Hid (C = (0, (chk ns s).1)) := by
      show C = _
      rw [HC.out, evl, if_pos h0]
    generalize (chk ns s).2 = q at *
    generalize (chk ns s).1 = c at *
    have hc : ((c : Int) == 0) = false := by simp; omega
    clear h0
    go_enter Try.func12, Try.ntmps12
    go_wp2_with fail
    refine Calls.mono cc ?_
    rintro e w1 ⟨rfl, k1⟩
    clear cc
    go_wp2_with fail
    go_ret2
    exact ⟨by rw [e1.out]; rfl, k1⟩

end Go.Proofs.Ytpjfmgmhohpjmaa
