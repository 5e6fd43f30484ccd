/-
  join, reckon, Eval.
-/
import Derived.Test.YtnddpalngjmhnaaDoorQ7
namespace Go.Proofs.YtnddpalngjmhnaaDoor
open Go.RowKit

set_option maxHeartbeats 1000000 in
theorem join_any {w : World} (k : Nat) (h1 : 5 ≤ k) (h2 : k ≤ 10) (a b : Int) :
    Calls Tryd.prog 85 #[.int .i64 (k : Nat), .int .i64 a, .int .i64 b] w fun e w' => e = .returned (.int .i64 (jn k a b)) ∧ w' = w := by
  have ct := fun W b => truth_any (w := W) b
  have hk : k = 5 ∨ k = 6 ∨ k = 7 ∨ k = 8 ∨ k = 9 ∨ k = 10 := by omega
  rcases hk with rfl | rfl | rfl | rfl | rfl | rfl
  · have e : jn 5 a b = tr (decide (a ≠ 0 ∧ b ≠ 0)) := rfl
    rw [e]
    by_cases ha : a = 0
    · subst ha
      go_enter Tryd.func85, Tryd.ntmps85
      go_wp2_with fail
      refine Calls.mono (ct _ _) ?_
      rintro e w1 ⟨rfl, rfl⟩
      go_wp2_with fail
      go_ret
      exact ⟨by simp, rfl⟩
    · have ha' : (a == 0) = false := by simpa using ha
      by_cases hb : b = 0
      · subst hb
        go_enter Tryd.func85, Tryd.ntmps85
        go_wp2_with fail
        refine Calls.mono (ct _ _) ?_
        rintro e w1 ⟨rfl, rfl⟩
        go_wp2_with fail
        go_ret
        exact ⟨by simp, rfl⟩
      · have hb' : (b == 0) = false := by simpa using hb
        have hd : decide (a ≠ 0 ∧ b ≠ 0) = true := by simp [ha, hb]
        rw [hd]
        clear hd
        go_enter Tryd.func85, Tryd.ntmps85
        go_wp2_with fail
        refine Calls.mono (ct _ _) ?_
        rintro e w1 ⟨rfl, rfl⟩
        go_wp2_with fail
        go_ret
        exact ⟨by simp [bne, ha', hb'], rfl⟩
  · have e : jn 6 a b = tr (decide (a ≠ 0 ∨ b ≠ 0)) := rfl
    rw [e]
    by_cases ha : a = 0
    · subst ha
      by_cases hb : b = 0
      · subst hb
        go_enter Tryd.func85, Tryd.ntmps85
        go_wp2_with fail
        refine Calls.mono (ct _ _) ?_
        rintro e w1 ⟨rfl, rfl⟩
        go_wp2_with fail
        go_ret
        exact ⟨by simp, rfl⟩
      · have hb' : (b == 0) = false := by simpa using hb
        have hd : decide ((0 : Int) ≠ 0 ∨ b ≠ 0) = true := by simp [hb]
        rw [hd]
        clear hd
        go_enter Tryd.func85, Tryd.ntmps85
        go_wp2_with fail
        refine Calls.mono (ct _ _) ?_
        rintro e w1 ⟨rfl, rfl⟩
        go_wp2_with fail
        go_ret
        exact ⟨by simp [bne, hb'], rfl⟩
    · have ha' : (a == 0) = false := by simpa using ha
      have hd : decide (a ≠ 0 ∨ b ≠ 0) = true := by simp [ha]
      rw [hd]
      clear hd
      go_enter Tryd.func85, Tryd.ntmps85
      go_wp2_with fail
      refine Calls.mono (ct _ _) ?_
      rintro e w1 ⟨rfl, rfl⟩
      go_wp2_with fail
      go_ret
      exact ⟨rfl, rfl⟩
  · have e : jn 7 a b = tr (decide (a < b)) := rfl
    rw [e]
    by_cases ha : a < b
    · rw [decide_eq_true ha]
      go_enter Tryd.func85, Tryd.ntmps85
      go_wp2_with fail
      refine Calls.mono (ct _ _) ?_
      rintro e w1 ⟨rfl, rfl⟩
      go_wp2_with fail
      go_ret
      exact ⟨rfl, rfl⟩
    · rw [decide_eq_false ha]
      go_enter Tryd.func85, Tryd.ntmps85
      go_wp2_with fail
      refine Calls.mono (ct _ _) ?_
      rintro e w1 ⟨rfl, rfl⟩
      go_wp2_with fail
      go_ret
      exact ⟨rfl, rfl⟩
  · have e : jn 8 a b = tr (decide (a = b)) := rfl
    rw [e]
    by_cases ha : a = b
    · rw [decide_eq_true ha]
      subst ha
      go_enter Tryd.func85, Tryd.ntmps85
      go_wp2_with fail
      refine Calls.mono (ct _ _) ?_
      rintro e w1 ⟨rfl, rfl⟩
      go_wp2_with fail
      go_ret
      exact ⟨rfl, rfl⟩
    · have ha' : (a == b) = false := by simpa using ha
      rw [decide_eq_false ha]
      go_enter Tryd.func85, Tryd.ntmps85
      go_wp2_with fail
      refine Calls.mono (ct _ _) ?_
      rintro e w1 ⟨rfl, rfl⟩
      go_wp2_with fail
      go_ret
      exact ⟨rfl, rfl⟩
  · go_enter Tryd.func85, Tryd.ntmps85
    go_wp2_with fail
    go_ret
    exact ⟨rfl, rfl⟩
  · go_enter Tryd.func85, Tryd.ntmps85
    go_wp2_with fail
    go_ret
    exact ⟨rfl, rfl⟩

/-- What a name is worth: the first of that name. -/
def env (ns : List (List UInt8)) (vs : List Int) (x : List UInt8) : Int := vs.getD (ns.idxOf x) 0

/-- A guard that is whole, by its first word. -/
theorem gd_cons {ns : List (List UInt8)} {f : Nat} {xs r : List (List UInt8)} (h : gd ns f xs = .inr r) : ∃ f' x ys, f = f' + 1 ∧ xs = x :: ys ∧ kd x ≠ 1 ∧ (kd x = 3 → x ∈ ns) ∧ times (gd ns f') (ar (kd x)) ys = .inr r := by
  cases f with
  | zero => cases h
  | succ f =>
    cases xs with
    | nil => cases h
    | cons x ys =>
      simp only [gd] at h
      rcases rf_cases ns x with ⟨h1, h2⟩ | ⟨h1, _, h2⟩ | ⟨h1, h2, h3⟩
      · rw [if_pos (by omega)] at h; cases h
      · rw [if_pos (by omega)] at h; cases h
      · rw [if_neg (by omega)] at h
        exact ⟨f, x, ys, rfl, rfl, h1, h2, h⟩
theorem times_one {α β : Type} {g : List α → β ⊕ List α} {ws r : List α} (h : times g 1 ws = .inr r) : g ws = .inr r := by
  simp only [times] at h
  cases hg : g ws with
  | inl e => rw [hg] at h; cases h
  | inr r1 =>
    rw [hg] at h
    simpa using h
theorem times_two {α β : Type} {g : List α → β ⊕ List α} {ws r : List α} (h : times g 2 ws = .inr r) : ∃ r1, g ws = .inr r1 ∧ g r1 = .inr r := by
  simp only [times] at h
  cases hg : g ws with
  | inl e => rw [hg] at h; cases h
  | inr r1 =>
    rw [hg] at h
    refine ⟨r1, rfl, ?_⟩
    cases hg2 : g r1 with
    | inl e => simp only [hg2] at h; cases h
    | inr r2 =>
      simp only [hg2, Sum.inr.injEq] at h
      rw [h]
theorem Rd.first {s : List UInt8} {p k q t : Nat} {n : Int} (h : Rd s p k q t n) {x : List UInt8} {ys : List (List UInt8)} (hx : (Wo s p).map Prod.snd = x :: ys) : k = kd x ∧ tex s q t = x ∧ (Wo s t).map Prod.snd = ys ∧ (k = 2 → n = num x) := by
  rcases h with ⟨_, _, _, h⟩ | ⟨h1, h2, h3⟩
  · rw [h] at hx; cases hx
  · rw [h1.words] at hx
    simp only [List.map_cons, List.cons.injEq] at hx
    obtain ⟨e1, e2⟩ := hx
    rw [e1] at h2 h3
    exact ⟨h2, e1, e2, h3⟩

set_option maxRecDepth 100000 in
set_option maxHeartbeats 2000000 in
theorem reckon_any {v u : Value} {ns : List (List UInt8)} {vs : List Int} {s : List UInt8} (hs : s.length ≤ 281474976710656) (hl : ns.length ≤ vs.length) (f : Nat) : ∀ {w : World} (_ : Ns w v ns) (_ : Vi w u vs) (p : Nat) (_ : p ≤ s.length) (r : List (List UInt8)) (_ : gd ns f ((Wo s p).map Prod.snd) = .inr r),
    Calls Tryd.prog 73 #[.string ⟨s.toArray⟩, v, u, .int .i64 (p : Nat)] w fun e w' => (∃ q : Nat, e = .returned (.tuple #[.int .i64 (vl (env ns vs) f ((Wo s p).map Prod.snd)).1, .int .i64 (q : Nat)]) ∧ q ≤ s.length ∧ (Wo s q).map Prod.snd = r) ∧ Kept (fun _ => True) w w' := by
  induction f with
  | zero => intro w _ _ p _ r h; cases h
  | succ f ih =>
    intro w h hv p hp r hg
    have HI : Hid (∀ {w : World} (_ : Ns w v ns) (_ : Vi w u vs) (p : Nat) (_ : p ≤ s.length) (r : List (List UInt8)) (_ : gd ns f ((Wo s p).map Prod.snd) = .inr r),
      Calls Tryd.prog 73 #[.string ⟨s.toArray⟩, v, u, .int .i64 (p : Nat)] w fun e w' => (∃ q : Nat, e = .returned (.tuple #[.int .i64 (vl (env ns vs) f ((Wo s p).map Prod.snd)).1, .int .i64 (q : Nat)]) ∧ q ≤ s.length ∧ (Wo s q).map Prod.snd = r) ∧ Kept (fun _ => True) w w') := ih
    clear ih
    obtain ⟨f', x, ys, hf', hxs, hk1, hk3, hT⟩ := gd_cons hg
    obtain rfl : f = f' := by omega
    have HX : Hid ((Wo s p).map Prod.snd = x :: ys) := hxs
    have HT : Hid (times (gd ns f) (ar (kd x)) ys = .inr r) := hT
    have HN : Hid (Ns w v ns) := h
    have HV : Hid (Vi w u vs) := hv
    have HS : Hid (s.length ≤ 281474976710656) := hs
    have HL : Hid (ns.length ≤ vs.length) := hl
    obtain ⟨V, hV⟩ : ∃ V, V = (vl (env ns vs) (f + 1) ((Wo s p).map Prod.snd)).1 := ⟨_, rfl⟩
    rw [← hV]
    rw [hxs] at hV
    have hkc := kd_cases x
    have cr := read_any (w := w) hs p hp
    obtain ⟨ao, cap, rfl, -⟩ := h
    obtain ⟨bo, bcap, rfl, hvc⟩ := hv
    have HW : Hid (0 < vs.length → ∃ b off, bo = some ⟨b, off, none⟩ ∧ b < w.heap.size ∧ ∀ i (h : i < vs.length), w.cell? ⟨b, off + i, none⟩ = some (.int .i64 (vs[i]))) := hvc
    clear hg hT hxs hvc hf' hl
    have HV2 : Hid (V = (vl (env ns vs) (f + 1) (x :: ys)).1) := hV
    clear hV
    go_enter Tryd.func73, Tryd.ntmps73
    go_wp2_with fail
    refine Calls.mono cr ?_
    rintro e w1 ⟨⟨k, q, t, n, rfl, hR⟩, k1⟩
    clear cr
    obtain ⟨b1, b2, b3⟩ := hR.bounds
    obtain ⟨e1, e2, e3, e4⟩ := hR.first HX.out
    have HE3 : Hid ((Wo s t).map Prod.snd = ys) := e3
    have HK1 : Hid (Kept (fun _ => True) w w1) := k1
    have hcut := cut_text s q t b1 b2
    rw [e2] at hcut
    clear hR k1 e2 e3
    by_cases h2 : k = 2
    · have hV : Hid (V = n) := by
        show V = n
        rw [HV2.out, e4 h2]
        simp [vl, ← e1, h2]
      have hr : Hid (ys = r) := by
        have := HT.out
        rw [← e1, h2] at this
        show ys = r
        simpa [ar, times] using this
      subst h2
      clear e1 e4 hk3 hcut
      go_wp2_with fail
      go_quiet (fail)
      go_wp2_with fail
      go_ret2
      exact ⟨⟨t, by rw [hV.out]; rfl, b2, HE3.out.trans hr.out⟩, (HK1.out.alloc _).drewN _⟩
    · by_cases h3 : k = 3
      · have hx : x ∈ ns := hk3 (by omega)
        have hr : Hid (ys = r) := by
          have := HT.out
          rw [← e1, h3] at this
          show ys = r
          simpa [ar, times] using this
        have hlt : ns.idxOf x < vs.length := Nat.lt_of_lt_of_le (List.idxOf_lt_length_of_mem hx) HL.out
        have hix : ix ns x = (ns.idxOf x : Int) := if_pos hx
        have hV : Hid (V = vs[ns.idxOf x]) := by
          show V = _
          rw [HV2.out]
          simp only [vl]
          rw [if_neg (by omega), if_pos (by omega)]
          simp [env, hlt]
        obtain ⟨b, off, rfl, hb, hc⟩ := HW.out (by omega)
        have ci := fun W (hW : Kept (fun _ => True) w W) => index_text (HN.out.all hW) x
        rw [hix] at ci
        have q1 := hc _ hlt
        clear hc hix hx hk3 e1 e4
        generalize vs[ns.idxOf x] = z at *
        generalize ns.idxOf x = j at *
        have HK2 : Hid _ := HK1.out.alloc (.cells #[.int .i64 3, .int .i64 (q : Nat), .int .i64 (t : Nat), .int .i64 n] 117)
        have q2 := (kept_cell HK1.out hb (o := off + j) trivial).trans q1
        have q3 := (kept_cell HK2.out hb (o := off + j) trivial).trans q1
        have hb1 : b < w1.heap.size := Nat.lt_of_lt_of_le hb HK1.out.size
        have j1 : (j : Int) < (vs.length : Int) := by omega
        have j0 : (0 : Int) ≤ (j : Int) := by omega
        have c2 := fun n => ci _ (HK2.out.drewN n)
        subst h3
        clear ci q1
        go_wp2_with fail
        go_quiet ((go_at_call 83; exact Calls.quiet_of_same (c2 _)))
        go_wp2_with fail
        go_ret2
        exact ⟨⟨t, by rw [hV.out]; rfl, b2, HE3.out.trans hr.out⟩, HK2.out.drewN _⟩
      · by_cases h4 : k = 4
        · have hT1 : gd ns f ys = .inr r := times_one (by have := HT.out; rw [← e1, h4] at this; exact this)
          have hV : Hid (V = tr (decide ((vl (env ns vs) f ys).1 = 0))) := by
            show V = _
            rw [HV2.out]
            simp only [vl]
            rw [if_neg (by omega), if_neg (by omega), if_pos (by omega)]
          have HK2 : Hid _ := HK1.out.alloc (.cells #[.int .i64 4, .int .i64 (q : Nat), .int .i64 (t : Nat), .int .i64 n] 117)
          have HB : Hid _ := heap_alloc_new w1 (.cells #[.int .i64 4, .int .i64 (q : Nat), .int .i64 (t : Nat), .int .i64 n] 117)
          have ck := HI.out (HN.out.all HK2.out) (HV.out.all HK2.out) t b2 r (by rw [HE3.out]; exact hT1)
          rw [HE3.out] at ck
          subst h4
          clear e1 e4 hk3 hcut hT1
          generalize (vl (env ns vs) f ys).1 = A at *
          go_wp2_with fail
          refine Calls.mono ck ?_
          rintro e w2 ⟨⟨q2, rfl, hq2, hq3⟩, k2⟩
          clear ck
          obtain ⟨z0, z1, z2, z3⟩ := word_cells (((k2.block w1.heap.size (by simp) trivial).trans HB.out))
          have HK3 : Hid (Kept (fun _ => True) w w2) := HK2.out.trans k2
          have HQ : Hid ((Wo s q2).map Prod.snd = r) := hq3
          clear k2 HB HK2 hq3
          generalize w1.heap.size = G at *
          have ct := fun W b => truth_any (w := W) b
          by_cases ha : A = 0
          · subst ha
            go_wp2_with fail
            refine Calls.mono (ct _ _) ?_
            rintro e w3 ⟨rfl, rfl⟩
            go_wp2_with fail
            go_ret2
            exact ⟨⟨q2, by rw [hV.out]; rfl, hq2, HQ.out⟩, HK3.out⟩
          · have ha' : (A == 0) = false := by simpa using ha
            have hV2 : Hid (V = 0) := by
              show V = 0
              rw [hV.out, decide_eq_false ha]
              rfl
            clear ha
            go_wp2_with fail
            refine Calls.mono (ct _ _) ?_
            rintro e w3 ⟨rfl, rfl⟩
            go_wp2_with fail
            go_ret2
            exact ⟨⟨q2, by rw [hV2.out]; rfl, hq2, HQ.out⟩, HK3.out⟩
        · have hk5 : 5 ≤ k := by omega
          have har : ar (kd x) = 2 := by rw [← e1]; unfold ar; rw [if_neg h4, if_pos hk5]
          obtain ⟨r1, hT1, hT2⟩ := times_two (by have := HT.out; rw [har] at this; exact this)
          have hg1 := gd_vl ns (env ns vs) f ys r1 hT1
          have hV : Hid (V = jn k (vl (env ns vs) f ys).1 (vl (env ns vs) f r1).1) := by
            show V = _
            rw [HV2.out]
            simp only [vl]
            rw [if_neg (by omega), if_neg (by omega), if_neg (by omega), hg1, ← e1]
          have HK2 : Hid _ := HK1.out.alloc (.cells #[.int .i64 (k : Nat), .int .i64 (q : Nat), .int .i64 (t : Nat), .int .i64 n] 117)
          have HB : Hid _ := heap_alloc_new w1 (.cells #[.int .i64 (k : Nat), .int .i64 (q : Nat), .int .i64 (t : Nat), .int .i64 n] 117)
          have ck := HI.out (HN.out.all HK2.out) (HV.out.all HK2.out) t b2 r1 (by rw [HE3.out]; exact hT1)
          rw [HE3.out] at ck
          have HT2 : Hid (gd ns f r1 = .inr r) := hT2
          have g2 : ((k : Int) == 2) = false := by simp; omega
          have g3 : ((k : Int) == 3) = false := by simp; omega
          have g4 : ((k : Int) == 4) = false := by simp; omega
          clear e1 e4 hk3 hcut hT1 hT2 har hg1 h2 h3 h4
          generalize (vl (env ns vs) f ys).1 = A at *
          go_wp2_with fail
          refine Calls.mono ck ?_
          rintro e w2 ⟨⟨q2, rfl, hq2, hq3⟩, k2⟩
          clear ck
          have hB2 := (k2.block w1.heap.size (by simp) trivial).trans HB.out
          obtain ⟨z0, z1, z2, z3⟩ := word_cells hB2
          have HB2 : Hid _ := hB2
          have HK3 : Hid (Kept (fun _ => True) w w2) := HK2.out.trans k2
          have HQ : Hid ((Wo s q2).map Prod.snd = r1) := hq3
          have ck := HI.out (HN.out.all HK3.out) (HV.out.all HK3.out) q2 hq2 r (by rw [HQ.out]; exact HT2.out)
          rw [HQ.out] at ck
          clear k2 HB HK2 hq3 hB2
          generalize w1.heap.size = G at *
          generalize (vl (env ns vs) f r1).1 = B at *
          go_wp2_with fail
          refine Calls.mono ck ?_
          rintro e w3 ⟨⟨q3, rfl, hq3, hq4⟩, k3⟩
          clear ck
          have hG := lt_of_block HB2.out
          have hB3 := (k3.block G hG trivial).trans HB2.out
          clear z0 z1 z2 z3
          obtain ⟨z0, z1, z2, z3⟩ := word_cells hB3
          have HK4 : Hid (Kept (fun _ => True) w w3) := HK3.out.trans k3
          have HQ4 : Hid ((Wo s q3).map Prod.snd = r) := hq4
          have cj := fun W => join_any (w := W) k hk5 b3 A B
          clear k3 hB3 HB2 hq4 hG
          go_wp2_with fail
          refine Calls.mono (cj _) ?_
          rintro e w4 ⟨rfl, rfl⟩
          go_wp2_with fail
          go_ret2
          exact ⟨⟨q3, by rw [hV.out]; rfl, hq3, HQ4.out⟩, HK4.out⟩

/-- What Eval answers. -/
def evl (ns : List (List UInt8)) (vs : List Int) (s : List UInt8) : Int × Nat :=
  if (chk ns s).1 ≠ 0 then (0, (chk ns s).1) else if vs.length < ns.length then (0, 1) else ((vl (env ns vs) 17 (tx s)).1, 0)
theorem rf_lk (ns : List (List UInt8)) (L f : Nat) (ws : List (Nat × List UInt8)) (c q : Nat) (h : lk ns L f ws = .inl (c, q)) : c ≠ 0 := by
  induction f generalizing ws c q with
  | zero =>
    cases ws with
    | nil => simp only [lk, Sum.inl.injEq, Prod.mk.injEq] at h; omega
    | cons p ws =>
      obtain ⟨p, x⟩ := p
      simp only [lk, Sum.inl.injEq, Prod.mk.injEq] at h
      have := rf_small ns x
      split at h <;> omega
  | succ f ih =>
    have ht : ∀ k ws, times (lk ns L f) k ws = .inl (c, q) → c ≠ 0 := by
      intro k
      induction k with
      | zero => intro ws h; simp [times] at h
      | succ k ihk =>
        intro ws h
        simp only [times] at h
        cases hw : lk ns L f ws with
        | inl e =>
          rw [hw] at h
          simp only [Sum.inl.injEq] at h
          subst h
          exact ih ws c q hw
        | inr r =>
          rw [hw] at h
          exact ihk r h
    cases ws with
    | nil => simp only [lk, Sum.inl.injEq, Prod.mk.injEq] at h; omega
    | cons p ws =>
      obtain ⟨p, x⟩ := p
      simp only [lk] at h
      by_cases hr : rf ns x ≠ 0
      · rw [if_pos hr] at h
        simp only [Sum.inl.injEq, Prod.mk.injEq] at h
        omega
      · rw [if_neg hr] at h
        exact ht _ _ h
/-- A guard with which nothing is wrong. -/
theorem chk_gd {ns : List (List UInt8)} {s : List UInt8} : (chk ns s).1 = 0 ↔ s.length ≤ 120 ∧ gd ns 17 (tx s) = .inr [] := by
  by_cases hl : 120 < s.length
  · rw [chk_long hl]
    constructor
    · intro h; cases h
    · intro h; omega
  · have hg := lk_gd ns s.length 17 (Wo s 0)
    rw [Wo_tx] at hg
    cases hk : lk ns s.length 17 (Wo s 0) with
    | inl e =>
      obtain ⟨c, q⟩ := e
      rw [chk_fail hl hk]
      have := rf_lk ns _ _ _ c q hk
      have hg := hg.1 _ hk
      constructor
      · intro h; exact absurd h this
      · intro h; rw [hg] at h; cases h.2
    | inr r =>
      rw [chk_whole hl hk]
      have hg := hg.2 _ hk
      rw [hg]
      cases r with
      | nil => simp [tailOf]; omega
      | cons p r =>
        obtain ⟨p, x⟩ := p
        have := rf_small ns x
        constructor
        · intro h
          simp only [tailOf] at h
          split at h <;> omega
        · intro h
          simp at h

set_option maxRecDepth 100000 in
set_option maxHeartbeats 2000000 in
theorem eval_any {w : World} {v u : Value} {ns : List (List UInt8)} {vs : List Int} (h : Ns w v ns) (hv : Vi w u vs) {s : List UInt8} (hs : s.length ≤ 281474976710656) :
    Calls Tryd.prog 62 #[.string ⟨s.toArray⟩, v, u] w fun e w' => e = .returned (.tuple #[.int .i64 (evl ns vs s).1, .int .i64 ((evl ns vs s).2 : Nat)]) ∧ Kept (fun _ => True) w w' := by
  have HN : Hid (Ns w v ns) := h
  have HV : Hid (Vi w u vs) := hv
  have cc := check_any h hs
  obtain ⟨ao, cap, rfl, -⟩ := h
  obtain ⟨bo, bcap, rfl, -⟩ := hv
  obtain ⟨C, hC⟩ : ∃ C, C = evl ns vs s := ⟨_, rfl⟩
  have HC : Hid (C = evl ns vs s) := hC
  rw [← hC]
  clear hC
  by_cases h0 : (chk ns s).1 = 0
  · have hg := chk_gd.1 h0
    rw [h0] at cc
    by_cases hl : vs.length < ns.length
    · have e1 : Hid (C = (0, 1)) := by
        show C = (0, 1)
        rw [HC.out, evl, if_neg (by omega), if_pos hl]
      have hl' : (vs.length : Int) < (ns.length : Int) := by omega
      clear h0 hg
      generalize (chk ns s).2 = q at *
      go_enter Tryd.func62, Tryd.ntmps62
      go_wp2_with fail
      refine Calls.mono cc ?_
      rintro e w1 ⟨rfl, k1⟩
      clear cc
      go_wp2_with fail
      go_ret2
      exact ⟨by rw [e1.out]; rfl, k1⟩
    · have e1 : Hid (C = ((vl (env ns vs) 17 (tx s)).1, 0)) := by
        show C = _
        rw [HC.out, evl, if_neg (by omega), if_neg hl]
      have hl' : ¬ (vs.length : Int) < (ns.length : Int) := by omega
      have ck := fun W (hk : Kept (fun _ => True) w W) => reckon_any hs (by omega) 17 (HN.out.all hk) (HV.out.all hk) 0 (Nat.zero_le _) [] (by rw [Wo_tx]; exact hg.2)
      rw [Wo_tx] at ck
      clear h0 hg
      generalize (chk ns s).2 = q at *
      generalize (vl (env ns vs) 17 (tx s)).1 = V at *
      go_enter Tryd.func62, Tryd.ntmps62
      go_wp2_with fail
      refine Calls.mono cc ?_
      rintro e w1 ⟨rfl, k1⟩
      clear cc
      have c2 := ck _ k1
      clear ck
      go_wp2_with fail
      refine Calls.mono c2 ?_
      rintro e w2 ⟨⟨q2, rfl, -, -⟩, k2⟩
      go_wp2_with fail
      go_ret2
      exact ⟨by rw [e1.out]; rfl, k1.trans k2⟩
  · have e1 : Hid (C = (0, (chk ns s).1)) := by
      show C = _
      rw [HC.out, evl, if_pos h0]
    generalize (chk ns s).2 = q at *
    generalize (chk ns s).1 = c at *
    have hc : ((c : Int) == 0) = false := by simp; omega
    clear h0
    go_enter Tryd.func62, Tryd.ntmps62
    go_wp2_with fail
    refine Calls.mono cc ?_
    rintro e w1 ⟨rfl, k1⟩
    clear cc
    go_wp2_with fail
    go_ret2
    exact ⟨by rw [e1.out]; rfl, k1⟩

end Go.Proofs.YtnddpalngjmhnaaDoor
