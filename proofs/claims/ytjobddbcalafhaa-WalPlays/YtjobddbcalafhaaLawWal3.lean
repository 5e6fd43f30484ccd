/-
  WalPlays.
-/
import Derived.Test.YtjobddbcalafhaaWApp
import Derived.Deep.RegionHeld3
import Derived.Test.YtjobddbcalafhaaWRef
namespace Go.Proofs.Ytjobddbcalafhaa
open Go.RowKit

theorem tcut_to (s : List UInt8) (m : Nat) : ∃ R : List UInt8, R.length ≤ m ∧ (((m : Int) < (s.length : Int) ∧ ∀ w0, (Instr.slice 9 (.string ⟨s.toArray⟩) none (some (.int .i64 (m : Int))) none).run Try.prog w0 = .ok (.string ⟨R.toArray⟩) w0) ∨ (¬ (m : Int) < (s.length : Int) ∧ R = s)) := by
  by_cases h : m < s.length
  · exact ⟨s.take m, by rw [List.length_take]; omega, .inl ⟨by omega, tcut s m (by omega)⟩⟩
  · exact ⟨s, by omega, .inr ⟨by omega, rfl⟩⟩

/-- The Log's disk holds the frames fs. -/
structure Run (w0 w : World) (L B : Nat) (v tv : Value) (fs : List (Bool × List UInt8)) (s : Nat) : Prop where
  lm : LM w0 w L B v tv (wbytes fs) s (stateFrom [] fs)
  short : ∀ x ∈ fs, x.2.length ≤ 200

theorem Run.fits {w0 w : World} {L B : Nat} {v tv : Value} {fs : List (Bool × List UInt8)} {s : Nat} (h : Run w0 w L B v tv fs s) : Fits fs := fun x hx => Nat.le_trans (h.short x hx) (by decide)
theorem Run.ahead {w0 w w' : World} {L B : Nat} {v tv : Value} {fs : List (Bool × List UInt8)} {s : Nat} (h : Run w0 w L B v tv fs s) (k : Kept (fun _ => True) w w') : Run w0 w' L B v tv fs s := ⟨h.lm.ahead k, h.short⟩

set_option maxRecDepth 100000 in
set_option maxHeartbeats 6000000 in
theorem walPlays_any {w : World} {a : Option Addr} {na ca : Nat} (ha : IsAsks w a na) :
    Calls Try.prog 3 #[.slice a na ca] w fun e w' => e = .returned (.bool true) ∧ Kept (fun _ => True) w w' := by
  have HS : Hid (IsAsks w a na) := ha
  clear ha
  go_enter Try.func3, Try.ntmps3
  go_wp2_with fail
  refine Calls.mono new_any ?_
  rintro e w1 ⟨rfl, d1, k1⟩
  have m1 := Mine.new d1 k1
  generalize w.heap.size = B at m1 ⊢
  clear d1 k1
  go_wp2_with fail
  refine Calls.mono (open_any m1.now) ?_
  rintro e w2 ⟨L0, v2, t2, rfl, l2, k2, n2⟩
  have m2 : Hid (Run w w2 L0 B v2 t2 [] 0) := ⟨by have := m1.log l2 k2 n2; rw [run_a] at this; exact this, by simp⟩
  clear l2 k2 n2 m1
  go_wp2_with fail
  go_loopw [4, 5, 6] (fun t _ x wr => ∃ (i s L : Nat) (v tv : Value) (fs : List (Bool × List UInt8)), i ≤ 60 ∧ fs.length ≤ i ∧ t = .pointer (some ⟨L, 0, none⟩) ∧ x = .int .i64 i ∧ Run w wr L B v tv fs s) (fun _ _ x _ => 60 - (intOf x).toNat)
  case atStart => exact ⟨0, 0, L0, v2, t2, [], by omega, by simp, rfl, rfl, m2.out⟩
  case round =>
    obtain ⟨i, s, L, v, tv, fs, hi, hfs, rfl, rfl, h⟩ := hrel
    have H : Hid (Run w wr L B v tv fs s) := h
    clear h m2
    by_cases hlt : i < na ∧ i < 60
    · obtain ⟨b, off, x, rfl, hb, y0, y1, y2, -⟩ := HS.out i hlt.1
      have y0 := cell_kept H.out.lm.kept y0 trivial
      have y1 := cell_kept H.out.lm.kept y1 trivial
      have y2 := cell_kept H.out.lm.kept y2 trivial
      have g1 : (i : Int) < (na : Int) := by omega
      have g2 : (i : Int) < 60 := by omega
      have g0 : (0 : Int) ≤ (i : Int) := by omega
      obtain ⟨kind, keep, bs⟩ := x
      simp only at y0 y1 y2
      obtain ⟨r, hr, hcut'⟩ : ∃ r : List UInt8, r.length ≤ 200 ∧ (((200 : Int) < (bs.length : Int) ∧ ∀ w0, (Instr.slice 9 (.string ⟨bs.toArray⟩) none (some (.int .i64 200)) none).run Try.prog w0 = .ok (.string ⟨r.toArray⟩) w0) ∨ (¬ (200 : Int) < (bs.length : Int) ∧ r = bs)) := tcut_to bs 200
      go_upto_if 46 with fail
      go_cut [] from 43 to 50 (fun wx => wx = wr.alloc (.cells #[.int .i64 kind, .int .i64 keep, .string ⟨r.toArray⟩] 30))
      case first =>
        rcases hcut' with ⟨h1, h2⟩ | ⟨h1, rfl⟩
        all_goals (go_wp2_with fail; go_meet; rfl)
      case rest =>
      subst hcut
      clear y0 y1 y2 hcut'
      go_wp2_with fail
      have kX : Kept (fun _ => True) wr (wr.alloc (.cells #[.int .i64 kind, .int .i64 keep, .string ⟨r.toArray⟩] 30)) := (Kept.refl _ _).alloc _
      have hX := tri_cell (heap_alloc_new wr (.cells #[.int .i64 kind, .int .i64 keep, .string ⟨r.toArray⟩] 30))
      have hXF : Hid (¬ Foot L B v tv wr.heap.size) := fun q => Nat.lt_irrefl _ (H.out.lm.lg.size _ q)
      have H7 : Hid (Run w _ L B v tv fs s) := H.out.ahead kX
      have F7 : Hid (Tri _ wr.heap.size kind keep r) := hX
      clear kX hX H
      generalize wr.alloc (.cells #[.int .i64 kind, .int .i64 keep, .string ⟨r.toArray⟩] 30) = w7 at *
      generalize wr.heap.size = X0 at *
      refine Calls.mono (lall_any H7.out.lm.lg) ?_
      rintro e w8 ⟨rfl, t8, k8⟩
      have hW8 : Hid (¬ Foot L B v tv w7.heap.size) := fun q => Nat.lt_irrefl _ (H7.out.lm.lg.size _ q)
      have H8 : Hid (Run w w8 L B v tv fs s) := H7.out.ahead k8
      have F8 : Hid (Tri w8 X0 kind keep r) := F7.out.kept k8 trivial
      have T8 : Hid (Txs w8 0 (.slice (some ⟨w7.heap.size, 0, none⟩) (stateFrom [] fs).length (stateFrom [] fs).length) (stateFrom [] fs)) := t8.lower (Nat.zero_le _)
      have F7' := F7
      have hWw : Hid (w.heap.size ≤ w7.heap.size) := H7.out.lm.kept.size
      clear t8 k8 H7 F7
      have hXW : Hid (X0 ≠ w7.heap.size) := Nat.ne_of_lt (World.block_lt_of_cell? w7 _ F7'.out.c0)
      clear F7'
      generalize w7.heap.size = W0 at *
      have hR : Hid (r.length ≤ 200) := hr
      have hfl : Hid ((wbytes fs).length ≤ 12540) := Nat.le_trans (wbytes_short fs H8.out.short) (by omega)
      clear hr
      have z0 := F8.out.c0
      go_upto_region 12 with fail
      iterate 10 (first | go_values | go_skip | go_guarded | go_step | go_upon | go_back)
      go_cut [4, 5, 9, 10] from 55 to 133 (fun t _ _ _ wx => ∃ (s' L' : Nat) (v' tv' : Value) (fs' : List (Bool × List UInt8)), fs'.length ≤ i + 1 ∧ t = .pointer (some ⟨L', 0, none⟩) ∧ Run w wx L' B v' tv' fs' s')
      case first =>
        clear z0
        by_cases h1 : kind = 1
        · subst h1
          have kd : Kept (fun x => ¬ Foot L B v tv x ∧ x ≠ W0) w8 w8.drew := (Kept.refl _ _).drew
          have Hd : Hid (Run w w8.drew L B v tv fs s) := H8.out.ahead (Kept.refl _ _).drew
          have hl12 := hfl.out
          have hr2 := hR.out
          have cr := lappend_any Hd.out.lm.lg r (by omega) (by omega)
          have u2 : ∀ W, Kept (fun x => ¬ Foot L B v tv x ∧ x ≠ W0) w8 W → W.cell? ⟨X0, 2, none⟩ = some (.string ⟨r.toArray⟩) := fun W k => cell_kept k F8.out.c2 ⟨hXF.out, hXW.out⟩
          have hst : (stateFrom [] fs).length ≤ 100 := Nat.le_trans (state_few fs []) (by simp; omega)
          have hW0 : Hid (W0 < w8.heap.size) := by
            rcases T8.out.2 with ⟨q, _⟩ | ⟨g, c, cur, q, _, hg, _⟩
            · simp at q
            · simp at q
              show W0 < _
              rw [q.1]
              exact lt_of_block hg
          have HFS : Hid (LM w w8.drew L B v tv (wbytes fs) s (stateFrom [] fs)) := Hd.out.lm
          clear hl12 hr2
          generalize hstf : stateFrom [] fs = st at *
          go_wp2_with fail
          go_region_held3 (fun W => Kept (fun x => ¬ Foot L B v tv x ∧ x ≠ W0) w8 W) (first | assumption | exact Kept.alloc (by assumption) _) (first
            | (go_at_call 7; refine Calls.mono cr ?_; rintro e w9 ⟨rfl, v9, t9, l9, m9⟩; have k9 : Kept (fun x => ¬ Foot L B v tv x ∧ x ≠ W0) w8 w9 := kd.trans (m9.kept.mono (fun _ _ q => q.1)); have H9 : Hid (LM w w9 L B v9 t9 (wbytes fs ++ frameOf false r) s (st ++ [r])) := HFS.out.step l9 m9; have hF9 : Hid (∀ x, Foot L B v9 t9 x → x ≠ W0) := (fun x hx e => by rcases m9.new x hx with q | q; exact hW8.out (e ▸ q); have := hW0.out; have : w8.drew.heap.size = w8.heap.size := rfl; omega); have W9 : Hid (Txs w9 0 (.slice (some ⟨W0, 0, none⟩) st.length st.length) st) := (T8.out.kept (p := fun _ => True) (Kept.refl _ _).drew (fun _ _ => trivial)).kept m9.kept (fun x hx => by simp [Value.ownBlock] at hx; rw [← hx]; exact hW8.out); have hs9 : Hid (W0 < w9.heap.size) := Nat.lt_of_lt_of_le hW0.out k9.size; have cA := fun W (k : Kept (· ≠ W0) w9 W) => lall_any (H9.out.lg.kept k hF9.out))
            | (go_at_call 6; refine Calls.mono (cA _ k12) ?_; rintro e w10 ⟨rfl, t10, k10⟩; have t10z := t10.lower (Nat.zero_le _); have t12z := t12.kept k10 (fun _ _ => trivial); have kE : Kept (· ≠ W0) w9 w10 := k12.trans (k10.mono (fun _ _ _ => trivial)); have kS : Kept (fun x => ¬ Foot L B v tv x ∧ x ≠ W0) w8 w10 := k9.trans (kE.mono (fun _ _ q => q.2)))
            | (go_at_call 6; refine Calls.mono (cA _ (by first | exact Kept.refl _ _ | exact (Kept.refl _ _).alloc _)) ?_; rintro e w10 ⟨rfl, t10, k10⟩; have t10z := t10.lower (Nat.zero_le _); have kT : Kept (fun _ => True) w9 w10 := Kept.trans (by first | exact Kept.refl _ _ | exact (Kept.refl _ _).alloc _) k10; have kS : Kept (fun x => ¬ Foot L B v tv x ∧ x ≠ W0) w8 w10 := k9.trans (kT.mono (fun _ _ _ => trivial)))
            | (refine step_append_text_w ?_ (.tmp 100) (.tmp 103) ?_ 0 (.slice (some ⟨W0, 0, none⟩) st.length st.length) st ?_ ((W9.out.kept kT (fun _ _ => trivial)).kept ((Kept.refl (fun _ => True) _).alloc _) (fun _ _ => trivial)) (Nat.zero_le _) w10.heap.size ?_ r (0, 0) (heap_alloc_new w10 _) (by omega) ?_; rfl; rfl; rfl; rfl; intro ao12 c12 w12 t12 hg12 hl12; have k12 : Kept (· ≠ W0) w9 w12 := ((kT.mono (fun _ _ _ => trivial)).alloc _).grown hg12 (fun k _ e hk => by simp [Value.ownBlock] at e; exact hk e.symm); have t10y := (t10z.kept ((Kept.refl (fun _ => True) _).alloc _) (fun _ _ => trivial)).kept (Kept.grown (p := (· ≠ W0)) (Kept.refl _ _) hg12 (fun k _ e hk => by simp [Value.ownBlock] at e; exact hk e.symm)) (fun x hx => by simp [Value.ownBlock] at hx; have := hs9.out; omega); have kS2 : Kept (fun x => ¬ Foot L B v tv x ∧ x ≠ W0) w8 w12 := k9.trans (k12.mono (fun _ _ q => q.2)))
            | (refine step_append_text_w ?_ (.tmp 100) (.tmp 103) ?_ 0 (.slice (some ⟨W0, 0, none⟩) st.length st.length) st ?_ (W9.out.kept kT (fun _ _ => trivial)) (Nat.zero_le _) w9.heap.size ?_ r (0, 0) ((k10.block _ (lt_of_block (heap_alloc_new w9 (.cells #[.string ⟨r.toArray⟩] 9))) trivial).trans (heap_alloc_new w9 _)) (by omega) ?_; rfl; rfl; rfl; rfl; intro ao12 c12 w12 t12 hg12 hl12; have k12 : Kept (· ≠ W0) w9 w12 := (kT.mono (fun _ _ _ => trivial)).grown hg12 (fun k _ e hk => by simp [Value.ownBlock] at e; exact hk e.symm); have t10y := t10z.kept (Kept.grown (p := (· ≠ W0)) (Kept.refl _ _) hg12 (fun k _ e hk => by simp [Value.ownBlock] at e; exact hk e.symm)) (fun x hx => by simp [Value.ownBlock] at hx; have := hs9.out; omega); have kS2 : Kept (fun x => ¬ Foot L B v tv x ∧ x ≠ W0) w8 w12 := k9.trans (k12.mono (fun _ _ q => q.2)))
            | (refine step_append_text_w ?_ (.tmp 100) (.tmp 103) ?_ 0 (.slice (some ⟨W0, 0, none⟩) st.length st.length) st ?_ (W9.out.kept ((Kept.refl (fun _ => True) _).alloc _) (fun _ _ => trivial)) (Nat.zero_le _) w9.heap.size ?_ r (0, 0) (heap_alloc_new w9 _) (by omega) ?_; rfl; rfl; rfl; rfl; intro ao12 c12 w12 t12 hg12 hl12; have k12 : Kept (· ≠ W0) w9 w12 := ((Kept.refl _ _).alloc _).grown hg12 (fun k _ e hk => by simp [Value.ownBlock] at e; exact hk e.symm); have kS2 : Kept (fun x => ¬ Foot L B v tv x ∧ x ≠ W0) w8 w12 := k9.trans (k12.mono (fun _ _ q => q.2)))
            | (go_at_call 8; refine Calls.mono (texts_any (b1 := 0) (xs := st ++ [r]) (by simpa using t10y) t12 (by simp; omega)) ?_; rintro e w13 ⟨rfl, m13, rfl⟩; have kF : Kept (· ≠ W0) w9 (w12.drewN m13) := k12.drewN _; have kS3 : Kept (fun x => ¬ Foot L B v tv x ∧ x ≠ W0) w8 (w12.drewN m13) := kS2.drewN _)
            | (go_at_call 8; refine Calls.mono (texts_any (b1 := 0) (xs := st ++ [r]) (by simpa using t10z) t12z (by simp; omega)) ?_; rintro e w13 ⟨rfl, m13, rfl⟩; have kF : Kept (· ≠ W0) w9 (w10.drewN m13) := kE.drewN _; have kS3 : Kept (fun x => ¬ Foot L B v tv x ∧ x ≠ W0) w8 (w10.drewN m13) := kS.drewN _))
          all_goals
            go_wp2_with fail
            go_meet
            refine ⟨s, L, v9, t9, fs ++ [(false, r)], by simp; omega, rfl, ⟨?_, ?_⟩⟩
            · rw [wbytes_snoc, state_snoc, hstf]
              exact ⟨H9.out.lg.kept kF hF9.out, H9.out.kept.then kF (fun i hi _ => by have := hWw.out; omega), H9.out.own⟩
            · intro x hx
              rcases List.mem_append.1 hx with h | h
              · exact H8.out.short x h
              · rw [List.mem_singleton.1 h]; exact hR.out
        · have e1 : (kind == 1) = false := by simpa using h1
          by_cases h2 : kind = 2
          · subst h2
            have kd : Kept (fun x => ¬ Foot L B v tv x) w8 w8.drew := (Kept.refl _ _).drew
            have Hd : Hid (Run w w8.drew L B v tv fs s) := H8.out.ahead (Kept.refl _ _).drew
            have hl12 := hfl.out
            have hr2 := hR.out
            have cr := lreset_any Hd.out.lm.lg r (by omega) (by omega)
            have u2 : ∀ W, Kept (fun x => ¬ Foot L B v tv x) w8 W → W.cell? ⟨X0, 2, none⟩ = some (.string ⟨r.toArray⟩) := fun W k => cell_kept k F8.out.c2 hXF.out
            clear hl12 hr2
            go_wp2_with fail
            go_region_held (fun W => Kept (fun x => ¬ Foot L B v tv x) w8 W) (first | assumption | exact Kept.alloc (by assumption) _) (first
              | (go_at_call 9; refine Calls.mono cr ?_; rintro e w9 ⟨rfl, v9, t9, l9, m9⟩; have k9 : Kept (fun x => ¬ Foot L B v tv x) w8 w9 := kd.trans m9.kept; have H9 : Hid (LM w w9 L B v9 t9 (wbytes fs ++ frameOf true r) s [r]) := Hd.out.lm.step l9 m9; have cA := fun W (k : Kept (fun _ => True) w9 W) => lall_any (H9.out.ahead k).lg)
              | (go_at_call 6; refine Calls.mono (cA _ (by first | exact Kept.refl _ _ | exact (Kept.refl _ _).alloc _)) ?_; rintro e w10 ⟨rfl, t10, k10⟩; have t10z := t10.lower (Nat.zero_le _); have k10' : Kept (fun x => ¬ Foot L B v tv x) w8 w10 := Kept.trans (by first | assumption | exact Kept.alloc (by assumption) _) (k10.mono (fun _ _ _ => trivial)); have H10 : Hid (LM w w10 L B v9 t9 (wbytes fs ++ frameOf true r) s [r]) := LM.ahead H9.out (Kept.trans (by first | exact Kept.refl _ _ | exact (Kept.refl _ _).alloc _) k10))
              | (go_at_call 8; refine Calls.mono (texts_any (t10z.kept ((Kept.refl (fun _ => True) _).alloc _) (fun _ _ => trivial)) (Txs.one w10 0 r (Nat.zero_le _)) (by simp)) ?_; rintro e w11 ⟨rfl, m11, rfl⟩; have H11 : Hid (LM w ((w10.alloc (.cells #[.string ⟨r.toArray⟩] 9)).drewN m11) L B v9 t9 (wbytes fs ++ frameOf true r) s [r]) := H10.out.ahead (((Kept.refl _ _).alloc _).drewN _); have k11 : Kept (fun x => ¬ Foot L B v tv x) w8 ((w10.alloc (.cells #[.string ⟨r.toArray⟩] 9)).drewN m11) := (k10'.alloc _).drewN _)
              | (go_at_call 8; refine Calls.mono (texts_any (b1 := 0) (xs := [r]) (by simpa using t10z) ((Txs.one w9 0 r (Nat.zero_le _)).kept k10 (fun _ _ => trivial)) (by simp)) ?_; rintro e w11 ⟨rfl, m11, rfl⟩; have H11 : Hid (LM w (w10.drewN m11) L B v9 t9 (wbytes fs ++ frameOf true r) s [r]) := H10.out.ahead ((Kept.refl _ _).drewN _); have k11 : Kept (fun x => ¬ Foot L B v tv x) w8 (w10.drewN m11) := k10'.drewN _))
            all_goals
              go_wp2_with fail
              go_meet
              refine ⟨s, L, v9, t9, fs ++ [(true, r)], by simp; omega, rfl, ⟨?_, ?_⟩⟩
              · rw [wbytes_snoc, state_snoc]
                exact H11.out
              · intro x hx
                rcases List.mem_append.1 hx with h | h
                · exact H8.out.short x h
                · rw [List.mem_singleton.1 h]; exact hR.out
          · have e2 : (kind == 2) = false := by simpa using h2
            by_cases h3 : kind = 3
            · subst h3
              have z0 := F8.out.c0
              go_wp2_with fail
              refine Calls.mono (lsync_any H8.out.lm.lg) ?_
              rintro e w9 ⟨rfl, l9, m9⟩
              have H9 : Hid (Run w w9 L B v tv fs (wbytes fs).length) := ⟨H8.out.lm.step l9 m9, H8.out.short⟩
              clear l9 m9 z0
              go_wp2_with fail
              refine Calls.mono (safe_any H9.out.lm.lg.dk) ?_
              rintro e w10 ⟨rfl, rfl⟩
              go_wp2_with fail
              refine Calls.mono (bytes_any H9.out.lm.lg.dk) ?_
              rintro e w11 ⟨rfl, -, k11⟩
              have hl11 := hfl.out
              have H11 : Hid (Run w w11 L B v tv fs (wbytes fs).length) := H9.out.ahead k11
              clear k11 H9
              generalize hwl : (wbytes fs).length = N at *
              go_wp2_with fail
              go_meet
              exact ⟨N, L, v, tv, fs, by omega, rfl, H11.out⟩
            · have e3 : (kind == 3) = false := by simpa using h3
              have z0 := F8.out.c0
              have z1 := F8.out.c1
              go_wp2_with fail
              refine Calls.mono (crash_any H8.out.lm.lg.dk keep) ?_
              rintro e w9 ⟨rfl, v9, s9⟩
              have M9 := H8.out.lm.disk.step s9
              have hsc := scan_torn fs (left (wbytes fs).length s keep) H8.out.fits
              have hle := scanOf_le ((wbytes fs).take (left (wbytes fs).length s keep))
              have hcut2 : ((wbytes fs).take (left (wbytes fs).length s keep)).take (wbytes (fs.take (wholeOf fs (left (wbytes fs).length s keep)))).length = wbytes (fs.take (wholeOf fs (left (wbytes fs).length s keep))) := by
                rw [hsc] at hle
                simp only [List.length_take] at hle
                rw [List.take_take, Nat.min_eq_left (by omega), wbytes_front]
              have hbl : ((wbytes fs).take (left (wbytes fs).length s keep)).length ≤ 12540 := by
                rw [List.length_take]
                have := hfl.out
                omega
              generalize wholeOf fs (left (wbytes fs).length s keep) = q at *
              generalize hbb : (wbytes fs).take (left (wbytes fs).length s keep) = bb at *
              generalize left (wbytes fs).length s keep = K at *
              clear s9 z0 z1 hbb
              have HM9 : Hid (Mine 44 w w9 B v9 bb K) := M9
              have hq : Hid ((fs.take q).length ≤ i + 1) := by show _ ≤ _; rw [List.length_take]; omega
              have hsq : Hid (∀ x ∈ fs.take q, x.2.length ≤ 200) := fun x hx => H8.out.short x (List.mem_of_mem_take hx)
              generalize fs.take q = gs at *
              clear M9 hle
              go_wp2_with fail
              refine Calls.mono (bytes_any HM9.out.now) ?_
              rintro e w10 ⟨rfl, b10, k10⟩
              have HM10 : Hid (Mine 44 w w10 B v9 bb K) := HM9.out.ahead k10
              have cs := rscan_any (View.block b10 (by omega)) (by omega)
              rw [hsc] at cs
              clear b10 k10 HM9
              go_wp2_with fail
              refine Calls.mono cs ?_
              rintro e w11 ⟨v11, rfl, t11, k11⟩
              obtain ⟨a11, c11, rfl, -, -⟩ := t11.shape
              have HM11 : Hid (Mine 44 w w11 B v9 bb K) := HM10.out.ahead k11
              have T11 : Hid (Txs w11 0 (.slice a11 (stateFrom [] gs).length c11) (stateFrom [] gs)) := t11.lower (Nat.zero_le _)
              clear t11 k11 HM10 cs
              have co := open_any HM11.out.now
              rw [hsc] at co
              simp only [hcut2] at co
              go_wp2_with fail
              refine Calls.mono co ?_
              rintro e w12 ⟨L', v12, t12, rfl, l12, k12, n12⟩
              have H12 : Hid (Run w w12 L' B v12 t12 gs _) := ⟨HM11.out.log l12 k12 n12, hsq.out⟩
              have T12 : Hid (Txs w12 0 (.slice a11 (stateFrom [] gs).length c11) (stateFrom [] gs)) := T11.out.kept k12 (fun x hx => by
                obtain ⟨cur, fr, hh⟩ := own_type T11.out hx
                refine ⟨fun e => ?_, fun e => ?_⟩
                · have := HM11.out.now.self.symm.trans (e ▸ hh)
                  simp at this
                · obtain ⟨cur', fr', hh'⟩ := own_type HM11.out.now.own e
                  have := hh.symm.trans hh'
                  simp at this)
              have hst : (stateFrom [] gs).length ≤ 100 := Nat.le_trans (state_few gs []) (by have := hq.out; simp; omega)
              clear l12 k12 n12 HM11 T11 co hcut2 hsc
              go_wp2_with fail
              refine Calls.mono (lall_any H12.out.lm.lg) ?_
              rintro e w13 ⟨rfl, t13, k13⟩
              have H13 : Hid (Run w w13 L' B v12 t12 gs _) := H12.out.ahead k13
              have T13 := T12.out.kept k13 (fun _ _ => trivial)
              have ct := texts_any t13 T13 (by omega)
              rw [decide_eq_true rfl] at ct
              clear k13 H12 T12 t13 T13
              go_wp2_with fail
              refine Calls.mono ct ?_
              rintro e w14 ⟨rfl, m14, rfl⟩
              have H14 : Hid (Run w (w13.drewN m14) L' B v12 t12 gs _) := H13.out.ahead ((Kept.refl _ _).drewN _)
              clear H13 ct
              go_wp2_with fail
              refine Calls.mono (bytes_any H14.out.lm.lg.dk) ?_
              rintro e w15 ⟨rfl, -, k15⟩
              have H15 : Hid (Run w w15 L' B v12 t12 gs _) := H14.out.ahead k15
              clear H14 k15
              generalize hwl : (wbytes gs).length = N at *
              go_wp2_with fail
              go_meet
              exact ⟨_, L', v12, t12, gs, hq.out, rfl, H15.out⟩
      case rest =>
      clear z0
      obtain ⟨s', L', v', tv', fs', hf', rfl, h9⟩ := hcut
      have H9 : Hid (Run w wc L' B v' tv' fs' s') := h9
      have hsc := wbytes_scan fs' h9.fits
      have hbl : (wbytes fs').length ≤ 12749 := Nat.le_trans (wbytes_short fs' h9.short) (by omega)
      have hst : (stateFrom [] fs').length ≤ 100 := Nat.le_trans (state_few fs' []) (by simp; omega)
      clear h9 H8 F8 T8 hXF hW8 hfl hR
      go_wp2_with fail
      refine Calls.mono (bytes_any H9.out.lm.lg.dk) ?_
      rintro e w10 ⟨rfl, b10, k10⟩
      have cs := rscan_any (View.block b10 (by omega)) (by omega)
      rw [hsc] at cs
      have H10 : Hid (Run w w10 L' B v' tv' fs' s') := H9.out.ahead k10
      clear b10 k10 H9
      go_wp2_with fail
      refine Calls.mono cs ?_
      rintro e w11 ⟨v11, rfl, t11, k11⟩
      obtain ⟨a11, c11, rfl, -, -⟩ := t11.shape
      have H11 : Hid (Run w w11 L' B v' tv' fs' s') := H10.out.ahead k11
      have T11 : Hid (Txs w11 0 (.slice a11 (stateFrom [] fs').length c11) (stateFrom [] fs')) := t11.lower (Nat.zero_le _)
      clear t11 k11 H10 cs
      go_wp2_with fail
      refine Calls.mono (bytes_any H11.out.lm.lg.dk) ?_
      rintro e w12 ⟨rfl, -, k12⟩
      have H12 : Hid (Run w w12 L' B v' tv' fs' s') := H11.out.ahead k12
      have T12 : Hid (Txs w12 0 (.slice a11 (stateFrom [] fs').length c11) (stateFrom [] fs')) := T11.out.kept k12 (fun _ _ => trivial)
      clear k12 H11 T11
      generalize hwl : (wbytes fs').length = N at *
      go_wp2_with fail
      refine Calls.mono (lall_any H12.out.lm.lg) ?_
      rintro e w13 ⟨rfl, t13, k13⟩
      have H13 : Hid (Run w w13 L' B v' tv' fs' s') := H12.out.ahead k13
      have T13 := T12.out.kept k13 (fun _ _ => trivial)
      have ct := texts_any T13 t13 (by omega)
      rw [decide_eq_true rfl] at ct
      clear k13 H12 T12 t13 T13
      go_wp2_with fail
      refine Calls.mono ct ?_
      rintro e w14 ⟨rfl, m14, rfl⟩
      have H14 : Hid (Run w (w13.drewN m14) L' B v' tv' fs' s') := H13.out.ahead ((Kept.refl _ _).drewN _)
      clear H13 ct
      go_wp2_with fail
      refine Calls.mono (llen_any H14.out.lm.lg) ?_
      rintro e w15 ⟨rfl, rfl⟩
      go_wp2_with fail
      go_roundw
      case rel => exact ⟨i + 1, s', L', v', tv', fs', by omega, hf', rfl, by go_num, H14.out⟩
      case measure => simp [intOf]; omega
    · have hex : ¬ (i : Int) < (na : Int) ∨ ((i : Int) < (na : Int) ∧ ¬ (i : Int) < 60) := by omega
      clear HS hlt
      rcases hex with hex | hex
      all_goals
        go_wp2_with fail
        refine Calls.mono known_any ?_
        rintro e w9 ⟨rfl, k9⟩
        go_wp2
        go_ret
        exact ⟨rfl, H.out.lm.kept.trans k9⟩

end Go.Proofs.Ytjobddbcalafhaa
