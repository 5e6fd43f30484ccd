/-
  LogPlays.
-/
import Derived.Test.YtmejeiadfcdogaaLPair
import Derived.Deep.CutRange
import Derived.Deep.RegionHeld
namespace Go.Proofs.Ytmejeiadfcdogaa
open Go.RowKit

section
variable {w : World} {L M n : Nat} {x : Lo}
theorem next_to (h : Lm w L M n x) {m : Nat} (k : IsNext x.f x.taken m) :
    Calls Try.prog 13 #[.pointer (some ⟨L, 0, none⟩)] w fun e w' => e = .returned (.int .i64 (m : Nat)) ∧ Kept (fun _ => True) w w' := by
  refine Calls.mono (next_any h) ?_
  rintro e w' ⟨m', rfl, k', q⟩
  rw [k'.unique k]
  exact ⟨rfl, q⟩
theorem gaps_to (h : Lm w L M n x) {m : Nat} (k : IsNext x.f x.taken m) (z : Int) :
    Calls Try.prog 10 #[.pointer (some ⟨L, 0, none⟩), .int .i64 z] w fun e w' => ∃ v, e = .returned v ∧ Its w' w.heap.size v (gapsIn x.f m (min z 512).toNat) ∧ Kept (fun _ => True) w w' := by
  refine Calls.mono (gaps_any h z) ?_
  rintro e w' ⟨m', v, rfl, k', i, q⟩
  rw [k'.unique k] at i
  exact ⟨v, rfl, i, q⟩
theorem take_to (h : Lm w L M n x) {m : Nat} (k : IsNext x.f x.taken m) :
    Calls Try.prog 15 #[.pointer (some ⟨L, 0, none⟩)] w fun e w' => ∃ v, e = .returned v ∧ Txs w' w.heap.size v (vals x.f x.taken m) ∧ Lm w' L M n { x with taken := m } ∧ Kept (fun y => y ≠ L ∧ y ≠ M) w w' := by
  refine Calls.mono (take_any h) ?_
  rintro e w' ⟨m', v, rfl, k', t, h', q⟩
  have e := k'.unique k
  subst e
  exact ⟨v, rfl, t, h', q⟩
end

set_option maxRecDepth 100000 in
set_option maxHeartbeats 8000000 in
theorem logPlays_any {w : World} {a : Option Addr} {na ca : Nat} (ha : IsAsks w a na) :
    Calls Try.prog 4 #[.slice a na ca] w fun e w' => e = .returned (.bool true) ∧ Kept (fun _ => True) w w' := by
  have HS : Hid (IsAsks w a na) := ha
  clear ha
  go_enter Try.func4, Try.ntmps4
  go_wp2_with fail
  refine Calls.mono new_any ?_
  rintro e w1 ⟨L, M, rfl, h1, k1, a1, m1⟩
  have H1 : Hid (LM w w1 L M 0 ⟨0, 0, fun _ => none⟩) := ⟨h1, k1, a1, m1⟩
  clear h1 k1 a1 m1
  go_wp2_with (first
    | (with_reducible refine w_build_ref ?_)
    | ((with_reducible refine w_box_ref ?hx ?hn); (case hx => rfl); intro w2 r2 k2))
  have H2 : Hid (LP w w2 L M 0 w1.heap.size ⟨0, 0, fun _ => none⟩) := ⟨H1.out.ahead k2, r2, H1.out.kept.size⟩
  clear r2 k2 H1
  generalize w1.heap.size = R at *
  go_loopw [5] (fun t wr => ∃ (i n : Nat) (x : Lo), i ≤ 80 ∧ n ≤ i ∧ t = .int .i64 (i : Nat) ∧ LP w wr L M n R x) (fun t _ => 80 - (intOf t).toNat)
  case atStart => exact ⟨0, 0, _, by omega, by omega, rfl, H2.out⟩
  case round =>
    obtain ⟨i, n, x, hi, hn, rfl, hm⟩ := hrel
    have H : Hid (LP w wr L M n R x) := hm
    clear hm H2
    by_cases hlt : i < na ∧ i < 80
    · obtain ⟨b, off, y, rfl, hb, hfit, hy⟩ := ask_at HS.out hlt.1
      have g1 : (i : Int) < (na : Int) := by omega
      have g2 : (i : Int) < 80 := by omega
      have g0 : (0 : Int) ≤ (i : Int) := by omega
      obtain ⟨y0, y1, y2⟩ := hy (fun _ => True) trivial wr H.out.lm.kept
      have HF : Hid (Fit64 y.n) := hfit
      clear hlt hy hb hfit
      obtain ⟨kind, z, v⟩ := y
      simp only at y0 y1 y2 HF
      go_upto_region 9 with fail
      iterate 10 (first | go_values | go_skip | go_guarded | go_step | go_upon | go_back)
      have kX : Kept (fun _ => True) wr (wr.alloc (.cells #[.int .i64 kind, .int .i64 z, .string ⟨v.toArray⟩] 44)) := (Kept.refl _ _).alloc _
      have hX := tri_cell (heap_alloc_new wr (.cells #[.int .i64 kind, .int .i64 z, .string ⟨v.toArray⟩] 44))
      have hXA : Hid (wr.heap.size ≠ L ∧ wr.heap.size ≠ M ∧ wr.heap.size ≠ R) := ⟨Ne.symm (Nat.ne_of_lt H.out.lm.lm.lc.lt), Ne.symm (Nat.ne_of_lt H.out.lm.lm.lc.mlt), Ne.symm (Nat.ne_of_lt H.out.rm.lt)⟩
      have H8 : Hid (LP w _ L M n R x) := H.out.ahead kX
      have F8 : Hid (Tri _ wr.heap.size kind z v) := hX
      clear kX hX H y0 y1 y2
      generalize wr.alloc (.cells #[.int .i64 kind, .int .i64 z, .string ⟨v.toArray⟩] 44) = w8 at *
      generalize wr.heap.size = X0 at *
      go_cut [] from 32 to 74 (fun wx => ∃ (n' : Nat) (x' : Lo), n' ≤ i + 1 ∧ LP w wx L M n' R x' ∧ Tri wx X0 kind z v)
      case first =>
        have kd : Kept (fun y => y ≠ L ∧ y ≠ M ∧ y ≠ R) w8 w8.drew := (Kept.refl _ _).drew
        have T8 : Hid (LP w w8.drew L M n R x) := H8.out.ahead (Kept.refl _ _).drew
        have u1 : ∀ W, Kept (fun y => y ≠ L ∧ y ≠ M ∧ y ≠ R) w8 W → W.cell? ⟨X0, 1, none⟩ = some (.int .i64 z) := fun W k => cell_kept k F8.out.c1 hXA.out
        have u2 : ∀ W, Kept (fun y => y ≠ L ∧ y ≠ M ∧ y ≠ R) w8 W → W.cell? ⟨X0, 2, none⟩ = some (.string ⟨v.toArray⟩) := fun W k => cell_kept k F8.out.c2 hXA.out
        by_cases h1 : kind = 1
        · subst h1
          go_wp2_with fail
          go_region_held (fun W => Kept (fun y => y ≠ L ∧ y ≠ M ∧ y ≠ R) w8 W) (assumption) (first
            | (go_at_call 9; refine Calls.mono (learn_any T8.out.lm.lm (by omega) HF.out v) ?_; rintro e w9 ⟨rfl, h9, k9⟩; have k9' : Kept (fun y => y ≠ L ∧ y ≠ M ∧ y ≠ R) w8 w9 := kd.trans (k9.mono (fun _ _ q => ⟨q.1, q.2.1⟩)); have R9 : Hid (Rm w9 R x) := T8.out.rm.kept k9 T8.out.off; have L9 : Hid (Lm w9 L M _ _) := h9; have K9 : Hid (Kept (fun y => y ≠ L ∧ y ≠ M) w8.drew w9) := k9; clear h9 k9)
            | (go_at_call 21; refine Calls.mono (rlearn_any R9.out z v) ?_; rintro e w10 ⟨rfl, h10, k10⟩; have k10' : Kept (fun y => y ≠ L ∧ y ≠ M ∧ y ≠ R) w8 w10 := k9'.trans (k10.mono (fun _ _ q => q.2.2)); have H10 : Hid (LP w w10 L M _ R _) := T8.out.both L9.out K9.out h10 k10; clear h10 k10))
          all_goals
            go_wp2_with fail
            go_meet
            exact ⟨n + 1, _, by omega, H10.out, F8.out.kept k10' hXA.out⟩
        · have e1 : (kind == 1) = false := by simpa using h1
          by_cases h2 : kind = 2
          · subst h2
            obtain ⟨m, hm⟩ := H8.out.rm.ok.next
            have HM : Hid (IsNext x.f x.taken m) := hm
            have hml : (vals x.f x.taken m).length ≤ 1000000 := by
              have := H8.out.rm.ok.next_le H8.out.rm.ok.most hm
              rw [vals_length]
              omega
            clear hm u1 u2 kd T8
            go_wp2_with fail
            refine Calls.mono (take_to H8.out.lm.lm HM.out) ?_
            rintro e w9 ⟨v9, rfl, t9, h9, k9⟩
            have R9 : Hid (Rm w9 R x) := H8.out.rm.kept k9 H8.out.off
            have T9 : Hid (Txs w9 w8.heap.size v9 (vals x.f x.taken m)) := t9
            have L9 : Hid (LM w w9 L M n { x with taken := m }) := H8.out.lm.step h9 k9
            have F9 : Hid (Tri w9 X0 2 z v) := F8.out.kept k9 ⟨hXA.out.1, hXA.out.2.1⟩
            have r9 : Hid (∀ k, v9.ownBlock = some k → k ≠ R) := fun k hk e => by have := own_ge t9 hk; have := H8.out.rm.lt; omega
            have Q9 : Hid (Lm w9 L M n { x with taken := m } ∧ Kept (fun y => y ≠ L ∧ y ≠ M) w8 w9) := ⟨h9, k9⟩
            clear t9 h9 k9
            go_wp2_with fail
            refine Calls.mono (rtake_any R9.out HM.out) ?_
            rintro e w10 ⟨v10, rfl, t10, h10, k10⟩
            have H10 : Hid (LP w w10 L M n R { x with taken := m }) := H8.out.both Q9.out.1 Q9.out.2 h10 k10
            have F10 : Hid (Tri w10 X0 2 z v) := F9.out.kept k10 hXA.out.2.2
            have T10 : Hid (Txs w10 w8.heap.size v9 (vals x.f x.taken m)) := T9.out.kept k10 r9.out
            have T10' : Hid (Txs w10 w9.heap.size v10 (vals x.f x.taken m)) := t10
            clear t10 h10 k10 T9 R9 L9 F9 Q9 r9
            go_wp2_with fail
            refine Calls.mono (texts_yes T10.out T10'.out hml) ?_
            rintro e w11 ⟨rfl, m11, rfl⟩
            have k11 : Kept (fun _ => True) w10 (w10.drewN m11) := (Kept.refl _ _).drewN _
            go_wp2_with fail
            go_meet
            exact ⟨n, _, by omega, H10.out.ahead k11, F10.out.kept k11 trivial⟩
          · have e2 : (kind == 2) = false := by simpa using h2
            by_cases h3 : kind = 3
            · subst h3
              go_wp2_with fail
              go_region_held (fun W => Kept (fun y => y ≠ L ∧ y ≠ M ∧ y ≠ R) w8 W) (assumption) (first
                | (go_at_call 11; refine Calls.mono (compact_any T8.out.lm.lm z) ?_; rintro e w9 ⟨rfl, h9, k9⟩; have k9' : Kept (fun y => y ≠ L ∧ y ≠ M ∧ y ≠ R) w8 w9 := kd.trans (k9.mono (fun _ _ q => ⟨q.1, q.2.1⟩)); have R9 : Hid (Rm w9 R x) := T8.out.rm.kept k9 T8.out.off; have L9 : Hid (Lm w9 L M _ _) := h9; have K9 : Hid (Kept (fun y => y ≠ L ∧ y ≠ M) w8.drew w9) := k9; clear h9 k9)
                | (go_at_call 23; refine Calls.mono (rcompact_any R9.out z) ?_; rintro e w10 ⟨rfl, h10, k10⟩; have k10' : Kept (fun y => y ≠ L ∧ y ≠ M ∧ y ≠ R) w8 w10 := k9'.trans (k10.mono (fun _ _ q => q.2.2)); have H10 : Hid (LP w w10 L M _ R _) := T8.out.both L9.out K9.out h10 k10; clear h10 k10))
              all_goals
                go_wp2_with fail
                go_meet
                exact ⟨n, _, by omega, H10.out, F8.out.kept k10' hXA.out⟩
            · have e3 : (kind == 3) = false := by simpa using h3
              go_wp2_with fail
              go_region_held (fun W => Kept (fun y => y ≠ L ∧ y ≠ M ∧ y ≠ R) w8 W) (assumption) (first
                | (go_at_call 12; refine Calls.mono (jump_any T8.out.lm.lm z) ?_; rintro e w9 ⟨rfl, h9, k9⟩; have k9' : Kept (fun y => y ≠ L ∧ y ≠ M ∧ y ≠ R) w8 w9 := kd.trans (k9.mono (fun _ _ q => ⟨q.1, q.2.1⟩)); have R9 : Hid (Rm w9 R x) := T8.out.rm.kept k9 T8.out.off; have L9 : Hid (Lm w9 L M _ _) := h9; have K9 : Hid (Kept (fun y => y ≠ L ∧ y ≠ M) w8.drew w9) := k9; clear h9 k9)
                | (go_at_call 24; refine Calls.mono (rjump_any R9.out z) ?_; rintro e w10 ⟨rfl, h10, k10⟩; have k10' : Kept (fun y => y ≠ L ∧ y ≠ M ∧ y ≠ R) w8 w10 := k9'.trans (k10.mono (fun _ _ q => q.2.2)); have H10 : Hid (LP w w10 L M _ R _) := T8.out.both L9.out K9.out h10 k10; clear h10 k10))
              all_goals
                go_wp2_with fail
                go_meet
                exact ⟨n, _, by omega, H10.out, F8.out.kept k10' hXA.out⟩
      case rest =>
      obtain ⟨n', x', hn', h9, hF9⟩ := hcut
      have H9 : Hid (LP w wc L M n' R x') := h9
      have F9 : Hid (Tri wc X0 kind z v) := hF9
      have c1 := get_any h9.lm.lm.lc HF.out
      have c2 := fun W (k : Kept (fun _ => True) wc W) => rget_any (H9.out.ahead k).rm z
      have d1 := hF9.c1
      clear h9 hF9 H8 F8
      generalize (x'.f z).getD [] = gv at *
      generalize (x'.f z).isSome = gb at *
      go_wp2_with fail
      refine Calls.mono c1 ?_
      rintro e w10 ⟨rfl, k10⟩
      have d2 := cell_kept k10 d1 trivial
      clear d1 c1
      go_wp2_with fail
      refine Calls.mono (c2 w10 k10) ?_
      rintro e w10 ⟨rfl, rfl⟩
      have H10 : Hid (LP w w10 L M n' R x') := H9.out.ahead k10
      have F10 : Hid (Tri w10 X0 kind z v) := F9.out.kept k10 trivial
      clear c2 d2 k10 H9 F9
      obtain ⟨m, hm⟩ := H10.out.rm.ok.next
      have HM : Hid (IsNext x'.f x'.taken m) := hm
      have hgl : Hid ((gapsIn x'.f m (min z 512).toNat).length ≤ 1000000) := Nat.le_trans (gapsIn_length _ _ _) (by omega)
      have q1 : ∀ W, Kept (fun _ => True) w10 W → W.cell? ⟨R, 1025, none⟩ = some (.int .i64 (x'.taken : Nat)) := fun W k => (H10.out.ahead k).rm.rl.ct
      have q2 : ∀ W, Kept (fun _ => True) w10 W → W.cell? ⟨R, 1024, none⟩ = some (.int .i64 (x'.base : Nat)) := fun W k => (H10.out.ahead k).rm.rl.cb
      have q3 : ∀ W, Kept (fun _ => True) w10 W → W.cell? ⟨X0, 1, none⟩ = some (.int .i64 z) := fun W k => cell_kept k F10.out.c1 trivial
      have c1 : ∀ W, Kept (fun _ => True) w10 W → Calls Try.prog 13 #[.pointer (some ⟨L, 0, none⟩)] W (fun e w' => e = .returned (.int .i64 (m : Nat)) ∧ Kept (fun _ => True) W w') := fun W k => next_to (H10.out.ahead k).lm.lm HM.out
      have c2 : ∀ W, Kept (fun _ => True) w10 W → Calls Try.prog 26 #[.pointer (some ⟨R, 0, none⟩)] W (fun e w' => e = .returned (.int .i64 (m : Nat)) ∧ w' = W) := fun W k => rnext_at (H10.out.ahead k).rm HM.out
      have c3 : ∀ W, Kept (fun _ => True) w10 W → Calls Try.prog 19 #[.pointer (some ⟨L, 0, none⟩)] W (fun e w' => e = .returned (.int .i64 (x'.taken : Nat)) ∧ w' = W) := fun W k => taken_any (H10.out.ahead k).lm.lm.lc
      have c4 : ∀ W, Kept (fun _ => True) w10 W → Calls Try.prog 18 #[.pointer (some ⟨L, 0, none⟩)] W (fun e w' => e = .returned (.int .i64 (x'.base : Nat)) ∧ w' = W) := fun W k => base_any (H10.out.ahead k).lm.lm.lc
      have c5 : ∀ W, Kept (fun _ => True) w10 W → Calls Try.prog 10 #[.pointer (some ⟨L, 0, none⟩), .int .i64 z] W (fun e w' => ∃ v, e = .returned v ∧ Its w' W.heap.size v (gapsIn x'.f m (min z 512).toNat) ∧ Kept (fun _ => True) W w') := fun W k => gaps_to (H10.out.ahead k).lm.lm HM.out z
      have c6 : ∀ W, Kept (fun _ => True) w10 W → Calls Try.prog 27 #[.pointer (some ⟨R, 0, none⟩), .int .i64 z] W (fun e w' => ∃ v, e = .returned v ∧ Its w' W.heap.size v (gapsIn x'.f m (min z 512).toNat) ∧ Kept (fun _ => True) W w') := fun W k => rgaps_any (H10.out.ahead k).rm HM.out z
      have kd : Kept (fun _ => True) w10 w10.drew := (Kept.refl _ _).drew
      generalize gapsIn x'.f m (min z 512).toNat = gs at *
      clear hm
      go_upto_if 133 with fail
      go_cut [133] from 89 to 132 (fun t wx => t = .bool false ∧ Kept (fun _ => True) w10 wx)
      case first =>
        go_wp2_with fail
        go_region_held (fun W => Kept (fun _ => True) w10 W) (assumption) (first
          | (go_at_call 13; refine Calls.mono (c1 _ kd) ?_; rintro e w11 ⟨rfl, k11⟩; have k11' : Kept (fun _ => True) w10 w11 := kd.trans k11)
          | (go_at_call 26; refine Calls.mono (c2 _ k11') ?_; rintro e w11 ⟨rfl, rfl⟩)
          | (go_at_call 19; refine Calls.mono (c3 _ k11') ?_; rintro e w11 ⟨rfl, rfl⟩)
          | (go_at_call 18; refine Calls.mono (c4 _ k11') ?_; rintro e w11 ⟨rfl, rfl⟩)
          | (go_at_call 10; refine Calls.mono (c5 _ k11') ?_; rintro e w14 ⟨v14, rfl, i14, k14⟩; have k14' : Kept (fun _ => True) w10 w14 := k11'.trans k14)
          | (go_at_call 27; refine Calls.mono (c6 _ k14') ?_; rintro e w15 ⟨v15, rfl, i15, k15⟩; have k15' : Kept (fun _ => True) w10 w15 := k14'.trans k15; have i14' := i14.kept k15 (fun _ _ => trivial))
          | (go_at_call 16; refine Calls.mono (isame_any i14' i15 hgl.out) ?_; rintro e w16 ⟨rfl, m16, rfl⟩; have k16' : Kept (fun _ => True) w10 (w15.drewN m16) := k15'.drewN _))
        all_goals (go_wp2_with fail; go_meet; exact ⟨rfl, k16'⟩)
      case rest =>
      obtain ⟨rfl, k17⟩ := hcut
      have H17 : Hid (LP w wc L M n' R x') := H10.out.ahead k17
      clear q1 q2 q3 c1 c2 c3 c4 c5 c6 kd k17 H10 F10 HM hgl
      go_wp2_with fail
      go_roundw
      case rel => exact ⟨i + 1, n', x', by omega, by omega, by go_num, H17.out⟩
      case measure => simp [intOf]; omega
    · have hex : ¬ (i : Int) < (na : Int) ∨ ((i : Int) < (na : Int) ∧ ¬ (i : Int) < 80) := by omega
      clear HS hlt
      rcases hex with hex | hex
      all_goals
        go_wp2_with fail
        refine Calls.mono known_any ?_
        rintro e w9 ⟨rfl, k9⟩
        go_wp2
        go_ret
        exact ⟨rfl, H.out.lm.kept.trans k9⟩

end Go.Proofs.Ytmejeiadfcdogaa
