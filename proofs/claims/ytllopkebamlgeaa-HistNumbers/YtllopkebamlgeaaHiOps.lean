/-
  hist.Ops: the calls that events tell.
-/
import Derived.Test.YtllopkebamlgeaaHiRow
import Derived.Test.YtllopkebamlgeaaMGz
namespace Go.Proofs.Ytllopkebamlgeaa
open Go.RowKit Go.Maps Go.Sort

/-- What hist.Ops answers. -/
def EOps (es : List Pe) (w : World) (e : Ending) (w' : World) : Prop :=
  ((∃ j : Nat, runP noP 0 es = .stops j ∧ e = .returned (.tuple #[.slice none 0 0, .int .i64 12, .int .i64 j])) ∨
    ∃ (a : Option Addr) (c : Nat) (xs : List Oc), runP noP 0 es = .calls (xs.map Oc.pc) ∧ xs.length ≤ es.length ∧ e = .returned (.tuple #[.slice a xs.length c, .int .i64 0, .int .i64 0]) ∧ Ow opS 35 w' w.heap.size (.slice a xs.length c) xs) ∧ Kept (fun _ => True) w w'
/-- The map of those that wait. -/
def Wt (w : World) (M n : Nat) (f : Int → Option Nat) : Prop := MpI codeI w M n (fun c => (f c).map Int.ofNat)
theorem zero_int (w : World) : (zeroValue 3).run Try.prog w = .ok (codeI.enc 0) w := by kernel_rfl
theorem Wt.look {w : World} {M n : Nat} {f : Int → Option Nat} (h : Wt w M n f) {c : Int} (hc : Fits c) : (Instr.lookup 48 (.map (some M)) (.int .i64 c) true).run Try.prog w = .ok (.tuple #[.int .i64 (((f c).map Int.ofNat).getD 0), .bool (f c).isSome]) w := by
  have := MpI.look h Try.underlying48 (zero_int w) hc
  simpa [codeI] using this
theorem Wt.put {w : World} {M n : Nat} {f : Int → Option Nat} (h : Wt w M n f) {c : Int} (hc : Fits c) (hn : n ≤ 1000000) (q : Nat) :
    ∃ w', (Instr.mapUpdate 48 (.map (some M)) (.int .i64 c) (.int .i64 (q : Nat))).run Try.prog w = .ok () w' ∧ Wt w' M (n + 1) (fun y => if y = c then some q else f y) ∧ Kept (· ≠ M) w w' ∧ w'.heap.size = w.heap.size := by
  obtain ⟨w', h1, h2, h3, h4⟩ := MpI.store h Try.underlying48 hc hn (q : Int)
  refine ⟨w', h1, ?_, h3, h4⟩
  unfold Wt
  have e : (fun y => ((fun y => if y = c then some q else f y) y).map Int.ofNat) = putI (fun c => (f c).map Int.ofNat) c (q : Int) := by
    funext y
    unfold putI
    simp only
    split <;> rfl
  rw [e]
  exact h2
theorem Wt.cut {w : World} {M n : Nat} {f : Int → Option Nat} (h : Wt w M n f) {c : Int} (hc : Fits c) (ty : TypeId) :
    ∃ w', (Builtin.delete_ #[48, 3] ty #[.map (some M), .int .i64 c]).run Try.prog w = .ok (.tuple #[]) w' ∧ Wt w' M n (fun y => if y = c then none else f y) ∧ Kept (· ≠ M) w w' ∧ w'.heap.size = w.heap.size := by
  obtain ⟨w', h1, h2, h3, h4⟩ := MpI.drop h Try.underlying48 hc ty
  refine ⟨w', h1, ?_, h3, h4⟩
  unfold Wt
  have e : (fun y => ((fun y => if y = c then none else f y) y).map Int.ofNat) = cutI (fun c => (f c).map Int.ofNat) c := by
    funext y
    unfold cutI
    simp only
    split <;> rfl
  rw [e]
  exact h2
theorem Bk.seven {w : World} {X : Nat} {t : TypeId} {a b c d e f g : Value} (h : Bk w X t [a, b, c, d, e, f, g]) : w.cell? ⟨X, 0, none⟩ = some a ∧ w.cell? ⟨X, 1, none⟩ = some b ∧ w.cell? ⟨X, 2, none⟩ = some c ∧ w.cell? ⟨X, 3, none⟩ = some d ∧ w.cell? ⟨X, 4, none⟩ = some e ∧ w.cell? ⟨X, 5, none⟩ = some f ∧ w.cell? ⟨X, 6, none⟩ = some g :=
  ⟨cell_of_row _ _ 0 _ _ _ h, cell_of_row _ _ 1 _ _ _ h, cell_of_row _ _ 2 _ _ _ h, cell_of_row _ _ 3 _ _ _ h, cell_of_row _ _ 4 _ _ _ h, cell_of_row _ _ 5 _ _ _ h, cell_of_row _ _ 6 _ _ _ h⟩

set_option maxRecDepth 100000 in
set_option maxHeartbeats 4000000 in
theorem ops_any {w : World} {al : Option Addr} {cap : Nat} {es : List Ev} (h : Vw evS w al es) (hok : ∀ e ∈ es, EvOk w e) (hn : es.length ≤ 1000) :
    Calls Try.prog 7 #[.slice al es.length cap] w fun e w' => EOps (es.map Ev.pe) w e w' := by
  have HC : Hid (Vw evS w al es) := h
  have HE : Hid (∀ e ∈ es, EvOk w e) := hok
  have HN : Hid (es.length ≤ 1000) := hn
  have hmm := @run_makeMap Try.prog
  clear h hok hn
  go_enter Try.func7, Try.ntmps7
  go_upto_region 3 with fail
  obtain ⟨M, hM⟩ : ∃ M, M = w.heap.size := ⟨_, rfl⟩
  obtain ⟨w1, hw1⟩ : ∃ x, x = w.alloc (.map #[] 0) := ⟨_, rfl⟩
  rw [← hw1, ← hM]
  have K1 : Hid (Kept (fun _ => True) w w1) := by rw [hw1]; exact (Kept.refl _ _).alloc _
  have W1 : Hid (Wt w1 M 0 noP.f) := by
    show MpI _ _ _ _ _
    rw [hw1, hM]
    exact MpI.made codeI w
  have HM : Hid (M = w.heap.size ∧ w1.heap.size = M + 1) := ⟨hM, by rw [hw1, heap_size_alloc, hM]⟩
  clear hM hw1 hmm
  go_wp2_with fail
  go_loopw [5, 14] (fun v t wr => ∃ (j : Nat) (s : Ps) (a : Option Addr) (c : Nat) (xs : List Oc), j ≤ es.length ∧ t = .int .i64 j ∧ v = .slice a xs.length c ∧ s.l = xs.map Oc.pc ∧ xs.length ≤ j ∧ runP noP 0 (es.map Ev.pe) = runP s j ((es.drop j).map Ev.pe) ∧ (∃ ts, Inv s j ts) ∧ Ow opS 35 wr (M + 1) (.slice a xs.length c) xs ∧ Wt wr M j s.f ∧ Kept (fun x => x ≠ M) w1 wr) (fun _ t _ => es.length - (intOf t).toNat)
  case atStart => exact ⟨0, noP, none, 0, [], Nat.zero_le _, rfl, rfl, rfl, Nat.le_refl _, rfl, ⟨[], Inv.nil⟩, Ow.nil _ _ _, W1.out, Kept.refl _ _⟩
  case round =>
    obtain ⟨j, s, a, c, xs, hj, rfl, rfl, hs, hxl, hrun, ⟨ts, hinv⟩, hO, hW, hk⟩ := hrel
    obtain ⟨wB, hwB⟩ : ∃ x, x = wr := ⟨_, rfl⟩
    rw [← hwB] at hk hO hW ⊢
    clear hwB
    have HS : Hid (s.l = xs.map Oc.pc) := hs
    have HX : Hid (xs.length ≤ j) := hxl
    have HR : Hid (runP noP 0 (es.map Ev.pe) = runP s j ((es.drop j).map Ev.pe)) := hrun
    have HI : Hid (Inv s j ts) := hinv
    have HO : Hid (Ow opS 35 wB (M + 1) (.slice a xs.length c) xs) := hO
    have HW : Hid (Wt wB M j s.f) := hW
    have HK : Hid (Kept (fun x => x ≠ M) w1 wB) := hk
    have KW : Hid (Kept (fun _ => True) w wB) := K1.out.then hk (fun x hx _ => by have := HM.out; omega)
    clear hs hxl hrun hinv hO hW hk W1
    by_cases hlt : j < es.length
    · have HCr : Hid (Vw evS wB al es) := HC.out.all KW.out
      obtain ⟨gb, go, rfl, hgb, hgr⟩ := HCr.out.row (by omega)
      have hr := hgr j hlt
      have m0 : wB.cell? ⟨gb, go + j * 7, none⟩ = some (.int .i64 es[j].k) := hr 0 _ rfl
      have m1 : wB.cell? ⟨gb, go + j * 7 + 1, none⟩ = some (.int .i64 es[j].cl) := hr 1 _ rfl
      have m2 : wB.cell? ⟨gb, go + j * 7 + 2, none⟩ = some (.slice es[j].oa es[j].on es[j].oc) := hr 2 _ rfl
      have m3 : wB.cell? ⟨gb, go + j * 7 + 3, none⟩ = some (.int .i64 es[j].out) := hr 3 _ rfl
      have m4 : wB.cell? ⟨gb, go + j * 7 + 4, none⟩ = some (.slice es[j].ta es[j].tn es[j].tc) := hr 4 _ rfl
      have m5 : wB.cell? ⟨gb, go + j * 7 + 5, none⟩ = some (.int .i64 es[j].ix) := hr 5 _ rfl
      have m6 : wB.cell? ⟨gb, go + j * 7 + 6, none⟩ = some (.int .i64 es[j].why) := hr 6 _ rfl
      have HEo : Hid (EvOk w es[j]) := HE.out _ (List.getElem_mem hlt)
      have HEj : Hid (EvOk wB es[j]) := (HE.out _ (List.getElem_mem hlt)).all KW.out
      have HD : Hid ((es.drop j).map Ev.pe = es[j].pe :: (es.drop (j + 1)).map Ev.pe) := by
        show _ = _
        rw [List.drop_eq_getElem_cons hlt, List.map_cons]
      have HJ : Hid (j < es.length) := hlt
      have i0 : (0 : Int) ≤ (j : Int) := by omega
      have i1 : (j : Int) < (es.length : Int) := by omega
      clear hr hgr hj HCr
      generalize es[j] = e at *
      obtain ⟨k, cl, oa, on, oc, out, ta, tn, tc, ix, why⟩ := e
      simp only at m0 m1 m2 m3 m4 m5 m6
      clear hlt
      obtain ⟨w2, hw2⟩ : ∃ x, x = wB.alloc (.cells #[.int .i64 k, .int .i64 cl, .slice oa on oc, .int .i64 out, .slice ta tn tc, .int .i64 ix, .int .i64 why] 31) := ⟨_, rfl⟩
      have k2 : Kept (fun _ => True) wB w2 := by rw [hw2]; exact (Kept.refl _ _).alloc _
      have F2 : Bk w2 wB.heap.size 31 [.int .i64 k, .int .i64 cl, .slice oa on oc, .int .i64 out, .slice ta tn tc, .int .i64 ix, .int .i64 why] := by rw [hw2]; exact heap_alloc_new wB _
      obtain ⟨f0, f1, f2, f3, f4, f5, f6⟩ := F2.seven
      go_upto_region 6 with fail
      rw [← hw2]
      have HP : Hid (M < wB.heap.size ∧ w2.heap.size = wB.heap.size + 1) := by
        show _ ∧ _
        refine ⟨?_, by rw [hw2, heap_size_alloc]⟩
        have := HM.out
        have := HK.out.size
        omega
      clear hw2 m0 m1 m2 m3 m4 m5 m6
      obtain ⟨P, hP⟩ : ∃ P, P = wB.heap.size := ⟨_, rfl⟩
      rw [← hP] at f0 f1 f2 f3 f4 f5 f6 F2 HP ⊢
      have HF2 : Hid (Bk w2 P 31 [.int .i64 k, .int .i64 cl, .slice oa on oc, .int .i64 out, .slice ta tn tc, .int .i64 ix, .int .i64 why]) := F2
      have HPe : Hid (P = wB.heap.size) := hP
      have HO2 : Hid (Ow opS 35 w2 (M + 1) (.slice a xs.length c) xs) := HO.out.all k2
      have HW2 : Hid (Wt w2 M j s.f) := HW.out.kept k2 trivial
      have HK2 : Hid (Kept (fun x => x ≠ M) w1 w2) := HK.out.trans (k2.mono (fun _ _ _ => trivial))
      have HE2 : Hid (EvOk w2 ⟨k, cl, oa, on, oc, out, ta, tn, tc, ix, why⟩) := HEj.out.all k2
      have lk := HW2.out.look HE2.out.fit
      have HEw : Hid (EvOk w ⟨k, cl, oa, on, oc, out, ta, tn, tc, ix, why⟩) := HEo.out
      have CK : Hid (∀ s', stepP s j ⟨k, cl, out⟩ = some s' → runP noP 0 (es.map Ev.pe) = runP s' (j + 1) ((es.drop (j + 1)).map Ev.pe) ∧ Inv s' (j + 1) (ts ++ [⟨k, cl, out⟩])) := fun s' hs' => by
        refine ⟨?_, HI.out.step hs'⟩
        rw [HR.out, HD.out]
        exact run_step hs'
      have CN : Hid (stepP s j ⟨k, cl, out⟩ = none → runP noP 0 (es.map Ev.pe) = .stops j) := fun hs' => by
        rw [HR.out, HD.out]
        exact run_stop hs'
      have KW2 : Hid (Kept (fun _ => True) w w2) := KW.out.trans k2
      clear F2 hP k2 HO HW HK HEj KW HR HD HEo
      simp only at lk
      generalize hfc : ((s.f cl).map Int.ofNat).getD 0 = qv at lk
      generalize hfb : (s.f cl).isSome = qb at lk
      go_upto_region 8 with fail
      clear lk
      have j1 : (j : Int) + 1 ≤ 9223372036854775807 := by have h1 := HJ.out; have h2 := HN.out; omega
      by_cases hk3 : k = 3
      · subst hk3
        go_wp2_with fail
        go_roundw
        case rel =>
          obtain ⟨h1, h2⟩ := CK.out s (step_skip rfl)
          exact ⟨j + 1, s, a, c, xs, HJ.out, by go_num, rfl, HS.out, by have := HX.out; omega, h1, ⟨_, h2⟩, HO2.out, HW2.out.mono (by omega), HK2.out⟩
        case measure => have := HJ.out; simp [intOf]; omega
      · have b3 : (k == 3) = false := beq_eq_false_iff_ne.2 hk3
        by_cases hk1 : k = 1
        · subst hk1
          clear b3
          by_cases hcl : 0 ≤ cl
          · cases qb with
            | true =>
              have hne : ¬ (cl < 0) := by omega
              go_wp2_with fail
              refine bodyPost_ret (results_tmp3 rfl _ _ _) rfl ?_
              refine ⟨.inl ⟨j, CN.out (step_no (by simp) (fun _ _ h => by rw [h] at hfb; cases hfb) (fun h => by simp at h)), rfl⟩, KW2.out⟩
            | false =>
              have hfn : s.f cl = none := by
                cases hh : s.f cl with
                | none => rfl
                | some q => rw [hh] at hfb; cases hfb
              obtain ⟨w3, hst, hW3, k3, z3⟩ := HW2.out.put HE2.out.fit (by have h1 := HN.out; have h2 := HJ.out; omega) xs.length
              simp only at hst hW3
              obtain ⟨h1, h2⟩ := CK.out _ (step_ask (s := s) (i := j) (e := ⟨1, cl, out⟩) rfl hcl hfn)
              have HR3 : Hid (runP noP 0 (es.map Ev.pe) = runP (s.ask j cl) (j + 1) ((es.drop (j + 1)).map Ev.pe)) := h1
              have HI3 : Hid (Inv (s.ask j cl) (j + 1) (ts ++ [⟨1, cl, out⟩])) := h2
              have HL3 : Hid ((s.ask j cl).l = xs.map Oc.pc ++ [⟨cl, 0, j, -1⟩]) := by show (s.l ++ _) = _; rw [HS.out]
              have HW3 : Hid (Wt w3 M (j + 1) (s.ask j cl).f) := by
                have : (s.ask j cl).f = fun y => if y = cl then some xs.length else s.f y := by
                  unfold Ps.ask
                  simp only
                  rw [HS.out, List.length_map]
                show Wt _ _ _ _
                rw [this]
                exact hW3
              have hk13 : Kept (fun x => x ≠ M) w1 w3 := HK2.out.trans k3
              have HK3 : Hid (Kept (fun x => x ≠ M) w1 w3) := hk13
              have KW3 : Kept (fun _ => True) w w3 := K1.out.then hk13 (fun x hx _ => by have := HM.out; omega)
              have HO3 : Hid (Ow opS 35 w3 (M + 1) (.slice a xs.length c) xs) := HO2.out.kept k3 (fun x hx e => by have := HO2.out.ge hx; omega)
              have F3 : Bk w3 P 31 [.int .i64 1, .int .i64 cl, .slice oa on oc, .int .i64 out, .slice ta tn tc, .int .i64 ix, .int .i64 why] := HF2.out.kept k3 (by have := HP.out; omega)
              have hne : (Value.slice a xs.length c).ownBlock ≠ some P := HO3.out.ne F3 (by decide)
              have HM3 : Hid (M + 1 ≤ w3.heap.size) := by have h1 := HP.out; show _ ≤ _; omega
              have c1 : ∀ W, Kept (fun y => (Value.slice a xs.length c).ownBlock ≠ some y) w3 W → W.cell? ⟨P, 1, none⟩ = some (.int .i64 cl) := fun W hW => (F3.kept hW hne).seven.2.1
              have c2 : ∀ W, Kept (fun y => (Value.slice a xs.length c).ownBlock ≠ some y) w3 W → W.cell? ⟨P, 2, none⟩ = some (.slice oa on oc) := fun W hW => (F3.kept hW hne).seven.2.2.1
              obtain ⟨cs, hfl, hone⟩ := (HEw.out.all KW3).ops
              have CC : ∀ W, Kept (fun _ => True) w3 W → Calls Try.prog 16 #[.slice oa on oc] W fun e w' => ∃ v', e = .returned v' ∧ w'.ownsRow W.heap.size 52 4 v' on cs ∧ Kept (fun _ => True) W w' := fun W hW => clone_ops (hfl.all hW) hone HE2.out.few.1
              clear hW3 k3 z3 h1 h2 hk13 KW3 F3 hne hfl hone hfb hfc hfn
              go_upto_region 11 with fail
              clear hst f0 f1 f2 f3 f4 f5 f6
              refine Gz.begin (fun W => Kept (fun y => (Value.slice a xs.length c).ownBlock ≠ some y) w3 W) (fun _ => false) (by kernel_rfl) ?_
              refine Gz.take (i := 0) (oi := { dst := some 49, op := Op.move (Operand.tmp 5), type := 22, pos := _, after := _, guard := none }) (v := ?_) rfl (by kernel_rfl) (by kernel_rfl) (by kernel_rfl) (by kernel_rfl) (fun _ _ _ h => h) (Or.inl ⟨by rfl, ?hy0⟩) (Kept.refl _ _).drew ?_
              case hy0 => (intro W hSw; (try dsimp only at hSw); go_simp; try with_reducible rfl)
              try simp only [Act.put, List.setIfInBounds_toArray, List.set_cons_zero, List.set_cons_succ]
              refine Gz.take (i := 1) (oi := { dst := some 50, op := Op.fieldAddr 31 (Operand.tmp 8) 1, type := 0, pos := _, after := _, guard := none }) (v := ?_) rfl (by kernel_rfl) (by kernel_rfl) (by kernel_rfl) (by kernel_rfl) (fun _ _ _ h => h) (Or.inl ⟨by rfl, ?hy1⟩) (Kept.refl _ _).drew ?_
              case hy1 => (intro W hSw; (try dsimp only at hSw); go_simp; try with_reducible rfl)
              try simp only [Act.put, List.setIfInBounds_toArray, List.set_cons_zero, List.set_cons_succ]
              refine Gz.take (i := 2) (oi := { dst := some 51, op := Op.load 3 (Operand.tmp 50), type := 3, pos := _, after := _, guard := none }) (v := ?_) rfl (by kernel_rfl) (by kernel_rfl) (by kernel_rfl) (by kernel_rfl) (fun _ _ _ h => h) (Or.inl ⟨by rfl, ?hy2⟩) (Kept.refl _ _).drew ?_
              case hy2 => (intro W hSw; (try dsimp only at hSw); go_simp; try with_reducible rfl)
              try simp only [Act.put, List.setIfInBounds_toArray, List.set_cons_zero, List.set_cons_succ]
              refine Gz.take (i := 3) (oi := { dst := some 52, op := Op.fieldAddr 31 (Operand.tmp 8) 2, type := 0, pos := _, after := _, guard := none }) (v := ?_) rfl (by kernel_rfl) (by kernel_rfl) (by kernel_rfl) (by kernel_rfl) (fun _ _ _ h => h) (Or.inl ⟨by rfl, ?hy3⟩) (Kept.refl _ _).drew ?_
              case hy3 => (intro W hSw; (try dsimp only at hSw); go_simp; try with_reducible rfl)
              try simp only [Act.put, List.setIfInBounds_toArray, List.set_cons_zero, List.set_cons_succ]
              refine Gz.take (i := 4) (oi := { dst := some 53, op := Op.load 26 (Operand.tmp 52), type := 26, pos := _, after := _, guard := none }) (v := ?_) rfl (by kernel_rfl) (by kernel_rfl) (by kernel_rfl) (by kernel_rfl) (fun _ _ _ h => h) (Or.inl ⟨by rfl, ?hy4⟩) (Kept.refl _ _).drew ?_
              case hy4 => (intro W hSw; (try dsimp only at hSw); go_simp; try with_reducible rfl)
              try simp only [Act.put, List.setIfInBounds_toArray, List.set_cons_zero, List.set_cons_succ]
              refine Gz.take (i := 6) (oi := { dst := some 55, op := Op.move (Operand.tmp 7), type := 3, pos := _, after := _, guard := none }) (v := ?_) rfl (by kernel_rfl) (by kernel_rfl) (by kernel_rfl) (by kernel_rfl) (fun _ _ _ h => h) (Or.inl ⟨by rfl, ?hy6⟩) (Kept.refl _ _).drew ?_
              case hy6 => (intro W hSw; (try dsimp only at hSw); go_simp; try with_reducible rfl)
              try simp only [Act.put, List.setIfInBounds_toArray, List.set_cons_zero, List.set_cons_succ]
              refine Gz.one (i := 5) (o := { dst := some 54, op := Op.call { callee := Callee.value (Operand.func 16), args := #[Operand.tmp 53], argTypes := #[26] }, type := 26, pos := _, after := _, guard := none }) (by kernel_rfl) rfl (fun K hK => ?_)
              go_simp
              with_reducible refine Calls.mono (CC _ (Kept.refl _ _).drew) ?_
              rintro e w5 ⟨v5, rfl, ho5, k5⟩
              obtain ⟨a5, c5, rfl, _⟩ := own_form ho5
              have s5 : Kept (fun y => (Value.slice a xs.length c).ownBlock ≠ some y) w3 w5 := (Kept.refl _ _).drew.trans (k5.mono (fun _ _ _ => trivial))
              have t5 : Kept (fun _ => True) w3 w5 := (Kept.refl _ _).drew.trans k5
              clear ho5 k5
              try go_wp2_with fail
              refine hK.out _ _ (fun _ => s5) ?_
              clear hK K
              try simp only [Act.put, List.setIfInBounds_toArray, List.set_cons_zero, List.set_cons_succ]
              refine Gz.take (i := 7) (oi := { dst := some 56, op := Op.build 35 #[(0, Operand.tmp 51), (1, Operand.tmp 54), (3, Operand.tmp 55), (4, Operand.const (Value.int IntKind.i64 (-1)))], type := 35, pos := _, after := _, guard := none }) (v := ?_) rfl (by kernel_rfl) (by kernel_rfl) (by kernel_rfl) (by kernel_rfl) (fun _ _ _ h => h) (Or.inl ⟨by rfl, ?hy7⟩) s5 ?_
              case hy7 => (intro W hSw; (try dsimp only at hSw); go_simp; try with_reducible rfl)
              try simp only [Act.put, List.setIfInBounds_toArray, List.set_cons_zero, List.set_cons_succ]
              refine Gz.one (i := 8) (o := { dst := some 57, op := Op.buildSlice 22 1 #[(0, Operand.tmp 56)], type := 22, pos := _, after := _, guard := none }) (by kernel_rfl) rfl (fun K hK => ?_)
              go_simp
              refine hK.out _ _ (fun _ => s5.alloc _) ?_
              clear hK K
              try simp only [Act.put, List.setIfInBounds_toArray, List.set_cons_zero, List.set_cons_succ]
              refine Gz.one (i := 9) (o := { dst := some 58, op := Op.call { callee := Callee.builtin Builtin.append, args := #[Operand.tmp 49, Operand.tmp 57], argTypes := #[22, 22] }, type := 22, pos := _, after := _, guard := none }) (by kernel_rfl) rfl (fun K hK => ?_)
              refine step_append_one (x := (⟨cl, a5, on, c5, 0, none, 0, 0, 0, 0, j, -1⟩ : Oc)) opT rfl (.tmp 49) (.tmp 57) rfl (M + 1) (.slice a xs.length c) xs rfl (HO3.out.all (t5.alloc _)) (by have h1 := HM3.out; have h2 := (t5.alloc (.cells (occ ⟨cl, a5, on, c5, 0, none, 0, 0, 0, 0, j, -1⟩).toArray 35)).size; exact Nat.le_trans h1 h2) w5.heap.size rfl (0, 0) (heap_alloc_new w5 _) (by have h1 := HX.out; have h2 := HJ.out; have h3 := HN.out; omega) (xs.length + 1) rfl ?_
              intro a7 c7 w7 ho7 hg7 at7
              have k7 : Kept (fun y => (Value.slice a xs.length c).ownBlock ≠ some y) w3 w7 := (s5.alloc _).grown hg7 (fun _ _ e h => h e)
              have HO7 : Hid (Ow opS 35 w7 (M + 1) (.slice a7 (xs.length + 1) c7) (xs ++ [⟨cl, a5, on, c5, 0, none, 0, 0, 0, 0, j, -1⟩])) := ho7
              clear ho7 hg7 at7
              refine hK.out _ _ (fun _ => k7) ?_
              clear hK K
              try simp only [Act.put, List.setIfInBounds_toArray, List.set_cons_zero, List.set_cons_succ]
              refine Gz.take (i := 10) (oi := { dst := some 5, op := Op.assign (Operand.tmp 58), type := 22, pos := _, after := _, guard := none }) (v := ?_) rfl (by kernel_rfl) (by kernel_rfl) (by kernel_rfl) (by kernel_rfl) (fun _ _ _ h => h) (Or.inl ⟨by rfl, ?hy10⟩) k7 ?_
              case hy10 => (intro W hSw; (try dsimp only at hSw); go_simp; try with_reducible rfl)
              try simp only [Act.put, List.setIfInBounds_toArray, List.set_cons_zero, List.set_cons_succ]
              refine Gz.done (by kernel_rfl) ?_ _
              go_wp2_with fail
              go_roundw
              case rel =>
                refine ⟨j + 1, s.ask j cl, a7, c7, xs ++ [⟨cl, a5, on, c5, 0, none, 0, 0, 0, 0, j, -1⟩], HJ.out, by go_num, by rw [List.length_append]; rfl, ?_, ?_, HR3.out, ⟨_, HI3.out⟩, ?_, HW3.out.kept k7 (fun e => by have := HO3.out.ge e; omega), HK3.out.then k7 (fun x hx _ e => by have h1 := HO3.out.ge e; have h2 := HM.out; omega)⟩
                · rw [HL3.out, List.map_append]; rfl
                · rw [List.length_append, List.length_singleton]; have := HX.out; omega
                · rw [List.length_append]; exact HO7.out
              case measure => have := HJ.out; simp [intOf]; omega
          · have hcn : ¬ (0 ≤ cl) := hcl
            go_wp2_with fail
            refine bodyPost_ret (results_tmp3 rfl _ _ _) rfl ?_
            exact ⟨.inl ⟨j, CN.out (step_no (by simp) (fun _ h => by simp only at h; omega) (fun h => by simp at h)), rfl⟩, KW2.out⟩
        · have b1 : (k == 1) = false := beq_eq_false_iff_ne.2 hk1
          by_cases hk2 : k = 2
          · subst hk2
            clear b1 b3
            cases hf : s.f cl with
            | none =>
              obtain rfl : qb = false := by rw [hf] at hfb; exact hfb.symm
              go_wp2_with fail
              refine bodyPost_ret (results_tmp3 rfl _ _ _) rfl ?_
              exact ⟨.inl ⟨j, CN.out (step_no (by simp) (fun h => by simp at h) (fun _ => hf)), rfl⟩, KW2.out⟩
            | some q =>
              obtain rfl : qb = true := by rw [hf] at hfb; exact hfb.symm
              obtain rfl : qv = (q : Int) := by rw [hf] at hfc; exact hfc.symm
              obtain ⟨h1, h2⟩ := CK.out _ (step_tell (s := s) (i := j) (e := ⟨2, cl, out⟩) (q := q) rfl hf)
              have HR3 : Hid (runP noP 0 (es.map Ev.pe) = runP (s.tell j q cl out) (j + 1) ((es.drop (j + 1)).map Ev.pe)) := h1
              have HI3 : Hid (Inv (s.tell j q cl out) (j + 1) (ts ++ [⟨2, cl, out⟩])) := h2
              have hq : q < xs.length := by
                obtain ⟨h3, _⟩ := HI.out.wait cl q hf
                rw [HS.out, List.length_map] at h3
                exact h3
              have HQ : Hid (q < xs.length) := hq
              obtain ⟨ao', cap', hv, _, hg, _⟩ := HO2.out.shape
              obtain ⟨g, rfl⟩ := hg (by omega)
              injection hv with e1 e2 e3
              subst e1 e3
              have HG : Hid (M + 1 ≤ g) := HO2.out.ge rfl
              have hgp : g ≠ P := fun e => HO2.out.ne HF2.out (by decide) (by rw [← e]; rfl)
              have q0 : (0 : Int) ≤ (q : Int) := by omega
              have q1 : (q : Int) < (xs.length : Int) := by omega
              obtain ⟨cs, hfl, hone⟩ := (HEw.out.all KW2.out).texts
              have CP := copied_any out ix why hfl hone HE2.out.few.2
              simp only at CP
              clear h1 h2 hq hg hfl hone hfb hfc
              have CW : ∀ w', Kept (fun _ => True) w2 w' → ∀ i, i < 8 → ∃ u, w'.cell? ⟨g, q * 8 + i, none⟩ = some u := fun w' hk i hi => by
                have h3 : w'.ownsRow (M + 1) 35 8 (.slice (some ⟨g, 0, none⟩) xs.length c) xs.length (opS.row xs) := HO2.out.all hk
                have h5 := HQ.out
                have h4 := h3.cellAt (q * 8 + i) (by omega)
                have h6 : (opS.row xs).length = xs.length * 8 := row_length xs
                rw [List.getElem?_eq_getElem (by omega)] at h4
                exact ⟨_, h4⟩
              have FW : ∀ w', Kept (fun _ => True) w2 w' → ∀ i, w'.frozen? ⟨g, i, none⟩ = false := fun w' hk i => by
                have h3 : w'.ownsRow (M + 1) 35 8 (.slice (some ⟨g, 0, none⟩) xs.length c) xs.length (opS.row xs) := HO2.out.all hk
                exact h3.frozenAt i
              go_upto_region 14 with (go_at_call 17; (with_reducible refine Calls.mono CP ?_); rintro e w4 ⟨⟨a4, c4, rfl⟩, k4⟩; obtain ⟨y2, x2⟩ := CW _ k4 2 (by omega); obtain ⟨y3, x3⟩ := CW _ k4 3 (by omega); obtain ⟨y4, x4⟩ := CW _ k4 4 (by omega); obtain ⟨y5, x5⟩ := CW _ k4 5 (by omega); obtain ⟨y7, x7⟩ := CW _ k4 7 (by omega); have xf := FW _ k4; have K4 : Hid (Kept (fun _ => True) w2 w4) := k4; clear k4 CP CW FW)
              obtain ⟨w5, hw5⟩ : ∃ x, x = (((((w4.setCell ⟨g, q * 8 + 2, none⟩ (.int .i64 out)).setCell ⟨g, q * 8 + 2 + 1, none⟩ (.slice a4 tn c4)).setCell ⟨g, q * 8 + 2 + 2, none⟩ (.int .i64 ix)).setCell ⟨g, q * 8 + 2 + 3, none⟩ (.int .i64 why)).setCell ⟨g, q * 8 + 7, none⟩ (.int .i64 j)) := ⟨_, rfl⟩
              rw [← hw5]
              have hOK := ow_ans (HO2.out.all K4.out) HQ.out out a4 tn c4 ix why j
              have HO5 : Hid (Ow opS 35 w5 (M + 1) (.slice (some ⟨g, 0, none⟩) xs.length c) (xs.modify q (fun x => x.ans out a4 tn c4 ix why j))) := by show Ow _ _ _ _ _ _; rw [hw5]; exact hOK.1
              have k5 : Kept (· ≠ g) w4 w5 := by rw [hw5]; exact hOK.2
              have hmg : M ≠ g := by have := HG.out; omega
              have hmp : M ≠ P := by have := HP.out; omega
              have HW5 : Wt w5 M j s.f := (HW2.out.kept K4.out trivial).kept k5 hmg
              have F5 : Bk w5 P 31 [.int .i64 2, .int .i64 cl, .slice oa on oc, .int .i64 out, .slice ta tn tc, .int .i64 ix, .int .i64 why] := (HF2.out.kept K4.out trivial).kept k5 (fun e => hgp e.symm)
              have p1 := F5.seven.2.1
              obtain ⟨w6, hd, hW6, k6, z6⟩ := HW5.cut HE2.out.fit 0
              simp only at hd
              have HW6 : Hid (Wt w6 M (j + 1) (s.tell j q cl out).f) := by
                have h1 := MpI.mono hW6 (Nat.le_succ j)
                exact h1
              have HK6 : Hid (Kept (fun x => x ≠ M) w1 w6) := (((HK2.out.trans (K4.out.mono (fun _ _ _ => trivial))).then k5 (fun x hx _ e => by have h1 := HM.out; have h2 := HG.out; omega))).trans k6
              have HO6 : Hid (Ow opS 35 w6 (M + 1) (.slice (some ⟨g, 0, none⟩) xs.length c) (xs.modify q (fun x => x.ans out a4 tn c4 ix why j))) := HO5.out.kept k6 (fun x hx e => by have := HO5.out.ge hx; omega)
              clear hw5 hOK k5 hmg HW5 F5 hW6 k6 z6 x2 x3 x4 x5 x7 xf f0 f1 f2 f3 f4 f5 f6 hgp hmp
              go_wp2_with fail
              go_roundw
              case rel =>
                refine ⟨j + 1, s.tell j q cl out, some ⟨g, 0, none⟩, c, xs.modify q (fun x => x.ans out a4 tn c4 ix why j), HJ.out, by go_num, by rw [List.length_modify], ?_, by rw [List.length_modify]; have := HX.out; omega, HR3.out, ⟨_, HI3.out⟩, ?_, HW6.out, HK6.out⟩
                · show s.l.modify q _ = _
                  rw [HS.out, map_modify' Oc.pc (fun x => x.ans out a4 tn c4 ix why j) (fun x => x.told j out) (fun _ => rfl)]
                · rw [List.length_modify]; exact HO6.out
              case measure => have := HJ.out; simp [intOf]; omega
          · have b2 : (k == 2) = false := beq_eq_false_iff_ne.2 hk2
            go_wp2_with fail
            refine bodyPost_ret (results_tmp3 rfl _ _ _) rfl ?_
            exact ⟨.inl ⟨j, CN.out (step_no hk3 (fun h => absurd h hk1) (fun h => absurd h hk2)), rfl⟩, KW2.out⟩
    · obtain rfl : j = es.length := by omega
      clear hlt hj
      go_wp2_with fail
      refine bodyPost_ret (results_tmp3 rfl _ _ _) rfl ?_
      refine ⟨.inr ⟨a, c, xs, ?_, by rw [List.length_map]; exact HX.out, rfl, HO.out.low (by have := HM.out; omega)⟩, KW.out⟩
      rw [HR.out, List.drop_length, List.map_nil, ← HS.out]
      rfl

end Go.Proofs.Ytllopkebamlgeaa
