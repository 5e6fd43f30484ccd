/-
  LogClashes.
-/
import Derived.Test.YtmejeiadfcdogaaL4
import Derived.Test.YtmejeiadfcdogaaLAsks
import Derived.Test.YtmejeiadfcdogaaPArr
import Derived.Test.YtmejeiadfcdogaaSWithin
namespace Go.Proofs.Ytmejeiadfcdogaa
open Go.RowKit

theorem af_af {w : World} {b t m b' t' m' : Nat} {g g' : Nat → Value} (h : Af w b t m g) (h' : Af w b' t' m' g') (ht : t ≠ t') : b ≠ b' := by
  intro q
  subst q
  unfold Af at h h'
  rw [h] at h'
  simp only [Option.some.injEq, Obj.cells.injEq] at h'
  exact ht h'.2.1
theorem LM.af {w0 w : World} {L M n b t m : Nat} {x : Lo} {g : Nat → Value} (h : LM w0 w L M n x) (h' : Af w b t m g) (ht : t ≠ 56) : b ≠ L ∧ b ≠ M := by
  unfold Af at h'
  refine ⟨fun q => ?_, fun q => ?_⟩
  · subst q
    rw [h.lm.lc.self] at h'
    simp only [Option.some.injEq, Obj.cells.injEq] at h'
    exact ht h'.2.1.symm
  · subst q
    obtain ⟨es, clock, hb⟩ := h.lm.lc.mp.isMap
    rw [hb] at h'
    simp at h'

/-- The log, and what the law knows of the first eight slots. -/
structure CL (w0 w : World) (L M n : Nat) (x : Lo) (A B : Nat) : Prop where
  lm : LM w0 w L M n x
  va : Af w A 52 8 (fun s => .string ⟨((x.f (s : Int)).getD []).toArray⟩)
  vb : Af w B 53 8 (fun s => .bool (x.f (s : Int)).isSome)
  a0 : w0.heap.size ≤ A
  b0 : w0.heap.size ≤ B
  zero : x.base = 0

section
variable {w0 w w' : World} {L M n m : Nat} {x y : Lo} {A B : Nat}
theorem CL.ahead (h : CL w0 w L M n x A B) (k : Kept (fun _ => True) w w') : CL w0 w' L M n x A B :=
  ⟨h.lm.ahead k, h.va.kept k trivial, h.vb.kept k trivial, h.a0, h.b0, h.zero⟩
/-- Nothing was learned. -/
theorem CL.same (h : CL w0 w L M n x A B) (h' : Lm w' L M m x) (k : Kept (fun y => y ≠ L ∧ y ≠ M) w w') : CL w0 w' L M m x A B :=
  ⟨h.lm.step h' k, h.va.kept k (h.lm.af h.va (by decide)), h.vb.kept k (h.lm.af h.vb (by decide)), h.a0, h.b0, h.zero⟩
/-- A slot was learned, and is written down. -/
theorem CL.more (h : CL w0 w L M n x A B) {s : Nat} {v : List UInt8} (h' : Lm w' L M m { x with f := put x.f s v }) (k : Kept (fun y => y ≠ L ∧ y ≠ M) w w') :
    CL w0 ((w'.setCell ⟨B, s, none⟩ (.bool true)).setCell ⟨A, s, none⟩ (.string ⟨v.toArray⟩)) L M m { x with f := put x.f s v } A B := by
  have hAB : A ≠ B := af_af h.va h.vb (by decide)
  have aA := h.lm.af h.va (by decide)
  have aB := h.lm.af h.vb (by decide)
  have va' := h.va.kept k aA
  have vb' := h.vb.kept k aB
  have k1 : Kept (· ≠ B) w' (w'.setCell ⟨B, s, none⟩ (.bool true)) := (Kept.refl _ _).setCell (by simp) _
  have k2 : Kept (· ≠ A) (w'.setCell ⟨B, s, none⟩ (.bool true)) ((w'.setCell ⟨B, s, none⟩ (.bool true)).setCell ⟨A, s, none⟩ (.string ⟨v.toArray⟩)) := (Kept.refl _ _).setCell (by simp) _
  have l1 := (h.lm.step h' k).side k1 (Ne.symm aB.1) (Ne.symm aB.2) (fun i hi => by have := h.b0; omega)
  have l2 := l1.side k2 (Ne.symm aA.1) (Ne.symm aA.2) (fun i hi => by have := h.a0; omega)
  refine ⟨l2, ((va'.kept k1 hAB).set s _).congr (fun i _ => ?_), ((vb'.set s _).kept k2 (Ne.symm hAB)).congr (fun i _ => ?_), h.a0, h.b0, h.zero⟩
  · show _ = Value.string ⟨((put x.f s v (i : Int)).getD []).toArray⟩
    unfold put
    by_cases e : i = s
    · subst e; simp
    · rw [if_neg e, if_neg (by omega)]
  · show _ = Value.bool (put x.f s v (i : Int)).isSome
    unfold put
    by_cases e : i = s
    · subst e; simp
    · rw [if_neg e, if_neg (by omega)]
end

set_option maxRecDepth 100000 in
set_option maxHeartbeats 4000000 in
theorem logClashes_any {w : World} {a : Option Addr} {na ca : Nat} (ha : IsAsks w a na) :
    Calls Try.prog 7 #[.slice a na ca] w fun e w' => e = .returned (.bool true) ∧ Kept (fun _ => True) w w' := by
  have HS : Hid (IsAsks w a na) := ha
  clear ha
  go_enter Try.func7, Try.ntmps7
  go_wp2_with fail
  refine Calls.mono new_any ?_
  rintro e w1 ⟨L, M, rfl, h1, k1, a1, m1⟩
  have H1 : Hid (LM w w1 L M 0 ⟨0, 0, fun _ => none⟩) := ⟨h1, k1, a1, m1⟩
  clear h1 k1 a1 m1
  go_wp2_with fail
  have kA : Kept (fun _ => True) w1 (w1.alloc (.cells #[.string ⟨#[]⟩, .string ⟨#[]⟩, .string ⟨#[]⟩, .string ⟨#[]⟩, .string ⟨#[]⟩, .string ⟨#[]⟩, .string ⟨#[]⟩, .string ⟨#[]⟩] 52)) := (Kept.refl _ _).alloc _
  have vA : Af (w1.alloc (.cells #[.string ⟨#[]⟩, .string ⟨#[]⟩, .string ⟨#[]⟩, .string ⟨#[]⟩, .string ⟨#[]⟩, .string ⟨#[]⟩, .string ⟨#[]⟩, .string ⟨#[]⟩] 52)) w1.heap.size 52 8 (fun _ => .string ⟨#[]⟩) := heap_alloc_new w1 _
  have eB : w1.heap.size + 1 = (w1.alloc (.cells #[.string ⟨#[]⟩, .string ⟨#[]⟩, .string ⟨#[]⟩, .string ⟨#[]⟩, .string ⟨#[]⟩, .string ⟨#[]⟩, .string ⟨#[]⟩, .string ⟨#[]⟩] 52)).heap.size := by simp
  have a0 : Hid (w.heap.size ≤ w1.heap.size) := H1.out.kept.size
  rw [eB]
  generalize w1.alloc (.cells #[.string ⟨#[]⟩, .string ⟨#[]⟩, .string ⟨#[]⟩, .string ⟨#[]⟩, .string ⟨#[]⟩, .string ⟨#[]⟩, .string ⟨#[]⟩, .string ⟨#[]⟩] 52) = w2 at *
  have H2 : Hid (LM w w2 L M 0 ⟨0, 0, fun _ => none⟩) := H1.out.ahead kA
  clear eB kA H1
  generalize w1.heap.size = A at *
  have kB : Kept (fun _ => True) w2 (w2.alloc (.cells #[.bool false, .bool false, .bool false, .bool false, .bool false, .bool false, .bool false, .bool false] 53)) := (Kept.refl _ _).alloc _
  have vB : Af (w2.alloc (.cells #[.bool false, .bool false, .bool false, .bool false, .bool false, .bool false, .bool false, .bool false] 53)) w2.heap.size 53 8 (fun _ => .bool false) := heap_alloc_new w2 _
  have H0 : Hid (CL w _ L M 0 ⟨0, 0, fun _ => none⟩ A w2.heap.size) := ⟨H2.out.ahead kB, vA.kept kB trivial, vB, a0.out, H2.out.kept.size, rfl⟩
  clear vA vB H2 kB a0
  generalize w2.alloc (.cells #[.bool false, .bool false, .bool false, .bool false, .bool false, .bool false, .bool false, .bool false] 53) = w0 at *
  generalize w2.heap.size = B at *
  go_loopw [6] (fun t wr => ∃ (i n : Nat) (x : Lo), i ≤ 60 ∧ n ≤ i ∧ t = .int .i64 (i : Nat) ∧ CL w wr L M n x A B) (fun t _ => 60 - (intOf t).toNat)
  case atStart => exact ⟨0, 0, _, by omega, by omega, rfl, H0.out⟩
  case round =>
    obtain ⟨i, n, x, hi, hn, rfl, hm⟩ := hrel
    have HM : Hid (CL w wr L M n x A B) := hm
    clear hm H0
    by_cases hlt : i < na ∧ i < 60
    · obtain ⟨b, off, y, rfl, hb, -, hy⟩ := ask_at HS.out hlt.1
      have g1 : (i : Int) < (na : Int) := by omega
      have g2 : (i : Int) < 60 := by omega
      have g0 : (0 : Int) ≤ (i : Int) := by omega
      obtain ⟨-, y1, y2⟩ := hy (fun _ => True) trivial wr HM.out.lm.kept
      have HB : Hid (b < w.heap.size) := hb
      clear hlt HS hb
      obtain ⟨yk, yn, v⟩ := y
      simp only at y1 y2 hy
      go_wp2_with fail
      refine Calls.mono (within_any _ 7 (by decide)) ?_
      rintro e _ ⟨⟨s, hs, rfl⟩, rfl⟩
      have hs0 : (0 : Int) ≤ (s : Int) := by omega
      have hs8 : (s : Int) < 8 := by omega
      have hz := HM.out.zero
      cases hf : x.f (s : Int) with
      | none =>
        have c := learn_to HM.out.lm.lm (by omega) (s := (s : Int)) ⟨by omega, by omega⟩ (v := v) (learn_new (by omega) (by omega) (by omega) hf)
        go_wp2_with fail
        refine Calls.mono c ?_
        rintro e w2 ⟨rfl, h2, k2⟩
        have hbo := HM.out.lm.af HM.out.vb (by decide)
        have hao := HM.out.lm.af HM.out.va (by decide)
        have vb2 := HM.out.vb.kept k2 hbo
        have va2 := HM.out.va.kept k2 hao
        have d2 := vb2.cell (i := s) (by omega)
        rw [hf] at d2
        simp only [Option.isSome_none] at d2
        have fB := vb2.free s
        have fA := (va2.kept ((Kept.refl (· ≠ B) w2).setCell (a := w2) (ad := ⟨B, s, none⟩) (by simp) (.bool true)) (af_af va2 vb2 (by decide))).free s
        have dA := (va2.kept ((Kept.refl (· ≠ B) w2).setCell (a := w2) (ad := ⟨B, s, none⟩) (by simp) (.bool true)) (af_af va2 vb2 (by decide))).cell (i := s) (by omega)
        have y3 : (w2.setCell ⟨B, s, none⟩ (.bool true)).cell? ⟨b, off + i * 3 + 2, none⟩ = some (.string ⟨v.toArray⟩) := (hy (fun j => j < w.heap.size) HB.out _ (((HM.out.lm.kept.mono (fun _ _ _ => trivial)).trans (k2.mono (fun j _ q => by have := HM.out.lm.l0; have := HM.out.lm.m0; omega))).setCell (by have := HM.out.b0; simp; omega) _)).2.2
        have ltB := vb2.lt
        have ltA := va2.lt
        obtain ⟨x3, H3, F3⟩ : ∃ x3 : Lo, Hid (CL w ((w2.setCell ⟨B, s, none⟩ (.bool true)).setCell ⟨A, s, none⟩ (.string ⟨v.toArray⟩)) L M (n + 1) x3 A B) ∧ Hid (x3.f (s : Int) = some v) := ⟨{ x with f := put x.f s v }, HM.out.more h2 k2, by show put x.f s v (s : Int) = _; simp [put]⟩
        clear h2 k2 vb2 va2 hbo hao c hf hy y1 y2
        go_wp2_with fail
        clear d2 fB fA dA y3 ltB ltA
        generalize (w2.setCell ⟨B, s, none⟩ (.bool true)).setCell ⟨A, s, none⟩ (.string ⟨v.toArray⟩) = w3 at *
        have c3 := get_any H3.out.lm.lm.lc (z := (s : Int)) ⟨by omega, by omega⟩
        rw [F3.out] at c3
        simp only [Option.getD_some, Option.isSome_some] at c3
        go_wp2_with fail
        refine Calls.mono c3 ?_
        rintro e w4 ⟨rfl, k4⟩
        have H4 : Hid (CL w w4 L M (n + 1) _ A B) := H3.out.ahead k4
        have d4 := H4.out.va.cell (i := s) (by omega)
        rw [F3.out] at d4
        simp only [Option.getD_some] at d4
        clear k4 c3 H3
        go_wp2_with fail
        go_roundw
        case rel => exact ⟨i + 1, n + 1, _, by omega, by omega, by go_num, H4.out⟩
        case measure => simp [intOf]; omega
      | some u =>
        by_cases hu : u = v
        · subst hu
          have c := learn_to HM.out.lm.lm (by omega) (s := (s : Int)) ⟨by omega, by omega⟩ (v := u) (learn_same (by omega) (by omega) (by omega) hf)
          go_wp2_with fail
          refine Calls.mono c ?_
          rintro e w2 ⟨rfl, h2, k2⟩
          have H2 : Hid (CL w w2 L M (n + 1) x A B) := HM.out.same h2 k2
          have F3 : Hid (x.f (s : Int) = some u) := hf
          have HA : Hid (∀ m, CL w (w2.drewN m) L M (n + 1) x A B) := fun m => H2.out.ahead ((Kept.refl _ _).drewN m)
          have d2 := H2.out.vb.cell (i := s) (by omega)
          have e2 := H2.out.va.cell (i := s) (by omega)
          rw [hf] at d2 e2
          simp only [Option.isSome_some, Option.getD_some] at d2 e2
          have y3 := (hy (fun j => j < w.heap.size) HB.out _ ((HM.out.lm.kept.mono (fun _ _ _ => trivial)).trans (k2.mono (fun j _ q => by have := HM.out.lm.l0; have := HM.out.lm.m0; omega)))).2.2
          clear h2 k2 c hf hy y1 y2 H2
          go_wp2_with fail
          go_quiet (fail)
          have H3 : Hid (CL w (w2.drewN nq) L M (n + 1) x A B) := HA.out nq
          clear d2 e2 y3 HA
          generalize w2.drewN nq = w3 at *
          have c3 := get_any H3.out.lm.lm.lc (z := (s : Int)) ⟨by omega, by omega⟩
          rw [F3.out] at c3
          simp only [Option.getD_some, Option.isSome_some] at c3
          go_wp2_with fail
          refine Calls.mono c3 ?_
          rintro e w4 ⟨rfl, k4⟩
          have H4 : Hid (CL w w4 L M (n + 1) _ A B) := H3.out.ahead k4
          have d4 := H4.out.va.cell (i := s) (by omega)
          rw [F3.out] at d4
          simp only [Option.getD_some] at d4
          clear k4 c3 H3
          go_wp2_with fail
          go_roundw
          case rel => exact ⟨i + 1, n + 1, _, by omega, by omega, by go_num, H4.out⟩
          case measure => simp [intOf]; omega
        · have hne : (u == v) = false := beq_eq_false_iff_ne.2 hu
          have c := learn_to HM.out.lm.lm (by omega) (s := (s : Int)) ⟨by omega, by omega⟩ (v := v) (learn_other (by omega) (by omega) (by omega) hf hu)
          go_wp2_with fail
          refine Calls.mono c ?_
          rintro e w2 ⟨rfl, h2, k2⟩
          have H2 : Hid (CL w w2 L M (n + 1) x A B) := HM.out.same h2 k2
          have F3 : Hid (x.f (s : Int) = some u) := hf
          have HA : Hid (∀ m, CL w (w2.drewN m) L M (n + 1) x A B) := fun m => H2.out.ahead ((Kept.refl _ _).drewN m)
          have d2 := H2.out.vb.cell (i := s) (by omega)
          have e2 := H2.out.va.cell (i := s) (by omega)
          rw [hf] at d2 e2
          simp only [Option.isSome_some, Option.getD_some] at d2 e2
          have y3 := (hy (fun j => j < w.heap.size) HB.out _ ((HM.out.lm.kept.mono (fun _ _ _ => trivial)).trans (k2.mono (fun j _ q => by have := HM.out.lm.l0; have := HM.out.lm.m0; omega)))).2.2
          clear h2 k2 c hf hy y1 y2 H2
          go_wp2_with fail
          go_quiet (fail)
          have H3 : Hid (CL w (w2.drewN nq) L M (n + 1) x A B) := HA.out nq
          clear d2 e2 y3 HA
          generalize w2.drewN nq = w3 at *
          have c3 := get_any H3.out.lm.lm.lc (z := (s : Int)) ⟨by omega, by omega⟩
          rw [F3.out] at c3
          simp only [Option.getD_some, Option.isSome_some] at c3
          go_wp2_with fail
          refine Calls.mono c3 ?_
          rintro e w4 ⟨rfl, k4⟩
          have H4 : Hid (CL w w4 L M (n + 1) _ A B) := H3.out.ahead k4
          have d4 := H4.out.va.cell (i := s) (by omega)
          rw [F3.out] at d4
          simp only [Option.getD_some] at d4
          clear k4 c3 H3
          go_wp2_with fail
          go_roundw
          case rel => exact ⟨i + 1, n + 1, _, by omega, by omega, by go_num, H4.out⟩
          case measure => simp [intOf]; omega
    · have hex : ¬ (i : Int) < (na : Int) ∨ ((i : Int) < (na : Int) ∧ ¬ (i : Int) < 60) := by omega
      clear HS hlt
      rcases hex with hex | hex
      all_goals
        go_wp2_with fail
        refine Calls.mono known_any ?_
        rintro e w9 ⟨rfl, k9⟩
        go_wp2
        go_ret
        exact ⟨rfl, HM.out.lm.kept.trans k9⟩

end Go.Proofs.Ytmejeiadfcdogaa
