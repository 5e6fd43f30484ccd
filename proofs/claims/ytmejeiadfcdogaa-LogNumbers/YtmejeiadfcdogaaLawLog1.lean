/-
  LogNumbers.
-/
import Derived.Test.YtmejeiadfcdogaaL4
namespace Go.Proofs.Ytmejeiadfcdogaa
open Go.RowKit

def nu0 : Lo := ⟨0, 0, fun _ => none⟩
def nu1 : Lo := ⟨0, 0, put (fun _ => none) 1 [121]⟩
def nu2 : Lo := ⟨2, 2, gone (put (fun _ => none) 1 [121]) ((2 : Nat) : Int)⟩
def nu3 : Lo := ⟨2, 2, put (gone (put (fun _ => none) 1 [121]) ((2 : Nat) : Int)) 2 [122]⟩
def nu4 : Lo := ⟨2, 3, put (gone (put (fun _ => none) 1 [121]) ((2 : Nat) : Int)) 2 [122]⟩
def nu5 : Lo := ⟨3, 3, gone (put (gone (put (fun _ => none) 1 [121]) ((2 : Nat) : Int)) 2 [122]) ((3 : Nat) : Int)⟩
theorem nu1_next {m : Nat} (h : IsNext nu1.f nu1.taken m) : m = 0 := next_at h (Nat.le_refl _) (fun z a b => by have a' : ((0 : Nat) : Int) ≤ z := a; omega) (by decide)
theorem nu2_next {m : Nat} (h : IsNext nu2.f nu2.taken m) : m = 2 := next_at h (Nat.le_refl _) (fun z a b => by have a' : ((2 : Nat) : Int) ≤ z := a; omega) (by decide)
theorem nu3_next {m : Nat} (h : IsNext nu3.f nu3.taken m) : m = 3 := next_at h (by decide) (fun z a b => by
  have a' : ((2 : Nat) : Int) ≤ z := a
  have : z = 2 := by omega
  subst this
  decide) (by decide)
theorem Its.two {w : World} {G a b : Nat} (h : w.heap[G]? = some (.cells #[.int .i64 (a : Nat), .int .i64 (b : Nat)] 3 (0, 0))) : Its w 0 (.slice (some ⟨G, 0, none⟩) 2 2) [a, b] :=
  ⟨rfl, .inr ⟨G, 2, _, rfl, Nat.zero_le _, h, Nat.le_refl _, by decide, rfl, rfl⟩⟩

set_option maxRecDepth 100000 in
set_option maxHeartbeats 4000000 in
theorem logNumbers_any {w : World} :
    Calls Try.prog 3 #[] w fun e w' => e = .returned (.bool true) ∧ Kept (fun _ => True) w w' := by
  go_enter Try.func3, Try.ntmps3
  go_wp2_with fail
  refine Calls.mono new_any ?_
  rintro e w1 ⟨L, M, rfl, h1, k1, a1, m1⟩
  have H1 : Hid (LM w w1 L M 0 nu0) := ⟨h1, k1, a1, m1⟩
  clear h1 k1 a1 m1
  go_wp2_with fail
  refine Calls.mono (learn_to (y := nu0) (r := 1) H1.out.lm (by decide) (by constructor <;> decide) (v := [120]) rfl) ?_
  rintro e w2 ⟨rfl, h2, k2⟩
  have H2 : Hid (LM w w2 L M 1 nu0) := H1.out.step h2 k2
  clear h2 k2 H1
  go_wp2_with fail
  refine Calls.mono (learn_to (y := nu0) (r := 1) H2.out.lm (by decide) (by constructor <;> decide) (v := [120]) rfl) ?_
  rintro e w3 ⟨rfl, h3, k3⟩
  have H3 : Hid (LM w w3 L M 2 nu0) := H2.out.step h3 k3
  clear h3 k3 H2
  go_wp2_with fail
  refine Calls.mono (learn_to (y := nu1) (r := 0) H3.out.lm (by decide) (by constructor <;> decide) (v := [121]) rfl) ?_
  rintro e w4 ⟨rfl, h4, k4⟩
  have H4 : Hid (LM w w4 L M 3 nu1) := H3.out.step h4 k4
  clear h4 k4 H3
  go_wp2_with fail
  refine Calls.mono (gaps_any H4.out.lm 3) ?_
  rintro e w5 ⟨m5, v5, rfl, n5, i5, k5⟩
  have e5 := nu1_next n5
  subst e5
  have H5 : Hid (LM w w5 L M 3 nu1) := H4.out.ahead k5
  have I5 : Hid (Its w5 w4.heap.size v5 [0, 2]) := i5
  clear k5 i5 n5 H4
  go_wp2_with fail
  refine Calls.mono (compact_to (y := nu1) (r := 1) H5.out.lm rfl) ?_
  rintro e w6 ⟨rfl, h6, k6⟩
  have I6 : Hid (Its w6 w4.heap.size v5 [0, 2]) := I5.out.kept k6 (H5.out.its I5.out)
  have H6 : Hid (LM w w6 L M 3 nu1) := H5.out.step h6 k6
  clear h6 k6 H5 I5
  go_wp2_with fail
  refine Calls.mono (jump_to (y := nu1) (r := 1) H6.out.lm rfl) ?_
  rintro e w7 ⟨rfl, h7, k7⟩
  have I7 : Hid (Its w7 w4.heap.size v5 [0, 2]) := I6.out.kept k7 (H6.out.its I6.out)
  have H7 : Hid (LM w w7 L M 3 nu1) := H6.out.step h7 k7
  clear h7 k7 H6 I6
  go_wp2_with fail
  refine Calls.mono (jump_to (y := nu2) (r := 0) H7.out.lm rfl) ?_
  rintro e w8 ⟨rfl, h8, k8⟩
  have I8 : Hid (Its w8 w4.heap.size v5 [0, 2]) := I7.out.kept k8 (H7.out.its I7.out)
  have H8 : Hid (LM w w8 L M 3 nu2) := H7.out.step h8 k8
  clear h8 k8 H7 I7
  go_wp2_with fail
  refine Calls.mono (learn_to (y := nu2) (r := 0) H8.out.lm (by decide) (by constructor <;> decide) (v := [111, 116, 104, 101, 114]) rfl) ?_
  rintro e w9 ⟨rfl, h9, k9⟩
  have I9 : Hid (Its w9 w4.heap.size v5 [0, 2]) := I8.out.kept k9 (H8.out.its I8.out)
  have H9 : Hid (LM w w9 L M 4 nu2) := H8.out.step h9 k9
  clear h9 k9 H8 I8
  go_wp2_with fail
  refine Calls.mono (next_any H9.out.lm) ?_
  rintro e w10 ⟨m10, rfl, n10, k10⟩
  have e10 := nu2_next n10
  subst e10
  have I10 : Hid (Its w10 w4.heap.size v5 [0, 2]) := I9.out.kept k10 (fun _ _ => trivial)
  have H10 : Hid (LM w w10 L M 4 nu2) := H9.out.ahead k10
  clear k10 n10 H9 I9
  go_wp2_with fail
  refine Calls.mono (get_any H10.out.lm.lc (z := 1) (by constructor <;> decide)) ?_
  rintro e w11 ⟨rfl, k11⟩
  have I11 : Hid (Its w11 w4.heap.size v5 [0, 2]) := I10.out.kept k11 (fun _ _ => trivial)
  have H11 : Hid (LM w w11 L M 4 nu2) := H10.out.ahead k11
  clear k11 H10 I10
  rw [show nu2.f 1 = none from by decide]
  simp only [Option.getD_none, Option.isSome_none]
  go_wp2_with fail
  refine Calls.mono (learn_to (y := nu3) (r := 0) H11.out.lm (by decide) (by constructor <;> decide) (v := [122]) rfl) ?_
  rintro e w12 ⟨rfl, h12, k12⟩
  have I12 : Hid (Its w12 w4.heap.size v5 [0, 2]) := I11.out.kept k12 (H11.out.its I11.out)
  have H12 : Hid (LM w w12 L M 5 nu3) := H11.out.step h12 k12
  clear h12 k12 H11 I11
  go_wp2_with fail
  refine Calls.mono (take_any H12.out.lm) ?_
  rintro e w13 ⟨m13, v13, rfl, n13, t13, h13, k13⟩
  have e13 := nu3_next n13
  subst e13
  have I13 : Hid (Its w13 w4.heap.size v5 [0, 2]) := I12.out.kept k13 (H12.out.its I12.out)
  have H13 : Hid (LM w w13 L M 5 nu4) := H12.out.step h13 k13
  have T13 : Hid (Txs w13 w12.heap.size v13 [[122]]) := t13
  clear n13 t13 h13 k13 H12 I12
  go_wp2_with fail
  refine Calls.mono (compact_to (y := nu5) (r := 0) H13.out.lm rfl) ?_
  rintro e w14 ⟨rfl, h14, k14⟩
  have I14 : Hid (Its w14 w4.heap.size v5 [0, 2]) := I13.out.kept k14 (H13.out.its I13.out)
  have T14 : Hid (Txs w14 w12.heap.size v13 [[122]]) := T13.out.kept k14 (H13.out.txs T13.out)
  have H14 : Hid (LM w w14 L M 5 nu5) := H13.out.step h14 k14
  clear h14 k14 H13 I13 T13
  go_wp2_with fail
  refine Calls.mono (compact_to (y := nu5) (r := 1) H14.out.lm rfl) ?_
  rintro e w15 ⟨rfl, h15, k15⟩
  have I15 : Hid (Its w15 w4.heap.size v5 [0, 2]) := I14.out.kept k15 (H14.out.its I14.out)
  have T15 : Hid (Txs w15 w12.heap.size v13 [[122]]) := T14.out.kept k15 (H14.out.txs T14.out)
  have H15 : Hid (LM w w15 L M 5 nu5) := H14.out.step h15 k15
  clear h15 k15 H14 I14 T14
  go_wp2_with fail
  have kA : Kept (fun _ => True) w15 (w15.alloc (.cells #[.int .i64 0, .int .i64 2] 3)) := (Kept.refl _ _).alloc _
  have H16 : Hid (LM w _ L M 5 nu5) := H15.out.ahead kA
  have I16 : Hid (Its _ w4.heap.size v5 [0, 2]) := I15.out.kept kA (fun _ _ => trivial)
  have T16 : Hid (Txs _ w12.heap.size v13 [[122]]) := T15.out.kept kA (fun _ _ => trivial)
  have J16 : Hid (Its (w15.alloc (.cells #[.int .i64 0, .int .i64 2] 3)) 0 (.slice (some ⟨w15.heap.size, 0, none⟩) 2 2) [0, 2]) := Its.two (heap_alloc_new w15 _)
  clear kA H15 I15 T15
  generalize w15.alloc (.cells #[.int .i64 0, .int .i64 2] 3) = w16 at *
  generalize w15.heap.size = G16 at *
  refine Calls.mono (isame_any I16.out J16.out (by decide)) ?_
  rintro e w17 ⟨rfl, m17, rfl⟩
  have k17 : Kept (fun _ => True) w16 (w16.drewN m17) := (Kept.refl _ _).drewN _
  have H17 : Hid (LM w (w16.drewN m17) L M 5 nu5) := H16.out.ahead k17
  have T17 : Hid (Txs (w16.drewN m17) w12.heap.size v13 [[122]]) := T16.out.kept k17 (fun _ _ => trivial)
  clear k17 H16 T16 I16 J16
  generalize w16.drewN m17 = w17 at *
  go_wp2_with fail
  refine Calls.mono (texts_yes (T17.out.kept ((Kept.refl (fun _ => True) _).alloc _) (fun _ _ => trivial)) (Txs.block (ss := [[122]]) (heap_alloc_new _ _) (by decide)) (by decide)) ?_
  rintro e w18 ⟨rfl, m18, rfl⟩
  have H18 : Hid (LM w _ L M 5 nu5) := H17.out.ahead (((Kept.refl (fun _ => True) w17).alloc (.cells #[.string ⟨#[122]⟩] 9)).drewN m18)
  go_wp2_with (first
    | (go_at_call 18; refine Calls.mono (base_any H18.out.lm.lc) ?_; rintro e _ ⟨rfl, rfl⟩; simp only [nu5])
    | (go_at_call 19; refine Calls.mono (taken_any H18.out.lm.lc) ?_; rintro e _ ⟨rfl, rfl⟩; simp only [nu5])
    | (go_at_call 20; refine Calls.mono known_any ?_; rintro e w19 ⟨rfl, k19⟩))
  go_ret
  exact ⟨rfl, H18.out.kept.trans k19⟩

end Go.Proofs.Ytmejeiadfcdogaa
