/-
  LocksNumbers: its walk.
-/
import Derived.Test.YtkinpgkckbocpaaKNum
namespace Go.Proofs.Ytkinpgkckbocpaa
open Go.RowKit

set_option maxRecDepth 100000 in
set_option maxHeartbeats 2000000 in
theorem locksNumbers_any {w : World} : Calls Try.prog 3 #[] w fun e w' => e = .returned (.bool true) ∧ Kept (fun _ => True) w w' := by
  have cn := new_tm (w := w)
  go_enter Try.func3, Try.ntmps3
  go_wp2_with fail
  refine Calls.mono cn ?_
  rintro e w1 ⟨T, B1, rfl, t1⟩
  clear cn
  have c2 := take_tm t1 (x := []) (by decide) (Wn.nil w1) (by simp) (by simp)
  clear t1
  go_wp2_with fail
  refine Calls.mono c2 ?_
  rintro e w2 ⟨r, h', B2, rfl, hT, t2, -⟩
  clear c2
  obtain ⟨rfl, rfl⟩ := hT.empty
  clear hT
  have a2 := t2.all (w' := w2.alloc (.cells #[.string ⟨#[120]⟩, .bool false] 27)) ((Kept.refl _ _).alloc _)
  have c3 := take_tm a2 (x := [97]) (by decide) (Wn.one (cap := 1) (c := [120]) (wt := false) (heap_alloc_new w2 _)) (by simp) (by simp)
  clear t2 a2
  go_wp2_with fail
  refine Calls.mono c3 ?_
  rintro e w3 ⟨r, h', B3, rfl, hT, t3, -⟩
  clear c3
  obtain ⟨rfl, rfl⟩ := hT.ok (by decide) k1_free
  clear hT
  change TM _ _ _ _ _ k1 at t3
  have a3 := t3.all (w' := w3.alloc (.cells #[.string ⟨#[121]⟩, .bool true, .string ⟨#[120]⟩, .bool false] 27)) ((Kept.refl _ _).alloc _)
  have c4 := take_tm a3 (x := [98]) (by decide) (Wn.two (cap := 2) (c := [121]) (wt := true) (d := [120]) (wu := false) (heap_alloc_new w3 _)) (by simp) (by simp)
  clear t3 a3
  go_wp2_with fail
  refine Calls.mono c4 ?_
  rintro e w4 ⟨r, h', B4, rfl, hT, t4, -⟩
  clear c4
  obtain ⟨rfl, rfl⟩ := hT.ok (by decide) k2_free
  clear hT
  change TM _ _ _ _ _ k2 at t4
  have a4 := t4.all (w' := w4.alloc (.cells #[.string ⟨#[122]⟩, .bool false, .string ⟨#[120]⟩, .bool true] 27)) ((Kept.refl _ _).alloc _)
  have c5 := take_tm a4 (x := [97]) (by decide) (Wn.two (cap := 2) (c := [122]) (wt := false) (d := [120]) (wu := true) (heap_alloc_new w4 _)) (by simp) (by simp)
  clear t4 a4
  go_wp2_with fail
  refine Calls.mono c5 ?_
  rintro e w5 ⟨r, h', B5, rfl, hT, t5, -⟩
  clear c5
  obtain ⟨rfl, rfl⟩ := hT.busy (by decide) k2_busy
  clear hT
  have a5 := t5.all (w' := w5.alloc (.cells #[.string ⟨#[121]⟩, .bool false] 27)) ((Kept.refl _ _).alloc _)
  have c6 := take_tm a5 (x := [98]) (by decide) (Wn.one (cap := 1) (c := [121]) (wt := false) (heap_alloc_new w5 _)) (by simp) (by simp)
  clear t5 a5
  go_wp2_with fail
  refine Calls.mono c6 ?_
  rintro e w6 ⟨r, h', B6, rfl, hT, t6, -⟩
  clear c6
  obtain ⟨rfl, rfl⟩ := hT.ok (by decide) k3_free
  clear hT
  change TM _ _ _ _ _ k3 at t6
  have HA : Hid (Alone k3) := t6.alone
  have c7 := writer_any t6.tb t6.alone (c := [121]) (by decide) (by simp)
  go_wp2_with fail
  refine Calls.mono c7 ?_
  rintro e w7 ⟨v, ok, rfl, hw, k7⟩
  clear c7
  obtain ⟨rfl, rfl⟩ := k3_writer HA.out hw
  have t7 := t6.all k7
  clear t6 k7 hw
  have c8 := writer_any t7.tb t7.alone (c := [120]) (by decide) (by simp)
  go_wp2_with fail
  refine Calls.mono c8 ?_
  rintro e w8 ⟨v, ok, rfl, hw, k8⟩
  clear c8
  obtain ⟨rfl, rfl⟩ := k3_nobody HA.out hw
  have t8 := t7.all k8
  clear t7 k8 hw
  have c9 := take_tm t8 (x := [110]) (by decide) (Wn.nil w8) (by simp) (by simp)
  clear t8
  go_wp2_with fail
  refine Calls.mono c9 ?_
  rintro e w9 ⟨r, h', B9, rfl, hT, t9, -⟩
  clear c9
  obtain ⟨rfl, rfl⟩ := hT.ok (by decide) (by simp)
  clear hT
  change TM _ _ _ _ _ k3 at t9
  have c10 := holders_any t9.tb (c := [120]) (by decide) (by simp)
  go_wp2_with fail
  refine Calls.mono c10 ?_
  rintro e w10 ⟨v, us, rfl, hu, -, x10, k10⟩
  clear c10
  obtain rfl : us = [[97], [98]] := hu.unique k3_holders
  have t10 := t9.all k10
  obtain ⟨ao, cap, rfl, -, -⟩ := x10.shape
  have q10 : Kept (fun _ => True) w10 (w10.alloc (.cells #[.string ⟨#[97]⟩, .string ⟨#[98]⟩] 9)) := (Kept.refl _ _).alloc _
  have c11 := texts_yesK (x10.kept q10 (fun _ _ => trivial)) (lit_texts [[97], [98]] (by decide) (heap_alloc_new w10 _)) (by simp)
  have t10' := t10.all q10
  clear t9 k10 hu x10 t10 q10
  go_wp2_with fail
  refine Calls.mono c11 ?_
  rintro e w11 ⟨rfl, k11⟩
  clear c11
  have t11 := t10'.all k11
  clear t10' k11
  have c12 := held_any t11.tb (x := [98]) (by decide) (by simp)
  go_wp2_with fail
  refine Calls.mono c12 ?_
  rintro e w12 ⟨v, us, rfl, hu, -, x12, k12⟩
  clear c12
  obtain rfl : us = [[120], [121]] := hu.unique k3_heldb
  have t12 := t11.all k12
  obtain ⟨ao, cap, rfl, -, -⟩ := x12.shape
  have q12 : Kept (fun _ => True) w12 (w12.alloc (.cells #[.string ⟨#[120]⟩, .string ⟨#[121]⟩] 9)) := (Kept.refl _ _).alloc _
  have c13 := texts_yesK (x12.kept q12 (fun _ _ => trivial)) (lit_texts [[120], [121]] (by decide) (heap_alloc_new w12 _)) (by simp)
  have t12' := t12.all q12
  clear t11 k12 hu x12 t12 q12
  go_wp2_with fail
  refine Calls.mono c13 ?_
  rintro e w13 ⟨rfl, k13⟩
  clear c13
  have t13 := t12'.all k13
  clear t12' k13
  have c14 := held_any t13.tb (x := [97]) (by decide) (by simp)
  go_wp2_with fail
  refine Calls.mono c14 ?_
  rintro e w14 ⟨v, us, rfl, hu, -, x14, k14⟩
  clear c14
  obtain rfl : us = [[120]] := hu.unique k3_helda
  have t14 := t13.all k14
  obtain ⟨ao, cap, rfl, -, -⟩ := x14.shape
  have q14 : Kept (fun _ => True) w14 (w14.alloc (.cells #[.string ⟨#[120]⟩] 9)) := (Kept.refl _ _).alloc _
  have c15 := texts_yesK (x14.kept q14 (fun _ _ => trivial)) (lit_texts [[120]] (by decide) (heap_alloc_new w14 _)) (by simp)
  have t14' := t14.all q14
  clear t13 k14 hu x14 t14 q14
  go_wp2_with fail
  refine Calls.mono c15 ?_
  rintro e w15 ⟨rfl, k15⟩
  clear c15
  have t15 := t14'.all k15
  clear t14' k15
  have c16 := all_any t15.tb (by simp)
  go_wp2_with fail
  refine Calls.mono c16 ?_
  rintro e w16 ⟨v, us, rfl, hu, -, x16, k16⟩
  clear c16
  obtain rfl : us = [[97], [98]] := hu.unique k3_all
  have t16 := t15.all k16
  obtain ⟨ao, cap, rfl, -, -⟩ := x16.shape
  have q16 : Kept (fun _ => True) w16 (w16.alloc (.cells #[.string ⟨#[97]⟩, .string ⟨#[98]⟩] 9)) := (Kept.refl _ _).alloc _
  have c17 := texts_yesK (x16.kept q16 (fun _ _ => trivial)) (lit_texts [[97], [98]] (by decide) (heap_alloc_new w16 _)) (by simp)
  have t16' := t16.all q16
  clear t15 k16 hu x16 t16 q16
  go_wp2_with fail
  refine Calls.mono c17 ?_
  rintro e w17 ⟨rfl, k17⟩
  clear c17
  have t17 := t16'.all k17
  clear t16' k17
  have c18 := free_tm t17 (x := [110]) (by decide) (by simp)
  clear t17
  go_wp2_with fail
  refine Calls.mono c18 ?_
  rintro e w18 ⟨q, B18, rfl, hq, t18, -⟩
  clear c18
  obtain rfl : q = false := by
    cases q with
    | false => rfl
    | true => exact absurd (hq.1 rfl) k3_n
  clear hq
  have c19 := holders_any t18.tb (c := [122]) (by decide) (by simp)
  go_wp2_with fail
  refine Calls.mono c19 ?_
  rintro e w19 ⟨v, us, rfl, hu, -, x19, k19⟩
  clear c19
  obtain rfl : us = [] := hu.unique k3_z
  obtain ⟨ao, cap, rfl, -, -⟩ := x19.shape
  have HK : Hid (Kept (fun _ => True) w w19) := (t18.all k19).kept
  have ck := known_any (w := w19)
  clear t18 k19 hu x19
  go_wp2_with fail
  refine Calls.mono ck ?_
  rintro e w20 ⟨rfl, k20⟩
  clear ck
  go_wp2_with fail
  go_ret
  exact ⟨rfl, HK.out.trans k20⟩

end Go.Proofs.Ytkinpgkckbocpaa
