/-
  DedupNumbers: the chapter's runs.
-/
import Derived.Test.YtihfcmcpapgokaaE10
namespace Go.Proofs.Ytihfcmcpapgokaa
open Go.RowKit

theorem num_good : Good 2 [⟨[97], 5, [119]⟩, ⟨[99], -3, [118]⟩] := by
  refine ⟨by decide, by decide, by decide, fun x hx => ?_, by unfold Once; decide⟩
  simp at hx
  rcases hx with rfl | rfl
  · exact ⟨by constructor <;> decide, by decide, by decide⟩
  · exact ⟨by constructor <;> decide, by decide, by decide⟩
theorem num_bad : load [9, 9, 9] = none := by kernel_rfl

set_option maxRecDepth 100000 in
set_option maxHeartbeats 2000000 in
theorem dedupNumbers_any {w : World} :
    Calls Try.prog 3 #[] w fun e w' => e = .returned (.bool true) ∧ Kept (fun _ => True) w w' := by
  go_enter Try.func3, Try.ntmps3
  go_wp2_with fail
  refine Calls.mono (new_bad 0 (.inl (by decide))) ?_
  rintro e _ ⟨rfl, rfl⟩
  go_wp2_with fail
  refine Calls.mono (new_bad 65 (.inr (by decide))) ?_
  rintro e w ⟨rfl, rfl⟩
  go_wp2_with fail
  refine Calls.mono (new_ok 2 (by decide) (by decide)) ?_
  rintro e w1 ⟨rfl, h1, k1⟩
  have H1 : Hid (TM w w1 w.heap.size (.slice none 0 0) 2 []) := ⟨h1, k1, Nat.le_refl _, fun k hk => by simp [Value.ownBlock] at hk⟩
  clear h1 k1
  generalize w.heap.size = B at *
  go_wp2_with fail
  refine Calls.mono (done_to (ys := [⟨[97], 1, [120]⟩]) H1.out.tb (by decide) (by decide) [97] 1 [120] (q := 0) rfl) ?_
  rintro e w2 ⟨rfl, v2, s2⟩
  have H2 : Hid (TM w w2 B v2 2 [⟨[97], 1, [120]⟩]) := H1.out.step s2
  clear s2 H1
  go_wp2_with fail
  refine Calls.mono (done_to (ys := [⟨[97], 1, [120]⟩, ⟨[98], 1, [121]⟩]) H2.out.tb (by decide) (by decide) [98] 1 [121] (q := 0) rfl) ?_
  rintro e w3 ⟨rfl, v3, s3⟩
  have H3 : Hid (TM w w3 B v3 2 [⟨[97], 1, [120]⟩, ⟨[98], 1, [121]⟩]) := H2.out.step s3
  clear s3 H2
  go_wp2_with fail
  refine Calls.mono (done_to (ys := [⟨[97], 1, [120]⟩, ⟨[98], 1, [121]⟩]) H3.out.tb (by decide) (by decide) [97] 1 [122] (q := 1) rfl) ?_
  rintro e w4 ⟨rfl, v4, s4⟩
  have H4 : Hid (TM w w4 B v4 2 [⟨[97], 1, [120]⟩, ⟨[98], 1, [121]⟩]) := H3.out.step s4
  clear s4 H3
  go_wp2_with fail
  refine Calls.mono (done_to (ys := [⟨[98], 1, [121]⟩, ⟨[97], 5, [119]⟩]) H4.out.tb (by decide) (by decide) [97] 5 [119] (q := 0) rfl) ?_
  rintro e w5 ⟨rfl, v5, s5⟩
  have H5 : Hid (TM w w5 B v5 2 [⟨[98], 1, [121]⟩, ⟨[97], 5, [119]⟩]) := H4.out.step s5
  clear s5 H4
  go_wp2_with fail
  refine Calls.mono (done_to (ys := [⟨[97], 5, [119]⟩, ⟨[99], -3, [118]⟩]) H5.out.tb (by decide) (by decide) [99] (-3) [118] (q := 0) rfl) ?_
  rintro e w6 ⟨rfl, v6, s6⟩
  have H6 : Hid (TM w w6 B v6 2 [⟨[97], 5, [119]⟩, ⟨[99], -3, [118]⟩]) := H5.out.step s6
  clear s6 H5
  go_wp2_with fail
  refine Calls.mono (ask_to H6.out.tb [98] 1 (q := 1) (r := []) rfl) ?_
  rintro e w7 ⟨rfl, k7⟩
  have H7 : Hid (TM w w7 B v6 2 [⟨[97], 5, [119]⟩, ⟨[99], -3, [118]⟩]) := H6.out.ahead k7
  clear k7 H6
  have GG : Hid (Good 2 [⟨[97], 5, [119]⟩, ⟨[99], -3, [118]⟩]) := num_good
  generalize hX : [(⟨[97], 5, [119]⟩ : La), ⟨[99], -3, [118]⟩] = X at *
  have HA : Hid (ask X [97] 5 = (2, [119])) := by rw [← hX]; exact (rfl : _ = _)
  have HC : Hid (X.map La.c = [[97], [99]]) := by rw [← hX]; exact (rfl : _ = _)
  clear hX
  have cs := save_any H7.out.tb GG.out.size
  have cl := fun W D (h : W.heap[D]? = some (.cells (cells (saved 2 X)).toArray 5 (0, 0))) => load_to (w := W) (D := D) (m := 2) h GG.out (saved 2 X).length
  generalize (saved 2 X) = SV at cs cl
  go_wp2_with fail
  refine Calls.mono cs ?_
  rintro e w8 ⟨D, rfl, hD, k8, d8⟩
  have H8 : Hid (TM w w8 B v6 2 X) := H7.out.ahead k8
  clear k8 H7 cs d8
  go_wp2_with fail
  refine Calls.mono (cl _ _ hD) ?_
  rintro e w9 ⟨A, u9, rfl, h9⟩
  have H9 : Hid (TM w w9 B v6 2 X) := H8.out.ahead h9.kept
  have U9 : Hid (Pt w9 A u9 2 X) := h9.tb
  clear h9 H8 cl hD
  have kB : Kept (fun _ => True) w9 (w9.alloc (.cells #[.int .u8 9, .int .u8 9, .int .u8 9] 5)) := (Kept.refl _ _).alloc _
  have hB : (w9.alloc (.cells #[.int .u8 9, .int .u8 9, .int .u8 9] 5)).heap[w9.heap.size]? = some (.cells (cells [9, 9, 9]).toArray 5 (0, 0)) := heap_alloc_new w9 _
  have cb := load_any (cap := 3) (by decide) (row_has hB)
  have H10 : Hid (TM w _ B v6 2 X) := H9.out.ahead kB
  have U10 : Hid (Pt _ A u9 2 X) := U9.out.all kB
  clear hB kB
  go_wp2_with fail
  refine Calls.mono cb ?_
  rintro e w11 ⟨⟨-, rfl⟩ | ⟨_, _, _, _, hs, -⟩, k11⟩
  case inr => rw [num_bad] at hs; cases hs
  have H11 : Hid (TM w w11 B v6 2 X) := H10.out.ahead k11
  have U11 : Hid (Pt w11 A u9 2 X) := U10.out.all k11
  clear H10 U10 H9 U9 k11 cb
  have ca := ask_to U11.out [97] 5 HA.out
  go_wp2_with fail
  refine Calls.mono ca ?_
  rintro e w12 ⟨rfl, k12⟩
  have H12 : Hid (TM w w12 B v6 2 X) := H11.out.ahead k12
  have U12 : Hid (Pt w12 A u9 2 X) := U11.out.all k12
  clear H11 U11 k12 ca
  have cc := clients_any H12.out.tb
  rw [HC.out] at cc
  go_wp2_with fail
  refine Calls.mono cc ?_
  rintro e w13 ⟨t13, rfl, h13, k13⟩
  have H13 : Hid (TM w w13 B v6 2 X) := H12.out.ahead k13
  have U13 : Hid (Pt w13 A u9 2 X) := U12.out.all k13
  clear H12 U12 k13 cc
  have kT : Kept (fun _ => True) w13 (w13.alloc (.cells #[.string ⟨#[97]⟩, .string ⟨#[99]⟩] 9)) := (Kept.refl _ _).alloc _
  have hT : Txs _ 0 (.slice (some ⟨w13.heap.size, 0, none⟩) 2 2) [[97], [99]] := Txs.block (ss := [[97], [99]]) (heap_alloc_new w13 (.cells #[.string ⟨#[97]⟩, .string ⟨#[99]⟩] 9)) (by decide)
  have ct := texts_yes (h13.kept kT (fun _ _ => trivial)) hT (by decide)
  have H14 : Hid (TM w _ B v6 2 X) := H13.out.ahead kT
  have U14 : Hid (Pt _ A u9 2 X) := U13.out.all kT
  clear kT hT h13 H13 U13
  go_wp2_with fail
  refine Calls.mono ct ?_
  rintro e w15 ⟨rfl, m15, rfl⟩
  have H15 : Hid (TM w _ B v6 2 X) := H14.out.ahead ((Kept.refl _ _).drewN m15)
  have U15 : Hid (Pt _ A u9 2 X) := U14.out.all ((Kept.refl _ _).drewN m15)
  clear ct H14 U14
  generalize (w13.alloc (.cells #[.string ⟨#[97]⟩, .string ⟨#[99]⟩] 9)).drewN m15 = w15 at *
  have cc := clients_any U15.out
  rw [HC.out] at cc
  go_wp2_with fail
  refine Calls.mono cc ?_
  rintro e w16 ⟨t16, rfl, h16, k16⟩
  have H16 : Hid (TM w w16 B v6 2 X) := H15.out.ahead k16
  clear H15 U15 k16 cc
  have kT : Kept (fun _ => True) w16 (w16.alloc (.cells #[.string ⟨#[97]⟩, .string ⟨#[99]⟩] 9)) := (Kept.refl _ _).alloc _
  have hT : Txs _ 0 (.slice (some ⟨w16.heap.size, 0, none⟩) 2 2) [[97], [99]] := Txs.block (ss := [[97], [99]]) (heap_alloc_new w16 (.cells #[.string ⟨#[97]⟩, .string ⟨#[99]⟩] 9)) (by decide)
  have ct := texts_yes (h16.kept kT (fun _ _ => trivial)) hT (by decide)
  have H17 : Hid (TM w _ B v6 2 X) := H16.out.ahead kT
  clear kT hT h16 H16
  go_wp2_with fail
  refine Calls.mono ct ?_
  rintro e w18 ⟨rfl, m18, rfl⟩
  have H18 : Hid (TM w _ B v6 2 X) := H17.out.ahead ((Kept.refl _ _).drewN m18)
  clear ct H17
  generalize (w16.alloc (.cells #[.string ⟨#[97]⟩, .string ⟨#[99]⟩] 9)).drewN m18 = w18 at *
  go_wp2_with fail
  refine Calls.mono known_any ?_
  rintro e w19 ⟨rfl, k19⟩
  go_wp2_with fail
  go_ret
  exact ⟨rfl, H18.out.kept.trans k19⟩

end Go.Proofs.Ytihfcmcpapgokaa
