/-
  The walk of WireNumbers: it answers true, and turns nothing that was there.
-/
import Derived.Test.YtlkkmggopoknaaaKnown
import Derived.Test.YtlkkmggopoknaaaWr4
import Derived.Test.YtlkkmggopoknaaaRd6
namespace Go.Proofs.Ytlkkmggopoknaaa
open Go.RowKit

def nb1 : List UInt8 := [1, 2, 3]
def nb2 : List UInt8 := [255, 7]
def nb3 : List UInt8 := [0, 0, 0, 9, 120]
def nw : List UInt8 := [255, 255, 255, 255, 255, 255, 255, 255, 254]

set_option maxRecDepth 100000 in
set_option maxHeartbeats 2000000 in
theorem numbers_any (w : World) : Calls Try.prog 3 #[] w fun e w' => e = .returned (.bool true) ∧ Kept (fun _ => True) w w' := by
  have T1 : Hid (((⟨0, 0⟩ : RS).num nb1 4) = (0, ⟨3, 10⟩)) := by show _ = _; kernel_rfl
  have T2 : Hid (((⟨3, 10⟩ : RS).end_ nb1) = (10, 3)) := by show _ = _; kernel_rfl
  have T3 : Hid (((⟨0, 0⟩ : RS).num nb2 1) = (255, ⟨1, 0⟩)) := by show _ = _; kernel_rfl
  have T4 : Hid (((⟨1, 0⟩ : RS).end_ nb2) = (11, 1)) := by show _ = _; kernel_rfl
  have T5 : Hid (((⟨0, 0⟩ : RS).text nb3 9) = ([], ⟨5, 10⟩)) := by show _ = _; kernel_rfl
  have T6 : Hid (((⟨5, 10⟩ : RS).end_ nb3) = (10, 5)) := by show _ = _; kernel_rfl
  have T7 : Hid (([] ++ enc (u64 (-1)) 1) ++ enc (u64 (-2)) 8 = nw) := by show _ = _; kernel_rfl
  go_enter Try.func3, Try.ntmps3
  go_wp2_with fail
  refine Calls.mono newWriter_any ?_
  rintro e w1 ⟨rfl, hw, k1, s1⟩
  have h1 : Has (w1.alloc (.cells #[.int .u8 1, .int .u8 2, .int .u8 3] 5)) (some ⟨w1.heap.size, 0, none⟩) nb1 := has_row (heap_alloc_new w1 _)
  go_wp2_with fail
  refine Calls.mono (newReader_any (bs := nb1) (cap := 3) (by decide) h1) ?_
  rintro e w2 ⟨B1, R1, rfl, hr1, k2, hB1, hR1⟩
  have k2' : Kept (fun _ => True) w1 w2 := ((Kept.refl _ _).alloc _).trans k2
  have hB1' : w1.heap.size < B1 := by simp at hB1; omega
  have hR1' : w1.heap.size < R1 := by simp at hR1; omega
  have lB1 := hr1.lt
  have lR1 := hr1.rowlt
  have hw := hw.kept k2' trivial (fun _ _ => trivial)
  have k02 := k1.trans k2'
  clear k1 k2 k2' hB1 hR1 h1
  have h2 : Has (w2.alloc (.cells #[.int .u8 255, .int .u8 7] 5)) (some ⟨w2.heap.size, 0, none⟩) nb2 := has_row (heap_alloc_new w2 _)
  go_wp2_with fail
  refine Calls.mono (newReader_any (bs := nb2) (cap := 2) (by decide) h2) ?_
  rintro e w3 ⟨B2, R2, rfl, hr2, k3, hB2, hR2⟩
  have k3' : Kept (fun _ => True) w2 w3 := ((Kept.refl _ _).alloc _).trans k3
  have hB2' : w2.heap.size < B2 := by simp at hB2; omega
  have hR2' : w2.heap.size < R2 := by simp at hR2; omega
  have lB2 := hr2.lt
  have lR2 := hr2.rowlt
  have hw := hw.kept k3' trivial (fun _ _ => trivial)
  have hr1 := hr1.kept k3' trivial trivial
  have k03 := k02.trans k3'
  clear k02 k3 k3' hB2 hR2 h2
  have h3 : Has (w3.alloc (.cells #[.int .u8 0, .int .u8 0, .int .u8 0, .int .u8 9, .int .u8 120] 5)) (some ⟨w3.heap.size, 0, none⟩) nb3 := has_row (heap_alloc_new w3 _)
  go_wp2_with fail
  refine Calls.mono (newReader_any (bs := nb3) (cap := 5) (by decide) h3) ?_
  rintro e w4 ⟨B3, R3, rfl, hr3, k4, hB3, hR3⟩
  have k4' : Kept (fun _ => True) w3 w4 := ((Kept.refl _ _).alloc _).trans k4
  have hB3' : w3.heap.size < B3 := by simp at hB3; omega
  have hR3' : w3.heap.size < R3 := by simp at hR3; omega
  have lB3 := hr3.lt
  have lR3 := hr3.rowlt
  have hw := hw.kept k4' trivial (fun _ _ => trivial)
  have hr1 := hr1.kept k4' trivial trivial
  have hr2 := hr2.kept k4' trivial trivial
  have k04 := k03.trans k4'
  clear k03 k4 k4' hB3 hR3 h3
  go_wp2_with fail
  refine Calls.mono (wbyte_any (-1) hw (by decide)) ?_
  rintro e w5 ⟨rfl, G5, v5, hw5, k5, n5⟩
  have g5 : ∀ x, G5 = some x → w4.heap.size ≤ x := fun x hx => by rcases n5 x hx with h | h; cases h; exact h
  have hr1 := hr1.kept k5 ⟨by omega, by simp⟩ ⟨by omega, by simp⟩
  have hr2 := hr2.kept k5 ⟨by omega, by simp⟩ ⟨by omega, by simp⟩
  have hr3 := hr3.kept k5 ⟨by omega, by simp⟩ ⟨by omega, by simp⟩
  have k05 : Kept (fun _ => True) w w5 := k04.then k5 (fun i hi _ => ⟨by omega, by simp⟩)
  have s5 := k5.size
  clear k04 k5 n5 hw
  go_wp2_with fail
  refine Calls.mono (weight_any (-2) hw5 (by decide)) ?_
  rw [T7.out]
  rintro e w6 ⟨rfl, G6, v6, hw6, k6, n6⟩
  have g6 : ∀ x, G6 = some x → w4.heap.size ≤ x := fun x hx => by rcases n6 x hx with h | h; exact g5 x h; omega
  have hr1 := hr1.kept k6 ⟨by omega, fun h => by have := g5 _ h; omega⟩ ⟨by omega, fun h => by have := g5 _ h; omega⟩
  have hr2 := hr2.kept k6 ⟨by omega, fun h => by have := g5 _ h; omega⟩ ⟨by omega, fun h => by have := g5 _ h; omega⟩
  have hr3 := hr3.kept k6 ⟨by omega, fun h => by have := g5 _ h; omega⟩ ⟨by omega, fun h => by have := g5 _ h; omega⟩
  have k06 : Kept (fun _ => True) w w6 := k05.then k6 (fun i hi _ => ⟨by omega, fun h => by have := g5 _ h; omega⟩)
  clear k05 k6 n6 hw5 g5
  go_wp2_with fail
  refine Calls.mono (four_any hr1) ?_
  rw [T1.out]
  rintro e w7 ⟨rfl, hr1, k7⟩
  have hw6 := hw6.kept k7 (by omega) (fun x hx => by have := g6 x hx; omega)
  have hr2 := hr2.kept k7 (by omega) (by omega)
  have hr3 := hr3.kept k7 (by omega) (by omega)
  have k07 : Kept (fun _ => True) w w7 := k06.then k7 (fun i hi _ => by omega)
  clear k06 k7
  go_wp2_with fail
  refine Calls.mono (end_any hr1) ?_
  rw [T2.out]
  rintro e _ ⟨rfl, n8, rfl⟩
  have k8 := (Kept.refl (fun _ => True) w7).drewN n8
  have hw6 := hw6.kept k8 trivial (fun _ _ => trivial)
  have hr2 := hr2.kept k8 trivial trivial
  have hr3 := hr3.kept k8 trivial trivial
  have k08 := k07.trans k8
  clear k8 k07 hr1
  generalize w7.drewN n8 = w8 at *
  go_wp2_with fail
  refine Calls.mono (byte_any hr2) ?_
  rw [T3.out]
  rintro e w9 ⟨rfl, hr2, k9⟩
  have hw6 := hw6.kept k9 (by omega) (fun x hx => by have := g6 x hx; omega)
  have hr3 := hr3.kept k9 (by omega) (by omega)
  have k09 : Kept (fun _ => True) w w9 := k08.then k9 (fun i hi _ => by omega)
  clear k08 k9
  go_wp2_with fail
  refine Calls.mono (end_any hr2) ?_
  rw [T4.out]
  rintro e _ ⟨rfl, n8, rfl⟩
  have k8 := (Kept.refl (fun _ => True) w9).drewN n8
  have hw6 := hw6.kept k8 trivial (fun _ _ => trivial)
  have hr3 := hr3.kept k8 trivial trivial
  have k010 := k09.trans k8
  clear k8 k09 hr2
  generalize w9.drewN n8 = w10 at *
  go_wp2_with fail
  refine Calls.mono (text_any 9 hr3) ?_
  rw [T5.out]
  rintro e w11 ⟨rfl, hr3, k11⟩
  have hw6 := hw6.kept k11 (by omega) (fun x hx => by have := g6 x hx; omega)
  have k011 : Kept (fun _ => True) w w11 := k010.then k11 (fun i hi _ => by omega)
  clear k010 k11
  go_wp2_with fail
  refine Calls.mono (end_any hr3) ?_
  rw [T6.out]
  rintro e _ ⟨rfl, n8, rfl⟩
  have k8 := (Kept.refl (fun _ => True) w11).drewN n8
  have hw6 := hw6.kept k8 trivial (fun _ _ => trivial)
  have k012 := k011.trans k8
  clear k8 k011 hr3
  generalize w11.drewN n8 = w12 at *
  go_wp2_with fail
  refine Calls.mono newWriter_any ?_
  rintro e w13 ⟨rfl, hx, k13, s13⟩
  have hw6 := hw6.kept k13 trivial (fun _ _ => trivial)
  have k013 := k012.trans k13
  clear k012 k13
  go_wp2_with fail
  refine Calls.mono (done_any hx (by decide)) ?_
  rintro e w14 ⟨D1, rfl, hD1, k14, hD10⟩
  have hw6 := hw6.kept k14 trivial (fun _ _ => trivial)
  have k014 := k013.trans k14
  clear k013 k14 hx
  go_wp2_with fail
  refine Calls.mono (done_any hw6 (by decide)) ?_
  rintro e w15 ⟨D2, rfl, hD2, k15, hD20⟩
  have k015 := k014.trans k15
  clear k014 k15 hw6
  rw [show nw.length = 9 from rfl]
  have hcv : (convert 26 9 (.slice (some ⟨D2, 0, none⟩) 9 9)).run Try.prog w15 = .ok (.string ⟨#[255, 255, 255, 255, 255, 255, 255, 255, 254]⟩) w15 := conv_row (bs := nw) (cap := 9) hD2
  go_wp2_with fail
  refine Calls.mono (known_any _) ?_
  rintro e w16 ⟨rfl, k16⟩
  go_wp2
  go_ret
  exact ⟨rfl, k015.trans k16⟩

end Go.Proofs.Ytlkkmggopoknaaa
