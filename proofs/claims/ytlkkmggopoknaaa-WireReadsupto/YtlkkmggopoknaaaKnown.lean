/-
  The statements' own helper 'known': it answers true, and turns nothing that was there.
-/
import Derived.Test.YtlkkmggopoknaaaWr3
namespace Go.Proofs.Ytlkkmggopoknaaa
open Go.RowKit

/-- A slice over a row that is known whole. -/
theorem has_row {w : World} {D : Nat} {bs : List UInt8} {fr : Nat × Nat} (h : w.heap[D]? = some (.cells (cells bs).toArray 5 fr)) : Has w (some ⟨D, 0, none⟩) bs := by
  intro _
  refine ⟨_, rfl, fun j hj => ?_⟩
  have e : (⟨D, 0, none⟩ : Addr).add j = ⟨D, j, none⟩ := by simp [Addr.add]; omega
  rw [e]
  exact row_cells h (List.take_of_length_le (by simp [cells_length])) j hj
/-- string(b) of such a slice. -/
theorem conv_row {w : World} {D cap : Nat} {bs : List UInt8} {fr : Nat × Nat} (h : w.heap[D]? = some (.cells (cells bs).toArray 5 fr)) :
    (convert 26 9 (.slice (some ⟨D, 0, none⟩) bs.length cap)).run Try.prog w = .ok (.string ⟨bs.toArray⟩) w := by
  refine conv_run w _ cap bs (fun j hj => ?_)
  have e : (⟨D, 0, none⟩ : Addr).add j = ⟨D, j, none⟩ := by simp [Addr.add]; omega
  rw [e]
  exact row_cells h (List.take_of_length_le (by simp [cells_length])) j hj

def kb : List UInt8 := [0, 0, 0, 2, 97, 98]
def kw : List UInt8 := [0, 0, 1, 2, 0, 0, 0, 2, 97, 98]

set_option maxRecDepth 100000 in
set_option maxHeartbeats 1000000 in
theorem known_any (w : World) : Calls Try.prog 18 #[] w fun e w' => e = .returned (.bool true) ∧ Kept (fun _ => True) w w' := by
  have t1 : ((⟨0, 0⟩ : RS).text kb 1) = ([], ⟨0, 3⟩) := by kernel_rfl
  have t2 : ((⟨0, 3⟩ : RS).end_ kb) = (3, 0) := by kernel_rfl
  have t3 : ([] ++ enc (u64 258) 4) ++ enc (u64 (⟨#[97, 98]⟩ : ByteArray).size) 4 ++ (⟨#[97, 98]⟩ : ByteArray).data.toList = kw := by kernel_rfl
  have T1 : Hid (((⟨0, 0⟩ : RS).text kb 1) = ([], ⟨0, 3⟩)) := t1
  have T2 : Hid (((⟨0, 3⟩ : RS).end_ kb) = (3, 0)) := t2
  have T3 : Hid (([] ++ enc (u64 258) 4) ++ enc (u64 (⟨#[97, 98]⟩ : ByteArray).size) 4 ++ (⟨#[97, 98]⟩ : ByteArray).data.toList = kw) := t3
  clear t1 t2 t3
  go_enter Try.func18, Try.ntmps18
  go_wp2_with (go_at_call 9; refine newWriter_any.mono ?_; rintro e w1 ⟨rfl, hw, hk1, hs1⟩)
  have hh : Has (w1.alloc (.cells #[.int .u8 0, .int .u8 0, .int .u8 0, .int .u8 2, .int .u8 97, .int .u8 98] 5)) (some ⟨w1.heap.size, 0, none⟩) kb := has_row (heap_alloc_new w1 _)
  go_wp2_with (go_at_call 10; refine Calls.mono (newReader_any (bs := kb) (cap := 6) (by decide) hh) ?_; rintro e w2 ⟨B, R, rfl, hr, hk2, hB, hR⟩)
  have hBl := hr.lt
  have hRl := hr.rowlt
  have hB0 : w.heap.size < B := by simp at hB; omega
  have hR0 : w.heap.size < R := by simp at hR; omega
  have hw2 := hw.kept (((Kept.refl (fun _ => True) w1).alloc _).trans hk2) trivial (fun _ _ => trivial)
  have k02 : Kept (fun _ => True) w w2 := (hk1.alloc _).trans hk2
  clear hw hk1 hk2 hh
  refine Calls.mono (wfour_any 258 hw2 (by decide)) ?_
  rintro e w3 ⟨rfl, G3, v3, hw3, k3, n3⟩
  have hr3 := hr.kept k3 ⟨by omega, by simp⟩ ⟨by omega, by simp⟩
  have g3 : ∀ x, G3 = some x → w2.heap.size ≤ x := fun x hx => by rcases n3 x hx with h | h; cases h; exact h
  have k03 : Kept (fun _ => True) w w3 := k02.then k3 (fun i hi _ => ⟨by omega, by simp⟩)
  have s3 := k3.size
  clear hw2 hr k3 n3 k02
  go_wp2_with fail
  refine Calls.mono (wtext_any ⟨#[97, 98]⟩ hw3 (by decide)) ?_
  rintro e w4 ⟨rfl, G4, v4, hw4, k4, n4⟩
  have hr4 := hr3.kept k4 ⟨by omega, fun h => by have := g3 _ h; omega⟩ ⟨by omega, fun h => by have := g3 _ h; omega⟩
  have g4 : ∀ x, G4 = some x → w2.heap.size ≤ x := fun x hx => by rcases n4 x hx with h | h; exact g3 x h; omega
  have k04 : Kept (fun _ => True) w w4 := k03.then k4 (fun i hi _ => ⟨by omega, fun h => by have := g3 _ h; omega⟩)
  rw [T3.out] at hw4
  clear hw3 hr3 k4 n4 k03 g3
  go_wp2_with fail
  refine Calls.mono (text_any 1 hr4) ?_
  rw [T1.out]
  rintro e w5 ⟨rfl, hr5, k5⟩
  have hw5 := hw4.kept k5 (by omega) (fun x hx => by have := g4 x hx; omega)
  have k05 : Kept (fun _ => True) w w5 := k04.then k5 (fun i hi _ => by omega)
  clear hw4 hr4 k5 k04
  go_wp2_with fail
  refine Calls.mono (end_any hr5) ?_
  rw [T2.out]
  rintro e w6 ⟨rfl, nd, rfl⟩
  have hw6 := hw5.kept ((Kept.refl (fun _ => True) w5).drewN nd) trivial (fun _ _ => trivial)
  go_wp2_with fail
  refine Calls.mono (done_any hw6 (by decide)) ?_
  rintro e w7 ⟨D, rfl, hD, k7, hD0⟩
  rw [show kw.length = 10 from rfl]
  have hcv : (convert 26 9 (.slice (some ⟨D, 0, none⟩) 10 10)).run Try.prog w7 = .ok (.string ⟨#[0, 0, 1, 2, 0, 0, 0, 2, 97, 98]⟩) w7 := conv_row (bs := kw) (cap := 10) hD
  go_wp2
  go_ret
  exact ⟨rfl, (k05.drewN nd).trans k7⟩

end Go.Proofs.Ytlkkmggopoknaaa
