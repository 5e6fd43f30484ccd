/-
  The law's own 'known': chapter 4's run.
-/
import Derived.Test.YtabemdmapadaoaaD2
namespace Go.Proofs.Ytabemdmapadaoaa
open Go.RowKit

/-- A disk that was made behind w0. -/
structure Mine (t : TypeId) (w0 w : World) (B : Nat) (v : Value) (bs : List UInt8) (s : Nat) : Prop where
  now : Dk t w B v bs s
  kept : Kept (fun _ => True) w0 w
  b : w0.heap.size ≤ B
  row : ∀ x, v.ownBlock = some x → w0.heap.size ≤ x

theorem Mine.step {t : TypeId} {w0 w w' : World} {B : Nat} {v v' : Value} {bs bs' : List UInt8} {s s' : Nat} (h : Mine t w0 w B v bs s) (k : Step t w w' B v v' bs' s') : Mine t w0 w' B v' bs' s' :=
  ⟨k.now, (k.old h.kept h.b h.row).1, h.b, (k.old h.kept h.b h.row).2⟩
theorem Mine.ahead {t : TypeId} {w0 w w' : World} {B : Nat} {v : Value} {bs : List UInt8} {s : Nat} (h : Mine t w0 w B v bs s) (k : Kept (fun _ => True) w w') : Mine t w0 w' B v bs s :=
  ⟨h.now.kept k trivial (fun _ _ => trivial), h.kept.trans k, h.b, h.row⟩
theorem Mine.new {w w' : World} (h : Dk 50 w' w.heap.size (.slice none 0 0) [] 0) (k : Kept (fun _ => True) w w') : Mine 50 w w' w.heap.size (.slice none 0 0) [] 0 :=
  ⟨h, k, Nat.le_refl _, fun x hx => by cases hx⟩

set_option maxRecDepth 100000 in
set_option maxHeartbeats 1000000 in
theorem known_any (w : World) : Calls Try.prog 15 #[] w fun e w' => e = .returned (.bool true) ∧ Kept (fun _ => True) w w' := by
  go_enter Try.func15, Try.ntmps15
  go_wp2_with fail
  refine Calls.mono new_any ?_
  rintro e w1 ⟨rfl, d1, k1⟩
  have m1 : Hid (Mine 50 w w1 w.heap.size (.slice none 0 0) [] 0) := Mine.new d1 k1
  clear d1 k1
  generalize w.heap.size = B at *
  have cs : (convert 27 27 (.slice (some ⟨w1.heap.size, 0, none⟩) 2 2)).run Try.prog (w1.alloc (.cells #[.int .u8 97, .int .u8 98] 5)) = _ := conv_const w1 [97, 98] 2 2
  have h2 := has_row (heap_alloc_new w1 (.cells (cells [97, 98]).toArray 5 ((cells [97, 98]).toArray.size, (cells [97, 98]).toArray.size + 1)))
  have m2 : Hid (Mine 50 w _ B (.slice none 0 0) [] 0) := m1.out.ahead ((Kept.refl _ _).alloc (.cells (cells [97, 98]).toArray 5 ((cells [97, 98]).toArray.size, (cells [97, 98]).toArray.size + 1)))
  generalize w1.alloc (.cells (cells [97, 98]).toArray 5 ((cells [97, 98]).toArray.size, (cells [97, 98]).toArray.size + 1)) = w2 at *
  have c := append_any (cap := 2) m2.out.now h2 (by simp) (by simp)
  clear h2 m1
  go_wp2_with fail
  refine Calls.mono c ?_
  rintro e w3 ⟨rfl, v3, s3⟩
  clear c cs
  have m3 : Hid (Mine 50 w _ B v3 [97, 98] 0) := m2.out.step s3
  clear s3 m2
  have c := sync_any m3.out.now
  go_wp2_with fail
  refine Calls.mono c ?_
  rintro e w4 ⟨rfl, s4⟩
  clear c
  have m4 : Hid (Mine 50 w _ B v3 [97, 98] 2) := m3.out.step s4
  clear s4 m3
  have cs : (convert 27 27 (.slice (some ⟨w4.heap.size, 0, none⟩) 2 2)).run Try.prog (w4.alloc (.cells #[.int .u8 99, .int .u8 100] 5)) = _ := conv_const w4 [99, 100] 2 2
  have h5 := has_row (heap_alloc_new w4 (.cells (cells [99, 100]).toArray 5 ((cells [99, 100]).toArray.size, (cells [99, 100]).toArray.size + 1)))
  have m5 : Hid (Mine 50 w _ B v3 [97, 98] 2) := m4.out.ahead ((Kept.refl _ _).alloc (.cells (cells [99, 100]).toArray 5 ((cells [99, 100]).toArray.size, (cells [99, 100]).toArray.size + 1)))
  generalize w4.alloc (.cells (cells [99, 100]).toArray 5 ((cells [99, 100]).toArray.size, (cells [99, 100]).toArray.size + 1)) = w5 at *
  have c := append_any (cap := 2) m5.out.now h5 (by simp) (by simp)
  clear h5 m4
  go_wp2_with fail
  refine Calls.mono c ?_
  rintro e w6 ⟨rfl, v6, s6⟩
  clear c cs
  have m6 : Hid (Mine 50 w _ B v6 [97, 98, 99, 100] 2) := m5.out.step s6
  clear s6 m5
  have c := crash_any m6.out.now 1
  go_wp2_with fail
  refine Calls.mono c ?_
  rintro e w7 ⟨rfl, v7, s7⟩
  clear c
  have m7 : Hid (Mine 50 w _ B v7 [97, 98, 99] 3) := m6.out.step s7
  clear s7 m6
  have c := bytes_any m7.out.now
  go_wp2_with fail
  refine Calls.mono c ?_
  rintro e w8 ⟨rfl, r8, k8⟩
  clear c
  have m8 : Hid (Mine 50 w _ B v7 [97, 98, 99] 3) := m7.out.ahead k8
  have cv : (convert 27 9 (.slice (some ⟨w7.heap.size, 0, none⟩) 3 3)).run Try.prog w8 = .ok (.string ⟨#[97, 98, 99]⟩) w8 := conv_row (bs := [97, 98, 99]) r8
  clear r8 k8
  have c := safe_any m8.out.now
  go_wp2_with fail
  refine Calls.mono c ?_
  rintro e _ ⟨rfl, rfl⟩
  clear c
  go_wp2
  go_ret
  exact ⟨rfl, m8.out.kept⟩

end Go.Proofs.Ytabemdmapadaoaa
