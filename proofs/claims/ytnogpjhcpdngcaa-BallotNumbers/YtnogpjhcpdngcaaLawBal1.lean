/-
  BallotNumbers.
-/
import Derived.Test.YtnogpjhcpdngcaaB9
import Derived.Test.YtnogpjhcpdngcaaB10
import Derived.Lib.SlBytesConst
namespace Go.Proofs.Ytnogpjhcpdngcaa
open Go.RowKit

def numF : Vs := upd (upd (fun _ => none) 511 ⟨2, 1⟩ ⟨#[120]⟩) 5 ⟨2, 1⟩ ⟨#[122]⟩

theorem num_six : votesFrom numF 6 = [⟨511, ⟨2, 1⟩, ⟨#[120]⟩⟩] := by kernel_rfl
theorem num_all : votesUp numF 0 512 = [⟨5, ⟨2, 1⟩, ⟨#[122]⟩⟩, ⟨511, ⟨2, 1⟩, ⟨#[120]⟩⟩] := by kernel_rfl
theorem num_gone : votesUp (forgot numF 512) 0 512 = [] := by kernel_rfl
theorem num_fine : Fine ⟨2, 1⟩ numF := by
  have key : ∀ s x, numF s = some x → x.1 = ⟨2, 1⟩ ∧ x.2.size < 4294967296 := by
    intro s x h
    unfold numF upd at h
    split at h
    · cases h; exact ⟨rfl, by decide⟩
    · split at h
      · cases h; exact ⟨rfl, by decide⟩
      · cases h
  refine ⟨fun s x h => ?_, fun s x h => ?_, fun s x h => ?_⟩
  · rw [(key s x h).1]
    exact ⟨by unfold I64; decide, by unfold I64; decide, (key s x h).2⟩
  · rw [(key s x h).1]; decide
  · rw [(key s x h).1]; decide
def noSave : List UInt8 := [110, 111, 32, 115, 97, 118, 101, 32, 101, 118, 101, 114]
theorem no_save : load noSave = none := by kernel_rfl
theorem Ac.same {w : World} {A M n : Nat} {p : Bl} {f g : Vs} (h : Ac w A M n p g) (hg : ∀ s, s < 512 → g s = f s) : Ac w A M n p f := ⟨h.self, h.mp.congr (fun s hs => (hg s hs).symm)⟩
theorem saved_len : (saved ⟨2, 1⟩ (votesUp numF 0 512)).length ≤ 140737488355328 := by
  rw [num_all]
  decide

theorem conv_const (w : World) (bs : List UInt8) (n c : Nat) : (convert 32 32 (.slice (some ⟨w.heap.size, 0, none⟩) n c)).run Try.prog (w.alloc (.cells (cells bs).toArray 5)) = .ok (.slice (some ⟨w.heap.size, 0, none⟩) n c) (w.alloc (.cells (cells bs).toArray 5 ((cells bs).toArray.size, (cells bs).toArray.size + 1))) :=
  Lib.run_convert_bytes_const (P := Try.prog) w 32 5 (cells bs).toArray n c Try.underlying32 Try.underlying5

set_option maxRecDepth 100000 in
set_option maxHeartbeats 2000000 in
theorem ballotNumbers_any {w : World} :
    Calls Try.prog 3 #[] w fun e w' => e = .returned (.bool true) ∧ Kept (fun _ => True) w w' := by
  go_enter Try.func3, Try.ntmps3
  go_wp2_with fail
  refine Calls.mono new_any ?_
  rintro e w1 ⟨A, M, rfl, h1, k1, a1, m1⟩
  have H1 : Hid (AM w w1 A M 0 ⟨0, 0⟩ (fun _ => none)) := ⟨h1, k1, a1, m1⟩
  clear h1 k1 a1 m1
  go_wp2_with fail
  refine Calls.mono (accept_any H1.out.ac (by decide) ⟨0, 0⟩ 0 ⟨#[120]⟩ true (by decide)) ?_
  rintro e w2 ⟨rfl, h2, k2⟩
  have H2 : Hid (AM w w2 A M 1 ⟨0, 0⟩ (fun _ => none)) := H1.out.step (by simpa using h2) k2
  clear h2 k2 H1
  go_wp2_with fail
  refine Calls.mono (accept_any H2.out.ac (by decide) ⟨2, 1⟩ 512 ⟨#[120]⟩ true (by decide)) ?_
  rintro e w3 ⟨rfl, h3, k3⟩
  have H3 : Hid (AM w w3 A M 2 ⟨0, 0⟩ (fun _ => none)) := H2.out.step (by simpa using h3) k3
  clear h3 k3 H2
  go_wp2_with fail
  refine Calls.mono (accept_any H3.out.ac (by decide) ⟨2, 1⟩ 511 ⟨#[120]⟩ false (by decide)) ?_
  rintro e w4 ⟨rfl, h4, k4⟩
  have H4 : Hid (AM w w4 A M 3 ⟨2, 1⟩ (upd (fun _ => none) 511 ⟨2, 1⟩ ⟨#[120]⟩)) := H3.out.step (by simpa using h4) k4
  clear h4 k4 H3
  go_wp2_with fail
  refine Calls.mono (accept_any H4.out.ac (by decide) ⟨2, 0⟩ 0 ⟨#[121]⟩ true (by decide)) ?_
  rintro e w5 ⟨rfl, h5, k5⟩
  have H5 : Hid (AM w w5 A M 4 ⟨2, 1⟩ (upd (fun _ => none) 511 ⟨2, 1⟩ ⟨#[120]⟩)) := H4.out.step (by simpa using h5) k5
  clear h5 k5 H4
  go_wp2_with fail
  refine Calls.mono (accept_any H5.out.ac (by decide) ⟨2, 1⟩ 5 ⟨#[122]⟩ false (by decide)) ?_
  rintro e w6 ⟨rfl, h6, k6⟩
  have H6 : Hid (AM w w6 A M 5 ⟨2, 1⟩ numF) := H5.out.step (by simpa [numF] using h6) k6
  clear h6 k6 H5
  go_wp2_with fail
  refine Calls.mono (votes_any H6.out.ac 6) ?_
  rintro e w7 ⟨v7, rfl, r7, k7, -⟩
  rw [num_six] at r7
  obtain ⟨a7, c7, rfl, g7⟩ := r7.shape
  obtain ⟨G7, rfl⟩ := g7 (by decide)
  have H7 : Hid (AM w w7 A M 5 ⟨2, 1⟩ numF) := H6.out.ahead k7
  have R7 : Hid (VR w7 (.slice (some ⟨G7, 0, none⟩) 1 c7) [⟨511, ⟨2, 1⟩, ⟨#[120]⟩⟩]) := r7
  clear r7 k7 g7 H6
  simp only [List.length_cons, List.length_nil, Nat.zero_add]
  go_wp2_with fail
  refine Calls.mono (save_any H7.out.ac saved_len) ?_
  rintro e w8 ⟨D, rfl, h8, k8, -⟩
  obtain ⟨gl, hgl, hgs⟩ := load_saved num_fine (by decide) (by unfold I64; decide) (by unfold I64; decide)
  have cl := load_any (w := w8) (bs := saved ⟨2, 1⟩ (votesUp numF 0 512)) (cap := (saved ⟨2, 1⟩ (votesUp numF 0 512)).length) (ao := some ⟨D, 0, none⟩) (by have := saved_len; omega) (row_has h8)
  have H8 : Hid (AM w w8 A M 5 ⟨2, 1⟩ numF) := H7.out.ahead k8
  have R8 : Hid (VR w8 (.slice (some ⟨G7, 0, none⟩) 1 c7) [⟨511, ⟨2, 1⟩, ⟨#[120]⟩⟩]) := R7.out.all k8
  clear h8 k8 H7 R7
  generalize saved ⟨2, 1⟩ (votesUp numF 0 512) = sv at *
  go_wp2_with fail
  refine Calls.mono cl ?_
  rintro e w9 ⟨h9, k9⟩
  rcases h9 with ⟨h9, -⟩ | ⟨A9, M9, n9, p9, f9, e9, rfl, h9, -, a9, m9⟩
  · rw [hgl] at h9; cases h9
  rw [hgl] at e9
  simp only [Option.some.injEq, Prod.mk.injEq] at e9
  obtain ⟨rfl, rfl⟩ := e9
  have h9' := h9.same hgs
  have Hk : Hid (AM w8 w9 A9 M9 n9 ⟨2, 1⟩ numF) := ⟨h9', k9, a9, m9⟩
  have H9 : Hid (AM w w9 A M 5 ⟨2, 1⟩ numF) := H8.out.ahead k9
  have hAA : Hid (A9 ≠ A ∧ A9 ≠ M ∧ M9 ≠ A ∧ M9 ≠ M) := by
    have := H8.out.ac.lt
    have := H8.out.ac.mlt
    refine ⟨?_, ?_, ?_, ?_⟩ <;> omega
  have R9 : Hid (VR w9 (.slice (some ⟨G7, 0, none⟩) 1 c7) [⟨511, ⟨2, 1⟩, ⟨#[120]⟩⟩]) := R8.out.all k9
  clear h9 h9' k9 H8 R8 cl a9 m9 hgl hgs
  have cs : (convert 32 32 (.slice (some ⟨w9.heap.size, 0, none⟩) 12 12)).run Try.prog (w9.alloc (.cells #[.int .u8 110, .int .u8 111, .int .u8 32, .int .u8 115, .int .u8 97, .int .u8 118, .int .u8 101, .int .u8 32, .int .u8 101, .int .u8 118, .int .u8 101, .int .u8 114] 5)) = _ := conv_const w9 noSave 12 12
  go_wp2_with fail
  have k10 : Kept (fun _ => True) w9 (w9.alloc (.cells (cells noSave).toArray 5 ((cells noSave).toArray.size, (cells noSave).toArray.size + 1))) := (Kept.refl _ _).alloc _
  have cn := load_any (bs := noSave) (cap := 12) (by decide) (row_has (heap_alloc_new w9 (.cells (cells noSave).toArray 5 ((cells noSave).toArray.size, (cells noSave).toArray.size + 1))))
  have H10 : Hid (AM w _ A M 5 ⟨2, 1⟩ numF) := H9.out.ahead k10
  have Hk10 : Hid (AM w8 _ A9 M9 n9 ⟨2, 1⟩ numF) := Hk.out.ahead k10
  have R10 : Hid (VR _ (.slice (some ⟨G7, 0, none⟩) 1 c7) [⟨511, ⟨2, 1⟩, ⟨#[120]⟩⟩]) := R9.out.all k10
  clear H9 Hk R9 cs k10
  generalize w9.alloc (.cells (cells noSave).toArray 5 ((cells noSave).toArray.size, (cells noSave).toArray.size + 1)) = w10 at *
  generalize w9.heap.size = N0 at *
  refine Calls.mono cn ?_
  rintro e w11 ⟨h11, k11⟩
  rcases h11 with ⟨-, rfl⟩ | ⟨_, _, _, _, _, h11, _⟩
  rotate_left
  · rw [no_save] at h11; cases h11
  have H11 : Hid (AM w w11 A M 5 ⟨2, 1⟩ numF) := H10.out.ahead k11
  have Hk11 : Hid (AM w8 w11 A9 M9 n9 ⟨2, 1⟩ numF) := Hk10.out.ahead k11
  have R11 : Hid (VR w11 (.slice (some ⟨G7, 0, none⟩) 1 c7) [⟨511, ⟨2, 1⟩, ⟨#[120]⟩⟩]) := R10.out.all k11
  clear H10 Hk10 R10 k11 cn
  go_wp2_with fail
  refine Calls.mono (forget_any H11.out.ac 512) ?_
  rintro e w12 ⟨rfl, h12, k12⟩
  have H12 : Hid (AM w w12 A M 5 ⟨2, 1⟩ (forgot numF 512)) := H11.out.step h12 k12
  have Hk12 : Hid (Ac w12 A9 M9 n9 ⟨2, 1⟩ numF) := Hk11.out.ac.kept k12 ⟨hAA.out.1, hAA.out.2.1⟩ ⟨hAA.out.2.2.1, hAA.out.2.2.2⟩
  have R12 : Hid (VR w12 (.slice (some ⟨G7, 0, none⟩) 1 c7) [⟨511, ⟨2, 1⟩, ⟨#[120]⟩⟩]) := R11.out.kept k12 (H11.out.vr R11.out)
  clear h12 k12 H11 Hk11 R11
  have q := (R12.out.cells 0 (by decide)).2.2.2
  simp only [Nat.zero_mul, Nat.zero_add, List.getElem_cons_zero] at q
  go_wp2_with fail
  refine Calls.mono (promised_any Hk12.out) ?_
  rintro e w13 ⟨rfl, k13⟩
  have H13 : Hid (AM w w13 A M 5 ⟨2, 1⟩ (forgot numF 512)) := H12.out.ahead k13
  have Hk13 : Hid (Ac w13 A9 M9 n9 ⟨2, 1⟩ numF) := Hk12.out.all k13
  clear k13 H12 Hk12 R12 q
  go_wp2_with fail
  refine Calls.mono (votes_any Hk13.out 0) ?_
  rintro e w14 ⟨v14, rfl, r14, k14, -⟩
  have r14' : VR w14 v14 [⟨5, ⟨2, 1⟩, ⟨#[122]⟩⟩, ⟨511, ⟨2, 1⟩, ⟨#[120]⟩⟩] := by rw [← num_all]; exact r14
  obtain ⟨a14, c14, rfl, -⟩ := r14'.shape
  have H14 : Hid (AM w w14 A M 5 ⟨2, 1⟩ (forgot numF 512)) := H13.out.ahead k14
  clear k14 H13 Hk13 r14 r14'
  simp only [List.length_cons, List.length_nil, Nat.zero_add, Nat.reduceAdd]
  go_wp2_with fail
  refine Calls.mono (votes_any H14.out.ac 0) ?_
  rintro e w15 ⟨v15, rfl, r15, k15, -⟩
  have r15' : VR w15 v15 [] := by rw [← num_gone]; exact r15
  obtain ⟨a15, c15, rfl, -⟩ := r15'.shape
  have H15 : Hid (AM w w15 A M 5 ⟨2, 1⟩ (forgot numF 512)) := H14.out.ahead k15
  clear k15 H14 r15 r15'
  simp only [List.length_nil]
  go_wp2_with fail
  refine Calls.mono (less_raw _ _ _ _) ?_
  rintro e w16 ⟨rfl, k16⟩
  rw [show less ⟨1, 9⟩ ⟨2, 0⟩ = true from by decide]
  go_wp2_with fail
  refine Calls.mono (less_raw _ _ _ _) ?_
  rintro e w17 ⟨rfl, k17⟩
  rw [show less ⟨1, 1⟩ ⟨1, 1⟩ = false from by decide]
  go_wp2_with fail
  refine Calls.mono known_any ?_
  rintro e w18 ⟨rfl, k18⟩
  go_wp2
  go_ret
  exact ⟨rfl, H15.out.kept.trans (k16.trans (k17.trans k18))⟩

end Go.Proofs.Ytnogpjhcpdngcaa
