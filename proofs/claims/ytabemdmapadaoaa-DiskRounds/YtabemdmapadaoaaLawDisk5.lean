/-
  DiskRounds: whatever the rounds and what is kept: true, and nothing old is written.
-/
import Derived.Test.YtabemdmapadaoaaDCut
import Derived.Test.YtabemdmapadaoaaDRows
import Derived.Test.YtabemdmapadaoaaSWithin
namespace Go.Proofs.Ytabemdmapadaoaa
open Go.RowKit

/-- s[:k] of a text. -/
theorem cut_text (bs : List UInt8) (k : Nat) (hk : k ≤ bs.length) (w0 : World) : (Instr.slice 9 (.string ⟨bs.toArray⟩) none (some (.int .i64 (k : Int))) none).run Try.prog w0 = .ok (.string ⟨(bs.take k).toArray⟩) w0 := by
  have hs : ((⟨bs.toArray⟩ : ByteArray).size : Int) = (bs.length : Int) := by simp [ByteArray.size]
  rw [run_slice_string_to_if (P := Try.prog) w0 9 ⟨bs.toArray⟩ .i64 k Try.underlying9, if_pos ⟨by omega, by omega⟩]
  congr 2
  apply ByteArray.ext
  simp

def lost : List UInt8 := [108, 111, 115, 116]

set_option maxRecDepth 100000 in
set_option maxHeartbeats 4000000 in
theorem diskRounds_any {w : World} {a b : Option Addr} {na ca nb cb : Nat} (ha : IsRows w a na) (hb : IsInts w b nb) :
    Calls Try.prog 7 #[.slice a na ca, .slice b nb cb] w fun e w' => e = .returned (.bool true) ∧ Kept (fun _ => True) w w' := by
  have HA : Hid (IsRows w a na) := ha
  have HB : Hid (IsInts w b nb) := hb
  clear ha hb
  go_enter Try.func7, Try.ntmps7
  go_wp2_with fail
  refine Calls.mono new_any ?_
  rintro e w1 ⟨rfl, d1, k1⟩
  have m1 : Hid (Mine 50 w w1 w.heap.size (.slice none 0 0) [] 0) := Mine.new d1 k1
  clear d1 k1
  generalize w.heap.size = D at *
  go_wp2
  go_loopw [7, 6] (fun t s wr => ∃ (k : Nat) (P : List UInt8) (v : Value), k ≤ 12 ∧ t = .int .i64 k ∧ s = .string ⟨P.toArray⟩ ∧ P.length ≤ 100 * k ∧ Mine 50 w wr D v P P.length) (fun t _ _ => 12 - (intOf t).toNat)
  case atStart => exact ⟨0, [], _, Nat.zero_le _, rfl, rfl, Nat.zero_le _, m1.out⟩
  case round =>
    clear m1
    obtain ⟨k, P, v, hk, rfl, rfl, hP, hm⟩ := hrel
    have m : Hid (Mine 50 w wr D v P P.length) := hm
    clear hm
    by_cases hlt : k < na ∧ k < 12
    · obtain ⟨hl1, hl2⟩ := hlt
      obtain ⟨ab, ao, x, rfl, hab, hx, aX, cX, X0, rfl, hX0, nX, lX⟩ := HA.out k hl1
      obtain ⟨X, hX, -, hHX, hcX, hsX⟩ := cut_to 100 hX0 nX lX
      replace hsX : ((100 : Int) < (X0.length : Int) ∧ ∀ w0, (Instr.slice 27 (.slice aX X0.length cX) none (some (.int .i64 100)) none).run Try.prog w0 = .ok (.slice aX X.length cX) w0) ∨ (¬ (100 : Int) < (X0.length : Int) ∧ X = X0) := hsX
      have q1 : wr.cell? ⟨ab, ao + k, none⟩ = some (.slice aX X0.length cX) := (kept_cell m.out.kept hab trivial).trans hx
      have NX : Hid (aX = none → cX = 0) := nX
      have HX : Hid (Has w aX X) := hHX
      have g1 : (k : Int) < (na : Int) := by omega
      have g2 : (k : Int) < 12 := by omega
      have g0 : (0 : Int) ≤ (k : Int) := by omega
      clear hx hX0 nX hHX
      rcases hsX with ⟨gX, hsX⟩ | ⟨gX, rfl⟩
      all_goals
        have c := append_any (cap := cX) m.out.now (HX.out.kept m.out.kept (fun _ _ => trivial)) NX.out (by omega)
        go_wp2_with fail
        refine Calls.mono c ?_
        rintro e w2 ⟨rfl, v2, s2⟩
        clear c
        have m2 : Hid (Mine 50 w w2 D v2 (P ++ X) P.length) := m.out.step s2
        clear s2 m q1
        have c := sync_any m2.out.now
        go_wp2_with fail
        refine Calls.mono c ?_
        rintro e w3 ⟨rfl, s3⟩
        clear c
        have hcat := text_cat P X
        have hsz : ¬ (9223372036854775807 < (⟨P.toArray⟩ : ByteArray).size + (⟨X.toArray⟩ : ByteArray).size) := by simp [ByteArray.size]; omega
        obtain ⟨R, hR⟩ : ∃ R, R = P ++ X := ⟨_, rfl⟩
        have lR : R.length ≤ 100 * (k + 1) := by rw [hR, List.length_append]; omega
        have m3 : Hid (Mine 50 w w3 D v2 R R.length) := by rw [hR]; exact m2.out.step s3
        rw [← hR] at hcat
        clear s3 m2 hR
        have hcx : (convert 27 9 (.slice aX X.length cX)).run Try.prog w3 = .ok (.string ⟨X.toArray⟩) w3 := conv_sl ⟨aX, cX, rfl, NX.out, HX.out.kept m3.out.kept (fun _ _ => trivial)⟩
        have cs : (convert 27 27 (.slice (some ⟨w3.heap.size, 0, none⟩) 4 4)).run Try.prog (w3.alloc (.cells #[.int .u8 108, .int .u8 111, .int .u8 115, .int .u8 116] 5)) = _ := conv_const w3 lost 4 4
        have h4 := has_row (heap_alloc_new w3 (.cells (cells lost).toArray 5 ((cells lost).toArray.size, (cells lost).toArray.size + 1)))
        have m4 : Hid (Mine 50 w _ D v2 R R.length) := m3.out.ahead ((Kept.refl _ _).alloc (.cells (cells lost).toArray 5 ((cells lost).toArray.size, (cells lost).toArray.size + 1)))
        generalize w3.alloc (.cells (cells lost).toArray 5 ((cells lost).toArray.size, (cells lost).toArray.size + 1)) = w4 at *
        have c := append_any (cap := 4) m4.out.now h4 (by simp) (by simp [lost]; omega)
        clear h4 m3
        go_wp2_with fail
        refine Calls.mono c ?_
        rintro e w5 ⟨rfl, v5, s5⟩
        clear c cs hcx hcat hsz
        have m5 : Hid (Mine 50 w w5 D v5 (R ++ lost) R.length) := m4.out.step s5
        clear s5 m4
        go_upto_if 50 with fail
        go_cut [9] from 47 to 55 (fun s wx => (∃ j : Nat, j ≤ 4 ∧ s = .int .i64 j) ∧ w5 = wx)
        case first =>
          by_cases hkb : k < nb
          · obtain ⟨bb, bo, z, rfl, hbb, hz⟩ := HB.out k hkb
            have q2 : w5.cell? ⟨bb, bo + k, none⟩ = some (.int .i64 z) := (kept_cell m5.out.kept hbb trivial).trans hz
            have g3 : (k : Int) < (nb : Int) := by omega
            clear hz
            go_wp2_with (go_at_call 22; refine Calls.mono (within_any z 4 (by decide)) ?_; rintro e w5 ⟨⟨j, hj, rfl⟩, rfl⟩)
            go_meet
            exact ⟨⟨j, hj, rfl⟩, rfl⟩
          · have g3 : ¬ ((k : Int) < (nb : Int)) := by omega
            go_wp2_with fail
            go_meet
            exact ⟨⟨0, by omega, rfl⟩, rfl⟩
        case rest =>
        obtain ⟨⟨j, hj, rfl⟩, rfl⟩ := hcut
        have c := crash_any m5.out.now j
        go_wp2_with fail
        refine Calls.mono c ?_
        rintro e w6 ⟨rfl, v6, s6⟩
        clear c
        obtain ⟨e1, e2⟩ := left_two R lost j
        rw [show min (j : Int).toNat lost.length = j by simp [lost]; omega] at e1 e2
        rw [e1, e2] at s6
        clear e1 e2
        obtain ⟨T, hT⟩ : ∃ T, T = R ++ lost.take j := ⟨_, rfl⟩
        obtain ⟨N, hN⟩ : ∃ N, N = R.length + j := ⟨_, rfl⟩
        have hcat := text_cat R (lost.take j)
        rw [← hT] at hcat
        have m6 : Hid (Mine 50 w w6 D v6 T N) := by rw [hT, hN]; exact m5.out.step s6
        clear s6 m5
        have hsl : ∀ w0, (Instr.slice 9 (.string ⟨#[108, 111, 115, 116]⟩) none (some (.int .i64 (j : Int))) none).run Try.prog w0 = .ok (.string ⟨(lost.take j).toArray⟩) w0 := cut_text lost j (by simp [lost]; omega)
        have hsz : ¬ (9223372036854775807 < (⟨R.toArray⟩ : ByteArray).size + (⟨(lost.take j).toArray⟩ : ByteArray).size) := by simp [ByteArray.size, lost]; omega
        have lT : Hid (R.length ≤ T.length ∧ T.take R.length = R ∧ min N R.length = R.length) := ⟨by rw [hT]; simp, by rw [hT]; simp, by omega⟩
        have hs1 : (R.length : Int) + (j : Int) = (N : Int) := by omega
        have hs2 : IntKind.i64.wrap (N : Int) = (N : Int) := by simp [IntKind.wrap, IntKind.bits, IntKind.signed]; omega
        generalize (⟨(lost.take j).toArray⟩ : ByteArray) = sL at *
        clear hT hN
        go_wp2
        go_region_held (fun _ => True) (trivial) (first
          | (go_at_call 14; refine Calls.mono (bytes_any (m6.out.ahead ((Kept.refl _ _).drewN 1)).now) ?_; rintro e w8 ⟨rfl, r8, k8⟩; have k8' : Kept (fun _ => True) w6 w8 := ((Kept.refl _ _).drewN 1).trans k8; have cv : (convert 27 9 (.slice (some ⟨w6.heap.size, 0, none⟩) T.length T.length)).run Try.prog w8 = .ok (.string ⟨T.toArray⟩) w8 := conv_row (cap := T.length) r8; have m8 : Hid (Mine 50 w w8 D v6 T N) := m6.out.ahead k8'; clear r8 k8 k8')
          | (go_at_call 13; refine Calls.mono (safe_any m8.out.now) ?_; rintro e w8 ⟨rfl, rfl⟩)
          | (go_at_call 11; refine Calls.mono (cut_any m8.out.now R.length lT.out.1) ?_; rintro e w9 ⟨rfl, v9, s9⟩))
        all_goals
          rw [lT.out.2.1, lT.out.2.2] at s9
          have m9 : Hid (Mine 50 w w9 D v9 R R.length) := m8.out.step s9
          clear s9 m8 m6 lT hs1 hs2 hcat hsz hsl cv
          go_wp2_with fail
          go_roundw
          case rel => exact ⟨k + 1, R, v9, by omega, by go_num, rfl, lR, m9.out⟩
          case measure => simp [intOf]; omega
    · have hcond : ¬ ((k : Int) < (na : Int)) ∨ ((k : Int) < (na : Int) ∧ ¬ ((k : Int) < 12)) := by omega
      have c := bytes_any m.out.now
      have lP : P.length ≤ 1200 := by omega
      rcases hcond with g1 | ⟨g1, g2⟩
      all_goals
        go_wp2_with fail
        refine Calls.mono c ?_
        rintro e w8 ⟨rfl, r8, k8⟩
        clear c
        have cv : (convert 27 9 (.slice (some ⟨wr.heap.size, 0, none⟩) P.length P.length)).run Try.prog w8 = .ok (.string ⟨P.toArray⟩) w8 := conv_row (cap := P.length) r8
        have k9 := m.out.kept.trans k8
        clear r8 k8 m
        go_wp2_with fail
        refine Calls.mono (known_any _) ?_
        rintro e w10 ⟨rfl, k10⟩
        go_wp2
        go_ret
        exact ⟨rfl, k9.trans k10⟩

end Go.Proofs.Ytabemdmapadaoaa
