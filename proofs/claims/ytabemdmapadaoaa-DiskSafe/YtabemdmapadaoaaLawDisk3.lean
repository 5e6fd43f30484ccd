/-
  DiskSafe: whatever the bytes and what is kept: true, and nothing old is written.
-/
import Derived.Test.YtabemdmapadaoaaDCut
namespace Go.Proofs.Ytabemdmapadaoaa
open Go.RowKit


set_option maxRecDepth 100000 in
set_option maxHeartbeats 1000000 in
theorem diskSafe_any {w : World} {a b : Option Addr} {ca cb : Nat} {xs ys : List UInt8} (keep : Int) (ha : Has w a xs) (hb : Has w b ys) (na : a = none → ca = 0) (nb : b = none → cb = 0) (la : xs.length ≤ ca) (lb : ys.length ≤ cb) :
    Calls Try.prog 5 #[.slice a xs.length ca, .slice b ys.length cb, .int .i64 keep] w fun e w' => e = .returned (.bool true) ∧ Kept (fun _ => True) w w' := by
  obtain ⟨A, hA, -, hHA, hcA, hsA⟩ := cut_to 500 ha na la
  obtain ⟨B, hB, -, hHB, hcB, hsB⟩ := cut_to 500 hb nb lb
  replace hsA : ((500 : Int) < (xs.length : Int) ∧ ∀ w0, (Instr.slice 27 (.slice a xs.length ca) none (some (.int .i64 500)) none).run Try.prog w0 = .ok (.slice a A.length ca) w0) ∨ (¬ (500 : Int) < (xs.length : Int) ∧ A = xs) := hsA
  replace hsB : ((500 : Int) < (ys.length : Int) ∧ ∀ w0, (Instr.slice 27 (.slice b ys.length cb) none (some (.int .i64 500)) none).run Try.prog w0 = .ok (.slice b B.length cb) w0) ∨ (¬ (500 : Int) < (ys.length : Int) ∧ B = ys) := hsB
  have NA : Hid (a = none → ca = 0) := na
  have NB : Hid (b = none → cb = 0) := nb
  have HA : Hid (Has w a A) := hHA
  have HB : Hid (Has w b B) := hHB
  obtain ⟨K, hK⟩ : ∃ K, K = min keep.toNat B.length := ⟨_, rfl⟩
  obtain ⟨X, hX⟩ : ∃ X : Int, X = K := ⟨_, rfl⟩
  have hkeep : X = min (max keep 0) B.length := by omega
  have hkeep' : Hid (X = min (max keep 0) B.length) := hkeep
  have hlr := left_two A B keep
  rw [← hK] at hlr
  have hKB : K ≤ B.length := by omega
  obtain ⟨T, hT⟩ : ∃ T, T = A ++ B.take K := ⟨_, rfl⟩
  obtain ⟨N, hN⟩ : ∃ N, N = A.length + K := ⟨_, rfl⟩
  rw [← hT, ← hN] at hlr
  have HL : Hid (left (A ++ B).length A.length keep = N ∧ (A ++ B).take N = T) := hlr
  have HU : Hid ((B.take K).length = K) := by show _ = _; simp; omega
  have hsl : ∀ w0, (Instr.slice 27 (.slice b B.length cb) none (some (.int .i64 X)) none).run Try.prog w0 = .ok (.slice b K cb) w0 := fun w0 => by rw [hX]; exact slice_take b B.length cb K (by omega) nb w0
  have hcat := text_cat A (B.take K)
  rw [← hT] at hcat
  have hsum : ((A.length : Int) + X) = (N : Int) := by omega
  have hw1 : IntKind.i64.wrap ((A.length : Int) + X) = (N : Int) := by rw [hsum]; simp [IntKind.wrap, IntKind.bits, IntKind.signed]; omega
  have HX : Hid (X = K) := hX
  have HC : Hid ((⟨A.toArray⟩ : ByteArray) ++ ⟨(B.take K).toArray⟩ = ⟨T.toArray⟩) := hcat
  have HS : Hid ((A.length : Int) + X = (N : Int) ∧ IntKind.i64.wrap ((A.length : Int) + X) = (N : Int)) := ⟨hsum, hw1⟩
  clear hlr hK hkeep hHA hHB ha hb na nb hX hcat hsum hw1 hT hN
  go_enter Try.func5, Try.ntmps5
  go_wp2_with fail
  refine Calls.mono new_any ?_
  rintro e w1 ⟨rfl, d1, k1⟩
  have m1 : Hid (Mine 50 w w1 w.heap.size (.slice none 0 0) [] 0) := Mine.new d1 k1
  clear d1 k1
  generalize w.heap.size = D at *
  go_upto_if 13 with fail
  go_cut [0] from 11 to 15 (fun s wx => s = .slice a A.length ca ∧ w1 = wx)
  case first =>
    rcases hsA with ⟨gA, hsA⟩ | ⟨gA, rfl⟩
    all_goals (go_wp2_with fail; go_meet; exact ⟨rfl, rfl⟩)
  case rest =>
  obtain ⟨rfl, rfl⟩ := hcut
  clear hsA
  go_upto_if 18 with fail
  go_cut [1] from 16 to 20 (fun s wx => s = .slice b B.length cb ∧ w1 = wx)
  case first =>
    rcases hsB with ⟨gB, hsB⟩ | ⟨gB, rfl⟩
    all_goals (go_wp2_with fail; go_meet; exact ⟨rfl, rfl⟩)
  case rest =>
  obtain ⟨rfl, rfl⟩ := hcut
  clear hsB
  have c := append_any (cap := ca) m1.out.now (HA.out.kept m1.out.kept (fun _ _ => trivial)) NA.out (by simp; omega)
  go_wp2_with fail
  refine Calls.mono c ?_
  rintro e w2 ⟨rfl, v2, s2⟩
  clear c
  have m2 : Hid (Mine 50 w _ D v2 A 0) := m1.out.step s2
  clear s2 m1
  have c := sync_any m2.out.now
  go_wp2_with fail
  refine Calls.mono c ?_
  rintro e w3 ⟨rfl, s3⟩
  clear c
  have m3 : Hid (Mine 50 w _ D v2 A A.length) := m2.out.step s3
  clear s3 m2
  have c := append_any (cap := cb) m3.out.now (HB.out.kept m3.out.kept (fun _ _ => trivial)) NB.out (by omega)
  go_wp2_with fail
  refine Calls.mono c ?_
  rintro e w4 ⟨rfl, v4, s4⟩
  clear c
  have m4 : Hid (Mine 50 w _ D v4 (A ++ B) A.length) := m3.out.step s4
  clear s4 m3
  have c := crash_any m4.out.now keep
  go_wp2_with fail
  refine Calls.mono c ?_
  rintro e w5 ⟨rfl, v5, s5⟩
  clear c
  rw [HL.out.1, HL.out.2] at s5
  have m5 : Hid (Mine 50 w _ D v5 T N) := m4.out.step s5
  clear s5 m4
  go_upto_if 33 with fail
  go_cut [2] from 32 to 33 (fun s wx => s = .int .i64 (max keep 0) ∧ w5 = wx)
  case first =>
    by_cases g : keep < 0
    · have e : Hid (max keep 0 = 0) := by show _ = _; omega
      go_wp2_with fail
      go_meet
      exact ⟨by rw [e.out], rfl⟩
    · have e : Hid (max keep 0 = keep) := by show _ = _; omega
      go_wp2_with fail
      go_meet
      exact ⟨by rw [e.out], rfl⟩
  case rest =>
  obtain ⟨rfl, rfl⟩ := hcut
  go_upto_if 37 with fail
  go_cut [2] from 34 to 39 (fun s wx => s = .int .i64 X ∧ w5 = wx)
  case first =>
    have hkeep := hkeep'.out
    generalize max keep 0 = M at *
    by_cases g : (B.length : Int) < M
    · have e : X = B.length := by omega
      clear hkeep hkeep'
      subst e
      go_wp2_with fail
      go_meet
      exact ⟨rfl, rfl⟩
    · have e : X = M := by omega
      clear hkeep hkeep'
      subst e
      go_wp2_with fail
      go_meet
      exact ⟨rfl, rfl⟩
  case rest =>
  obtain ⟨rfl, rfl⟩ := hcut
  clear hkeep'
  have hca : ∀ W, Kept (fun _ => True) w5 W → (convert 27 9 (.slice a A.length ca)).run Try.prog W = .ok (.string ⟨A.toArray⟩) W := fun W k => conv_sl ⟨a, ca, rfl, NA.out, HA.out.kept (m5.out.kept.trans k) (fun _ _ => trivial)⟩
  have hcb : ∀ W, Kept (fun _ => True) w5 W → (convert 27 9 (.slice b K cb)).run Try.prog W = .ok (.string ⟨(B.take K).toArray⟩) W := fun W k => conv_sl ⟨b, cb, by rw [HU.out], NB.out, has_take (HB.out.kept (m5.out.kept.trans k) (fun _ _ => trivial)) K⟩
  have kd1 : Kept (fun _ => True) w5 w5.drew := (Kept.refl _ _).drew
  have hcat := HC.out
  obtain ⟨hs1, hs2⟩ := HS.out
  rw [hs1] at hs2
  have hsz : ¬ (9223372036854775807 < (⟨A.toArray⟩ : ByteArray).size + (⟨(B.take K).toArray⟩ : ByteArray).size) := by simp [ByteArray.size]; omega
  generalize (⟨A.toArray⟩ : ByteArray) = sA at *
  generalize (⟨(B.take K).toArray⟩ : ByteArray) = sB at *
  go_wp2
  go_region_held (fun W => Kept (fun _ => True) w5 W) (assumption) (first
    | (go_at_call 14; refine Calls.mono (bytes_any (m5.out.ahead kd1).now) ?_; rintro e w8 ⟨rfl, r8, k8⟩; have k8' : Kept (fun _ => True) w5 w8 := kd1.trans k8; have cv : (convert 27 9 (.slice (some ⟨w5.heap.size, 0, none⟩) T.length T.length)).run Try.prog w8 = .ok (.string ⟨T.toArray⟩) w8 := conv_row (cap := T.length) r8; have m8 : Hid (Mine 50 w w8 D v5 T N) := m5.out.ahead k8'; clear r8 k8)
    | (go_at_call 13; refine Calls.mono (safe_any m8.out.now) ?_; rintro e w8 ⟨rfl, rfl⟩)
    | (go_at_call 15; refine Calls.mono (known_any _) ?_; rintro e w9 ⟨rfl, k9⟩; have k9' : Kept (fun _ => True) w5 w9 := k8'.trans k9))
  go_wp2
  go_ret
  exact ⟨rfl, m8.out.kept.trans k9⟩

end Go.Proofs.Ytabemdmapadaoaa
