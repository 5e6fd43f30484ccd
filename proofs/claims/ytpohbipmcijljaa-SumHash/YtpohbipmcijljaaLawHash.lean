/-
  SumHash: it answers true for every two texts.
-/
import Derived.Test.YtpohbipmcijljaaSHash
namespace Go.Proofs.Ytpohbipmcijljaa
open Go.RowKit

theorem cut_str (a : List UInt8) (n : Nat) (h : n ≤ a.length) (w0 : World) : (Instr.slice 9 (.string ⟨a.toArray⟩) none (some (.int .i64 (n : Int))) none).run Try.prog w0 = .ok (.string ⟨(a.take n).toArray⟩) w0 := by
  have hs : ((⟨a.toArray⟩ : ByteArray).size : Int) = (a.length : Int) := by simp [ByteArray.size]
  rw [run_slice_string_to_if (P := Try.prog) w0 9 ⟨a.toArray⟩ .i64 n Try.underlying9, if_pos ⟨by omega, by omega⟩]
  congr 2
  apply ByteArray.ext
  simp
theorem join_str (a b c : List UInt8) (h : a ++ b = c) : (⟨a.toArray⟩ : ByteArray) ++ ⟨b.toArray⟩ = ⟨c.toArray⟩ := by
  subst h
  apply ByteArray.ext
  simp

set_option maxRecDepth 100000 in
set_option maxHeartbeats 1000000 in
theorem sumHash_any {w : World} (a b : List UInt8) (ha : (a.length : Int) ≤ 140737488355328) (hb : (b.length : Int) ≤ 140737488355328) :
    Calls Try.prog 7 #[.string ⟨a.toArray⟩, .string ⟨b.toArray⟩] w fun e w' => e = .returned (.bool true) ∧ Kept (fun _ => True) w w' := by
  obtain ⟨A, hA, hsA⟩ : ∃ A : List UInt8, A.length ≤ 1000 ∧ (((1000 : Int) < (a.length : Int) ∧ ∀ w0, (Instr.slice 9 (.string ⟨a.toArray⟩) none (some (.int .i64 1000)) none).run Try.prog w0 = .ok (.string ⟨A.toArray⟩) w0) ∨ (¬ (1000 : Int) < (a.length : Int) ∧ A = a)) := by
    by_cases h : (1000 : Int) < (a.length : Int)
    · exact ⟨a.take 1000, by simp; omega, .inl ⟨h, cut_str a 1000 (by omega)⟩⟩
    · exact ⟨a, by omega, .inr ⟨h, rfl⟩⟩
  obtain ⟨B, hB, hsB⟩ : ∃ A : List UInt8, A.length ≤ 1000 ∧ (((1000 : Int) < (b.length : Int) ∧ ∀ w0, (Instr.slice 9 (.string ⟨b.toArray⟩) none (some (.int .i64 1000)) none).run Try.prog w0 = .ok (.string ⟨A.toArray⟩) w0) ∨ (¬ (1000 : Int) < (b.length : Int) ∧ A = b)) := by
    by_cases h : (1000 : Int) < (b.length : Int)
    · exact ⟨b.take 1000, by simp; omega, .inl ⟨h, cut_str b 1000 (by omega)⟩⟩
    · exact ⟨b, by omega, .inr ⟨h, rfl⟩⟩
  have c1 := hash_any (w := w) A (by omega)
  obtain ⟨h, hh⟩ : ∃ h, h = hashOf A := ⟨_, rfl⟩
  rw [← hh] at c1
  have hlt := hashOf_lt A
  rw [← hh] at hlt
  have HH : Hid (h = hashOf A) := hh
  clear hh
  have h0 : (0 : Int) ≤ (h : Int) := by omega
  have h1 : (h : Int) < 256 := by omega
  rcases hsA with ⟨ga, hsA⟩ | ⟨ga, rfl⟩ <;> rcases hsB with ⟨gb, hsB⟩ | ⟨gb, rfl⟩
  all_goals
    go_enter Try.func7, Try.ntmps7
    go_wp2_with fail
    refine Calls.mono c1 ?_
    rintro e w1 ⟨rfl, k1⟩
    obtain ⟨cp2, w2, hc2, hh2, k2⟩ := conv_str w1 A
    have c2 := crc_any (cap := cp2) hh2 (by omega)
    have hw : IntKind.i64.wrap (h : Int) = (h : Int) := by simp [IntKind.wrap, IntKind.bits, IntKind.signed]; omega
    have hm : ((crcOf A : Nat) : Int) % 256 = (h : Int) := by rw [HH.out]; unfold hashOf; omega
    generalize crcOf A = s at *
    have hs0 : (0 : Int) ≤ (s : Int) := by omega
    clear c1 hh2
    go_wp2_with fail
    refine Calls.mono c2 ?_
    rintro e w2 ⟨rfl, rfl⟩
    clear c2 hc2
    obtain ⟨C, hC⟩ : ∃ C, C = A ++ B := ⟨_, rfl⟩
    have lC : C.length ≤ 2000 := by rw [hC, List.length_append]; omega
    have ec := join_str A B C hC.symm
    have ez := join_str (hexOf A) (hexOf B) (hexOf C) (by rw [hC, hexOf_append])
    have lX : (hexOf A).length ≤ 2000 := by rw [hexOf_length]; omega
    have lY : (hexOf B).length ≤ 2000 := by rw [hexOf_length]; omega
    clear hC
    obtain ⟨cp3, w3, hc3, hh3, k3⟩ := conv_str w2 C
    have c3 := hex_any (cap := cp3) hh3 (by omega)
    clear hh3
    go_wp2_with fail
    refine Calls.mono c3 ?_
    rintro e w4 ⟨rfl, k4⟩
    clear c3 hc3 ec
    obtain ⟨cp5, w5, hc5, hh5, k5⟩ := conv_str w4 A
    have c5 := hex_any (cap := cp5) hh5 (by omega)
    clear hh5
    go_wp2_with fail
    refine Calls.mono c5 ?_
    rintro e w6 ⟨rfl, k6⟩
    clear c5 hc5
    obtain ⟨cp7, w7, hc7, hh7, k7⟩ := conv_str w6 B
    have c7 := hex_any (cap := cp7) hh7 (by omega)
    clear hh7
    go_wp2_with fail
    refine Calls.mono c7 ?_
    rintro e w8 ⟨rfl, k8⟩
    clear c7 hc7
    have c9 := known_any w8
    go_wp2_with fail
    refine Calls.mono c9 ?_
    rintro e w9 ⟨rfl, k9⟩
    go_wp2
    go_ret
    exact ⟨rfl, (((((((k1.trans k2).trans k3).trans k4).trans k5).trans k6).trans k7).trans k8).trans k9⟩

end Go.Proofs.Ytpohbipmcijljaa
