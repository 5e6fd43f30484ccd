/-
  A Reader's number: the next bytes as a number, the highest first, for any Reader.
-/
import Derived.Test.YtclgdgdponoomaaXRd2
namespace Go.Proofs.Ytclgdgdponoomaa
open Go.RowKit

/-- What holds at each jump back. -/
def Jm (w : World) (B R : Nat) (bs : List UInt8) (cap at_ k : Nat) (a' : Act) (w' : World) : Prop :=
  ∃ m j : Nat, m + j = k ∧ 1 ≤ m ∧ Rd w' B R bs cap ((at_ + j : Nat) : Int) 0 ∧ Kept (· ≠ B) w w' ∧ ∃ u6 u7 u8 u9 u10 u11 u12 u13 u14 u15 u16 u17 u18 u19 u20 u21 u22 u23 u24 u25 u26 u27 u28 u29 u30 u31 u32 u33 u34 u35 : Value,
    a' = { tmps := #[.pointer (some ⟨B, 0, none⟩), .int .i64 m, undef, undef, .int .u64 0, .int .u64 (be ((bs.drop at_).take j)), u6, u7, u8, u9, u10, u11, u12, u13, u14, u15, u16, u17, u18, u19, u20, u21, u22, u23, u24, u25, u26, u27, u28, u29, u30, u31, u32, u33, u34, u35], defers := [] }

theorem step_be (bs : List UInt8) (a j N : Nat) (h : a + j < bs.length) (hN : be ((bs.drop a).take j) = N) (h56 : N < 72057594037927936) :
    bits BinOp.or .u64 ((N : Int) * 256) (IntKind.u64.wrap ((bs[a + j]).toNat : Int)) = ((be ((bs.drop a).take (j + 1)) : Nat) : Int) := by
  rw [or_byte _ _ h56, take_drop_snoc bs a j h, be_snoc, hN]

set_option maxRecDepth 100000 in
set_option maxHeartbeats 800000 in
theorem number_yes {w : World} {B R : Nat} {bs : List UInt8} {cap at_ : Nat} (k : Nat) (h : Rd w B R bs cap at_ 0) (hn : (bs.length : Int) ≤ 140737488355328) (hk1 : 1 ≤ k) (hk8 : k ≤ 8) (hl : at_ + k ≤ bs.length) :
    Calls Try.prog 44 #[.pointer (some ⟨B, 0, none⟩), .int .i64 k] w fun e w' => e = .returned (.int .u64 (be ((bs.drop at_).take k))) ∧ Rd w' B R bs cap ((at_ + k : Nat) : Int) 0 ∧ Kept (· ≠ B) w w' := by
  have HL : (k : Int) ≤ leftOf bs.length at_ 0 := by simp [leftOf]; omega
  go_enter Try.func44, Try.ntmps44
  go_wp2
  refine wp_scope_jumps 0 (Jm w B R bs cap at_ k) (fun a' _ => (intOf (a'.tmps.getD 1 undef)).toNat) rfl ?_ ?_
  · obtain ⟨c0, c1, c2, hf⟩ := wthree_cell h.self
    have hj : at_ + 0 < bs.length := by omega
    have hb := h.byte at_ (by omega)
    have S := step_be bs at_ 0 0 hj (by simp [be]) (by decide)
    have S' : bits BinOp.or .u64 0 (IntKind.u64.wrap ((bs[at_]).toNat : Int)) = ((be ((bs.drop at_).take 1) : Nat) : Int) := by simpa using S
    clear S
    have w0 : IntKind.u64.wrap 0 = 0 := by decide
    generalize hM : be ((bs.drop at_).take 1) = M at *
    have HM : Hid (be ((bs.drop at_).take 1) = M) := hM
    clear hM
    have hj' : (at_ : Int) < (bs.length : Int) := by omega
    go_wp2_with (go_at_call 51; refine (has_yes _ h hn (by omega) HL).mono ?_; rintro e w' ⟨rfl, nd, rfl⟩)
    go_step3
    go_wp2
    go_quiet (fail)
    go_wp2
    · go_step3
      rw [← HM.out, show (k : Int) - 1 = ((k - 1 : Nat) : Int) from by omega]
      exact ⟨rfl, k - 1, 1, by omega, by omega, (h.drewN _).setAt _, ((Kept.refl _ _).drewN _).setCell (by simp) _, _, _, _, _, _, _, _, _, _, _, _, _, _, _, _, _, _, _, _, _, _, _, _, _, _, _, _, _, _, _, rfl⟩
    · simp only [Exit.jump]
      go_ret
      have hk : k = 1 := by omega
      subst hk
      rw [HM.out]
      exact ⟨rfl, (h.drewN _).setAt _, ((Kept.refl _ _).drewN _).setCell (by simp) _⟩
  · rintro a' w' ⟨m, j, hmj, hm, hr, hk, u6, u7, u8, u9, u10, u11, u12, u13, u14, u15, u16, u17, u18, u19, u20, u21, u22, u23, u24, u25, u26, u27, u28, u29, u30, u31, u32, u33, u34, u35, rfl⟩
    obtain ⟨c0, c1, c2, hf⟩ := wthree_cell hr.self
    have hj : at_ + j < bs.length := by omega
    have hb := hr.byte (at_ + j) hj
    have hN : be ((bs.drop at_).take j) < 72057594037927936 := be_lt56 _ (by simp; omega)
    have S := step_be bs at_ j _ hj rfl hN
    generalize be ((bs.drop at_).take j) = N at *
    generalize hM : be ((bs.drop at_).take (j + 1)) = M at *
    have HM : Hid (be ((bs.drop at_).take (j + 1)) = M) := hM
    clear hM
    go_wp2
    go_quiet (fail)
    go_wp2
    · go_step3
      rw [← HM.out, show (m : Int) - 1 = ((m - 1 : Nat) : Int) from by omega]
      refine ⟨rfl, ⟨m - 1, j + 1, by omega, by omega, (hr.drewN nq).setAt _, (hk.drewN nq).setCell (by simp) _, _, _, _, _, _, _, _, _, _, _, _, _, _, _, _, _, _, _, _, _, _, _, _, _, _, _, _, _, _, _, rfl⟩, ?_⟩
      simp [intOf]; omega
    · simp only [Exit.jump]
      go_ret
      have hk1 : m = 1 := by omega
      subst hk1
      obtain rfl : k = j + 1 := by omega
      rw [HM.out]
      exact ⟨rfl, (hr.drewN nq).setAt _, (hk.drewN nq).setCell (by simp) _⟩
end Go.Proofs.Ytclgdgdponoomaa
