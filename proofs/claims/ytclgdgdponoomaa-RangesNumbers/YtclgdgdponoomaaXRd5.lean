/-
  A Reader's Count, Text and Eight, for every Reader.
-/
import Derived.Test.YtclgdgdponoomaaXRd4
import Derived.Test.YtclgdgdponoomaaXCut
namespace Go.Proofs.Ytclgdgdponoomaa
open Go.RowKit

set_option maxRecDepth 100000 in
set_option maxHeartbeats 400000 in
theorem count_any {w : World} {B R : Nat} {bs : List UInt8} {cap : Nat} {s : RS} (most : Int) (h : Rs w B R bs cap s) :
    Calls Try.prog 32 #[.pointer (some ⟨B, 0, none⟩), .int .i64 most] w fun e w' => e = .returned (.int .i64 ((s.count bs most).1 : Nat)) ∧ Rs w' B R bs cap (s.count bs most).2 ∧ Kept (· ≠ B) w w' := by
  have hlt := s.num_lt4 bs
  have hno := s.num_no bs 4
  have c := four_any h
  obtain ⟨c0, c1, c2, hf⟩ := wthree_cell h.rd.self
  have hpos := h.pos
  have hbig := h.big
  unfold RS.count
  generalize s.num bs 4 = r at *
  obtain ⟨n, t⟩ := r
  simp only at *
  by_cases hm : max most 0 < (n : Int)
  · rw [if_pos hm]
    have ht : t.why = 0 := by
      by_cases h0 : t.why = 0
      · exact h0
      · have := hno h0; omega
    clear hno
    have HT : Hid (t.why = 0) := ht
    clear ht
    by_cases h0 : 0 ≤ most
    · have hm' : most < (n : Int) := by omega
      clear hm
      go_enter Try.func32, Try.ntmps32
      go_wp2_with (first
        | (go_at_call 45; refine Calls.mono c ?_; rintro e w1 ⟨rfl, h1, h2⟩)
        | (go_at_call 46; refine (refuse_yes 3 _ (by have := h1.rd; rw [HT.out] at this; exact this) (by decide)).mono ?_; rintro e w2 ⟨rfl, h3, h4⟩))
      go_ret
      exact ⟨by simp, ⟨h3, hpos, hbig⟩, h2.trans h4⟩
    · have hm' : (0 : Int) < (n : Int) := by omega
      clear hm
      go_enter Try.func32, Try.ntmps32
      go_wp2_with (first
        | (go_at_call 45; refine Calls.mono c ?_; rintro e w1 ⟨rfl, h1, h2⟩)
        | (go_at_call 46; refine (refuse_yes 3 _ (by have := h1.rd; rw [HT.out] at this; exact this) (by decide)).mono ?_; rintro e w2 ⟨rfl, h3, h4⟩))
      go_ret
      exact ⟨by simp, ⟨h3, hpos, hbig⟩, h2.trans h4⟩
  · rw [if_neg hm]
    clear hno
    have hm' : (n : Int) ≤ max most 0 := by omega
    clear hm
    go_enter Try.func32, Try.ntmps32
    go_wp2_with (go_at_call 45; refine Calls.mono c ?_; rintro e w1 ⟨rfl, h1, h2⟩)
    all_goals (go_ret; exact ⟨by simp, h1, h2⟩)

end Go.Proofs.Ytclgdgdponoomaa
