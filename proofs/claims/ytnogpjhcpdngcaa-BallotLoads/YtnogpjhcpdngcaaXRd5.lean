/-
  A Reader's Count, Text and Eight, for every Reader.
-/
import Derived.Test.YtnogpjhcpdngcaaXRd4
import Derived.Test.YtnogpjhcpdngcaaXCut
namespace Go.Proofs.Ytnogpjhcpdngcaa
open Go.RowKit

set_option maxHeartbeats 400000 in
theorem count_any {w : World} {B R : Nat} {bs : List UInt8} {cap : Nat} {s : RS} (most : Int) (h : Rs w B R bs cap s) :
    Calls Try.prog 29 #[.pointer (some ⟨B, 0, none⟩), .int .i64 most] w fun e w' => e = .returned (.int .i64 ((s.count bs most).1 : Nat)) ∧ Rs w' B R bs cap (s.count bs most).2 ∧ Kept (· ≠ B) w w' := by
  have hlt := s.num_lt4 bs
  have hno := s.num_no bs 4
  have c := four_any h
  obtain ⟨c0, c1, c2, hf⟩ := wthree_cell h.rd.self
  have hpos := h.pos
  have hbig := h.big
  unfold RS.count
  generalize s.num bs 4 = r at *
  obtain ⟨n, t⟩ := r
  simp only at *
  by_cases hm : max most 0 < (n : Int)
  · rw [if_pos hm]
    have ht : t.why = 0 := by
      by_cases h0 : t.why = 0
      · exact h0
      · have := hno h0; omega
    clear hno
    have HT : Hid (t.why = 0) := ht
    clear ht
    by_cases h0 : 0 ≤ most
    · have hm' : most < (n : Int) := by omega
      clear hm
      go_enter Try.func29, Try.ntmps29
      go_wp2_with (first
        | (go_at_call 40; refine Calls.mono c ?_; rintro e w1 ⟨rfl, h1, h2⟩)
        | (go_at_call 41; refine (refuse_yes 3 _ (by have := h1.rd; rw [HT.out] at this; exact this) (by decide)).mono ?_; rintro e w2 ⟨rfl, h3, h4⟩))
      go_ret
      exact ⟨by simp, ⟨h3, hpos, hbig⟩, h2.trans h4⟩
    · have hm' : (0 : Int) < (n : Int) := by omega
      clear hm
      go_enter Try.func29, Try.ntmps29
      go_wp2_with (first
        | (go_at_call 40; refine Calls.mono c ?_; rintro e w1 ⟨rfl, h1, h2⟩)
        | (go_at_call 41; refine (refuse_yes 3 _ (by have := h1.rd; rw [HT.out] at this; exact this) (by decide)).mono ?_; rintro e w2 ⟨rfl, h3, h4⟩))
      go_ret
      exact ⟨by simp, ⟨h3, hpos, hbig⟩, h2.trans h4⟩
  · rw [if_neg hm]
    clear hno
    have hm' : (n : Int) ≤ max most 0 := by omega
    clear hm
    go_enter Try.func29, Try.ntmps29
    go_wp2_with (go_at_call 40; refine Calls.mono c ?_; rintro e w1 ⟨rfl, h1, h2⟩)
    all_goals (go_ret; exact ⟨by simp, h1, h2⟩)

set_option maxHeartbeats 400000 in
theorem text_any {w : World} {B R : Nat} {bs : List UInt8} {cap : Nat} {s : RS} (most : Int) (h : Rs w B R bs cap s)  :
    Calls Try.prog 42 #[.pointer (some ⟨B, 0, none⟩), .int .i64 most] w fun e w' => e = .returned (.string ⟨(s.text bs most).1.toArray⟩) ∧ Rs w' B R bs cap (s.text bs most).2 ∧ Kept (· ≠ B) w w' := by
  have hno := s.count_no bs most
  have hlt := s.count_lt bs most
  have c := count_any most h
  unfold RS.text
  generalize s.count bs most = r at *
  obtain ⟨n, t⟩ := r
  simp only at *
  by_cases hl : t.left bs < (n : Int)
  · rw [if_pos hl]
    have hw : t.why = 0 := by
      by_cases hw : t.why = 0
      · exact hw
      · have h1 := hno hw
        unfold RS.left leftOf at hl
        rw [if_neg hw] at hl
        omega
    have HW : Hid (t.why = 0) := hw
    have HL : Hid (leftOf bs.length t.pos t.why < (n : Int)) := hl
    clear hl hw hno
    go_enter Try.func42, Try.ntmps42
    go_wp2_with (first
      | (go_at_call 29; refine Calls.mono c ?_; rintro e w1 ⟨rfl, h1, h2⟩)
      | (go_at_call 47; refine (has_no _ h1.rd h1.big h1.pos HL.out).mono ?_; rintro e w2 ⟨rfl, h3, h4, h5⟩))
    go_ret
    exact ⟨by simp, ⟨h3 HW.out, Nat.le_refl _, h1.big⟩, h2.trans h5⟩
  · rw [if_neg hl]
    have HL : Hid ((n : Int) ≤ leftOf bs.length t.pos t.why) := Int.not_lt.1 hl
    clear hl
    go_enter Try.func42, Try.ntmps42
    go_wp2_with (first
      | (go_at_call 29; refine Calls.mono c ?_; rintro e w1 ⟨rfl, h1, h2⟩)
      | (go_at_call 47; refine (has_yes _ h1.rd h1.big h1.pos HL.out).mono ?_; rintro e w2 ⟨rfl, nd, rfl⟩))
    obtain ⟨c0, c1, c2, hf⟩ := wthree_cell h1.rd.self
    have hp := h1.pos
    have hb := h1.big
    have hn' : t.pos + n ≤ bs.length := by
      have := HL.out
      unfold leftOf at this
      by_cases hw : t.why = 0
      · rw [if_pos hw] at this; omega
      · have := hno hw; omega
    have hn'' : (t.pos : Int) + (n : Int) ≤ (bs.length : Int) := by omega
    obtain ⟨cur, hcu, htk, hcap⟩ := h1.rd.row
    obtain ⟨SV, hsl, hcv⟩ := wcut_any hcu htk hcap t.pos n hn'
    clear hno hcu htk hcap
    go_quiet (fail)
    go_wp2
    go_ret
    exact ⟨rfl, ⟨(h1.rd.drewN _).setAt _, hn', hb⟩, h2.trans (((Kept.refl _ _).drewN _).setCell (by simp) _)⟩

end Go.Proofs.Ytnogpjhcpdngcaa
