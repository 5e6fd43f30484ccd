/-
  Check, Name.
-/
import Derived.Test.YtnddpalngjmhnaaDoorQ6
namespace Go.Proofs.YtnddpalngjmhnaaDoor
open Go.RowKit

theorem chk_long {ns : List (List UInt8)} {s : List UInt8} (h : 120 < s.length) : chk ns s = (3, 0) := if_pos h
theorem chk_fail {ns : List (List UInt8)} {s : List UInt8} (h : ¬ 120 < s.length) {c q : Nat} (hl : lk ns s.length 17 (Wo s 0) = .inl (c, q)) : chk ns s = (c, q) := by
  rw [chk, if_neg h, chkW, hl]
theorem chk_whole {ns : List (List UInt8)} {s : List UInt8} (h : ¬ 120 < s.length) {r : List (Nat × List UInt8)} (hl : lk ns s.length 17 (Wo s 0) = .inr r) : chk ns s = tailOf ns r := by
  rw [chk, if_neg h, chkW, hl]

set_option maxRecDepth 100000 in
set_option maxHeartbeats 2000000 in
theorem check_any {w : World} {v : Value} {ns : List (List UInt8)} (h : Ns w v ns) {s : List UInt8} (hs : s.length ≤ 281474976710656) :
    Calls Tryd.prog 72 #[.string ⟨s.toArray⟩, v] w fun e w' => e = .returned (.tuple #[.int .i64 ((chk ns s).1 : Nat), .int .i64 ((chk ns s).2 : Nat)]) ∧ Kept (fun _ => True) w w' := by
  have HN : Hid (Ns w v ns) := h
  have HS : Hid (s.length ≤ 281474976710656) := hs
  have cl := look_any hs 17 h 0 0 (Nat.zero_le _) rfl
  obtain ⟨ao, cap, rfl, -⟩ := h
  obtain ⟨C, hC⟩ : ∃ C, C = chk ns s := ⟨_, rfl⟩
  have HC : Hid (C = chk ns s) := hC
  rw [← hC]
  clear hC
  by_cases hl : 120 < s.length
  · have hl' : (120 : Int) < (s.length : Int) := by omega
    have e1 := HC.out.trans (chk_long hl)
    subst e1
    clear cl
    go_enter Tryd.func72, Tryd.ntmps72
    go_wp2_with fail
    go_ret2
    exact ⟨rfl, Kept.refl _ _⟩
  · have hl' : ¬ (120 : Int) < (s.length : Int) := by omega
    go_enter Tryd.func72, Tryd.ntmps72
    go_wp2_with fail
    refine Calls.mono cl ?_
    rintro e w1 ⟨⟨c, q, rfl, hL⟩, k1⟩
    clear cl
    have HL : Hid (LkR ns s 17 0 c q) := hL
    have HK : Hid (Kept (fun _ => True) w w1) := k1
    clear hL k1
    by_cases hc : c = 0
    · subst hc
      obtain ⟨hq, hlk⟩ : q ≤ s.length ∧ lk ns s.length 17 (Wo s 0) = .inr (Wo s q) := by
        rcases HL.out with ⟨_, h9⟩ | ⟨_, h8, h9⟩
        · exact absurd rfl h9
        · exact ⟨h8, h9⟩
      have HT : Hid (C = tailOf ns (Wo s q)) := HC.out.trans (chk_whole hl hlk)
      have cr := read_any (w := w1) hs q hq
      clear hlk
      go_wp2_with fail
      refine Calls.mono cr ?_
      rintro e w2 ⟨⟨k, q2, t, n, rfl, hR⟩, k2⟩
      obtain ⟨b1, b2, b3⟩ := hR.bounds
      have HR : Hid (Rd s q k q2 t n) := hR
      have ka : Kept (fun _ => True) w (w2.alloc (.cells #[.int .i64 (k : Nat), .int .i64 (q2 : Nat), .int .i64 (t : Nat), .int .i64 n] 117)) := (HK.out.trans k2).alloc _
      have HK2 : Hid _ := ka
      have HB : Hid _ := heap_alloc_new w2 (.cells #[.int .i64 (k : Nat), .int .i64 (q2 : Nat), .int .i64 (t : Nat), .int .i64 n] 117)
      have cf := refuse_any (HN.out.all ka) hs k q2 t n b1 b2
      clear cr hR ka k2
      by_cases h0 : k = 0
      · have e1 : Hid (C = (0, 0)) := by
          show C = (0, 0)
          rw [HT.out, (HR.out.none h0).2]
          rfl
        subst h0
        clear cf
        go_wp2_with fail
        go_ret2
        exact ⟨by rw [e1.out]; rfl, HK2.out⟩
      · have h0' : ((k : Int) == 0) = false := by simp; omega
        have HT2 : Hid (C = (if rf ns (tex s q2 t) ≠ 0 then rf ns (tex s q2 t) else 11, q2) ∧ rfk ns k (tex s q2 t) = rf ns (tex s q2 t)) := by
          obtain ⟨e1, e2⟩ := HR.out.some h0
          refine ⟨?_, by rw [rf, ← e1]⟩
          rw [HT.out, e2]
          rfl
        rw [HT2.out.2] at cf
        clear h0
        generalize rf ns (tex s q2 t) = r at *
        go_wp2_with fail
        refine Calls.mono cf ?_
        rintro e w3 ⟨rfl, k3⟩
        clear cf
        obtain ⟨z0, z1, z2, z3⟩ := word_cells (((k3.block w2.heap.size (by simp) trivial).trans HB.out))
        have HK3 : Hid (Kept (fun _ => True) w w3) := HK2.out.trans k3
        clear k3 HK2 HB
        generalize w2.heap.size = G at *
        by_cases hr : r = 0
        · subst hr
          have e1 : Hid (C = (11, q2)) := HT2.out.1
          go_wp2_with fail
          go_quiet (fail)
          go_wp2_with fail
          go_ret2
          exact ⟨by rw [e1.out]; rfl, HK3.out.drewN _⟩
        · have e1 : Hid (C = (r, q2)) := by
            show C = (r, q2)
            rw [HT2.out.1, if_pos hr]
          have hr' : ((r : Int) == 0) = false := by simp; omega
          clear hr
          go_wp2_with fail
          go_quiet (fail)
          go_wp2_with fail
          go_ret2
          exact ⟨by rw [e1.out]; rfl, HK3.out.drewN _⟩
    · have hc' : ((c : Int) == 0) = false := by simp; omega
      have e1 : Hid (C = (c, q)) := by
        show C = (c, q)
        rcases HL.out with ⟨h9, _⟩ | ⟨h8, _⟩
        · exact HC.out.trans (chk_fail hl h9)
        · exact absurd h8 hc
      clear hc
      go_wp2_with fail
      go_ret2
      exact ⟨by rw [e1.out]; rfl, HK.out⟩

/-- When the first word is the whole text, and a name. -/
theorem name_read {s : List UInt8} {k q t : Nat} {n : Int} (h : Rd s 0 k q t n) : isName s = (decide (k = 3) && decide (q = 0) && decide (t = s.length)) := by
  by_cases hn : isName s = true
  · rw [hn]
    obtain ⟨h1, h2, _⟩ := isName_all hn
    have hw : ∀ c ∈ tex s 0 s.length, c ≠ 32 := by
      rw [tex_all]
      intro c hc
      exact (isL_not (List.all_eq_true.1 h1 c hc)).2.1
    have hW := Wo_word (s := s) (q := 0) (e := s.length) h2 (Nat.le_refl _) hw (fun h => absurd h (Nat.lt_irrefl _))
    rw [tex_all] at hW
    rcases h with ⟨_, _, _, h4⟩ | ⟨h3, h4, _⟩
    · rw [h4] at hW; cases hW
    · have := h3.words
      rw [hW] at this
      simp only [List.cons.injEq, Prod.mk.injEq] at this
      obtain ⟨⟨e1, e2⟩, _⟩ := this
      have e3 : t = s.length := by
        have := congrArg List.length e2
        rw [tex_length h3.within] at this
        omega
      rw [← e2, (kd_name s).2 hn] at h4
      simp [h4, ← e1, e3]
  · have hn' : isName s = false := by simpa using hn
    rw [hn']
    symm
    rw [← Bool.not_eq_true]
    intro hx
    simp only [Bool.and_eq_true, decide_eq_true_eq] at hx
    obtain ⟨⟨rfl, rfl⟩, rfl⟩ := hx
    obtain ⟨e1, _⟩ := h.some (by decide)
    rw [tex_all] at e1
    exact hn ((kd_name s).1 e1.symm)

end Go.Proofs.YtnddpalngjmhnaaDoor
