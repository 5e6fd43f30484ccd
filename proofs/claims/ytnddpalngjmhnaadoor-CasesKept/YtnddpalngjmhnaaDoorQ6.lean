/-
  look, Check, Name.
-/
import Derived.Test.YtnddpalngjmhnaaDoorQ5
namespace Go.Proofs.YtnddpalngjmhnaaDoor
open Go.RowKit

theorem rf_small (ns : List (List UInt8)) (x : List UInt8) : rf ns x = 0 ∨ rf ns x = 12 ∨ rf ns x = 20 := by
  rcases rf_cases ns x with h | h | h
  · exact .inr (.inl h.2)
  · exact .inr (.inr h.2.2)
  · exact .inl h.2.2
/-- What look answers. -/
def LkR (ns : List (List UInt8)) (s : List UInt8) (f p c q : Nat) : Prop :=
  (lk ns s.length f (Wo s p) = .inl (c, q) ∧ c ≠ 0) ∨ (c = 0 ∧ q ≤ s.length ∧ lk ns s.length f (Wo s p) = .inr (Wo s q))
theorem Rd.bounds {s : List UInt8} {p k q t : Nat} {n : Int} (h : Rd s p k q t n) : q ≤ t ∧ t ≤ s.length ∧ k ≤ 10 := by
  rcases h with ⟨rfl, rfl, rfl, _⟩ | ⟨h, rfl, _⟩
  · exact ⟨Nat.le_refl _, Nat.le_refl _, by omega⟩
  · exact ⟨Nat.le_of_lt h.some, h.within, (kd_cases _).2⟩
theorem Rd.none {s : List UInt8} {p k q t : Nat} {n : Int} (h : Rd s p k q t n) (hk : k = 0) : q = s.length ∧ Wo s p = [] := by
  rcases h with ⟨_, h1, _, h2⟩ | ⟨_, h, _⟩
  · exact ⟨h1, h2⟩
  · have := kd_cases (tex s q t)
    omega
theorem Rd.some {s : List UInt8} {p k q t : Nat} {n : Int} (h : Rd s p k q t n) (hk : k ≠ 0) : k = kd (tex s q t) ∧ Wo s p = (q, tex s q t) :: Wo s t := by
  rcases h with ⟨h, _⟩ | ⟨h1, h2, _⟩
  · omega
  · exact ⟨h2, h1.words⟩

theorem word_cells {w : World} {b : Nat} {x y z u : Value} {t : TypeId} {fr : Nat × Nat} (h : w.heap[b]? = some (.cells #[x, y, z, u] t fr)) :
    w.cell? ⟨b, 0, none⟩ = some x ∧ w.cell? ⟨b, 1, none⟩ = some y ∧ w.cell? ⟨b, 2, none⟩ = some z ∧ w.cell? ⟨b, 3, none⟩ = some u := ⟨by simp [World.cell?, h], by simp [World.cell?, h], by simp [World.cell?, h], by simp [World.cell?, h]⟩
theorem times_succ {α β : Type} (g : List α → β ⊕ List α) (k : Nat) (ws r : List α) (h : g ws = .inr r) : times g (k + 1) ws = times g k r := by simp [times, h]
theorem times_fail {α β : Type} (g : List α → β ⊕ List α) (k : Nat) (ws : List α) (e : β) (h : g ws = .inl e) : times g (k + 1) ws = .inl e := by simp [times, h]

set_option maxRecDepth 100000 in
set_option maxHeartbeats 2000000 in
theorem look_any {v : Value} {ns : List (List UInt8)} {s : List UInt8} (hs : s.length ≤ 281474976710656) (f : Nat) : ∀ {w : World} (_ : Ns w v ns) (p deep : Nat) (_ : p ≤ s.length) (_ : deep + f = 17),
    Calls Tryd.prog 80 #[.string ⟨s.toArray⟩, v, .int .i64 (p : Nat), .int .i64 (deep : Nat)] w fun e w' => (∃ c q : Nat, e = .returned (.tuple #[.int .i64 (c : Nat), .int .i64 (q : Nat)]) ∧ LkR ns s f p c q) ∧ Kept (fun _ => True) w w' := by
  induction f with
  | zero =>
    intro w h p deep hp hf
    have HN : Hid (Ns w v ns) := h
    have HS : Hid (s.length ≤ 281474976710656) := hs
    have cr := read_any (w := w) hs p hp
    obtain ⟨ao, cap, rfl, -⟩ := h
    have hf16 : (16 : Int) < (deep : Int) := by omega
    go_enter Tryd.func80, Tryd.ntmps80
    go_wp2_with fail
    refine Calls.mono cr ?_
    rintro e w1 ⟨⟨k, q, t, n, rfl, hR⟩, k1⟩
    obtain ⟨b1, b2, b3⟩ := hR.bounds
    have HR : Hid (Rd s p k q t n) := hR
    have ka : Kept (fun _ => True) w (w1.alloc (.cells #[.int .i64 (k : Nat), .int .i64 (q : Nat), .int .i64 (t : Nat), .int .i64 n] 117)) := k1.alloc _
    have HK : Hid _ := ka
    have HB : Hid _ := heap_alloc_new w1 (.cells #[.int .i64 (k : Nat), .int .i64 (q : Nat), .int .i64 (t : Nat), .int .i64 n] 117)
    have cf := refuse_any (HN.out.all ka) hs k q t n b1 b2
    clear cr hR ka k1
    go_wp2_with fail
    refine Calls.mono cf ?_
    rintro e w2 ⟨rfl, k2⟩
    clear cf
    obtain ⟨z0, z1, z2, z3⟩ := word_cells (((k2.block w1.heap.size (by simp) trivial).trans HB.out))
    have HK2 : Hid (Kept (fun _ => True) w w2) := HK.out.trans k2
    clear k2 HK HB
    generalize w1.heap.size = G at *
    by_cases h0 : rfk ns k (tex s q t) = 0
    · have HP : Hid (LkR ns s 0 p 22 q) := by
        have hk : k ≠ 0 := by rintro rfl; simp [rfk] at h0
        obtain ⟨e1, e2⟩ := HR.out.some hk
        have hr : rf ns (tex s q t) = 0 := by rw [rf, ← e1]; exact h0
        refine .inl ⟨?_, by decide⟩
        rw [e2]
        simp [lk, hr]
      rw [h0]
      clear h0
      go_wp2_with fail
      go_quiet (fail)
      go_wp2_with fail
      go_ret2
      exact ⟨⟨22, q, rfl, HP.out⟩, HK2.out.drewN _⟩
    · have HP : Hid (LkR ns s 0 p (rfk ns k (tex s q t)) q) := by
        refine .inl ⟨?_, h0⟩
        by_cases hk : k = 0
        · obtain ⟨e1, e2⟩ := HR.out.none hk
          rw [e2, e1, hk]
          rfl
        · obtain ⟨e1, e2⟩ := HR.out.some hk
          have hr : rf ns (tex s q t) ≠ 0 := by rw [rf, ← e1]; exact h0
          rw [e2]
          simp only [lk, if_pos hr]
          rw [rf, ← e1]
      generalize rfk ns k (tex s q t) = c at *
      have hc : ((c : Int) == 0) = false := by simp; omega
      clear h0
      go_wp2_with fail
      go_quiet (fail)
      go_wp2_with fail
      go_ret2
      exact ⟨⟨c, q, rfl, HP.out⟩, HK2.out.drewN _⟩
  | succ f ih =>
    intro w h p deep hp hf
    have HI : Hid (∀ {w : World} (_ : Ns w v ns) (p deep : Nat) (_ : p ≤ s.length) (_ : deep + f = 17),
      Calls Tryd.prog 80 #[.string ⟨s.toArray⟩, v, .int .i64 (p : Nat), .int .i64 (deep : Nat)] w fun e w' => (∃ c q : Nat, e = .returned (.tuple #[.int .i64 (c : Nat), .int .i64 (q : Nat)]) ∧ LkR ns s f p c q) ∧ Kept (fun _ => True) w w') := ih
    clear ih
    have HN : Hid (Ns w v ns) := h
    have HS : Hid (s.length ≤ 281474976710656) := hs
    have cr := read_any (w := w) hs p hp
    obtain ⟨ao, cap, rfl, -⟩ := h
    have hf16 : ¬ (16 : Int) < (deep : Int) := by omega
    have hf1 : deep + 1 + f = 17 := by omega
    have HF : Hid (deep + 1 + f = 17) := hf1
    have hd : deep ≤ 16 := by omega
    clear hf hf1
    go_enter Tryd.func80, Tryd.ntmps80
    go_wp2_with fail
    refine Calls.mono cr ?_
    rintro e w1 ⟨⟨k, q, t, n, rfl, hR⟩, k1⟩
    obtain ⟨b1, b2, b3⟩ := hR.bounds
    have HR : Hid (Rd s p k q t n) := hR
    have ka : Kept (fun _ => True) w (w1.alloc (.cells #[.int .i64 (k : Nat), .int .i64 (q : Nat), .int .i64 (t : Nat), .int .i64 n] 117)) := k1.alloc _
    have HK : Hid _ := ka
    have HB : Hid _ := heap_alloc_new w1 (.cells #[.int .i64 (k : Nat), .int .i64 (q : Nat), .int .i64 (t : Nat), .int .i64 n] 117)
    have cf := refuse_any (HN.out.all ka) hs k q t n b1 b2
    clear cr hR ka k1
    go_wp2_with fail
    refine Calls.mono cf ?_
    rintro e w2 ⟨rfl, k2⟩
    clear cf
    obtain ⟨z0, z1, z2, z3⟩ := word_cells (((k2.block w1.heap.size (by simp) trivial).trans HB.out))
    have HK2 : Hid (Kept (fun _ => True) w w2) := HK.out.trans k2
    clear k2 HK HB
    generalize w1.heap.size = G at *
    by_cases h0 : rfk ns k (tex s q t) = 0
    · have HP : Hid (lk ns s.length (f + 1) (Wo s p) = times (lk ns s.length f) (ar k) (Wo s t)) := by
        have hk : k ≠ 0 := by rintro rfl; simp [rfk] at h0
        obtain ⟨e1, e2⟩ := HR.out.some hk
        have hr : rf ns (tex s q t) = 0 := by rw [rf, ← e1]; exact h0
        show _ = _
        rw [e2]
        simp [lk, hr, ← e1]
      rw [h0]
      clear h0
      have cp := fun W => parts_any (w := W) k b3
      have har : ar k ≤ 2 := by unfold ar; split <;> (try split) <;> omega
      go_wp2_with fail
      refine Calls.mono (cp _) ?_
      rintro e w3 ⟨rfl, rfl⟩
      clear cp
      generalize ar k = A at *
      go_wp2_with fail
      go_loopw [2, 12, 13, 35] (fun t2 _ _ t35 wr => ∃ i p' : Nat, i ≤ A ∧ p' ≤ s.length ∧ t2 = .int .i64 (p' : Nat) ∧ t35 = .int .i64 (i : Nat) ∧ lk ns s.length (f + 1) (Wo s p) = times (lk ns s.length f) (A - i) (Wo s p') ∧ Kept (fun _ => True) w wr) (fun _ _ _ t35 _ => A - (intOf t35).toNat)
      case atStart => exact ⟨0, t, Nat.zero_le _, b2, rfl, rfl, HP.out, HK2.out⟩
      case round =>
        obtain ⟨i, p', hi, hp', rfl, rfl, hP, hk⟩ := hrel
        have HPi : Hid (lk ns s.length (f + 1) (Wo s p) = times (lk ns s.length f) (A - i) (Wo s p')) := hP
        have HKi : Hid (Kept (fun _ => True) w wr) := hk
        clear hP hk
        by_cases hlt : i < A
        · have i1 : (i : Int) < (A : Int) := by omega
          have cl := HI.out (HN.out.all HKi.out) p' (deep + 1) hp' HF.out
          have e1 : ((deep + 1 : Nat) : Int) = (deep : Int) + 1 := by omega
          rw [e1] at cl
          go_wp2_with fail
          refine Calls.mono cl ?_
          rintro e w4 ⟨⟨c, q', rfl, hL⟩, k4⟩
          clear cl
          have HL : Hid (LkR ns s f p' c q') := hL
          have HK4 : Hid (Kept (fun _ => True) w w4) := HKi.out.trans k4
          clear hL k4
          by_cases hc : c = 0
          · subst hc
            go_wp2_with fail
            go_roundw
            case rel =>
              rcases HL.out with ⟨_, h9⟩ | ⟨_, h8, h9⟩
              · exact absurd rfl h9
              · refine ⟨i + 1, q', by omega, h8, rfl, by go_num, ?_, HK4.out⟩
                rw [HPi.out]
                have e2 : A - i = (A - (i + 1)) + 1 := by omega
                rw [e2, times_succ _ _ _ _ h9]
            case measure => simp [intOf]; omega
          · have hc' : ((c : Int) == 0) = false := by simp; omega
            have HC : Hid (c ≠ 0) := hc
            clear hc
            go_wp2_with fail
            go_ret2
            refine ⟨⟨c, q', rfl, ?_⟩, HK4.out⟩
            rcases HL.out with ⟨h8, h9⟩ | ⟨h8, _⟩
            · refine .inl ⟨?_, h9⟩
              rw [HPi.out]
              have e2 : A - i = (A - (i + 1)) + 1 := by omega
              rw [e2, times_fail _ _ _ _ h8]
            · exact absurd h8 HC.out
        · have i1 : ¬ (i : Int) < (A : Int) := by omega
          go_wp2_with fail
          go_ret2
          refine ⟨⟨0, p', rfl, .inr ⟨rfl, hp', ?_⟩⟩, HKi.out⟩
          rw [HPi.out]
          have e2 : A - i = 0 := by omega
          rw [e2]
          rfl
    · have HP : Hid (LkR ns s (f + 1) p (rfk ns k (tex s q t)) q) := by
        refine .inl ⟨?_, h0⟩
        by_cases hk : k = 0
        · obtain ⟨e1, e2⟩ := HR.out.none hk
          rw [e2, e1, hk]
          rfl
        · obtain ⟨e1, e2⟩ := HR.out.some hk
          have hr : rf ns (tex s q t) ≠ 0 := by rw [rf, ← e1]; exact h0
          rw [e2]
          simp only [lk, if_pos hr]
          rw [rf, ← e1]
      generalize rfk ns k (tex s q t) = c at *
      have hc : ((c : Int) == 0) = false := by simp; omega
      clear h0
      go_wp2_with fail
      go_quiet (fail)
      go_wp2_with fail
      go_ret2
      exact ⟨⟨c, q, rfl, HP.out⟩, HK2.out.drewN _⟩

end Go.Proofs.YtnddpalngjmhnaaDoor
