/-
  The document's Get, Learn, forget, Compact, Jump.
-/
import Derived.Test.YtmejeiadfcdogaaLR1
namespace Go.Proofs.Ytmejeiadfcdogaa
open Go.RowKit

theorem Lo.Ok.next_from {x : Lo} (h : x.Ok) : ∀ d a : Nat, a + d = 512 → ∃ m, IsNext x.f a m
  | 0, a, e => ⟨a, Nat.le_refl _, fun z h1 h2 => by omega, h.high a (by omega)⟩
  | d + 1, a, e => by
    cases hf : x.f (a : Int) with
    | none => exact ⟨a, Nat.le_refl _, fun z h1 h2 => by omega, hf⟩
    | some v =>
      obtain ⟨m, h1, h2, h3⟩ := h.next_from d (a + 1) (by omega)
      refine ⟨m, by omega, fun z g1 g2 => ?_, h3⟩
      by_cases hz : z = (a : Int)
      · rw [hz, hf]; simp
      · exact h2 z (by omega) g2
theorem Lo.Ok.next {x : Lo} (h : x.Ok) : ∃ m, IsNext x.f x.taken m := h.next_from (512 - x.taken) x.taken (by have := h.most; omega)

section
variable {w w' : World} {R b t : Nat} {f : Vals} {x : Lo}

theorem rnext_at (h : Rm w R x) {m : Nat} (n : IsNext x.f x.taken m) :
    Calls Try.prog 26 #[.pointer (some ⟨R, 0, none⟩)] w fun e w' => e = .returned (.int .i64 (m : Nat)) ∧ w' = w := by
  refine Calls.mono (rnext_any h) ?_
  rintro e w' ⟨k, rfl, hk, rfl⟩
  rw [hk.unique n]
  exact ⟨rfl, rfl⟩

set_option maxHeartbeats 400000 in
theorem rget_any (h : Rm w R x) (z : Int) :
    Calls Try.prog 25 #[.pointer (some ⟨R, 0, none⟩), .int .i64 z] w fun e w' => e = .returned (.tuple #[.string ⟨((x.f z).getD []).toArray⟩, .bool (x.f z).isSome]) ∧ w' = w := by
  have cb := h.rl.cb
  have H : Hid (Rm w R x) := h
  clear h
  by_cases h1 : z < (x.base : Int)
  · rw [H.out.ok.low z h1]
    go_enter Try.func25, Try.ntmps25
    go_wp2
    go_ret2
    exact ⟨rfl, rfl⟩
  · have h0 : ¬ z < 0 := by omega
    by_cases h2 : 512 ≤ z
    · rw [H.out.ok.high z h2]
      go_enter Try.func25, Try.ntmps25
      go_wp2
      go_ret2
      exact ⟨rfl, rfl⟩
    · obtain ⟨s, rfl⟩ : ∃ s : Nat, z = s := ⟨z.toNat, by omega⟩
      have ck := H.out.rl.ck (s := s) (by omega)
      have cv := H.out.rl.cv (s := s) (by omega)
      have g0 : (0 : Int) ≤ (s : Int) := by omega
      have g1 : (s : Int) < 512 := by omega
      cases hf : x.f (s : Int) with
      | none =>
        rw [hf] at ck cv
        simp only [Option.isSome_none, Option.getD_none] at ck cv ⊢
        clear hf
        go_enter Try.func25, Try.ntmps25
        go_wp2
        go_ret2
        exact ⟨rfl, rfl⟩
      | some v =>
        rw [hf] at ck cv
        simp only [Option.isSome_some, Option.getD_some] at ck cv ⊢
        clear hf
        go_enter Try.func25, Try.ntmps25
        go_wp2
        go_ret2
        exact ⟨rfl, rfl⟩

set_option maxHeartbeats 1000000 in
theorem rlearn_any (h : Rm w R x) (s : Int) (v : List UInt8) :
    Calls Try.prog 21 #[.pointer (some ⟨R, 0, none⟩), .int .i64 s, .string ⟨v.toArray⟩] w fun e w' => e = .returned (.int .i64 ((learn x s v).1 : Nat)) ∧ Rm w' R (learn x s v).2 ∧ Kept (· ≠ R) w w' := by
  have cb := h.rl.cb
  have H : Hid (Rm w R x) := h
  obtain ⟨y, hy⟩ : ∃ y, y = learn x s v := ⟨_, rfl⟩
  rw [← hy]
  have HY : Hid (y = learn x s v) := hy
  clear h hy
  by_cases h0 : s < 0
  · have e := HY.out.trans (learn_arg (.inl h0))
    subst e
    clear HY
    go_enter Try.func21, Try.ntmps21
    go_wp2
    go_ret
    exact ⟨rfl, H.out, Kept.refl _ _⟩
  · by_cases h1 : 512 ≤ s
    · have e := HY.out.trans (learn_arg (.inr h1))
      subst e
      clear HY
      go_enter Try.func21, Try.ntmps21
      go_wp2
      go_ret
      exact ⟨rfl, H.out, Kept.refl _ _⟩
    · by_cases h2 : s < (x.base : Int)
      · have e := HY.out.trans (learn_low (by omega) (by omega) h2)
        subst e
        clear HY
        go_enter Try.func21, Try.ntmps21
        go_wp2
        go_ret
        exact ⟨rfl, H.out, Kept.refl _ _⟩
      · obtain ⟨k, rfl⟩ : ∃ k : Nat, s = k := ⟨s.toNat, by omega⟩
        have ck := H.out.rl.ck (s := k) (by omega)
        have cv := H.out.rl.cv (s := k) (by omega)
        have g0 : (0 : Int) ≤ (k : Int) := by omega
        have g1 : (k : Int) < 512 := by omega
        cases hf : x.f (k : Int) with
        | none =>
          have e := HY.out.trans (learn_new (by omega) (by omega) (by omega) hf)
          subst e
          rw [hf] at ck cv
          simp only [Option.isSome_none, Option.getD_none] at ck cv
          have lt := H.out.lt
          have f1 := H.out.rl.fr (512 + k)
          have f2 := H.out.rl.fr k
          have D : Hid _ := H.out.rl.put (s := k) (by omega) v
          clear HY hf
          go_enter Try.func21, Try.ntmps21
          go_wp2
          go_ret
          exact ⟨rfl, ⟨D.out, H.out.ok.put (by omega) (by omega) v⟩, ((Kept.refl _ _).setCell (by simp) _).setCell (by simp) _⟩
        | some u =>
          rw [hf] at ck cv
          simp only [Option.isSome_some, Option.getD_some] at ck cv
          by_cases hu : u = v
          · subst hu
            have e := HY.out.trans (learn_same (by omega) (by omega) (by omega) hf)
            subst e
            clear HY hf
            go_enter Try.func21, Try.ntmps21
            go_wp2
            go_ret
            exact ⟨rfl, H.out, Kept.refl _ _⟩
          · have e := HY.out.trans (learn_other (by omega) (by omega) (by omega) hf hu)
            subst e
            have hne : (u == v) = false := beq_eq_false_iff_ne.2 hu
            clear HY hf hu
            go_enter Try.func21, Try.ntmps21
            go_wp2
            go_ret
            exact ⟨rfl, H.out, Kept.refl _ _⟩

set_option maxRecDepth 100000 in
set_option maxHeartbeats 1000000 in
theorem rforget_any (h : Rl w R b t f) (hb : ∀ z : Int, z < b → f z = none) {m : Nat} (h2 : m ≤ 512) :
    Calls Try.prog 31 #[.pointer (some ⟨R, 0, none⟩), .int .i64 (m : Nat)] w fun e w' => e = .returned (.tuple #[]) ∧ Rl w' R m t (gone f m) ∧ Kept (· ≠ R) w w' := by
  have H : Hid (Rl w R b t f) := h
  have HB : Hid (gone f ((0 : Nat) : Int) = f) := gone_none (fun z hz => hb z (by omega))
  clear h hb
  go_enter Try.func31, Try.ntmps31
  go_wp2_with fail
  go_loopw [4] (fun u wr => ∃ k : Nat, u = .int .i64 (k : Nat) ∧ k ≤ m ∧ Rl wr R b t (gone f k) ∧ Kept (· ≠ R) w wr) (fun u _ => m - (intOf u).toNat)
  case atStart => exact ⟨0, rfl, Nat.zero_le _, by rw [HB.out]; exact H.out, Kept.refl _ _⟩
  case round =>
    obtain ⟨k, rfl, g2, hc, hk⟩ := hrel
    have HC : Hid (Rl wr R b t (gone f k)) := hc
    have lt := hc.lt
    have cb := hc.cb
    have f3 := hc.fr 1024
    clear hc
    by_cases hlt : k < m
    · have hlt' : (k : Int) < (m : Int) := by omega
      have g0 : (0 : Int) ≤ (k : Int) := by omega
      have g1 : (k : Int) < 512 := by omega
      have ck := HC.out.ck (s := k) (by omega)
      have cv := HC.out.cv (s := k) (by omega)
      have f1 := HC.out.fr (512 + k)
      have f2 := HC.out.fr k
      have D : Hid (Rl _ R b t (strike (gone f k) k)) := HC.out.strike (s := k) (by omega)
      clear cb f3
      generalize (gone f (k : Int) (k : Int)).isSome = q1 at *
      generalize (gone f (k : Int) (k : Int)).getD [] = q2 at *
      go_wp2
      refine ⟨⟨k + 1, by go_num, by omega, by rw [← gone_step]; exact D.out, hk.trans (((Kept.refl _ _).setCell (by simp) _).setCell (by simp) _)⟩, by simp [intOf]; omega⟩
    · have hlt' : ¬ (k : Int) < (m : Int) := by omega
      have e : k = m := by omega
      subst e
      go_wp2
      go_end0
      exact ⟨rfl, HC.out.setBase k, hk.trans ((Kept.refl _ _).setCell (by simp) _)⟩

set_option maxHeartbeats 400000 in
theorem rcompact_any (h : Rm w R x) (z : Int) :
    Calls Try.prog 23 #[.pointer (some ⟨R, 0, none⟩), .int .i64 z] w fun e w' => e = .returned (.int .i64 ((compact x z).1 : Nat)) ∧ Rm w' R (compact x z).2 ∧ Kept (· ≠ R) w w' := by
  have cb := h.rl.cb
  have ct := h.rl.ct
  have H : Hid (Rm w R x) := h
  obtain ⟨y, hy⟩ : ∃ y, y = compact x z := ⟨_, rfl⟩
  rw [← hy]
  clear h
  by_cases h1 : z < (x.base : Int)
  · have e : y = (1, x) := hy.trans (by unfold compact; rw [if_pos (.inl h1)])
    subst e
    clear hy
    go_enter Try.func23, Try.ntmps23
    go_wp2
    go_ret
    exact ⟨rfl, H.out, Kept.refl _ _⟩
  · by_cases h2 : (x.taken : Int) < z
    · have e : y = (1, x) := hy.trans (by unfold compact; rw [if_pos (.inr h2)])
      subst e
      clear hy
      go_enter Try.func23, Try.ntmps23
      go_wp2
      go_ret
      exact ⟨rfl, H.out, Kept.refl _ _⟩
    · obtain ⟨m, rfl⟩ : ∃ m : Nat, z = m := ⟨z.toNat, by omega⟩
      have e : y = (0, { x with base := m, f := gone x.f m }) := hy.trans (by unfold compact; rw [if_neg (by omega)]; simp)
      have c := rforget_any H.out.rl H.out.ok.low (m := m) (by have := H.out.ok.most; omega)
      subst e
      clear hy
      go_enter Try.func23, Try.ntmps23
      go_wp2_with (go_at_call 31; refine Calls.mono c ?_; rintro e w1 ⟨rfl, m1, k1⟩)
      go_ret
      exact ⟨rfl, ⟨m1, H.out.ok.compact (by omega) (by omega)⟩, k1⟩

set_option maxHeartbeats 400000 in
theorem rjump_any (h : Rm w R x) (z : Int) :
    Calls Try.prog 24 #[.pointer (some ⟨R, 0, none⟩), .int .i64 z] w fun e w' => e = .returned (.int .i64 ((jump x z).1 : Nat)) ∧ Rm w' R (jump x z).2 ∧ Kept (· ≠ R) w w' := by
  have ct := h.rl.ct
  have H : Hid (Rm w R x) := h
  obtain ⟨y, hy⟩ : ∃ y, y = jump x z := ⟨_, rfl⟩
  rw [← hy]
  clear h
  by_cases h1 : z < 0
  · have e : y = (1, x) := hy.trans (by unfold jump; rw [if_pos (.inl h1)])
    subst e
    clear hy
    go_enter Try.func24, Try.ntmps24
    go_wp2
    go_ret
    exact ⟨rfl, H.out, Kept.refl _ _⟩
  · by_cases h2 : 512 < z
    · have e : y = (1, x) := hy.trans (by unfold jump; rw [if_pos (.inr h2)])
      subst e
      clear hy
      go_enter Try.func24, Try.ntmps24
      go_wp2
      go_ret
      exact ⟨rfl, H.out, Kept.refl _ _⟩
    · by_cases h3 : z ≤ (x.taken : Int)
      · have e : y = (0, x) := hy.trans (by unfold jump; rw [if_neg (by omega), if_pos h3])
        subst e
        clear hy
        go_enter Try.func24, Try.ntmps24
        go_wp2
        go_ret
        exact ⟨rfl, H.out, Kept.refl _ _⟩
      · obtain ⟨m, rfl⟩ : ∃ m : Nat, z = m := ⟨z.toNat, by omega⟩
        have e : y = (0, ⟨m, m, gone x.f m⟩) := hy.trans (by unfold jump; rw [if_neg (by omega), if_neg h3]; simp)
        have c := rforget_any H.out.rl H.out.ok.low (m := m) (by omega)
        subst e
        clear hy
        go_enter Try.func24, Try.ntmps24
        go_wp2_with (go_at_call 31; refine Calls.mono c ?_; rintro e w1 ⟨rfl, m1, k1⟩; have d1 := m1.ct; have e1 := m1.fr 1025; have lt1 := m1.lt; have HM : Hid (Rl w1 R m x.taken (gone x.f m)) := m1; clear m1)
        go_ret
        exact ⟨rfl, ⟨HM.out.setTaken m, H.out.ok.jump (by omega)⟩, k1.trans ((Kept.refl _ _).setCell (by simp) _)⟩
end

end Go.Proofs.Ytmejeiadfcdogaa
