/-
  Texts of the proofs, 22 of 52.
-/
import Derived.Test.YtmcaoimgmgjjiaaWU
namespace Go.Proofs.Ytmcaoimgmgjjiaa
open Go.RowKit Go.Maps Go.Sort

def IdxIs {α : Type} (f : α → Bool) (xs : List α) (n : Int) : Prop := (n = -1 ∧ ∀ x ∈ xs, f x = false) ∨ ∃ (k : Nat) (h : k < xs.length), n = k ∧ f xs[k] = true ∧ ∀ x ∈ xs.take k, f x = false
theorem ow_max {α : Type} {S : Shp α} {e : TypeId} {w : World} {base : Nat} {v : Value} {xs : List α} (h : Ow S e w base v xs) : xs.length ≤ 9223372036854775807 := by
  rcases h.2 with ⟨_, h0⟩ | ⟨g, cap, cur, _, _, _, h1, h2, _⟩
  · omega
  · unfold maxLen at h2
    omega
def f4 (x : Uz) : Bool := (decide (x.1.r.k = 3) && (x.1.ah.c || x.1.ah.a)) || (decide (x.1.r.k = 4) && x.1.ah.c)
def f5 (rs : List Ur) (x : Uz) : Bool := (decide (x.1.r.k = 3) && (tel rs x.1.r.tx).ks.a) || (decide (x.1.r.k = 4) && (tel rs x.1.r.tx).ks.c)
def f6 (x : Uz) : Bool := decide (x.1.r.k = 3) && !x.1.ah.p
def f7 (rs : List Ur) (g : Int) (x : Uz) : Bool := decide (x.1.r.k = 3) && ((tel rs x.1.r.tx).ap || !(x.1.r.gs.any fun y => decide ((y : Int) = g)))

set_option maxRecDepth 100000 in
set_option maxHeartbeats 2000000 in
theorem c4_any (w : World) (x : Uz) : Calls Try.prog 61 #[.agg (ecell x).toArray] w fun e w' => e = .returned (.bool (f4 x)) ∧ Kept (fun _ => True) w w' := by
  obtain ⟨⟨⟨k, tx, gs, bd⟩, ah⟩, a, c⟩ := x
  unfold ecell
  simp only
  have hc : ∀ W, Calls Try.prog 40 #[.int .i64 (ah.val : Nat), .int .i64 3] W fun e w' => e = .returned (.bool ah.c) ∧ w' = W := fun W => has_any ah 3 (by decide)
  have ha : ∀ W, Calls Try.prog 40 #[.int .i64 (ah.val : Nat), .int .i64 4] W fun e w' => e = .returned (.bool ah.a) ∧ w' = W := fun W => has_any ah 4 (by decide)
  have KA : Hid (∀ o, Kept (fun _ => True) w (w.alloc o)) := fun o => (Kept.refl _ _).alloc o
  by_cases h3 : k = 3
  · subst h3
    have HF : Hid (f4 (⟨⟨⟨3, tx, gs, bd⟩, ah⟩, a, c⟩ : Uz) = (ah.c || ah.a)) := by show _ = _; simp [f4]
    generalize f4 (⟨⟨⟨3, tx, gs, bd⟩, ah⟩, a, c⟩ : Uz) = R at *
    cases h1 : ah.c
    · rw [h1] at hc HF
      have HF2 : Hid (R = ah.a) := by have := HF.out; show _ = _; simpa using this
      clear h1 HF
      go_enter Try.func61, Try.ntmps61
      go_wp2_with (first
        | (go_at_call 40; (with_reducible refine Calls.mono (hc _) ?_); rintro e w1 ⟨rfl, rfl⟩)
        | (go_at_call 40; (with_reducible refine Calls.mono (ha _) ?_); rintro e w1 ⟨rfl, rfl⟩))
      go_ret
      exact ⟨by rw [HF2.out]; rfl, KA.out _⟩
    · rw [h1] at hc HF
      have HF2 : Hid (R = true) := by have := HF.out; show _ = _; simpa using this
      clear h1 HF
      go_enter Try.func61, Try.ntmps61
      go_wp2_with (go_at_call 40; (with_reducible refine Calls.mono (hc _) ?_); rintro e w1 ⟨rfl, rfl⟩)
      go_ret
      exact ⟨by rw [HF2.out]; rfl, KA.out _⟩
  · have k3 : ((k : Int) == 3) = false := by simp only [beq_eq_false_iff_ne]; omega
    by_cases h4 : k = 4
    · subst h4
      have HF : Hid (f4 (⟨⟨⟨4, tx, gs, bd⟩, ah⟩, a, c⟩ : Uz) = ah.c) := by show _ = _; simp [f4]
      generalize f4 (⟨⟨⟨4, tx, gs, bd⟩, ah⟩, a, c⟩ : Uz) = R at *
      clear k3 h3
      go_enter Try.func61, Try.ntmps61
      go_wp2_with (go_at_call 40; (with_reducible refine Calls.mono (hc _) ?_); rintro e w1 ⟨rfl, rfl⟩)
      go_ret
      exact ⟨by rw [HF.out]; rfl, KA.out _⟩
    · have k4 : ((k : Int) == 4) = false := by simp only [beq_eq_false_iff_ne]; omega
      have HF : Hid (f4 (⟨⟨⟨k, tx, gs, bd⟩, ah⟩, a, c⟩ : Uz) = false) := by show _ = _; simp [f4, h3, h4]
      generalize f4 (⟨⟨⟨k, tx, gs, bd⟩, ah⟩, a, c⟩ : Uz) = R at *
      clear h3 h4
      go_enter Try.func61, Try.ntmps61
      go_wp2
      go_ret
      exact ⟨by rw [HF.out]; rfl, KA.out _⟩

set_option maxRecDepth 100000 in
set_option maxHeartbeats 2000000 in
theorem c6_any (w : World) (x : Uz) : Calls Try.prog 63 #[.agg (ecell x).toArray] w fun e w' => e = .returned (.bool (f6 x)) ∧ Kept (fun _ => True) w w' := by
  obtain ⟨⟨⟨k, tx, gs, bd⟩, ah⟩, a, c⟩ := x
  unfold ecell
  simp only
  have hp : ∀ W, Calls Try.prog 40 #[.int .i64 (ah.val : Nat), .int .i64 2] W fun e w' => e = .returned (.bool ah.p) ∧ w' = W := fun W => has_any ah 2 (by decide)
  have KA : Hid (∀ o, Kept (fun _ => True) w (w.alloc o)) := fun o => (Kept.refl _ _).alloc o
  by_cases h3 : k = 3
  · subst h3
    have HF : Hid (f6 (⟨⟨⟨3, tx, gs, bd⟩, ah⟩, a, c⟩ : Uz) = !ah.p) := by show _ = _; simp [f6]
    generalize f6 (⟨⟨⟨3, tx, gs, bd⟩, ah⟩, a, c⟩ : Uz) = R at *
    go_enter Try.func63, Try.ntmps63
    go_wp2_with (go_at_call 40; (with_reducible refine Calls.mono (hp _) ?_); rintro e w1 ⟨rfl, rfl⟩)
    go_ret
    exact ⟨by rw [HF.out]; rfl, KA.out _⟩
  · have k3 : ((k : Int) == 3) = false := by simp only [beq_eq_false_iff_ne]; omega
    have HF : Hid (f6 (⟨⟨⟨k, tx, gs, bd⟩, ah⟩, a, c⟩ : Uz) = false) := by show _ = _; simp [f6, h3]
    generalize f6 (⟨⟨⟨k, tx, gs, bd⟩, ah⟩, a, c⟩ : Uz) = R at *
    clear h3
    go_enter Try.func63, Try.ntmps63
    go_wp2
    go_ret
    exact ⟨by rw [HF.out]; rfl, KA.out _⟩


set_option maxRecDepth 100000 in
set_option maxHeartbeats 2000000 in
theorem index4 {w : World} {b : Nat} {ao : Option Addr} {cap : Nat} {xs : List Uz} {f : Uz → Bool} (ho : Ow entS 124 w b (.slice ao xs.length cap) xs) (hc : ∀ W, Kept (fun _ => True) w W → ∀ x ∈ xs, Calls Try.prog 61 #[.agg (ecell x).toArray] W fun e w' => e = .returned (.bool (f x)) ∧ Kept (fun _ => True) W w') :
    Calls Try.prog 60 #[.slice ao xs.length cap, .func (.func 61) #[] #[]] w fun e w' => (∃ n, e = .returned (.int .i64 n) ∧ IdxIs f xs n) ∧ Kept (fun _ => True) w w' := by
  have HO : Hid (Ow entS 124 w b (.slice ao xs.length cap) xs) := ho
  have HC : Hid (∀ W, Kept (fun _ => True) w W → ∀ x ∈ xs, Calls Try.prog 61 #[.agg (ecell x).toArray] W fun e w' => e = .returned (.bool (f x)) ∧ Kept (fun _ => True) W w') := hc
  have hmax := ow_max ho
  clear ho hc
  go_enter Try.func60, Try.ntmps60
  go_wp2_with fail
  go_loopw [8] (fun t wr => ∃ (k : Nat), k ≤ xs.length ∧ t = .int .i64 k ∧ (∀ x ∈ xs.take k, f x = false) ∧ Kept (fun _ => True) w wr) (fun t _ => xs.length - (intOf t).toNat)
  case atStart => exact ⟨0, Nat.zero_le _, rfl, by simp, Kept.refl _ _⟩
  case round =>
    obtain ⟨k, hk, rfl, hn, kk⟩ := hrel
    have HN : Hid (∀ x ∈ xs.take k, f x = false) := hn
    have KK : Hid (Kept (fun _ => True) w wr) := kk
    clear hn
    by_cases hlt : k < xs.length
    · have HS : Hid (xs.take (k + 1) = xs.take k ++ [xs[k]]) := List.take_succ_eq_append_getElem hlt
      have HI : Hid (k < xs.length) := hlt
      have HY : Hid (f xs[k] = true → IdxIs f xs (k : Int)) := fun q => .inr ⟨k, hlt, rfl, q, HN.out⟩
      obtain ⟨g, rfl, _, hgl, _⟩ := (HO.out.all kk).some3 (by omega)
      have c0 : wr.cell? ⟨g, k * 5, none⟩ = _ := (HO.out.all kk).at k hlt 0 _ rfl
      have c1 : wr.cell? ⟨g, k * 5 + 1, none⟩ = _ := (HO.out.all kk).at k hlt 1 _ rfl
      have c2 : wr.cell? ⟨g, k * 5 + 2, none⟩ = _ := (HO.out.all kk).at k hlt 2 _ rfl
      have c3 : wr.cell? ⟨g, k * 5 + 3, none⟩ = _ := (HO.out.all kk).at k hlt 3 _ rfl
      have c4 : wr.cell? ⟨g, k * 5 + 4, none⟩ = _ := (HO.out.all kk).at k hlt 4 _ rfl
      have cc := HC.out wr kk xs[k] (List.getElem_mem hlt)
      unfold ecell at cc
      generalize xs[k] = x at *
      have i1 : (k : Int) < (xs.length : Int) := by omega
      have i0 : (0 : Int) ≤ (k : Int) := by omega
      clear kk hk hlt
      go_wp2_with fail
      (with_reducible refine Calls.mono cc ?_)
      rintro e w1 ⟨rfl, k1⟩
      have K1 : Hid (Kept (fun _ => True) w w1) := KK.out.trans k1
      clear cc k1 c0 c1 c2 c3 c4
      cases hf : f x
      · go_wp2_with fail
        go_roundw
        case rel =>
          refine ⟨k + 1, by have := HI.out; omega, by go_num, fun y hy => ?_, K1.out⟩
          rw [HS.out] at hy
          rcases List.mem_append.1 hy with hy | hy
          · exact HN.out y hy
          · rw [List.mem_singleton.1 hy]; exact hf
        case measure => have := HI.out; simp [intOf]; omega
      · have HZ : Hid (IdxIs f xs (k : Int)) := HY.out hf
        clear hf
        go_wp2_with fail
        go_ret
        exact ⟨⟨_, rfl, HZ.out⟩, K1.out⟩
    · have i1 : ¬ ((k : Int) < (xs.length : Int)) := by omega
      have HZ : Hid (IdxIs f xs (-1)) := .inl ⟨rfl, fun x hx => HN.out x (by rw [List.take_of_length_le (by omega)]; exact hx)⟩
      go_wp2_with fail
      go_ret
      exact ⟨⟨_, rfl, HZ.out⟩, KK.out⟩

set_option maxRecDepth 100000 in
set_option maxHeartbeats 2000000 in
theorem index5 {w : World} {b : Nat} {ao : Option Addr} {cap : Nat} {xs : List Uz} {f : Uz → Bool} {V : Nat} (ho : Ow entS 124 w b (.slice ao xs.length cap) xs) (hc : ∀ W, Kept (fun _ => True) w W → ∀ x ∈ xs, Calls Try.prog 62 #[.agg (ecell x).toArray, .pointer (some ⟨V, 0, none⟩)] W fun e w' => e = .returned (.bool (f x)) ∧ Kept (fun _ => True) W w') :
    Calls Try.prog 60 #[.slice ao xs.length cap, .func (.func 62) #[] #[.pointer (some ⟨V, 0, none⟩)]] w fun e w' => (∃ n, e = .returned (.int .i64 n) ∧ IdxIs f xs n) ∧ Kept (fun _ => True) w w' := by
  have HO : Hid (Ow entS 124 w b (.slice ao xs.length cap) xs) := ho
  have HC : Hid (∀ W, Kept (fun _ => True) w W → ∀ x ∈ xs, Calls Try.prog 62 #[.agg (ecell x).toArray, .pointer (some ⟨V, 0, none⟩)] W fun e w' => e = .returned (.bool (f x)) ∧ Kept (fun _ => True) W w') := hc
  have hmax := ow_max ho
  clear ho hc
  go_enter Try.func60, Try.ntmps60
  go_wp2_with fail
  go_loopw [8] (fun t wr => ∃ (k : Nat), k ≤ xs.length ∧ t = .int .i64 k ∧ (∀ x ∈ xs.take k, f x = false) ∧ Kept (fun _ => True) w wr) (fun t _ => xs.length - (intOf t).toNat)
  case atStart => exact ⟨0, Nat.zero_le _, rfl, by simp, Kept.refl _ _⟩
  case round =>
    obtain ⟨k, hk, rfl, hn, kk⟩ := hrel
    have HN : Hid (∀ x ∈ xs.take k, f x = false) := hn
    have KK : Hid (Kept (fun _ => True) w wr) := kk
    clear hn
    by_cases hlt : k < xs.length
    · have HS : Hid (xs.take (k + 1) = xs.take k ++ [xs[k]]) := List.take_succ_eq_append_getElem hlt
      have HI : Hid (k < xs.length) := hlt
      have HY : Hid (f xs[k] = true → IdxIs f xs (k : Int)) := fun q => .inr ⟨k, hlt, rfl, q, HN.out⟩
      obtain ⟨g, rfl, _, hgl, _⟩ := (HO.out.all kk).some3 (by omega)
      have c0 : wr.cell? ⟨g, k * 5, none⟩ = _ := (HO.out.all kk).at k hlt 0 _ rfl
      have c1 : wr.cell? ⟨g, k * 5 + 1, none⟩ = _ := (HO.out.all kk).at k hlt 1 _ rfl
      have c2 : wr.cell? ⟨g, k * 5 + 2, none⟩ = _ := (HO.out.all kk).at k hlt 2 _ rfl
      have c3 : wr.cell? ⟨g, k * 5 + 3, none⟩ = _ := (HO.out.all kk).at k hlt 3 _ rfl
      have c4 : wr.cell? ⟨g, k * 5 + 4, none⟩ = _ := (HO.out.all kk).at k hlt 4 _ rfl
      have cc := HC.out wr kk xs[k] (List.getElem_mem hlt)
      unfold ecell at cc
      generalize xs[k] = x at *
      have i1 : (k : Int) < (xs.length : Int) := by omega
      have i0 : (0 : Int) ≤ (k : Int) := by omega
      clear kk hk hlt
      go_wp2_with fail
      (with_reducible refine Calls.mono cc ?_)
      rintro e w1 ⟨rfl, k1⟩
      have K1 : Hid (Kept (fun _ => True) w w1) := KK.out.trans k1
      clear cc k1 c0 c1 c2 c3 c4
      cases hf : f x
      · go_wp2_with fail
        go_roundw
        case rel =>
          refine ⟨k + 1, by have := HI.out; omega, by go_num, fun y hy => ?_, K1.out⟩
          rw [HS.out] at hy
          rcases List.mem_append.1 hy with hy | hy
          · exact HN.out y hy
          · rw [List.mem_singleton.1 hy]; exact hf
        case measure => have := HI.out; simp [intOf]; omega
      · have HZ : Hid (IdxIs f xs (k : Int)) := HY.out hf
        clear hf
        go_wp2_with fail
        go_ret
        exact ⟨⟨_, rfl, HZ.out⟩, K1.out⟩
    · have i1 : ¬ ((k : Int) < (xs.length : Int)) := by omega
      have HZ : Hid (IdxIs f xs (-1)) := .inl ⟨rfl, fun x hx => HN.out x (by rw [List.take_of_length_le (by omega)]; exact hx)⟩
      go_wp2_with fail
      go_ret
      exact ⟨⟨_, rfl, HZ.out⟩, KK.out⟩

set_option maxRecDepth 100000 in
set_option maxHeartbeats 2000000 in
theorem index6 {w : World} {b : Nat} {ao : Option Addr} {cap : Nat} {xs : List Uz} {f : Uz → Bool} (ho : Ow entS 124 w b (.slice ao xs.length cap) xs) (hc : ∀ W, Kept (fun _ => True) w W → ∀ x ∈ xs, Calls Try.prog 63 #[.agg (ecell x).toArray] W fun e w' => e = .returned (.bool (f x)) ∧ Kept (fun _ => True) W w') :
    Calls Try.prog 60 #[.slice ao xs.length cap, .func (.func 63) #[] #[]] w fun e w' => (∃ n, e = .returned (.int .i64 n) ∧ IdxIs f xs n) ∧ Kept (fun _ => True) w w' := by
  have HO : Hid (Ow entS 124 w b (.slice ao xs.length cap) xs) := ho
  have HC : Hid (∀ W, Kept (fun _ => True) w W → ∀ x ∈ xs, Calls Try.prog 63 #[.agg (ecell x).toArray] W fun e w' => e = .returned (.bool (f x)) ∧ Kept (fun _ => True) W w') := hc
  have hmax := ow_max ho
  clear ho hc
  go_enter Try.func60, Try.ntmps60
  go_wp2_with fail
  go_loopw [8] (fun t wr => ∃ (k : Nat), k ≤ xs.length ∧ t = .int .i64 k ∧ (∀ x ∈ xs.take k, f x = false) ∧ Kept (fun _ => True) w wr) (fun t _ => xs.length - (intOf t).toNat)
  case atStart => exact ⟨0, Nat.zero_le _, rfl, by simp, Kept.refl _ _⟩
  case round =>
    obtain ⟨k, hk, rfl, hn, kk⟩ := hrel
    have HN : Hid (∀ x ∈ xs.take k, f x = false) := hn
    have KK : Hid (Kept (fun _ => True) w wr) := kk
    clear hn
    by_cases hlt : k < xs.length
    · have HS : Hid (xs.take (k + 1) = xs.take k ++ [xs[k]]) := List.take_succ_eq_append_getElem hlt
      have HI : Hid (k < xs.length) := hlt
      have HY : Hid (f xs[k] = true → IdxIs f xs (k : Int)) := fun q => .inr ⟨k, hlt, rfl, q, HN.out⟩
      obtain ⟨g, rfl, _, hgl, _⟩ := (HO.out.all kk).some3 (by omega)
      have c0 : wr.cell? ⟨g, k * 5, none⟩ = _ := (HO.out.all kk).at k hlt 0 _ rfl
      have c1 : wr.cell? ⟨g, k * 5 + 1, none⟩ = _ := (HO.out.all kk).at k hlt 1 _ rfl
      have c2 : wr.cell? ⟨g, k * 5 + 2, none⟩ = _ := (HO.out.all kk).at k hlt 2 _ rfl
      have c3 : wr.cell? ⟨g, k * 5 + 3, none⟩ = _ := (HO.out.all kk).at k hlt 3 _ rfl
      have c4 : wr.cell? ⟨g, k * 5 + 4, none⟩ = _ := (HO.out.all kk).at k hlt 4 _ rfl
      have cc := HC.out wr kk xs[k] (List.getElem_mem hlt)
      unfold ecell at cc
      generalize xs[k] = x at *
      have i1 : (k : Int) < (xs.length : Int) := by omega
      have i0 : (0 : Int) ≤ (k : Int) := by omega
      clear kk hk hlt
      go_wp2_with fail
      (with_reducible refine Calls.mono cc ?_)
      rintro e w1 ⟨rfl, k1⟩
      have K1 : Hid (Kept (fun _ => True) w w1) := KK.out.trans k1
      clear cc k1 c0 c1 c2 c3 c4
      cases hf : f x
      · go_wp2_with fail
        go_roundw
        case rel =>
          refine ⟨k + 1, by have := HI.out; omega, by go_num, fun y hy => ?_, K1.out⟩
          rw [HS.out] at hy
          rcases List.mem_append.1 hy with hy | hy
          · exact HN.out y hy
          · rw [List.mem_singleton.1 hy]; exact hf
        case measure => have := HI.out; simp [intOf]; omega
      · have HZ : Hid (IdxIs f xs (k : Int)) := HY.out hf
        clear hf
        go_wp2_with fail
        go_ret
        exact ⟨⟨_, rfl, HZ.out⟩, K1.out⟩
    · have i1 : ¬ ((k : Int) < (xs.length : Int)) := by omega
      have HZ : Hid (IdxIs f xs (-1)) := .inl ⟨rfl, fun x hx => HN.out x (by rw [List.take_of_length_le (by omega)]; exact hx)⟩
      go_wp2_with fail
      go_ret
      exact ⟨⟨_, rfl, HZ.out⟩, KK.out⟩

set_option maxRecDepth 100000 in
set_option maxHeartbeats 2000000 in
theorem index7 {w : World} {b : Nat} {ao : Option Addr} {cap : Nat} {xs : List Uz} {f : Uz → Bool} {V B : Nat} (ho : Ow entS 124 w b (.slice ao xs.length cap) xs) (hc : ∀ W, Kept (fun _ => True) w W → ∀ x ∈ xs, Calls Try.prog 64 #[.agg (ecell x).toArray, .pointer (some ⟨V, 0, none⟩), .pointer (some ⟨B, 0, none⟩)] W fun e w' => e = .returned (.bool (f x)) ∧ Kept (fun _ => True) W w') :
    Calls Try.prog 60 #[.slice ao xs.length cap, .func (.func 64) #[] #[.pointer (some ⟨V, 0, none⟩), .pointer (some ⟨B, 0, none⟩)]] w fun e w' => (∃ n, e = .returned (.int .i64 n) ∧ IdxIs f xs n) ∧ Kept (fun _ => True) w w' := by
  have HO : Hid (Ow entS 124 w b (.slice ao xs.length cap) xs) := ho
  have HC : Hid (∀ W, Kept (fun _ => True) w W → ∀ x ∈ xs, Calls Try.prog 64 #[.agg (ecell x).toArray, .pointer (some ⟨V, 0, none⟩), .pointer (some ⟨B, 0, none⟩)] W fun e w' => e = .returned (.bool (f x)) ∧ Kept (fun _ => True) W w') := hc
  have hmax := ow_max ho
  clear ho hc
  go_enter Try.func60, Try.ntmps60
  go_wp2_with fail
  go_loopw [8] (fun t wr => ∃ (k : Nat), k ≤ xs.length ∧ t = .int .i64 k ∧ (∀ x ∈ xs.take k, f x = false) ∧ Kept (fun _ => True) w wr) (fun t _ => xs.length - (intOf t).toNat)
  case atStart => exact ⟨0, Nat.zero_le _, rfl, by simp, Kept.refl _ _⟩
  case round =>
    obtain ⟨k, hk, rfl, hn, kk⟩ := hrel
    have HN : Hid (∀ x ∈ xs.take k, f x = false) := hn
    have KK : Hid (Kept (fun _ => True) w wr) := kk
    clear hn
    by_cases hlt : k < xs.length
    · have HS : Hid (xs.take (k + 1) = xs.take k ++ [xs[k]]) := List.take_succ_eq_append_getElem hlt
      have HI : Hid (k < xs.length) := hlt
      have HY : Hid (f xs[k] = true → IdxIs f xs (k : Int)) := fun q => .inr ⟨k, hlt, rfl, q, HN.out⟩
      obtain ⟨g, rfl, _, hgl, _⟩ := (HO.out.all kk).some3 (by omega)
      have c0 : wr.cell? ⟨g, k * 5, none⟩ = _ := (HO.out.all kk).at k hlt 0 _ rfl
      have c1 : wr.cell? ⟨g, k * 5 + 1, none⟩ = _ := (HO.out.all kk).at k hlt 1 _ rfl
      have c2 : wr.cell? ⟨g, k * 5 + 2, none⟩ = _ := (HO.out.all kk).at k hlt 2 _ rfl
      have c3 : wr.cell? ⟨g, k * 5 + 3, none⟩ = _ := (HO.out.all kk).at k hlt 3 _ rfl
      have c4 : wr.cell? ⟨g, k * 5 + 4, none⟩ = _ := (HO.out.all kk).at k hlt 4 _ rfl
      have cc := HC.out wr kk xs[k] (List.getElem_mem hlt)
      unfold ecell at cc
      generalize xs[k] = x at *
      have i1 : (k : Int) < (xs.length : Int) := by omega
      have i0 : (0 : Int) ≤ (k : Int) := by omega
      clear kk hk hlt
      go_wp2_with fail
      (with_reducible refine Calls.mono cc ?_)
      rintro e w1 ⟨rfl, k1⟩
      have K1 : Hid (Kept (fun _ => True) w w1) := KK.out.trans k1
      clear cc k1 c0 c1 c2 c3 c4
      cases hf : f x
      · go_wp2_with fail
        go_roundw
        case rel =>
          refine ⟨k + 1, by have := HI.out; omega, by go_num, fun y hy => ?_, K1.out⟩
          rw [HS.out] at hy
          rcases List.mem_append.1 hy with hy | hy
          · exact HN.out y hy
          · rw [List.mem_singleton.1 hy]; exact hf
        case measure => have := HI.out; simp [intOf]; omega
      · have HZ : Hid (IdxIs f xs (k : Int)) := HY.out hf
        clear hf
        go_wp2_with fail
        go_ret
        exact ⟨⟨_, rfl, HZ.out⟩, K1.out⟩
    · have i1 : ¬ ((k : Int) < (xs.length : Int)) := by omega
      have HZ : Hid (IdxIs f xs (-1)) := .inl ⟨rfl, fun x hx => HN.out x (by rw [List.take_of_length_le (by omega)]; exact hx)⟩
      go_wp2_with fail
      go_ret
      exact ⟨⟨_, rfl, HZ.out⟩, KK.out⟩
end Go.Proofs.Ytmcaoimgmgjjiaa
