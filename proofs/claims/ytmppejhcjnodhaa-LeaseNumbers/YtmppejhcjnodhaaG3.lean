/-
  Package lease's judging of clocks: one reading, one step; slices of readings.
-/
import Derived.Test.YtmppejhcjnodhaaG2
import Derived.Test.YtmppejhcjnodhaaGFair
namespace Go.Proofs.Ytmppejhcjnodhaa
open Go.RowKit

theorem isWrong_any (x : Int × Int) (w : World) : Calls Try.prog 34 #[.agg #[.int .i64 x.1, .int .i64 x.2]] w fun e w' => e = .returned (.bool (!decide (Tm x.1 ∧ Tm x.2))) ∧ Kept (fun _ => True) w w' := by
  obtain ⟨a, b⟩ := x
  have i1 := fun W => isTm_any a W
  have i2 := fun W => isTm_any b W
  simp only
  by_cases h1 : Tm a
  · by_cases h2 : Tm b
    · simp only [decide_eq_true h1] at i1
      simp only [decide_eq_true h2] at i2
      rw [decide_eq_true ⟨h1, h2⟩]
      clear h1 h2
      go_enter Try.func34, Try.ntmps34
      go_wp2_with fail
      refine (i1 _).mono ?_
      rintro e w1 ⟨rfl, rfl⟩
      go_wp2_with fail
      refine (i2 _).mono ?_
      rintro e w1 ⟨rfl, rfl⟩
      go_wp2
      go_ret
      exact ⟨rfl, (Kept.refl _ _).alloc _⟩
    · simp only [decide_eq_true h1] at i1
      simp only [decide_eq_false h2] at i2
      rw [decide_eq_false (fun q => h2 q.2)]
      clear h1 h2
      go_enter Try.func34, Try.ntmps34
      go_wp2_with fail
      refine (i1 _).mono ?_
      rintro e w1 ⟨rfl, rfl⟩
      go_wp2_with fail
      refine (i2 _).mono ?_
      rintro e w1 ⟨rfl, rfl⟩
      go_wp2
      go_ret
      exact ⟨rfl, (Kept.refl _ _).alloc _⟩
  · simp only [decide_eq_false h1] at i1
    rw [decide_eq_false (fun q => h1 q.1)]
    clear h1 i2
    go_enter Try.func34, Try.ntmps34
    go_wp2_with fail
    refine (i1 _).mono ?_
    rintro e w1 ⟨rfl, rfl⟩
    go_wp2
    go_ret
    exact ⟨rfl, (Kept.refl _ _).alloc _⟩

set_option maxHeartbeats 1000000 in
theorem fairStep_any (x y : Int × Int) (r : Int) (q : Bool) (hq : q = true ↔ Goes r x y) (hx : Tm x.1 ∧ Tm x.2) (hy : Tm y.1 ∧ Tm y.2) (hr : Dr r) (hle : x.1 ≤ y.1) (w : World) :
    Calls Try.prog 39 #[.agg #[.int .i64 x.1, .int .i64 x.2], .agg #[.int .i64 y.1, .int .i64 y.2], .int .i64 r] w fun e w' => e = .returned (.bool q) ∧ Kept (fun _ => True) w w' := by
  obtain ⟨a, b⟩ := x
  obtain ⟨c, d⟩ := y
  have hg := goes_iff r (a, b) (c, d)
  simp only at hx hy hle hg
  obtain ⟨⟨a0, a1⟩, ⟨b0, b1⟩⟩ := hx
  obtain ⟨⟨c0, c1⟩, ⟨d0, d1⟩⟩ := hy
  have hs := shown_le (between := c - a) (rho := r) ⟨by omega, by omega⟩ hr
  have r1 : Rt d d := ⟨by omega, by omega, by omega⟩
  have r2 : Rt b b := ⟨by omega, by omega, by omega⟩
  have r3 : Rt (d - b) (d - b) := ⟨by omega, by omega, by omega⟩
  have r4 : Rt (least (c - a) r) (most (c - a) r) := ⟨by omega, by omega, by omega⟩
  have k1 := fun W => sure_any d W
  have k2 := fun W => sure_any b W
  have k3 := fun W => sub_yes r1 r2 r3 W
  have k4 := fun W => shown_any (c - a) r ⟨by omega, by omega⟩ hr W
  have k5 := fun W => within_span r3 r4 W
  have e1 : decide (least (c - a) r ≤ d - b ∧ d - b ≤ most (c - a) r) = q := by
    by_cases h : Goes r (a, b) (c, d)
    · rw [tells_yes hq h]
      exact decide_eq_true (hg.2 h)
    · rw [tells_no hq h]
      exact decide_eq_false fun k => h (hg.1 k)
  simp only [e1] at k5
  clear hq
  generalize tw (least (c - a) r) = p1 at *
  generalize tw (most (c - a) r) = p2 at *
  generalize tw (d - b) = p3 at *
  generalize tw d = p4 at *
  generalize tw b = p5 at *
  clear r1 r2 r3 r4 hs hg e1 hr
  go_enter Try.func39, Try.ntmps39
  go_wp2_with fail
  have K : Kept (fun _ => True) w ((w.alloc (.cells #[.int .i64 a, .int .i64 b] 35)).alloc (.cells #[.int .i64 c, .int .i64 d] 35)) := ((Kept.refl _ _).alloc _).alloc _
  go_quiet (first | (go_at_call 31; exact Calls.quiet_of_same (k1 _)) | (go_at_call 31; exact Calls.quiet_of_same (k2 _)) | (go_at_call 49; exact Calls.quiet_of_same (k3 _)))
  go_wp2_with fail
  refine (k4 _).mono ?_
  rintro e w1 ⟨rfl, rfl⟩
  go_wp2_with fail
  refine (k5 _).mono ?_
  rintro e w1 ⟨rfl, rfl⟩
  go_wp2
  go_ret
  exact ⟨rfl, K.drewN _⟩

/-- A slice of readings. -/
structure Rd (w : World) (ao : Option Addr) (xs : List (Int × Int)) : Prop where
  row : 0 < xs.length → ∃ b off, ao = some ⟨b, off, none⟩ ∧ b < w.heap.size ∧ ∀ i (h : i < xs.length), w.cell? ⟨b, off + i * 2, none⟩ = some (.int .i64 xs[i].1) ∧ w.cell? ⟨b, off + i * 2 + 1, none⟩ = some (.int .i64 xs[i].2)
theorem Rd.kept {p : Nat → Prop} {w w' : World} {ao : Option Addr} {xs : List (Int × Int)} (h : Rd w ao xs) (k : Kept p w w') (hp : ∀ ad, ao = some ad → p ad.block) : Rd w' ao xs := ⟨fun h0 => by
  obtain ⟨b, off, rfl, hb, hc⟩ := h.row h0
  have := hp _ rfl
  exact ⟨b, off, rfl, Nat.lt_of_lt_of_le hb k.size, fun i hi => ⟨cell_kept k (hc i hi).1 this, cell_kept k (hc i hi).2 this⟩⟩⟩

set_option maxRecDepth 100000 in
set_option maxHeartbeats 1000000 in
theorem index_any {w : World} {ao : Option Addr} {cap : Nat} {xs : List (Int × Int)} (ho : Rd w ao xs) (hm : xs.length ≤ 1000) :
    Calls Try.prog 45 #[.slice ao xs.length cap, .func (.func 34) #[] #[]] w fun e w' => (∃ n : Int, e = .returned (.int .i64 n) ∧ (0 ≤ n ↔ ¬ AllTm xs) ∧ -1 ≤ n) ∧ Kept (fun _ => True) w w' := by
  have HO : Hid (Rd w ao xs) := ho
  clear ho
  go_enter Try.func45, Try.ntmps45
  go_wp2_with fail
  go_loopw [8] (fun t wr => ∃ (k : Nat), k ≤ xs.length ∧ t = .int .i64 k ∧ (∀ x ∈ xs.take k, Tm x.1 ∧ Tm x.2) ∧ Kept (fun _ => True) w wr) (fun t _ => xs.length - (intOf t).toNat)
  case atStart => exact ⟨0, Nat.zero_le _, rfl, by simp, Kept.refl _ _⟩
  case round =>
    obtain ⟨k, hk, rfl, hn, kk⟩ := hrel
    have HN : Hid (∀ x ∈ xs.take k, Tm x.1 ∧ Tm x.2) := hn
    clear hn
    by_cases hlt : k < xs.length
    · have HS : Hid (xs.take (k + 1) = xs.take k ++ [xs[k]]) := List.take_succ_eq_append_getElem hlt
      have HP : Hid (xs[k] ∈ xs) := List.getElem_mem hlt
      obtain ⟨b, off, rfl, hb, hc⟩ := (HO.out.kept kk (fun _ _ => trivial)).row (by omega)
      obtain ⟨y0, y1⟩ := hc k hlt
      have cs := fun W => isWrong_any xs[k] W
      clear hc
      generalize xs[k] = x at *
      have i1 : (k : Int) < (xs.length : Int) := by omega
      have i0 : (0 : Int) ≤ (k : Int) := by omega
      go_wp2_with fail
      refine Calls.mono (cs _) ?_
      rintro e w1 ⟨rfl, k1⟩
      by_cases he : Tm x.1 ∧ Tm x.2
      · rw [decide_eq_true he]
        clear cs
        go_wp2_with fail
        go_roundw
        case rel =>
          refine ⟨k + 1, by omega, by go_num, fun y hy => ?_, kk.trans k1⟩
          rw [HS.out] at hy
          rcases List.mem_append.1 hy with hy | hy
          · exact HN.out y hy
          · rw [List.mem_singleton.1 hy]; exact he
        case measure => simp [intOf]; omega
      · rw [decide_eq_false he]
        clear cs
        go_wp2_with fail
        go_ret
        exact ⟨⟨_, rfl, ⟨fun _ h => he (h x HP.out), fun _ => i0⟩, by omega⟩, kk.trans k1⟩
    · have i1 : ¬ ((k : Int) < (xs.length : Int)) := by omega
      go_wp2_with fail
      go_ret
      refine ⟨⟨_, rfl, ⟨fun h => by omega, fun h => absurd (show AllTm xs from fun x hx => HN.out x ?_) h⟩, by omega⟩, kk⟩
      rw [List.take_of_length_le (by omega)]
      exact hx

theorem contains_any {w : World} {ao : Option Addr} {cap : Nat} {xs : List (Int × Int)} (ho : Rd w ao xs) (hm : xs.length ≤ 1000) (q : Bool) (hq : q = true ↔ AllTm xs) :
    Calls Try.prog 33 #[.slice ao xs.length cap, .func (.func 34) #[] #[]] w fun e w' => e = .returned (.bool (!q)) ∧ Kept (fun _ => True) w w' := by
  have c := index_any (cap := cap) ho hm
  clear ho hm
  by_cases hA : AllTm xs
  · rw [tells_yes hq hA]
    have HA : Hid (AllTm xs) := hA
    clear hA hq
    go_enter Try.func33, Try.ntmps33
    go_wp2_with fail
    refine c.mono ?_
    rintro e w1 ⟨⟨n, rfl, hn, h1⟩, k1⟩
    have hd : decide (0 ≤ n) = false := decide_eq_false fun h => hn.1 h HA.out
    clear hn c
    go_wp2
    go_ret
    exact ⟨rfl, k1⟩
  · rw [tells_no hq hA]
    have HA : Hid (¬ AllTm xs) := hA
    clear hA hq
    go_enter Try.func33, Try.ntmps33
    go_wp2_with fail
    refine c.mono ?_
    rintro e w1 ⟨⟨n, rfl, hn, h1⟩, k1⟩
    have hd : decide (0 ≤ n) = true := decide_eq_true (hn.2 HA.out)
    clear hn c
    go_wp2
    go_ret
    exact ⟨rfl, k1⟩

end Go.Proofs.Ytmppejhcjnodhaa
