/-
  The program's table: New, where a client lies.
-/
import Derived.Test.YtmiccehdljammaaEB
namespace Go.Proofs.Ytmiccehdljammaa
open Go.RowKit

set_option maxHeartbeats 400000 in
theorem new_ok {w : World} (n : Int) (h1 : 1 ≤ n) (h5 : n ≤ 64) :
    Calls Try.prog 4 #[.int .i64 n] w fun e w' => e = .returned (.tuple #[.pointer (some ⟨w.heap.size, 0, none⟩), .int .i64 0]) ∧ Pt w' w.heap.size (.slice none 0 0) n [] ∧ Kept (fun _ => True) w w' := by
  have g1 : ¬ (n < 1) := by omega
  have g2 : ¬ (64 < n) := by omega
  go_enter Try.func4, Try.ntmps4
  go_wp2
  go_ret2
  exact ⟨rfl, ⟨heap_alloc_new w _, World.ownsRow_nil _ _ _ _, by decide, by simp⟩, (Kept.refl _ _).alloc _⟩

set_option maxHeartbeats 400000 in
theorem new_bad {w : World} (n : Int) (h : n < 1 ∨ 64 < n) :
    Calls Try.prog 4 #[.int .i64 n] w fun e w' => e = .returned (.tuple #[.pointer none, .int .i64 1]) ∧ w' = w := by
  by_cases g1 : n < 1
  · go_enter Try.func4, Try.ntmps4
    go_wp2
    go_ret2
    exact ⟨rfl, rfl⟩
  · have g2 : 64 < n := by omega
    go_enter Try.func4, Try.ntmps4
    go_wp2
    go_ret2
    exact ⟨rfl, rfl⟩

set_option maxHeartbeats 400000 in
theorem same_any {w : World} {D : Nat} {c : List UInt8} (x : La) (hc : w.cell? ⟨D, 0, none⟩ = some (.string ⟨c.toArray⟩)) :
    Calls Try.prog 11 #[.agg #[.string ⟨x.c.toArray⟩, .int .i64 x.i, .string ⟨x.r.toArray⟩], .pointer (some ⟨D, 0, none⟩)] w fun e w' => e = .returned (.bool (decide (x.c = c))) ∧ Kept (fun _ => True) w w' := by
  obtain ⟨xc, xi, xr⟩ := x
  have lt := World.block_lt_of_cell? w _ hc
  simp only
  by_cases he : xc = c
  · subst he
    rw [decide_eq_true rfl]
    go_enter Try.func11, Try.ntmps11
    go_wp2
    go_ret
    exact ⟨rfl, (Kept.refl _ _).alloc _⟩
  · have hne : (xc == c) = false := beq_eq_false_iff_ne.2 he
    rw [decide_eq_false he]
    clear he
    go_enter Try.func11, Try.ntmps11
    go_wp2
    go_ret
    exact ⟨rfl, (Kept.refl _ _).alloc _⟩

/-- Where a client lies; -1, if nowhere. -/
def Where (xs : List La) (c : List UInt8) (n : Int) : Prop := (n = -1 ∧ Nowhere xs c) ∨ ∃ k : Nat, n = k ∧ Spot xs c k

set_option maxRecDepth 100000 in
set_option maxHeartbeats 1000000 in
theorem index_any {w : World} {b D : Nat} {v : Value} {xs : List La} {c : List UInt8} (ho : w.ownsRow b 37 3 v xs.length (row true xs)) (hm : xs.length ≤ 100) (hc : w.cell? ⟨D, 0, none⟩ = some (.string ⟨c.toArray⟩)) :
    Calls Try.prog 10 #[v, .func (.func 11) #[] #[.pointer (some ⟨D, 0, none⟩)]] w fun e w' => (∃ n, e = .returned (.int .i64 n) ∧ Where xs c n) ∧ Kept (fun _ => True) w w' := by
  obtain ⟨ao, cap, rfl⟩ := shape_any ho
  have HO : Hid (w.ownsRow b 37 3 (.slice ao xs.length cap) xs.length (row true xs)) := ho
  clear ho
  go_enter Try.func10, Try.ntmps10
  go_wp2_with fail
  go_loopw [8] (fun t wr => ∃ (k : Nat), k ≤ xs.length ∧ t = .int .i64 k ∧ (∀ x ∈ xs.take k, x.c ≠ c) ∧ Kept (fun _ => True) w wr) (fun t _ => xs.length - (intOf t).toNat)
  case atStart => exact ⟨0, Nat.zero_le _, rfl, by simp, Kept.refl _ _⟩
  case round =>
    obtain ⟨k, hk, rfl, hn, kk⟩ := hrel
    have HN : Hid (∀ x ∈ xs.take k, x.c ≠ c) := hn
    clear hn
    by_cases hlt : k < xs.length
    · have HS : Hid (xs.take (k + 1) = xs.take k ++ [xs[k]]) := List.take_succ_eq_append_getElem hlt
      have HP : Hid (∀ (q : xs[k].c = c), Spot xs c k) := fun q => ⟨⟨hlt, q⟩, HN.out⟩
      have ho := own_kept3 HO.out kk (fun _ _ => trivial)
      obtain ⟨g, rfl⟩ : ∃ g, ao = some ⟨g, 0, none⟩ := by
        rcases ho.2 with ⟨hv, h0⟩ | ⟨g, cap', cur, hv, _, hh, hc, _⟩
        · omega
        · injection hv with h1; exact ⟨g, h1⟩
      obtain ⟨y0, y1, y2⟩ := lay_cells ho k hlt
      have cs := fun W (q : W.cell? ⟨D, 0, none⟩ = some (.string ⟨c.toArray⟩)) => same_any (w := W) (D := D) (c := c) xs[k] q
      have hc1 := cell_kept kk hc trivial
      generalize xs[k] = x at *
      have i1 : (k : Int) < (xs.length : Int) := by omega
      have i0 : (0 : Int) ≤ (k : Int) := by omega
      clear ho
      go_wp2_with fail
      refine Calls.mono (cs _ hc1) ?_
      rintro e w1 ⟨rfl, k1⟩
      by_cases he : x.c = c
      · rw [decide_eq_true he]
        clear cs
        go_wp2_with fail
        go_ret
        exact ⟨⟨_, rfl, .inr ⟨k, rfl, HP.out he⟩⟩, kk.trans k1⟩
      · rw [decide_eq_false he]
        clear cs
        go_wp2_with fail
        go_roundw
        case rel =>
          refine ⟨k + 1, by omega, by go_num, fun y hy => ?_, kk.trans k1⟩
          rw [HS.out] at hy
          rcases List.mem_append.1 hy with hy | hy
          · exact HN.out y hy
          · rw [List.mem_singleton.1 hy]; exact he
        case measure => simp [intOf]; omega
    · have i1 : ¬ ((k : Int) < (xs.length : Int)) := by omega
      go_wp2_with fail
      go_ret
      refine ⟨⟨_, rfl, .inl ⟨rfl, fun x hx => HN.out x ?_⟩⟩, kk⟩
      rw [List.take_of_length_le (by omega)]
      exact hx

set_option maxHeartbeats 400000 in
theorem place_any {w : World} {B : Nat} {v : Value} {m : Int} {xs : List La} (h : Pt w B v m xs) (c : List UInt8) :
    Calls Try.prog 8 #[.pointer (some ⟨B, 0, none⟩), .string ⟨c.toArray⟩] w fun e w' => (∃ n, e = .returned (.int .i64 n) ∧ Where xs c n) ∧ Kept (fun _ => True) w w' := by
  have k1 : Kept (fun _ => True) w (w.alloc (.cells #[.string ⟨c.toArray⟩] 9)) := (Kept.refl _ _).alloc _
  have h1 := h.all k1
  have hc := cell_of_one (heap_alloc_new w (.cells #[.string ⟨c.toArray⟩] 9))
  have ci := index_any h1.own h.most hc
  obtain ⟨c0, c1, f0, f1⟩ := two_cell h.self
  have lt := h.lt
  clear h h1 hc
  go_enter Try.func8, Try.ntmps8
  go_wp2_with fail
  refine Calls.mono ci ?_
  rintro e w2 ⟨⟨n, rfl, hn⟩, k2⟩
  go_wp2
  go_ret
  exact ⟨⟨n, rfl, hn⟩, k1.trans k2⟩

end Go.Proofs.Ytmiccehdljammaa
