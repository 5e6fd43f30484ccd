/-
  The program's net: New, has, full, Sent, place, copied.
-/
import Derived.Test.YtlgcecndfejngaaNB
namespace Go.Proofs.Ytlgcecndfejngaa
open Go.RowKit

set_option maxHeartbeats 400000 in
theorem new_ok {w : World} (n : Int) (h1 : 1 ≤ n) (h5 : n ≤ 5) :
    Calls Try.prog 8 #[.int .i64 n] w fun e w' => e = .returned (.tuple #[.pointer (some ⟨w.heap.size, 0, none⟩), .int .i64 0]) ∧ Nt 57 30 w' w.heap.size (.slice none 0 0) [] n 0 ∧ Kept (fun _ => True) w w' := by
  have g1 : ¬ (n < 1) := by omega
  have g2 : ¬ (5 < n) := by omega
  go_enter Try.func8, Try.ntmps8
  go_wp2
  go_ret2
  exact ⟨rfl, ⟨heap_alloc_new w _, World.ownsRow_nil _ _ _ _, by decide, by simp, by simp⟩, (Kept.refl _ _).alloc _⟩

set_option maxHeartbeats 400000 in
theorem new_bad {w : World} (n : Int) (h : n < 1 ∨ 5 < n) :
    Calls Try.prog 8 #[.int .i64 n] w fun e w' => e = .returned (.tuple #[.pointer none, .int .i64 1]) ∧ w' = w := by
  by_cases g1 : n < 1
  · go_enter Try.func8, Try.ntmps8
    go_wp2
    go_ret2
    exact ⟨rfl, rfl⟩
  · have g2 : 5 < n := by omega
    go_enter Try.func8, Try.ntmps8
    go_wp2
    go_ret2
    exact ⟨rfl, rfl⟩

section
variable {t e : TypeId} {w : World} {B : Nat} {v : Value} {xs : List (Int × Int × Value)} {n s : Int}

set_option maxHeartbeats 400000 in
theorem has_any (h : Nt t e w B v xs n s) (k : Int) :
    Calls Try.prog 21 #[.pointer (some ⟨B, 0, none⟩), .int .i64 k] w fun r w' => r = .returned (.bool (decide (0 ≤ k ∧ k < n))) ∧ w' = w := by
  obtain ⟨c0, c1, c2, f0, f1, f2⟩ := three_cell h.self
  clear h
  by_cases h0 : 0 ≤ k
  · by_cases h1 : k < n
    · have e1 : decide (0 ≤ k ∧ k < n) = true := by simp [h0, h1]
      rw [e1]
      go_enter Try.func21, Try.ntmps21
      go_wp2
      go_ret
      exact ⟨rfl, rfl⟩
    · have e1 : decide (0 ≤ k ∧ k < n) = false := by simp [h0, h1]
      rw [e1]
      go_enter Try.func21, Try.ntmps21
      go_wp2
      go_ret
      exact ⟨rfl, rfl⟩
  · have e1 : decide (0 ≤ k ∧ k < n) = false := by simp [h0]
    rw [e1]
    go_enter Try.func21, Try.ntmps21
    go_wp2
    go_ret
    exact ⟨rfl, rfl⟩

set_option maxHeartbeats 400000 in
theorem full_any (h : Nt t e w B v xs n s) :
    Calls Try.prog 22 #[.pointer (some ⟨B, 0, none⟩)] w fun r w' => r = .returned (.bool (decide (512 ≤ xs.length))) ∧ w' = w := by
  obtain ⟨c0, c1, c2, f0, f1, f2⟩ := three_cell h.self
  obtain ⟨ao, cap, rfl, -, -, -⟩ := h.shape
  clear h
  by_cases h0 : 512 ≤ xs.length
  · have g : (512 : Int) ≤ (xs.length : Int) := by omega
    have e1 : decide (512 ≤ xs.length) = true := by simp [h0]
    rw [e1]
    go_enter Try.func22, Try.ntmps22
    go_wp2
    go_ret
    exact ⟨rfl, rfl⟩
  · have g : ¬ ((512 : Int) ≤ (xs.length : Int)) := by omega
    have e1 : decide (512 ≤ xs.length) = false := by simp [h0]
    rw [e1]
    go_enter Try.func22, Try.ntmps22
    go_wp2
    go_ret
    exact ⟨rfl, rfl⟩

set_option maxHeartbeats 400000 in
theorem sent_any (h : Nt t e w B v xs n s) :
    Calls Try.prog 13 #[.pointer (some ⟨B, 0, none⟩)] w fun r w' => r = .returned (.int .i64 s) ∧ w' = w := by
  obtain ⟨c0, c1, c2, f0, f1, f2⟩ := three_cell h.self
  clear h
  go_enter Try.func13, Try.ntmps13
  go_wp2
  go_ret
  exact ⟨rfl, rfl⟩
end

/-- A number of Go's int. -/
def I64 (k : Int) : Prop := -9223372036854775808 ≤ k ∧ k ≤ 9223372036854775807
/-- Which message k is, of n. -/
def spot (k : Int) (n : Nat) : Nat := (if k < 0 then -(k + 1) else k).toNat % n
theorem spot_lt (k : Int) {n : Nat} (h : 0 < n) : spot k n < n := Nat.mod_lt _ h

set_option maxHeartbeats 400000 in
theorem place_none {t e : TypeId} {w : World} {B : Nat} {v : Value} {n s : Int} (h : Nt t e w B v [] n s) (k : Int) :
    Calls Try.prog 24 #[.pointer (some ⟨B, 0, none⟩), .int .i64 k] w fun r w' => r = .returned (.tuple #[.int .i64 0, .bool false]) ∧ w' = w := by
  obtain ⟨c0, c1, c2, f0, f1, f2⟩ := three_cell h.self
  obtain ⟨ao, cap, rfl, -, -, -⟩ := h.shape
  simp only [List.length_nil] at c1
  clear h
  go_enter Try.func24, Try.ntmps24
  go_wp2
  go_ret2
  exact ⟨rfl, rfl⟩

set_option maxHeartbeats 400000 in
theorem place_any {t e : TypeId} {w : World} {B : Nat} {v : Value} {xs : List (Int × Int × Value)} {n s : Int} (h : Nt t e w B v xs n s) (h0 : 0 < xs.length) (k : Int) (hk : I64 k) :
    Calls Try.prog 24 #[.pointer (some ⟨B, 0, none⟩), .int .i64 k] w fun r w' => r = .returned (.tuple #[.int .i64 (spot k xs.length : Nat), .bool true]) ∧ w' = w := by
  obtain ⟨c0, c1, c2, f0, f1, f2⟩ := three_cell h.self
  obtain ⟨ao, cap, rfl, -, -, -⟩ := h.shape
  have hm := h.most
  clear h
  obtain ⟨k1, k2⟩ := hk
  have g0 : ¬ ((xs.length : Int) = 0) := by omega
  obtain ⟨p, hp⟩ : ∃ p, p = spot k xs.length := ⟨_, rfl⟩
  rw [← hp]
  unfold spot at hp
  by_cases hn : k < 0
  · rw [if_pos hn] at hp
    have w1 : IntKind.i64.wrap (k + 1) = k + 1 := by simp [IntKind.wrap, IntKind.bits, IntKind.signed]; omega
    have w2 : IntKind.i64.wrap (-(k + 1)) = -(k + 1) := by simp [IntKind.wrap, IntKind.bits, IntKind.signed]; omega
    obtain ⟨m, hm2⟩ : ∃ m : Nat, -(k + 1) = (m : Int) := ⟨(-(k + 1)).toNat, by omega⟩
    rw [hm2, Int.toNat_natCast] at hp
    have hr : Int.tmod (-(k + 1)) (xs.length : Int) = (p : Int) := by rw [hm2, hp]; exact Int.ofNat_tmod m xs.length
    have w3 : IntKind.i64.wrap (p : Int) = (p : Int) := by
      have : p < xs.length := by rw [hp]; exact Nat.mod_lt _ h0
      simp [IntKind.wrap, IntKind.bits, IntKind.signed]; omega
    clear hm2 hp
    go_enter Try.func24, Try.ntmps24
    go_wp2
    go_ret2
    exact ⟨rfl, rfl⟩
  · rw [if_neg hn] at hp
    obtain ⟨m, rfl⟩ : ∃ m : Nat, k = (m : Int) := ⟨k.toNat, by omega⟩
    rw [Int.toNat_natCast] at hp
    have hr : Int.tmod (m : Int) (xs.length : Int) = (p : Int) := by rw [hp]; exact Int.ofNat_tmod m xs.length
    have w3 : IntKind.i64.wrap (p : Int) = (p : Int) := by
      have : p < xs.length := by rw [hp]; exact Nat.mod_lt _ h0
      simp [IntKind.wrap, IntKind.bits, IntKind.signed]; omega
    clear hp
    go_enter Try.func24, Try.ntmps24
    go_wp2
    go_ret2
    exact ⟨rfl, rfl⟩

set_option maxHeartbeats 400000 in
/-- A message with a body of its own. -/
theorem copied_any {w : World} {f t : Int} {ao : Option Addr} {cap : Nat} {bs : List UInt8} (hh : Has w ao bs) (hn : ao = none → cap = 0) (hl : bs.length ≤ 140737488355328) :
    Calls Try.prog 23 #[.agg #[.int .i64 f, .int .i64 t, .slice ao bs.length cap]] w fun r w' => ∃ bo bc, r = .returned (.agg #[.int .i64 f, .int .i64 t, .slice bo bs.length bc]) ∧ w'.ownsRow w.heap.size 5 1 (.slice bo bs.length bc) bs.length (cells bs) ∧ Kept (fun _ => True) w w' := by
  have HH : Hid (Has w ao bs) := hh
  have HN : Hid (ao = none → cap = 0) := hn
  clear hh hn
  obtain ⟨w0, hw0⟩ : ∃ w0, w0 = (w.alloc (.cells #[.int .i64 f, .int .i64 t, .slice ao bs.length cap] 30)).alloc (.cells #[.int .i64 0, .int .i64 0, .slice none 0 0] 30) := ⟨_, rfl⟩
  have k0 : Hid (Kept (fun _ => True) w w0) := by rw [hw0]; exact ((Kept.refl (fun _ => True) w).alloc _).alloc _
  have s0 : Hid (w0.heap.size = w.heap.size + 2) := by rw [hw0]; show _ = _; simp
  have b0 : w0.heap[w.heap.size]? = some (.cells #[.int .i64 f, .int .i64 t, .slice ao bs.length cap] 30 (0, 0)) := by rw [hw0]; exact (Below.heap_alloc _ _ _ (by simp)).trans (heap_alloc_new w _)
  have b1 : w0.heap[w.heap.size + 1]? = some (.cells #[.int .i64 0, .int .i64 0, .slice none 0 0] 30 (0, 0)) := by
    rw [hw0]
    have := heap_alloc_new (w.alloc (.cells #[.int .i64 f, .int .i64 t, .slice ao bs.length cap] 30)) (.cells #[.int .i64 0, .int .i64 0, .slice none 0 0] 30)
    simpa using this
  have hw : Hid (w0 = (w.alloc (.cells #[.int .i64 f, .int .i64 t, .slice ao bs.length cap] 30)).alloc (.cells #[.int .i64 0, .int .i64 0, .slice none 0 0] 30)) := hw0
  clear hw0
  go_enter Try.func23, Try.ntmps23
  go_wp2_with (at_builtin; rw [← hw.out]; refine wpList_append_has rfl (.const (.slice none 0 0)) (.tmp 4) rfl w.heap.size (.slice none 0 0) 0 [] rfl (World.ownsRow_nil _ _ _ _) k0.out.size ao bs.length cap rfl bs rfl HN.out (HH.out.kept k0.out (fun _ _ => trivial)) (by omega) ?_; intro a1 p1 w1 ho1 hg1 hl1; simp only [Nat.zero_add, List.nil_append] at ho1 hl1; have k1 : Kept (fun _ => True) w0 w1 := (Kept.refl _ _).grown hg1 (fun k _ h => by cases h); replace b0 := (k1.block _ (lt_of_block b0) trivial).trans b0; replace b1 := (k1.block _ (lt_of_block b1) trivial).trans b1; obtain ⟨q0, q1, q2, r0, r1, r2⟩ := three_cell b0; obtain ⟨q3, q4, q5, r3, r4, r5⟩ := three_cell b1)
  have hne : ∀ k, k < w.heap.size + 2 → (Value.slice a1 bs.length p1).ownBlock ≠ some k := fun k hk q => by
    rcases hl1 with h | h
    · rw [h] at q; simp [Value.ownBlock] at q
    · rw [h, s0.out] at q; simp at q; omega
  refine bodyPost_ret (v := .agg #[.int .i64 f, .int .i64 t, .slice a1 bs.length p1]) (by simp [results, Try.results23, go_sem, *]) rfl ⟨a1, p1, rfl, ?_, ?_⟩
  · exact ownsRow_setCell_other (ownsRow_setCell_other (ownsRow_setCell_other (ownsRow_setCell_other ho1 (hne _ (by simp)) _) (hne _ (by simp)) _) (hne _ (by simp)) _) (hne _ (by simp)) _
  · exact ((((k0.out.trans k1).setNew (by simp) _).setNew (by simp) _).setNew (by simp) _).setNew (by simp) _

end Go.Proofs.Ytlgcecndfejngaa
