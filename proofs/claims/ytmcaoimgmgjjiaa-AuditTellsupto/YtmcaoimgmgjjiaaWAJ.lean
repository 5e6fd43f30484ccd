/-
  Texts of the proofs, 36 of 52.
-/
import Derived.Test.YtmcaoimgmgjjiaaWQ
import Derived.Test.YtmcaoimgmgjjiaaWAI
namespace Go.Proofs.Ytmcaoimgmgjjiaa
open Go.RowKit

structure Tme (r : Ur) : Prop where
  k : (r.k = 1 ∧ r.tx = []) ∨ ((r.k = 2 ∨ r.k = 3 ∨ r.k = 4) ∧ (r.tx = [116] ∨ r.tx = [117]))
  g : r.gs = [0, 1] ∨ r.gs = [0] ∨ r.gs = [0, 1, 2]
  b : r.bd = []
theorem its_row {w : World} {G : Nat} {gs : List Nat} (h : w.heap[G]? = some (.cells (gs.map fun g : Nat => Value.int .i64 (g : Int)).toArray 3 (0, 0))) (hn : gs.length ≤ 1000) (b : Nat) (hb : b ≤ G) : Its w b (.slice (some ⟨G, 0, none⟩) gs.length gs.length) gs :=
  ⟨by simp [irow], .inr ⟨G, gs.length, _, rfl, hb, h, Nat.le_refl _, by unfold maxLen; omega, by simp, by simp only [irow, Nat.mul_one]; rw [List.take_of_length_le (by simp)]⟩⟩
theorem results_recA {fn : Func} {p : Nat} (h : fn.results = #[.cell p 24]) (tmps : Array Value) (w : World) {g : Nat} {a b c d : Value} {t : TypeId} (hp : tmps.getD p undef = .pointer (some ⟨g, 0, none⟩)) (hg : Four4 w g t a b c d) :
    (results fn tmps).run Try.prog w = .ok (.agg #[a, b, c, d]) w :=
  results_cell_row h tmps w g t #[a, b, c, d] _ _ hp hg Try.underlying24 rfl Try.sizeRec
def ETame (w : World) (e : Ending) (w' : World) : Prop := ∃ (r : Ur) (G : Nat), Tme r ∧ e = .returned (.agg #[.int .i64 (r.k : Nat), .string ⟨r.tx.toArray⟩, .slice (some ⟨G, 0, none⟩) r.gs.length r.gs.length, .string ⟨#[]⟩]) ∧ Its w' w.heap.size (.slice (some ⟨G, 0, none⟩) r.gs.length r.gs.length) r.gs ∧ Kept (fun _ => True) w w'

set_option maxRecDepth 100000 in
set_option maxHeartbeats 4000000 in
theorem tame_any (w : World) (k : Int) (tx bd : List UInt8) (a : Option Addr) (n c : Nat) : Calls Try.prog 23 #[.agg #[.int .i64 k, .string ⟨tx.toArray⟩, .slice a n c, .string ⟨bd.toArray⟩]] w fun e w' => ETame w e w' := by
  obtain ⟨w1, hw1⟩ : ∃ x, x = w.alloc (.cells #[.int .i64 k, .string ⟨tx.toArray⟩, .slice a n c, .string ⟨bd.toArray⟩] 24) := ⟨_, rfl⟩
  have k1 : Kept (fun _ => True) w w1 := by rw [hw1]; exact (Kept.refl _ _).alloc _
  have F1 : Four4 w1 w.heap.size 24 (.int .i64 k) (.string ⟨tx.toArray⟩) (.slice a n c) (.string ⟨bd.toArray⟩) := by rw [hw1]; exact heap_alloc_new w _
  have hz1 : w1.heap.size = w.heap.size + 1 := by rw [hw1, heap_size_alloc]
  obtain ⟨w2, hw2⟩ : ∃ x, x = w1.alloc (.cells #[.int .i64 0, .string ⟨#[]⟩, .slice none 0 0, .string ⟨#[]⟩] 24) := ⟨_, rfl⟩
  have k2 : Kept (fun _ => True) w1 w2 := by rw [hw2]; exact (Kept.refl _ _).alloc _
  have F2 : Four4 w2 w1.heap.size 24 (.int .i64 0) (.string ⟨#[]⟩) (.slice none 0 0) (.string ⟨#[]⟩) := by rw [hw2]; exact heap_alloc_new w1 _
  have hz2 : w2.heap.size = w1.heap.size + 1 := by rw [hw2, heap_size_alloc]
  have FX : Hid (Four4 w2 w.heap.size 24 (.int .i64 k) (.string ⟨tx.toArray⟩) (.slice a n c) (.string ⟨bd.toArray⟩)) := F1.kept k2 trivial
  have FZ : Hid (Four4 w2 w1.heap.size 24 (.int .i64 0) (.string ⟨#[]⟩) (.slice none 0 0) (.string ⟨#[]⟩)) := F2
  have HK : Hid (Kept (fun _ => True) w w2) := k1.trans k2
  have hsz : w.heap.size = w.heap.size := rfl
  obtain ⟨X, hX⟩ : ∃ X, X = w.heap.size := ⟨_, rfl⟩
  obtain ⟨Z, hZ⟩ : ∃ Z, Z = w1.heap.size := ⟨_, rfl⟩
  have HN : Hid (X = w.heap.size ∧ Z = X + 1 ∧ w2.heap.size = Z + 1) := ⟨hX, by omega, by omega⟩
  rw [← hX] at FX
  rw [← hZ] at FZ
  clear k1 k2 F1 F2 hsz
  go_enter Try.func23, Try.ntmps23
  go_upto_region 1 with fail
  rw [← hw1, ← hw2, ← hX]
  try rw [← hX] at hz1
  rw [← hz1, ← hZ]
  clear hw1 hw2 hz1 hz2
  clear hX hZ
  obtain ⟨q, hq⟩ : ∃ q, q = wi k 3 := ⟨_, rfl⟩
  have hq3 : q ≤ 3 := by rw [hq]; exact wi_le _ _
  have c1 := fun W : World => wi_any (w := W) k 3 (by decide)
  rw [← hq] at c1
  clear hq
  obtain ⟨x0, x1, x2, x3⟩ := FX.out.cell
  have xf := FX.out.free
  go_upto_region 2 with (go_at_call 24; (with_reducible refine Calls.mono (c1 _) ?_); rintro e w3 ⟨rfl, rfl⟩)
  have FX4 : Hid (Four4 (w3.setCell ⟨X, 0, none⟩ (.int .i64 (1 + (q : Int)))) X 24 (.int .i64 (1 + (q : Int))) (.string ⟨tx.toArray⟩) (.slice a n c) (.string ⟨bd.toArray⟩)) := FX.out.set0 _
  have FZ4 : Hid (Four4 (w3.setCell ⟨X, 0, none⟩ (.int .i64 (1 + (q : Int)))) Z 24 (.int .i64 0) (.string ⟨#[]⟩) (.slice none 0 0) (.string ⟨#[]⟩)) := FZ.out.kept kept_set (by have := HN.out.2.1; omega)
  have K4 : Hid (Kept (fun _ => True) w (w3.setCell ⟨X, 0, none⟩ (.int .i64 (1 + (q : Int))))) := kept_fresh HK.out (by show w.heap.size ≤ X; have := HN.out.1; omega) _
  clear x0 x1 x2 x3 xf FX FZ HK c1
  generalize w3.setCell ⟨X, 0, none⟩ (.int .i64 (1 + (q : Int))) = w4 at *
  obtain ⟨kk, hkk, HQ⟩ : ∃ kk : Nat, 1 + (q : Int) = (kk : Nat) ∧ Hid (1 ≤ kk ∧ kk ≤ 4) := ⟨q + 1, by omega, by show _ ∧ _; omega⟩
  rw [hkk] at FX4
  clear hkk
  obtain ⟨tq, htq, T6⟩ : ∃ tq : List UInt8, (tq = [116] ∨ tq = [117]) ∧ ∀ W, Calls Try.prog 24 #[.int .i64 (tx.length : Int), .int .i64 0, .int .i64 1] W fun e w' => e = .returned (.int .i64 (if tq = [116] then 0 else 1)) ∧ w' = W := by
    have h1 := wi_le (tx.length : Int) 1
    by_cases h0 : wi (tx.length : Int) 1 = 0
    · refine ⟨[116], .inl rfl, fun W => ?_⟩
      have := wi_any (w := W) (tx.length : Int) 1 (by decide)
      rw [h0] at this
      exact this
    · refine ⟨[117], .inr rfl, fun W => ?_⟩
      have := wi_any (w := W) (tx.length : Int) 1 (by decide)
      rw [show wi (tx.length : Int) 1 = 1 by omega] at this
      exact this
  have F5 : Four4 (w4.alloc (.cells #[.string ⟨#[116]⟩, .string ⟨#[117]⟩] 9)) X 24 (.int .i64 (kk : Nat)) (.string ⟨tx.toArray⟩) (.slice a n c) (.string ⟨bd.toArray⟩) := FX4.out.kept ((Kept.refl (fun _ => True) _).alloc _) trivial
  have FZ5 : Hid (Four4 (w4.alloc (.cells #[.string ⟨#[116]⟩, .string ⟨#[117]⟩] 9)) Z 24 (.int .i64 0) (.string ⟨#[]⟩) (.slice none 0 0) (.string ⟨#[]⟩)) := FZ4.out.kept ((Kept.refl (fun _ => True) _).alloc _) trivial
  have K5 : Hid (Kept (fun _ => True) w (w4.alloc (.cells #[.string ⟨#[116]⟩, .string ⟨#[117]⟩] 9))) := K4.out.alloc _
  rcases htq with rfl | rfl
  · have T7 : ∀ W, Calls Try.prog 24 #[.int .i64 (tx.length : Int), .int .i64 0, .int .i64 1] W fun e w' => e = .returned (.int .i64 (if ([116] : List UInt8) = [116] then 0 else 1)) ∧ w' = W := T6
    clear T6
    first | rw [if_pos rfl] at T7 | rw [if_neg (by decide)] at T7
    obtain ⟨x0, x1, x2, x3⟩ := F5.cell
    have xf := F5.free
    go_upto_region 3 with (go_at_call 24; (with_reducible refine Calls.mono (T7 _) ?_); rintro e w5 ⟨rfl, rfl⟩)
    have FX6 : Hid (Four4 ((w4.alloc (.cells #[.string ⟨#[116]⟩, .string ⟨#[117]⟩] 9)).setCell ⟨X, 1, none⟩ (.string ⟨#[116]⟩)) X 24 (.int .i64 (kk : Nat)) (.string ⟨#[116]⟩) (.slice a n c) (.string ⟨bd.toArray⟩)) := F5.set1 _
    have FZ6 : Hid (Four4 ((w4.alloc (.cells #[.string ⟨#[116]⟩, .string ⟨#[117]⟩] 9)).setCell ⟨X, 1, none⟩ (.string ⟨#[116]⟩)) Z 24 (.int .i64 0) (.string ⟨#[]⟩) (.slice none 0 0) (.string ⟨#[]⟩)) := FZ5.out.kept kept_set (by have := HN.out.2.1; omega)
    have K6 : Hid (Kept (fun _ => True) w ((w4.alloc (.cells #[.string ⟨#[116]⟩, .string ⟨#[117]⟩] 9)).setCell ⟨X, 1, none⟩ (.string ⟨#[116]⟩))) := kept_fresh K5.out (by show w.heap.size ≤ X; have := HN.out.1; omega) _
    clear x0 x1 x2 x3 xf F5 FZ5 K5 T7 FX4 FZ4 K4
    generalize (w4.alloc (.cells #[.string ⟨#[116]⟩, .string ⟨#[117]⟩] 9)).setCell ⟨X, 1, none⟩ (.string ⟨#[116]⟩) = w6 at *
    obtain ⟨x0, x1, x2, x3⟩ := FX6.out.cell
    have xf := FX6.out.free
    by_cases hkk : kk = 1
    · subst hkk
      first
        | have n1 : (((kk : Nat) : Int) == 1) = false := by simp; omega
          go_upto_region 5 with fail
          have FX7 : Hid (Four4 w6 X 24 (.int .i64 (1 : Nat)) (.string ⟨#[]⟩) (.slice a n c) (.string ⟨bd.toArray⟩)) := FX6.out
          have FZ7 : Hid (Four4 w6 Z 24 (.int .i64 0) (.string ⟨#[]⟩) (.slice none 0 0) (.string ⟨#[]⟩)) := FZ6.out
          have K7 : Hid (Kept (fun _ => True) w w6) := K6.out
          have K7l : Hid (Z + 1 ≤ w6.heap.size) := FZ6.out.lt
          obtain ⟨w7, hw7⟩ : ∃ x, x = w6 := ⟨_, rfl⟩
          rw [← hw7] at FX7 FZ7 K7 K7l ⊢
          clear hw7 FX6 FZ6 K6 x0 x1 x2 x3 xf n1
        | go_upto_region 5 with fail
          have FX7 : Hid (Four4 (w6.setCell ⟨X, 1, none⟩ (.string ⟨#[]⟩)) X 24 (.int .i64 (1 : Nat)) (.string ⟨#[]⟩) (.slice a n c) (.string ⟨bd.toArray⟩)) := FX6.out.set1 _
          have FZ7 : Hid (Four4 (w6.setCell ⟨X, 1, none⟩ (.string ⟨#[]⟩)) Z 24 (.int .i64 0) (.string ⟨#[]⟩) (.slice none 0 0) (.string ⟨#[]⟩)) := FZ6.out.kept kept_set (by have := HN.out.2.1; omega)
          have K7 : Hid (Kept (fun _ => True) w (w6.setCell ⟨X, 1, none⟩ (.string ⟨#[]⟩))) := kept_fresh K6.out (by show w.heap.size ≤ X; have := HN.out.1; omega) _
          have K7l : Hid (Z + 1 ≤ (w6.setCell ⟨X, 1, none⟩ (.string ⟨#[]⟩)).heap.size) := FZ7.out.lt
          clear FX6 FZ6 K6 x0 x1 x2 x3 xf
          generalize w6.setCell ⟨X, 1, none⟩ (.string ⟨#[]⟩) = w7 at *
      obtain ⟨w8, hw8⟩ : ∃ x, x = (((w7.alloc (.cells #[.int .i64 0, .int .i64 1] 3)).alloc (.cells #[.int .i64 0] 3)).alloc (.cells #[.int .i64 0, .int .i64 1, .int .i64 2] 3)).alloc (.cells #[.slice (some ⟨w7.heap.size, 0, none⟩) 2 2, .slice (some ⟨w7.heap.size + 1, 0, none⟩) 1 1, .slice (some ⟨w7.heap.size + 1 + 1, 0, none⟩) 3 3] 22) := ⟨_, rfl⟩
      have k8 : Kept (fun _ => True) w7 w8 := by rw [hw8]; exact ((((Kept.refl _ _).alloc _).alloc _).alloc _).alloc _
      have FX8 : Four4 w8 X 24 (.int .i64 (1 : Nat)) (.string ⟨#[]⟩) (.slice a n c) (.string ⟨bd.toArray⟩) := FX7.out.kept k8 trivial
      have FZ8 : Hid (Four4 w8 Z 24 (.int .i64 0) (.string ⟨#[]⟩) (.slice none 0 0) (.string ⟨#[]⟩)) := FZ7.out.kept k8 trivial
      have K8 : Hid (Kept (fun _ => True) w w8) := K7.out.trans k8
      have g0 : w8.heap[w7.heap.size]? = some (.cells #[.int .i64 0, .int .i64 1] 3 (0, 0)) := by
        rw [hw8]; exact alloc_old _ (alloc_old _ (alloc_old _ (heap_alloc_new w7 _)))
      have g1 : w8.heap[w7.heap.size + 1]? = some (.cells #[.int .i64 0] 3 (0, 0)) := by
        have := heap_alloc_new (w7.alloc (.cells #[.int .i64 0, .int .i64 1] 3)) (.cells #[.int .i64 0] 3)
        rw [heap_size_alloc] at this
        rw [hw8]; exact alloc_old _ (alloc_old _ this)
      have g2 : w8.heap[w7.heap.size + 1 + 1]? = some (.cells #[.int .i64 0, .int .i64 1, .int .i64 2] 3 (0, 0)) := by
        have := heap_alloc_new ((w7.alloc (.cells #[.int .i64 0, .int .i64 1] 3)).alloc (.cells #[.int .i64 0] 3)) (.cells #[.int .i64 0, .int .i64 1, .int .i64 2] 3)
        rw [heap_size_alloc, heap_size_alloc] at this
        rw [hw8]; exact alloc_old _ this
      have g3 : w8.heap[w7.heap.size + 1 + 1 + 1]? = some (.cells #[.slice (some ⟨w7.heap.size, 0, none⟩) 2 2, .slice (some ⟨w7.heap.size + 1, 0, none⟩) 1 1, .slice (some ⟨w7.heap.size + 1 + 1, 0, none⟩) 3 3] 22 (0, 0)) := by
        have := heap_alloc_new (((w7.alloc (.cells #[.int .i64 0, .int .i64 1] 3)).alloc (.cells #[.int .i64 0] 3)).alloc (.cells #[.int .i64 0, .int .i64 1, .int .i64 2] 3)) (.cells #[.slice (some ⟨w7.heap.size, 0, none⟩) 2 2, .slice (some ⟨w7.heap.size + 1, 0, none⟩) 1 1, .slice (some ⟨w7.heap.size + 1 + 1, 0, none⟩) 3 3] 22)
        rw [heap_size_alloc, heap_size_alloc, heap_size_alloc] at this
        rw [hw8]; exact this
      have s0 : w8.cell? ⟨w7.heap.size + 1 + 1 + 1, 0, none⟩ = some (.slice (some ⟨w7.heap.size, 0, none⟩) 2 2) := cell_of_row _ _ 0 _ _ _ g3
      have s1 : w8.cell? ⟨w7.heap.size + 1 + 1 + 1, 1, none⟩ = some (.slice (some ⟨w7.heap.size + 1, 0, none⟩) 1 1) := cell_of_row _ _ 1 _ _ _ g3
      have s2 : w8.cell? ⟨w7.heap.size + 1 + 1 + 1, 2, none⟩ = some (.slice (some ⟨w7.heap.size + 1 + 1, 0, none⟩) 3 3) := cell_of_row _ _ 2 _ _ _ g3
      have HG : Hid (w8.heap[w7.heap.size]? = some (.cells #[.int .i64 0, .int .i64 1] 3 (0, 0)) ∧ w8.heap[w7.heap.size + 1]? = some (.cells #[.int .i64 0] 3 (0, 0)) ∧ w8.heap[w7.heap.size + 1 + 1]? = some (.cells #[.int .i64 0, .int .i64 1, .int .i64 2] 3 (0, 0))) := ⟨g0, g1, g2⟩
      have HY : Hid (Z + 1 ≤ w7.heap.size ∧ w.heap.size ≤ w7.heap.size) := ⟨K7l.out, K7.out.size⟩
      clear g0 g1 g2 g3 k8 FX7 FZ7 K7 K7l
      obtain ⟨x0, x1, x2, x3⟩ := FX8.cell
      have xf := FX8.free
      rw [hw8] at x0 x1 x2 x3 xf s0 s1 s2
      have W2 := fun W : World => wi_any (w := W) (bd.length : Int) 2 (by decide)
      have l2 := wi_le (bd.length : Int) 2
      generalize wi (bd.length : Int) 2 = jj at *
      obtain rfl | rfl | rfl : jj = 0 ∨ jj = 1 ∨ jj = 2 := by omega
      · go_upto_region 6 with (go_at_call 24; (with_reducible refine Calls.mono (W2 _) ?_); rintro e w5 ⟨rfl, rfl⟩)
        rw [← hw8]
        clear x0 x1 x2 x3 xf s0 s1 s2 W2 hw8
        obtain ⟨G, hG⟩ : ∃ G, G = w7.heap.size + 0 := ⟨_, rfl⟩
        have HI : Hid (Its w8 w.heap.size (.slice (some ⟨G, 0, none⟩) ([0, 1] : List Nat).length ([0, 1] : List Nat).length) [0, 1]) := its_row (by rw [hG]; exact HG.out.1) (by decide) _ (by rw [hG]; have := HY.out; omega)
        have HGn : Hid (G ≠ X ∧ G ≠ Z) := by
          show _ ∧ _
          have := HY.out
          have := HN.out
          omega
        first | rw [show w7.heap.size + 1 + 1 = G from hG.symm] | rw [show w7.heap.size + 1 = G from hG.symm] | rw [show w7.heap.size = G from hG.symm]
        have FX9 : Four4 (w8.setCell ⟨X, 2, none⟩ (.slice (some ⟨G, 0, none⟩) 2 2)) X 24 (.int .i64 (1 : Nat)) (.string ⟨#[]⟩) (.slice (some ⟨G, 0, none⟩) 2 2) (.string ⟨bd.toArray⟩) := FX8.set2 _
        have FZ9 : Hid (Four4 (w8.setCell ⟨X, 2, none⟩ (.slice (some ⟨G, 0, none⟩) 2 2)) Z 24 (.int .i64 0) (.string ⟨#[]⟩) (.slice none 0 0) (.string ⟨#[]⟩)) := FZ8.out.kept kept_set (by have := HN.out.2.1; omega)
        have K9 : Hid (Kept (fun _ => True) w (w8.setCell ⟨X, 2, none⟩ (.slice (some ⟨G, 0, none⟩) 2 2))) := kept_fresh K8.out (by show w.heap.size ≤ X; have := HN.out.1; omega) _
        have HI9 : Hid (Its (w8.setCell ⟨X, 2, none⟩ (.slice (some ⟨G, 0, none⟩) 2 2)) w.heap.size (.slice (some ⟨G, 0, none⟩) ([0, 1] : List Nat).length ([0, 1] : List Nat).length) [0, 1]) := HI.out.kept kept_set (fun x hx => by have : x = G := (by simpa [Value.ownBlock] using hx.symm); rw [this]; exact HGn.out.1)
        clear FX8 FZ8 K8 HI HG HY hG
        generalize w8.setCell ⟨X, 2, none⟩ (.slice (some ⟨G, 0, none⟩) 2 2) = w9 at *
        obtain ⟨x0, x1, x2, x3⟩ := FX9.cell
        have xf := FX9.free
        go_upto_region 7 with fail
        have FX10 : Four4 (w9.setCell ⟨X, 3, none⟩ (.string ⟨#[]⟩)) X 24 (.int .i64 (1 : Nat)) (.string ⟨#[]⟩) (.slice (some ⟨G, 0, none⟩) 2 2) (.string ⟨#[]⟩) := FX9.set3 _
        have FZ10 : Four4 (w9.setCell ⟨X, 3, none⟩ (.string ⟨#[]⟩)) Z 24 (.int .i64 0) (.string ⟨#[]⟩) (.slice none 0 0) (.string ⟨#[]⟩) := FZ9.out.kept kept_set (by have := HN.out.2.1; omega)
        have K10 : Hid (Kept (fun _ => True) w (w9.setCell ⟨X, 3, none⟩ (.string ⟨#[]⟩))) := kept_fresh K9.out (by show w.heap.size ≤ X; have := HN.out.1; omega) _
        have HI10 : Hid (Its (w9.setCell ⟨X, 3, none⟩ (.string ⟨#[]⟩)) w.heap.size (.slice (some ⟨G, 0, none⟩) ([0, 1] : List Nat).length ([0, 1] : List Nat).length) [0, 1]) := HI9.out.kept kept_set (fun x hx => by have : x = G := (by simpa [Value.ownBlock] using hx.symm); rw [this]; exact HGn.out.1)
        clear x0 x1 x2 x3 xf FX9 FZ9 K9 HI9
        generalize w9.setCell ⟨X, 3, none⟩ (.string ⟨#[]⟩) = w10 at *
        obtain ⟨x0, x1, x2, x3⟩ := FX10.cell
        obtain ⟨z0, z1, z2, z3⟩ := FZ10.cell
        have zf := FZ10.free
        go_wp2_with fail
        have hzw : w.heap.size ≤ Z := by have := HN.out; omega
        refine bodyPost_ret (results_recA rfl _ _ rfl ((((FZ10.set0 _).set1 _).set2 _).set3 _)) rfl ⟨⟨1, [], [0, 1], []⟩, G, ⟨(.inl ⟨rfl, rfl⟩), by simp, rfl⟩, rfl, ?_, ?_⟩
        · have hne : ∀ x, (Value.slice (some ⟨G, 0, none⟩) ([0, 1] : List Nat).length ([0, 1] : List Nat).length).ownBlock = some x → x ≠ Z := fun x hx => by have : x = G := (by simpa [Value.ownBlock] using hx.symm); rw [this]; exact HGn.out.2
          exact (((HI10.out.kept kept_set hne).kept kept_set hne).kept kept_set hne).kept kept_set hne
        · exact kept_fresh (kept_fresh (kept_fresh (kept_fresh K10.out hzw _) hzw _) hzw _) hzw _
      · go_upto_region 6 with (go_at_call 24; (with_reducible refine Calls.mono (W2 _) ?_); rintro e w5 ⟨rfl, rfl⟩)
        rw [← hw8]
        clear x0 x1 x2 x3 xf s0 s1 s2 W2 hw8
        obtain ⟨G, hG⟩ : ∃ G, G = w7.heap.size + 1 := ⟨_, rfl⟩
        have HI : Hid (Its w8 w.heap.size (.slice (some ⟨G, 0, none⟩) ([0] : List Nat).length ([0] : List Nat).length) [0]) := its_row (by rw [hG]; exact HG.out.2.1) (by decide) _ (by rw [hG]; have := HY.out; omega)
        have HGn : Hid (G ≠ X ∧ G ≠ Z) := by
          show _ ∧ _
          have := HY.out
          have := HN.out
          omega
        first | rw [show w7.heap.size + 1 + 1 = G from hG.symm] | rw [show w7.heap.size + 1 = G from hG.symm] | rw [show w7.heap.size = G from hG.symm]
        have FX9 : Four4 (w8.setCell ⟨X, 2, none⟩ (.slice (some ⟨G, 0, none⟩) 1 1)) X 24 (.int .i64 (1 : Nat)) (.string ⟨#[]⟩) (.slice (some ⟨G, 0, none⟩) 1 1) (.string ⟨bd.toArray⟩) := FX8.set2 _
        have FZ9 : Hid (Four4 (w8.setCell ⟨X, 2, none⟩ (.slice (some ⟨G, 0, none⟩) 1 1)) Z 24 (.int .i64 0) (.string ⟨#[]⟩) (.slice none 0 0) (.string ⟨#[]⟩)) := FZ8.out.kept kept_set (by have := HN.out.2.1; omega)
        have K9 : Hid (Kept (fun _ => True) w (w8.setCell ⟨X, 2, none⟩ (.slice (some ⟨G, 0, none⟩) 1 1))) := kept_fresh K8.out (by show w.heap.size ≤ X; have := HN.out.1; omega) _
        have HI9 : Hid (Its (w8.setCell ⟨X, 2, none⟩ (.slice (some ⟨G, 0, none⟩) 1 1)) w.heap.size (.slice (some ⟨G, 0, none⟩) ([0] : List Nat).length ([0] : List Nat).length) [0]) := HI.out.kept kept_set (fun x hx => by have : x = G := (by simpa [Value.ownBlock] using hx.symm); rw [this]; exact HGn.out.1)
        clear FX8 FZ8 K8 HI HG HY hG
        generalize w8.setCell ⟨X, 2, none⟩ (.slice (some ⟨G, 0, none⟩) 1 1) = w9 at *
        obtain ⟨x0, x1, x2, x3⟩ := FX9.cell
        have xf := FX9.free
        go_upto_region 7 with fail
        have FX10 : Four4 (w9.setCell ⟨X, 3, none⟩ (.string ⟨#[]⟩)) X 24 (.int .i64 (1 : Nat)) (.string ⟨#[]⟩) (.slice (some ⟨G, 0, none⟩) 1 1) (.string ⟨#[]⟩) := FX9.set3 _
        have FZ10 : Four4 (w9.setCell ⟨X, 3, none⟩ (.string ⟨#[]⟩)) Z 24 (.int .i64 0) (.string ⟨#[]⟩) (.slice none 0 0) (.string ⟨#[]⟩) := FZ9.out.kept kept_set (by have := HN.out.2.1; omega)
        have K10 : Hid (Kept (fun _ => True) w (w9.setCell ⟨X, 3, none⟩ (.string ⟨#[]⟩))) := kept_fresh K9.out (by show w.heap.size ≤ X; have := HN.out.1; omega) _
        have HI10 : Hid (Its (w9.setCell ⟨X, 3, none⟩ (.string ⟨#[]⟩)) w.heap.size (.slice (some ⟨G, 0, none⟩) ([0] : List Nat).length ([0] : List Nat).length) [0]) := HI9.out.kept kept_set (fun x hx => by have : x = G := (by simpa [Value.ownBlock] using hx.symm); rw [this]; exact HGn.out.1)
        clear x0 x1 x2 x3 xf FX9 FZ9 K9 HI9
        generalize w9.setCell ⟨X, 3, none⟩ (.string ⟨#[]⟩) = w10 at *
        obtain ⟨x0, x1, x2, x3⟩ := FX10.cell
        obtain ⟨z0, z1, z2, z3⟩ := FZ10.cell
        have zf := FZ10.free
        go_wp2_with fail
        have hzw : w.heap.size ≤ Z := by have := HN.out; omega
        refine bodyPost_ret (results_recA rfl _ _ rfl ((((FZ10.set0 _).set1 _).set2 _).set3 _)) rfl ⟨⟨1, [], [0], []⟩, G, ⟨(.inl ⟨rfl, rfl⟩), by simp, rfl⟩, rfl, ?_, ?_⟩
        · have hne : ∀ x, (Value.slice (some ⟨G, 0, none⟩) ([0] : List Nat).length ([0] : List Nat).length).ownBlock = some x → x ≠ Z := fun x hx => by have : x = G := (by simpa [Value.ownBlock] using hx.symm); rw [this]; exact HGn.out.2
          exact (((HI10.out.kept kept_set hne).kept kept_set hne).kept kept_set hne).kept kept_set hne
        · exact kept_fresh (kept_fresh (kept_fresh (kept_fresh K10.out hzw _) hzw _) hzw _) hzw _
      · go_upto_region 6 with (go_at_call 24; (with_reducible refine Calls.mono (W2 _) ?_); rintro e w5 ⟨rfl, rfl⟩)
        rw [← hw8]
        clear x0 x1 x2 x3 xf s0 s1 s2 W2 hw8
        obtain ⟨G, hG⟩ : ∃ G, G = w7.heap.size + 2 := ⟨_, rfl⟩
        have HI : Hid (Its w8 w.heap.size (.slice (some ⟨G, 0, none⟩) ([0, 1, 2] : List Nat).length ([0, 1, 2] : List Nat).length) [0, 1, 2]) := its_row (by rw [hG]; exact HG.out.2.2) (by decide) _ (by rw [hG]; have := HY.out; omega)
        have HGn : Hid (G ≠ X ∧ G ≠ Z) := by
          show _ ∧ _
          have := HY.out
          have := HN.out
          omega
        first | rw [show w7.heap.size + 1 + 1 = G from hG.symm] | rw [show w7.heap.size + 1 = G from hG.symm] | rw [show w7.heap.size = G from hG.symm]
        have FX9 : Four4 (w8.setCell ⟨X, 2, none⟩ (.slice (some ⟨G, 0, none⟩) 3 3)) X 24 (.int .i64 (1 : Nat)) (.string ⟨#[]⟩) (.slice (some ⟨G, 0, none⟩) 3 3) (.string ⟨bd.toArray⟩) := FX8.set2 _
        have FZ9 : Hid (Four4 (w8.setCell ⟨X, 2, none⟩ (.slice (some ⟨G, 0, none⟩) 3 3)) Z 24 (.int .i64 0) (.string ⟨#[]⟩) (.slice none 0 0) (.string ⟨#[]⟩)) := FZ8.out.kept kept_set (by have := HN.out.2.1; omega)
        have K9 : Hid (Kept (fun _ => True) w (w8.setCell ⟨X, 2, none⟩ (.slice (some ⟨G, 0, none⟩) 3 3))) := kept_fresh K8.out (by show w.heap.size ≤ X; have := HN.out.1; omega) _
        have HI9 : Hid (Its (w8.setCell ⟨X, 2, none⟩ (.slice (some ⟨G, 0, none⟩) 3 3)) w.heap.size (.slice (some ⟨G, 0, none⟩) ([0, 1, 2] : List Nat).length ([0, 1, 2] : List Nat).length) [0, 1, 2]) := HI.out.kept kept_set (fun x hx => by have : x = G := (by simpa [Value.ownBlock] using hx.symm); rw [this]; exact HGn.out.1)
        clear FX8 FZ8 K8 HI HG HY hG
        generalize w8.setCell ⟨X, 2, none⟩ (.slice (some ⟨G, 0, none⟩) 3 3) = w9 at *
        obtain ⟨x0, x1, x2, x3⟩ := FX9.cell
        have xf := FX9.free
        go_upto_region 7 with fail
        have FX10 : Four4 (w9.setCell ⟨X, 3, none⟩ (.string ⟨#[]⟩)) X 24 (.int .i64 (1 : Nat)) (.string ⟨#[]⟩) (.slice (some ⟨G, 0, none⟩) 3 3) (.string ⟨#[]⟩) := FX9.set3 _
        have FZ10 : Four4 (w9.setCell ⟨X, 3, none⟩ (.string ⟨#[]⟩)) Z 24 (.int .i64 0) (.string ⟨#[]⟩) (.slice none 0 0) (.string ⟨#[]⟩) := FZ9.out.kept kept_set (by have := HN.out.2.1; omega)
        have K10 : Hid (Kept (fun _ => True) w (w9.setCell ⟨X, 3, none⟩ (.string ⟨#[]⟩))) := kept_fresh K9.out (by show w.heap.size ≤ X; have := HN.out.1; omega) _
        have HI10 : Hid (Its (w9.setCell ⟨X, 3, none⟩ (.string ⟨#[]⟩)) w.heap.size (.slice (some ⟨G, 0, none⟩) ([0, 1, 2] : List Nat).length ([0, 1, 2] : List Nat).length) [0, 1, 2]) := HI9.out.kept kept_set (fun x hx => by have : x = G := (by simpa [Value.ownBlock] using hx.symm); rw [this]; exact HGn.out.1)
        clear x0 x1 x2 x3 xf FX9 FZ9 K9 HI9
        generalize w9.setCell ⟨X, 3, none⟩ (.string ⟨#[]⟩) = w10 at *
        obtain ⟨x0, x1, x2, x3⟩ := FX10.cell
        obtain ⟨z0, z1, z2, z3⟩ := FZ10.cell
        have zf := FZ10.free
        go_wp2_with fail
        have hzw : w.heap.size ≤ Z := by have := HN.out; omega
        refine bodyPost_ret (results_recA rfl _ _ rfl ((((FZ10.set0 _).set1 _).set2 _).set3 _)) rfl ⟨⟨1, [], [0, 1, 2], []⟩, G, ⟨(.inl ⟨rfl, rfl⟩), by simp, rfl⟩, rfl, ?_, ?_⟩
        · have hne : ∀ x, (Value.slice (some ⟨G, 0, none⟩) ([0, 1, 2] : List Nat).length ([0, 1, 2] : List Nat).length).ownBlock = some x → x ≠ Z := fun x hx => by have : x = G := (by simpa [Value.ownBlock] using hx.symm); rw [this]; exact HGn.out.2
          exact (((HI10.out.kept kept_set hne).kept kept_set hne).kept kept_set hne).kept kept_set hne
        · exact kept_fresh (kept_fresh (kept_fresh (kept_fresh K10.out hzw _) hzw _) hzw _) hzw _
    · first
        | have n1 : (((kk : Nat) : Int) == 1) = false := by simp; omega
          go_upto_region 5 with fail
          have FX7 : Hid (Four4 w6 X 24 (.int .i64 (kk : Nat)) (.string ⟨#[116]⟩) (.slice a n c) (.string ⟨bd.toArray⟩)) := FX6.out
          have FZ7 : Hid (Four4 w6 Z 24 (.int .i64 0) (.string ⟨#[]⟩) (.slice none 0 0) (.string ⟨#[]⟩)) := FZ6.out
          have K7 : Hid (Kept (fun _ => True) w w6) := K6.out
          have K7l : Hid (Z + 1 ≤ w6.heap.size) := FZ6.out.lt
          obtain ⟨w7, hw7⟩ : ∃ x, x = w6 := ⟨_, rfl⟩
          rw [← hw7] at FX7 FZ7 K7 K7l ⊢
          clear hw7 FX6 FZ6 K6 x0 x1 x2 x3 xf n1
        | go_upto_region 5 with fail
          have FX7 : Hid (Four4 (w6.setCell ⟨X, 1, none⟩ (.string ⟨#[]⟩)) X 24 (.int .i64 (kk : Nat)) (.string ⟨#[116]⟩) (.slice a n c) (.string ⟨bd.toArray⟩)) := FX6.out.set1 _
          have FZ7 : Hid (Four4 (w6.setCell ⟨X, 1, none⟩ (.string ⟨#[]⟩)) Z 24 (.int .i64 0) (.string ⟨#[]⟩) (.slice none 0 0) (.string ⟨#[]⟩)) := FZ6.out.kept kept_set (by have := HN.out.2.1; omega)
          have K7 : Hid (Kept (fun _ => True) w (w6.setCell ⟨X, 1, none⟩ (.string ⟨#[]⟩))) := kept_fresh K6.out (by show w.heap.size ≤ X; have := HN.out.1; omega) _
          have K7l : Hid (Z + 1 ≤ (w6.setCell ⟨X, 1, none⟩ (.string ⟨#[]⟩)).heap.size) := FZ7.out.lt
          clear FX6 FZ6 K6 x0 x1 x2 x3 xf
          generalize w6.setCell ⟨X, 1, none⟩ (.string ⟨#[]⟩) = w7 at *
      obtain ⟨w8, hw8⟩ : ∃ x, x = (((w7.alloc (.cells #[.int .i64 0, .int .i64 1] 3)).alloc (.cells #[.int .i64 0] 3)).alloc (.cells #[.int .i64 0, .int .i64 1, .int .i64 2] 3)).alloc (.cells #[.slice (some ⟨w7.heap.size, 0, none⟩) 2 2, .slice (some ⟨w7.heap.size + 1, 0, none⟩) 1 1, .slice (some ⟨w7.heap.size + 1 + 1, 0, none⟩) 3 3] 22) := ⟨_, rfl⟩
      have k8 : Kept (fun _ => True) w7 w8 := by rw [hw8]; exact ((((Kept.refl _ _).alloc _).alloc _).alloc _).alloc _
      have FX8 : Four4 w8 X 24 (.int .i64 (kk : Nat)) (.string ⟨#[116]⟩) (.slice a n c) (.string ⟨bd.toArray⟩) := FX7.out.kept k8 trivial
      have FZ8 : Hid (Four4 w8 Z 24 (.int .i64 0) (.string ⟨#[]⟩) (.slice none 0 0) (.string ⟨#[]⟩)) := FZ7.out.kept k8 trivial
      have K8 : Hid (Kept (fun _ => True) w w8) := K7.out.trans k8
      have g0 : w8.heap[w7.heap.size]? = some (.cells #[.int .i64 0, .int .i64 1] 3 (0, 0)) := by
        rw [hw8]; exact alloc_old _ (alloc_old _ (alloc_old _ (heap_alloc_new w7 _)))
      have g1 : w8.heap[w7.heap.size + 1]? = some (.cells #[.int .i64 0] 3 (0, 0)) := by
        have := heap_alloc_new (w7.alloc (.cells #[.int .i64 0, .int .i64 1] 3)) (.cells #[.int .i64 0] 3)
        rw [heap_size_alloc] at this
        rw [hw8]; exact alloc_old _ (alloc_old _ this)
      have g2 : w8.heap[w7.heap.size + 1 + 1]? = some (.cells #[.int .i64 0, .int .i64 1, .int .i64 2] 3 (0, 0)) := by
        have := heap_alloc_new ((w7.alloc (.cells #[.int .i64 0, .int .i64 1] 3)).alloc (.cells #[.int .i64 0] 3)) (.cells #[.int .i64 0, .int .i64 1, .int .i64 2] 3)
        rw [heap_size_alloc, heap_size_alloc] at this
        rw [hw8]; exact alloc_old _ this
      have g3 : w8.heap[w7.heap.size + 1 + 1 + 1]? = some (.cells #[.slice (some ⟨w7.heap.size, 0, none⟩) 2 2, .slice (some ⟨w7.heap.size + 1, 0, none⟩) 1 1, .slice (some ⟨w7.heap.size + 1 + 1, 0, none⟩) 3 3] 22 (0, 0)) := by
        have := heap_alloc_new (((w7.alloc (.cells #[.int .i64 0, .int .i64 1] 3)).alloc (.cells #[.int .i64 0] 3)).alloc (.cells #[.int .i64 0, .int .i64 1, .int .i64 2] 3)) (.cells #[.slice (some ⟨w7.heap.size, 0, none⟩) 2 2, .slice (some ⟨w7.heap.size + 1, 0, none⟩) 1 1, .slice (some ⟨w7.heap.size + 1 + 1, 0, none⟩) 3 3] 22)
        rw [heap_size_alloc, heap_size_alloc, heap_size_alloc] at this
        rw [hw8]; exact this
      have s0 : w8.cell? ⟨w7.heap.size + 1 + 1 + 1, 0, none⟩ = some (.slice (some ⟨w7.heap.size, 0, none⟩) 2 2) := cell_of_row _ _ 0 _ _ _ g3
      have s1 : w8.cell? ⟨w7.heap.size + 1 + 1 + 1, 1, none⟩ = some (.slice (some ⟨w7.heap.size + 1, 0, none⟩) 1 1) := cell_of_row _ _ 1 _ _ _ g3
      have s2 : w8.cell? ⟨w7.heap.size + 1 + 1 + 1, 2, none⟩ = some (.slice (some ⟨w7.heap.size + 1 + 1, 0, none⟩) 3 3) := cell_of_row _ _ 2 _ _ _ g3
      have HG : Hid (w8.heap[w7.heap.size]? = some (.cells #[.int .i64 0, .int .i64 1] 3 (0, 0)) ∧ w8.heap[w7.heap.size + 1]? = some (.cells #[.int .i64 0] 3 (0, 0)) ∧ w8.heap[w7.heap.size + 1 + 1]? = some (.cells #[.int .i64 0, .int .i64 1, .int .i64 2] 3 (0, 0))) := ⟨g0, g1, g2⟩
      have HY : Hid (Z + 1 ≤ w7.heap.size ∧ w.heap.size ≤ w7.heap.size) := ⟨K7l.out, K7.out.size⟩
      clear g0 g1 g2 g3 k8 FX7 FZ7 K7 K7l
      obtain ⟨x0, x1, x2, x3⟩ := FX8.cell
      have xf := FX8.free
      rw [hw8] at x0 x1 x2 x3 xf s0 s1 s2
      have W2 := fun W : World => wi_any (w := W) (bd.length : Int) 2 (by decide)
      have l2 := wi_le (bd.length : Int) 2
      generalize wi (bd.length : Int) 2 = jj at *
      obtain rfl | rfl | rfl : jj = 0 ∨ jj = 1 ∨ jj = 2 := by omega
      · go_upto_region 6 with (go_at_call 24; (with_reducible refine Calls.mono (W2 _) ?_); rintro e w5 ⟨rfl, rfl⟩)
        rw [← hw8]
        clear x0 x1 x2 x3 xf s0 s1 s2 W2 hw8
        obtain ⟨G, hG⟩ : ∃ G, G = w7.heap.size + 0 := ⟨_, rfl⟩
        have HI : Hid (Its w8 w.heap.size (.slice (some ⟨G, 0, none⟩) ([0, 1] : List Nat).length ([0, 1] : List Nat).length) [0, 1]) := its_row (by rw [hG]; exact HG.out.1) (by decide) _ (by rw [hG]; have := HY.out; omega)
        have HGn : Hid (G ≠ X ∧ G ≠ Z) := by
          show _ ∧ _
          have := HY.out
          have := HN.out
          omega
        first | rw [show w7.heap.size + 1 + 1 = G from hG.symm] | rw [show w7.heap.size + 1 = G from hG.symm] | rw [show w7.heap.size = G from hG.symm]
        have FX9 : Four4 (w8.setCell ⟨X, 2, none⟩ (.slice (some ⟨G, 0, none⟩) 2 2)) X 24 (.int .i64 (kk : Nat)) (.string ⟨#[116]⟩) (.slice (some ⟨G, 0, none⟩) 2 2) (.string ⟨bd.toArray⟩) := FX8.set2 _
        have FZ9 : Hid (Four4 (w8.setCell ⟨X, 2, none⟩ (.slice (some ⟨G, 0, none⟩) 2 2)) Z 24 (.int .i64 0) (.string ⟨#[]⟩) (.slice none 0 0) (.string ⟨#[]⟩)) := FZ8.out.kept kept_set (by have := HN.out.2.1; omega)
        have K9 : Hid (Kept (fun _ => True) w (w8.setCell ⟨X, 2, none⟩ (.slice (some ⟨G, 0, none⟩) 2 2))) := kept_fresh K8.out (by show w.heap.size ≤ X; have := HN.out.1; omega) _
        have HI9 : Hid (Its (w8.setCell ⟨X, 2, none⟩ (.slice (some ⟨G, 0, none⟩) 2 2)) w.heap.size (.slice (some ⟨G, 0, none⟩) ([0, 1] : List Nat).length ([0, 1] : List Nat).length) [0, 1]) := HI.out.kept kept_set (fun x hx => by have : x = G := (by simpa [Value.ownBlock] using hx.symm); rw [this]; exact HGn.out.1)
        clear FX8 FZ8 K8 HI HG HY hG
        generalize w8.setCell ⟨X, 2, none⟩ (.slice (some ⟨G, 0, none⟩) 2 2) = w9 at *
        obtain ⟨x0, x1, x2, x3⟩ := FX9.cell
        have xf := FX9.free
        go_upto_region 7 with fail
        have FX10 : Four4 (w9.setCell ⟨X, 3, none⟩ (.string ⟨#[]⟩)) X 24 (.int .i64 (kk : Nat)) (.string ⟨#[116]⟩) (.slice (some ⟨G, 0, none⟩) 2 2) (.string ⟨#[]⟩) := FX9.set3 _
        have FZ10 : Four4 (w9.setCell ⟨X, 3, none⟩ (.string ⟨#[]⟩)) Z 24 (.int .i64 0) (.string ⟨#[]⟩) (.slice none 0 0) (.string ⟨#[]⟩) := FZ9.out.kept kept_set (by have := HN.out.2.1; omega)
        have K10 : Hid (Kept (fun _ => True) w (w9.setCell ⟨X, 3, none⟩ (.string ⟨#[]⟩))) := kept_fresh K9.out (by show w.heap.size ≤ X; have := HN.out.1; omega) _
        have HI10 : Hid (Its (w9.setCell ⟨X, 3, none⟩ (.string ⟨#[]⟩)) w.heap.size (.slice (some ⟨G, 0, none⟩) ([0, 1] : List Nat).length ([0, 1] : List Nat).length) [0, 1]) := HI9.out.kept kept_set (fun x hx => by have : x = G := (by simpa [Value.ownBlock] using hx.symm); rw [this]; exact HGn.out.1)
        clear x0 x1 x2 x3 xf FX9 FZ9 K9 HI9
        generalize w9.setCell ⟨X, 3, none⟩ (.string ⟨#[]⟩) = w10 at *
        obtain ⟨x0, x1, x2, x3⟩ := FX10.cell
        obtain ⟨z0, z1, z2, z3⟩ := FZ10.cell
        have zf := FZ10.free
        go_wp2_with fail
        have hzw : w.heap.size ≤ Z := by have := HN.out; omega
        refine bodyPost_ret (results_recA rfl _ _ rfl ((((FZ10.set0 _).set1 _).set2 _).set3 _)) rfl ⟨⟨kk, [116], [0, 1], []⟩, G, ⟨(.inr ⟨(show kk = 2 ∨ kk = 3 ∨ kk = 4 by have := HQ.out; omega), .inl rfl⟩), by simp, rfl⟩, rfl, ?_, ?_⟩
        · have hne : ∀ x, (Value.slice (some ⟨G, 0, none⟩) ([0, 1] : List Nat).length ([0, 1] : List Nat).length).ownBlock = some x → x ≠ Z := fun x hx => by have : x = G := (by simpa [Value.ownBlock] using hx.symm); rw [this]; exact HGn.out.2
          exact (((HI10.out.kept kept_set hne).kept kept_set hne).kept kept_set hne).kept kept_set hne
        · exact kept_fresh (kept_fresh (kept_fresh (kept_fresh K10.out hzw _) hzw _) hzw _) hzw _
      · go_upto_region 6 with (go_at_call 24; (with_reducible refine Calls.mono (W2 _) ?_); rintro e w5 ⟨rfl, rfl⟩)
        rw [← hw8]
        clear x0 x1 x2 x3 xf s0 s1 s2 W2 hw8
        obtain ⟨G, hG⟩ : ∃ G, G = w7.heap.size + 1 := ⟨_, rfl⟩
        have HI : Hid (Its w8 w.heap.size (.slice (some ⟨G, 0, none⟩) ([0] : List Nat).length ([0] : List Nat).length) [0]) := its_row (by rw [hG]; exact HG.out.2.1) (by decide) _ (by rw [hG]; have := HY.out; omega)
        have HGn : Hid (G ≠ X ∧ G ≠ Z) := by
          show _ ∧ _
          have := HY.out
          have := HN.out
          omega
        first | rw [show w7.heap.size + 1 + 1 = G from hG.symm] | rw [show w7.heap.size + 1 = G from hG.symm] | rw [show w7.heap.size = G from hG.symm]
        have FX9 : Four4 (w8.setCell ⟨X, 2, none⟩ (.slice (some ⟨G, 0, none⟩) 1 1)) X 24 (.int .i64 (kk : Nat)) (.string ⟨#[116]⟩) (.slice (some ⟨G, 0, none⟩) 1 1) (.string ⟨bd.toArray⟩) := FX8.set2 _
        have FZ9 : Hid (Four4 (w8.setCell ⟨X, 2, none⟩ (.slice (some ⟨G, 0, none⟩) 1 1)) Z 24 (.int .i64 0) (.string ⟨#[]⟩) (.slice none 0 0) (.string ⟨#[]⟩)) := FZ8.out.kept kept_set (by have := HN.out.2.1; omega)
        have K9 : Hid (Kept (fun _ => True) w (w8.setCell ⟨X, 2, none⟩ (.slice (some ⟨G, 0, none⟩) 1 1))) := kept_fresh K8.out (by show w.heap.size ≤ X; have := HN.out.1; omega) _
        have HI9 : Hid (Its (w8.setCell ⟨X, 2, none⟩ (.slice (some ⟨G, 0, none⟩) 1 1)) w.heap.size (.slice (some ⟨G, 0, none⟩) ([0] : List Nat).length ([0] : List Nat).length) [0]) := HI.out.kept kept_set (fun x hx => by have : x = G := (by simpa [Value.ownBlock] using hx.symm); rw [this]; exact HGn.out.1)
        clear FX8 FZ8 K8 HI HG HY hG
        generalize w8.setCell ⟨X, 2, none⟩ (.slice (some ⟨G, 0, none⟩) 1 1) = w9 at *
        obtain ⟨x0, x1, x2, x3⟩ := FX9.cell
        have xf := FX9.free
        go_upto_region 7 with fail
        have FX10 : Four4 (w9.setCell ⟨X, 3, none⟩ (.string ⟨#[]⟩)) X 24 (.int .i64 (kk : Nat)) (.string ⟨#[116]⟩) (.slice (some ⟨G, 0, none⟩) 1 1) (.string ⟨#[]⟩) := FX9.set3 _
        have FZ10 : Four4 (w9.setCell ⟨X, 3, none⟩ (.string ⟨#[]⟩)) Z 24 (.int .i64 0) (.string ⟨#[]⟩) (.slice none 0 0) (.string ⟨#[]⟩) := FZ9.out.kept kept_set (by have := HN.out.2.1; omega)
        have K10 : Hid (Kept (fun _ => True) w (w9.setCell ⟨X, 3, none⟩ (.string ⟨#[]⟩))) := kept_fresh K9.out (by show w.heap.size ≤ X; have := HN.out.1; omega) _
        have HI10 : Hid (Its (w9.setCell ⟨X, 3, none⟩ (.string ⟨#[]⟩)) w.heap.size (.slice (some ⟨G, 0, none⟩) ([0] : List Nat).length ([0] : List Nat).length) [0]) := HI9.out.kept kept_set (fun x hx => by have : x = G := (by simpa [Value.ownBlock] using hx.symm); rw [this]; exact HGn.out.1)
        clear x0 x1 x2 x3 xf FX9 FZ9 K9 HI9
        generalize w9.setCell ⟨X, 3, none⟩ (.string ⟨#[]⟩) = w10 at *
        obtain ⟨x0, x1, x2, x3⟩ := FX10.cell
        obtain ⟨z0, z1, z2, z3⟩ := FZ10.cell
        have zf := FZ10.free
        go_wp2_with fail
        have hzw : w.heap.size ≤ Z := by have := HN.out; omega
        refine bodyPost_ret (results_recA rfl _ _ rfl ((((FZ10.set0 _).set1 _).set2 _).set3 _)) rfl ⟨⟨kk, [116], [0], []⟩, G, ⟨(.inr ⟨(show kk = 2 ∨ kk = 3 ∨ kk = 4 by have := HQ.out; omega), .inl rfl⟩), by simp, rfl⟩, rfl, ?_, ?_⟩
        · have hne : ∀ x, (Value.slice (some ⟨G, 0, none⟩) ([0] : List Nat).length ([0] : List Nat).length).ownBlock = some x → x ≠ Z := fun x hx => by have : x = G := (by simpa [Value.ownBlock] using hx.symm); rw [this]; exact HGn.out.2
          exact (((HI10.out.kept kept_set hne).kept kept_set hne).kept kept_set hne).kept kept_set hne
        · exact kept_fresh (kept_fresh (kept_fresh (kept_fresh K10.out hzw _) hzw _) hzw _) hzw _
      · go_upto_region 6 with (go_at_call 24; (with_reducible refine Calls.mono (W2 _) ?_); rintro e w5 ⟨rfl, rfl⟩)
        rw [← hw8]
        clear x0 x1 x2 x3 xf s0 s1 s2 W2 hw8
        obtain ⟨G, hG⟩ : ∃ G, G = w7.heap.size + 2 := ⟨_, rfl⟩
        have HI : Hid (Its w8 w.heap.size (.slice (some ⟨G, 0, none⟩) ([0, 1, 2] : List Nat).length ([0, 1, 2] : List Nat).length) [0, 1, 2]) := its_row (by rw [hG]; exact HG.out.2.2) (by decide) _ (by rw [hG]; have := HY.out; omega)
        have HGn : Hid (G ≠ X ∧ G ≠ Z) := by
          show _ ∧ _
          have := HY.out
          have := HN.out
          omega
        first | rw [show w7.heap.size + 1 + 1 = G from hG.symm] | rw [show w7.heap.size + 1 = G from hG.symm] | rw [show w7.heap.size = G from hG.symm]
        have FX9 : Four4 (w8.setCell ⟨X, 2, none⟩ (.slice (some ⟨G, 0, none⟩) 3 3)) X 24 (.int .i64 (kk : Nat)) (.string ⟨#[116]⟩) (.slice (some ⟨G, 0, none⟩) 3 3) (.string ⟨bd.toArray⟩) := FX8.set2 _
        have FZ9 : Hid (Four4 (w8.setCell ⟨X, 2, none⟩ (.slice (some ⟨G, 0, none⟩) 3 3)) Z 24 (.int .i64 0) (.string ⟨#[]⟩) (.slice none 0 0) (.string ⟨#[]⟩)) := FZ8.out.kept kept_set (by have := HN.out.2.1; omega)
        have K9 : Hid (Kept (fun _ => True) w (w8.setCell ⟨X, 2, none⟩ (.slice (some ⟨G, 0, none⟩) 3 3))) := kept_fresh K8.out (by show w.heap.size ≤ X; have := HN.out.1; omega) _
        have HI9 : Hid (Its (w8.setCell ⟨X, 2, none⟩ (.slice (some ⟨G, 0, none⟩) 3 3)) w.heap.size (.slice (some ⟨G, 0, none⟩) ([0, 1, 2] : List Nat).length ([0, 1, 2] : List Nat).length) [0, 1, 2]) := HI.out.kept kept_set (fun x hx => by have : x = G := (by simpa [Value.ownBlock] using hx.symm); rw [this]; exact HGn.out.1)
        clear FX8 FZ8 K8 HI HG HY hG
        generalize w8.setCell ⟨X, 2, none⟩ (.slice (some ⟨G, 0, none⟩) 3 3) = w9 at *
        obtain ⟨x0, x1, x2, x3⟩ := FX9.cell
        have xf := FX9.free
        go_upto_region 7 with fail
        have FX10 : Four4 (w9.setCell ⟨X, 3, none⟩ (.string ⟨#[]⟩)) X 24 (.int .i64 (kk : Nat)) (.string ⟨#[116]⟩) (.slice (some ⟨G, 0, none⟩) 3 3) (.string ⟨#[]⟩) := FX9.set3 _
        have FZ10 : Four4 (w9.setCell ⟨X, 3, none⟩ (.string ⟨#[]⟩)) Z 24 (.int .i64 0) (.string ⟨#[]⟩) (.slice none 0 0) (.string ⟨#[]⟩) := FZ9.out.kept kept_set (by have := HN.out.2.1; omega)
        have K10 : Hid (Kept (fun _ => True) w (w9.setCell ⟨X, 3, none⟩ (.string ⟨#[]⟩))) := kept_fresh K9.out (by show w.heap.size ≤ X; have := HN.out.1; omega) _
        have HI10 : Hid (Its (w9.setCell ⟨X, 3, none⟩ (.string ⟨#[]⟩)) w.heap.size (.slice (some ⟨G, 0, none⟩) ([0, 1, 2] : List Nat).length ([0, 1, 2] : List Nat).length) [0, 1, 2]) := HI9.out.kept kept_set (fun x hx => by have : x = G := (by simpa [Value.ownBlock] using hx.symm); rw [this]; exact HGn.out.1)
        clear x0 x1 x2 x3 xf FX9 FZ9 K9 HI9
        generalize w9.setCell ⟨X, 3, none⟩ (.string ⟨#[]⟩) = w10 at *
        obtain ⟨x0, x1, x2, x3⟩ := FX10.cell
        obtain ⟨z0, z1, z2, z3⟩ := FZ10.cell
        have zf := FZ10.free
        go_wp2_with fail
        have hzw : w.heap.size ≤ Z := by have := HN.out; omega
        refine bodyPost_ret (results_recA rfl _ _ rfl ((((FZ10.set0 _).set1 _).set2 _).set3 _)) rfl ⟨⟨kk, [116], [0, 1, 2], []⟩, G, ⟨(.inr ⟨(show kk = 2 ∨ kk = 3 ∨ kk = 4 by have := HQ.out; omega), .inl rfl⟩), by simp, rfl⟩, rfl, ?_, ?_⟩
        · have hne : ∀ x, (Value.slice (some ⟨G, 0, none⟩) ([0, 1, 2] : List Nat).length ([0, 1, 2] : List Nat).length).ownBlock = some x → x ≠ Z := fun x hx => by have : x = G := (by simpa [Value.ownBlock] using hx.symm); rw [this]; exact HGn.out.2
          exact (((HI10.out.kept kept_set hne).kept kept_set hne).kept kept_set hne).kept kept_set hne
        · exact kept_fresh (kept_fresh (kept_fresh (kept_fresh K10.out hzw _) hzw _) hzw _) hzw _
  · have T7 : ∀ W, Calls Try.prog 24 #[.int .i64 (tx.length : Int), .int .i64 0, .int .i64 1] W fun e w' => e = .returned (.int .i64 (if ([117] : List UInt8) = [116] then 0 else 1)) ∧ w' = W := T6
    clear T6
    first | rw [if_pos rfl] at T7 | rw [if_neg (by decide)] at T7
    obtain ⟨x0, x1, x2, x3⟩ := F5.cell
    have xf := F5.free
    go_upto_region 3 with (go_at_call 24; (with_reducible refine Calls.mono (T7 _) ?_); rintro e w5 ⟨rfl, rfl⟩)
    have FX6 : Hid (Four4 ((w4.alloc (.cells #[.string ⟨#[116]⟩, .string ⟨#[117]⟩] 9)).setCell ⟨X, 1, none⟩ (.string ⟨#[117]⟩)) X 24 (.int .i64 (kk : Nat)) (.string ⟨#[117]⟩) (.slice a n c) (.string ⟨bd.toArray⟩)) := F5.set1 _
    have FZ6 : Hid (Four4 ((w4.alloc (.cells #[.string ⟨#[116]⟩, .string ⟨#[117]⟩] 9)).setCell ⟨X, 1, none⟩ (.string ⟨#[117]⟩)) Z 24 (.int .i64 0) (.string ⟨#[]⟩) (.slice none 0 0) (.string ⟨#[]⟩)) := FZ5.out.kept kept_set (by have := HN.out.2.1; omega)
    have K6 : Hid (Kept (fun _ => True) w ((w4.alloc (.cells #[.string ⟨#[116]⟩, .string ⟨#[117]⟩] 9)).setCell ⟨X, 1, none⟩ (.string ⟨#[117]⟩))) := kept_fresh K5.out (by show w.heap.size ≤ X; have := HN.out.1; omega) _
    clear x0 x1 x2 x3 xf F5 FZ5 K5 T7 FX4 FZ4 K4
    generalize (w4.alloc (.cells #[.string ⟨#[116]⟩, .string ⟨#[117]⟩] 9)).setCell ⟨X, 1, none⟩ (.string ⟨#[117]⟩) = w6 at *
    obtain ⟨x0, x1, x2, x3⟩ := FX6.out.cell
    have xf := FX6.out.free
    by_cases hkk : kk = 1
    · subst hkk
      first
        | have n1 : (((kk : Nat) : Int) == 1) = false := by simp; omega
          go_upto_region 5 with fail
          have FX7 : Hid (Four4 w6 X 24 (.int .i64 (1 : Nat)) (.string ⟨#[]⟩) (.slice a n c) (.string ⟨bd.toArray⟩)) := FX6.out
          have FZ7 : Hid (Four4 w6 Z 24 (.int .i64 0) (.string ⟨#[]⟩) (.slice none 0 0) (.string ⟨#[]⟩)) := FZ6.out
          have K7 : Hid (Kept (fun _ => True) w w6) := K6.out
          have K7l : Hid (Z + 1 ≤ w6.heap.size) := FZ6.out.lt
          obtain ⟨w7, hw7⟩ : ∃ x, x = w6 := ⟨_, rfl⟩
          rw [← hw7] at FX7 FZ7 K7 K7l ⊢
          clear hw7 FX6 FZ6 K6 x0 x1 x2 x3 xf n1
        | go_upto_region 5 with fail
          have FX7 : Hid (Four4 (w6.setCell ⟨X, 1, none⟩ (.string ⟨#[]⟩)) X 24 (.int .i64 (1 : Nat)) (.string ⟨#[]⟩) (.slice a n c) (.string ⟨bd.toArray⟩)) := FX6.out.set1 _
          have FZ7 : Hid (Four4 (w6.setCell ⟨X, 1, none⟩ (.string ⟨#[]⟩)) Z 24 (.int .i64 0) (.string ⟨#[]⟩) (.slice none 0 0) (.string ⟨#[]⟩)) := FZ6.out.kept kept_set (by have := HN.out.2.1; omega)
          have K7 : Hid (Kept (fun _ => True) w (w6.setCell ⟨X, 1, none⟩ (.string ⟨#[]⟩))) := kept_fresh K6.out (by show w.heap.size ≤ X; have := HN.out.1; omega) _
          have K7l : Hid (Z + 1 ≤ (w6.setCell ⟨X, 1, none⟩ (.string ⟨#[]⟩)).heap.size) := FZ7.out.lt
          clear FX6 FZ6 K6 x0 x1 x2 x3 xf
          generalize w6.setCell ⟨X, 1, none⟩ (.string ⟨#[]⟩) = w7 at *
      obtain ⟨w8, hw8⟩ : ∃ x, x = (((w7.alloc (.cells #[.int .i64 0, .int .i64 1] 3)).alloc (.cells #[.int .i64 0] 3)).alloc (.cells #[.int .i64 0, .int .i64 1, .int .i64 2] 3)).alloc (.cells #[.slice (some ⟨w7.heap.size, 0, none⟩) 2 2, .slice (some ⟨w7.heap.size + 1, 0, none⟩) 1 1, .slice (some ⟨w7.heap.size + 1 + 1, 0, none⟩) 3 3] 22) := ⟨_, rfl⟩
      have k8 : Kept (fun _ => True) w7 w8 := by rw [hw8]; exact ((((Kept.refl _ _).alloc _).alloc _).alloc _).alloc _
      have FX8 : Four4 w8 X 24 (.int .i64 (1 : Nat)) (.string ⟨#[]⟩) (.slice a n c) (.string ⟨bd.toArray⟩) := FX7.out.kept k8 trivial
      have FZ8 : Hid (Four4 w8 Z 24 (.int .i64 0) (.string ⟨#[]⟩) (.slice none 0 0) (.string ⟨#[]⟩)) := FZ7.out.kept k8 trivial
      have K8 : Hid (Kept (fun _ => True) w w8) := K7.out.trans k8
      have g0 : w8.heap[w7.heap.size]? = some (.cells #[.int .i64 0, .int .i64 1] 3 (0, 0)) := by
        rw [hw8]; exact alloc_old _ (alloc_old _ (alloc_old _ (heap_alloc_new w7 _)))
      have g1 : w8.heap[w7.heap.size + 1]? = some (.cells #[.int .i64 0] 3 (0, 0)) := by
        have := heap_alloc_new (w7.alloc (.cells #[.int .i64 0, .int .i64 1] 3)) (.cells #[.int .i64 0] 3)
        rw [heap_size_alloc] at this
        rw [hw8]; exact alloc_old _ (alloc_old _ this)
      have g2 : w8.heap[w7.heap.size + 1 + 1]? = some (.cells #[.int .i64 0, .int .i64 1, .int .i64 2] 3 (0, 0)) := by
        have := heap_alloc_new ((w7.alloc (.cells #[.int .i64 0, .int .i64 1] 3)).alloc (.cells #[.int .i64 0] 3)) (.cells #[.int .i64 0, .int .i64 1, .int .i64 2] 3)
        rw [heap_size_alloc, heap_size_alloc] at this
        rw [hw8]; exact alloc_old _ this
      have g3 : w8.heap[w7.heap.size + 1 + 1 + 1]? = some (.cells #[.slice (some ⟨w7.heap.size, 0, none⟩) 2 2, .slice (some ⟨w7.heap.size + 1, 0, none⟩) 1 1, .slice (some ⟨w7.heap.size + 1 + 1, 0, none⟩) 3 3] 22 (0, 0)) := by
        have := heap_alloc_new (((w7.alloc (.cells #[.int .i64 0, .int .i64 1] 3)).alloc (.cells #[.int .i64 0] 3)).alloc (.cells #[.int .i64 0, .int .i64 1, .int .i64 2] 3)) (.cells #[.slice (some ⟨w7.heap.size, 0, none⟩) 2 2, .slice (some ⟨w7.heap.size + 1, 0, none⟩) 1 1, .slice (some ⟨w7.heap.size + 1 + 1, 0, none⟩) 3 3] 22)
        rw [heap_size_alloc, heap_size_alloc, heap_size_alloc] at this
        rw [hw8]; exact this
      have s0 : w8.cell? ⟨w7.heap.size + 1 + 1 + 1, 0, none⟩ = some (.slice (some ⟨w7.heap.size, 0, none⟩) 2 2) := cell_of_row _ _ 0 _ _ _ g3
      have s1 : w8.cell? ⟨w7.heap.size + 1 + 1 + 1, 1, none⟩ = some (.slice (some ⟨w7.heap.size + 1, 0, none⟩) 1 1) := cell_of_row _ _ 1 _ _ _ g3
      have s2 : w8.cell? ⟨w7.heap.size + 1 + 1 + 1, 2, none⟩ = some (.slice (some ⟨w7.heap.size + 1 + 1, 0, none⟩) 3 3) := cell_of_row _ _ 2 _ _ _ g3
      have HG : Hid (w8.heap[w7.heap.size]? = some (.cells #[.int .i64 0, .int .i64 1] 3 (0, 0)) ∧ w8.heap[w7.heap.size + 1]? = some (.cells #[.int .i64 0] 3 (0, 0)) ∧ w8.heap[w7.heap.size + 1 + 1]? = some (.cells #[.int .i64 0, .int .i64 1, .int .i64 2] 3 (0, 0))) := ⟨g0, g1, g2⟩
      have HY : Hid (Z + 1 ≤ w7.heap.size ∧ w.heap.size ≤ w7.heap.size) := ⟨K7l.out, K7.out.size⟩
      clear g0 g1 g2 g3 k8 FX7 FZ7 K7 K7l
      obtain ⟨x0, x1, x2, x3⟩ := FX8.cell
      have xf := FX8.free
      rw [hw8] at x0 x1 x2 x3 xf s0 s1 s2
      have W2 := fun W : World => wi_any (w := W) (bd.length : Int) 2 (by decide)
      have l2 := wi_le (bd.length : Int) 2
      generalize wi (bd.length : Int) 2 = jj at *
      obtain rfl | rfl | rfl : jj = 0 ∨ jj = 1 ∨ jj = 2 := by omega
      · go_upto_region 6 with (go_at_call 24; (with_reducible refine Calls.mono (W2 _) ?_); rintro e w5 ⟨rfl, rfl⟩)
        rw [← hw8]
        clear x0 x1 x2 x3 xf s0 s1 s2 W2 hw8
        obtain ⟨G, hG⟩ : ∃ G, G = w7.heap.size + 0 := ⟨_, rfl⟩
        have HI : Hid (Its w8 w.heap.size (.slice (some ⟨G, 0, none⟩) ([0, 1] : List Nat).length ([0, 1] : List Nat).length) [0, 1]) := its_row (by rw [hG]; exact HG.out.1) (by decide) _ (by rw [hG]; have := HY.out; omega)
        have HGn : Hid (G ≠ X ∧ G ≠ Z) := by
          show _ ∧ _
          have := HY.out
          have := HN.out
          omega
        first | rw [show w7.heap.size + 1 + 1 = G from hG.symm] | rw [show w7.heap.size + 1 = G from hG.symm] | rw [show w7.heap.size = G from hG.symm]
        have FX9 : Four4 (w8.setCell ⟨X, 2, none⟩ (.slice (some ⟨G, 0, none⟩) 2 2)) X 24 (.int .i64 (1 : Nat)) (.string ⟨#[]⟩) (.slice (some ⟨G, 0, none⟩) 2 2) (.string ⟨bd.toArray⟩) := FX8.set2 _
        have FZ9 : Hid (Four4 (w8.setCell ⟨X, 2, none⟩ (.slice (some ⟨G, 0, none⟩) 2 2)) Z 24 (.int .i64 0) (.string ⟨#[]⟩) (.slice none 0 0) (.string ⟨#[]⟩)) := FZ8.out.kept kept_set (by have := HN.out.2.1; omega)
        have K9 : Hid (Kept (fun _ => True) w (w8.setCell ⟨X, 2, none⟩ (.slice (some ⟨G, 0, none⟩) 2 2))) := kept_fresh K8.out (by show w.heap.size ≤ X; have := HN.out.1; omega) _
        have HI9 : Hid (Its (w8.setCell ⟨X, 2, none⟩ (.slice (some ⟨G, 0, none⟩) 2 2)) w.heap.size (.slice (some ⟨G, 0, none⟩) ([0, 1] : List Nat).length ([0, 1] : List Nat).length) [0, 1]) := HI.out.kept kept_set (fun x hx => by have : x = G := (by simpa [Value.ownBlock] using hx.symm); rw [this]; exact HGn.out.1)
        clear FX8 FZ8 K8 HI HG HY hG
        generalize w8.setCell ⟨X, 2, none⟩ (.slice (some ⟨G, 0, none⟩) 2 2) = w9 at *
        obtain ⟨x0, x1, x2, x3⟩ := FX9.cell
        have xf := FX9.free
        go_upto_region 7 with fail
        have FX10 : Four4 (w9.setCell ⟨X, 3, none⟩ (.string ⟨#[]⟩)) X 24 (.int .i64 (1 : Nat)) (.string ⟨#[]⟩) (.slice (some ⟨G, 0, none⟩) 2 2) (.string ⟨#[]⟩) := FX9.set3 _
        have FZ10 : Four4 (w9.setCell ⟨X, 3, none⟩ (.string ⟨#[]⟩)) Z 24 (.int .i64 0) (.string ⟨#[]⟩) (.slice none 0 0) (.string ⟨#[]⟩) := FZ9.out.kept kept_set (by have := HN.out.2.1; omega)
        have K10 : Hid (Kept (fun _ => True) w (w9.setCell ⟨X, 3, none⟩ (.string ⟨#[]⟩))) := kept_fresh K9.out (by show w.heap.size ≤ X; have := HN.out.1; omega) _
        have HI10 : Hid (Its (w9.setCell ⟨X, 3, none⟩ (.string ⟨#[]⟩)) w.heap.size (.slice (some ⟨G, 0, none⟩) ([0, 1] : List Nat).length ([0, 1] : List Nat).length) [0, 1]) := HI9.out.kept kept_set (fun x hx => by have : x = G := (by simpa [Value.ownBlock] using hx.symm); rw [this]; exact HGn.out.1)
        clear x0 x1 x2 x3 xf FX9 FZ9 K9 HI9
        generalize w9.setCell ⟨X, 3, none⟩ (.string ⟨#[]⟩) = w10 at *
        obtain ⟨x0, x1, x2, x3⟩ := FX10.cell
        obtain ⟨z0, z1, z2, z3⟩ := FZ10.cell
        have zf := FZ10.free
        go_wp2_with fail
        have hzw : w.heap.size ≤ Z := by have := HN.out; omega
        refine bodyPost_ret (results_recA rfl _ _ rfl ((((FZ10.set0 _).set1 _).set2 _).set3 _)) rfl ⟨⟨1, [], [0, 1], []⟩, G, ⟨(.inl ⟨rfl, rfl⟩), by simp, rfl⟩, rfl, ?_, ?_⟩
        · have hne : ∀ x, (Value.slice (some ⟨G, 0, none⟩) ([0, 1] : List Nat).length ([0, 1] : List Nat).length).ownBlock = some x → x ≠ Z := fun x hx => by have : x = G := (by simpa [Value.ownBlock] using hx.symm); rw [this]; exact HGn.out.2
          exact (((HI10.out.kept kept_set hne).kept kept_set hne).kept kept_set hne).kept kept_set hne
        · exact kept_fresh (kept_fresh (kept_fresh (kept_fresh K10.out hzw _) hzw _) hzw _) hzw _
      · go_upto_region 6 with (go_at_call 24; (with_reducible refine Calls.mono (W2 _) ?_); rintro e w5 ⟨rfl, rfl⟩)
        rw [← hw8]
        clear x0 x1 x2 x3 xf s0 s1 s2 W2 hw8
        obtain ⟨G, hG⟩ : ∃ G, G = w7.heap.size + 1 := ⟨_, rfl⟩
        have HI : Hid (Its w8 w.heap.size (.slice (some ⟨G, 0, none⟩) ([0] : List Nat).length ([0] : List Nat).length) [0]) := its_row (by rw [hG]; exact HG.out.2.1) (by decide) _ (by rw [hG]; have := HY.out; omega)
        have HGn : Hid (G ≠ X ∧ G ≠ Z) := by
          show _ ∧ _
          have := HY.out
          have := HN.out
          omega
        first | rw [show w7.heap.size + 1 + 1 = G from hG.symm] | rw [show w7.heap.size + 1 = G from hG.symm] | rw [show w7.heap.size = G from hG.symm]
        have FX9 : Four4 (w8.setCell ⟨X, 2, none⟩ (.slice (some ⟨G, 0, none⟩) 1 1)) X 24 (.int .i64 (1 : Nat)) (.string ⟨#[]⟩) (.slice (some ⟨G, 0, none⟩) 1 1) (.string ⟨bd.toArray⟩) := FX8.set2 _
        have FZ9 : Hid (Four4 (w8.setCell ⟨X, 2, none⟩ (.slice (some ⟨G, 0, none⟩) 1 1)) Z 24 (.int .i64 0) (.string ⟨#[]⟩) (.slice none 0 0) (.string ⟨#[]⟩)) := FZ8.out.kept kept_set (by have := HN.out.2.1; omega)
        have K9 : Hid (Kept (fun _ => True) w (w8.setCell ⟨X, 2, none⟩ (.slice (some ⟨G, 0, none⟩) 1 1))) := kept_fresh K8.out (by show w.heap.size ≤ X; have := HN.out.1; omega) _
        have HI9 : Hid (Its (w8.setCell ⟨X, 2, none⟩ (.slice (some ⟨G, 0, none⟩) 1 1)) w.heap.size (.slice (some ⟨G, 0, none⟩) ([0] : List Nat).length ([0] : List Nat).length) [0]) := HI.out.kept kept_set (fun x hx => by have : x = G := (by simpa [Value.ownBlock] using hx.symm); rw [this]; exact HGn.out.1)
        clear FX8 FZ8 K8 HI HG HY hG
        generalize w8.setCell ⟨X, 2, none⟩ (.slice (some ⟨G, 0, none⟩) 1 1) = w9 at *
        obtain ⟨x0, x1, x2, x3⟩ := FX9.cell
        have xf := FX9.free
        go_upto_region 7 with fail
        have FX10 : Four4 (w9.setCell ⟨X, 3, none⟩ (.string ⟨#[]⟩)) X 24 (.int .i64 (1 : Nat)) (.string ⟨#[]⟩) (.slice (some ⟨G, 0, none⟩) 1 1) (.string ⟨#[]⟩) := FX9.set3 _
        have FZ10 : Four4 (w9.setCell ⟨X, 3, none⟩ (.string ⟨#[]⟩)) Z 24 (.int .i64 0) (.string ⟨#[]⟩) (.slice none 0 0) (.string ⟨#[]⟩) := FZ9.out.kept kept_set (by have := HN.out.2.1; omega)
        have K10 : Hid (Kept (fun _ => True) w (w9.setCell ⟨X, 3, none⟩ (.string ⟨#[]⟩))) := kept_fresh K9.out (by show w.heap.size ≤ X; have := HN.out.1; omega) _
        have HI10 : Hid (Its (w9.setCell ⟨X, 3, none⟩ (.string ⟨#[]⟩)) w.heap.size (.slice (some ⟨G, 0, none⟩) ([0] : List Nat).length ([0] : List Nat).length) [0]) := HI9.out.kept kept_set (fun x hx => by have : x = G := (by simpa [Value.ownBlock] using hx.symm); rw [this]; exact HGn.out.1)
        clear x0 x1 x2 x3 xf FX9 FZ9 K9 HI9
        generalize w9.setCell ⟨X, 3, none⟩ (.string ⟨#[]⟩) = w10 at *
        obtain ⟨x0, x1, x2, x3⟩ := FX10.cell
        obtain ⟨z0, z1, z2, z3⟩ := FZ10.cell
        have zf := FZ10.free
        go_wp2_with fail
        have hzw : w.heap.size ≤ Z := by have := HN.out; omega
        refine bodyPost_ret (results_recA rfl _ _ rfl ((((FZ10.set0 _).set1 _).set2 _).set3 _)) rfl ⟨⟨1, [], [0], []⟩, G, ⟨(.inl ⟨rfl, rfl⟩), by simp, rfl⟩, rfl, ?_, ?_⟩
        · have hne : ∀ x, (Value.slice (some ⟨G, 0, none⟩) ([0] : List Nat).length ([0] : List Nat).length).ownBlock = some x → x ≠ Z := fun x hx => by have : x = G := (by simpa [Value.ownBlock] using hx.symm); rw [this]; exact HGn.out.2
          exact (((HI10.out.kept kept_set hne).kept kept_set hne).kept kept_set hne).kept kept_set hne
        · exact kept_fresh (kept_fresh (kept_fresh (kept_fresh K10.out hzw _) hzw _) hzw _) hzw _
      · go_upto_region 6 with (go_at_call 24; (with_reducible refine Calls.mono (W2 _) ?_); rintro e w5 ⟨rfl, rfl⟩)
        rw [← hw8]
        clear x0 x1 x2 x3 xf s0 s1 s2 W2 hw8
        obtain ⟨G, hG⟩ : ∃ G, G = w7.heap.size + 2 := ⟨_, rfl⟩
        have HI : Hid (Its w8 w.heap.size (.slice (some ⟨G, 0, none⟩) ([0, 1, 2] : List Nat).length ([0, 1, 2] : List Nat).length) [0, 1, 2]) := its_row (by rw [hG]; exact HG.out.2.2) (by decide) _ (by rw [hG]; have := HY.out; omega)
        have HGn : Hid (G ≠ X ∧ G ≠ Z) := by
          show _ ∧ _
          have := HY.out
          have := HN.out
          omega
        first | rw [show w7.heap.size + 1 + 1 = G from hG.symm] | rw [show w7.heap.size + 1 = G from hG.symm] | rw [show w7.heap.size = G from hG.symm]
        have FX9 : Four4 (w8.setCell ⟨X, 2, none⟩ (.slice (some ⟨G, 0, none⟩) 3 3)) X 24 (.int .i64 (1 : Nat)) (.string ⟨#[]⟩) (.slice (some ⟨G, 0, none⟩) 3 3) (.string ⟨bd.toArray⟩) := FX8.set2 _
        have FZ9 : Hid (Four4 (w8.setCell ⟨X, 2, none⟩ (.slice (some ⟨G, 0, none⟩) 3 3)) Z 24 (.int .i64 0) (.string ⟨#[]⟩) (.slice none 0 0) (.string ⟨#[]⟩)) := FZ8.out.kept kept_set (by have := HN.out.2.1; omega)
        have K9 : Hid (Kept (fun _ => True) w (w8.setCell ⟨X, 2, none⟩ (.slice (some ⟨G, 0, none⟩) 3 3))) := kept_fresh K8.out (by show w.heap.size ≤ X; have := HN.out.1; omega) _
        have HI9 : Hid (Its (w8.setCell ⟨X, 2, none⟩ (.slice (some ⟨G, 0, none⟩) 3 3)) w.heap.size (.slice (some ⟨G, 0, none⟩) ([0, 1, 2] : List Nat).length ([0, 1, 2] : List Nat).length) [0, 1, 2]) := HI.out.kept kept_set (fun x hx => by have : x = G := (by simpa [Value.ownBlock] using hx.symm); rw [this]; exact HGn.out.1)
        clear FX8 FZ8 K8 HI HG HY hG
        generalize w8.setCell ⟨X, 2, none⟩ (.slice (some ⟨G, 0, none⟩) 3 3) = w9 at *
        obtain ⟨x0, x1, x2, x3⟩ := FX9.cell
        have xf := FX9.free
        go_upto_region 7 with fail
        have FX10 : Four4 (w9.setCell ⟨X, 3, none⟩ (.string ⟨#[]⟩)) X 24 (.int .i64 (1 : Nat)) (.string ⟨#[]⟩) (.slice (some ⟨G, 0, none⟩) 3 3) (.string ⟨#[]⟩) := FX9.set3 _
        have FZ10 : Four4 (w9.setCell ⟨X, 3, none⟩ (.string ⟨#[]⟩)) Z 24 (.int .i64 0) (.string ⟨#[]⟩) (.slice none 0 0) (.string ⟨#[]⟩) := FZ9.out.kept kept_set (by have := HN.out.2.1; omega)
        have K10 : Hid (Kept (fun _ => True) w (w9.setCell ⟨X, 3, none⟩ (.string ⟨#[]⟩))) := kept_fresh K9.out (by show w.heap.size ≤ X; have := HN.out.1; omega) _
        have HI10 : Hid (Its (w9.setCell ⟨X, 3, none⟩ (.string ⟨#[]⟩)) w.heap.size (.slice (some ⟨G, 0, none⟩) ([0, 1, 2] : List Nat).length ([0, 1, 2] : List Nat).length) [0, 1, 2]) := HI9.out.kept kept_set (fun x hx => by have : x = G := (by simpa [Value.ownBlock] using hx.symm); rw [this]; exact HGn.out.1)
        clear x0 x1 x2 x3 xf FX9 FZ9 K9 HI9
        generalize w9.setCell ⟨X, 3, none⟩ (.string ⟨#[]⟩) = w10 at *
        obtain ⟨x0, x1, x2, x3⟩ := FX10.cell
        obtain ⟨z0, z1, z2, z3⟩ := FZ10.cell
        have zf := FZ10.free
        go_wp2_with fail
        have hzw : w.heap.size ≤ Z := by have := HN.out; omega
        refine bodyPost_ret (results_recA rfl _ _ rfl ((((FZ10.set0 _).set1 _).set2 _).set3 _)) rfl ⟨⟨1, [], [0, 1, 2], []⟩, G, ⟨(.inl ⟨rfl, rfl⟩), by simp, rfl⟩, rfl, ?_, ?_⟩
        · have hne : ∀ x, (Value.slice (some ⟨G, 0, none⟩) ([0, 1, 2] : List Nat).length ([0, 1, 2] : List Nat).length).ownBlock = some x → x ≠ Z := fun x hx => by have : x = G := (by simpa [Value.ownBlock] using hx.symm); rw [this]; exact HGn.out.2
          exact (((HI10.out.kept kept_set hne).kept kept_set hne).kept kept_set hne).kept kept_set hne
        · exact kept_fresh (kept_fresh (kept_fresh (kept_fresh K10.out hzw _) hzw _) hzw _) hzw _
    · first
        | have n1 : (((kk : Nat) : Int) == 1) = false := by simp; omega
          go_upto_region 5 with fail
          have FX7 : Hid (Four4 w6 X 24 (.int .i64 (kk : Nat)) (.string ⟨#[117]⟩) (.slice a n c) (.string ⟨bd.toArray⟩)) := FX6.out
          have FZ7 : Hid (Four4 w6 Z 24 (.int .i64 0) (.string ⟨#[]⟩) (.slice none 0 0) (.string ⟨#[]⟩)) := FZ6.out
          have K7 : Hid (Kept (fun _ => True) w w6) := K6.out
          have K7l : Hid (Z + 1 ≤ w6.heap.size) := FZ6.out.lt
          obtain ⟨w7, hw7⟩ : ∃ x, x = w6 := ⟨_, rfl⟩
          rw [← hw7] at FX7 FZ7 K7 K7l ⊢
          clear hw7 FX6 FZ6 K6 x0 x1 x2 x3 xf n1
        | go_upto_region 5 with fail
          have FX7 : Hid (Four4 (w6.setCell ⟨X, 1, none⟩ (.string ⟨#[]⟩)) X 24 (.int .i64 (kk : Nat)) (.string ⟨#[117]⟩) (.slice a n c) (.string ⟨bd.toArray⟩)) := FX6.out.set1 _
          have FZ7 : Hid (Four4 (w6.setCell ⟨X, 1, none⟩ (.string ⟨#[]⟩)) Z 24 (.int .i64 0) (.string ⟨#[]⟩) (.slice none 0 0) (.string ⟨#[]⟩)) := FZ6.out.kept kept_set (by have := HN.out.2.1; omega)
          have K7 : Hid (Kept (fun _ => True) w (w6.setCell ⟨X, 1, none⟩ (.string ⟨#[]⟩))) := kept_fresh K6.out (by show w.heap.size ≤ X; have := HN.out.1; omega) _
          have K7l : Hid (Z + 1 ≤ (w6.setCell ⟨X, 1, none⟩ (.string ⟨#[]⟩)).heap.size) := FZ7.out.lt
          clear FX6 FZ6 K6 x0 x1 x2 x3 xf
          generalize w6.setCell ⟨X, 1, none⟩ (.string ⟨#[]⟩) = w7 at *
      obtain ⟨w8, hw8⟩ : ∃ x, x = (((w7.alloc (.cells #[.int .i64 0, .int .i64 1] 3)).alloc (.cells #[.int .i64 0] 3)).alloc (.cells #[.int .i64 0, .int .i64 1, .int .i64 2] 3)).alloc (.cells #[.slice (some ⟨w7.heap.size, 0, none⟩) 2 2, .slice (some ⟨w7.heap.size + 1, 0, none⟩) 1 1, .slice (some ⟨w7.heap.size + 1 + 1, 0, none⟩) 3 3] 22) := ⟨_, rfl⟩
      have k8 : Kept (fun _ => True) w7 w8 := by rw [hw8]; exact ((((Kept.refl _ _).alloc _).alloc _).alloc _).alloc _
      have FX8 : Four4 w8 X 24 (.int .i64 (kk : Nat)) (.string ⟨#[117]⟩) (.slice a n c) (.string ⟨bd.toArray⟩) := FX7.out.kept k8 trivial
      have FZ8 : Hid (Four4 w8 Z 24 (.int .i64 0) (.string ⟨#[]⟩) (.slice none 0 0) (.string ⟨#[]⟩)) := FZ7.out.kept k8 trivial
      have K8 : Hid (Kept (fun _ => True) w w8) := K7.out.trans k8
      have g0 : w8.heap[w7.heap.size]? = some (.cells #[.int .i64 0, .int .i64 1] 3 (0, 0)) := by
        rw [hw8]; exact alloc_old _ (alloc_old _ (alloc_old _ (heap_alloc_new w7 _)))
      have g1 : w8.heap[w7.heap.size + 1]? = some (.cells #[.int .i64 0] 3 (0, 0)) := by
        have := heap_alloc_new (w7.alloc (.cells #[.int .i64 0, .int .i64 1] 3)) (.cells #[.int .i64 0] 3)
        rw [heap_size_alloc] at this
        rw [hw8]; exact alloc_old _ (alloc_old _ this)
      have g2 : w8.heap[w7.heap.size + 1 + 1]? = some (.cells #[.int .i64 0, .int .i64 1, .int .i64 2] 3 (0, 0)) := by
        have := heap_alloc_new ((w7.alloc (.cells #[.int .i64 0, .int .i64 1] 3)).alloc (.cells #[.int .i64 0] 3)) (.cells #[.int .i64 0, .int .i64 1, .int .i64 2] 3)
        rw [heap_size_alloc, heap_size_alloc] at this
        rw [hw8]; exact alloc_old _ this
      have g3 : w8.heap[w7.heap.size + 1 + 1 + 1]? = some (.cells #[.slice (some ⟨w7.heap.size, 0, none⟩) 2 2, .slice (some ⟨w7.heap.size + 1, 0, none⟩) 1 1, .slice (some ⟨w7.heap.size + 1 + 1, 0, none⟩) 3 3] 22 (0, 0)) := by
        have := heap_alloc_new (((w7.alloc (.cells #[.int .i64 0, .int .i64 1] 3)).alloc (.cells #[.int .i64 0] 3)).alloc (.cells #[.int .i64 0, .int .i64 1, .int .i64 2] 3)) (.cells #[.slice (some ⟨w7.heap.size, 0, none⟩) 2 2, .slice (some ⟨w7.heap.size + 1, 0, none⟩) 1 1, .slice (some ⟨w7.heap.size + 1 + 1, 0, none⟩) 3 3] 22)
        rw [heap_size_alloc, heap_size_alloc, heap_size_alloc] at this
        rw [hw8]; exact this
      have s0 : w8.cell? ⟨w7.heap.size + 1 + 1 + 1, 0, none⟩ = some (.slice (some ⟨w7.heap.size, 0, none⟩) 2 2) := cell_of_row _ _ 0 _ _ _ g3
      have s1 : w8.cell? ⟨w7.heap.size + 1 + 1 + 1, 1, none⟩ = some (.slice (some ⟨w7.heap.size + 1, 0, none⟩) 1 1) := cell_of_row _ _ 1 _ _ _ g3
      have s2 : w8.cell? ⟨w7.heap.size + 1 + 1 + 1, 2, none⟩ = some (.slice (some ⟨w7.heap.size + 1 + 1, 0, none⟩) 3 3) := cell_of_row _ _ 2 _ _ _ g3
      have HG : Hid (w8.heap[w7.heap.size]? = some (.cells #[.int .i64 0, .int .i64 1] 3 (0, 0)) ∧ w8.heap[w7.heap.size + 1]? = some (.cells #[.int .i64 0] 3 (0, 0)) ∧ w8.heap[w7.heap.size + 1 + 1]? = some (.cells #[.int .i64 0, .int .i64 1, .int .i64 2] 3 (0, 0))) := ⟨g0, g1, g2⟩
      have HY : Hid (Z + 1 ≤ w7.heap.size ∧ w.heap.size ≤ w7.heap.size) := ⟨K7l.out, K7.out.size⟩
      clear g0 g1 g2 g3 k8 FX7 FZ7 K7 K7l
      obtain ⟨x0, x1, x2, x3⟩ := FX8.cell
      have xf := FX8.free
      rw [hw8] at x0 x1 x2 x3 xf s0 s1 s2
      have W2 := fun W : World => wi_any (w := W) (bd.length : Int) 2 (by decide)
      have l2 := wi_le (bd.length : Int) 2
      generalize wi (bd.length : Int) 2 = jj at *
      obtain rfl | rfl | rfl : jj = 0 ∨ jj = 1 ∨ jj = 2 := by omega
      · go_upto_region 6 with (go_at_call 24; (with_reducible refine Calls.mono (W2 _) ?_); rintro e w5 ⟨rfl, rfl⟩)
        rw [← hw8]
        clear x0 x1 x2 x3 xf s0 s1 s2 W2 hw8
        obtain ⟨G, hG⟩ : ∃ G, G = w7.heap.size + 0 := ⟨_, rfl⟩
        have HI : Hid (Its w8 w.heap.size (.slice (some ⟨G, 0, none⟩) ([0, 1] : List Nat).length ([0, 1] : List Nat).length) [0, 1]) := its_row (by rw [hG]; exact HG.out.1) (by decide) _ (by rw [hG]; have := HY.out; omega)
        have HGn : Hid (G ≠ X ∧ G ≠ Z) := by
          show _ ∧ _
          have := HY.out
          have := HN.out
          omega
        first | rw [show w7.heap.size + 1 + 1 = G from hG.symm] | rw [show w7.heap.size + 1 = G from hG.symm] | rw [show w7.heap.size = G from hG.symm]
        have FX9 : Four4 (w8.setCell ⟨X, 2, none⟩ (.slice (some ⟨G, 0, none⟩) 2 2)) X 24 (.int .i64 (kk : Nat)) (.string ⟨#[117]⟩) (.slice (some ⟨G, 0, none⟩) 2 2) (.string ⟨bd.toArray⟩) := FX8.set2 _
        have FZ9 : Hid (Four4 (w8.setCell ⟨X, 2, none⟩ (.slice (some ⟨G, 0, none⟩) 2 2)) Z 24 (.int .i64 0) (.string ⟨#[]⟩) (.slice none 0 0) (.string ⟨#[]⟩)) := FZ8.out.kept kept_set (by have := HN.out.2.1; omega)
        have K9 : Hid (Kept (fun _ => True) w (w8.setCell ⟨X, 2, none⟩ (.slice (some ⟨G, 0, none⟩) 2 2))) := kept_fresh K8.out (by show w.heap.size ≤ X; have := HN.out.1; omega) _
        have HI9 : Hid (Its (w8.setCell ⟨X, 2, none⟩ (.slice (some ⟨G, 0, none⟩) 2 2)) w.heap.size (.slice (some ⟨G, 0, none⟩) ([0, 1] : List Nat).length ([0, 1] : List Nat).length) [0, 1]) := HI.out.kept kept_set (fun x hx => by have : x = G := (by simpa [Value.ownBlock] using hx.symm); rw [this]; exact HGn.out.1)
        clear FX8 FZ8 K8 HI HG HY hG
        generalize w8.setCell ⟨X, 2, none⟩ (.slice (some ⟨G, 0, none⟩) 2 2) = w9 at *
        obtain ⟨x0, x1, x2, x3⟩ := FX9.cell
        have xf := FX9.free
        go_upto_region 7 with fail
        have FX10 : Four4 (w9.setCell ⟨X, 3, none⟩ (.string ⟨#[]⟩)) X 24 (.int .i64 (kk : Nat)) (.string ⟨#[117]⟩) (.slice (some ⟨G, 0, none⟩) 2 2) (.string ⟨#[]⟩) := FX9.set3 _
        have FZ10 : Four4 (w9.setCell ⟨X, 3, none⟩ (.string ⟨#[]⟩)) Z 24 (.int .i64 0) (.string ⟨#[]⟩) (.slice none 0 0) (.string ⟨#[]⟩) := FZ9.out.kept kept_set (by have := HN.out.2.1; omega)
        have K10 : Hid (Kept (fun _ => True) w (w9.setCell ⟨X, 3, none⟩ (.string ⟨#[]⟩))) := kept_fresh K9.out (by show w.heap.size ≤ X; have := HN.out.1; omega) _
        have HI10 : Hid (Its (w9.setCell ⟨X, 3, none⟩ (.string ⟨#[]⟩)) w.heap.size (.slice (some ⟨G, 0, none⟩) ([0, 1] : List Nat).length ([0, 1] : List Nat).length) [0, 1]) := HI9.out.kept kept_set (fun x hx => by have : x = G := (by simpa [Value.ownBlock] using hx.symm); rw [this]; exact HGn.out.1)
        clear x0 x1 x2 x3 xf FX9 FZ9 K9 HI9
        generalize w9.setCell ⟨X, 3, none⟩ (.string ⟨#[]⟩) = w10 at *
        obtain ⟨x0, x1, x2, x3⟩ := FX10.cell
        obtain ⟨z0, z1, z2, z3⟩ := FZ10.cell
        have zf := FZ10.free
        go_wp2_with fail
        have hzw : w.heap.size ≤ Z := by have := HN.out; omega
        refine bodyPost_ret (results_recA rfl _ _ rfl ((((FZ10.set0 _).set1 _).set2 _).set3 _)) rfl ⟨⟨kk, [117], [0, 1], []⟩, G, ⟨(.inr ⟨(show kk = 2 ∨ kk = 3 ∨ kk = 4 by have := HQ.out; omega), .inr rfl⟩), by simp, rfl⟩, rfl, ?_, ?_⟩
        · have hne : ∀ x, (Value.slice (some ⟨G, 0, none⟩) ([0, 1] : List Nat).length ([0, 1] : List Nat).length).ownBlock = some x → x ≠ Z := fun x hx => by have : x = G := (by simpa [Value.ownBlock] using hx.symm); rw [this]; exact HGn.out.2
          exact (((HI10.out.kept kept_set hne).kept kept_set hne).kept kept_set hne).kept kept_set hne
        · exact kept_fresh (kept_fresh (kept_fresh (kept_fresh K10.out hzw _) hzw _) hzw _) hzw _
      · go_upto_region 6 with (go_at_call 24; (with_reducible refine Calls.mono (W2 _) ?_); rintro e w5 ⟨rfl, rfl⟩)
        rw [← hw8]
        clear x0 x1 x2 x3 xf s0 s1 s2 W2 hw8
        obtain ⟨G, hG⟩ : ∃ G, G = w7.heap.size + 1 := ⟨_, rfl⟩
        have HI : Hid (Its w8 w.heap.size (.slice (some ⟨G, 0, none⟩) ([0] : List Nat).length ([0] : List Nat).length) [0]) := its_row (by rw [hG]; exact HG.out.2.1) (by decide) _ (by rw [hG]; have := HY.out; omega)
        have HGn : Hid (G ≠ X ∧ G ≠ Z) := by
          show _ ∧ _
          have := HY.out
          have := HN.out
          omega
        first | rw [show w7.heap.size + 1 + 1 = G from hG.symm] | rw [show w7.heap.size + 1 = G from hG.symm] | rw [show w7.heap.size = G from hG.symm]
        have FX9 : Four4 (w8.setCell ⟨X, 2, none⟩ (.slice (some ⟨G, 0, none⟩) 1 1)) X 24 (.int .i64 (kk : Nat)) (.string ⟨#[117]⟩) (.slice (some ⟨G, 0, none⟩) 1 1) (.string ⟨bd.toArray⟩) := FX8.set2 _
        have FZ9 : Hid (Four4 (w8.setCell ⟨X, 2, none⟩ (.slice (some ⟨G, 0, none⟩) 1 1)) Z 24 (.int .i64 0) (.string ⟨#[]⟩) (.slice none 0 0) (.string ⟨#[]⟩)) := FZ8.out.kept kept_set (by have := HN.out.2.1; omega)
        have K9 : Hid (Kept (fun _ => True) w (w8.setCell ⟨X, 2, none⟩ (.slice (some ⟨G, 0, none⟩) 1 1))) := kept_fresh K8.out (by show w.heap.size ≤ X; have := HN.out.1; omega) _
        have HI9 : Hid (Its (w8.setCell ⟨X, 2, none⟩ (.slice (some ⟨G, 0, none⟩) 1 1)) w.heap.size (.slice (some ⟨G, 0, none⟩) ([0] : List Nat).length ([0] : List Nat).length) [0]) := HI.out.kept kept_set (fun x hx => by have : x = G := (by simpa [Value.ownBlock] using hx.symm); rw [this]; exact HGn.out.1)
        clear FX8 FZ8 K8 HI HG HY hG
        generalize w8.setCell ⟨X, 2, none⟩ (.slice (some ⟨G, 0, none⟩) 1 1) = w9 at *
        obtain ⟨x0, x1, x2, x3⟩ := FX9.cell
        have xf := FX9.free
        go_upto_region 7 with fail
        have FX10 : Four4 (w9.setCell ⟨X, 3, none⟩ (.string ⟨#[]⟩)) X 24 (.int .i64 (kk : Nat)) (.string ⟨#[117]⟩) (.slice (some ⟨G, 0, none⟩) 1 1) (.string ⟨#[]⟩) := FX9.set3 _
        have FZ10 : Four4 (w9.setCell ⟨X, 3, none⟩ (.string ⟨#[]⟩)) Z 24 (.int .i64 0) (.string ⟨#[]⟩) (.slice none 0 0) (.string ⟨#[]⟩) := FZ9.out.kept kept_set (by have := HN.out.2.1; omega)
        have K10 : Hid (Kept (fun _ => True) w (w9.setCell ⟨X, 3, none⟩ (.string ⟨#[]⟩))) := kept_fresh K9.out (by show w.heap.size ≤ X; have := HN.out.1; omega) _
        have HI10 : Hid (Its (w9.setCell ⟨X, 3, none⟩ (.string ⟨#[]⟩)) w.heap.size (.slice (some ⟨G, 0, none⟩) ([0] : List Nat).length ([0] : List Nat).length) [0]) := HI9.out.kept kept_set (fun x hx => by have : x = G := (by simpa [Value.ownBlock] using hx.symm); rw [this]; exact HGn.out.1)
        clear x0 x1 x2 x3 xf FX9 FZ9 K9 HI9
        generalize w9.setCell ⟨X, 3, none⟩ (.string ⟨#[]⟩) = w10 at *
        obtain ⟨x0, x1, x2, x3⟩ := FX10.cell
        obtain ⟨z0, z1, z2, z3⟩ := FZ10.cell
        have zf := FZ10.free
        go_wp2_with fail
        have hzw : w.heap.size ≤ Z := by have := HN.out; omega
        refine bodyPost_ret (results_recA rfl _ _ rfl ((((FZ10.set0 _).set1 _).set2 _).set3 _)) rfl ⟨⟨kk, [117], [0], []⟩, G, ⟨(.inr ⟨(show kk = 2 ∨ kk = 3 ∨ kk = 4 by have := HQ.out; omega), .inr rfl⟩), by simp, rfl⟩, rfl, ?_, ?_⟩
        · have hne : ∀ x, (Value.slice (some ⟨G, 0, none⟩) ([0] : List Nat).length ([0] : List Nat).length).ownBlock = some x → x ≠ Z := fun x hx => by have : x = G := (by simpa [Value.ownBlock] using hx.symm); rw [this]; exact HGn.out.2
          exact (((HI10.out.kept kept_set hne).kept kept_set hne).kept kept_set hne).kept kept_set hne
        · exact kept_fresh (kept_fresh (kept_fresh (kept_fresh K10.out hzw _) hzw _) hzw _) hzw _
      · go_upto_region 6 with (go_at_call 24; (with_reducible refine Calls.mono (W2 _) ?_); rintro e w5 ⟨rfl, rfl⟩)
        rw [← hw8]
        clear x0 x1 x2 x3 xf s0 s1 s2 W2 hw8
        obtain ⟨G, hG⟩ : ∃ G, G = w7.heap.size + 2 := ⟨_, rfl⟩
        have HI : Hid (Its w8 w.heap.size (.slice (some ⟨G, 0, none⟩) ([0, 1, 2] : List Nat).length ([0, 1, 2] : List Nat).length) [0, 1, 2]) := its_row (by rw [hG]; exact HG.out.2.2) (by decide) _ (by rw [hG]; have := HY.out; omega)
        have HGn : Hid (G ≠ X ∧ G ≠ Z) := by
          show _ ∧ _
          have := HY.out
          have := HN.out
          omega
        first | rw [show w7.heap.size + 1 + 1 = G from hG.symm] | rw [show w7.heap.size + 1 = G from hG.symm] | rw [show w7.heap.size = G from hG.symm]
        have FX9 : Four4 (w8.setCell ⟨X, 2, none⟩ (.slice (some ⟨G, 0, none⟩) 3 3)) X 24 (.int .i64 (kk : Nat)) (.string ⟨#[117]⟩) (.slice (some ⟨G, 0, none⟩) 3 3) (.string ⟨bd.toArray⟩) := FX8.set2 _
        have FZ9 : Hid (Four4 (w8.setCell ⟨X, 2, none⟩ (.slice (some ⟨G, 0, none⟩) 3 3)) Z 24 (.int .i64 0) (.string ⟨#[]⟩) (.slice none 0 0) (.string ⟨#[]⟩)) := FZ8.out.kept kept_set (by have := HN.out.2.1; omega)
        have K9 : Hid (Kept (fun _ => True) w (w8.setCell ⟨X, 2, none⟩ (.slice (some ⟨G, 0, none⟩) 3 3))) := kept_fresh K8.out (by show w.heap.size ≤ X; have := HN.out.1; omega) _
        have HI9 : Hid (Its (w8.setCell ⟨X, 2, none⟩ (.slice (some ⟨G, 0, none⟩) 3 3)) w.heap.size (.slice (some ⟨G, 0, none⟩) ([0, 1, 2] : List Nat).length ([0, 1, 2] : List Nat).length) [0, 1, 2]) := HI.out.kept kept_set (fun x hx => by have : x = G := (by simpa [Value.ownBlock] using hx.symm); rw [this]; exact HGn.out.1)
        clear FX8 FZ8 K8 HI HG HY hG
        generalize w8.setCell ⟨X, 2, none⟩ (.slice (some ⟨G, 0, none⟩) 3 3) = w9 at *
        obtain ⟨x0, x1, x2, x3⟩ := FX9.cell
        have xf := FX9.free
        go_upto_region 7 with fail
        have FX10 : Four4 (w9.setCell ⟨X, 3, none⟩ (.string ⟨#[]⟩)) X 24 (.int .i64 (kk : Nat)) (.string ⟨#[117]⟩) (.slice (some ⟨G, 0, none⟩) 3 3) (.string ⟨#[]⟩) := FX9.set3 _
        have FZ10 : Four4 (w9.setCell ⟨X, 3, none⟩ (.string ⟨#[]⟩)) Z 24 (.int .i64 0) (.string ⟨#[]⟩) (.slice none 0 0) (.string ⟨#[]⟩) := FZ9.out.kept kept_set (by have := HN.out.2.1; omega)
        have K10 : Hid (Kept (fun _ => True) w (w9.setCell ⟨X, 3, none⟩ (.string ⟨#[]⟩))) := kept_fresh K9.out (by show w.heap.size ≤ X; have := HN.out.1; omega) _
        have HI10 : Hid (Its (w9.setCell ⟨X, 3, none⟩ (.string ⟨#[]⟩)) w.heap.size (.slice (some ⟨G, 0, none⟩) ([0, 1, 2] : List Nat).length ([0, 1, 2] : List Nat).length) [0, 1, 2]) := HI9.out.kept kept_set (fun x hx => by have : x = G := (by simpa [Value.ownBlock] using hx.symm); rw [this]; exact HGn.out.1)
        clear x0 x1 x2 x3 xf FX9 FZ9 K9 HI9
        generalize w9.setCell ⟨X, 3, none⟩ (.string ⟨#[]⟩) = w10 at *
        obtain ⟨x0, x1, x2, x3⟩ := FX10.cell
        obtain ⟨z0, z1, z2, z3⟩ := FZ10.cell
        have zf := FZ10.free
        go_wp2_with fail
        have hzw : w.heap.size ≤ Z := by have := HN.out; omega
        refine bodyPost_ret (results_recA rfl _ _ rfl ((((FZ10.set0 _).set1 _).set2 _).set3 _)) rfl ⟨⟨kk, [117], [0, 1, 2], []⟩, G, ⟨(.inr ⟨(show kk = 2 ∨ kk = 3 ∨ kk = 4 by have := HQ.out; omega), .inr rfl⟩), by simp, rfl⟩, rfl, ?_, ?_⟩
        · have hne : ∀ x, (Value.slice (some ⟨G, 0, none⟩) ([0, 1, 2] : List Nat).length ([0, 1, 2] : List Nat).length).ownBlock = some x → x ≠ Z := fun x hx => by have : x = G := (by simpa [Value.ownBlock] using hx.symm); rw [this]; exact HGn.out.2
          exact (((HI10.out.kept kept_set hne).kept kept_set hne).kept kept_set hne).kept kept_set hne
        · exact kept_fresh (kept_fresh (kept_fresh (kept_fresh K10.out hzw _) hzw _) hzw _) hzw _

end Go.Proofs.Ytmcaoimgmgjjiaa
