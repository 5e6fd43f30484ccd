/-
  Texts of the proofs, 23 of 52.
-/
import Derived.Test.YtmcaoimgmgjjiaaWV
namespace Go.Proofs.Ytmcaoimgmgjjiaa
open Go.RowKit Go.Maps Go.Sort

theorem fld0 (a b c : Value) (W : World) : (Instr.field 127 (.agg #[a, b, c]) 0).run Try.prog W = .ok a W := by
  unfold Instr.field
  simp [run_underlying Try.underlying127, asAgg, part]
theorem fld2 (k : Int) (a : Option Addr) (n c : Nat) (p : Bool) (W : World) : (Instr.field 127 (.agg #[.int .i64 k, .slice a n c, .bool p]) 2).run Try.prog W = .ok (.bool p) W := by
  kernel_rfl
set_option maxRecDepth 100000 in
set_option maxHeartbeats 4000000 in
theorem c5_any {w : World} {V E M n b : Nat} {rs : List Ur} (hV : w.cell? ⟨V, 0, none⟩ = some (.pointer (some ⟨E, 0, none⟩))) (hE : w.cell? ⟨E, 1, none⟩ = some (.map (some M))) (hT : Tmp w M n b rs) (x : Uz) (hx : x.1.r.tx.length ≤ 4000) :
    Calls Try.prog 62 #[.agg (ecell x).toArray, .pointer (some ⟨V, 0, none⟩)] w fun e w' => e = .returned (.bool (f5 rs x)) ∧ Kept (fun _ => True) w w' := by
  obtain ⟨⟨⟨k, tx, gs, bd⟩, ah⟩, a, c⟩ := x
  unfold ecell
  simp only at hx ⊢
  have hVl := World.block_lt_of_cell? w _ hV
  have hEl := World.block_lt_of_cell? w _ hE
  simp only at hVl hEl
  obtain ⟨z, hlk, _⟩ := hT.lookA (tx := tx) (by omega)
  obtain ⟨t, ht⟩ : ∃ t, t = tel rs tx := ⟨_, rfl⟩
  rw [← ht] at hlk
  have HTl : Hid (t = tel rs tx) := ht
  have ha : ∀ W, Calls Try.prog 40 #[.int .i64 (t.ks.val : Nat), .int .i64 4] W fun e w' => e = .returned (.bool t.ks.a) ∧ w' = W := fun W => has_any t.ks 4 (by decide)
  have hc : ∀ W, Calls Try.prog 40 #[.int .i64 (t.ks.val : Nat), .int .i64 3] W fun e w' => e = .returned (.bool t.ks.c) ∧ w' = W := fun W => has_any t.ks 3 (by decide)
  clear hT ht
  obtain ⟨kv, hkv⟩ : ∃ kv : Int, kv = (k : Int) := ⟨_, rfl⟩
  rw [← hkv]
  have HKV : Hid (kv = (k : Int)) := hkv
  clear hkv
  obtain ⟨w1, hw1⟩ : ∃ x, x = w.alloc (.cells #[.int .i64 kv, .string ⟨tx.toArray⟩, .slice a gs.length c, .string ⟨bd.toArray⟩, .int .i64 (ah.val : Nat)] 124) := ⟨_, rfl⟩
  have k1 : Kept (fun _ => True) w w1 := by rw [hw1]; exact (Kept.refl _ _).alloc _
  have FX : Bk w1 w.heap.size 124 [.int .i64 kv, .string ⟨tx.toArray⟩, .slice a gs.length c, .string ⟨bd.toArray⟩, .int .i64 (ah.val : Nat)] := by rw [hw1]; exact heap_alloc_new w _
  have KA : Hid (Kept (fun _ => True) w w1) := k1
  have hXl := FX.lt
  obtain ⟨x0, x1, x2, x3, x4⟩ := FX.five
  have x1A : ∀ W, Kept (fun _ => True) w1 W → W.cell? ⟨w.heap.size, 1, none⟩ = some (.string ⟨tx.toArray⟩) := fun W q => (kept_cell q hXl trivial).trans x1
  have vA : ∀ W, Kept (fun _ => True) w1 W → W.cell? ⟨V, 0, none⟩ = some (.pointer (some ⟨E, 0, none⟩)) := fun W q => (kept_cell (k1.trans q) hVl trivial).trans hV
  have eA : ∀ W, Kept (fun _ => True) w1 W → W.cell? ⟨E, 1, none⟩ = some (.map (some M)) := fun W q => (kept_cell (k1.trans q) hEl trivial).trans hE
  have fl0 := fun (W : World) => fld0 (.int .i64 (t.ks.val : Nat)) (.slice z.a t.gs.length z.c) (.bool t.ap) W
  have fl2 := fun (W : World) => fld2 (t.ks.val : Nat) z.a t.gs.length z.c t.ap W
  have lA : ∀ W, Kept (fun _ => True) w1 W → _ := fun W q => hlk W (k1.trans q)
  clear hlk hV hE hVl hEl FX k1
  by_cases h3 : k = 3
  · obtain rfl : kv = 3 := by have := HKV.out; omega
    have HF : Hid (f5 rs (⟨⟨⟨k, tx, gs, bd⟩, ah⟩, a, c⟩ : Uz) = t.ks.a) := by show _ = _; simp [f5, HTl.out, *]
    generalize f5 rs (⟨⟨⟨k, tx, gs, bd⟩, ah⟩, a, c⟩ : Uz) = R at *
    clear HTl h3 HKV
    go_enter Try.func62, Try.ntmps62
    go_upto_region 1 with fail
    rw [← hw1]
    clear hw1
    generalize w.heap.size = X at *
    go_upto_region 3 with fail
    refine Gz.begin (fun W => Kept (fun _ => True) w1 W) (fun _ => false) (by kernel_rfl) ?_
    refine Gz.tk (i := 0) (oi := ⟨some 9, .load 67 (.tmp 1), 67, _, _, none⟩) (v := ?_) rfl (by kernel_rfl) (fun _ _ _ h => h) (Or.inl ⟨by rfl, ?hy0⟩) (Kept.refl _ _).drew ?_
    case hy0 => (intro W hS; (try dsimp only at hS); go_simp; try with_reducible rfl)
    try simp only [Act.put, lyA, ly0, ly1]
    refine Gz.tk (i := 1) (oi := ⟨some 10, .nilCheck (.tmp 9), 0, _, _, none⟩) (v := ?_) rfl (by kernel_rfl) (fun _ _ _ h => h) (Or.inl ⟨by rfl, ?hy1⟩) (Kept.refl _ _).drew ?_
    case hy1 => (intro W hS; (try dsimp only at hS); go_simp; try with_reducible rfl)
    try simp only [Act.put, lyA, ly0, ly1]
    refine Gz.tk (i := 2) (oi := ⟨some 11, .fieldAddr 112 (.tmp 10) 1, 0, _, _, none⟩) (v := ?_) rfl (by kernel_rfl) (fun _ _ _ h => h) (Or.inl ⟨by rfl, ?hy2⟩) (Kept.refl _ _).drew ?_
    case hy2 => (intro W hS; (try dsimp only at hS); go_simp; try with_reducible rfl)
    try simp only [Act.put, lyA, ly0, ly1]
    refine Gz.tk (i := 3) (oi := ⟨some 12, .load 109 (.tmp 11), 109, _, _, none⟩) (v := ?_) rfl (by kernel_rfl) (fun _ _ _ h => h) (Or.inl ⟨by rfl, ?hy3⟩) (Kept.refl _ _).drew ?_
    case hy3 => (intro W hS; (try dsimp only at hS); go_simp; try with_reducible rfl)
    try simp only [Act.put, lyA, ly0, ly1]
    refine Gz.tk (i := 4) (oi := ⟨some 13, .fieldAddr 124 (.tmp 2) 0, 0, _, _, none⟩) (v := ?_) rfl (by kernel_rfl) (fun _ _ _ h => h) (Or.inl ⟨by rfl, ?hy4⟩) (Kept.refl _ _).drew ?_
    case hy4 => (intro W hS; (try dsimp only at hS); go_simp; try with_reducible rfl)
    try simp only [Act.put, lyA, ly0, ly1]
    refine Gz.tk (i := 5) (oi := ⟨some 14, .fieldAddr 24 (.tmp 13) 1, 0, _, _, none⟩) (v := ?_) rfl (by kernel_rfl) (fun _ _ _ h => h) (Or.inl ⟨by rfl, ?hy5⟩) (Kept.refl _ _).drew ?_
    case hy5 => (intro W hS; (try dsimp only at hS); go_simp; try with_reducible rfl)
    try simp only [Act.put, lyA, ly0, ly1]
    refine Gz.tk (i := 6) (oi := ⟨some 15, .load 9 (.tmp 14), 9, _, _, none⟩) (v := ?_) rfl (by kernel_rfl) (fun _ _ _ h => h) (Or.inl ⟨by rfl, ?hy6⟩) (Kept.refl _ _).drew ?_
    case hy6 => (intro W hS; (try dsimp only at hS); go_simp; try with_reducible rfl)
    try simp only [Act.put, lyA, ly0, ly1]
    refine Gz.tk (i := 7) (oi := ⟨some 16, .lookup 109 (.tmp 12) (.tmp 15) false, 127, _, _, none⟩) (v := ?_) rfl (by kernel_rfl) (fun _ _ _ h => h) (Or.inl ⟨by rfl, ?hy7⟩) (Kept.refl _ _).drew ?_
    case hy7 => (intro W hS; (try dsimp only at hS); go_simp; try with_reducible rfl)
    try simp only [Act.put, lyA, ly0, ly1]
    refine Gz.tk (i := 8) (oi := ⟨some 17, .field 127 (.tmp 16) 0, 82, _, _, none⟩) (v := ?_) rfl (by kernel_rfl) (fun _ _ _ h => h) (Or.inl ⟨by rfl, ?hy8⟩) (Kept.refl _ _).drew ?_
    case hy8 => (intro W hS; (try dsimp only at hS); go_simp; try with_reducible rfl)
    try simp only [Act.put, lyA, ly0, ly1]
    refine Gz.one (i := 9) (o := ⟨some 18, .call { callee := .value (.func 40), args := #[.tmp 17, .const (Value.int IntKind.i64 4)], argTypes := #[82, 3] }, 4, _, _, none⟩) (by kernel_rfl) rfl (fun K hK => ?_)
    go_simp
    with_reducible refine Calls.mono (ha _) ?_
    rintro e w2 ⟨rfl, rfl⟩
    try go_wp2_with fail
    refine hK.out _ _ (fun _ => (Kept.refl _ _).drew) ?_
    clear hK K
    try simp only [Act.put, lyA, ly0, ly1]
    refine Gz.tk (i := 10) (oi := ⟨some 3, .assign (.tmp 18), 4, _, _, none⟩) (v := ?_) rfl (by kernel_rfl) (fun _ _ _ h => h) (Or.inl ⟨by rfl, ?hy10⟩) (Kept.refl _ _).drew ?_
    case hy10 => (intro W hS; (try dsimp only at hS); go_simp; try with_reducible rfl)
    try simp only [Act.put, lyA, ly0, ly1]
    refine Gz.done (by kernel_rfl) ?_ _
    go_wp2_with fail
    go_ret
    exact ⟨by rw [HF.out]; rfl, KA.out.drew⟩
  · have k3 : (kv == 3) = false := by simp only [beq_eq_false_iff_ne]; have := HKV.out; omega
    by_cases h4 : k = 4
    · obtain rfl : kv = 4 := by have := HKV.out; omega
      have HF : Hid (f5 rs (⟨⟨⟨k, tx, gs, bd⟩, ah⟩, a, c⟩ : Uz) = t.ks.c) := by show _ = _; simp [f5, HTl.out, *]
      generalize f5 rs (⟨⟨⟨k, tx, gs, bd⟩, ah⟩, a, c⟩ : Uz) = R at *
      clear HTl k3 h3 h4 HKV
      go_enter Try.func62, Try.ntmps62
      go_upto_region 1 with fail
      rw [← hw1]
      clear hw1
      generalize w.heap.size = X at *
      go_upto_region 5 with fail
      refine Gz.begin (fun W => Kept (fun _ => True) w1 W) (fun _ => false) (by kernel_rfl) ?_
      refine Gz.tk (i := 0) (oi := ⟨some 21, .load 67 (.tmp 1), 67, _, _, none⟩) (v := ?_) rfl (by kernel_rfl) (fun _ _ _ h => h) (Or.inl ⟨by rfl, ?hy0⟩) (Kept.refl _ _).drew ?_
      case hy0 => (intro W hS; (try dsimp only at hS); go_simp; try with_reducible rfl)
      try simp only [Act.put, lyA, ly0, ly1]
      refine Gz.tk (i := 1) (oi := ⟨some 22, .nilCheck (.tmp 21), 0, _, _, none⟩) (v := ?_) rfl (by kernel_rfl) (fun _ _ _ h => h) (Or.inl ⟨by rfl, ?hy1⟩) (Kept.refl _ _).drew ?_
      case hy1 => (intro W hS; (try dsimp only at hS); go_simp; try with_reducible rfl)
      try simp only [Act.put, lyA, ly0, ly1]
      refine Gz.tk (i := 2) (oi := ⟨some 23, .fieldAddr 112 (.tmp 22) 1, 0, _, _, none⟩) (v := ?_) rfl (by kernel_rfl) (fun _ _ _ h => h) (Or.inl ⟨by rfl, ?hy2⟩) (Kept.refl _ _).drew ?_
      case hy2 => (intro W hS; (try dsimp only at hS); go_simp; try with_reducible rfl)
      try simp only [Act.put, lyA, ly0, ly1]
      refine Gz.tk (i := 3) (oi := ⟨some 24, .load 109 (.tmp 23), 109, _, _, none⟩) (v := ?_) rfl (by kernel_rfl) (fun _ _ _ h => h) (Or.inl ⟨by rfl, ?hy3⟩) (Kept.refl _ _).drew ?_
      case hy3 => (intro W hS; (try dsimp only at hS); go_simp; try with_reducible rfl)
      try simp only [Act.put, lyA, ly0, ly1]
      refine Gz.tk (i := 4) (oi := ⟨some 25, .fieldAddr 124 (.tmp 2) 0, 0, _, _, none⟩) (v := ?_) rfl (by kernel_rfl) (fun _ _ _ h => h) (Or.inl ⟨by rfl, ?hy4⟩) (Kept.refl _ _).drew ?_
      case hy4 => (intro W hS; (try dsimp only at hS); go_simp; try with_reducible rfl)
      try simp only [Act.put, lyA, ly0, ly1]
      refine Gz.tk (i := 5) (oi := ⟨some 26, .fieldAddr 24 (.tmp 25) 1, 0, _, _, none⟩) (v := ?_) rfl (by kernel_rfl) (fun _ _ _ h => h) (Or.inl ⟨by rfl, ?hy5⟩) (Kept.refl _ _).drew ?_
      case hy5 => (intro W hS; (try dsimp only at hS); go_simp; try with_reducible rfl)
      try simp only [Act.put, lyA, ly0, ly1]
      refine Gz.tk (i := 6) (oi := ⟨some 27, .load 9 (.tmp 26), 9, _, _, none⟩) (v := ?_) rfl (by kernel_rfl) (fun _ _ _ h => h) (Or.inl ⟨by rfl, ?hy6⟩) (Kept.refl _ _).drew ?_
      case hy6 => (intro W hS; (try dsimp only at hS); go_simp; try with_reducible rfl)
      try simp only [Act.put, lyA, ly0, ly1]
      refine Gz.tk (i := 7) (oi := ⟨some 28, .lookup 109 (.tmp 24) (.tmp 27) false, 127, _, _, none⟩) (v := ?_) rfl (by kernel_rfl) (fun _ _ _ h => h) (Or.inl ⟨by rfl, ?hy7⟩) (Kept.refl _ _).drew ?_
      case hy7 => (intro W hS; (try dsimp only at hS); go_simp; try with_reducible rfl)
      try simp only [Act.put, lyA, ly0, ly1]
      refine Gz.tk (i := 8) (oi := ⟨some 29, .field 127 (.tmp 28) 0, 82, _, _, none⟩) (v := ?_) rfl (by kernel_rfl) (fun _ _ _ h => h) (Or.inl ⟨by rfl, ?hy8⟩) (Kept.refl _ _).drew ?_
      case hy8 => (intro W hS; (try dsimp only at hS); go_simp; try with_reducible rfl)
      try simp only [Act.put, lyA, ly0, ly1]
      refine Gz.one (i := 9) (o := ⟨some 30, .call { callee := .value (.func 40), args := #[.tmp 29, .const (Value.int IntKind.i64 3)], argTypes := #[82, 3] }, 4, _, _, none⟩) (by kernel_rfl) rfl (fun K hK => ?_)
      go_simp
      with_reducible refine Calls.mono (hc _) ?_
      rintro e w2 ⟨rfl, rfl⟩
      try go_wp2_with fail
      refine hK.out _ _ (fun _ => (Kept.refl _ _).drew) ?_
      clear hK K
      try simp only [Act.put, lyA, ly0, ly1]
      refine Gz.tk (i := 10) (oi := ⟨some 3, .assign (.tmp 30), 4, _, _, none⟩) (v := ?_) rfl (by kernel_rfl) (fun _ _ _ h => h) (Or.inl ⟨by rfl, ?hy10⟩) (Kept.refl _ _).drew ?_
      case hy10 => (intro W hS; (try dsimp only at hS); go_simp; try with_reducible rfl)
      try simp only [Act.put, lyA, ly0, ly1]
      refine Gz.done (by kernel_rfl) ?_ _
      go_wp2_with fail
      go_ret
      exact ⟨by rw [HF.out]; rfl, KA.out.drew⟩
    · have k4 : (kv == 4) = false := by simp only [beq_eq_false_iff_ne]; have := HKV.out; omega
      have HF : Hid (f5 rs (⟨⟨⟨k, tx, gs, bd⟩, ah⟩, a, c⟩ : Uz) = false) := by show _ = _; simp [f5, h3, h4]
      generalize f5 rs (⟨⟨⟨k, tx, gs, bd⟩, ah⟩, a, c⟩ : Uz) = R at *
      clear HTl h3 h4 HKV
      go_enter Try.func62, Try.ntmps62
      go_upto_region 1 with fail
      rw [← hw1]
      clear hw1
      go_wp2
      go_ret
      exact ⟨by rw [HF.out]; rfl, KA.out⟩

set_option maxRecDepth 100000 in
set_option maxHeartbeats 4000000 in
theorem c7_any {w : World} {V B E M n b : Nat} {rs : List Ur} {pg : Int} (hV : w.cell? ⟨V, 0, none⟩ = some (.pointer (some ⟨E, 0, none⟩))) (hE : w.cell? ⟨E, 1, none⟩ = some (.map (some M))) (hB : w.cell? ⟨B, 0, none⟩ = some (.int .i64 pg)) (hT : Tmp w M n b rs) (x : Uz) (hx : x.1.r.tx.length ≤ 4000) (hg : Gv w x.2.1 x.1.r.gs) (hgl : x.1.r.gs.length < 256) :
    Calls Try.prog 64 #[.agg (ecell x).toArray, .pointer (some ⟨V, 0, none⟩), .pointer (some ⟨B, 0, none⟩)] w fun e w' => e = .returned (.bool (f7 rs pg x)) ∧ Kept (fun _ => True) w w' := by
  obtain ⟨⟨⟨k, tx, gs, bd⟩, ah⟩, a, c⟩ := x
  unfold ecell
  simp only at hx hg hgl ⊢
  have hVl := World.block_lt_of_cell? w _ hV
  have hEl := World.block_lt_of_cell? w _ hE
  have hBl := World.block_lt_of_cell? w _ hB
  simp only at hVl hEl hBl
  obtain ⟨z, hlk, _⟩ := hT.lookA (tx := tx) (by omega)
  obtain ⟨t, ht⟩ : ∃ t, t = tel rs tx := ⟨_, rfl⟩
  rw [← ht] at hlk
  have HTl : Hid (t = tel rs tx) := ht
  clear hT ht
  obtain ⟨kv, hkv⟩ : ∃ kv : Int, kv = (k : Int) := ⟨_, rfl⟩
  rw [← hkv]
  have HKV : Hid (kv = (k : Int)) := hkv
  clear hkv
  obtain ⟨w1, hw1⟩ : ∃ x, x = w.alloc (.cells #[.int .i64 kv, .string ⟨tx.toArray⟩, .slice a gs.length c, .string ⟨bd.toArray⟩, .int .i64 (ah.val : Nat)] 124) := ⟨_, rfl⟩
  have k1 : Kept (fun _ => True) w w1 := by rw [hw1]; exact (Kept.refl _ _).alloc _
  have FX : Bk w1 w.heap.size 124 [.int .i64 kv, .string ⟨tx.toArray⟩, .slice a gs.length c, .string ⟨bd.toArray⟩, .int .i64 (ah.val : Nat)] := by rw [hw1]; exact heap_alloc_new w _
  have KA : Hid (Kept (fun _ => True) w w1) := k1
  have hXl := FX.lt
  obtain ⟨x0, x1, x2, x3, x4⟩ := FX.five
  have x0A : ∀ W, Kept (fun _ => True) w1 W → W.cell? ⟨w.heap.size, 0, none⟩ = some (.int .i64 kv) := fun W q => (kept_cell q hXl trivial).trans x0
  have x1A : ∀ W, Kept (fun _ => True) w1 W → W.cell? ⟨w.heap.size, 1, none⟩ = some (.string ⟨tx.toArray⟩) := fun W q => (kept_cell q hXl trivial).trans x1
  have x2A : ∀ W, Kept (fun _ => True) w1 W → W.cell? ⟨w.heap.size, 2, none⟩ = some (.slice a gs.length c) := fun W q => (kept_cell q hXl trivial).trans x2
  have vA : ∀ W, Kept (fun _ => True) w1 W → W.cell? ⟨V, 0, none⟩ = some (.pointer (some ⟨E, 0, none⟩)) := fun W q => (kept_cell (k1.trans q) hVl trivial).trans hV
  have eA : ∀ W, Kept (fun _ => True) w1 W → W.cell? ⟨E, 1, none⟩ = some (.map (some M)) := fun W q => (kept_cell (k1.trans q) hEl trivial).trans hE
  have bA : ∀ W, Kept (fun _ => True) w1 W → W.cell? ⟨B, 0, none⟩ = some (.int .i64 pg) := fun W q => (kept_cell (k1.trans q) hBl trivial).trans hB
  have fl0 := fun (W : World) => fld0 (.int .i64 (t.ks.val : Nat)) (.slice z.a t.gs.length z.c) (.bool t.ap) W
  have fl2 := fun (W : World) => fld2 (t.ks.val : Nat) z.a t.gs.length z.c t.ap W
  have lA : ∀ W, Kept (fun _ => True) w1 W → _ := fun W q => hlk W (k1.trans q)
  have cc := fun (W : World) (q : Kept (fun _ => True) w1 W) => containsI_any (c1 := c) pg (hg.all (k1.trans q)) (by omega)
  clear hlk hV hE hB hVl hEl hBl FX k1 x0 x1 x2 x3 x4
  by_cases h3 : k = 3
  · obtain rfl : kv = 3 := by have := HKV.out; omega
    have HF : Hid (f7 rs pg (⟨⟨⟨k, tx, gs, bd⟩, ah⟩, a, c⟩ : Uz) = (t.ap || !(gs.any fun y => decide ((y : Int) = pg)))) := by show _ = _; simp [f7, HTl.out, *]
    generalize f7 rs pg (⟨⟨⟨k, tx, gs, bd⟩, ah⟩, a, c⟩ : Uz) = R at *
    generalize (gs.any fun y => decide ((y : Int) = pg)) = G at *
    clear HTl hg h3 HKV
    cases hap : t.ap
    · rw [hap] at lA fl2 HF
      have HF2 : Hid (R = !G) := by have := HF.out; show _ = _; simpa using this
      clear hap HF
      cases hG : G
      · rw [hG] at cc HF2
        clear hG
        go_enter Try.func64, Try.ntmps64
        go_upto_region 1 with fail
        rw [← hw1]
        clear hw1
        generalize w.heap.size = X at *
        refine Gz.begin (fun W => Kept (fun _ => True) w1 W) (fun _ => false) (by kernel_rfl) ?_
        refine Gz.tk (i := 0) (oi := ⟨some 5, .fieldAddr 124 (.tmp 3) 0, 0, _, _, none⟩) (v := ?_) rfl (by kernel_rfl) (fun _ _ _ h => h) (Or.inl ⟨by rfl, ?hy0⟩) (Kept.refl _ _).drew ?_
        case hy0 => (intro W hS; (try dsimp only at hS); go_simp; try with_reducible rfl)
        try simp only [Act.put, lyA, ly0, ly1]
        refine Gz.tk (i := 1) (oi := ⟨some 6, .fieldAddr 24 (.tmp 5) 0, 0, _, _, none⟩) (v := ?_) rfl (by kernel_rfl) (fun _ _ _ h => h) (Or.inl ⟨by rfl, ?hy1⟩) (Kept.refl _ _).drew ?_
        case hy1 => (intro W hS; (try dsimp only at hS); go_simp; try with_reducible rfl)
        try simp only [Act.put, lyA, ly0, ly1]
        refine Gz.tk (i := 2) (oi := ⟨some 7, .load 3 (.tmp 6), 3, _, _, none⟩) (v := ?_) rfl (by kernel_rfl) (fun _ _ _ h => h) (Or.inl ⟨by rfl, ?hy2⟩) (Kept.refl _ _).drew ?_
        case hy2 => (intro W hS; (try dsimp only at hS); go_simp; try with_reducible rfl)
        try simp only [Act.put, lyA, ly0, ly1]
        refine Gz.tk (i := 3) (oi := ⟨some 8, .binOp BinOp.eql 3 (.tmp 7) (.const (Value.int IntKind.i64 3)) 3, 4, _, _, none⟩) (v := ?_) rfl (by kernel_rfl) (fun _ _ _ h => h) (Or.inl ⟨by rfl, ?hy3⟩) (Kept.refl _ _).drew ?_
        case hy3 => (intro W hS; (try dsimp only at hS); go_simp; try with_reducible rfl)
        try simp only [Act.put, lyA, ly0, ly1]
        refine Gz.tk (i := 4) (oi := ⟨some 9, .move (.tmp 8), 4, _, _, none⟩) (v := ?_) rfl (by kernel_rfl) (fun _ _ _ h => h) (Or.inl ⟨by rfl, ?hy4⟩) (Kept.refl _ _).drew ?_
        case hy4 => (intro W hS; (try dsimp only at hS); go_simp; try with_reducible rfl)
        try simp only [Act.put, lyA, ly0, ly1]
        refine Gz.tk (i := 5) (oi := ⟨some 10, .load 67 (.tmp 1), 67, _, _, some (4, true)⟩) (v := ?_) rfl (by kernel_rfl) (fun _ _ _ h => h) (Or.inl ⟨by rfl, ?hy5⟩) (Kept.refl _ _).drew ?_
        case hy5 => (intro W hS; (try dsimp only at hS); go_simp; try with_reducible rfl)
        try simp only [Act.put, lyA, ly0, ly1]
        refine Gz.tk (i := 6) (oi := ⟨some 11, .nilCheck (.tmp 10), 0, _, _, some (4, true)⟩) (v := ?_) rfl (by kernel_rfl) (fun _ _ _ h => h) (Or.inl ⟨by rfl, ?hy6⟩) (Kept.refl _ _).drew ?_
        case hy6 => (intro W hS; (try dsimp only at hS); go_simp; try with_reducible rfl)
        try simp only [Act.put, lyA, ly0, ly1]
        refine Gz.tk (i := 7) (oi := ⟨some 12, .fieldAddr 112 (.tmp 11) 1, 0, _, _, some (4, true)⟩) (v := ?_) rfl (by kernel_rfl) (fun _ _ _ h => h) (Or.inl ⟨by rfl, ?hy7⟩) (Kept.refl _ _).drew ?_
        case hy7 => (intro W hS; (try dsimp only at hS); go_simp; try with_reducible rfl)
        try simp only [Act.put, lyA, ly0, ly1]
        refine Gz.tk (i := 8) (oi := ⟨some 13, .load 109 (.tmp 12), 109, _, _, some (4, true)⟩) (v := ?_) rfl (by kernel_rfl) (fun _ _ _ h => h) (Or.inl ⟨by rfl, ?hy8⟩) (Kept.refl _ _).drew ?_
        case hy8 => (intro W hS; (try dsimp only at hS); go_simp; try with_reducible rfl)
        try simp only [Act.put, lyA, ly0, ly1]
        refine Gz.tk (i := 9) (oi := ⟨some 14, .fieldAddr 124 (.tmp 3) 0, 0, _, _, some (4, true)⟩) (v := ?_) rfl (by kernel_rfl) (fun _ _ _ h => h) (Or.inl ⟨by rfl, ?hy9⟩) (Kept.refl _ _).drew ?_
        case hy9 => (intro W hS; (try dsimp only at hS); go_simp; try with_reducible rfl)
        try simp only [Act.put, lyA, ly0, ly1]
        refine Gz.tk (i := 10) (oi := ⟨some 15, .fieldAddr 24 (.tmp 14) 1, 0, _, _, some (4, true)⟩) (v := ?_) rfl (by kernel_rfl) (fun _ _ _ h => h) (Or.inl ⟨by rfl, ?hy10⟩) (Kept.refl _ _).drew ?_
        case hy10 => (intro W hS; (try dsimp only at hS); go_simp; try with_reducible rfl)
        try simp only [Act.put, lyA, ly0, ly1]
        refine Gz.tk (i := 11) (oi := ⟨some 16, .load 9 (.tmp 15), 9, _, _, some (4, true)⟩) (v := ?_) rfl (by kernel_rfl) (fun _ _ _ h => h) (Or.inl ⟨by rfl, ?hy11⟩) (Kept.refl _ _).drew ?_
        case hy11 => (intro W hS; (try dsimp only at hS); go_simp; try with_reducible rfl)
        try simp only [Act.put, lyA, ly0, ly1]
        refine Gz.tk (i := 12) (oi := ⟨some 17, .lookup 109 (.tmp 13) (.tmp 16) false, 127, _, _, some (4, true)⟩) (v := ?_) rfl (by kernel_rfl) (fun _ _ _ h => h) (Or.inl ⟨by rfl, ?hy12⟩) (Kept.refl _ _).drew ?_
        case hy12 => (intro W hS; (try dsimp only at hS); go_simp; try with_reducible rfl)
        try simp only [Act.put, lyA, ly0, ly1]
        refine Gz.tk (i := 13) (oi := ⟨some 18, .field 127 (.tmp 17) 2, 4, _, _, some (4, true)⟩) (v := ?_) rfl (by kernel_rfl) (fun _ _ _ h => h) (Or.inl ⟨by rfl, ?hy13⟩) (Kept.refl _ _).drew ?_
        case hy13 => (intro W hS; (try dsimp only at hS); go_simp; try with_reducible rfl)
        try simp only [Act.put, lyA, ly0, ly1]
        refine Gz.tk (i := 14) (oi := ⟨some 19, .move (.tmp 18), 4, _, _, some (4, true)⟩) (v := ?_) rfl (by kernel_rfl) (fun _ _ _ h => h) (Or.inl ⟨by rfl, ?hy14⟩) (Kept.refl _ _).drew ?_
        case hy14 => (intro W hS; (try dsimp only at hS); go_simp; try with_reducible rfl)
        try simp only [Act.put, lyA, ly0, ly1]
        refine Gz.tk (i := 15) (oi := ⟨some 20, .fieldAddr 124 (.tmp 3) 0, 0, _, _, some (14, false)⟩) (v := ?_) rfl (by kernel_rfl) (fun _ _ _ h => h) (Or.inl ⟨by rfl, ?hy15⟩) (Kept.refl _ _).drew ?_
        case hy15 => (intro W hS; (try dsimp only at hS); go_simp; try with_reducible rfl)
        try simp only [Act.put, lyA, ly0, ly1]
        refine Gz.tk (i := 16) (oi := ⟨some 21, .fieldAddr 24 (.tmp 20) 2, 0, _, _, some (14, false)⟩) (v := ?_) rfl (by kernel_rfl) (fun _ _ _ h => h) (Or.inl ⟨by rfl, ?hy16⟩) (Kept.refl _ _).drew ?_
        case hy16 => (intro W hS; (try dsimp only at hS); go_simp; try with_reducible rfl)
        try simp only [Act.put, lyA, ly0, ly1]
        refine Gz.tk (i := 17) (oi := ⟨some 22, .load 22 (.tmp 21), 22, _, _, some (14, false)⟩) (v := ?_) rfl (by kernel_rfl) (fun _ _ _ h => h) (Or.inl ⟨by rfl, ?hy17⟩) (Kept.refl _ _).drew ?_
        case hy17 => (intro W hS; (try dsimp only at hS); go_simp; try with_reducible rfl)
        try simp only [Act.put, lyA, ly0, ly1]
        refine Gz.tk (i := 18) (oi := ⟨some 23, .fieldAddr 116 (.tmp 2) 0, 0, _, _, some (14, false)⟩) (v := ?_) rfl (by kernel_rfl) (fun _ _ _ h => h) (Or.inl ⟨by rfl, ?hy18⟩) (Kept.refl _ _).drew ?_
        case hy18 => (intro W hS; (try dsimp only at hS); go_simp; try with_reducible rfl)
        try simp only [Act.put, lyA, ly0, ly1]
        refine Gz.tk (i := 19) (oi := ⟨some 24, .load 3 (.tmp 23), 3, _, _, some (14, false)⟩) (v := ?_) rfl (by kernel_rfl) (fun _ _ _ h => h) (Or.inl ⟨by rfl, ?hy19⟩) (Kept.refl _ _).drew ?_
        case hy19 => (intro W hS; (try dsimp only at hS); go_simp; try with_reducible rfl)
        try simp only [Act.put, lyA, ly0, ly1]
        refine Gz.one (i := 20) (o := ⟨some 25, .call { callee := .value (.func 65), args := #[.tmp 22, .tmp 24], argTypes := #[22, 3] }, 4, _, _, some (14, false)⟩) (by kernel_rfl) rfl (fun K hK => ?_)
        go_simp
        with_reducible refine Calls.mono (cc _ ((Kept.refl (fun _ => True) w1).drew)) ?_
        rintro e w2 ⟨rfl, m2, rfl⟩
        try go_wp2_with fail
        refine hK.out _ _ (fun _ => (by first | exact (Kept.refl _ _).drewN _ | exact ((Kept.refl _ _).drew.drewN _))) ?_
        clear hK K
        try simp only [Act.put, lyA, ly0, ly1]
        refine Gz.tk (i := 21) (oi := ⟨some 26, .unOp UnOp.not 4 (.tmp 25), 4, _, _, some (14, false)⟩) (v := ?_) rfl (by kernel_rfl) (fun _ _ _ h => h) (Or.inl ⟨by rfl, ?hy21⟩) (by first | exact (Kept.refl _ _).drewN _ | exact ((Kept.refl _ _).drew.drewN _)) ?_
        case hy21 => (intro W hS; (try dsimp only at hS); go_simp; try with_reducible rfl)
        try simp only [Act.put, lyA, ly0, ly1]
        refine Gz.tk (i := 22) (oi := ⟨some 27, .pick (.tmp 19) (.const (Value.bool true)) (.tmp 26), 4, _, _, some (4, true)⟩) (v := ?_) rfl (by kernel_rfl) (fun _ _ _ h => h) (Or.inl ⟨by rfl, ?hy22⟩) (by first | exact (Kept.refl _ _).drewN _ | exact ((Kept.refl _ _).drew.drewN _)) ?_
        case hy22 => (intro W hS; (try dsimp only at hS); go_simp; try with_reducible rfl)
        try simp only [Act.put, lyA, ly0, ly1]
        refine Gz.tk (i := 23) (oi := ⟨some 28, .pick (.tmp 9) (.tmp 27) (.const (Value.bool false)), 4, _, _, none⟩) (v := ?_) rfl (by kernel_rfl) (fun _ _ _ h => h) (Or.inl ⟨by rfl, ?hy23⟩) (by first | exact (Kept.refl _ _).drewN _ | exact ((Kept.refl _ _).drew.drewN _)) ?_
        case hy23 => (intro W hS; (try dsimp only at hS); go_simp; try with_reducible rfl)
        try simp only [Act.put, lyA, ly0, ly1]
        refine Gz.tk (i := 24) (oi := ⟨some 4, .assign (.tmp 28), 4, _, _, none⟩) (v := ?_) rfl (by kernel_rfl) (fun _ _ _ h => h) (Or.inl ⟨by rfl, ?hy24⟩) (by first | exact (Kept.refl _ _).drewN _ | exact ((Kept.refl _ _).drew.drewN _)) ?_
        case hy24 => (intro W hS; (try dsimp only at hS); go_simp; try with_reducible rfl)
        try simp only [Act.put, lyA, ly0, ly1]
        refine Gz.done (by kernel_rfl) ?_ _
        go_wp2_with fail
        go_ret
        exact ⟨by rw [HF2.out]; rfl, (by first | exact KA.out.drewN _ | exact KA.out.drew.drewN _)⟩
      · rw [hG] at cc HF2
        clear hG
        go_enter Try.func64, Try.ntmps64
        go_upto_region 1 with fail
        rw [← hw1]
        clear hw1
        generalize w.heap.size = X at *
        refine Gz.begin (fun W => Kept (fun _ => True) w1 W) (fun _ => false) (by kernel_rfl) ?_
        refine Gz.tk (i := 0) (oi := ⟨some 5, .fieldAddr 124 (.tmp 3) 0, 0, _, _, none⟩) (v := ?_) rfl (by kernel_rfl) (fun _ _ _ h => h) (Or.inl ⟨by rfl, ?hy0⟩) (Kept.refl _ _).drew ?_
        case hy0 => (intro W hS; (try dsimp only at hS); go_simp; try with_reducible rfl)
        try simp only [Act.put, lyA, ly0, ly1]
        refine Gz.tk (i := 1) (oi := ⟨some 6, .fieldAddr 24 (.tmp 5) 0, 0, _, _, none⟩) (v := ?_) rfl (by kernel_rfl) (fun _ _ _ h => h) (Or.inl ⟨by rfl, ?hy1⟩) (Kept.refl _ _).drew ?_
        case hy1 => (intro W hS; (try dsimp only at hS); go_simp; try with_reducible rfl)
        try simp only [Act.put, lyA, ly0, ly1]
        refine Gz.tk (i := 2) (oi := ⟨some 7, .load 3 (.tmp 6), 3, _, _, none⟩) (v := ?_) rfl (by kernel_rfl) (fun _ _ _ h => h) (Or.inl ⟨by rfl, ?hy2⟩) (Kept.refl _ _).drew ?_
        case hy2 => (intro W hS; (try dsimp only at hS); go_simp; try with_reducible rfl)
        try simp only [Act.put, lyA, ly0, ly1]
        refine Gz.tk (i := 3) (oi := ⟨some 8, .binOp BinOp.eql 3 (.tmp 7) (.const (Value.int IntKind.i64 3)) 3, 4, _, _, none⟩) (v := ?_) rfl (by kernel_rfl) (fun _ _ _ h => h) (Or.inl ⟨by rfl, ?hy3⟩) (Kept.refl _ _).drew ?_
        case hy3 => (intro W hS; (try dsimp only at hS); go_simp; try with_reducible rfl)
        try simp only [Act.put, lyA, ly0, ly1]
        refine Gz.tk (i := 4) (oi := ⟨some 9, .move (.tmp 8), 4, _, _, none⟩) (v := ?_) rfl (by kernel_rfl) (fun _ _ _ h => h) (Or.inl ⟨by rfl, ?hy4⟩) (Kept.refl _ _).drew ?_
        case hy4 => (intro W hS; (try dsimp only at hS); go_simp; try with_reducible rfl)
        try simp only [Act.put, lyA, ly0, ly1]
        refine Gz.tk (i := 5) (oi := ⟨some 10, .load 67 (.tmp 1), 67, _, _, some (4, true)⟩) (v := ?_) rfl (by kernel_rfl) (fun _ _ _ h => h) (Or.inl ⟨by rfl, ?hy5⟩) (Kept.refl _ _).drew ?_
        case hy5 => (intro W hS; (try dsimp only at hS); go_simp; try with_reducible rfl)
        try simp only [Act.put, lyA, ly0, ly1]
        refine Gz.tk (i := 6) (oi := ⟨some 11, .nilCheck (.tmp 10), 0, _, _, some (4, true)⟩) (v := ?_) rfl (by kernel_rfl) (fun _ _ _ h => h) (Or.inl ⟨by rfl, ?hy6⟩) (Kept.refl _ _).drew ?_
        case hy6 => (intro W hS; (try dsimp only at hS); go_simp; try with_reducible rfl)
        try simp only [Act.put, lyA, ly0, ly1]
        refine Gz.tk (i := 7) (oi := ⟨some 12, .fieldAddr 112 (.tmp 11) 1, 0, _, _, some (4, true)⟩) (v := ?_) rfl (by kernel_rfl) (fun _ _ _ h => h) (Or.inl ⟨by rfl, ?hy7⟩) (Kept.refl _ _).drew ?_
        case hy7 => (intro W hS; (try dsimp only at hS); go_simp; try with_reducible rfl)
        try simp only [Act.put, lyA, ly0, ly1]
        refine Gz.tk (i := 8) (oi := ⟨some 13, .load 109 (.tmp 12), 109, _, _, some (4, true)⟩) (v := ?_) rfl (by kernel_rfl) (fun _ _ _ h => h) (Or.inl ⟨by rfl, ?hy8⟩) (Kept.refl _ _).drew ?_
        case hy8 => (intro W hS; (try dsimp only at hS); go_simp; try with_reducible rfl)
        try simp only [Act.put, lyA, ly0, ly1]
        refine Gz.tk (i := 9) (oi := ⟨some 14, .fieldAddr 124 (.tmp 3) 0, 0, _, _, some (4, true)⟩) (v := ?_) rfl (by kernel_rfl) (fun _ _ _ h => h) (Or.inl ⟨by rfl, ?hy9⟩) (Kept.refl _ _).drew ?_
        case hy9 => (intro W hS; (try dsimp only at hS); go_simp; try with_reducible rfl)
        try simp only [Act.put, lyA, ly0, ly1]
        refine Gz.tk (i := 10) (oi := ⟨some 15, .fieldAddr 24 (.tmp 14) 1, 0, _, _, some (4, true)⟩) (v := ?_) rfl (by kernel_rfl) (fun _ _ _ h => h) (Or.inl ⟨by rfl, ?hy10⟩) (Kept.refl _ _).drew ?_
        case hy10 => (intro W hS; (try dsimp only at hS); go_simp; try with_reducible rfl)
        try simp only [Act.put, lyA, ly0, ly1]
        refine Gz.tk (i := 11) (oi := ⟨some 16, .load 9 (.tmp 15), 9, _, _, some (4, true)⟩) (v := ?_) rfl (by kernel_rfl) (fun _ _ _ h => h) (Or.inl ⟨by rfl, ?hy11⟩) (Kept.refl _ _).drew ?_
        case hy11 => (intro W hS; (try dsimp only at hS); go_simp; try with_reducible rfl)
        try simp only [Act.put, lyA, ly0, ly1]
        refine Gz.tk (i := 12) (oi := ⟨some 17, .lookup 109 (.tmp 13) (.tmp 16) false, 127, _, _, some (4, true)⟩) (v := ?_) rfl (by kernel_rfl) (fun _ _ _ h => h) (Or.inl ⟨by rfl, ?hy12⟩) (Kept.refl _ _).drew ?_
        case hy12 => (intro W hS; (try dsimp only at hS); go_simp; try with_reducible rfl)
        try simp only [Act.put, lyA, ly0, ly1]
        refine Gz.tk (i := 13) (oi := ⟨some 18, .field 127 (.tmp 17) 2, 4, _, _, some (4, true)⟩) (v := ?_) rfl (by kernel_rfl) (fun _ _ _ h => h) (Or.inl ⟨by rfl, ?hy13⟩) (Kept.refl _ _).drew ?_
        case hy13 => (intro W hS; (try dsimp only at hS); go_simp; try with_reducible rfl)
        try simp only [Act.put, lyA, ly0, ly1]
        refine Gz.tk (i := 14) (oi := ⟨some 19, .move (.tmp 18), 4, _, _, some (4, true)⟩) (v := ?_) rfl (by kernel_rfl) (fun _ _ _ h => h) (Or.inl ⟨by rfl, ?hy14⟩) (Kept.refl _ _).drew ?_
        case hy14 => (intro W hS; (try dsimp only at hS); go_simp; try with_reducible rfl)
        try simp only [Act.put, lyA, ly0, ly1]
        refine Gz.tk (i := 15) (oi := ⟨some 20, .fieldAddr 124 (.tmp 3) 0, 0, _, _, some (14, false)⟩) (v := ?_) rfl (by kernel_rfl) (fun _ _ _ h => h) (Or.inl ⟨by rfl, ?hy15⟩) (Kept.refl _ _).drew ?_
        case hy15 => (intro W hS; (try dsimp only at hS); go_simp; try with_reducible rfl)
        try simp only [Act.put, lyA, ly0, ly1]
        refine Gz.tk (i := 16) (oi := ⟨some 21, .fieldAddr 24 (.tmp 20) 2, 0, _, _, some (14, false)⟩) (v := ?_) rfl (by kernel_rfl) (fun _ _ _ h => h) (Or.inl ⟨by rfl, ?hy16⟩) (Kept.refl _ _).drew ?_
        case hy16 => (intro W hS; (try dsimp only at hS); go_simp; try with_reducible rfl)
        try simp only [Act.put, lyA, ly0, ly1]
        refine Gz.tk (i := 17) (oi := ⟨some 22, .load 22 (.tmp 21), 22, _, _, some (14, false)⟩) (v := ?_) rfl (by kernel_rfl) (fun _ _ _ h => h) (Or.inl ⟨by rfl, ?hy17⟩) (Kept.refl _ _).drew ?_
        case hy17 => (intro W hS; (try dsimp only at hS); go_simp; try with_reducible rfl)
        try simp only [Act.put, lyA, ly0, ly1]
        refine Gz.tk (i := 18) (oi := ⟨some 23, .fieldAddr 116 (.tmp 2) 0, 0, _, _, some (14, false)⟩) (v := ?_) rfl (by kernel_rfl) (fun _ _ _ h => h) (Or.inl ⟨by rfl, ?hy18⟩) (Kept.refl _ _).drew ?_
        case hy18 => (intro W hS; (try dsimp only at hS); go_simp; try with_reducible rfl)
        try simp only [Act.put, lyA, ly0, ly1]
        refine Gz.tk (i := 19) (oi := ⟨some 24, .load 3 (.tmp 23), 3, _, _, some (14, false)⟩) (v := ?_) rfl (by kernel_rfl) (fun _ _ _ h => h) (Or.inl ⟨by rfl, ?hy19⟩) (Kept.refl _ _).drew ?_
        case hy19 => (intro W hS; (try dsimp only at hS); go_simp; try with_reducible rfl)
        try simp only [Act.put, lyA, ly0, ly1]
        refine Gz.one (i := 20) (o := ⟨some 25, .call { callee := .value (.func 65), args := #[.tmp 22, .tmp 24], argTypes := #[22, 3] }, 4, _, _, some (14, false)⟩) (by kernel_rfl) rfl (fun K hK => ?_)
        go_simp
        with_reducible refine Calls.mono (cc _ ((Kept.refl (fun _ => True) w1).drew)) ?_
        rintro e w2 ⟨rfl, m2, rfl⟩
        try go_wp2_with fail
        refine hK.out _ _ (fun _ => (by first | exact (Kept.refl _ _).drewN _ | exact ((Kept.refl _ _).drew.drewN _))) ?_
        clear hK K
        try simp only [Act.put, lyA, ly0, ly1]
        refine Gz.tk (i := 21) (oi := ⟨some 26, .unOp UnOp.not 4 (.tmp 25), 4, _, _, some (14, false)⟩) (v := ?_) rfl (by kernel_rfl) (fun _ _ _ h => h) (Or.inl ⟨by rfl, ?hy21⟩) (by first | exact (Kept.refl _ _).drewN _ | exact ((Kept.refl _ _).drew.drewN _)) ?_
        case hy21 => (intro W hS; (try dsimp only at hS); go_simp; try with_reducible rfl)
        try simp only [Act.put, lyA, ly0, ly1]
        refine Gz.tk (i := 22) (oi := ⟨some 27, .pick (.tmp 19) (.const (Value.bool true)) (.tmp 26), 4, _, _, some (4, true)⟩) (v := ?_) rfl (by kernel_rfl) (fun _ _ _ h => h) (Or.inl ⟨by rfl, ?hy22⟩) (by first | exact (Kept.refl _ _).drewN _ | exact ((Kept.refl _ _).drew.drewN _)) ?_
        case hy22 => (intro W hS; (try dsimp only at hS); go_simp; try with_reducible rfl)
        try simp only [Act.put, lyA, ly0, ly1]
        refine Gz.tk (i := 23) (oi := ⟨some 28, .pick (.tmp 9) (.tmp 27) (.const (Value.bool false)), 4, _, _, none⟩) (v := ?_) rfl (by kernel_rfl) (fun _ _ _ h => h) (Or.inl ⟨by rfl, ?hy23⟩) (by first | exact (Kept.refl _ _).drewN _ | exact ((Kept.refl _ _).drew.drewN _)) ?_
        case hy23 => (intro W hS; (try dsimp only at hS); go_simp; try with_reducible rfl)
        try simp only [Act.put, lyA, ly0, ly1]
        refine Gz.tk (i := 24) (oi := ⟨some 4, .assign (.tmp 28), 4, _, _, none⟩) (v := ?_) rfl (by kernel_rfl) (fun _ _ _ h => h) (Or.inl ⟨by rfl, ?hy24⟩) (by first | exact (Kept.refl _ _).drewN _ | exact ((Kept.refl _ _).drew.drewN _)) ?_
        case hy24 => (intro W hS; (try dsimp only at hS); go_simp; try with_reducible rfl)
        try simp only [Act.put, lyA, ly0, ly1]
        refine Gz.done (by kernel_rfl) ?_ _
        go_wp2_with fail
        go_ret
        exact ⟨by rw [HF2.out]; rfl, (by first | exact KA.out.drewN _ | exact KA.out.drew.drewN _)⟩
    · rw [hap] at lA fl2 HF
      have HF2 : Hid (R = true) := by have := HF.out; show _ = _; simpa using this
      clear hap HF
      go_enter Try.func64, Try.ntmps64
      go_upto_region 1 with fail
      rw [← hw1]
      clear hw1
      generalize w.heap.size = X at *
      refine Gz.begin (fun W => Kept (fun _ => True) w1 W) (fun _ => false) (by kernel_rfl) ?_
      refine Gz.tk (i := 0) (oi := ⟨some 5, .fieldAddr 124 (.tmp 3) 0, 0, _, _, none⟩) (v := ?_) rfl (by kernel_rfl) (fun _ _ _ h => h) (Or.inl ⟨by rfl, ?hy0⟩) (Kept.refl _ _).drew ?_
      case hy0 => (intro W hS; (try dsimp only at hS); go_simp; try with_reducible rfl)
      try simp only [Act.put, lyA, ly0, ly1]
      refine Gz.tk (i := 1) (oi := ⟨some 6, .fieldAddr 24 (.tmp 5) 0, 0, _, _, none⟩) (v := ?_) rfl (by kernel_rfl) (fun _ _ _ h => h) (Or.inl ⟨by rfl, ?hy1⟩) (Kept.refl _ _).drew ?_
      case hy1 => (intro W hS; (try dsimp only at hS); go_simp; try with_reducible rfl)
      try simp only [Act.put, lyA, ly0, ly1]
      refine Gz.tk (i := 2) (oi := ⟨some 7, .load 3 (.tmp 6), 3, _, _, none⟩) (v := ?_) rfl (by kernel_rfl) (fun _ _ _ h => h) (Or.inl ⟨by rfl, ?hy2⟩) (Kept.refl _ _).drew ?_
      case hy2 => (intro W hS; (try dsimp only at hS); go_simp; try with_reducible rfl)
      try simp only [Act.put, lyA, ly0, ly1]
      refine Gz.tk (i := 3) (oi := ⟨some 8, .binOp BinOp.eql 3 (.tmp 7) (.const (Value.int IntKind.i64 3)) 3, 4, _, _, none⟩) (v := ?_) rfl (by kernel_rfl) (fun _ _ _ h => h) (Or.inl ⟨by rfl, ?hy3⟩) (Kept.refl _ _).drew ?_
      case hy3 => (intro W hS; (try dsimp only at hS); go_simp; try with_reducible rfl)
      try simp only [Act.put, lyA, ly0, ly1]
      refine Gz.tk (i := 4) (oi := ⟨some 9, .move (.tmp 8), 4, _, _, none⟩) (v := ?_) rfl (by kernel_rfl) (fun _ _ _ h => h) (Or.inl ⟨by rfl, ?hy4⟩) (Kept.refl _ _).drew ?_
      case hy4 => (intro W hS; (try dsimp only at hS); go_simp; try with_reducible rfl)
      try simp only [Act.put, lyA, ly0, ly1]
      refine Gz.tk (i := 5) (oi := ⟨some 10, .load 67 (.tmp 1), 67, _, _, some (4, true)⟩) (v := ?_) rfl (by kernel_rfl) (fun _ _ _ h => h) (Or.inl ⟨by rfl, ?hy5⟩) (Kept.refl _ _).drew ?_
      case hy5 => (intro W hS; (try dsimp only at hS); go_simp; try with_reducible rfl)
      try simp only [Act.put, lyA, ly0, ly1]
      refine Gz.tk (i := 6) (oi := ⟨some 11, .nilCheck (.tmp 10), 0, _, _, some (4, true)⟩) (v := ?_) rfl (by kernel_rfl) (fun _ _ _ h => h) (Or.inl ⟨by rfl, ?hy6⟩) (Kept.refl _ _).drew ?_
      case hy6 => (intro W hS; (try dsimp only at hS); go_simp; try with_reducible rfl)
      try simp only [Act.put, lyA, ly0, ly1]
      refine Gz.tk (i := 7) (oi := ⟨some 12, .fieldAddr 112 (.tmp 11) 1, 0, _, _, some (4, true)⟩) (v := ?_) rfl (by kernel_rfl) (fun _ _ _ h => h) (Or.inl ⟨by rfl, ?hy7⟩) (Kept.refl _ _).drew ?_
      case hy7 => (intro W hS; (try dsimp only at hS); go_simp; try with_reducible rfl)
      try simp only [Act.put, lyA, ly0, ly1]
      refine Gz.tk (i := 8) (oi := ⟨some 13, .load 109 (.tmp 12), 109, _, _, some (4, true)⟩) (v := ?_) rfl (by kernel_rfl) (fun _ _ _ h => h) (Or.inl ⟨by rfl, ?hy8⟩) (Kept.refl _ _).drew ?_
      case hy8 => (intro W hS; (try dsimp only at hS); go_simp; try with_reducible rfl)
      try simp only [Act.put, lyA, ly0, ly1]
      refine Gz.tk (i := 9) (oi := ⟨some 14, .fieldAddr 124 (.tmp 3) 0, 0, _, _, some (4, true)⟩) (v := ?_) rfl (by kernel_rfl) (fun _ _ _ h => h) (Or.inl ⟨by rfl, ?hy9⟩) (Kept.refl _ _).drew ?_
      case hy9 => (intro W hS; (try dsimp only at hS); go_simp; try with_reducible rfl)
      try simp only [Act.put, lyA, ly0, ly1]
      refine Gz.tk (i := 10) (oi := ⟨some 15, .fieldAddr 24 (.tmp 14) 1, 0, _, _, some (4, true)⟩) (v := ?_) rfl (by kernel_rfl) (fun _ _ _ h => h) (Or.inl ⟨by rfl, ?hy10⟩) (Kept.refl _ _).drew ?_
      case hy10 => (intro W hS; (try dsimp only at hS); go_simp; try with_reducible rfl)
      try simp only [Act.put, lyA, ly0, ly1]
      refine Gz.tk (i := 11) (oi := ⟨some 16, .load 9 (.tmp 15), 9, _, _, some (4, true)⟩) (v := ?_) rfl (by kernel_rfl) (fun _ _ _ h => h) (Or.inl ⟨by rfl, ?hy11⟩) (Kept.refl _ _).drew ?_
      case hy11 => (intro W hS; (try dsimp only at hS); go_simp; try with_reducible rfl)
      try simp only [Act.put, lyA, ly0, ly1]
      refine Gz.tk (i := 12) (oi := ⟨some 17, .lookup 109 (.tmp 13) (.tmp 16) false, 127, _, _, some (4, true)⟩) (v := ?_) rfl (by kernel_rfl) (fun _ _ _ h => h) (Or.inl ⟨by rfl, ?hy12⟩) (Kept.refl _ _).drew ?_
      case hy12 => (intro W hS; (try dsimp only at hS); go_simp; try with_reducible rfl)
      try simp only [Act.put, lyA, ly0, ly1]
      refine Gz.tk (i := 13) (oi := ⟨some 18, .field 127 (.tmp 17) 2, 4, _, _, some (4, true)⟩) (v := ?_) rfl (by kernel_rfl) (fun _ _ _ h => h) (Or.inl ⟨by rfl, ?hy13⟩) (Kept.refl _ _).drew ?_
      case hy13 => (intro W hS; (try dsimp only at hS); go_simp; try with_reducible rfl)
      try simp only [Act.put, lyA, ly0, ly1]
      refine Gz.tk (i := 14) (oi := ⟨some 19, .move (.tmp 18), 4, _, _, some (4, true)⟩) (v := ?_) rfl (by kernel_rfl) (fun _ _ _ h => h) (Or.inl ⟨by rfl, ?hy14⟩) (Kept.refl _ _).drew ?_
      case hy14 => (intro W hS; (try dsimp only at hS); go_simp; try with_reducible rfl)
      try simp only [Act.put, lyA, ly0, ly1]
      refine Gz.tk (i := 15) (oi := ⟨some 20, .fieldAddr 124 (.tmp 3) 0, 0, _, _, some (14, false)⟩) (v := undef) rfl (by kernel_rfl) (fun _ _ _ h => h) (Or.inr ⟨by rfl, rfl⟩) (Kept.refl _ _).drew ?_
      try simp only [Act.put, lyA, ly0, ly1]
      refine Gz.tk (i := 16) (oi := ⟨some 21, .fieldAddr 24 (.tmp 20) 2, 0, _, _, some (14, false)⟩) (v := undef) rfl (by kernel_rfl) (fun _ _ _ h => h) (Or.inr ⟨by rfl, rfl⟩) (Kept.refl _ _).drew ?_
      try simp only [Act.put, lyA, ly0, ly1]
      refine Gz.tk (i := 17) (oi := ⟨some 22, .load 22 (.tmp 21), 22, _, _, some (14, false)⟩) (v := undef) rfl (by kernel_rfl) (fun _ _ _ h => h) (Or.inr ⟨by rfl, rfl⟩) (Kept.refl _ _).drew ?_
      try simp only [Act.put, lyA, ly0, ly1]
      refine Gz.tk (i := 18) (oi := ⟨some 23, .fieldAddr 116 (.tmp 2) 0, 0, _, _, some (14, false)⟩) (v := undef) rfl (by kernel_rfl) (fun _ _ _ h => h) (Or.inr ⟨by rfl, rfl⟩) (Kept.refl _ _).drew ?_
      try simp only [Act.put, lyA, ly0, ly1]
      refine Gz.tk (i := 19) (oi := ⟨some 24, .load 3 (.tmp 23), 3, _, _, some (14, false)⟩) (v := undef) rfl (by kernel_rfl) (fun _ _ _ h => h) (Or.inr ⟨by rfl, rfl⟩) (Kept.refl _ _).drew ?_
      try simp only [Act.put, lyA, ly0, ly1]
      refine Gz.tk (i := 20) (oi := ⟨some 25, .call { callee := .value (.func 65), args := #[.tmp 22, .tmp 24], argTypes := #[22, 3] }, 4, _, _, some (14, false)⟩) (v := undef) rfl (by kernel_rfl) (fun _ _ _ h => h) (Or.inr ⟨by rfl, rfl⟩) (Kept.refl _ _).drew ?_
      try simp only [Act.put, lyA, ly0, ly1]
      refine Gz.tk (i := 21) (oi := ⟨some 26, .unOp UnOp.not 4 (.tmp 25), 4, _, _, some (14, false)⟩) (v := undef) rfl (by kernel_rfl) (fun _ _ _ h => h) (Or.inr ⟨by rfl, rfl⟩) (Kept.refl _ _).drew ?_
      try simp only [Act.put, lyA, ly0, ly1]
      refine Gz.tk (i := 22) (oi := ⟨some 27, .pick (.tmp 19) (.const (Value.bool true)) (.tmp 26), 4, _, _, some (4, true)⟩) (v := ?_) rfl (by kernel_rfl) (fun _ _ _ h => h) (Or.inl ⟨by rfl, ?hy22⟩) (Kept.refl _ _).drew ?_
      case hy22 => (intro W hS; (try dsimp only at hS); go_simp; try with_reducible rfl)
      try simp only [Act.put, lyA, ly0, ly1]
      refine Gz.tk (i := 23) (oi := ⟨some 28, .pick (.tmp 9) (.tmp 27) (.const (Value.bool false)), 4, _, _, none⟩) (v := ?_) rfl (by kernel_rfl) (fun _ _ _ h => h) (Or.inl ⟨by rfl, ?hy23⟩) (Kept.refl _ _).drew ?_
      case hy23 => (intro W hS; (try dsimp only at hS); go_simp; try with_reducible rfl)
      try simp only [Act.put, lyA, ly0, ly1]
      refine Gz.tk (i := 24) (oi := ⟨some 4, .assign (.tmp 28), 4, _, _, none⟩) (v := ?_) rfl (by kernel_rfl) (fun _ _ _ h => h) (Or.inl ⟨by rfl, ?hy24⟩) (Kept.refl _ _).drew ?_
      case hy24 => (intro W hS; (try dsimp only at hS); go_simp; try with_reducible rfl)
      try simp only [Act.put, lyA, ly0, ly1]
      refine Gz.done (by kernel_rfl) ?_ _
      go_wp2_with fail
      go_ret
      exact ⟨by rw [HF2.out]; rfl, KA.out.drew⟩
  · have k3 : (kv == 3) = false := by simp only [beq_eq_false_iff_ne]; have := HKV.out; omega
    have HF : Hid (f7 rs pg (⟨⟨⟨k, tx, gs, bd⟩, ah⟩, a, c⟩ : Uz) = false) := by show _ = _; simp [f7, h3]
    generalize f7 rs pg (⟨⟨⟨k, tx, gs, bd⟩, ah⟩, a, c⟩ : Uz) = R at *
    clear HTl h3 hg HKV
    go_enter Try.func64, Try.ntmps64
    go_upto_region 1 with fail
    rw [← hw1]
    clear hw1
    generalize w.heap.size = X at *
    refine Gz.begin (fun W => Kept (fun _ => True) w1 W) (fun _ => false) (by kernel_rfl) ?_
    refine Gz.tk (i := 0) (oi := ⟨some 5, .fieldAddr 124 (.tmp 3) 0, 0, _, _, none⟩) (v := ?_) rfl (by kernel_rfl) (fun _ _ _ h => h) (Or.inl ⟨by rfl, ?hy0⟩) (Kept.refl _ _).drew ?_
    case hy0 => (intro W hS; (try dsimp only at hS); go_simp; try with_reducible rfl)
    try simp only [Act.put, lyA, ly0, ly1]
    refine Gz.tk (i := 1) (oi := ⟨some 6, .fieldAddr 24 (.tmp 5) 0, 0, _, _, none⟩) (v := ?_) rfl (by kernel_rfl) (fun _ _ _ h => h) (Or.inl ⟨by rfl, ?hy1⟩) (Kept.refl _ _).drew ?_
    case hy1 => (intro W hS; (try dsimp only at hS); go_simp; try with_reducible rfl)
    try simp only [Act.put, lyA, ly0, ly1]
    refine Gz.tk (i := 2) (oi := ⟨some 7, .load 3 (.tmp 6), 3, _, _, none⟩) (v := ?_) rfl (by kernel_rfl) (fun _ _ _ h => h) (Or.inl ⟨by rfl, ?hy2⟩) (Kept.refl _ _).drew ?_
    case hy2 => (intro W hS; (try dsimp only at hS); go_simp; try with_reducible rfl)
    try simp only [Act.put, lyA, ly0, ly1]
    refine Gz.tk (i := 3) (oi := ⟨some 8, .binOp BinOp.eql 3 (.tmp 7) (.const (Value.int IntKind.i64 3)) 3, 4, _, _, none⟩) (v := ?_) rfl (by kernel_rfl) (fun _ _ _ h => h) (Or.inl ⟨by rfl, ?hy3⟩) (Kept.refl _ _).drew ?_
    case hy3 => (intro W hS; (try dsimp only at hS); go_simp; try with_reducible rfl)
    try simp only [Act.put, lyA, ly0, ly1]
    refine Gz.tk (i := 4) (oi := ⟨some 9, .move (.tmp 8), 4, _, _, none⟩) (v := ?_) rfl (by kernel_rfl) (fun _ _ _ h => h) (Or.inl ⟨by rfl, ?hy4⟩) (Kept.refl _ _).drew ?_
    case hy4 => (intro W hS; (try dsimp only at hS); go_simp; try with_reducible rfl)
    try simp only [Act.put, lyA, ly0, ly1]
    refine Gz.tk (i := 5) (oi := ⟨some 10, .load 67 (.tmp 1), 67, _, _, some (4, true)⟩) (v := undef) rfl (by kernel_rfl) (fun _ _ _ h => h) (Or.inr ⟨by rfl, rfl⟩) (Kept.refl _ _).drew ?_
    try simp only [Act.put, lyA, ly0, ly1]
    refine Gz.tk (i := 6) (oi := ⟨some 11, .nilCheck (.tmp 10), 0, _, _, some (4, true)⟩) (v := undef) rfl (by kernel_rfl) (fun _ _ _ h => h) (Or.inr ⟨by rfl, rfl⟩) (Kept.refl _ _).drew ?_
    try simp only [Act.put, lyA, ly0, ly1]
    refine Gz.tk (i := 7) (oi := ⟨some 12, .fieldAddr 112 (.tmp 11) 1, 0, _, _, some (4, true)⟩) (v := undef) rfl (by kernel_rfl) (fun _ _ _ h => h) (Or.inr ⟨by rfl, rfl⟩) (Kept.refl _ _).drew ?_
    try simp only [Act.put, lyA, ly0, ly1]
    refine Gz.tk (i := 8) (oi := ⟨some 13, .load 109 (.tmp 12), 109, _, _, some (4, true)⟩) (v := undef) rfl (by kernel_rfl) (fun _ _ _ h => h) (Or.inr ⟨by rfl, rfl⟩) (Kept.refl _ _).drew ?_
    try simp only [Act.put, lyA, ly0, ly1]
    refine Gz.tk (i := 9) (oi := ⟨some 14, .fieldAddr 124 (.tmp 3) 0, 0, _, _, some (4, true)⟩) (v := undef) rfl (by kernel_rfl) (fun _ _ _ h => h) (Or.inr ⟨by rfl, rfl⟩) (Kept.refl _ _).drew ?_
    try simp only [Act.put, lyA, ly0, ly1]
    refine Gz.tk (i := 10) (oi := ⟨some 15, .fieldAddr 24 (.tmp 14) 1, 0, _, _, some (4, true)⟩) (v := undef) rfl (by kernel_rfl) (fun _ _ _ h => h) (Or.inr ⟨by rfl, rfl⟩) (Kept.refl _ _).drew ?_
    try simp only [Act.put, lyA, ly0, ly1]
    refine Gz.tk (i := 11) (oi := ⟨some 16, .load 9 (.tmp 15), 9, _, _, some (4, true)⟩) (v := undef) rfl (by kernel_rfl) (fun _ _ _ h => h) (Or.inr ⟨by rfl, rfl⟩) (Kept.refl _ _).drew ?_
    try simp only [Act.put, lyA, ly0, ly1]
    refine Gz.tk (i := 12) (oi := ⟨some 17, .lookup 109 (.tmp 13) (.tmp 16) false, 127, _, _, some (4, true)⟩) (v := undef) rfl (by kernel_rfl) (fun _ _ _ h => h) (Or.inr ⟨by rfl, rfl⟩) (Kept.refl _ _).drew ?_
    try simp only [Act.put, lyA, ly0, ly1]
    refine Gz.tk (i := 13) (oi := ⟨some 18, .field 127 (.tmp 17) 2, 4, _, _, some (4, true)⟩) (v := undef) rfl (by kernel_rfl) (fun _ _ _ h => h) (Or.inr ⟨by rfl, rfl⟩) (Kept.refl _ _).drew ?_
    try simp only [Act.put, lyA, ly0, ly1]
    refine Gz.tk (i := 14) (oi := ⟨some 19, .move (.tmp 18), 4, _, _, some (4, true)⟩) (v := undef) rfl (by kernel_rfl) (fun _ _ _ h => h) (Or.inr ⟨by rfl, rfl⟩) (Kept.refl _ _).drew ?_
    try simp only [Act.put, lyA, ly0, ly1]
    refine Gz.tk (i := 15) (oi := ⟨some 20, .fieldAddr 124 (.tmp 3) 0, 0, _, _, some (14, false)⟩) (v := undef) rfl (by kernel_rfl) (fun _ _ _ h => h) (Or.inr ⟨by rfl, rfl⟩) (Kept.refl _ _).drew ?_
    try simp only [Act.put, lyA, ly0, ly1]
    refine Gz.tk (i := 16) (oi := ⟨some 21, .fieldAddr 24 (.tmp 20) 2, 0, _, _, some (14, false)⟩) (v := undef) rfl (by kernel_rfl) (fun _ _ _ h => h) (Or.inr ⟨by rfl, rfl⟩) (Kept.refl _ _).drew ?_
    try simp only [Act.put, lyA, ly0, ly1]
    refine Gz.tk (i := 17) (oi := ⟨some 22, .load 22 (.tmp 21), 22, _, _, some (14, false)⟩) (v := undef) rfl (by kernel_rfl) (fun _ _ _ h => h) (Or.inr ⟨by rfl, rfl⟩) (Kept.refl _ _).drew ?_
    try simp only [Act.put, lyA, ly0, ly1]
    refine Gz.tk (i := 18) (oi := ⟨some 23, .fieldAddr 116 (.tmp 2) 0, 0, _, _, some (14, false)⟩) (v := undef) rfl (by kernel_rfl) (fun _ _ _ h => h) (Or.inr ⟨by rfl, rfl⟩) (Kept.refl _ _).drew ?_
    try simp only [Act.put, lyA, ly0, ly1]
    refine Gz.tk (i := 19) (oi := ⟨some 24, .load 3 (.tmp 23), 3, _, _, some (14, false)⟩) (v := undef) rfl (by kernel_rfl) (fun _ _ _ h => h) (Or.inr ⟨by rfl, rfl⟩) (Kept.refl _ _).drew ?_
    try simp only [Act.put, lyA, ly0, ly1]
    refine Gz.tk (i := 20) (oi := ⟨some 25, .call { callee := .value (.func 65), args := #[.tmp 22, .tmp 24], argTypes := #[22, 3] }, 4, _, _, some (14, false)⟩) (v := undef) rfl (by kernel_rfl) (fun _ _ _ h => h) (Or.inr ⟨by rfl, rfl⟩) (Kept.refl _ _).drew ?_
    try simp only [Act.put, lyA, ly0, ly1]
    refine Gz.tk (i := 21) (oi := ⟨some 26, .unOp UnOp.not 4 (.tmp 25), 4, _, _, some (14, false)⟩) (v := undef) rfl (by kernel_rfl) (fun _ _ _ h => h) (Or.inr ⟨by rfl, rfl⟩) (Kept.refl _ _).drew ?_
    try simp only [Act.put, lyA, ly0, ly1]
    refine Gz.tk (i := 22) (oi := ⟨some 27, .pick (.tmp 19) (.const (Value.bool true)) (.tmp 26), 4, _, _, some (4, true)⟩) (v := undef) rfl (by kernel_rfl) (fun _ _ _ h => h) (Or.inr ⟨by rfl, rfl⟩) (Kept.refl _ _).drew ?_
    try simp only [Act.put, lyA, ly0, ly1]
    refine Gz.tk (i := 23) (oi := ⟨some 28, .pick (.tmp 9) (.tmp 27) (.const (Value.bool false)), 4, _, _, none⟩) (v := ?_) rfl (by kernel_rfl) (fun _ _ _ h => h) (Or.inl ⟨by rfl, ?hy23⟩) (Kept.refl _ _).drew ?_
    case hy23 => (intro W hS; (try dsimp only at hS); go_simp; try with_reducible rfl)
    try simp only [Act.put, lyA, ly0, ly1]
    refine Gz.tk (i := 24) (oi := ⟨some 4, .assign (.tmp 28), 4, _, _, none⟩) (v := ?_) rfl (by kernel_rfl) (fun _ _ _ h => h) (Or.inl ⟨by rfl, ?hy24⟩) (Kept.refl _ _).drew ?_
    case hy24 => (intro W hS; (try dsimp only at hS); go_simp; try with_reducible rfl)
    try simp only [Act.put, lyA, ly0, ly1]
    refine Gz.done (by kernel_rfl) ?_ _
    go_wp2_with fail
    go_ret
    exact ⟨by rw [HF.out]; rfl, KA.out.drew⟩

end Go.Proofs.Ytmcaoimgmgjjiaa
