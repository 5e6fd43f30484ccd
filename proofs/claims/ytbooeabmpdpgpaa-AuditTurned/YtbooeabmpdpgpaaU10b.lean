/-
  The rules' closures that look at what all claims tell.
-/
import Derived.Test.YtbooeabmpdpgpaaU10
namespace Go.Proofs.Ytbooeabmpdpgpaa
open Go.RowKit Go.Maps Go.Sort

theorem fld0 (a b c : Value) (W : World) : (Instr.field 127 (.agg #[a, b, c]) 0).run Try.prog W = .ok a W := by
  unfold Instr.field
  simp [run_underlying Try.underlying127, asAgg, part]
theorem fld2 (k : Int) (a : Option Addr) (n c : Nat) (p : Bool) (W : World) : (Instr.field 127 (.agg #[.int .i64 k, .slice a n c, .bool p]) 2).run Try.prog W = .ok (.bool p) W := by
  kernel_rfl
set_option maxRecDepth 100000 in
set_option maxHeartbeats 4000000 in
theorem c5_any {w : World} {V E M n b : Nat} {rs : List Ur} (hV : w.cell? ⟨V, 0, none⟩ = some (.pointer (some ⟨E, 0, none⟩))) (hE : w.cell? ⟨E, 1, none⟩ = some (.map (some M))) (hT : Tmp w M n b rs) (x : Uz) (hx : x.1.r.tx.length ≤ 4000) :
    Calls Try.prog 62 #[.agg (ecell x).toArray, .pointer (some ⟨V, 0, none⟩)] w fun e w' => e = .returned (.bool (f5 rs x)) ∧ Kept (fun _ => True) w w' := by
  obtain ⟨⟨⟨k, tx, gs, bd⟩, ah⟩, a, c⟩ := x
  unfold ecell
  simp only at hx ⊢
  have hVl := World.block_lt_of_cell? w _ hV
  have hEl := World.block_lt_of_cell? w _ hE
  simp only at hVl hEl
  obtain ⟨z, hlk, _⟩ := hT.lookA (tx := tx) (by omega)
  obtain ⟨t, ht⟩ : ∃ t, t = tel rs tx := ⟨_, rfl⟩
  rw [← ht] at hlk
  have HTl : Hid (t = tel rs tx) := ht
  have ha : ∀ W, Calls Try.prog 40 #[.int .i64 (t.ks.val : Nat), .int .i64 4] W fun e w' => e = .returned (.bool t.ks.a) ∧ w' = W := fun W => has_any t.ks 4 (by decide)
  have hc : ∀ W, Calls Try.prog 40 #[.int .i64 (t.ks.val : Nat), .int .i64 3] W fun e w' => e = .returned (.bool t.ks.c) ∧ w' = W := fun W => has_any t.ks 3 (by decide)
  clear hT ht
  obtain ⟨kv, hkv⟩ : ∃ kv : Int, kv = (k : Int) := ⟨_, rfl⟩
  rw [← hkv]
  have HKV : Hid (kv = (k : Int)) := hkv
  clear hkv
  obtain ⟨w1, hw1⟩ : ∃ x, x = w.alloc (.cells #[.int .i64 kv, .string ⟨tx.toArray⟩, .slice a gs.length c, .string ⟨bd.toArray⟩, .int .i64 (ah.val : Nat)] 124) := ⟨_, rfl⟩
  have k1 : Kept (fun _ => True) w w1 := by rw [hw1]; exact (Kept.refl _ _).alloc _
  have FX : Bk w1 w.heap.size 124 [.int .i64 kv, .string ⟨tx.toArray⟩, .slice a gs.length c, .string ⟨bd.toArray⟩, .int .i64 (ah.val : Nat)] := by rw [hw1]; exact heap_alloc_new w _
  have KA : Hid (Kept (fun _ => True) w w1) := k1
  have hXl := FX.lt
  obtain ⟨x0, x1, x2, x3, x4⟩ := FX.five
  have x1A : ∀ W, Kept (fun _ => True) w1 W → W.cell? ⟨w.heap.size, 1, none⟩ = some (.string ⟨tx.toArray⟩) := fun W q => (kept_cell q hXl trivial).trans x1
  have vA : ∀ W, Kept (fun _ => True) w1 W → W.cell? ⟨V, 0, none⟩ = some (.pointer (some ⟨E, 0, none⟩)) := fun W q => (kept_cell (k1.trans q) hVl trivial).trans hV
  have eA : ∀ W, Kept (fun _ => True) w1 W → W.cell? ⟨E, 1, none⟩ = some (.map (some M)) := fun W q => (kept_cell (k1.trans q) hEl trivial).trans hE
  have fl0 := fun (W : World) => fld0 (.int .i64 (t.ks.val : Nat)) (.slice z.a t.gs.length z.c) (.bool t.ap) W
  have fl2 := fun (W : World) => fld2 (t.ks.val : Nat) z.a t.gs.length z.c t.ap W
  have lA : ∀ W, Kept (fun _ => True) w1 W → _ := fun W q => hlk W (k1.trans q)
  clear hlk hV hE hVl hEl FX k1
  by_cases h3 : k = 3
  · obtain rfl : kv = 3 := by have := HKV.out; omega
    have HF : Hid (f5 rs (⟨⟨⟨k, tx, gs, bd⟩, ah⟩, a, c⟩ : Uz) = t.ks.a) := by show _ = _; simp [f5, HTl.out, *]
    generalize f5 rs (⟨⟨⟨k, tx, gs, bd⟩, ah⟩, a, c⟩ : Uz) = R at *
    clear HTl h3 HKV
    go_enter Try.func62, Try.ntmps62
    go_upto_region 1 with fail
    rw [← hw1]
    clear hw1
    generalize w.heap.size = X at *
    go_upto_region 3 with fail
    refine Gz.begin (fun W => Kept (fun _ => True) w1 W) (fun _ => false) (by kernel_rfl) ?_
    refine Gz.take (i := 0) (oi := { dst := some 9, op := Op.load 67 (Operand.tmp 1), type := 67, pos := _, after := _, guard := none }) (v := ?_) rfl (by kernel_rfl) (by kernel_rfl) (by kernel_rfl) (by kernel_rfl) (fun _ _ _ h => h) (Or.inl ⟨by rfl, ?hy0⟩) (Kept.refl _ _).drew ?_
    case hy0 => (intro W hSw; (try dsimp only at hSw); go_simp; try with_reducible rfl)
    try simp only [Act.put, List.setIfInBounds_toArray, List.set_cons_zero, List.set_cons_succ]
    refine Gz.take (i := 1) (oi := { dst := some 10, op := Op.nilCheck (Operand.tmp 9), type := 0, pos := _, after := _, guard := none }) (v := ?_) rfl (by kernel_rfl) (by kernel_rfl) (by kernel_rfl) (by kernel_rfl) (fun _ _ _ h => h) (Or.inl ⟨by rfl, ?hy1⟩) (Kept.refl _ _).drew ?_
    case hy1 => (intro W hSw; (try dsimp only at hSw); go_simp; try with_reducible rfl)
    try simp only [Act.put, List.setIfInBounds_toArray, List.set_cons_zero, List.set_cons_succ]
    refine Gz.take (i := 2) (oi := { dst := some 11, op := Op.fieldAddr 112 (Operand.tmp 10) 1, type := 0, pos := _, after := _, guard := none }) (v := ?_) rfl (by kernel_rfl) (by kernel_rfl) (by kernel_rfl) (by kernel_rfl) (fun _ _ _ h => h) (Or.inl ⟨by rfl, ?hy2⟩) (Kept.refl _ _).drew ?_
    case hy2 => (intro W hSw; (try dsimp only at hSw); go_simp; try with_reducible rfl)
    try simp only [Act.put, List.setIfInBounds_toArray, List.set_cons_zero, List.set_cons_succ]
    refine Gz.take (i := 3) (oi := { dst := some 12, op := Op.load 109 (Operand.tmp 11), type := 109, pos := _, after := _, guard := none }) (v := ?_) rfl (by kernel_rfl) (by kernel_rfl) (by kernel_rfl) (by kernel_rfl) (fun _ _ _ h => h) (Or.inl ⟨by rfl, ?hy3⟩) (Kept.refl _ _).drew ?_
    case hy3 => (intro W hSw; (try dsimp only at hSw); go_simp; try with_reducible rfl)
    try simp only [Act.put, List.setIfInBounds_toArray, List.set_cons_zero, List.set_cons_succ]
    refine Gz.take (i := 4) (oi := { dst := some 13, op := Op.fieldAddr 124 (Operand.tmp 2) 0, type := 0, pos := _, after := _, guard := none }) (v := ?_) rfl (by kernel_rfl) (by kernel_rfl) (by kernel_rfl) (by kernel_rfl) (fun _ _ _ h => h) (Or.inl ⟨by rfl, ?hy4⟩) (Kept.refl _ _).drew ?_
    case hy4 => (intro W hSw; (try dsimp only at hSw); go_simp; try with_reducible rfl)
    try simp only [Act.put, List.setIfInBounds_toArray, List.set_cons_zero, List.set_cons_succ]
    refine Gz.take (i := 5) (oi := { dst := some 14, op := Op.fieldAddr 24 (Operand.tmp 13) 1, type := 0, pos := _, after := _, guard := none }) (v := ?_) rfl (by kernel_rfl) (by kernel_rfl) (by kernel_rfl) (by kernel_rfl) (fun _ _ _ h => h) (Or.inl ⟨by rfl, ?hy5⟩) (Kept.refl _ _).drew ?_
    case hy5 => (intro W hSw; (try dsimp only at hSw); go_simp; try with_reducible rfl)
    try simp only [Act.put, List.setIfInBounds_toArray, List.set_cons_zero, List.set_cons_succ]
    refine Gz.take (i := 6) (oi := { dst := some 15, op := Op.load 9 (Operand.tmp 14), type := 9, pos := _, after := _, guard := none }) (v := ?_) rfl (by kernel_rfl) (by kernel_rfl) (by kernel_rfl) (by kernel_rfl) (fun _ _ _ h => h) (Or.inl ⟨by rfl, ?hy6⟩) (Kept.refl _ _).drew ?_
    case hy6 => (intro W hSw; (try dsimp only at hSw); go_simp; try with_reducible rfl)
    try simp only [Act.put, List.setIfInBounds_toArray, List.set_cons_zero, List.set_cons_succ]
    refine Gz.take (i := 7) (oi := { dst := some 16, op := Op.lookup 109 (Operand.tmp 12) (Operand.tmp 15) false, type := 127, pos := _, after := _, guard := none }) (v := ?_) rfl (by kernel_rfl) (by kernel_rfl) (by kernel_rfl) (by kernel_rfl) (fun _ _ _ h => h) (Or.inl ⟨by rfl, ?hy7⟩) (Kept.refl _ _).drew ?_
    case hy7 => (intro W hSw; (try dsimp only at hSw); go_simp; try with_reducible rfl)
    try simp only [Act.put, List.setIfInBounds_toArray, List.set_cons_zero, List.set_cons_succ]
    refine Gz.take (i := 8) (oi := { dst := some 17, op := Op.field 127 (Operand.tmp 16) 0, type := 82, pos := _, after := _, guard := none }) (v := ?_) rfl (by kernel_rfl) (by kernel_rfl) (by kernel_rfl) (by kernel_rfl) (fun _ _ _ h => h) (Or.inl ⟨by rfl, ?hy8⟩) (Kept.refl _ _).drew ?_
    case hy8 => (intro W hSw; (try dsimp only at hSw); go_simp; try with_reducible rfl)
    try simp only [Act.put, List.setIfInBounds_toArray, List.set_cons_zero, List.set_cons_succ]
    refine Gz.one (i := 9) (o := { dst := some 18, op := Op.call { callee := Callee.value (Operand.func 40), args := #[Operand.tmp 17, Operand.const (Value.int IntKind.i64 4)], argTypes := #[82, 3] }, type := 4, pos := _, after := _, guard := none }) (by kernel_rfl) rfl (fun K hK => ?_)
    go_simp
    with_reducible refine Calls.mono (ha _) ?_
    rintro e w2 ⟨rfl, rfl⟩
    try go_wp2_with fail
    refine hK.out _ _ (fun _ => (Kept.refl _ _).drew) ?_
    clear hK K
    try simp only [Act.put, List.setIfInBounds_toArray, List.set_cons_zero, List.set_cons_succ]
    refine Gz.take (i := 10) (oi := { dst := some 3, op := Op.assign (Operand.tmp 18), type := 4, pos := _, after := _, guard := none }) (v := ?_) rfl (by kernel_rfl) (by kernel_rfl) (by kernel_rfl) (by kernel_rfl) (fun _ _ _ h => h) (Or.inl ⟨by rfl, ?hy10⟩) (Kept.refl _ _).drew ?_
    case hy10 => (intro W hSw; (try dsimp only at hSw); go_simp; try with_reducible rfl)
    try simp only [Act.put, List.setIfInBounds_toArray, List.set_cons_zero, List.set_cons_succ]
    refine Gz.done (by kernel_rfl) ?_ _
    go_wp2_with fail
    go_ret
    exact ⟨by rw [HF.out]; rfl, KA.out.drew⟩
  · have k3 : (kv == 3) = false := by simp only [beq_eq_false_iff_ne]; have := HKV.out; omega
    by_cases h4 : k = 4
    · obtain rfl : kv = 4 := by have := HKV.out; omega
      have HF : Hid (f5 rs (⟨⟨⟨k, tx, gs, bd⟩, ah⟩, a, c⟩ : Uz) = t.ks.c) := by show _ = _; simp [f5, HTl.out, *]
      generalize f5 rs (⟨⟨⟨k, tx, gs, bd⟩, ah⟩, a, c⟩ : Uz) = R at *
      clear HTl k3 h3 h4 HKV
      go_enter Try.func62, Try.ntmps62
      go_upto_region 1 with fail
      rw [← hw1]
      clear hw1
      generalize w.heap.size = X at *
      go_upto_region 5 with fail
      refine Gz.begin (fun W => Kept (fun _ => True) w1 W) (fun _ => false) (by kernel_rfl) ?_
      refine Gz.take (i := 0) (oi := { dst := some 21, op := Op.load 67 (Operand.tmp 1), type := 67, pos := _, after := _, guard := none }) (v := ?_) rfl (by kernel_rfl) (by kernel_rfl) (by kernel_rfl) (by kernel_rfl) (fun _ _ _ h => h) (Or.inl ⟨by rfl, ?hy0⟩) (Kept.refl _ _).drew ?_
      case hy0 => (intro W hSw; (try dsimp only at hSw); go_simp; try with_reducible rfl)
      try simp only [Act.put, List.setIfInBounds_toArray, List.set_cons_zero, List.set_cons_succ]
      refine Gz.take (i := 1) (oi := { dst := some 22, op := Op.nilCheck (Operand.tmp 21), type := 0, pos := _, after := _, guard := none }) (v := ?_) rfl (by kernel_rfl) (by kernel_rfl) (by kernel_rfl) (by kernel_rfl) (fun _ _ _ h => h) (Or.inl ⟨by rfl, ?hy1⟩) (Kept.refl _ _).drew ?_
      case hy1 => (intro W hSw; (try dsimp only at hSw); go_simp; try with_reducible rfl)
      try simp only [Act.put, List.setIfInBounds_toArray, List.set_cons_zero, List.set_cons_succ]
      refine Gz.take (i := 2) (oi := { dst := some 23, op := Op.fieldAddr 112 (Operand.tmp 22) 1, type := 0, pos := _, after := _, guard := none }) (v := ?_) rfl (by kernel_rfl) (by kernel_rfl) (by kernel_rfl) (by kernel_rfl) (fun _ _ _ h => h) (Or.inl ⟨by rfl, ?hy2⟩) (Kept.refl _ _).drew ?_
      case hy2 => (intro W hSw; (try dsimp only at hSw); go_simp; try with_reducible rfl)
      try simp only [Act.put, List.setIfInBounds_toArray, List.set_cons_zero, List.set_cons_succ]
      refine Gz.take (i := 3) (oi := { dst := some 24, op := Op.load 109 (Operand.tmp 23), type := 109, pos := _, after := _, guard := none }) (v := ?_) rfl (by kernel_rfl) (by kernel_rfl) (by kernel_rfl) (by kernel_rfl) (fun _ _ _ h => h) (Or.inl ⟨by rfl, ?hy3⟩) (Kept.refl _ _).drew ?_
      case hy3 => (intro W hSw; (try dsimp only at hSw); go_simp; try with_reducible rfl)
      try simp only [Act.put, List.setIfInBounds_toArray, List.set_cons_zero, List.set_cons_succ]
      refine Gz.take (i := 4) (oi := { dst := some 25, op := Op.fieldAddr 124 (Operand.tmp 2) 0, type := 0, pos := _, after := _, guard := none }) (v := ?_) rfl (by kernel_rfl) (by kernel_rfl) (by kernel_rfl) (by kernel_rfl) (fun _ _ _ h => h) (Or.inl ⟨by rfl, ?hy4⟩) (Kept.refl _ _).drew ?_
      case hy4 => (intro W hSw; (try dsimp only at hSw); go_simp; try with_reducible rfl)
      try simp only [Act.put, List.setIfInBounds_toArray, List.set_cons_zero, List.set_cons_succ]
      refine Gz.take (i := 5) (oi := { dst := some 26, op := Op.fieldAddr 24 (Operand.tmp 25) 1, type := 0, pos := _, after := _, guard := none }) (v := ?_) rfl (by kernel_rfl) (by kernel_rfl) (by kernel_rfl) (by kernel_rfl) (fun _ _ _ h => h) (Or.inl ⟨by rfl, ?hy5⟩) (Kept.refl _ _).drew ?_
      case hy5 => (intro W hSw; (try dsimp only at hSw); go_simp; try with_reducible rfl)
      try simp only [Act.put, List.setIfInBounds_toArray, List.set_cons_zero, List.set_cons_succ]
      refine Gz.take (i := 6) (oi := { dst := some 27, op := Op.load 9 (Operand.tmp 26), type := 9, pos := _, after := _, guard := none }) (v := ?_) rfl (by kernel_rfl) (by kernel_rfl) (by kernel_rfl) (by kernel_rfl) (fun _ _ _ h => h) (Or.inl ⟨by rfl, ?hy6⟩) (Kept.refl _ _).drew ?_
      case hy6 => (intro W hSw; (try dsimp only at hSw); go_simp; try with_reducible rfl)
      try simp only [Act.put, List.setIfInBounds_toArray, List.set_cons_zero, List.set_cons_succ]
      refine Gz.take (i := 7) (oi := { dst := some 28, op := Op.lookup 109 (Operand.tmp 24) (Operand.tmp 27) false, type := 127, pos := _, after := _, guard := none }) (v := ?_) rfl (by kernel_rfl) (by kernel_rfl) (by kernel_rfl) (by kernel_rfl) (fun _ _ _ h => h) (Or.inl ⟨by rfl, ?hy7⟩) (Kept.refl _ _).drew ?_
      case hy7 => (intro W hSw; (try dsimp only at hSw); go_simp; try with_reducible rfl)
      try simp only [Act.put, List.setIfInBounds_toArray, List.set_cons_zero, List.set_cons_succ]
      refine Gz.take (i := 8) (oi := { dst := some 29, op := Op.field 127 (Operand.tmp 28) 0, type := 82, pos := _, after := _, guard := none }) (v := ?_) rfl (by kernel_rfl) (by kernel_rfl) (by kernel_rfl) (by kernel_rfl) (fun _ _ _ h => h) (Or.inl ⟨by rfl, ?hy8⟩) (Kept.refl _ _).drew ?_
      case hy8 => (intro W hSw; (try dsimp only at hSw); go_simp; try with_reducible rfl)
      try simp only [Act.put, List.setIfInBounds_toArray, List.set_cons_zero, List.set_cons_succ]
      refine Gz.one (i := 9) (o := { dst := some 30, op := Op.call { callee := Callee.value (Operand.func 40), args := #[Operand.tmp 29, Operand.const (Value.int IntKind.i64 3)], argTypes := #[82, 3] }, type := 4, pos := _, after := _, guard := none }) (by kernel_rfl) rfl (fun K hK => ?_)
      go_simp
      with_reducible refine Calls.mono (hc _) ?_
      rintro e w2 ⟨rfl, rfl⟩
      try go_wp2_with fail
      refine hK.out _ _ (fun _ => (Kept.refl _ _).drew) ?_
      clear hK K
      try simp only [Act.put, List.setIfInBounds_toArray, List.set_cons_zero, List.set_cons_succ]
      refine Gz.take (i := 10) (oi := { dst := some 3, op := Op.assign (Operand.tmp 30), type := 4, pos := _, after := _, guard := none }) (v := ?_) rfl (by kernel_rfl) (by kernel_rfl) (by kernel_rfl) (by kernel_rfl) (fun _ _ _ h => h) (Or.inl ⟨by rfl, ?hy10⟩) (Kept.refl _ _).drew ?_
      case hy10 => (intro W hSw; (try dsimp only at hSw); go_simp; try with_reducible rfl)
      try simp only [Act.put, List.setIfInBounds_toArray, List.set_cons_zero, List.set_cons_succ]
      refine Gz.done (by kernel_rfl) ?_ _
      go_wp2_with fail
      go_ret
      exact ⟨by rw [HF.out]; rfl, KA.out.drew⟩
    · have k4 : (kv == 4) = false := by simp only [beq_eq_false_iff_ne]; have := HKV.out; omega
      have HF : Hid (f5 rs (⟨⟨⟨k, tx, gs, bd⟩, ah⟩, a, c⟩ : Uz) = false) := by show _ = _; simp [f5, h3, h4]
      generalize f5 rs (⟨⟨⟨k, tx, gs, bd⟩, ah⟩, a, c⟩ : Uz) = R at *
      clear HTl h3 h4 HKV
      go_enter Try.func62, Try.ntmps62
      go_upto_region 1 with fail
      rw [← hw1]
      clear hw1
      go_wp2
      go_ret
      exact ⟨by rw [HF.out]; rfl, KA.out⟩

set_option maxRecDepth 100000 in
set_option maxHeartbeats 4000000 in
theorem c7_any {w : World} {V B E M n b : Nat} {rs : List Ur} {pg : Int} (hV : w.cell? ⟨V, 0, none⟩ = some (.pointer (some ⟨E, 0, none⟩))) (hE : w.cell? ⟨E, 1, none⟩ = some (.map (some M))) (hB : w.cell? ⟨B, 0, none⟩ = some (.int .i64 pg)) (hT : Tmp w M n b rs) (x : Uz) (hx : x.1.r.tx.length ≤ 4000) (hg : Gv w x.2.1 x.1.r.gs) (hgl : x.1.r.gs.length < 256) :
    Calls Try.prog 64 #[.agg (ecell x).toArray, .pointer (some ⟨V, 0, none⟩), .pointer (some ⟨B, 0, none⟩)] w fun e w' => e = .returned (.bool (f7 rs pg x)) ∧ Kept (fun _ => True) w w' := by
  obtain ⟨⟨⟨k, tx, gs, bd⟩, ah⟩, a, c⟩ := x
  unfold ecell
  simp only at hx hg hgl ⊢
  have hVl := World.block_lt_of_cell? w _ hV
  have hEl := World.block_lt_of_cell? w _ hE
  have hBl := World.block_lt_of_cell? w _ hB
  simp only at hVl hEl hBl
  obtain ⟨z, hlk, _⟩ := hT.lookA (tx := tx) (by omega)
  obtain ⟨t, ht⟩ : ∃ t, t = tel rs tx := ⟨_, rfl⟩
  rw [← ht] at hlk
  have HTl : Hid (t = tel rs tx) := ht
  clear hT ht
  obtain ⟨kv, hkv⟩ : ∃ kv : Int, kv = (k : Int) := ⟨_, rfl⟩
  rw [← hkv]
  have HKV : Hid (kv = (k : Int)) := hkv
  clear hkv
  obtain ⟨w1, hw1⟩ : ∃ x, x = w.alloc (.cells #[.int .i64 kv, .string ⟨tx.toArray⟩, .slice a gs.length c, .string ⟨bd.toArray⟩, .int .i64 (ah.val : Nat)] 124) := ⟨_, rfl⟩
  have k1 : Kept (fun _ => True) w w1 := by rw [hw1]; exact (Kept.refl _ _).alloc _
  have FX : Bk w1 w.heap.size 124 [.int .i64 kv, .string ⟨tx.toArray⟩, .slice a gs.length c, .string ⟨bd.toArray⟩, .int .i64 (ah.val : Nat)] := by rw [hw1]; exact heap_alloc_new w _
  have KA : Hid (Kept (fun _ => True) w w1) := k1
  have hXl := FX.lt
  obtain ⟨x0, x1, x2, x3, x4⟩ := FX.five
  have x0A : ∀ W, Kept (fun _ => True) w1 W → W.cell? ⟨w.heap.size, 0, none⟩ = some (.int .i64 kv) := fun W q => (kept_cell q hXl trivial).trans x0
  have x1A : ∀ W, Kept (fun _ => True) w1 W → W.cell? ⟨w.heap.size, 1, none⟩ = some (.string ⟨tx.toArray⟩) := fun W q => (kept_cell q hXl trivial).trans x1
  have x2A : ∀ W, Kept (fun _ => True) w1 W → W.cell? ⟨w.heap.size, 2, none⟩ = some (.slice a gs.length c) := fun W q => (kept_cell q hXl trivial).trans x2
  have vA : ∀ W, Kept (fun _ => True) w1 W → W.cell? ⟨V, 0, none⟩ = some (.pointer (some ⟨E, 0, none⟩)) := fun W q => (kept_cell (k1.trans q) hVl trivial).trans hV
  have eA : ∀ W, Kept (fun _ => True) w1 W → W.cell? ⟨E, 1, none⟩ = some (.map (some M)) := fun W q => (kept_cell (k1.trans q) hEl trivial).trans hE
  have bA : ∀ W, Kept (fun _ => True) w1 W → W.cell? ⟨B, 0, none⟩ = some (.int .i64 pg) := fun W q => (kept_cell (k1.trans q) hBl trivial).trans hB
  have fl0 := fun (W : World) => fld0 (.int .i64 (t.ks.val : Nat)) (.slice z.a t.gs.length z.c) (.bool t.ap) W
  have fl2 := fun (W : World) => fld2 (t.ks.val : Nat) z.a t.gs.length z.c t.ap W
  have lA : ∀ W, Kept (fun _ => True) w1 W → _ := fun W q => hlk W (k1.trans q)
  have cc := fun (W : World) (q : Kept (fun _ => True) w1 W) => containsI_any (c1 := c) pg (hg.all (k1.trans q)) (by omega)
  clear hlk hV hE hB hVl hEl hBl FX k1 x0 x1 x2 x3 x4
  by_cases h3 : k = 3
  · obtain rfl : kv = 3 := by have := HKV.out; omega
    have HF : Hid (f7 rs pg (⟨⟨⟨k, tx, gs, bd⟩, ah⟩, a, c⟩ : Uz) = (t.ap || !(gs.any fun y => decide ((y : Int) = pg)))) := by show _ = _; simp [f7, HTl.out, *]
    generalize f7 rs pg (⟨⟨⟨k, tx, gs, bd⟩, ah⟩, a, c⟩ : Uz) = R at *
    generalize (gs.any fun y => decide ((y : Int) = pg)) = G at *
    clear HTl hg h3 HKV
    cases hap : t.ap
    · rw [hap] at lA fl2 HF
      have HF2 : Hid (R = !G) := by have := HF.out; show _ = _; simpa using this
      clear hap HF
      cases hG : G
      · rw [hG] at cc HF2
        clear hG
        go_enter Try.func64, Try.ntmps64
        go_upto_region 1 with fail
        rw [← hw1]
        clear hw1
        generalize w.heap.size = X at *
        refine Gz.begin (fun W => Kept (fun _ => True) w1 W) (fun _ => false) (by kernel_rfl) ?_
        refine Gz.take (i := 0) (oi := { dst := some 5, op := Op.fieldAddr 124 (Operand.tmp 3) 0, type := 0, pos := _, after := _, guard := none }) (v := ?_) rfl (by kernel_rfl) (by kernel_rfl) (by kernel_rfl) (by kernel_rfl) (fun _ _ _ h => h) (Or.inl ⟨by rfl, ?hy0⟩) (Kept.refl _ _).drew ?_
        case hy0 => (intro W hSw; (try dsimp only at hSw); go_simp; try with_reducible rfl)
        try simp only [Act.put, List.setIfInBounds_toArray, List.set_cons_zero, List.set_cons_succ]
        refine Gz.take (i := 1) (oi := { dst := some 6, op := Op.fieldAddr 24 (Operand.tmp 5) 0, type := 0, pos := _, after := _, guard := none }) (v := ?_) rfl (by kernel_rfl) (by kernel_rfl) (by kernel_rfl) (by kernel_rfl) (fun _ _ _ h => h) (Or.inl ⟨by rfl, ?hy1⟩) (Kept.refl _ _).drew ?_
        case hy1 => (intro W hSw; (try dsimp only at hSw); go_simp; try with_reducible rfl)
        try simp only [Act.put, List.setIfInBounds_toArray, List.set_cons_zero, List.set_cons_succ]
        refine Gz.take (i := 2) (oi := { dst := some 7, op := Op.load 3 (Operand.tmp 6), type := 3, pos := _, after := _, guard := none }) (v := ?_) rfl (by kernel_rfl) (by kernel_rfl) (by kernel_rfl) (by kernel_rfl) (fun _ _ _ h => h) (Or.inl ⟨by rfl, ?hy2⟩) (Kept.refl _ _).drew ?_
        case hy2 => (intro W hSw; (try dsimp only at hSw); go_simp; try with_reducible rfl)
        try simp only [Act.put, List.setIfInBounds_toArray, List.set_cons_zero, List.set_cons_succ]
        refine Gz.take (i := 3) (oi := { dst := some 8, op := Op.binOp BinOp.eql 3 (Operand.tmp 7) (Operand.const (Value.int IntKind.i64 3)) 3, type := 4, pos := _, after := _, guard := none }) (v := ?_) rfl (by kernel_rfl) (by kernel_rfl) (by kernel_rfl) (by kernel_rfl) (fun _ _ _ h => h) (Or.inl ⟨by rfl, ?hy3⟩) (Kept.refl _ _).drew ?_
        case hy3 => (intro W hSw; (try dsimp only at hSw); go_simp; try with_reducible rfl)
        try simp only [Act.put, List.setIfInBounds_toArray, List.set_cons_zero, List.set_cons_succ]
        refine Gz.take (i := 4) (oi := { dst := some 9, op := Op.move (Operand.tmp 8), type := 4, pos := _, after := _, guard := none }) (v := ?_) rfl (by kernel_rfl) (by kernel_rfl) (by kernel_rfl) (by kernel_rfl) (fun _ _ _ h => h) (Or.inl ⟨by rfl, ?hy4⟩) (Kept.refl _ _).drew ?_
        case hy4 => (intro W hSw; (try dsimp only at hSw); go_simp; try with_reducible rfl)
        try simp only [Act.put, List.setIfInBounds_toArray, List.set_cons_zero, List.set_cons_succ]
        refine Gz.take (i := 5) (oi := { dst := some 10, op := Op.load 67 (Operand.tmp 1), type := 67, pos := _, after := _, guard := some (4, true) }) (v := ?_) rfl (by kernel_rfl) (by kernel_rfl) (by kernel_rfl) (by kernel_rfl) (fun _ _ _ h => h) (Or.inl ⟨by rfl, ?hy5⟩) (Kept.refl _ _).drew ?_
        case hy5 => (intro W hSw; (try dsimp only at hSw); go_simp; try with_reducible rfl)
        try simp only [Act.put, List.setIfInBounds_toArray, List.set_cons_zero, List.set_cons_succ]
        refine Gz.take (i := 6) (oi := { dst := some 11, op := Op.nilCheck (Operand.tmp 10), type := 0, pos := _, after := _, guard := some (4, true) }) (v := ?_) rfl (by kernel_rfl) (by kernel_rfl) (by kernel_rfl) (by kernel_rfl) (fun _ _ _ h => h) (Or.inl ⟨by rfl, ?hy6⟩) (Kept.refl _ _).drew ?_
        case hy6 => (intro W hSw; (try dsimp only at hSw); go_simp; try with_reducible rfl)
        try simp only [Act.put, List.setIfInBounds_toArray, List.set_cons_zero, List.set_cons_succ]
        refine Gz.take (i := 7) (oi := { dst := some 12, op := Op.fieldAddr 112 (Operand.tmp 11) 1, type := 0, pos := _, after := _, guard := some (4, true) }) (v := ?_) rfl (by kernel_rfl) (by kernel_rfl) (by kernel_rfl) (by kernel_rfl) (fun _ _ _ h => h) (Or.inl ⟨by rfl, ?hy7⟩) (Kept.refl _ _).drew ?_
        case hy7 => (intro W hSw; (try dsimp only at hSw); go_simp; try with_reducible rfl)
        try simp only [Act.put, List.setIfInBounds_toArray, List.set_cons_zero, List.set_cons_succ]
        refine Gz.take (i := 8) (oi := { dst := some 13, op := Op.load 109 (Operand.tmp 12), type := 109, pos := _, after := _, guard := some (4, true) }) (v := ?_) rfl (by kernel_rfl) (by kernel_rfl) (by kernel_rfl) (by kernel_rfl) (fun _ _ _ h => h) (Or.inl ⟨by rfl, ?hy8⟩) (Kept.refl _ _).drew ?_
        case hy8 => (intro W hSw; (try dsimp only at hSw); go_simp; try with_reducible rfl)
        try simp only [Act.put, List.setIfInBounds_toArray, List.set_cons_zero, List.set_cons_succ]
        refine Gz.take (i := 9) (oi := { dst := some 14, op := Op.fieldAddr 124 (Operand.tmp 3) 0, type := 0, pos := _, after := _, guard := some (4, true) }) (v := ?_) rfl (by kernel_rfl) (by kernel_rfl) (by kernel_rfl) (by kernel_rfl) (fun _ _ _ h => h) (Or.inl ⟨by rfl, ?hy9⟩) (Kept.refl _ _).drew ?_
        case hy9 => (intro W hSw; (try dsimp only at hSw); go_simp; try with_reducible rfl)
        try simp only [Act.put, List.setIfInBounds_toArray, List.set_cons_zero, List.set_cons_succ]
        refine Gz.take (i := 10) (oi := { dst := some 15, op := Op.fieldAddr 24 (Operand.tmp 14) 1, type := 0, pos := _, after := _, guard := some (4, true) }) (v := ?_) rfl (by kernel_rfl) (by kernel_rfl) (by kernel_rfl) (by kernel_rfl) (fun _ _ _ h => h) (Or.inl ⟨by rfl, ?hy10⟩) (Kept.refl _ _).drew ?_
        case hy10 => (intro W hSw; (try dsimp only at hSw); go_simp; try with_reducible rfl)
        try simp only [Act.put, List.setIfInBounds_toArray, List.set_cons_zero, List.set_cons_succ]
        refine Gz.take (i := 11) (oi := { dst := some 16, op := Op.load 9 (Operand.tmp 15), type := 9, pos := _, after := _, guard := some (4, true) }) (v := ?_) rfl (by kernel_rfl) (by kernel_rfl) (by kernel_rfl) (by kernel_rfl) (fun _ _ _ h => h) (Or.inl ⟨by rfl, ?hy11⟩) (Kept.refl _ _).drew ?_
        case hy11 => (intro W hSw; (try dsimp only at hSw); go_simp; try with_reducible rfl)
        try simp only [Act.put, List.setIfInBounds_toArray, List.set_cons_zero, List.set_cons_succ]
        refine Gz.take (i := 12) (oi := { dst := some 17, op := Op.lookup 109 (Operand.tmp 13) (Operand.tmp 16) false, type := 127, pos := _, after := _, guard := some (4, true) }) (v := ?_) rfl (by kernel_rfl) (by kernel_rfl) (by kernel_rfl) (by kernel_rfl) (fun _ _ _ h => h) (Or.inl ⟨by rfl, ?hy12⟩) (Kept.refl _ _).drew ?_
        case hy12 => (intro W hSw; (try dsimp only at hSw); go_simp; try with_reducible rfl)
        try simp only [Act.put, List.setIfInBounds_toArray, List.set_cons_zero, List.set_cons_succ]
        refine Gz.take (i := 13) (oi := { dst := some 18, op := Op.field 127 (Operand.tmp 17) 2, type := 4, pos := _, after := _, guard := some (4, true) }) (v := ?_) rfl (by kernel_rfl) (by kernel_rfl) (by kernel_rfl) (by kernel_rfl) (fun _ _ _ h => h) (Or.inl ⟨by rfl, ?hy13⟩) (Kept.refl _ _).drew ?_
        case hy13 => (intro W hSw; (try dsimp only at hSw); go_simp; try with_reducible rfl)
        try simp only [Act.put, List.setIfInBounds_toArray, List.set_cons_zero, List.set_cons_succ]
        refine Gz.take (i := 14) (oi := { dst := some 19, op := Op.move (Operand.tmp 18), type := 4, pos := _, after := _, guard := some (4, true) }) (v := ?_) rfl (by kernel_rfl) (by kernel_rfl) (by kernel_rfl) (by kernel_rfl) (fun _ _ _ h => h) (Or.inl ⟨by rfl, ?hy14⟩) (Kept.refl _ _).drew ?_
        case hy14 => (intro W hSw; (try dsimp only at hSw); go_simp; try with_reducible rfl)
        try simp only [Act.put, List.setIfInBounds_toArray, List.set_cons_zero, List.set_cons_succ]
        refine Gz.take (i := 15) (oi := { dst := some 20, op := Op.fieldAddr 124 (Operand.tmp 3) 0, type := 0, pos := _, after := _, guard := some (14, false) }) (v := ?_) rfl (by kernel_rfl) (by kernel_rfl) (by kernel_rfl) (by kernel_rfl) (fun _ _ _ h => h) (Or.inl ⟨by rfl, ?hy15⟩) (Kept.refl _ _).drew ?_
        case hy15 => (intro W hSw; (try dsimp only at hSw); go_simp; try with_reducible rfl)
        try simp only [Act.put, List.setIfInBounds_toArray, List.set_cons_zero, List.set_cons_succ]
        refine Gz.take (i := 16) (oi := { dst := some 21, op := Op.fieldAddr 24 (Operand.tmp 20) 2, type := 0, pos := _, after := _, guard := some (14, false) }) (v := ?_) rfl (by kernel_rfl) (by kernel_rfl) (by kernel_rfl) (by kernel_rfl) (fun _ _ _ h => h) (Or.inl ⟨by rfl, ?hy16⟩) (Kept.refl _ _).drew ?_
        case hy16 => (intro W hSw; (try dsimp only at hSw); go_simp; try with_reducible rfl)
        try simp only [Act.put, List.setIfInBounds_toArray, List.set_cons_zero, List.set_cons_succ]
        refine Gz.take (i := 17) (oi := { dst := some 22, op := Op.load 22 (Operand.tmp 21), type := 22, pos := _, after := _, guard := some (14, false) }) (v := ?_) rfl (by kernel_rfl) (by kernel_rfl) (by kernel_rfl) (by kernel_rfl) (fun _ _ _ h => h) (Or.inl ⟨by rfl, ?hy17⟩) (Kept.refl _ _).drew ?_
        case hy17 => (intro W hSw; (try dsimp only at hSw); go_simp; try with_reducible rfl)
        try simp only [Act.put, List.setIfInBounds_toArray, List.set_cons_zero, List.set_cons_succ]
        refine Gz.take (i := 18) (oi := { dst := some 23, op := Op.fieldAddr 116 (Operand.tmp 2) 0, type := 0, pos := _, after := _, guard := some (14, false) }) (v := ?_) rfl (by kernel_rfl) (by kernel_rfl) (by kernel_rfl) (by kernel_rfl) (fun _ _ _ h => h) (Or.inl ⟨by rfl, ?hy18⟩) (Kept.refl _ _).drew ?_
        case hy18 => (intro W hSw; (try dsimp only at hSw); go_simp; try with_reducible rfl)
        try simp only [Act.put, List.setIfInBounds_toArray, List.set_cons_zero, List.set_cons_succ]
        refine Gz.take (i := 19) (oi := { dst := some 24, op := Op.load 3 (Operand.tmp 23), type := 3, pos := _, after := _, guard := some (14, false) }) (v := ?_) rfl (by kernel_rfl) (by kernel_rfl) (by kernel_rfl) (by kernel_rfl) (fun _ _ _ h => h) (Or.inl ⟨by rfl, ?hy19⟩) (Kept.refl _ _).drew ?_
        case hy19 => (intro W hSw; (try dsimp only at hSw); go_simp; try with_reducible rfl)
        try simp only [Act.put, List.setIfInBounds_toArray, List.set_cons_zero, List.set_cons_succ]
        refine Gz.one (i := 20) (o := { dst := some 25, op := Op.call { callee := Callee.value (Operand.func 65), args := #[Operand.tmp 22, Operand.tmp 24], argTypes := #[22, 3] }, type := 4, pos := _, after := _, guard := some (14, false) }) (by kernel_rfl) rfl (fun K hK => ?_)
        go_simp
        with_reducible refine Calls.mono (cc _ ((Kept.refl (fun _ => True) w1).drew)) ?_
        rintro e w2 ⟨rfl, m2, rfl⟩
        try go_wp2_with fail
        refine hK.out _ _ (fun _ => (by first | exact (Kept.refl _ _).drewN _ | exact ((Kept.refl _ _).drew.drewN _))) ?_
        clear hK K
        try simp only [Act.put, List.setIfInBounds_toArray, List.set_cons_zero, List.set_cons_succ]
        refine Gz.take (i := 21) (oi := { dst := some 26, op := Op.unOp UnOp.not 4 (Operand.tmp 25), type := 4, pos := _, after := _, guard := some (14, false) }) (v := ?_) rfl (by kernel_rfl) (by kernel_rfl) (by kernel_rfl) (by kernel_rfl) (fun _ _ _ h => h) (Or.inl ⟨by rfl, ?hy21⟩) (by first | exact (Kept.refl _ _).drewN _ | exact ((Kept.refl _ _).drew.drewN _)) ?_
        case hy21 => (intro W hSw; (try dsimp only at hSw); go_simp; try with_reducible rfl)
        try simp only [Act.put, List.setIfInBounds_toArray, List.set_cons_zero, List.set_cons_succ]
        refine Gz.take (i := 22) (oi := { dst := some 27, op := Op.pick (Operand.tmp 19) (Operand.const (Value.bool true)) (Operand.tmp 26), type := 4, pos := _, after := _, guard := some (4, true) }) (v := ?_) rfl (by kernel_rfl) (by kernel_rfl) (by kernel_rfl) (by kernel_rfl) (fun _ _ _ h => h) (Or.inl ⟨by rfl, ?hy22⟩) (by first | exact (Kept.refl _ _).drewN _ | exact ((Kept.refl _ _).drew.drewN _)) ?_
        case hy22 => (intro W hSw; (try dsimp only at hSw); go_simp; try with_reducible rfl)
        try simp only [Act.put, List.setIfInBounds_toArray, List.set_cons_zero, List.set_cons_succ]
        refine Gz.take (i := 23) (oi := { dst := some 28, op := Op.pick (Operand.tmp 9) (Operand.tmp 27) (Operand.const (Value.bool false)), type := 4, pos := _, after := _, guard := none }) (v := ?_) rfl (by kernel_rfl) (by kernel_rfl) (by kernel_rfl) (by kernel_rfl) (fun _ _ _ h => h) (Or.inl ⟨by rfl, ?hy23⟩) (by first | exact (Kept.refl _ _).drewN _ | exact ((Kept.refl _ _).drew.drewN _)) ?_
        case hy23 => (intro W hSw; (try dsimp only at hSw); go_simp; try with_reducible rfl)
        try simp only [Act.put, List.setIfInBounds_toArray, List.set_cons_zero, List.set_cons_succ]
        refine Gz.take (i := 24) (oi := { dst := some 4, op := Op.assign (Operand.tmp 28), type := 4, pos := _, after := _, guard := none }) (v := ?_) rfl (by kernel_rfl) (by kernel_rfl) (by kernel_rfl) (by kernel_rfl) (fun _ _ _ h => h) (Or.inl ⟨by rfl, ?hy24⟩) (by first | exact (Kept.refl _ _).drewN _ | exact ((Kept.refl _ _).drew.drewN _)) ?_
        case hy24 => (intro W hSw; (try dsimp only at hSw); go_simp; try with_reducible rfl)
        try simp only [Act.put, List.setIfInBounds_toArray, List.set_cons_zero, List.set_cons_succ]
        refine Gz.done (by kernel_rfl) ?_ _
        go_wp2_with fail
        go_ret
        exact ⟨by rw [HF2.out]; rfl, (by first | exact KA.out.drewN _ | exact KA.out.drew.drewN _)⟩
      · rw [hG] at cc HF2
        clear hG
        go_enter Try.func64, Try.ntmps64
        go_upto_region 1 with fail
        rw [← hw1]
        clear hw1
        generalize w.heap.size = X at *
        refine Gz.begin (fun W => Kept (fun _ => True) w1 W) (fun _ => false) (by kernel_rfl) ?_
        refine Gz.take (i := 0) (oi := { dst := some 5, op := Op.fieldAddr 124 (Operand.tmp 3) 0, type := 0, pos := _, after := _, guard := none }) (v := ?_) rfl (by kernel_rfl) (by kernel_rfl) (by kernel_rfl) (by kernel_rfl) (fun _ _ _ h => h) (Or.inl ⟨by rfl, ?hy0⟩) (Kept.refl _ _).drew ?_
        case hy0 => (intro W hSw; (try dsimp only at hSw); go_simp; try with_reducible rfl)
        try simp only [Act.put, List.setIfInBounds_toArray, List.set_cons_zero, List.set_cons_succ]
        refine Gz.take (i := 1) (oi := { dst := some 6, op := Op.fieldAddr 24 (Operand.tmp 5) 0, type := 0, pos := _, after := _, guard := none }) (v := ?_) rfl (by kernel_rfl) (by kernel_rfl) (by kernel_rfl) (by kernel_rfl) (fun _ _ _ h => h) (Or.inl ⟨by rfl, ?hy1⟩) (Kept.refl _ _).drew ?_
        case hy1 => (intro W hSw; (try dsimp only at hSw); go_simp; try with_reducible rfl)
        try simp only [Act.put, List.setIfInBounds_toArray, List.set_cons_zero, List.set_cons_succ]
        refine Gz.take (i := 2) (oi := { dst := some 7, op := Op.load 3 (Operand.tmp 6), type := 3, pos := _, after := _, guard := none }) (v := ?_) rfl (by kernel_rfl) (by kernel_rfl) (by kernel_rfl) (by kernel_rfl) (fun _ _ _ h => h) (Or.inl ⟨by rfl, ?hy2⟩) (Kept.refl _ _).drew ?_
        case hy2 => (intro W hSw; (try dsimp only at hSw); go_simp; try with_reducible rfl)
        try simp only [Act.put, List.setIfInBounds_toArray, List.set_cons_zero, List.set_cons_succ]
        refine Gz.take (i := 3) (oi := { dst := some 8, op := Op.binOp BinOp.eql 3 (Operand.tmp 7) (Operand.const (Value.int IntKind.i64 3)) 3, type := 4, pos := _, after := _, guard := none }) (v := ?_) rfl (by kernel_rfl) (by kernel_rfl) (by kernel_rfl) (by kernel_rfl) (fun _ _ _ h => h) (Or.inl ⟨by rfl, ?hy3⟩) (Kept.refl _ _).drew ?_
        case hy3 => (intro W hSw; (try dsimp only at hSw); go_simp; try with_reducible rfl)
        try simp only [Act.put, List.setIfInBounds_toArray, List.set_cons_zero, List.set_cons_succ]
        refine Gz.take (i := 4) (oi := { dst := some 9, op := Op.move (Operand.tmp 8), type := 4, pos := _, after := _, guard := none }) (v := ?_) rfl (by kernel_rfl) (by kernel_rfl) (by kernel_rfl) (by kernel_rfl) (fun _ _ _ h => h) (Or.inl ⟨by rfl, ?hy4⟩) (Kept.refl _ _).drew ?_
        case hy4 => (intro W hSw; (try dsimp only at hSw); go_simp; try with_reducible rfl)
        try simp only [Act.put, List.setIfInBounds_toArray, List.set_cons_zero, List.set_cons_succ]
        refine Gz.take (i := 5) (oi := { dst := some 10, op := Op.load 67 (Operand.tmp 1), type := 67, pos := _, after := _, guard := some (4, true) }) (v := ?_) rfl (by kernel_rfl) (by kernel_rfl) (by kernel_rfl) (by kernel_rfl) (fun _ _ _ h => h) (Or.inl ⟨by rfl, ?hy5⟩) (Kept.refl _ _).drew ?_
        case hy5 => (intro W hSw; (try dsimp only at hSw); go_simp; try with_reducible rfl)
        try simp only [Act.put, List.setIfInBounds_toArray, List.set_cons_zero, List.set_cons_succ]
        refine Gz.take (i := 6) (oi := { dst := some 11, op := Op.nilCheck (Operand.tmp 10), type := 0, pos := _, after := _, guard := some (4, true) }) (v := ?_) rfl (by kernel_rfl) (by kernel_rfl) (by kernel_rfl) (by kernel_rfl) (fun _ _ _ h => h) (Or.inl ⟨by rfl, ?hy6⟩) (Kept.refl _ _).drew ?_
        case hy6 => (intro W hSw; (try dsimp only at hSw); go_simp; try with_reducible rfl)
        try simp only [Act.put, List.setIfInBounds_toArray, List.set_cons_zero, List.set_cons_succ]
        refine Gz.take (i := 7) (oi := { dst := some 12, op := Op.fieldAddr 112 (Operand.tmp 11) 1, type := 0, pos := _, after := _, guard := some (4, true) }) (v := ?_) rfl (by kernel_rfl) (by kernel_rfl) (by kernel_rfl) (by kernel_rfl) (fun _ _ _ h => h) (Or.inl ⟨by rfl, ?hy7⟩) (Kept.refl _ _).drew ?_
        case hy7 => (intro W hSw; (try dsimp only at hSw); go_simp; try with_reducible rfl)
        try simp only [Act.put, List.setIfInBounds_toArray, List.set_cons_zero, List.set_cons_succ]
        refine Gz.take (i := 8) (oi := { dst := some 13, op := Op.load 109 (Operand.tmp 12), type := 109, pos := _, after := _, guard := some (4, true) }) (v := ?_) rfl (by kernel_rfl) (by kernel_rfl) (by kernel_rfl) (by kernel_rfl) (fun _ _ _ h => h) (Or.inl ⟨by rfl, ?hy8⟩) (Kept.refl _ _).drew ?_
        case hy8 => (intro W hSw; (try dsimp only at hSw); go_simp; try with_reducible rfl)
        try simp only [Act.put, List.setIfInBounds_toArray, List.set_cons_zero, List.set_cons_succ]
        refine Gz.take (i := 9) (oi := { dst := some 14, op := Op.fieldAddr 124 (Operand.tmp 3) 0, type := 0, pos := _, after := _, guard := some (4, true) }) (v := ?_) rfl (by kernel_rfl) (by kernel_rfl) (by kernel_rfl) (by kernel_rfl) (fun _ _ _ h => h) (Or.inl ⟨by rfl, ?hy9⟩) (Kept.refl _ _).drew ?_
        case hy9 => (intro W hSw; (try dsimp only at hSw); go_simp; try with_reducible rfl)
        try simp only [Act.put, List.setIfInBounds_toArray, List.set_cons_zero, List.set_cons_succ]
        refine Gz.take (i := 10) (oi := { dst := some 15, op := Op.fieldAddr 24 (Operand.tmp 14) 1, type := 0, pos := _, after := _, guard := some (4, true) }) (v := ?_) rfl (by kernel_rfl) (by kernel_rfl) (by kernel_rfl) (by kernel_rfl) (fun _ _ _ h => h) (Or.inl ⟨by rfl, ?hy10⟩) (Kept.refl _ _).drew ?_
        case hy10 => (intro W hSw; (try dsimp only at hSw); go_simp; try with_reducible rfl)
        try simp only [Act.put, List.setIfInBounds_toArray, List.set_cons_zero, List.set_cons_succ]
        refine Gz.take (i := 11) (oi := { dst := some 16, op := Op.load 9 (Operand.tmp 15), type := 9, pos := _, after := _, guard := some (4, true) }) (v := ?_) rfl (by kernel_rfl) (by kernel_rfl) (by kernel_rfl) (by kernel_rfl) (fun _ _ _ h => h) (Or.inl ⟨by rfl, ?hy11⟩) (Kept.refl _ _).drew ?_
        case hy11 => (intro W hSw; (try dsimp only at hSw); go_simp; try with_reducible rfl)
        try simp only [Act.put, List.setIfInBounds_toArray, List.set_cons_zero, List.set_cons_succ]
        refine Gz.take (i := 12) (oi := { dst := some 17, op := Op.lookup 109 (Operand.tmp 13) (Operand.tmp 16) false, type := 127, pos := _, after := _, guard := some (4, true) }) (v := ?_) rfl (by kernel_rfl) (by kernel_rfl) (by kernel_rfl) (by kernel_rfl) (fun _ _ _ h => h) (Or.inl ⟨by rfl, ?hy12⟩) (Kept.refl _ _).drew ?_
        case hy12 => (intro W hSw; (try dsimp only at hSw); go_simp; try with_reducible rfl)
        try simp only [Act.put, List.setIfInBounds_toArray, List.set_cons_zero, List.set_cons_succ]
        refine Gz.take (i := 13) (oi := { dst := some 18, op := Op.field 127 (Operand.tmp 17) 2, type := 4, pos := _, after := _, guard := some (4, true) }) (v := ?_) rfl (by kernel_rfl) (by kernel_rfl) (by kernel_rfl) (by kernel_rfl) (fun _ _ _ h => h) (Or.inl ⟨by rfl, ?hy13⟩) (Kept.refl _ _).drew ?_
        case hy13 => (intro W hSw; (try dsimp only at hSw); go_simp; try with_reducible rfl)
        try simp only [Act.put, List.setIfInBounds_toArray, List.set_cons_zero, List.set_cons_succ]
        refine Gz.take (i := 14) (oi := { dst := some 19, op := Op.move (Operand.tmp 18), type := 4, pos := _, after := _, guard := some (4, true) }) (v := ?_) rfl (by kernel_rfl) (by kernel_rfl) (by kernel_rfl) (by kernel_rfl) (fun _ _ _ h => h) (Or.inl ⟨by rfl, ?hy14⟩) (Kept.refl _ _).drew ?_
        case hy14 => (intro W hSw; (try dsimp only at hSw); go_simp; try with_reducible rfl)
        try simp only [Act.put, List.setIfInBounds_toArray, List.set_cons_zero, List.set_cons_succ]
        refine Gz.take (i := 15) (oi := { dst := some 20, op := Op.fieldAddr 124 (Operand.tmp 3) 0, type := 0, pos := _, after := _, guard := some (14, false) }) (v := ?_) rfl (by kernel_rfl) (by kernel_rfl) (by kernel_rfl) (by kernel_rfl) (fun _ _ _ h => h) (Or.inl ⟨by rfl, ?hy15⟩) (Kept.refl _ _).drew ?_
        case hy15 => (intro W hSw; (try dsimp only at hSw); go_simp; try with_reducible rfl)
        try simp only [Act.put, List.setIfInBounds_toArray, List.set_cons_zero, List.set_cons_succ]
        refine Gz.take (i := 16) (oi := { dst := some 21, op := Op.fieldAddr 24 (Operand.tmp 20) 2, type := 0, pos := _, after := _, guard := some (14, false) }) (v := ?_) rfl (by kernel_rfl) (by kernel_rfl) (by kernel_rfl) (by kernel_rfl) (fun _ _ _ h => h) (Or.inl ⟨by rfl, ?hy16⟩) (Kept.refl _ _).drew ?_
        case hy16 => (intro W hSw; (try dsimp only at hSw); go_simp; try with_reducible rfl)
        try simp only [Act.put, List.setIfInBounds_toArray, List.set_cons_zero, List.set_cons_succ]
        refine Gz.take (i := 17) (oi := { dst := some 22, op := Op.load 22 (Operand.tmp 21), type := 22, pos := _, after := _, guard := some (14, false) }) (v := ?_) rfl (by kernel_rfl) (by kernel_rfl) (by kernel_rfl) (by kernel_rfl) (fun _ _ _ h => h) (Or.inl ⟨by rfl, ?hy17⟩) (Kept.refl _ _).drew ?_
        case hy17 => (intro W hSw; (try dsimp only at hSw); go_simp; try with_reducible rfl)
        try simp only [Act.put, List.setIfInBounds_toArray, List.set_cons_zero, List.set_cons_succ]
        refine Gz.take (i := 18) (oi := { dst := some 23, op := Op.fieldAddr 116 (Operand.tmp 2) 0, type := 0, pos := _, after := _, guard := some (14, false) }) (v := ?_) rfl (by kernel_rfl) (by kernel_rfl) (by kernel_rfl) (by kernel_rfl) (fun _ _ _ h => h) (Or.inl ⟨by rfl, ?hy18⟩) (Kept.refl _ _).drew ?_
        case hy18 => (intro W hSw; (try dsimp only at hSw); go_simp; try with_reducible rfl)
        try simp only [Act.put, List.setIfInBounds_toArray, List.set_cons_zero, List.set_cons_succ]
        refine Gz.take (i := 19) (oi := { dst := some 24, op := Op.load 3 (Operand.tmp 23), type := 3, pos := _, after := _, guard := some (14, false) }) (v := ?_) rfl (by kernel_rfl) (by kernel_rfl) (by kernel_rfl) (by kernel_rfl) (fun _ _ _ h => h) (Or.inl ⟨by rfl, ?hy19⟩) (Kept.refl _ _).drew ?_
        case hy19 => (intro W hSw; (try dsimp only at hSw); go_simp; try with_reducible rfl)
        try simp only [Act.put, List.setIfInBounds_toArray, List.set_cons_zero, List.set_cons_succ]
        refine Gz.one (i := 20) (o := { dst := some 25, op := Op.call { callee := Callee.value (Operand.func 65), args := #[Operand.tmp 22, Operand.tmp 24], argTypes := #[22, 3] }, type := 4, pos := _, after := _, guard := some (14, false) }) (by kernel_rfl) rfl (fun K hK => ?_)
        go_simp
        with_reducible refine Calls.mono (cc _ ((Kept.refl (fun _ => True) w1).drew)) ?_
        rintro e w2 ⟨rfl, m2, rfl⟩
        try go_wp2_with fail
        refine hK.out _ _ (fun _ => (by first | exact (Kept.refl _ _).drewN _ | exact ((Kept.refl _ _).drew.drewN _))) ?_
        clear hK K
        try simp only [Act.put, List.setIfInBounds_toArray, List.set_cons_zero, List.set_cons_succ]
        refine Gz.take (i := 21) (oi := { dst := some 26, op := Op.unOp UnOp.not 4 (Operand.tmp 25), type := 4, pos := _, after := _, guard := some (14, false) }) (v := ?_) rfl (by kernel_rfl) (by kernel_rfl) (by kernel_rfl) (by kernel_rfl) (fun _ _ _ h => h) (Or.inl ⟨by rfl, ?hy21⟩) (by first | exact (Kept.refl _ _).drewN _ | exact ((Kept.refl _ _).drew.drewN _)) ?_
        case hy21 => (intro W hSw; (try dsimp only at hSw); go_simp; try with_reducible rfl)
        try simp only [Act.put, List.setIfInBounds_toArray, List.set_cons_zero, List.set_cons_succ]
        refine Gz.take (i := 22) (oi := { dst := some 27, op := Op.pick (Operand.tmp 19) (Operand.const (Value.bool true)) (Operand.tmp 26), type := 4, pos := _, after := _, guard := some (4, true) }) (v := ?_) rfl (by kernel_rfl) (by kernel_rfl) (by kernel_rfl) (by kernel_rfl) (fun _ _ _ h => h) (Or.inl ⟨by rfl, ?hy22⟩) (by first | exact (Kept.refl _ _).drewN _ | exact ((Kept.refl _ _).drew.drewN _)) ?_
        case hy22 => (intro W hSw; (try dsimp only at hSw); go_simp; try with_reducible rfl)
        try simp only [Act.put, List.setIfInBounds_toArray, List.set_cons_zero, List.set_cons_succ]
        refine Gz.take (i := 23) (oi := { dst := some 28, op := Op.pick (Operand.tmp 9) (Operand.tmp 27) (Operand.const (Value.bool false)), type := 4, pos := _, after := _, guard := none }) (v := ?_) rfl (by kernel_rfl) (by kernel_rfl) (by kernel_rfl) (by kernel_rfl) (fun _ _ _ h => h) (Or.inl ⟨by rfl, ?hy23⟩) (by first | exact (Kept.refl _ _).drewN _ | exact ((Kept.refl _ _).drew.drewN _)) ?_
        case hy23 => (intro W hSw; (try dsimp only at hSw); go_simp; try with_reducible rfl)
        try simp only [Act.put, List.setIfInBounds_toArray, List.set_cons_zero, List.set_cons_succ]
        refine Gz.take (i := 24) (oi := { dst := some 4, op := Op.assign (Operand.tmp 28), type := 4, pos := _, after := _, guard := none }) (v := ?_) rfl (by kernel_rfl) (by kernel_rfl) (by kernel_rfl) (by kernel_rfl) (fun _ _ _ h => h) (Or.inl ⟨by rfl, ?hy24⟩) (by first | exact (Kept.refl _ _).drewN _ | exact ((Kept.refl _ _).drew.drewN _)) ?_
        case hy24 => (intro W hSw; (try dsimp only at hSw); go_simp; try with_reducible rfl)
        try simp only [Act.put, List.setIfInBounds_toArray, List.set_cons_zero, List.set_cons_succ]
        refine Gz.done (by kernel_rfl) ?_ _
        go_wp2_with fail
        go_ret
        exact ⟨by rw [HF2.out]; rfl, (by first | exact KA.out.drewN _ | exact KA.out.drew.drewN _)⟩
    · rw [hap] at lA fl2 HF
      have HF2 : Hid (R = true) := by have := HF.out; show _ = _; simpa using this
      clear hap HF
      go_enter Try.func64, Try.ntmps64
      go_upto_region 1 with fail
      rw [← hw1]
      clear hw1
      generalize w.heap.size = X at *
      refine Gz.begin (fun W => Kept (fun _ => True) w1 W) (fun _ => false) (by kernel_rfl) ?_
      refine Gz.take (i := 0) (oi := { dst := some 5, op := Op.fieldAddr 124 (Operand.tmp 3) 0, type := 0, pos := _, after := _, guard := none }) (v := ?_) rfl (by kernel_rfl) (by kernel_rfl) (by kernel_rfl) (by kernel_rfl) (fun _ _ _ h => h) (Or.inl ⟨by rfl, ?hy0⟩) (Kept.refl _ _).drew ?_
      case hy0 => (intro W hSw; (try dsimp only at hSw); go_simp; try with_reducible rfl)
      try simp only [Act.put, List.setIfInBounds_toArray, List.set_cons_zero, List.set_cons_succ]
      refine Gz.take (i := 1) (oi := { dst := some 6, op := Op.fieldAddr 24 (Operand.tmp 5) 0, type := 0, pos := _, after := _, guard := none }) (v := ?_) rfl (by kernel_rfl) (by kernel_rfl) (by kernel_rfl) (by kernel_rfl) (fun _ _ _ h => h) (Or.inl ⟨by rfl, ?hy1⟩) (Kept.refl _ _).drew ?_
      case hy1 => (intro W hSw; (try dsimp only at hSw); go_simp; try with_reducible rfl)
      try simp only [Act.put, List.setIfInBounds_toArray, List.set_cons_zero, List.set_cons_succ]
      refine Gz.take (i := 2) (oi := { dst := some 7, op := Op.load 3 (Operand.tmp 6), type := 3, pos := _, after := _, guard := none }) (v := ?_) rfl (by kernel_rfl) (by kernel_rfl) (by kernel_rfl) (by kernel_rfl) (fun _ _ _ h => h) (Or.inl ⟨by rfl, ?hy2⟩) (Kept.refl _ _).drew ?_
      case hy2 => (intro W hSw; (try dsimp only at hSw); go_simp; try with_reducible rfl)
      try simp only [Act.put, List.setIfInBounds_toArray, List.set_cons_zero, List.set_cons_succ]
      refine Gz.take (i := 3) (oi := { dst := some 8, op := Op.binOp BinOp.eql 3 (Operand.tmp 7) (Operand.const (Value.int IntKind.i64 3)) 3, type := 4, pos := _, after := _, guard := none }) (v := ?_) rfl (by kernel_rfl) (by kernel_rfl) (by kernel_rfl) (by kernel_rfl) (fun _ _ _ h => h) (Or.inl ⟨by rfl, ?hy3⟩) (Kept.refl _ _).drew ?_
      case hy3 => (intro W hSw; (try dsimp only at hSw); go_simp; try with_reducible rfl)
      try simp only [Act.put, List.setIfInBounds_toArray, List.set_cons_zero, List.set_cons_succ]
      refine Gz.take (i := 4) (oi := { dst := some 9, op := Op.move (Operand.tmp 8), type := 4, pos := _, after := _, guard := none }) (v := ?_) rfl (by kernel_rfl) (by kernel_rfl) (by kernel_rfl) (by kernel_rfl) (fun _ _ _ h => h) (Or.inl ⟨by rfl, ?hy4⟩) (Kept.refl _ _).drew ?_
      case hy4 => (intro W hSw; (try dsimp only at hSw); go_simp; try with_reducible rfl)
      try simp only [Act.put, List.setIfInBounds_toArray, List.set_cons_zero, List.set_cons_succ]
      refine Gz.take (i := 5) (oi := { dst := some 10, op := Op.load 67 (Operand.tmp 1), type := 67, pos := _, after := _, guard := some (4, true) }) (v := ?_) rfl (by kernel_rfl) (by kernel_rfl) (by kernel_rfl) (by kernel_rfl) (fun _ _ _ h => h) (Or.inl ⟨by rfl, ?hy5⟩) (Kept.refl _ _).drew ?_
      case hy5 => (intro W hSw; (try dsimp only at hSw); go_simp; try with_reducible rfl)
      try simp only [Act.put, List.setIfInBounds_toArray, List.set_cons_zero, List.set_cons_succ]
      refine Gz.take (i := 6) (oi := { dst := some 11, op := Op.nilCheck (Operand.tmp 10), type := 0, pos := _, after := _, guard := some (4, true) }) (v := ?_) rfl (by kernel_rfl) (by kernel_rfl) (by kernel_rfl) (by kernel_rfl) (fun _ _ _ h => h) (Or.inl ⟨by rfl, ?hy6⟩) (Kept.refl _ _).drew ?_
      case hy6 => (intro W hSw; (try dsimp only at hSw); go_simp; try with_reducible rfl)
      try simp only [Act.put, List.setIfInBounds_toArray, List.set_cons_zero, List.set_cons_succ]
      refine Gz.take (i := 7) (oi := { dst := some 12, op := Op.fieldAddr 112 (Operand.tmp 11) 1, type := 0, pos := _, after := _, guard := some (4, true) }) (v := ?_) rfl (by kernel_rfl) (by kernel_rfl) (by kernel_rfl) (by kernel_rfl) (fun _ _ _ h => h) (Or.inl ⟨by rfl, ?hy7⟩) (Kept.refl _ _).drew ?_
      case hy7 => (intro W hSw; (try dsimp only at hSw); go_simp; try with_reducible rfl)
      try simp only [Act.put, List.setIfInBounds_toArray, List.set_cons_zero, List.set_cons_succ]
      refine Gz.take (i := 8) (oi := { dst := some 13, op := Op.load 109 (Operand.tmp 12), type := 109, pos := _, after := _, guard := some (4, true) }) (v := ?_) rfl (by kernel_rfl) (by kernel_rfl) (by kernel_rfl) (by kernel_rfl) (fun _ _ _ h => h) (Or.inl ⟨by rfl, ?hy8⟩) (Kept.refl _ _).drew ?_
      case hy8 => (intro W hSw; (try dsimp only at hSw); go_simp; try with_reducible rfl)
      try simp only [Act.put, List.setIfInBounds_toArray, List.set_cons_zero, List.set_cons_succ]
      refine Gz.take (i := 9) (oi := { dst := some 14, op := Op.fieldAddr 124 (Operand.tmp 3) 0, type := 0, pos := _, after := _, guard := some (4, true) }) (v := ?_) rfl (by kernel_rfl) (by kernel_rfl) (by kernel_rfl) (by kernel_rfl) (fun _ _ _ h => h) (Or.inl ⟨by rfl, ?hy9⟩) (Kept.refl _ _).drew ?_
      case hy9 => (intro W hSw; (try dsimp only at hSw); go_simp; try with_reducible rfl)
      try simp only [Act.put, List.setIfInBounds_toArray, List.set_cons_zero, List.set_cons_succ]
      refine Gz.take (i := 10) (oi := { dst := some 15, op := Op.fieldAddr 24 (Operand.tmp 14) 1, type := 0, pos := _, after := _, guard := some (4, true) }) (v := ?_) rfl (by kernel_rfl) (by kernel_rfl) (by kernel_rfl) (by kernel_rfl) (fun _ _ _ h => h) (Or.inl ⟨by rfl, ?hy10⟩) (Kept.refl _ _).drew ?_
      case hy10 => (intro W hSw; (try dsimp only at hSw); go_simp; try with_reducible rfl)
      try simp only [Act.put, List.setIfInBounds_toArray, List.set_cons_zero, List.set_cons_succ]
      refine Gz.take (i := 11) (oi := { dst := some 16, op := Op.load 9 (Operand.tmp 15), type := 9, pos := _, after := _, guard := some (4, true) }) (v := ?_) rfl (by kernel_rfl) (by kernel_rfl) (by kernel_rfl) (by kernel_rfl) (fun _ _ _ h => h) (Or.inl ⟨by rfl, ?hy11⟩) (Kept.refl _ _).drew ?_
      case hy11 => (intro W hSw; (try dsimp only at hSw); go_simp; try with_reducible rfl)
      try simp only [Act.put, List.setIfInBounds_toArray, List.set_cons_zero, List.set_cons_succ]
      refine Gz.take (i := 12) (oi := { dst := some 17, op := Op.lookup 109 (Operand.tmp 13) (Operand.tmp 16) false, type := 127, pos := _, after := _, guard := some (4, true) }) (v := ?_) rfl (by kernel_rfl) (by kernel_rfl) (by kernel_rfl) (by kernel_rfl) (fun _ _ _ h => h) (Or.inl ⟨by rfl, ?hy12⟩) (Kept.refl _ _).drew ?_
      case hy12 => (intro W hSw; (try dsimp only at hSw); go_simp; try with_reducible rfl)
      try simp only [Act.put, List.setIfInBounds_toArray, List.set_cons_zero, List.set_cons_succ]
      refine Gz.take (i := 13) (oi := { dst := some 18, op := Op.field 127 (Operand.tmp 17) 2, type := 4, pos := _, after := _, guard := some (4, true) }) (v := ?_) rfl (by kernel_rfl) (by kernel_rfl) (by kernel_rfl) (by kernel_rfl) (fun _ _ _ h => h) (Or.inl ⟨by rfl, ?hy13⟩) (Kept.refl _ _).drew ?_
      case hy13 => (intro W hSw; (try dsimp only at hSw); go_simp; try with_reducible rfl)
      try simp only [Act.put, List.setIfInBounds_toArray, List.set_cons_zero, List.set_cons_succ]
      refine Gz.take (i := 14) (oi := { dst := some 19, op := Op.move (Operand.tmp 18), type := 4, pos := _, after := _, guard := some (4, true) }) (v := ?_) rfl (by kernel_rfl) (by kernel_rfl) (by kernel_rfl) (by kernel_rfl) (fun _ _ _ h => h) (Or.inl ⟨by rfl, ?hy14⟩) (Kept.refl _ _).drew ?_
      case hy14 => (intro W hSw; (try dsimp only at hSw); go_simp; try with_reducible rfl)
      try simp only [Act.put, List.setIfInBounds_toArray, List.set_cons_zero, List.set_cons_succ]
      refine Gz.take (i := 15) (oi := { dst := some 20, op := Op.fieldAddr 124 (Operand.tmp 3) 0, type := 0, pos := _, after := _, guard := some (14, false) }) (v := undef) rfl (by kernel_rfl) (by kernel_rfl) (by kernel_rfl) (by kernel_rfl) (fun _ _ _ h => h) (Or.inr ⟨by rfl, rfl⟩) (Kept.refl _ _).drew ?_
      try simp only [Act.put, List.setIfInBounds_toArray, List.set_cons_zero, List.set_cons_succ]
      refine Gz.take (i := 16) (oi := { dst := some 21, op := Op.fieldAddr 24 (Operand.tmp 20) 2, type := 0, pos := _, after := _, guard := some (14, false) }) (v := undef) rfl (by kernel_rfl) (by kernel_rfl) (by kernel_rfl) (by kernel_rfl) (fun _ _ _ h => h) (Or.inr ⟨by rfl, rfl⟩) (Kept.refl _ _).drew ?_
      try simp only [Act.put, List.setIfInBounds_toArray, List.set_cons_zero, List.set_cons_succ]
      refine Gz.take (i := 17) (oi := { dst := some 22, op := Op.load 22 (Operand.tmp 21), type := 22, pos := _, after := _, guard := some (14, false) }) (v := undef) rfl (by kernel_rfl) (by kernel_rfl) (by kernel_rfl) (by kernel_rfl) (fun _ _ _ h => h) (Or.inr ⟨by rfl, rfl⟩) (Kept.refl _ _).drew ?_
      try simp only [Act.put, List.setIfInBounds_toArray, List.set_cons_zero, List.set_cons_succ]
      refine Gz.take (i := 18) (oi := { dst := some 23, op := Op.fieldAddr 116 (Operand.tmp 2) 0, type := 0, pos := _, after := _, guard := some (14, false) }) (v := undef) rfl (by kernel_rfl) (by kernel_rfl) (by kernel_rfl) (by kernel_rfl) (fun _ _ _ h => h) (Or.inr ⟨by rfl, rfl⟩) (Kept.refl _ _).drew ?_
      try simp only [Act.put, List.setIfInBounds_toArray, List.set_cons_zero, List.set_cons_succ]
      refine Gz.take (i := 19) (oi := { dst := some 24, op := Op.load 3 (Operand.tmp 23), type := 3, pos := _, after := _, guard := some (14, false) }) (v := undef) rfl (by kernel_rfl) (by kernel_rfl) (by kernel_rfl) (by kernel_rfl) (fun _ _ _ h => h) (Or.inr ⟨by rfl, rfl⟩) (Kept.refl _ _).drew ?_
      try simp only [Act.put, List.setIfInBounds_toArray, List.set_cons_zero, List.set_cons_succ]
      refine Gz.take (i := 20) (oi := { dst := some 25, op := Op.call { callee := Callee.value (Operand.func 65), args := #[Operand.tmp 22, Operand.tmp 24], argTypes := #[22, 3] }, type := 4, pos := _, after := _, guard := some (14, false) }) (v := undef) rfl (by kernel_rfl) (by kernel_rfl) (by kernel_rfl) (by kernel_rfl) (fun _ _ _ h => h) (Or.inr ⟨by rfl, rfl⟩) (Kept.refl _ _).drew ?_
      try simp only [Act.put, List.setIfInBounds_toArray, List.set_cons_zero, List.set_cons_succ]
      refine Gz.take (i := 21) (oi := { dst := some 26, op := Op.unOp UnOp.not 4 (Operand.tmp 25), type := 4, pos := _, after := _, guard := some (14, false) }) (v := undef) rfl (by kernel_rfl) (by kernel_rfl) (by kernel_rfl) (by kernel_rfl) (fun _ _ _ h => h) (Or.inr ⟨by rfl, rfl⟩) (Kept.refl _ _).drew ?_
      try simp only [Act.put, List.setIfInBounds_toArray, List.set_cons_zero, List.set_cons_succ]
      refine Gz.take (i := 22) (oi := { dst := some 27, op := Op.pick (Operand.tmp 19) (Operand.const (Value.bool true)) (Operand.tmp 26), type := 4, pos := _, after := _, guard := some (4, true) }) (v := ?_) rfl (by kernel_rfl) (by kernel_rfl) (by kernel_rfl) (by kernel_rfl) (fun _ _ _ h => h) (Or.inl ⟨by rfl, ?hy22⟩) (Kept.refl _ _).drew ?_
      case hy22 => (intro W hSw; (try dsimp only at hSw); go_simp; try with_reducible rfl)
      try simp only [Act.put, List.setIfInBounds_toArray, List.set_cons_zero, List.set_cons_succ]
      refine Gz.take (i := 23) (oi := { dst := some 28, op := Op.pick (Operand.tmp 9) (Operand.tmp 27) (Operand.const (Value.bool false)), type := 4, pos := _, after := _, guard := none }) (v := ?_) rfl (by kernel_rfl) (by kernel_rfl) (by kernel_rfl) (by kernel_rfl) (fun _ _ _ h => h) (Or.inl ⟨by rfl, ?hy23⟩) (Kept.refl _ _).drew ?_
      case hy23 => (intro W hSw; (try dsimp only at hSw); go_simp; try with_reducible rfl)
      try simp only [Act.put, List.setIfInBounds_toArray, List.set_cons_zero, List.set_cons_succ]
      refine Gz.take (i := 24) (oi := { dst := some 4, op := Op.assign (Operand.tmp 28), type := 4, pos := _, after := _, guard := none }) (v := ?_) rfl (by kernel_rfl) (by kernel_rfl) (by kernel_rfl) (by kernel_rfl) (fun _ _ _ h => h) (Or.inl ⟨by rfl, ?hy24⟩) (Kept.refl _ _).drew ?_
      case hy24 => (intro W hSw; (try dsimp only at hSw); go_simp; try with_reducible rfl)
      try simp only [Act.put, List.setIfInBounds_toArray, List.set_cons_zero, List.set_cons_succ]
      refine Gz.done (by kernel_rfl) ?_ _
      go_wp2_with fail
      go_ret
      exact ⟨by rw [HF2.out]; rfl, KA.out.drew⟩
  · have k3 : (kv == 3) = false := by simp only [beq_eq_false_iff_ne]; have := HKV.out; omega
    have HF : Hid (f7 rs pg (⟨⟨⟨k, tx, gs, bd⟩, ah⟩, a, c⟩ : Uz) = false) := by show _ = _; simp [f7, h3]
    generalize f7 rs pg (⟨⟨⟨k, tx, gs, bd⟩, ah⟩, a, c⟩ : Uz) = R at *
    clear HTl h3 hg HKV
    go_enter Try.func64, Try.ntmps64
    go_upto_region 1 with fail
    rw [← hw1]
    clear hw1
    generalize w.heap.size = X at *
    refine Gz.begin (fun W => Kept (fun _ => True) w1 W) (fun _ => false) (by kernel_rfl) ?_
    refine Gz.take (i := 0) (oi := { dst := some 5, op := Op.fieldAddr 124 (Operand.tmp 3) 0, type := 0, pos := _, after := _, guard := none }) (v := ?_) rfl (by kernel_rfl) (by kernel_rfl) (by kernel_rfl) (by kernel_rfl) (fun _ _ _ h => h) (Or.inl ⟨by rfl, ?hy0⟩) (Kept.refl _ _).drew ?_
    case hy0 => (intro W hSw; (try dsimp only at hSw); go_simp; try with_reducible rfl)
    try simp only [Act.put, List.setIfInBounds_toArray, List.set_cons_zero, List.set_cons_succ]
    refine Gz.take (i := 1) (oi := { dst := some 6, op := Op.fieldAddr 24 (Operand.tmp 5) 0, type := 0, pos := _, after := _, guard := none }) (v := ?_) rfl (by kernel_rfl) (by kernel_rfl) (by kernel_rfl) (by kernel_rfl) (fun _ _ _ h => h) (Or.inl ⟨by rfl, ?hy1⟩) (Kept.refl _ _).drew ?_
    case hy1 => (intro W hSw; (try dsimp only at hSw); go_simp; try with_reducible rfl)
    try simp only [Act.put, List.setIfInBounds_toArray, List.set_cons_zero, List.set_cons_succ]
    refine Gz.take (i := 2) (oi := { dst := some 7, op := Op.load 3 (Operand.tmp 6), type := 3, pos := _, after := _, guard := none }) (v := ?_) rfl (by kernel_rfl) (by kernel_rfl) (by kernel_rfl) (by kernel_rfl) (fun _ _ _ h => h) (Or.inl ⟨by rfl, ?hy2⟩) (Kept.refl _ _).drew ?_
    case hy2 => (intro W hSw; (try dsimp only at hSw); go_simp; try with_reducible rfl)
    try simp only [Act.put, List.setIfInBounds_toArray, List.set_cons_zero, List.set_cons_succ]
    refine Gz.take (i := 3) (oi := { dst := some 8, op := Op.binOp BinOp.eql 3 (Operand.tmp 7) (Operand.const (Value.int IntKind.i64 3)) 3, type := 4, pos := _, after := _, guard := none }) (v := ?_) rfl (by kernel_rfl) (by kernel_rfl) (by kernel_rfl) (by kernel_rfl) (fun _ _ _ h => h) (Or.inl ⟨by rfl, ?hy3⟩) (Kept.refl _ _).drew ?_
    case hy3 => (intro W hSw; (try dsimp only at hSw); go_simp; try with_reducible rfl)
    try simp only [Act.put, List.setIfInBounds_toArray, List.set_cons_zero, List.set_cons_succ]
    refine Gz.take (i := 4) (oi := { dst := some 9, op := Op.move (Operand.tmp 8), type := 4, pos := _, after := _, guard := none }) (v := ?_) rfl (by kernel_rfl) (by kernel_rfl) (by kernel_rfl) (by kernel_rfl) (fun _ _ _ h => h) (Or.inl ⟨by rfl, ?hy4⟩) (Kept.refl _ _).drew ?_
    case hy4 => (intro W hSw; (try dsimp only at hSw); go_simp; try with_reducible rfl)
    try simp only [Act.put, List.setIfInBounds_toArray, List.set_cons_zero, List.set_cons_succ]
    refine Gz.take (i := 5) (oi := { dst := some 10, op := Op.load 67 (Operand.tmp 1), type := 67, pos := _, after := _, guard := some (4, true) }) (v := undef) rfl (by kernel_rfl) (by kernel_rfl) (by kernel_rfl) (by kernel_rfl) (fun _ _ _ h => h) (Or.inr ⟨by rfl, rfl⟩) (Kept.refl _ _).drew ?_
    try simp only [Act.put, List.setIfInBounds_toArray, List.set_cons_zero, List.set_cons_succ]
    refine Gz.take (i := 6) (oi := { dst := some 11, op := Op.nilCheck (Operand.tmp 10), type := 0, pos := _, after := _, guard := some (4, true) }) (v := undef) rfl (by kernel_rfl) (by kernel_rfl) (by kernel_rfl) (by kernel_rfl) (fun _ _ _ h => h) (Or.inr ⟨by rfl, rfl⟩) (Kept.refl _ _).drew ?_
    try simp only [Act.put, List.setIfInBounds_toArray, List.set_cons_zero, List.set_cons_succ]
    refine Gz.take (i := 7) (oi := { dst := some 12, op := Op.fieldAddr 112 (Operand.tmp 11) 1, type := 0, pos := _, after := _, guard := some (4, true) }) (v := undef) rfl (by kernel_rfl) (by kernel_rfl) (by kernel_rfl) (by kernel_rfl) (fun _ _ _ h => h) (Or.inr ⟨by rfl, rfl⟩) (Kept.refl _ _).drew ?_
    try simp only [Act.put, List.setIfInBounds_toArray, List.set_cons_zero, List.set_cons_succ]
    refine Gz.take (i := 8) (oi := { dst := some 13, op := Op.load 109 (Operand.tmp 12), type := 109, pos := _, after := _, guard := some (4, true) }) (v := undef) rfl (by kernel_rfl) (by kernel_rfl) (by kernel_rfl) (by kernel_rfl) (fun _ _ _ h => h) (Or.inr ⟨by rfl, rfl⟩) (Kept.refl _ _).drew ?_
    try simp only [Act.put, List.setIfInBounds_toArray, List.set_cons_zero, List.set_cons_succ]
    refine Gz.take (i := 9) (oi := { dst := some 14, op := Op.fieldAddr 124 (Operand.tmp 3) 0, type := 0, pos := _, after := _, guard := some (4, true) }) (v := undef) rfl (by kernel_rfl) (by kernel_rfl) (by kernel_rfl) (by kernel_rfl) (fun _ _ _ h => h) (Or.inr ⟨by rfl, rfl⟩) (Kept.refl _ _).drew ?_
    try simp only [Act.put, List.setIfInBounds_toArray, List.set_cons_zero, List.set_cons_succ]
    refine Gz.take (i := 10) (oi := { dst := some 15, op := Op.fieldAddr 24 (Operand.tmp 14) 1, type := 0, pos := _, after := _, guard := some (4, true) }) (v := undef) rfl (by kernel_rfl) (by kernel_rfl) (by kernel_rfl) (by kernel_rfl) (fun _ _ _ h => h) (Or.inr ⟨by rfl, rfl⟩) (Kept.refl _ _).drew ?_
    try simp only [Act.put, List.setIfInBounds_toArray, List.set_cons_zero, List.set_cons_succ]
    refine Gz.take (i := 11) (oi := { dst := some 16, op := Op.load 9 (Operand.tmp 15), type := 9, pos := _, after := _, guard := some (4, true) }) (v := undef) rfl (by kernel_rfl) (by kernel_rfl) (by kernel_rfl) (by kernel_rfl) (fun _ _ _ h => h) (Or.inr ⟨by rfl, rfl⟩) (Kept.refl _ _).drew ?_
    try simp only [Act.put, List.setIfInBounds_toArray, List.set_cons_zero, List.set_cons_succ]
    refine Gz.take (i := 12) (oi := { dst := some 17, op := Op.lookup 109 (Operand.tmp 13) (Operand.tmp 16) false, type := 127, pos := _, after := _, guard := some (4, true) }) (v := undef) rfl (by kernel_rfl) (by kernel_rfl) (by kernel_rfl) (by kernel_rfl) (fun _ _ _ h => h) (Or.inr ⟨by rfl, rfl⟩) (Kept.refl _ _).drew ?_
    try simp only [Act.put, List.setIfInBounds_toArray, List.set_cons_zero, List.set_cons_succ]
    refine Gz.take (i := 13) (oi := { dst := some 18, op := Op.field 127 (Operand.tmp 17) 2, type := 4, pos := _, after := _, guard := some (4, true) }) (v := undef) rfl (by kernel_rfl) (by kernel_rfl) (by kernel_rfl) (by kernel_rfl) (fun _ _ _ h => h) (Or.inr ⟨by rfl, rfl⟩) (Kept.refl _ _).drew ?_
    try simp only [Act.put, List.setIfInBounds_toArray, List.set_cons_zero, List.set_cons_succ]
    refine Gz.take (i := 14) (oi := { dst := some 19, op := Op.move (Operand.tmp 18), type := 4, pos := _, after := _, guard := some (4, true) }) (v := undef) rfl (by kernel_rfl) (by kernel_rfl) (by kernel_rfl) (by kernel_rfl) (fun _ _ _ h => h) (Or.inr ⟨by rfl, rfl⟩) (Kept.refl _ _).drew ?_
    try simp only [Act.put, List.setIfInBounds_toArray, List.set_cons_zero, List.set_cons_succ]
    refine Gz.take (i := 15) (oi := { dst := some 20, op := Op.fieldAddr 124 (Operand.tmp 3) 0, type := 0, pos := _, after := _, guard := some (14, false) }) (v := undef) rfl (by kernel_rfl) (by kernel_rfl) (by kernel_rfl) (by kernel_rfl) (fun _ _ _ h => h) (Or.inr ⟨by rfl, rfl⟩) (Kept.refl _ _).drew ?_
    try simp only [Act.put, List.setIfInBounds_toArray, List.set_cons_zero, List.set_cons_succ]
    refine Gz.take (i := 16) (oi := { dst := some 21, op := Op.fieldAddr 24 (Operand.tmp 20) 2, type := 0, pos := _, after := _, guard := some (14, false) }) (v := undef) rfl (by kernel_rfl) (by kernel_rfl) (by kernel_rfl) (by kernel_rfl) (fun _ _ _ h => h) (Or.inr ⟨by rfl, rfl⟩) (Kept.refl _ _).drew ?_
    try simp only [Act.put, List.setIfInBounds_toArray, List.set_cons_zero, List.set_cons_succ]
    refine Gz.take (i := 17) (oi := { dst := some 22, op := Op.load 22 (Operand.tmp 21), type := 22, pos := _, after := _, guard := some (14, false) }) (v := undef) rfl (by kernel_rfl) (by kernel_rfl) (by kernel_rfl) (by kernel_rfl) (fun _ _ _ h => h) (Or.inr ⟨by rfl, rfl⟩) (Kept.refl _ _).drew ?_
    try simp only [Act.put, List.setIfInBounds_toArray, List.set_cons_zero, List.set_cons_succ]
    refine Gz.take (i := 18) (oi := { dst := some 23, op := Op.fieldAddr 116 (Operand.tmp 2) 0, type := 0, pos := _, after := _, guard := some (14, false) }) (v := undef) rfl (by kernel_rfl) (by kernel_rfl) (by kernel_rfl) (by kernel_rfl) (fun _ _ _ h => h) (Or.inr ⟨by rfl, rfl⟩) (Kept.refl _ _).drew ?_
    try simp only [Act.put, List.setIfInBounds_toArray, List.set_cons_zero, List.set_cons_succ]
    refine Gz.take (i := 19) (oi := { dst := some 24, op := Op.load 3 (Operand.tmp 23), type := 3, pos := _, after := _, guard := some (14, false) }) (v := undef) rfl (by kernel_rfl) (by kernel_rfl) (by kernel_rfl) (by kernel_rfl) (fun _ _ _ h => h) (Or.inr ⟨by rfl, rfl⟩) (Kept.refl _ _).drew ?_
    try simp only [Act.put, List.setIfInBounds_toArray, List.set_cons_zero, List.set_cons_succ]
    refine Gz.take (i := 20) (oi := { dst := some 25, op := Op.call { callee := Callee.value (Operand.func 65), args := #[Operand.tmp 22, Operand.tmp 24], argTypes := #[22, 3] }, type := 4, pos := _, after := _, guard := some (14, false) }) (v := undef) rfl (by kernel_rfl) (by kernel_rfl) (by kernel_rfl) (by kernel_rfl) (fun _ _ _ h => h) (Or.inr ⟨by rfl, rfl⟩) (Kept.refl _ _).drew ?_
    try simp only [Act.put, List.setIfInBounds_toArray, List.set_cons_zero, List.set_cons_succ]
    refine Gz.take (i := 21) (oi := { dst := some 26, op := Op.unOp UnOp.not 4 (Operand.tmp 25), type := 4, pos := _, after := _, guard := some (14, false) }) (v := undef) rfl (by kernel_rfl) (by kernel_rfl) (by kernel_rfl) (by kernel_rfl) (fun _ _ _ h => h) (Or.inr ⟨by rfl, rfl⟩) (Kept.refl _ _).drew ?_
    try simp only [Act.put, List.setIfInBounds_toArray, List.set_cons_zero, List.set_cons_succ]
    refine Gz.take (i := 22) (oi := { dst := some 27, op := Op.pick (Operand.tmp 19) (Operand.const (Value.bool true)) (Operand.tmp 26), type := 4, pos := _, after := _, guard := some (4, true) }) (v := undef) rfl (by kernel_rfl) (by kernel_rfl) (by kernel_rfl) (by kernel_rfl) (fun _ _ _ h => h) (Or.inr ⟨by rfl, rfl⟩) (Kept.refl _ _).drew ?_
    try simp only [Act.put, List.setIfInBounds_toArray, List.set_cons_zero, List.set_cons_succ]
    refine Gz.take (i := 23) (oi := { dst := some 28, op := Op.pick (Operand.tmp 9) (Operand.tmp 27) (Operand.const (Value.bool false)), type := 4, pos := _, after := _, guard := none }) (v := ?_) rfl (by kernel_rfl) (by kernel_rfl) (by kernel_rfl) (by kernel_rfl) (fun _ _ _ h => h) (Or.inl ⟨by rfl, ?hy23⟩) (Kept.refl _ _).drew ?_
    case hy23 => (intro W hSw; (try dsimp only at hSw); go_simp; try with_reducible rfl)
    try simp only [Act.put, List.setIfInBounds_toArray, List.set_cons_zero, List.set_cons_succ]
    refine Gz.take (i := 24) (oi := { dst := some 4, op := Op.assign (Operand.tmp 28), type := 4, pos := _, after := _, guard := none }) (v := ?_) rfl (by kernel_rfl) (by kernel_rfl) (by kernel_rfl) (by kernel_rfl) (fun _ _ _ h => h) (Or.inl ⟨by rfl, ?hy24⟩) (Kept.refl _ _).drew ?_
    case hy24 => (intro W hSw; (try dsimp only at hSw); go_simp; try with_reducible rfl)
    try simp only [Act.put, List.setIfInBounds_toArray, List.set_cons_zero, List.set_cons_succ]
    refine Gz.done (by kernel_rfl) ?_ _
    go_wp2_with fail
    go_ret
    exact ⟨by rw [HF.out]; rfl, KA.out.drew⟩

end Go.Proofs.Ytbooeabmpdpgpaa
