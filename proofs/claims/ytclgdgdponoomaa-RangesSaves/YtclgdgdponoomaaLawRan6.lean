/-
  RangesSaves.
-/
import Derived.Test.YtclgdgdponoomaaMEq
import Derived.Test.YtclgdgdponoomaaM9
import Derived.Test.YtclgdgdponoomaaSWithin
import Derived.Test.YtclgdgdponoomaaMGz
namespace Go.Proofs.Ytclgdgdponoomaa
open Go.RowKit

/-- equal of two whose likeness is known. -/
theorem equal_is {w : World} {a1 a2 : Option Addr} {c1 c2 : Nat} {e1 e2 : Int} {ps qs : List Pa} (h1 : Pv w a1 ps) (h2 : Pv w a2 qs) (hl1 : ps.length ≤ 100000) (hl2 : qs.length ≤ 100000) (b : Bool) (hb : b = true ↔ e1 = e2 ∧ ps = qs) :
    Calls Try.prog 26 #[.agg #[.int .i64 e1, .slice a1 ps.length c1], .agg #[.int .i64 e2, .slice a2 qs.length c2]] w fun e w' => e = .returned (.bool b) ∧ Kept (fun _ => True) w w' := by
  refine (equal_any h1 h2 hl1 hl2).mono ?_
  rintro e w' ⟨b', rfl, hb', k⟩
  refine ⟨?_, k⟩
  have : b' = b := by
    cases b <;> cases b' <;> simp_all
  rw [this]

set_option maxRecDepth 100000 in
set_option maxHeartbeats 4000000 in
theorem rangesSaves_any {w : World} (groups : Int) {a1 a2 : Option Addr} {c1 c2 : Nat} {ms1 ms2 : List Pa} (hm1 : Pv w a1 ms1) (hm2 : Pv w a2 ms2) :
    Calls Try.prog 8 #[.int .i64 groups, .slice a1 ms1.length c1, .slice a2 ms2.length c2] w fun e w' => e = .returned (.bool true) ∧ Kept (fun _ => True) w w' := by
  have H1 : Hid (Pv w a1 ms1) := hm1
  have H2 : Hid (Pv w a2 ms2) := hm2
  clear hm1 hm2
  go_enter Try.func8, Try.ntmps8
  go_wp2_with fail
  refine Calls.mono (within_any groups 2 (by decide)) ?_
  rintro e w0 ⟨⟨k, hk, rfl⟩, hw⟩
  obtain rfl : w = w0 := hw.symm
  clear hw
  have cn := new_one (w := w) k hk
  have hr0 := new_rgt hk
  generalize newP (1 + k) = ps at *
  go_wp2_with fail
  with_reducible refine Calls.mono cn ?_
  rintro e w1 ⟨a0, p0, rfl, v1, k1⟩
  have b1 := Bx.made (cap := p0) (ep := 1) v1
  have kA : Kept (fun _ => True) w (w1.alloc (.cells #[.int .i64 1, .slice a0 ps.length p0] 24)) := k1.alloc _
  have c1v := moved_any (cap := p0) (cm := c1) b1.view hr0 (H1.out.all kA)
  have K1 : Hid (Kept (fun _ => True) w (w1.alloc (.cells #[.int .i64 1, .slice a0 ps.length p0] 24))) := kA
  have HB1 : Hid (Bx _ _ _ _ _ _) := b1
  clear cn v1 k1 b1 kA
  go_wp2_with fail
  generalize w1.alloc (.cells #[.int .i64 1, .slice a0 ps.length p0] 24) = w2 at *
  generalize w1.heap.size = X0 at *
  with_reducible refine Calls.mono c1v ?_
  rintro e w3 ⟨e1, ps1, b1, q1, rfl, hr1, v3, k3⟩
  have bx1 := Bx.made (cap := q1) (ep := e1) v3
  have kB : Kept (fun _ => True) w2 (w3.alloc (.cells #[.int .i64 e1, .slice b1 ps1.length q1] 24)) := k3.alloc _
  have HX0 : Hid (Bx _ X0 a0 p0 1 ps) := HB1.out.all kB
  have K3 : Hid (Kept (fun _ => True) w (w3.alloc (.cells #[.int .i64 e1, .slice b1 ps1.length q1] 24))) := K1.out.trans kB
  have c2v := moved_any (cap := p0) (cm := c2) HX0.out.view hr0 (H2.out.all K3.out)
  have HX1 : Hid (Bx _ w3.heap.size b1 q1 e1 ps1) := bx1
  obtain ⟨x0, x1⟩ := HX0.out.cells
  clear c1v v3 k3 bx1 kB HB1 K1
  go_wp2_with fail
  generalize w3.alloc (.cells #[.int .i64 e1, .slice b1 ps1.length q1] 24) = w4 at *
  generalize w3.heap.size = X1 at *
  with_reducible refine Calls.mono c2v ?_
  rintro e w5 ⟨e2, ps2, b2, q2, rfl, hr2, v5, k5⟩
  have bx2 := Bx.made (cap := q2) (ep := e2) v5
  have kC : Kept (fun _ => True) w4 (w5.alloc (.cells #[.int .i64 e2, .slice b2 ps2.length q2] 24)) := k5.alloc _
  have HX1' : Hid (Bx _ X1 b1 q1 e1 ps1) := HX1.out.all kC
  have HX2 : Hid (Bx _ w5.heap.size b2 q2 e2 ps2) := bx2
  have K5 : Hid (Kept (fun _ => True) w (w5.alloc (.cells #[.int .i64 e2, .slice b2 ps2.length q2] 24))) := K3.out.trans kC
  have hl1 := rgt_most (rgt_iff.1 hr1).2.2
  have hl2 := rgt_most (rgt_iff.1 hr2).2.2
  have cs1 := save_any (cap := q1) (ep := e1) HX1'.out.view (by omega)
  obtain ⟨y0, y1⟩ := HX1'.out.cells
  have HLS : Hid (loadM (savedM e1 ps1) = some (e1, ps1)) := load_saved hr1
  have HINJ : Hid (savedM e1 ps1 = savedM e2 ps2 ↔ e1 = e2 ∧ ps1 = ps2) := ⟨fun h => saved_inj hr1 hr2 h, fun h => by rw [h.1, h.2]⟩
  have hs1 := savedM_length e1 ps1
  have hs2 := savedM_length e2 ps2
  have CS2 : Hid (∀ W, Pv W b2 ps2 → Calls Try.prog 13 #[.agg #[.int .i64 e2, .slice b2 ps2.length q2]] W fun e w' => ∃ D, e = .returned (.slice (some ⟨D, 0, none⟩) (savedM e2 ps2).length (savedM e2 ps2).length) ∧ w'.heap[D]? = some (.cells (cells (savedM e2 ps2)).toArray 5 (0, 0)) ∧ Kept (fun _ => True) W w' ∧ W.heap.size ≤ D) := fun W q => save_any q (by omega)
  have CS1 : Hid (∀ W, Pv W b1 ps1 → Calls Try.prog 13 #[.agg #[.int .i64 e1, .slice b1 ps1.length q1]] W fun e w' => ∃ D, e = .returned (.slice (some ⟨D, 0, none⟩) (savedM e1 ps1).length (savedM e1 ps1).length) ∧ w'.heap[D]? = some (.cells (cells (savedM e1 ps1)).toArray 5 (0, 0)) ∧ Kept (fun _ => True) W w' ∧ W.heap.size ≤ D) := fun W q => save_any q (by omega)
  generalize savedM e1 ps1 = sv1 at *
  generalize savedM e2 ps2 = sv2 at *
  have hsb1 : sv1.length ≤ 7000 := by omega
  have hsb2 : sv2.length ≤ 7000 := by omega
  clear c2v v5 k5 bx2 kC HX0 HX1 K3 x0 x1 hs1 hs2
  go_wp2_with fail
  generalize w5.alloc (.cells #[.int .i64 e2, .slice b2 ps2.length q2] 24) = w6 at *
  generalize w5.heap.size = X2 at *
  with_reducible refine Calls.mono cs1 ?_
  rintro e w7 ⟨D, rfl, hD, k7, -⟩
  have cl := load_any (bs := sv1) (cap := sv1.length) (by omega) (Blm.has hD)
  rw [HLS.out] at cl
  have HY1 : Hid (Bx w7 X1 b1 q1 e1 ps1) := HX1'.out.all k7
  have HY2 : Hid (Bx w7 X2 b2 q2 e2 ps2) := HX2.out.all k7
  have K7 : Hid (Kept (fun _ => True) w w7) := K5.out.trans k7
  clear cs1 y0 y1 hD k7 HX1' HX2 K5 HLS
  go_wp2_with fail
  with_reducible refine Calls.mono cl ?_
  rintro e w8 ⟨h8, k8⟩
  rcases h8 with ⟨h8, -⟩ | ⟨e3, ps3, b3, q3, h8, rfl, ho8⟩
  · cases h8
  simp only [Option.some.injEq, Prod.mk.injEq] at h8
  obtain ⟨rfl, rfl⟩ := h8
  have bx3 := Bx.made (cap := q3) (ep := e1) ho8.view
  have kD : Kept (fun _ => True) w7 (w8.alloc (.cells #[.int .i64 e1, .slice b3 ps1.length q3] 24)) := k8.alloc _
  have HZ1 : Hid (Bx _ X1 b1 q1 e1 ps1) := HY1.out.all kD
  have HZ2 : Hid (Bx _ X2 b2 q2 e2 ps2) := HY2.out.all kD
  have HZ3 : Hid (Bx _ w8.heap.size b3 q3 e1 ps1) := bx3
  have K8 : Hid (Kept (fun _ => True) w (w8.alloc (.cells #[.int .i64 e1, .slice b3 ps1.length q3] 24))) := K7.out.trans kD
  have ce := equal_is (e1 := e1) (e2 := e1) (c1 := q3) (c2 := q1) HZ3.out.view HZ1.out.view (by omega) (by omega) true (by simp)
  obtain ⟨y0, y1⟩ := HZ1.out.cells
  obtain ⟨z0, z1⟩ := HZ3.out.cells
  clear cl k8 ho8 bx3 kD HY1 HY2 K7
  go_wp2_with fail
  generalize w8.alloc (.cells #[.int .i64 e1, .slice b3 ps1.length q3] 24) = w9 at *
  generalize w8.heap.size = X3 at *
  with_reducible refine Calls.mono ce ?_
  rintro e w10 ⟨rfl, k10⟩
  have HA : Hid (Bx w10 X1 b1 q1 e1 ps1) := HZ1.out.all k10
  have HB : Hid (Bx w10 X2 b2 q2 e2 ps2) := HZ2.out.all k10
  have K10 : Hid (Kept (fun _ => True) w w10) := K8.out.trans k10
  clear ce y0 y1 z0 z1 k10 HZ1 HZ2 HZ3 K8
  obtain ⟨b, hb, hsb⟩ : ∃ b : Bool, (b = true ↔ e1 = e2 ∧ ps1 = ps2) ∧ (sv1 == sv2) = b := by
    by_cases hq : e1 = e2 ∧ ps1 = ps2
    · have := HINJ.out.2 hq
      exact ⟨true, ⟨fun _ => hq, fun _ => rfl⟩, by rw [this]; exact beq_self_eq_true _⟩
    · refine ⟨false, ⟨fun h => (by cases h), fun h => absurd h hq⟩, ?_⟩
      rw [beq_eq_false_iff_ne]
      exact fun e => hq (HINJ.out.1 e)
  have CE : Hid (∀ W, Kept (fun _ => True) w10 W → Calls Try.prog 26 #[.agg #[.int .i64 e1, .slice b1 ps1.length q1], .agg #[.int .i64 e2, .slice b2 ps2.length q2]] W fun e w' => e = .returned (.bool b) ∧ Kept (fun _ => True) W w') := fun W q => equal_is (HA.out.view.all q) (HB.out.view.all q) (by omega) (by omega) b hb
  obtain ⟨x0, x1⟩ := HA.out.cells
  obtain ⟨y0, y1⟩ := HB.out.cells
  clear HINJ hb
  go_wp2_with fail
  have X0' : ∀ W, Kept (fun _ => True) w10 W → W.cell? ⟨X1, 0, none⟩ = some (.int .i64 e1) := fun W q => (HA.out.all q).cells.1
  have X1' : ∀ W, Kept (fun _ => True) w10 W → W.cell? ⟨X1, 1, none⟩ = some (.slice b1 ps1.length q1) := fun W q => (HA.out.all q).cells.2
  have Y0' : ∀ W, Kept (fun _ => True) w10 W → W.cell? ⟨X2, 0, none⟩ = some (.int .i64 e2) := fun W q => (HB.out.all q).cells.1
  have Y1' : ∀ W, Kept (fun _ => True) w10 W → W.cell? ⟨X2, 1, none⟩ = some (.slice b2 ps2.length q2) := fun W q => (HB.out.all q).cells.2
  clear x0 x1 y0 y1
  refine Gz.begin (fun W => Kept (fun _ => True) w10 W) (fun _ => false) (by kernel_rfl) ?_
  refine Gz.take (i := 0) (oi := { dst := some 42, op := Op.load 24 (Operand.tmp 9), type := 24, pos := _, after := #[], guard := none }) (v := ?_) rfl (by kernel_rfl) (by kernel_rfl) (by kernel_rfl) (by kernel_rfl) (fun _ _ _ h => h) (Or.inl ⟨by rfl, ?hy0⟩) (Kept.refl _ _).drew ?_
  case hy0 => (intro W hSw; (try dsimp only at hSw); go_simp; try with_reducible rfl)
  try simp only [Act.put, List.setIfInBounds_toArray, List.set_cons_zero, List.set_cons_succ]
  refine Gz.take (i := 3) (oi := { dst := some 45, op := Op.load 24 (Operand.tmp 10), type := 24, pos := _, after := #[], guard := none }) (v := ?_) rfl (by kernel_rfl) (by kernel_rfl) (by kernel_rfl) (by kernel_rfl) (fun _ _ _ h => h) (Or.inl ⟨by rfl, ?hy3⟩) (Kept.refl _ _).drew ?_
  case hy3 => (intro W hSw; (try dsimp only at hSw); go_simp; try with_reducible rfl)
  try simp only [Act.put, List.setIfInBounds_toArray, List.set_cons_zero, List.set_cons_succ]
  refine Gz.take (i := 7) (oi := { dst := some 49, op := Op.load 24 (Operand.tmp 9), type := 24, pos := _, after := #[], guard := none }) (v := ?_) rfl (by kernel_rfl) (by kernel_rfl) (by kernel_rfl) (by kernel_rfl) (fun _ _ _ h => h) (Or.inl ⟨by rfl, ?hy7⟩) (Kept.refl _ _).drew ?_
  case hy7 => (intro W hSw; (try dsimp only at hSw); go_simp; try with_reducible rfl)
  try simp only [Act.put, List.setIfInBounds_toArray, List.set_cons_zero, List.set_cons_succ]
  refine Gz.take (i := 8) (oi := { dst := some 50, op := Op.load 24 (Operand.tmp 10), type := 24, pos := _, after := #[], guard := none }) (v := ?_) rfl (by kernel_rfl) (by kernel_rfl) (by kernel_rfl) (by kernel_rfl) (fun _ _ _ h => h) (Or.inl ⟨by rfl, ?hy8⟩) (Kept.refl _ _).drew ?_
  case hy8 => (intro W hSw; (try dsimp only at hSw); go_simp; try with_reducible rfl)
  try simp only [Act.put, List.setIfInBounds_toArray, List.set_cons_zero, List.set_cons_succ]
  refine Gz.one (i := 1) (o := { dst := some 43, op := Op.call { callee := Callee.value (Operand.func 13), args := #[Operand.tmp 42], argTypes := #[24] }, type := 34, pos := _, after := #[{ on := 0, ground := Ground.data }], guard := none }) (by kernel_rfl) rfl (fun K hK => ?_)
  go_simp
  with_reducible refine Calls.mono (CS1.out _ (HA.out.view.all (Kept.refl _ _).drew)) ?_
  rintro e w11 ⟨D1, rfl, hD1, k11, -⟩
  have s11 : Kept (fun _ => True) w10 w11 := (Kept.refl _ _).drew.trans k11
  have cv1 : ∀ W, Kept (fun _ => True) w11 W → (convert 34 9 (.slice (some ⟨D1, 0, none⟩) sv1.length sv1.length)).run Try.prog W = .ok (.string ⟨sv1.toArray⟩) W := fun W q => conv_row ((q.block _ (lt_of_block hD1) trivial).trans hD1)
  clear hD1 k11
  try go_wp2_with fail
  refine hK.out _ _ (fun _ => s11) ?_
  clear hK K
  try simp only [Act.put, List.setIfInBounds_toArray, List.set_cons_zero, List.set_cons_succ]
  refine Gz.to (S' := fun W => Kept (fun _ => True) w11 W) (fun W q => s11.trans q) _ _ _ _ ?_
  refine Gz.take (i := 2) (oi := { dst := some 44, op := Op.convert 34 9 (Operand.tmp 43), type := 9, pos := _, after := #[{ on := 1, ground := Ground.data }], guard := none }) (v := ?_) rfl (by kernel_rfl) (by kernel_rfl) (by kernel_rfl) (by kernel_rfl) (fun _ _ _ h => h) (Or.inl ⟨by rfl, ?hy2⟩) (Kept.refl _ _) ?_
  case hy2 => (intro W hSw; (try dsimp only at hSw); go_simp; try with_reducible rfl)
  try simp only [Act.put, List.setIfInBounds_toArray, List.set_cons_zero, List.set_cons_succ]
  clear cv1
  refine Gz.one (i := 4) (o := { dst := some 46, op := Op.call { callee := Callee.value (Operand.func 13), args := #[Operand.tmp 45], argTypes := #[24] }, type := 34, pos := _, after := #[{ on := 3, ground := Ground.data }, { on := 1, ground := Ground.chain }], guard := none }) (by kernel_rfl) rfl (fun K hK => ?_)
  go_simp
  with_reducible refine Calls.mono (CS2.out _ (HB.out.view.all s11)) ?_
  rintro e w12 ⟨D2, rfl, hD2, k12, -⟩
  have cv2 : ∀ W, Kept (fun _ => True) w12 W → (convert 34 9 (.slice (some ⟨D2, 0, none⟩) sv2.length sv2.length)).run Try.prog W = .ok (.string ⟨sv2.toArray⟩) W := fun W q => conv_row ((q.block _ (lt_of_block hD2) trivial).trans hD2)
  clear hD2
  try go_wp2_with fail
  refine hK.out _ _ (fun _ => k12) ?_
  clear hK K
  try simp only [Act.put, List.setIfInBounds_toArray, List.set_cons_zero, List.set_cons_succ]
  refine Gz.to (S' := fun W => Kept (fun _ => True) w12 W) (fun W q => k12.trans q) _ _ _ _ ?_
  refine Gz.take (i := 5) (oi := { dst := some 47, op := Op.convert 34 9 (Operand.tmp 46), type := 9, pos := _, after := #[{ on := 4, ground := Ground.data }], guard := none }) (v := ?_) rfl (by kernel_rfl) (by kernel_rfl) (by kernel_rfl) (by kernel_rfl) (fun _ _ _ h => h) (Or.inl ⟨by rfl, ?hy5⟩) (Kept.refl _ _) ?_
  case hy5 => (intro W hSw; (try dsimp only at hSw); go_simp; try with_reducible rfl)
  try simp only [Act.put, List.setIfInBounds_toArray, List.set_cons_zero, List.set_cons_succ]
  clear cv2
  refine Gz.take (i := 6) (oi := { dst := some 48, op := Op.binOp BinOp.eql 9 (Operand.tmp 44) (Operand.tmp 47) 9, type := 4, pos := _, after := #[{ on := 2, ground := Ground.data }, { on := 5, ground := Ground.data }], guard := none }) (v := ?_) rfl (by kernel_rfl) (by kernel_rfl) (by kernel_rfl) (by kernel_rfl) (fun _ _ _ h => h) (Or.inl ⟨by rfl, ?hy6⟩) (Kept.refl _ _) ?_
  case hy6 => (intro W hSw; (try dsimp only at hSw); go_simp; try with_reducible rfl)
  try simp only [Act.put, List.setIfInBounds_toArray, List.set_cons_zero, List.set_cons_succ]
  refine Gz.one (i := 9) (o := { dst := some 51, op := Op.call { callee := Callee.value (Operand.func 26), args := #[Operand.tmp 49, Operand.tmp 50], argTypes := #[24, 24] }, type := 4, pos := _, after := #[{ on := 7, ground := Ground.data }, { on := 8, ground := Ground.data }, { on := 4, ground := Ground.chain }], guard := none }) (by kernel_rfl) rfl (fun K hK => ?_)
  go_simp
  with_reducible refine Calls.mono (CE.out _ (s11.trans k12)) ?_
  rintro e w13 ⟨rfl, k13⟩
  try go_wp2_with fail
  refine hK.out _ _ (fun _ => k13) ?_
  clear hK K
  try simp only [Act.put, List.setIfInBounds_toArray, List.set_cons_zero, List.set_cons_succ]
  refine Gz.to (S' := fun W => Kept (fun _ => True) w13 W) (fun W q => k13.trans q) _ _ _ _ ?_
  refine Gz.take (i := 10) (oi := { dst := some 52, op := Op.binOp BinOp.eql 4 (Operand.tmp 48) (Operand.tmp 51) 4, type := 4, pos := _, after := #[{ on := 6, ground := Ground.data }, { on := 9, ground := Ground.data }], guard := none }) (v := ?_) rfl (by kernel_rfl) (by kernel_rfl) (by kernel_rfl) (by kernel_rfl) (fun _ _ _ h => h) (Or.inl ⟨by rfl, ?hy10⟩) (Kept.refl _ _) ?_
  case hy10 => (intro W hSw; (try dsimp only at hSw); go_simp; try with_reducible rfl)
  try simp only [Act.put, List.setIfInBounds_toArray, List.set_cons_zero, List.set_cons_succ]
  refine Gz.take (i := 11) (oi := { dst := some 53, op := Op.move (Operand.tmp 52), type := 4, pos := _, after := #[{ on := 10, ground := Ground.data }, { on := 9, ground := Ground.chain }], guard := none }) (v := ?_) rfl (by kernel_rfl) (by kernel_rfl) (by kernel_rfl) (by kernel_rfl) (fun _ _ _ h => h) (Or.inl ⟨by rfl, ?hy11⟩) (Kept.refl _ _) ?_
  case hy11 => (intro W hSw; (try dsimp only at hSw); go_simp; try with_reducible rfl)
  try simp only [Act.put, List.setIfInBounds_toArray, List.set_cons_zero, List.set_cons_succ]
  refine Gz.one (i := 12) (o := { dst := some 54, op := Op.call { callee := Callee.value (Operand.func 17), args := #[], argTypes := #[] }, type := 4, pos := _, after := #[{ on := 11, ground := Ground.chain }, { on := 11, ground := Ground.guard }], guard := some (11, true) }) (by kernel_rfl) rfl (fun K hK => ?_)
  go_simp
  refine Calls.mono (known_any _) ?_
  rintro e w14 ⟨rfl, k14⟩
  try go_wp2_with fail
  refine hK.out _ _ (fun _ => k14) ?_
  clear hK K
  try simp only [Act.put, List.setIfInBounds_toArray, List.set_cons_zero, List.set_cons_succ]
  refine Gz.to (S' := fun W => Kept (fun _ => True) w14 W) (fun W q => k14.trans q) _ _ _ _ ?_
  refine Gz.take (i := 13) (oi := { dst := some 55, op := Op.pick (Operand.tmp 53) (Operand.tmp 54) (Operand.const (Value.bool false)), type := 4, pos := _, after := #[{ on := 11, ground := Ground.data }, { on := 12, ground := Ground.data }], guard := none }) (v := ?_) rfl (by kernel_rfl) (by kernel_rfl) (by kernel_rfl) (by kernel_rfl) (fun _ _ _ h => h) (Or.inl ⟨by rfl, ?hy13⟩) (Kept.refl _ _) ?_
  case hy13 => (intro W hSw; (try dsimp only at hSw); go_simp; try with_reducible rfl)
  try simp only [Act.put, List.setIfInBounds_toArray, List.set_cons_zero, List.set_cons_succ]
  refine Gz.take (i := 14) (oi := { dst := some 6, op := Op.assign (Operand.tmp 55), type := 4, pos := _, after := #[{ on := 13, ground := Ground.data }, { on := 12, ground := Ground.chain }, { on := 0, ground := Ground.phase }, { on := 1, ground := Ground.phase }, { on := 2, ground := Ground.phase }, { on := 3, ground := Ground.phase }, { on := 4, ground := Ground.phase }, { on := 5, ground := Ground.phase }, { on := 6, ground := Ground.phase }, { on := 7, ground := Ground.phase }, { on := 8, ground := Ground.phase }, { on := 9, ground := Ground.phase }, { on := 10, ground := Ground.phase }, { on := 11, ground := Ground.phase }, { on := 12, ground := Ground.phase }, { on := 13, ground := Ground.phase }], guard := none }) (v := ?_) rfl (by kernel_rfl) (by kernel_rfl) (by kernel_rfl) (by kernel_rfl) (fun _ _ _ h => h) (Or.inl ⟨by rfl, ?hy14⟩) (Kept.refl _ _) ?_
  case hy14 => (intro W hSw; (try dsimp only at hSw); go_simp; try with_reducible rfl)
  try simp only [Act.put, List.setIfInBounds_toArray, List.set_cons_zero, List.set_cons_succ]
  refine Gz.done (by kernel_rfl) ?_ _
  go_wp2_with fail
  go_ret
  exact ⟨rfl, K10.out.trans (s11.trans (k12.trans (k13.trans k14)))⟩

end Go.Proofs.Ytclgdgdponoomaa
