/-
  ChainTells: it answers true for all texts, numbers and bytes.
-/
import Derived.Test.YtflleblcliobdaaZ9
import Derived.Test.YtflleblcliobdaaZ12
import Derived.Test.YtflleblcliobdaaZR6
import Derived.Test.YtflleblcliobdaaZR4
import Derived.Test.YtflleblcliobdaaZR2
import Derived.Test.YtflleblcliobdaaMGz
import Derived.Test.YtflleblcliobdaaSBook
import Derived.Test.YtflleblcliobdaaVOrd
import Derived.Laws.BitsAllLaws
import Derived.Deep.CutRange
namespace Go.Proofs.Ytflleblcliobdaa
open Go.RowKit

theorem xorc (z : UInt8) (t : Int) (ht : 0 ≤ t ∧ t < 256) : ∃ y : UInt8, bits BinOp.xor .u8 (z.toNat : Int) t = (y.toNat : Int) := by
  obtain ⟨T, rfl⟩ := Int.eq_ofNat_of_zero_le ht.1
  have hz := z.toNat_lt
  refine ⟨UInt8.ofNat (z.toNat ^^^ T), ?_⟩
  have hx : z.toNat ^^^ T < 2 ^ 8 := Nat.xor_lt_two_pow (by omega) (by omega)
  rw [u8_xor_nat z.toNat T (by omega) (by omega)]
  rw [UInt8.toNat_ofNat', Nat.mod_eq_of_lt hx]
set_option maxRecDepth 100000 in
theorem cut_c (ao : Option Addr) (n cap k : Nat) (hk : k ≤ cap) (hn : ao = none → cap = 0) (w0 : World) :
    (Instr.slice 31 (.slice ao n cap) none (some (.int .i64 (k : Int))) none).run Try.prog w0 = .ok (.slice ao k cap) w0 := by
  rw [run_slice_h (P := Try.prog) w0 31 ao n cap Try.underlying31 .i64 k (by omega) (by omega), size_u8]
  cases ao with
  | none => have := hn rfl; simp [Result.andThen, sliced]
  | some ad => simp [Result.andThen, sliced, Addr.add]
theorem has_take {w : World} {ao : Option Addr} {bs : List UInt8} (h : Has w ao bs) (k : Nat) : Has w ao (bs.take k) := fun h0 => by
  rw [List.length_take] at h0
  obtain ⟨ad, e, hc⟩ := h (by omega)
  refine ⟨ad, e, fun j hj => ?_⟩
  rw [List.length_take] at hj
  rw [List.getElem_take]
  exact hc j (by omega)
theorem two_c {w : World} {b : Nat} {x y : Value} {t : TypeId} {fr : Nat × Nat} (h : w.heap[b]? = some (.cells #[x, y] t fr)) : w.cell? ⟨b, 0, none⟩ = some x ∧ w.cell? ⟨b, 1, none⟩ = some y := ⟨cell_of_row _ _ 0 _ _ _ h, cell_of_row _ _ 1 _ _ _ h⟩
/-- A link with one byte of its head another. -/
def trn (x : Li) (j : Nat) (y : UInt8) : Li := ⟨x.t, x.h.set j y, by rw [List.length_set]; exact x.len⟩
theorem lrow_trn : ∀ (C : List Li) (k : Nat) (hk : k < C.length) (j : Nat) (_ : j < 32) (y : UInt8), (lrow C).set (k * 33 + 1 + j) (.int .u8 y.toNat) = lrow (C.set k (trn C[k] j y))
  | [], k, hk, _, _, _ => by simp at hk
  | x :: C, 0, _, j, hj, y => by
    rw [lrow_cons, List.set_cons_zero, lrow_cons, List.set_append_left _ _ (by rw [lcell_length]; omega)]
    congr 1
    show (Value.string ⟨x.t.toArray⟩ :: cells x.h).set (0 * 33 + 1 + j) _ = _
    rw [show 0 * 33 + 1 + j = j + 1 by omega, List.set_cons_succ, cells_set]
    rfl
  | x :: C, k + 1, hk, j, hj, y => by
    have e : (k + 1) * 33 + 1 + j - 33 = k * 33 + 1 + j := by omega
    rw [lrow_cons, List.set_cons_succ, lrow_cons, List.set_append_right _ _ (by rw [lcell_length]; omega), lcell_length, e]
    rw [lrow_trn C k (by simpa using hk) j hj y]
    rfl
theorem lo_trn {e : TypeId} {w : World} {base g n c : Nat} {C : List Li} (h : Lo e w base (.slice (some ⟨g, 0, none⟩) n c) C) (k : Nat) (hk : k < C.length) (j : Nat) (hj : j < 32) (y : UInt8) :
    Lo e (w.setCell ⟨g, k * 33 + 1 + j, none⟩ (.int .u8 y.toNat)) base (.slice (some ⟨g, 0, none⟩) n c) (C.set k (trn C[k] j y)) := by
  have hn : n = C.length := by
    obtain ⟨_, _, e0, _⟩ := h.shape
    injection e0
  subst hn
  have h1 := (World.ownsRow.stored h (k * 33 + 1 + j) (.int .u8 y.toNat)).1
  unfold Lo
  rw [← lrow_trn C k hk j hj y, List.length_set]
  exact h1
theorem lo_byte {e : TypeId} {w : World} {base g n c : Nat} {C : List Li} (h : Lo e w base (.slice (some ⟨g, 0, none⟩) n c) C) (k : Nat) (hk : k < C.length) (j : Nat) (hj : j < 32) :
    w.cell? ⟨g, k * 33 + 1 + j, none⟩ = some (.int .u8 (C[k].h[j]'(by rw [C[k].len]; exact hj)).toNat) := by
  have hn : n = C.length := by
    obtain ⟨_, _, e0, _⟩ := h.shape
    injection e0
  subst hn
  rw [World.ownsRow.cellAt h (k * 33 + 1 + j) (by omega), Nat.add_assoc, lrow_get C k hk (1 + j) (by omega)]
  show (Value.string ⟨C[k].t.toArray⟩ :: cells C[k].h)[1 + j]? = _
  rw [Nat.add_comm 1 j, List.getElem?_cons_succ, cells_getElem _ j (by rw [C[k].len]; exact hj)]
theorem lo_free {e : TypeId} {w : World} {base g n c : Nat} {C : List Li} (h : Lo e w base (.slice (some ⟨g, 0, none⟩) n c) C) (i : Nat) : w.frozen? ⟨g, i, none⟩ = false := by
  have hn : n = C.length := by
    obtain ⟨_, _, e0, _⟩ := h.shape
    injection e0
  subst hn
  exact World.ownsRow.frozenAt h i
theorem lo_max {e : TypeId} {w : World} {base : Nat} {v : Value} {C : List Li} (h : Lo e w base v C) : C.length ≤ 9223372036854775807 := by
  rcases h.2 with ⟨_, h0⟩ | ⟨g, cap, cur, _, _, _, h1, h2, _⟩
  · omega
  · unfold maxLen at h2
    omega
theorem trn_short {C : List Li} (k : Nat) (hk : k < C.length) (j : Nat) (y : UInt8) (h : ∀ x ∈ C, x.t.length ≤ 100) : ∀ x ∈ C.set k (trn C[k] j y), x.t.length ≤ 100 := fun x hx => by
  rcases List.mem_or_eq_of_mem_set hx with h1 | h1
  · exact h x h1
  · rw [h1]
    exact h C[k] (List.getElem_mem _)
theorem blk_kept {w w' : World} {D : Nat} {cs : Array Value} {t : TypeId} {fr : Nat × Nat} (h : w.heap[D]? = some (.cells cs t fr)) (k : Kept (fun _ => True) w w') : w'.heap[D]? = some (.cells cs t fr) := (k.block D (lt_of_block h) trivial).trans h
theorem full_has {w : World} {base R : Nat} {X : List UInt8} (h : w.ownsRow base 5 1 (.slice (some ⟨R, 0, none⟩) (X.length + 80) (X.length + 80)) (X.length + 80) (cells (full X))) : Has w (some ⟨R, 0, none⟩) X := by
  have h1 : Has w (some ⟨R, 0, none⟩) (full X) := own_has (by rw [full_length]; exact h)
  have h2 := has_take h1 X.length
  unfold full at h2
  rwa [List.take_left] at h2

theorem ob_n {w : World} {base g n c : Nat} {bs : List UInt8} (h : Ob w base (.slice (some ⟨g, 0, none⟩) n c) bs) : n = bs.length := by
  rcases h.2 with ⟨hv, _⟩ | ⟨g', cap, cur, hv, _⟩
  · cases hv
  · injection hv
theorem ob_cap {w : World} {base g n c : Nat} {bs : List UInt8} (h : Ob w base (.slice (some ⟨g, 0, none⟩) n c) bs) : bs.length ≤ c := by
  rcases h.2 with ⟨hv, _⟩ | ⟨g', cap, cur, hv, _, _, hc, _⟩
  · cases hv
  · injection hv with e1 e2 e3
    subst e3
    exact hc
theorem ob_set {w : World} {base g n c : Nat} {bs : List UInt8} (h : Ob w base (.slice (some ⟨g, 0, none⟩) n c) bs) (q : Nat) (y : UInt8) : Ob (w.setCell ⟨g, q, none⟩ (.int .u8 y.toNat)) base (.slice (some ⟨g, 0, none⟩) n c) (bs.set q y) := by
  obtain rfl := ob_n h
  have h1 := (World.ownsRow.stored h q (.int .u8 y.toNat)).1
  unfold Ob
  rw [← cells_set, List.length_set]
  exact h1
theorem ob_byte {w : World} {base g n c : Nat} {bs : List UInt8} (h : Ob w base (.slice (some ⟨g, 0, none⟩) n c) bs) (q : Nat) (hq : q < bs.length) : w.cell? ⟨g, q, none⟩ = some (.int .u8 (bs[q]).toNat) := by
  obtain rfl := ob_n h
  exact (World.ownsRow.cellAt h q (by omega)).trans (cells_getElem bs q hq)
theorem ob_free {w : World} {base g n c : Nat} {bs : List UInt8} (h : Ob w base (.slice (some ⟨g, 0, none⟩) n c) bs) (q : Nat) : w.frozen? ⟨g, q, none⟩ = false := by
  obtain rfl := ob_n h
  exact World.ownsRow.frozenAt h q
theorem ob_has {w : World} {base g n c : Nat} {bs : List UInt8} (h : Ob w base (.slice (some ⟨g, 0, none⟩) n c) bs) : Has w (some ⟨g, 0, none⟩) bs := by
  obtain rfl := ob_n h
  exact own_has h

set_option maxRecDepth 100000 in
set_option maxHeartbeats 4000000 in
theorem chainTells_any {w : World} {ao : Option Addr} {cap : Nat} {ss : List (List UInt8)} (h : Tv w ao ss) (at_ turn : Int) (ht : 0 ≤ turn ∧ turn < 256) {a0 : Option Addr} {cap0 : Nat} {b0 : List UInt8} (hB : Has w a0 b0) (hn0 : a0 = none → cap0 = 0) (hc0 : b0.length ≤ cap0) :
    Calls Try.prog 4 #[.slice ao ss.length cap, .int .i64 at_, .int .u8 turn, .slice a0 b0.length cap0] w fun e w' => e = .returned (.bool true) ∧ Kept (fun _ => True) w w' := by
  have CF := fewL_any (cap := cap) 6 (by decide) h
  obtain ⟨T, hT⟩ : ∃ T, T = fewP ss 6 := ⟨_, rfl⟩
  have sT : ∀ s ∈ T, s.length ≤ 100 := fun s hs => by rw [hT] at hs; exact fewP_short hs
  have lT : T.length ≤ 6 := by rw [hT, fewP_length]; omega
  rw [← hT] at CF
  clear hT h
  obtain ⟨A, hA⟩ : ∃ A, A = mkC T := ⟨_, rfl⟩
  obtain ⟨N, hN⟩ : ∃ N, T.length = N := ⟨_, rfl⟩
  rw [hN] at CF
  have lA : A.length = N := by rw [hA, mkC_length, hN]
  have sA : ∀ x ∈ A, x.t.length ≤ 100 := fun x hx => by rw [hA] at hx; exact few_short hx sT
  have hN6 : N ≤ 6 := by omega
  have wA : wgt A ≤ 816 := by
    have h1 := wgt_few A sA
    rw [lA] at h1
    have h2 := Nat.mul_le_mul_right (100 + 36) hN6
    omega
  have CM : ∀ (W : World) (a : Option Addr) (c : Nat), Tv W a T → Calls Try.prog 8 #[.slice a N c] W fun e w' => ∃ a' c', e = .returned (.slice a' N c') ∧ Lo 27 w' W.heap.size (.slice a' N c') A ∧ Kept (fun _ => True) W w' := fun W a c hv => by
    have := make_any (cap := c) hv (by omega) (fun t ht => by have := sT t ht; omega)
    rwa [← hA, lA, hN] at this
  have CMR : ∀ (W : World) (a : Option Addr) (c : Nat), Tv W a T → Calls Try.prog 16 #[.slice a N c] W fun e w' => ∃ a' c', e = .returned (.slice a' N c') ∧ Lo 51 w' W.heap.size (.slice a' N c') A ∧ Kept (fun _ => True) W w' := fun W a c hv => by
    have := rmake_any (cap := c) hv (by omega) (fun t ht => by have := sT t ht; omega)
    rwa [← hA, lA, hN] at this
  obtain ⟨bs, hbs⟩ : ∃ bs, bs = encL A := ⟨_, rfl⟩
  obtain ⟨E, hE⟩ : ∃ E, bs.length = E := ⟨_, rfl⟩
  have hE4 : 4 ≤ E := by rw [← hE, hbs, encL_len]; omega
  have hE8 : E ≤ 820 := by rw [← hE, hbs, encL_len]; omega
  have HE : Hid (bs.length = E) := hE
  have LA : Hid (A.length = N) := lA
  have SA : Hid (∀ x ∈ A, x.t.length ≤ 100) := sA
  have WA : Hid (wgt A ≤ 816) := wA
  have HBS : Hid (encL A = bs) := hbs.symm
  have HB : Hid (Has w a0 b0) := hB
  have H0 : Hid ((a0 = none → cap0 = 0) ∧ b0.length ≤ cap0) := ⟨hn0, hc0⟩
  have HT : Hid (0 ≤ turn ∧ turn < 256) := ht
  have H6 : Hid (N ≤ 6) := hN6
  have HE4 : Hid (4 ≤ E ∧ E ≤ 820) := ⟨hE4, hE8⟩
  clear hA sT hN lT hE lA sA wA hbs hB hn0 hc0 hN6 hE4 hE8 ht
  go_enter Try.func4, Try.ntmps4
  go_wp2_with (first
    | (go_at_call 15; (with_reducible refine Calls.mono CF ?_); rintro e w1 ⟨a1, c1, rfl, ht1, k1⟩; have V1 : Hid (Tv w1 a1 T) := ht1.tv; clear ht1)
    | (go_at_call 8; (with_reducible refine Calls.mono (CM w1 a1 c1 V1.out) ?_); rintro e w2 ⟨a2, c2, rfl, h2, k2⟩; have H2 : Hid (Lo 27 w2 w1.heap.size (.slice a2 N c2) A) := h2; clear h2)
    | (go_at_call 16; (with_reducible refine Calls.mono (CMR w2 a1 c1 (V1.out.all k2)) ?_); rintro e w3 ⟨a3, c3, rfl, h3, k3⟩; have H3 : Hid (Lo 51 w3 w2.heap.size (.slice a3 N c3) A) := h3; clear h3))
  have VA : Hid (Lv w3 a2 A) := (H2.out.all k3).view
  have VR : Hid (Lv w3 a3 A) := H3.out.view
  have NA : Hid ((a2 = none → c2 = 0) ∧ N ≤ c2) := by
    obtain ⟨_, _, e0, h1, _, h2⟩ := H2.out.shape
    rw [LA.out] at h1
    injection e0 with e1 e2 e3
    subst e1 e3
    exact ⟨h2, h1⟩
  have NR : Hid (N ≤ c3) := by
    obtain ⟨_, _, e0, h1, _⟩ := H3.out.shape
    rw [LA.out] at h1
    injection e0 with e1 e2 e3
    subst e3
    exact h1
  have KW : Hid (Kept (fun _ => True) w w3) := k1.trans (k2.trans k3)
  have CE : ∀ W, Kept (fun _ => True) w3 W → Calls Try.prog 10 #[.slice a2 N c2] W fun e w' => ∃ D, e = .returned (.slice (some ⟨D, 0, none⟩) E E) ∧ w'.heap[D]? = some (.cells (cells bs).toArray 5 (0, 0)) ∧ Kept (fun _ => True) W w' ∧ W.heap.size ≤ D := fun W k => by
    have := encode_any (cap := c2) (VA.out.all k) (by rw [LA.out]; have := H6.out; omega) (by have := WA.out; omega)
    unfold EEnc at this
    rwa [LA.out, HBS.out, HE.out] at this
  have CR : ∀ W, Kept (fun _ => True) w3 W → Calls Try.prog 17 #[.slice a3 N c3] W fun e w' => ∃ a' c', e = .returned (.slice a' E c') ∧ Ob w' W.heap.size (.slice a' E c') bs ∧ Kept (fun _ => True) W w' := fun W k => by
    have := rencode_any (cap := c3) (VR.out.all k) (by rw [LA.out]; have := H6.out; omega) (by have := WA.out; omega)
    rwa [LA.out, HBS.out, HE.out] at this
  have CRH : Hid (∀ W, Kept (fun _ => True) w3 W → Calls Try.prog 17 #[.slice a3 N c3] W fun e w' => ∃ a' c', e = .returned (.slice a' E c') ∧ Ob w' W.heap.size (.slice a' E c') bs ∧ Kept (fun _ => True) W w') := CR
  clear CF CM CMR V1 H2 H3 k1 k2 k3
  refine Gz.begin (fun W => Kept (fun _ => True) w3 W) (fun _ => false) (by kernel_rfl) ?_
  refine Gz.take (i := 0) (oi := { dst := some 31, op := Op.move (Operand.tmp 9), type := 22, pos := _, after := _, guard := none }) (v := ?_) rfl (by kernel_rfl) (by kernel_rfl) (by kernel_rfl) (by kernel_rfl) (fun _ _ _ h => h) (Or.inl ⟨by rfl, ?hy0⟩) (Kept.refl _ _).drew ?_
  case hy0 => (intro W hSw; (try dsimp only at hSw); go_simp; try with_reducible rfl)
  try simp only [Act.put, List.setIfInBounds_toArray, List.set_cons_zero, List.set_cons_succ]
  refine Gz.take (i := 1) (oi := { dst := some 32, op := Op.call { callee := Callee.builtin Builtin.len, args := #[Operand.tmp 31], argTypes := #[22] }, type := 3, pos := _, after := _, guard := none }) (v := ?_) rfl (by kernel_rfl) (by kernel_rfl) (by kernel_rfl) (by kernel_rfl) (fun _ _ _ h => h) (Or.inl ⟨by rfl, ?hy1⟩) (Kept.refl _ _).drew ?_
  case hy1 => (intro W hSw; (try dsimp only at hSw); go_simp; try with_reducible rfl)
  try simp only [Act.put, List.setIfInBounds_toArray, List.set_cons_zero, List.set_cons_succ]
  refine Gz.take (i := 2) (oi := { dst := some 33, op := Op.move (Operand.tmp 10), type := 38, pos := _, after := _, guard := none }) (v := ?_) rfl (by kernel_rfl) (by kernel_rfl) (by kernel_rfl) (by kernel_rfl) (fun _ _ _ h => h) (Or.inl ⟨by rfl, ?hy2⟩) (Kept.refl _ _).drew ?_
  case hy2 => (intro W hSw; (try dsimp only at hSw); go_simp; try with_reducible rfl)
  try simp only [Act.put, List.setIfInBounds_toArray, List.set_cons_zero, List.set_cons_succ]
  refine Gz.take (i := 3) (oi := { dst := some 34, op := Op.call { callee := Callee.builtin Builtin.len, args := #[Operand.tmp 33], argTypes := #[38] }, type := 3, pos := _, after := _, guard := none }) (v := ?_) rfl (by kernel_rfl) (by kernel_rfl) (by kernel_rfl) (by kernel_rfl) (fun _ _ _ h => h) (Or.inl ⟨by rfl, ?hy3⟩) (Kept.refl _ _).drew ?_
  case hy3 => (intro W hSw; (try dsimp only at hSw); go_simp; try with_reducible rfl)
  try simp only [Act.put, List.setIfInBounds_toArray, List.set_cons_zero, List.set_cons_succ]
  refine Gz.take (i := 4) (oi := { dst := some 35, op := Op.binOp BinOp.neq 3 (Operand.tmp 32) (Operand.tmp 34) 3, type := 4, pos := _, after := _, guard := none }) (v := ?_) rfl (by kernel_rfl) (by kernel_rfl) (by kernel_rfl) (by kernel_rfl) (fun _ _ _ h => h) (Or.inl ⟨by rfl, ?hy4⟩) (Kept.refl _ _).drew ?_
  case hy4 => (intro W hSw; (try dsimp only at hSw); go_simp; try with_reducible rfl)
  try simp only [Act.put, List.setIfInBounds_toArray, List.set_cons_zero, List.set_cons_succ]
  refine Gz.take (i := 5) (oi := { dst := some 36, op := Op.move (Operand.tmp 35), type := 4, pos := _, after := _, guard := none }) (v := ?_) rfl (by kernel_rfl) (by kernel_rfl) (by kernel_rfl) (by kernel_rfl) (fun _ _ _ h => h) (Or.inl ⟨by rfl, ?hy5⟩) (Kept.refl _ _).drew ?_
  case hy5 => (intro W hSw; (try dsimp only at hSw); go_simp; try with_reducible rfl)
  try simp only [Act.put, List.setIfInBounds_toArray, List.set_cons_zero, List.set_cons_succ]
  refine Gz.take (i := 6) (oi := { dst := some 37, op := Op.move (Operand.tmp 9), type := 22, pos := _, after := _, guard := some (5, false) }) (v := ?_) rfl (by kernel_rfl) (by kernel_rfl) (by kernel_rfl) (by kernel_rfl) (fun _ _ _ h => h) (Or.inl ⟨by rfl, ?hy6⟩) (Kept.refl _ _).drew ?_
  case hy6 => (intro W hSw; (try dsimp only at hSw); go_simp; try with_reducible rfl)
  try simp only [Act.put, List.setIfInBounds_toArray, List.set_cons_zero, List.set_cons_succ]
  refine Gz.take (i := 9) (oi := { dst := some 40, op := Op.move (Operand.tmp 10), type := 38, pos := _, after := _, guard := some (5, false) }) (v := ?_) rfl (by kernel_rfl) (by kernel_rfl) (by kernel_rfl) (by kernel_rfl) (fun _ _ _ h => h) (Or.inl ⟨by rfl, ?hy9⟩) (Kept.refl _ _).drew ?_
  case hy9 => (intro W hSw; (try dsimp only at hSw); go_simp; try with_reducible rfl)
  try simp only [Act.put, List.setIfInBounds_toArray, List.set_cons_zero, List.set_cons_succ]
  refine Gz.one (i := 7) (o := { dst := some 38, op := Op.call { callee := Callee.value (Operand.func 10), args := #[Operand.tmp 37], argTypes := #[22] }, type := 31, pos := _, after := _, guard := some (5, false) }) (by kernel_rfl) rfl (fun K hK => ?_)
  go_simp
  with_reducible refine Calls.mono (CE w3.drew (Kept.refl _ _).drew) ?_
  rintro e w4 ⟨D1, rfl, h4, k4, _⟩
  have s4 : Kept (fun _ => True) w3 w4 := (Kept.refl _ _).drew.trans k4
  have cv1 : ∀ W, Kept (fun _ => True) w4 W → (convert 31 9 (.slice (some ⟨D1, 0, none⟩) E E)).run Try.prog W = .ok (.string ⟨bs.toArray⟩) W := fun W hW => (by have := conv_row (cap := E) (blk_kept h4 hW); rw [HE.out] at this; exact this)
  clear h4 k4
  try go_wp2_with fail
  refine hK.out _ _ (fun _ => s4) ?_
  clear hK K
  try simp only [Act.put, List.setIfInBounds_toArray, List.set_cons_zero, List.set_cons_succ]
  refine Gz.to (S' := fun W => Kept (fun _ => True) w4 W) (fun W q => s4.trans q) _ _ _ _ ?_
  refine Gz.take (i := 8) (oi := { dst := some 39, op := Op.convert 31 9 (Operand.tmp 38), type := 9, pos := _, after := _, guard := some (5, false) }) (v := ?_) rfl (by kernel_rfl) (by kernel_rfl) (by kernel_rfl) (by kernel_rfl) (fun _ _ _ h => h) (Or.inl ⟨by rfl, ?hy8⟩) (Kept.refl _ _) ?_
  case hy8 => (intro W hSw; (try dsimp only at hSw); go_simp; try with_reducible rfl)
  try simp only [Act.put, List.setIfInBounds_toArray, List.set_cons_zero, List.set_cons_succ]
  refine Gz.one (i := 10) (o := { dst := some 41, op := Op.call { callee := Callee.value (Operand.func 17), args := #[Operand.tmp 40], argTypes := #[38] }, type := 31, pos := _, after := _, guard := some (5, false) }) (by kernel_rfl) rfl (fun K hK => ?_)
  go_simp
  with_reducible refine Calls.mono (CR w4 s4) ?_
  rintro e w6 ⟨a5, c5, rfl, h5, k5⟩
  have cv2 : ∀ W, Kept (fun _ => True) w6 W → (convert 31 9 (.slice a5 E c5)).run Try.prog W = .ok (.string ⟨bs.toArray⟩) W := fun W hW => (by have := conv_own (h5.all hW); exact this)
  clear h5
  try go_wp2_with fail
  refine hK.out _ _ (fun _ => k5) ?_
  clear hK K
  try simp only [Act.put, List.setIfInBounds_toArray, List.set_cons_zero, List.set_cons_succ]
  refine Gz.to (S' := fun W => Kept (fun _ => True) w6 W) (fun W q => k5.trans q) _ _ _ _ ?_
  refine Gz.take (i := 11) (oi := { dst := some 42, op := Op.convert 31 9 (Operand.tmp 41), type := 9, pos := _, after := _, guard := some (5, false) }) (v := ?_) rfl (by kernel_rfl) (by kernel_rfl) (by kernel_rfl) (by kernel_rfl) (fun _ _ _ h => h) (Or.inl ⟨by rfl, ?hy11⟩) (Kept.refl _ _) ?_
  case hy11 => (intro W hSw; (try dsimp only at hSw); go_simp; try with_reducible rfl)
  try simp only [Act.put, List.setIfInBounds_toArray, List.set_cons_zero, List.set_cons_succ]
  refine Gz.take (i := 12) (oi := { dst := some 43, op := Op.binOp BinOp.neq 9 (Operand.tmp 39) (Operand.tmp 42) 9, type := 4, pos := _, after := _, guard := some (5, false) }) (v := ?_) rfl (by kernel_rfl) (by kernel_rfl) (by kernel_rfl) (by kernel_rfl) (fun _ _ _ h => h) (Or.inl ⟨by rfl, ?hy12⟩) (Kept.refl _ _) ?_
  case hy12 => (intro W hSw; (try dsimp only at hSw); go_simp; try with_reducible rfl)
  try simp only [Act.put, List.setIfInBounds_toArray, List.set_cons_zero, List.set_cons_succ]
  refine Gz.take (i := 13) (oi := { dst := some 44, op := Op.pick (Operand.tmp 36) (Operand.const (Value.bool true)) (Operand.tmp 43), type := 4, pos := _, after := _, guard := none }) (v := ?_) rfl (by kernel_rfl) (by kernel_rfl) (by kernel_rfl) (by kernel_rfl) (fun _ _ _ h => h) (Or.inl ⟨by rfl, ?hy13⟩) (Kept.refl _ _) ?_
  case hy13 => (intro W hSw; (try dsimp only at hSw); go_simp; try with_reducible rfl)
  try simp only [Act.put, List.setIfInBounds_toArray, List.set_cons_zero, List.set_cons_succ]
  refine Gz.done (by kernel_rfl) ?_ _
  have K6 : Hid (Kept (fun _ => True) w3 w6) := s4.trans k5
  clear CE CR cv1 cv2 s4 k5 HBS WA
  go_upto_if 50 with (at_builtin; refine wpList_append_links linkP rfl (.tmp 45) (.tmp 46) rfl w6.heap.size (.slice (some ⟨w6.heap.size, 0, none⟩) 0 0) [] rfl (lo_new _ w6 _ (Nat.le_refl _)) (by simp) a2 N c2 A LA.out rfl NA.out.1 (VA.out.all ((K6.out).alloc _)) (by simp only [List.length_nil, LA.out]; have := H6.out; omega) N (by simp only [List.length_nil, Nat.zero_add]) ?_; intro a7 c7 w7 ho7 hg7 hl7; rw [List.nil_append] at ho7; have H7 : Hid (Lo 27 w7 w6.heap.size (.slice a7 N c7) A) := ho7; have K7 : Hid (Kept (fun _ => True) w6 w7) := ((Kept.refl _ _).alloc _).grown hg7 (fun i hi e => by simp [Value.ownBlock] at e; omega); clear ho7 hg7 hl7)
  go_cut [12] from 48 to 69 (fun t wx => ∃ C : List Li, C.length = N ∧ (∀ x ∈ C, x.t.length ≤ 100) ∧ Lo 27 wx w6.heap.size (.slice a7 N c7) C ∧ Kept (fun _ => True) w6 wx)
  case first =>
    by_cases h0 : N = 0
    · have hN0 : ¬ (0 : Int) < (N : Int) := by omega
      have hN0' : ¬ (N : Int) > 0 := by omega
      clear h0
      go_wp2_with fail
      go_meet
      exact ⟨A, LA.out, SA.out, H7.out, K7.out⟩
    · obtain ⟨n, hn⟩ : ∃ n, N = n + 1 := ⟨N - 1, by omega⟩
      have hN0 : (0 : Int) < (N : Int) := by omega
      have hNn : (N : Int) - 1 = (n : Int) := by omega
      have hn6 : n ≤ 5 := by have := H6.out; omega
      have HNn : Hid (N = n + 1) := hn
      obtain ⟨g7, rfl, hg7, hl7, hc7⟩ := H7.out.some3 (by omega)
      clear h0 hn
      have cw := within_any (w := w7) at_ n (by omega)
      go_wp2_with (go_at_call 18; (with_reducible refine Calls.mono cw ?_); rintro e w8 ⟨⟨k, hk0, rfl⟩, hw⟩; obtain rfl : w7 = w8 := hw.symm; have k1 : (k : Int) < (N : Int) := (by omega); have k0 : (0 : Int) ≤ (k : Int) := (by omega))
      clear cw
      have hk : k < A.length := by rw [LA.out]; have := HNn.out; omega
      refine Gz.begin (fun W => Kept (fun _ => True) w7 W) (fun i => decide (i = 14)) (by kernel_rfl) ?_
      refine Gz.takeT (i := 0) (oi := { dst := some 56, op := Op.move (Operand.tmp 11), type := 22, pos := _, after := _, guard := none }) (v := ?_) rfl (by kernel_rfl) (by kernel_rfl) (by kernel_rfl) (by kernel_rfl) (fun _ _ _ h => h) (Or.inl ⟨by rfl, ?hy0⟩) (Kept.refl _ _).drew ?_
      case hy0 => (intro W hSw; (try dsimp only at hSw); go_simp; try with_reducible rfl)
      try simp only [Act.put, List.setIfInBounds_toArray, List.set_cons_zero, List.set_cons_succ]
      refine Gz.takeT (i := 1) (oi := { dst := some 57, op := Op.move (Operand.tmp 12), type := 3, pos := _, after := _, guard := none }) (v := ?_) rfl (by kernel_rfl) (by kernel_rfl) (by kernel_rfl) (by kernel_rfl) (fun _ _ _ h => h) (Or.inl ⟨by rfl, ?hy1⟩) (Kept.refl _ _).drew ?_
      case hy1 => (intro W hSw; (try dsimp only at hSw); go_simp; try with_reducible rfl)
      try simp only [Act.put, List.setIfInBounds_toArray, List.set_cons_zero, List.set_cons_succ]
      refine Gz.takeT (i := 2) (oi := { dst := some 58, op := Op.move (Operand.tmp 1), type := 3, pos := _, after := _, guard := none }) (v := ?_) rfl (by kernel_rfl) (by kernel_rfl) (by kernel_rfl) (by kernel_rfl) (fun _ _ _ h => h) (Or.inl ⟨by rfl, ?hy2⟩) (Kept.refl _ _).drew ?_
      case hy2 => (intro W hSw; (try dsimp only at hSw); go_simp; try with_reducible rfl)
      try simp only [Act.put, List.setIfInBounds_toArray, List.set_cons_zero, List.set_cons_succ]
      refine Gz.takeT (i := 3) (oi := { dst := some 59, op := Op.binOp BinOp.quo 3 (Operand.tmp 58) (Operand.const (Value.int IntKind.i64 7)) 3, type := 3, pos := _, after := _, guard := none }) (v := ?_) rfl (by kernel_rfl) (by kernel_rfl) (by kernel_rfl) (by kernel_rfl) (fun _ _ _ h => h) (Or.inl ⟨by rfl, ?hy3⟩) (Kept.refl _ _).drew ?_
      case hy3 => (intro W hSw; (try dsimp only at hSw); go_simp; try with_reducible rfl)
      try simp only [Act.put, List.setIfInBounds_toArray, List.set_cons_zero, List.set_cons_succ]
      refine Gz.takeT (i := 5) (oi := { dst := some 61, op := Op.indexAddr 22 (Operand.tmp 56) (Operand.tmp 57), type := 0, pos := _, after := _, guard := none }) (v := ?_) rfl (by kernel_rfl) (by kernel_rfl) (by kernel_rfl) (by kernel_rfl) (fun _ _ _ h => h) (Or.inl ⟨by rfl, ?hy5⟩) (Kept.refl _ _).drew ?_
      case hy5 => (intro W hSw; (try dsimp only at hSw); go_simp; try with_reducible rfl)
      try simp only [Act.put, List.setIfInBounds_toArray, List.set_cons_zero, List.set_cons_succ]
      refine Gz.takeT (i := 6) (oi := { dst := some 62, op := Op.fieldAddr 27 (Operand.tmp 61) 1, type := 0, pos := _, after := _, guard := none }) (v := ?_) rfl (by kernel_rfl) (by kernel_rfl) (by kernel_rfl) (by kernel_rfl) (fun _ _ _ h => h) (Or.inl ⟨by rfl, ?hy6⟩) (Kept.refl _ _).drew ?_
      case hy6 => (intro W hSw; (try dsimp only at hSw); go_simp; try with_reducible rfl)
      try simp only [Act.put, List.setIfInBounds_toArray, List.set_cons_zero, List.set_cons_succ]
      refine Gz.takeT (i := 9) (oi := { dst := some 65, op := Op.move (Operand.tmp 2), type := 5, pos := _, after := _, guard := none }) (v := ?_) rfl (by kernel_rfl) (by kernel_rfl) (by kernel_rfl) (by kernel_rfl) (fun _ _ _ h => h) (Or.inl ⟨by rfl, ?hy9⟩) (Kept.refl _ _).drew ?_
      case hy9 => (intro W hSw; (try dsimp only at hSw); go_simp; try with_reducible rfl)
      try simp only [Act.put, List.setIfInBounds_toArray, List.set_cons_zero, List.set_cons_succ]
      refine Gz.takeT (i := 11) (oi := { dst := some 67, op := Op.indexAddr 22 (Operand.tmp 56) (Operand.tmp 57), type := 0, pos := _, after := _, guard := none }) (v := ?_) rfl (by kernel_rfl) (by kernel_rfl) (by kernel_rfl) (by kernel_rfl) (fun _ _ _ h => h) (Or.inl ⟨by rfl, ?hy11⟩) (Kept.refl _ _).drew ?_
      case hy11 => (intro W hSw; (try dsimp only at hSw); go_simp; try with_reducible rfl)
      try simp only [Act.put, List.setIfInBounds_toArray, List.set_cons_zero, List.set_cons_succ]
      refine Gz.takeT (i := 12) (oi := { dst := some 68, op := Op.fieldAddr 27 (Operand.tmp 67) 1, type := 0, pos := _, after := _, guard := none }) (v := ?_) rfl (by kernel_rfl) (by kernel_rfl) (by kernel_rfl) (by kernel_rfl) (fun _ _ _ h => h) (Or.inl ⟨by rfl, ?hy12⟩) (Kept.refl _ _).drew ?_
      case hy12 => (intro W hSw; (try dsimp only at hSw); go_simp; try with_reducible rfl)
      try simp only [Act.put, List.setIfInBounds_toArray, List.set_cons_zero, List.set_cons_succ]
      refine Gz.one (i := 4) (o := { dst := some 60, op := Op.call { callee := Callee.value (Operand.func 18), args := #[Operand.tmp 59, Operand.const (Value.int IntKind.i64 0), Operand.const (Value.int IntKind.i64 31)], argTypes := #[3, 3, 3] }, type := 3, pos := _, after := _, guard := none }) (by kernel_rfl) rfl (fun K hK => ?_)
      go_simp
      with_reducible refine Calls.mono (within_any (w := w7.drew) _ 31 (by decide)) ?_
      rintro e w8 ⟨⟨j, hj, rfl⟩, rfl⟩
      obtain ⟨y, hy⟩ := xorc (A[k].h[j]'(by rw [A[k].len]; omega)) turn HT.out
      have j1 : (j : Int) < 32 := (by omega)
      have j0 : (0 : Int) ≤ (j : Int) := (by omega)
      have cz : ∀ W, Kept (fun _ => True) w7 W → W.cell? ⟨g7, k * 33 + 1 + j, none⟩ = some (.int .u8 (A[k].h[j]'(by rw [A[k].len]; omega)).toNat) := fun W hW => lo_byte (H7.out.all hW) k hk j (by omega)
      have cz7 := cz w7 (Kept.refl _ _)
      have fz : w7.frozen? ⟨g7, k * 33 + 1 + j, none⟩ = false := lo_free H7.out _
      have hset := fun (X : World) (hX : Lo 27 X w6.heap.size (.slice (some ⟨g7, 0, none⟩) N c7) A) => lo_trn hX k hk j (by omega) y
      try go_wp2_with fail
      refine hK.out _ _ (fun _ => (Kept.refl _ _).drew) ?_
      clear hK K
      try simp only [Act.put, List.setIfInBounds_toArray, List.set_cons_zero, List.set_cons_succ]
      refine Gz.takeT (i := 7) (oi := { dst := some 63, op := Op.indexAddr 25 (Operand.tmp 62) (Operand.tmp 60), type := 0, pos := _, after := _, guard := none }) (v := ?_) rfl (by kernel_rfl) (by kernel_rfl) (by kernel_rfl) (by kernel_rfl) (fun _ _ _ h => h) (Or.inl ⟨by rfl, ?hy7⟩) (Kept.refl _ _).drew ?_
      case hy7 => (intro W hSw; (try dsimp only at hSw); go_simp; try with_reducible rfl)
      try simp only [Act.put, List.setIfInBounds_toArray, List.set_cons_zero, List.set_cons_succ]
      refine Gz.takeT (i := 8) (oi := { dst := some 64, op := Op.load 5 (Operand.tmp 63), type := 5, pos := _, after := _, guard := none }) (v := ?_) rfl (by kernel_rfl) (by kernel_rfl) (by kernel_rfl) (by kernel_rfl) (fun _ _ _ h => h) (Or.inl ⟨by rfl, ?hy8⟩) (Kept.refl _ _).drew ?_
      case hy8 => (intro W hSw; (try dsimp only at hSw); go_simp; try with_reducible rfl)
      try simp only [Act.put, List.setIfInBounds_toArray, List.set_cons_zero, List.set_cons_succ]
      refine Gz.takeT (i := 10) (oi := { dst := some 66, op := Op.binOp BinOp.xor 5 (Operand.tmp 64) (Operand.tmp 65) 5, type := 5, pos := _, after := _, guard := none }) (v := ?_) rfl (by kernel_rfl) (by kernel_rfl) (by kernel_rfl) (by kernel_rfl) (fun _ _ _ h => h) (Or.inl ⟨by rfl, ?hy10⟩) (Kept.refl _ _).drew ?_
      case hy10 => (intro W hSw; (try dsimp only at hSw); go_simp; try with_reducible rfl)
      try simp only [Act.put, List.setIfInBounds_toArray, List.set_cons_zero, List.set_cons_succ]
      refine Gz.takeT (i := 13) (oi := { dst := some 69, op := Op.indexAddr 25 (Operand.tmp 68) (Operand.tmp 60), type := 0, pos := _, after := _, guard := none }) (v := ?_) rfl (by kernel_rfl) (by kernel_rfl) (by kernel_rfl) (by kernel_rfl) (fun _ _ _ h => h) (Or.inl ⟨by rfl, ?hy13⟩) (Kept.refl _ _).drew ?_
      case hy13 => (intro W hSw; (try dsimp only at hSw); go_simp; try with_reducible rfl)
      try simp only [Act.put, List.setIfInBounds_toArray, List.set_cons_zero, List.set_cons_succ]
      refine Gz.one (i := 14) (o := { dst := none, op := Op.store 5 (Operand.tmp 69) (Operand.tmp 66), type := 0, pos := _, after := _, guard := none }) (by kernel_rfl) rfl (fun K hK => ?_)
      go_simp
      refine hK.out _ _ (fun hEarly => by cases hEarly) ?_
      clear hK K
      try simp only [Act.put, List.setIfInBounds_toArray, List.set_cons_zero, List.set_cons_succ]
      refine Gz.done (by kernel_rfl) ?_ _
      go_wp2_with fail
      go_meet
      exact ⟨_, by rw [List.length_set]; exact LA.out, trn_short k hk j y SA.out, hset _ H7.out, (K7.out.then ((Kept.refl (· ≠ g7) _).setCell (by simp) _) (fun i hi _ => by omega)).drew⟩
  case rest =>
  obtain ⟨C, lC, sC, hC, kC⟩ := hcut
  have LC : Hid (C.length = N) := lC
  have SC : Hid (∀ x ∈ C, x.t.length ≤ 100) := sC
  have VC : Hid (Lv wc a7 C) := hC.view
  have NC : Hid (N ≤ c7) := by
    obtain ⟨_, _, e0, h1, _⟩ := hC.shape
    rw [lC] at h1
    injection e0 with e1 e2 e3
    subst e3
    exact h1
  have KC : Hid (Kept (fun _ => True) w3 wc) := K6.out.trans kC
  clear lC sC hC kC K6 K7 H7
  have CR := CRH.out wc KC.out
  clear CRH
  obtain ⟨E1, hE1⟩ : ∃ E1, E = E1 + 1 := ⟨E - 1, by have := HE4.out; omega⟩
  have hEe : (E : Int) - 1 = (E1 : Int) := by omega
  have hEl : E1 ≤ 1000 := by have := HE4.out; omega
  have HE1 : Hid (E = E1 + 1) := hE1
  clear hE1
  go_upto_if 88 with (first
    | (go_at_call 17; (with_reducible refine Calls.mono CR ?_); rintro e w9 ⟨a9, c9, rfl, h9, k9⟩; obtain ⟨g9, cc9, e9, l9, u9⟩ := World.ownsRow.form h9 (by rw [HE.out]; have := HE1.out; omega); (injection e9 with e91 e92 e93); subst e91 e93; have hg9 := (World.ownsRow.lt h9 _ rfl); have lE9 : E ≤ c9 := (by have := ob_cap h9; rwa [HE.out] at this); have H9 : Hid (Ob w9 wc.heap.size (.slice (some ⟨g9, 0, none⟩) E c9) bs) := h9; clear h9 u9 e92)
    | (go_at_call 18; (with_reducible refine Calls.mono (within_any (w := w9) at_ E1 (by omega)) ?_); rintro e w10 ⟨⟨q, hq0, rfl⟩, hw⟩; obtain rfl : w9 = w10 := hw.symm; have q1 : (q : Int) < (E : Int) := (by have := HE1.out; omega); have q0 : (0 : Int) ≤ (q : Int) := (by omega); have hqb : q < bs.length := (by rw [HE.out]; have := HE1.out; omega); obtain ⟨y, hy⟩ := xorc (bs[q]) turn HT.out; have cq := ob_byte H9.out q hqb; have fq : w9.frozen? ⟨g9, q, none⟩ = false := ob_free H9.out q))
  have H10 : Hid (Ob (w9.setCell ⟨g9, q, none⟩ (.int .u8 y.toNat)) wc.heap.size (.slice (some ⟨g9, 0, none⟩) E c9) (bs.set q y)) := ob_set H9.out q y
  have K10 : Hid (Kept (fun _ => True) wc (w9.setCell ⟨g9, q, none⟩ (.int .u8 y.toNat))) := k9.then ((Kept.refl (· ≠ g9) _).setCell (by simp) _) (fun i hi _ => by omega)
  have X10 : Hid ((bs.set q y).length = E) := by show _ = _; rw [List.length_set]; exact HE.out
  clear cq fq hy k9 H9 HE HT
  generalize w9.setCell ⟨g9, q, none⟩ (.int .u8 y.toNat) = w10 at *
  generalize bs.set q y = x2 at *
  go_cut [13] from 86 to 91 (fun t wx => ∃ m, m ≤ E ∧ t = .slice (some ⟨g9, 0, none⟩) m c9 ∧ wx = w10)
  case first =>
    have hcu := cut_c (some ⟨g9, 0, none⟩) E c9 q (by omega) (by simp)
    by_cases hm3 : at_.tmod 3 = 0
    · have hm3' : (at_.tmod 3 == 0) = true := by simp [hm3]
      clear hm3
      go_wp2_with fail
      go_meet
      exact ⟨q, by omega, rfl, rfl⟩
    · have hm3' : (at_.tmod 3 == 0) = false := by simp [hm3]
      clear hm3
      go_wp2_with fail
      go_meet
      exact ⟨E, by omega, rfl, rfl⟩
  case rest =>
  obtain ⟨m, hm, rfl, hw11⟩ := hcut
  obtain ⟨w11, hw⟩ : ∃ x, x = w10 := ⟨_, rfl⟩
  subst hw11
  rw [← hw] at K10 H10 ⊢
  clear hw
  obtain ⟨X, hX⟩ : ∃ X, X = x2.take m := ⟨_, rfl⟩
  have LX : Hid (X.length = m) := by show _ = _; rw [hX, List.length_take, X10.out]; omega
  have HX : Hid (Has w11 (some ⟨g9, 0, none⟩) X) := by rw [hX]; exact has_take (ob_has H10.out) m
  clear hX X10 H10
  have K11 : Hid (Kept (fun _ => True) w3 w11) := KC.out.trans K10.out
  have VA2 : Hid (Lv w11 a2 A) := VA.out.all K11.out
  have VR2 : Hid (Lv w11 a3 A) := VR.out.all K11.out
  have VC2 : Hid (Lv w11 a7 C) := VC.out.all K10.out
  have hN9 := H6.out
  have CC : ∀ W, Kept (fun _ => True) w11 W → Calls Try.prog 11 #[.slice a7 N c7] W fun e w' => EChk C W e w' := fun W k => by
    have := check_any (cap := c7) (VC2.out.all k) (by rw [LC.out]; omega) (fun x hx => by have := SC.out x hx; omega)
    rwa [LC.out] at this
  have CO : ∀ W, Kept (fun _ => True) w11 W → Calls Try.prog 20 #[.slice a7 N c7] W fun e w' => ∃ a' c', e = .returned (.slice a' N c') ∧ Lo 51 w' W.heap.size (.slice a' N c') C ∧ Kept (fun _ => True) W w' := fun W k => by
    have := out_any (cap := c7) (VC2.out.all k) (by rw [LC.out]; omega)
    rwa [LC.out] at this
  have CRC : ∀ (W : World) (a : Option Addr) (c : Nat), Lv W a C → Calls Try.prog 19 #[.slice a N c] W fun e w' => EChk C W e w' := fun W a c hv => by
    have := rcheck_any (cap := c) hv (by rw [LC.out]; omega) (fun x hx => by have := SC.out x hx; omega)
    rwa [LC.out] at this
  have CP : ∀ W, Kept (fun _ => True) w11 W → Calls Try.prog 21 #[.slice a2 N c2, .slice a7 N c7] W fun e w' => ETells (pre A C) W e w' := fun W k => by
    have := prefix_any (c1 := c2) (c2 := c7) (VA2.out.all k) (VC2.out.all k) (by rw [LA.out]; omega) (by rw [LC.out]; omega) (by rw [LA.out]; exact NA.out.2) (by rw [LC.out]; exact NC.out)
    rwa [LC.out, LA.out] at this
  have CRP : ∀ (W : World) (a : Option Addr) (c : Nat), Kept (fun _ => True) w11 W → Lv W a C → Calls Try.prog 22 #[.slice a3 N c3, .slice a N c] W fun e w' => ETells (pre A C) W e w' := fun W a c k hv => by
    have := rprefix_any (c1 := c3) (c2 := c) (VR2.out.all k) hv (by rw [LA.out]; omega) (by rw [LC.out]; omega)
    rwa [LC.out, LA.out] at this
  clear hN9
  go_upto_if 107 with (first
    | (go_at_call 22; (with_reducible refine Calls.mono (CRP w15 a15 c15 s15 V15) ?_); rintro e w16 ⟨tq, rfl, hq, k16⟩; obtain rfl : tp = tq := (by rw [Bool.eq_iff_iff]; exact hp.trans hq.symm); have s16 := s15.trans k16; clear k16 hq)
    | (go_at_call 20; (with_reducible refine Calls.mono (CO w14 s14) ?_); rintro e w15 ⟨a15, c15, rfl, h15, k15⟩; have V15 := h15.view; have s15 := s14.trans k15; clear k15 h15)
    | (go_at_call 21; (with_reducible refine Calls.mono (CP w13 s13) ?_); rintro e w14 ⟨tp, rfl, hp, k14⟩; have s14 := s13.trans k14; clear k14)
    | (go_at_call 19; (with_reducible refine Calls.mono (CRC w12b a12 c12 V12) ?_); rintro e w13 ⟨np, rfl, hnp, k13⟩; obtain rfl := hnk.one hnp; have s13 := s12b.trans k13; clear k13)
    | (go_at_call 20; (with_reducible refine Calls.mono (CO w12 s12) ?_); rintro e w12b ⟨a12, c12, rfl, h12, k12b⟩; have V12 := h12.view; have s12b := s12.trans k12b; clear k12b h12)
    | (go_at_call 11; (with_reducible refine Calls.mono (CC w11 (Kept.refl _ _)) ?_); rintro e w12 ⟨nk, rfl, hnk, s12⟩))
  have K16 : Hid (Kept (fun _ => True) w3 w16) := K11.out.trans s16
  have HX16 : Hid (Has w16 (some ⟨g9, 0, none⟩) X) := HX.out.kept s16 (fun _ _ => trivial)
  have KW16 : Hid (Kept (fun _ => True) w w16) := KW.out.trans K16.out
  have HB16 : Hid (Has w16 a0 b0) := HB.out.kept KW16.out (fun _ _ => trivial)
  have HM : Hid (m ≤ E ∧ E ≤ c9 ∧ E ≤ 820) := ⟨hm, lE9, HE4.out.2⟩
  clear CC CO CRC CP CRP hnk hnp hp V12 V15 s12 s12b s13 s14 s15 s16 VA2 VR2 VC2 K11 K10 KC VC VR VA KW HX HB K16 hg9 lE9 LA SA LC SC
  obtain ⟨B, hB6, hBv, hBc, hsB⟩ : ∃ B : List UInt8, B.length ≤ 820 ∧ Hid (Has w16 a0 B) ∧ Hid ((a0 = none → cap0 = 0) ∧ B.length ≤ cap0) ∧ (((600 : Int) < (b0.length : Int) ∧ ∀ w0, (Instr.slice 31 (.slice a0 b0.length cap0) none (some (.int .i64 600)) none).run Try.prog w0 = .ok (.slice a0 B.length cap0) w0) ∨ (¬ (600 : Int) < (b0.length : Int) ∧ B = b0)) := by
    by_cases h : 600 < b0.length
    · have e : (b0.take 600).length = 600 := by rw [List.length_take]; omega
      exact ⟨b0.take 600, by omega, has_take HB16.out 600, ⟨H0.out.1, by have := H0.out.2; omega⟩, .inl ⟨by omega, fun w0 => by rw [e]; exact cut_c a0 b0.length cap0 600 (by have := H0.out.2; omega) H0.out.1 w0⟩⟩
    · exact ⟨b0, by omega, HB16.out, H0.out, .inr ⟨by omega, rfl⟩⟩
  go_upto_if 110 with fail
  go_cut [3] from 108 to 112 (fun t wx => t = .slice a0 B.length cap0 ∧ w16 = wx)
  case first =>
    rcases hsB with ⟨g, hs⟩ | ⟨g, rfl⟩
    all_goals (go_wp2_with fail; go_meet; exact ⟨rfl, rfl⟩)
  case rest =>
  obtain ⟨rfl, hwc⟩ := hcut
  subst hwc
  have HB6 : Hid (B.length ≤ 820) := hB6
  clear hsB HB16 hB6 H0
  go_wp2_with fail
  have k17 : Kept (fun _ => True) w16 (w16.alloc (.cells #[.slice (some ⟨g9, 0, none⟩) m c9, .slice a0 B.length cap0] 31)) := (Kept.refl _ _).alloc _
  have h17 := heap_alloc_new w16 (.cells #[.slice (some ⟨g9, 0, none⟩) m c9, .slice a0 B.length cap0] 31)
  have HX17 : Hid (Has _ (some ⟨g9, 0, none⟩) X) := HX16.out.kept k17 (fun _ _ => trivial)
  have HB17 : Hid (Has _ a0 B) := hBv.out.kept k17 (fun _ _ => trivial)
  have KW17 : Hid (Kept (fun _ => True) w _) := KW16.out.trans k17
  have C17 := two_c h17
  have L17 := lt_of_block h17
  clear k17 h17 HX16 hBv KW16
  generalize w16.alloc (.cells #[.slice (some ⟨g9, 0, none⟩) m c9, .slice a0 B.length cap0] 31) = w17 at *
  generalize w16.heap.size = S0 at *
  have HC17 : Hid (w17.cell? ⟨S0, 0, none⟩ = some (.slice (some ⟨g9, 0, none⟩) m c9) ∧ w17.cell? ⟨S0, 1, none⟩ = some (.slice a0 B.length cap0)) := C17
  have HL17 : Hid (S0 < w17.heap.size) := L17
  clear C17 L17
  go_loopw [117] (fun t wr => ∃ i : Nat, i ≤ 2 ∧ t = .int .i64 i ∧ Kept (fun _ => True) w17 wr) (fun t _ => 2 - (intOf t).toNat)
  case atStart => exact ⟨0, by omega, rfl, Kept.refl _ _⟩
  case round =>
    obtain ⟨i, hi, rfl, ki⟩ := hrel
    have KI : Hid (Kept (fun _ => True) w17 wr) := ki
    have hcases : i = 2 ∨ (i < 2 ∧ ∃ (Y : List UInt8) (aY : Option Addr) (cY : Nat), wr.cell? ⟨S0, i, none⟩ = some (.slice aY Y.length cY) ∧ Hid (Has wr aY Y) ∧ Hid ((aY = none → cY = 0) ∧ Y.length ≤ cY) ∧ Y.length ≤ 820) := by
      have h3 : i = 0 ∨ i = 1 ∨ i = 2 := by omega
      rcases h3 with h | h | h
      · refine .inr ⟨by omega, X, some ⟨g9, 0, none⟩, c9, ?_, HX17.out.kept ki (fun _ _ => trivial), ⟨by simp, by rw [LX.out]; have := HM.out; omega⟩, by rw [LX.out]; have := HM.out; omega⟩
        rw [h, LX.out]
        exact (kept_cell ki HL17.out trivial).trans HC17.out.1
      · refine .inr ⟨by omega, B, a0, cap0, ?_, HB17.out.kept ki (fun _ _ => trivial), hBc.out, HB6.out⟩
        rw [h]
        exact (kept_cell ki HL17.out trivial).trans HC17.out.2
      · exact .inl h
    clear ki hi
    rcases hcases with rfl | ⟨i2, Y, aY, cY, ci, HY, HYc, hY8⟩
    · have i2 : ¬ ((2 : Nat) : Int) < 2 := by omega
      go_wp2_with (go_at_call 14; (with_reducible refine Calls.mono (known_any _) ?_); rintro e w18 ⟨rfl, k18⟩)
      go_ret
      exact ⟨rfl, KW17.out.trans (KI.out.trans k18)⟩
    · have i0 : (0 : Int) ≤ (i : Int) := by omega
      have i1 : (i : Int) < 2 := by omega
      have cro := roomy_any (cap := cY) HY.out (by omega)
      have HY8 : Hid (Y.length ≤ 820) := hY8
      have I2 : Hid (i < 2) := i2
      have y1 : (0 : Int) ≤ (Y.length : Int) := by omega
      have y2 : (Y.length : Int) ≤ (Y.length : Int) + 80 := by omega
      clear hY8 HX17 HB17 HC17 HL17 hBc HM HB6
      go_wp2_with (first
        | (go_at_call 23; (with_reducible refine Calls.mono cro ?_); rintro e w20 ⟨R, rfl, ho20, k20⟩; have HO20 : Hid (w20.ownsRow wr.heap.size 5 1 (.slice (some ⟨R, 0, none⟩) (Y.length + 80) (Y.length + 80)) (Y.length + 80) (cells (full Y))) := ho20; have hsl := cut_c (some ⟨R, 0, none⟩) (Y.length + 80) (Y.length + 80) Y.length (by omega) (by simp); have cd := decode_any (cap := Y.length + 80) (full_has ho20) (by have := HY8.out; omega); clear ho20 cro)
        | (go_at_call 9; (with_reducible refine Calls.mono cd ?_); rintro e w21 ⟨xs, y', z', ap, cp, rfl, hd, ho21, k21⟩; have HP : Hid (Lo 27 w21 w20.heap.size (.slice ap xs.length cp) xs) := ho21; clear ho21 cd)
        | (go_at_call 24; (with_reducible refine Calls.mono (rdecode_any (cap := cY) (HY.out.kept (k20.trans k21) (fun _ _ => trivial)) HYc.out.1 HYc.out.2 (by have := HY8.out; omega)) ?_); rintro e w22 ⟨xs2, y2', z2', aq, cq, rfl, hd2, ho22, k22⟩; obtain ⟨e1, e2, e3⟩ := hd.one hd2; subst e1 e2 e3; have HQ : Hid (Lo 51 w22 w21.heap.size (.slice aq xs.length cq) xs) := ho22; clear ho22 hd hd2)
        | (go_at_call 25; (with_reducible refine Calls.mono (intact_any (d := cY) (own_kept HO20.out (k21.trans k22) (fun _ _ => trivial)) (HY.out.kept (k20.trans (k21.trans k22)) (fun _ _ => trivial)) (by have := HY8.out; omega)) ?_); rintro e w23 ⟨rfl, n23, hw23⟩; have k23 : Kept (fun _ => True) w22 w23 := (by rw [hw23]; exact (Kept.refl _ _).drewN _); clear hw23))
      have HP2 : Hid (Lo 27 w23 w20.heap.size (.slice ap xs.length cp) xs) := HP.out.all (k22.trans k23)
      have HQ2 : Hid (Lo 51 w23 w21.heap.size (.slice aq xs.length cq) xs) := HQ.out.all k23
      have K23 : Hid (Kept (fun _ => True) w17 w23) := KI.out.trans (k20.trans (k21.trans (k22.trans k23)))
      have hxm := lo_max HP2.out
      clear HP HQ k20 k21 k22 k23 HO20 hsl KI y1 y2
      generalize w20.heap.size = b20 at *
      generalize w21.heap.size = b21 at *
      obtain ⟨w24, hw24⟩ : ∃ x, x = w23 := ⟨_, rfl⟩
      rw [← hw24] at HP2 HQ2 K23 ⊢
      clear hw24
      go_loopw [24] (fun t wq => ∃ j : Nat, j ≤ xs.length ∧ t = .int .i64 j ∧ Kept (fun _ => True) w24 wq) (fun t _ => xs.length - (intOf t).toNat)
      case atStart => exact ⟨0, Nat.zero_le _, rfl, Kept.refl _ _⟩
      case round =>
        obtain ⟨j, hj, rfl, kj⟩ := hrel
        obtain ⟨wi, hwi⟩ : ∃ x, x = wr := ⟨_, rfl⟩
        rw [← hwi] at kj ⊢
        clear hwi
        by_cases hlt : j < xs.length
        · obtain ⟨gp, rfl, _, hgp0, hcp⟩ := HP2.out.some3 (by omega)
          obtain ⟨gq, rfl, _, hgq0, hcq⟩ := HQ2.out.some3 (by omega)
          have hra : wi.rangeAt gp (j * 33) (lcell xs[j]) := by
            obtain ⟨_, _, e2, _, hv⟩ := (HP2.out.view.all kj).row (by omega)
            injection e2 with e2
            injection e2 with e21 e22 e23
            subst e21 e22
            have h1 := hv j hlt
            rw [Nat.zero_add] at h1
            exact h1
          have hrb : wi.rangeAt gq (j * 33) (lcell xs[j]) := by
            obtain ⟨_, _, e2, _, hv⟩ := (HQ2.out.view.all kj).row (by omega)
            injection e2 with e2
            injection e2 with e21 e22 e23
            subst e21 e22
            have h1 := hv j hlt
            rw [Nat.zero_add] at h1
            exact h1
          have hga := Nat.lt_of_lt_of_le hgp0 kj.size
          have hgb := Nat.lt_of_lt_of_le hgq0 kj.size
          have KJ : Hid (Kept (fun _ => True) w24 wi) := kj
          have JL : Hid (j < xs.length) := hlt
          have hlh := xs[j].len
          unfold lcell at hra hrb
          generalize xs[j].h = hd at *
          generalize xs[j].t = tx at *
          have he := fun (w0 : World) => eq_yes (xs := hd) (ys := hd) hlh rfl w0
          have ihd : (Try.prog.info? 25).map (·.size) = some (cells hd).length := by rw [cells_length, hlh]; exact arr32.size
          have hgd := guard32
          have j0 : (0 : Int) ≤ (j : Int) := by omega
          have j1 : (j : Int) < (xs.length : Int) := by omega
          have ct1 : ∀ W, Kept (fun _ => True) wi W → W.cell? ⟨gp, j * 33, none⟩ = some (.string ⟨tx.toArray⟩) := fun W hW => (kept_cell hW hga trivial).trans (hra 0 _ rfl)
          have ct2 : ∀ W, Kept (fun _ => True) wi W → W.cell? ⟨gq, j * 33, none⟩ = some (.string ⟨tx.toArray⟩) := fun W hW => (kept_cell hW hgb trivial).trans (hrb 0 _ rfl)
          clear hlh kj HP2 HQ2
          go_wp2_with fail
          refine Gz.begin (fun W => Kept (fun _ => True) wi W) (fun _ => false) (by kernel_rfl) ?_
          refine Gz.take (i := 0) (oi := { dst := some 165, op := Op.move (Operand.tmp 18), type := 22, pos := _, after := _, guard := none }) (v := ?_) rfl (by kernel_rfl) (by kernel_rfl) (by kernel_rfl) (by kernel_rfl) (fun _ _ _ h => h) (Or.inl ⟨by rfl, ?hy0⟩) (Kept.refl _ _).drew ?_
          case hy0 => (intro W hSw; (try dsimp only at hSw); go_simp; try with_reducible rfl)
          try simp only [Act.put, List.setIfInBounds_toArray, List.set_cons_zero, List.set_cons_succ]
          refine Gz.take (i := 1) (oi := { dst := some 166, op := Op.move (Operand.tmp 24), type := 3, pos := _, after := _, guard := none }) (v := ?_) rfl (by kernel_rfl) (by kernel_rfl) (by kernel_rfl) (by kernel_rfl) (fun _ _ _ h => h) (Or.inl ⟨by rfl, ?hy1⟩) (Kept.refl _ _).drew ?_
          case hy1 => (intro W hSw; (try dsimp only at hSw); go_simp; try with_reducible rfl)
          try simp only [Act.put, List.setIfInBounds_toArray, List.set_cons_zero, List.set_cons_succ]
          refine Gz.take (i := 2) (oi := { dst := some 167, op := Op.indexAddr 22 (Operand.tmp 165) (Operand.tmp 166), type := 0, pos := _, after := _, guard := none }) (v := ?_) rfl (by kernel_rfl) (by kernel_rfl) (by kernel_rfl) (by kernel_rfl) (fun _ _ _ h => h) (Or.inl ⟨by rfl, ?hy2⟩) (Kept.refl _ _).drew ?_
          case hy2 => (intro W hSw; (try dsimp only at hSw); go_simp; try with_reducible rfl)
          try simp only [Act.put, List.setIfInBounds_toArray, List.set_cons_zero, List.set_cons_succ]
          refine Gz.take (i := 3) (oi := { dst := some 168, op := Op.fieldAddr 27 (Operand.tmp 167) 0, type := 0, pos := _, after := _, guard := none }) (v := ?_) rfl (by kernel_rfl) (by kernel_rfl) (by kernel_rfl) (by kernel_rfl) (fun _ _ _ h => h) (Or.inl ⟨by rfl, ?hy3⟩) (Kept.refl _ _).drew ?_
          case hy3 => (intro W hSw; (try dsimp only at hSw); go_simp; try with_reducible rfl)
          try simp only [Act.put, List.setIfInBounds_toArray, List.set_cons_zero, List.set_cons_succ]
          refine Gz.take (i := 4) (oi := { dst := some 169, op := Op.load 9 (Operand.tmp 168), type := 9, pos := _, after := _, guard := none }) (v := ?_) rfl (by kernel_rfl) (by kernel_rfl) (by kernel_rfl) (by kernel_rfl) (fun _ _ _ h => h) (Or.inl ⟨by rfl, ?hy4⟩) (Kept.refl _ _).drew ?_
          case hy4 => (intro W hSw; (try dsimp only at hSw); go_simp; try with_reducible rfl)
          try simp only [Act.put, List.setIfInBounds_toArray, List.set_cons_zero, List.set_cons_succ]
          refine Gz.take (i := 5) (oi := { dst := some 170, op := Op.move (Operand.tmp 21), type := 38, pos := _, after := _, guard := none }) (v := ?_) rfl (by kernel_rfl) (by kernel_rfl) (by kernel_rfl) (by kernel_rfl) (fun _ _ _ h => h) (Or.inl ⟨by rfl, ?hy5⟩) (Kept.refl _ _).drew ?_
          case hy5 => (intro W hSw; (try dsimp only at hSw); go_simp; try with_reducible rfl)
          try simp only [Act.put, List.setIfInBounds_toArray, List.set_cons_zero, List.set_cons_succ]
          refine Gz.take (i := 6) (oi := { dst := some 171, op := Op.move (Operand.tmp 24), type := 3, pos := _, after := _, guard := none }) (v := ?_) rfl (by kernel_rfl) (by kernel_rfl) (by kernel_rfl) (by kernel_rfl) (fun _ _ _ h => h) (Or.inl ⟨by rfl, ?hy6⟩) (Kept.refl _ _).drew ?_
          case hy6 => (intro W hSw; (try dsimp only at hSw); go_simp; try with_reducible rfl)
          try simp only [Act.put, List.setIfInBounds_toArray, List.set_cons_zero, List.set_cons_succ]
          refine Gz.take (i := 7) (oi := { dst := some 172, op := Op.indexAddr 38 (Operand.tmp 170) (Operand.tmp 171), type := 0, pos := _, after := _, guard := none }) (v := ?_) rfl (by kernel_rfl) (by kernel_rfl) (by kernel_rfl) (by kernel_rfl) (fun _ _ _ h => h) (Or.inl ⟨by rfl, ?hy7⟩) (Kept.refl _ _).drew ?_
          case hy7 => (intro W hSw; (try dsimp only at hSw); go_simp; try with_reducible rfl)
          try simp only [Act.put, List.setIfInBounds_toArray, List.set_cons_zero, List.set_cons_succ]
          refine Gz.take (i := 8) (oi := { dst := some 173, op := Op.fieldAddr 51 (Operand.tmp 172) 0, type := 0, pos := _, after := _, guard := none }) (v := ?_) rfl (by kernel_rfl) (by kernel_rfl) (by kernel_rfl) (by kernel_rfl) (fun _ _ _ h => h) (Or.inl ⟨by rfl, ?hy8⟩) (Kept.refl _ _).drew ?_
          case hy8 => (intro W hSw; (try dsimp only at hSw); go_simp; try with_reducible rfl)
          try simp only [Act.put, List.setIfInBounds_toArray, List.set_cons_zero, List.set_cons_succ]
          refine Gz.take (i := 9) (oi := { dst := some 174, op := Op.load 9 (Operand.tmp 173), type := 9, pos := _, after := _, guard := none }) (v := ?_) rfl (by kernel_rfl) (by kernel_rfl) (by kernel_rfl) (by kernel_rfl) (fun _ _ _ h => h) (Or.inl ⟨by rfl, ?hy9⟩) (Kept.refl _ _).drew ?_
          case hy9 => (intro W hSw; (try dsimp only at hSw); go_simp; try with_reducible rfl)
          try simp only [Act.put, List.setIfInBounds_toArray, List.set_cons_zero, List.set_cons_succ]
          refine Gz.take (i := 10) (oi := { dst := some 175, op := Op.binOp BinOp.neq 9 (Operand.tmp 169) (Operand.tmp 174) 9, type := 4, pos := _, after := _, guard := none }) (v := ?_) rfl (by kernel_rfl) (by kernel_rfl) (by kernel_rfl) (by kernel_rfl) (fun _ _ _ h => h) (Or.inl ⟨by rfl, ?hy10⟩) (Kept.refl _ _).drew ?_
          case hy10 => (intro W hSw; (try dsimp only at hSw); go_simp; try with_reducible rfl)
          try simp only [Act.put, List.setIfInBounds_toArray, List.set_cons_zero, List.set_cons_succ]
          refine Gz.take (i := 11) (oi := { dst := some 176, op := Op.move (Operand.tmp 175), type := 4, pos := _, after := _, guard := none }) (v := ?_) rfl (by kernel_rfl) (by kernel_rfl) (by kernel_rfl) (by kernel_rfl) (fun _ _ _ h => h) (Or.inl ⟨by rfl, ?hy11⟩) (Kept.refl _ _).drew ?_
          case hy11 => (intro W hSw; (try dsimp only at hSw); go_simp; try with_reducible rfl)
          try simp only [Act.put, List.setIfInBounds_toArray, List.set_cons_zero, List.set_cons_succ]
          refine Gz.take (i := 12) (oi := { dst := some 177, op := Op.move (Operand.tmp 18), type := 22, pos := _, after := _, guard := some (11, false) }) (v := ?_) rfl (by kernel_rfl) (by kernel_rfl) (by kernel_rfl) (by kernel_rfl) (fun _ _ _ h => h) (Or.inl ⟨by rfl, ?hy12⟩) (Kept.refl _ _).drew ?_
          case hy12 => (intro W hSw; (try dsimp only at hSw); go_simp; try with_reducible rfl)
          try simp only [Act.put, List.setIfInBounds_toArray, List.set_cons_zero, List.set_cons_succ]
          refine Gz.take (i := 13) (oi := { dst := some 178, op := Op.move (Operand.tmp 24), type := 3, pos := _, after := _, guard := some (11, false) }) (v := ?_) rfl (by kernel_rfl) (by kernel_rfl) (by kernel_rfl) (by kernel_rfl) (fun _ _ _ h => h) (Or.inl ⟨by rfl, ?hy13⟩) (Kept.refl _ _).drew ?_
          case hy13 => (intro W hSw; (try dsimp only at hSw); go_simp; try with_reducible rfl)
          try simp only [Act.put, List.setIfInBounds_toArray, List.set_cons_zero, List.set_cons_succ]
          refine Gz.take (i := 14) (oi := { dst := some 179, op := Op.indexAddr 22 (Operand.tmp 177) (Operand.tmp 178), type := 0, pos := _, after := _, guard := some (11, false) }) (v := ?_) rfl (by kernel_rfl) (by kernel_rfl) (by kernel_rfl) (by kernel_rfl) (fun _ _ _ h => h) (Or.inl ⟨by rfl, ?hy14⟩) (Kept.refl _ _).drew ?_
          case hy14 => (intro W hSw; (try dsimp only at hSw); go_simp; try with_reducible rfl)
          try simp only [Act.put, List.setIfInBounds_toArray, List.set_cons_zero, List.set_cons_succ]
          refine Gz.take (i := 15) (oi := { dst := some 180, op := Op.fieldAddr 27 (Operand.tmp 179) 1, type := 0, pos := _, after := _, guard := some (11, false) }) (v := ?_) rfl (by kernel_rfl) (by kernel_rfl) (by kernel_rfl) (by kernel_rfl) (fun _ _ _ h => h) (Or.inl ⟨by rfl, ?hy15⟩) (Kept.refl _ _).drew ?_
          case hy15 => (intro W hSw; (try dsimp only at hSw); go_simp; try with_reducible rfl)
          try simp only [Act.put, List.setIfInBounds_toArray, List.set_cons_zero, List.set_cons_succ]
          refine Gz.take (i := 16) (oi := { dst := some 181, op := Op.load 25 (Operand.tmp 180), type := 25, pos := _, after := _, guard := some (11, false) }) (v := _) rfl (by kernel_rfl) (by kernel_rfl) (by kernel_rfl) (by kernel_rfl) (fun _ _ _ h => h) (yieldsIf_load_mid (by rfl) _ _ rfl (gp) (j * 33 + 1) rfl (cells hd) _ (fun W hW => range_tl (range_kept hra hW hga trivial)) Try.underlying25 rfl (ihd)) (Kept.refl _ _).drew ?_
          try simp only [Act.put, List.setIfInBounds_toArray, List.set_cons_zero, List.set_cons_succ]
          refine Gz.take (i := 17) (oi := { dst := some 182, op := Op.move (Operand.tmp 21), type := 38, pos := _, after := _, guard := some (11, false) }) (v := ?_) rfl (by kernel_rfl) (by kernel_rfl) (by kernel_rfl) (by kernel_rfl) (fun _ _ _ h => h) (Or.inl ⟨by rfl, ?hy17⟩) (Kept.refl _ _).drew ?_
          case hy17 => (intro W hSw; (try dsimp only at hSw); go_simp; try with_reducible rfl)
          try simp only [Act.put, List.setIfInBounds_toArray, List.set_cons_zero, List.set_cons_succ]
          refine Gz.take (i := 18) (oi := { dst := some 183, op := Op.move (Operand.tmp 24), type := 3, pos := _, after := _, guard := some (11, false) }) (v := ?_) rfl (by kernel_rfl) (by kernel_rfl) (by kernel_rfl) (by kernel_rfl) (fun _ _ _ h => h) (Or.inl ⟨by rfl, ?hy18⟩) (Kept.refl _ _).drew ?_
          case hy18 => (intro W hSw; (try dsimp only at hSw); go_simp; try with_reducible rfl)
          try simp only [Act.put, List.setIfInBounds_toArray, List.set_cons_zero, List.set_cons_succ]
          refine Gz.take (i := 19) (oi := { dst := some 184, op := Op.indexAddr 38 (Operand.tmp 182) (Operand.tmp 183), type := 0, pos := _, after := _, guard := some (11, false) }) (v := ?_) rfl (by kernel_rfl) (by kernel_rfl) (by kernel_rfl) (by kernel_rfl) (fun _ _ _ h => h) (Or.inl ⟨by rfl, ?hy19⟩) (Kept.refl _ _).drew ?_
          case hy19 => (intro W hSw; (try dsimp only at hSw); go_simp; try with_reducible rfl)
          try simp only [Act.put, List.setIfInBounds_toArray, List.set_cons_zero, List.set_cons_succ]
          refine Gz.take (i := 20) (oi := { dst := some 185, op := Op.fieldAddr 51 (Operand.tmp 184) 1, type := 0, pos := _, after := _, guard := some (11, false) }) (v := ?_) rfl (by kernel_rfl) (by kernel_rfl) (by kernel_rfl) (by kernel_rfl) (fun _ _ _ h => h) (Or.inl ⟨by rfl, ?hy20⟩) (Kept.refl _ _).drew ?_
          case hy20 => (intro W hSw; (try dsimp only at hSw); go_simp; try with_reducible rfl)
          try simp only [Act.put, List.setIfInBounds_toArray, List.set_cons_zero, List.set_cons_succ]
          refine Gz.take (i := 21) (oi := { dst := some 186, op := Op.load 25 (Operand.tmp 185), type := 25, pos := _, after := _, guard := some (11, false) }) (v := _) rfl (by kernel_rfl) (by kernel_rfl) (by kernel_rfl) (by kernel_rfl) (fun _ _ _ h => h) (yieldsIf_load_mid (by rfl) _ _ rfl (gq) (j * 33 + 1) rfl (cells hd) _ (fun W hW => range_tl (range_kept hrb hW hgb trivial)) Try.underlying25 rfl (ihd)) (Kept.refl _ _).drew ?_
          try simp only [Act.put, List.setIfInBounds_toArray, List.set_cons_zero, List.set_cons_succ]
          refine Gz.take (i := 22) (oi := { dst := some 187, op := Op.binOp BinOp.neq 25 (Operand.tmp 181) (Operand.tmp 186) 25, type := 4, pos := _, after := _, guard := some (11, false) }) (v := ?_) rfl (by kernel_rfl) (by kernel_rfl) (by kernel_rfl) (by kernel_rfl) (fun _ _ _ h => h) (Or.inl ⟨by rfl, ?hy22⟩) (Kept.refl _ _).drew ?_
          case hy22 => (intro W hSw; (try dsimp only at hSw); go_simp; try with_reducible rfl)
          try simp only [Act.put, List.setIfInBounds_toArray, List.set_cons_zero, List.set_cons_succ]
          refine Gz.take (i := 23) (oi := { dst := some 188, op := Op.pick (Operand.tmp 176) (Operand.const (Value.bool true)) (Operand.tmp 187), type := 4, pos := _, after := _, guard := none }) (v := ?_) rfl (by kernel_rfl) (by kernel_rfl) (by kernel_rfl) (by kernel_rfl) (fun _ _ _ h => h) (Or.inl ⟨by rfl, ?hy23⟩) (Kept.refl _ _).drew ?_
          case hy23 => (intro W hSw; (try dsimp only at hSw); go_simp; try with_reducible rfl)
          try simp only [Act.put, List.setIfInBounds_toArray, List.set_cons_zero, List.set_cons_succ]
          refine Gz.done (by kernel_rfl) ?_ _
          go_wp2_with fail
          go_roundw
          case rel => exact ⟨j + 1, by have := JL.out; omega, by go_num, KJ.out.drew⟩
          case measure => have := JL.out; simp [intOf]; omega
        · have j1 : ¬ (j : Int) < (xs.length : Int) := by omega
          have KJ : Hid (Kept (fun _ => True) w24 wi) := kj
          clear kj HP2 HQ2 hj hlt
          go_wp2_with fail
          go_roundw
          case rel => exact ⟨i + 1, by have := I2.out; omega, by go_num, K23.out.trans KJ.out⟩
          case measure => have := I2.out; simp [intOf]; omega

end Go.Proofs.Ytflleblcliobdaa
