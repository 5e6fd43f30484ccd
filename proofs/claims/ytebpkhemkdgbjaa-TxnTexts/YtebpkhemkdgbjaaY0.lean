/-
  A transaction in memory; its small functions: members, has, but, passes, share.
-/
import Derived.Test.YtebpkhemkdgbjaaYPlain
import Derived.Test.YtebpkhemkdgbjaaWStr
import Derived.Test.YtebpkhemkdgbjaaM3
import Derived.Test.YtebpkhemkdgbjaaMSq
namespace Go.Proofs.Ytebpkhemkdgbjaa
open Go.RowKit

theorem Try.sizeB3 : (Try.prog.info? 81).map (·.size) = some 3 := by kernel_rfl
/-- Some of the groups in a variable. -/
def Ba (w : World) (A : Nat) (s : B3) : Prop := Af w A 81 3 (fun i => .bool (s.at i))
theorem Ba.made (w : World) (s : B3) : Ba (w.alloc (.cells #[.bool s.a, .bool s.b, .bool s.c] 81)) w.heap.size s := heap_alloc_new w _
theorem Ba.cells3 {w : World} {A : Nat} {s : B3} (h : Ba w A s) : w.cell? ⟨A, 0, none⟩ = some (.bool s.a) ∧ w.cell? ⟨A, 1, none⟩ = some (.bool s.b) ∧ w.cell? ⟨A, 2, none⟩ = some (.bool s.c) :=
  ⟨Af.cell h (i := 0) (by decide), Af.cell h (i := 1) (by decide), Af.cell h (i := 2) (by decide)⟩
theorem Ba.set {w : World} {A : Nat} {s : B3} (h : Ba w A s) {g : Nat} (hg : g < 3) : Ba (w.setCell ⟨A, g, none⟩ (.bool true)) A (s.set g) := by
  refine Af.congr (Af.set h g (.bool true)) (fun i _ => ?_)
  simp only [B3.at_set _ _ _ hg]
  split <;> rfl
theorem results_b3 {fn : Func} {p : Nat} (h : fn.results = #[.cell p 81]) (tmps : Array Value) (w : World) {g : Nat} {x y z : Value} {t : TypeId} {fr : Nat × Nat} (hp : tmps.getD p undef = .pointer (some ⟨g, 0, none⟩)) (hg : w.heap[g]? = some (.cells #[x, y, z] t fr)) :
    (results fn tmps).run Try.prog w = .ok (.agg #[x, y, z]) w :=
  results_cell_row h tmps w g t #[x, y, z] fr _ hp hg Try.underlying81 rfl Try.sizeB3

/-- A transaction's block. -/
def tcells (ov tv : Value) (z : Tn) : Array Value := #[ov, tv, .bool z.vo.a, .bool z.vo.b, .bool z.vo.c, .bool z.dn.a, .bool z.dn.b, .bool z.dn.c, .int .i64 z.oc, .int .i64 z.ar, .int .i64 z.wy]
/-- A transaction in memory, behind b. -/
structure Tm (w : World) (b T : Nat) (ov tv : Value) (z : Tn) : Prop where
  self : w.heap[T]? = some (.cells (tcells ov tv z) 83 (0, 0))
  ow : Its w b ov z.ow
  tx : Txs w b tv z.tx
  len : z.tx.length = z.ow.length
  lt3 : ∀ g ∈ z.ow, g < 3
  few : z.ow.length ≤ 4
  tb : b ≤ T
section
variable {w w' : World} {b T : Nat} {ov tv : Value} {z : Tn}
theorem Txs.ne {w : World} {base : Nat} {v : Value} {ss : List (List UInt8)} (h : Txs w base v ss) {B : Nat} {cs : Array Value} {t : TypeId} {fr : Nat × Nat} (hB : w.heap[B]? = some (.cells cs t fr)) (ht : t ≠ 9) : v.ownBlock ≠ some B := by
  intro q
  rcases h.2 with ⟨hv, _⟩ | ⟨g, cap, cur, hv, _, hh, _⟩
  · rw [hv] at q; simp [Value.ownBlock] at q
  · rw [hv] at q; simp [Value.ownBlock] at q
    subst q
    rw [hB] at hh
    simp at hh
    exact ht hh.2.1
theorem Txs.lt {w : World} {base : Nat} {v : Value} {ss : List (List UInt8)} (h : Txs w base v ss) {k : Nat} (hk : v.ownBlock = some k) : k < w.heap.size := (World.ownsRow.lt h k hk).2
theorem Txs.ge {w : World} {base : Nat} {v : Value} {ss : List (List UInt8)} (h : Txs w base v ss) {k : Nat} (hk : v.ownBlock = some k) : base ≤ k := (World.ownsRow.lt h k hk).1
theorem Tm.lt (h : Tm w b T ov tv z) : T < w.heap.size := lt_of_block h.self
theorem Tm.kept {p : Nat → Prop} (h : Tm w b T ov tv z) (k : Kept p w w') (hT : p T) (ho : ∀ x, ov.ownBlock = some x → p x) (ht : ∀ x, tv.ownBlock = some x → p x) : Tm w' b T ov tv z :=
  ⟨(k.block T h.lt hT).trans h.self, h.ow.kept k ho, h.tx.kept k ht, h.len, h.lt3, h.few, h.tb⟩
theorem Tm.all (h : Tm w b T ov tv z) (k : Kept (fun _ => True) w w') : Tm w' b T ov tv z := h.kept k trivial (fun _ _ => trivial) (fun _ _ => trivial)
theorem Tm.old (h : Tm w b T ov tv z) (k : Kept (fun x => x < w.heap.size) w w') : Tm w' b T ov tv z := h.kept k h.lt (fun _ e => h.ow.lt e) (fun _ e => h.tx.lt e)
theorem Tm.ovT (h : Tm w b T ov tv z) : ov.ownBlock ≠ some T := h.ow.ne h.self (by decide)
theorem Tm.tvT (h : Tm w b T ov tv z) : tv.ownBlock ≠ some T := h.tx.ne h.self (by decide)
theorem own_block_of {w : World} {b e n : Nat} {v : Value} {xs : List Value} (h : w.ownsRow b e 1 v n xs) {x : Nat} (hx : v.ownBlock = some x) : ∃ cs fr, w.heap[x]? = some (.cells cs e fr) := by
  rcases h.2 with ⟨e, _⟩ | ⟨g, cap, cur, e, _, hh, _⟩
  · rw [e] at hx; simp [Value.ownBlock] at hx
  · rw [e] at hx; simp [Value.ownBlock] at hx
    subst hx
    exact ⟨_, _, hh⟩
theorem Tm.ovtv (h : Tm w b T ov tv z) {x : Nat} (hx : ov.ownBlock = some x) : tv.ownBlock ≠ some x := by
  obtain ⟨cs, fr, hh⟩ := own_block_of (e := 3) h.ow hx
  exact h.tx.ne hh (by decide)
theorem Tm.c (h : Tm w b T ov tv z) : w.cell? ⟨T, 0, none⟩ = some ov ∧ w.cell? ⟨T, 1, none⟩ = some tv ∧ w.cell? ⟨T, 8, none⟩ = some (.int .i64 z.oc) ∧ w.cell? ⟨T, 9, none⟩ = some (.int .i64 z.ar) ∧ w.cell? ⟨T, 10, none⟩ = some (.int .i64 z.wy) :=
  ⟨cell_of_row w T 0 _ _ _ h.self, cell_of_row w T 1 _ _ _ h.self, cell_of_row w T 8 _ _ _ h.self, cell_of_row w T 9 _ _ _ h.self, cell_of_row w T 10 _ _ _ h.self⟩
theorem Tm.cv (h : Tm w b T ov tv z) : w.cell? ⟨T, 2, none⟩ = some (.bool z.vo.a) ∧ w.cell? ⟨T, 3, none⟩ = some (.bool z.vo.b) ∧ w.cell? ⟨T, 4, none⟩ = some (.bool z.vo.c) :=
  ⟨cell_of_row w T 2 _ _ _ h.self, cell_of_row w T 3 _ _ _ h.self, cell_of_row w T 4 _ _ _ h.self⟩
theorem Tm.cd (h : Tm w b T ov tv z) : w.cell? ⟨T, 5, none⟩ = some (.bool z.dn.a) ∧ w.cell? ⟨T, 6, none⟩ = some (.bool z.dn.b) ∧ w.cell? ⟨T, 7, none⟩ = some (.bool z.dn.c) :=
  ⟨cell_of_row w T 5 _ _ _ h.self, cell_of_row w T 6 _ _ _ h.self, cell_of_row w T 7 _ _ _ h.self⟩
theorem Tm.free (h : Tm w b T ov tv z) (i : Nat) : w.frozen? ⟨T, i, none⟩ = false := by simp [World.frozen?, h.self]
end

theorem Ba.two (w : World) (s t : B3) : Ba ((w.alloc (.cells #[.bool s.a, .bool s.b, .bool s.c] 81)).alloc (.cells #[.bool t.a, .bool t.b, .bool t.c] 81)) w.heap.size s ∧ Ba ((w.alloc (.cells #[.bool s.a, .bool s.b, .bool s.c] 81)).alloc (.cells #[.bool t.a, .bool t.b, .bool t.c] 81)) (w.heap.size + 1) t ∧ Kept (fun _ => True) w ((w.alloc (.cells #[.bool s.a, .bool s.b, .bool s.c] 81)).alloc (.cells #[.bool t.a, .bool t.b, .bool t.c] 81)) := by
  have h := Ba.made (w.alloc (.cells #[.bool s.a, .bool s.b, .bool s.c] 81)) t
  have e : (w.alloc (.cells #[.bool s.a, .bool s.b, .bool s.c] 81)).heap.size = w.heap.size + 1 := by simp
  rw [e] at h
  exact ⟨(Ba.made w s).kept ((Kept.refl (fun _ => True) _).alloc _) trivial, h, ((Kept.refl _ _).alloc _).alloc _⟩

set_option maxRecDepth 100000 in
set_option maxHeartbeats 1000000 in
theorem members_any {w : World} {b T : Nat} {ov tv : Value} {z : Tn} (h : Tm w b T ov tv z) :
    Calls Try.prog 36 #[.pointer (some ⟨T, 0, none⟩)] w fun e w' => e = .returned (memO z.ow).val ∧ Kept (fun _ => True) w w' := by
  have H : Hid (Tm w b T ov tv z) := h
  have h2 := Ba.two w B3.none B3.none
  have hc := (h.all h2.2.2).c.1
  have H2 : Hid (Ba ((w.alloc (.cells #[.bool false, .bool false, .bool false] 81)).alloc (.cells #[.bool false, .bool false, .bool false] 81)) w.heap.size B3.none ∧ Ba ((w.alloc (.cells #[.bool false, .bool false, .bool false] 81)).alloc (.cells #[.bool false, .bool false, .bool false] 81)) (w.heap.size + 1) B3.none ∧ Kept (fun _ => True) w ((w.alloc (.cells #[.bool false, .bool false, .bool false] 81)).alloc (.cells #[.bool false, .bool false, .bool false] 81))) := h2
  have HA : Hid (w.heap.size < w.heap.size + 1) := Nat.lt_succ_self _
  have hc' : ((w.alloc (.cells #[.bool false, .bool false, .bool false] 81)).alloc (.cells #[.bool false, .bool false, .bool false] 81)).cell? ⟨T, 0, none⟩ = some ov := hc
  obtain ⟨ao, cap, rfl⟩ := h.ow.shape
  have hf := h.few
  clear h2 h hc
  go_enter Try.func36, Try.ntmps36
  go_wp2_with fail
  generalize (w.alloc (.cells #[.bool false, .bool false, .bool false] 81)).alloc (.cells #[.bool false, .bool false, .bool false] 81) = w2 at *
  generalize w.heap.size + 1 = A at *
  go_loopw [11] (fun t wr => ∃ (k : Nat), k ≤ z.ow.length ∧ t = .int .i64 k ∧ Ba wr A (memO (z.ow.take k)) ∧ Ba wr w.heap.size B3.none ∧ Kept (fun _ => True) w wr) (fun t _ => z.ow.length - (intOf t).toNat)
  case atStart => exact ⟨0, Nat.zero_le _, rfl, by rw [List.take_zero, memO_nil]; exact H2.out.2.1, H2.out.1, H2.out.2.2⟩
  case round =>
    obtain ⟨k, hk, rfl, hA3, hX3, hK3⟩ := hrel
    have HX : Hid (Ba wr w.heap.size B3.none) := hX3
    have HK : Hid (Kept (fun _ => True) w wr) := hK3
    clear hX3 H2 hc'
    by_cases hlt : k < z.ow.length
    · obtain ⟨g, rfl, q1⟩ := (H.out.all hK3).ow.at k hlt
      have hg3 := H.out.lt3 _ (List.getElem_mem hlt)
      have HT : Hid (memO (z.ow.take (k + 1)) = (memO (z.ow.take k)).set z.ow[k]) := by
        show _ = _
        rw [List.take_succ_eq_append_getElem hlt, memO_snoc _ _ hg3]
      have HA3 : Hid (Ba wr A (memO (z.ow.take k))) := hA3
      generalize z.ow[k] = y at *
      have y0 := Af.cell hA3 hg3
      have yf := Af.free hA3 y
      have i0 : (0 : Int) ≤ (k : Int) := by omega
      have i1 : (k : Int) < (z.ow.length : Int) := by omega
      have j0 : (0 : Int) ≤ (y : Int) := by omega
      have j1 : (y : Int) < 3 := by omega
      clear hA3 hK3
      go_wp2_with fail
      go_roundw
      case rel => exact ⟨k + 1, by omega, by go_num, by rw [HT.out]; exact HA3.out.set hg3, HX.out.kept (p := (· ≠ A)) ((Kept.refl _ _).setCell (by simp) _) (Nat.ne_of_lt HA.out), HK.out.setFresh (Nat.le_of_lt HA.out) _⟩
      case measure => simp [intOf]; omega
    · have hke : k = z.ow.length := by omega
      subst hke
      rw [List.take_length] at hA3
      obtain ⟨a0, a1, a2⟩ := hA3.cells3
      have x0 := Af.free HX.out 0
      have x1 := Af.free HX.out 1
      have x2 := Af.free HX.out 2
      obtain ⟨b0, b1, b2⟩ := HX.out.cells3
      have HX2 : Hid (wr.heap[w.heap.size]? = some (.cells #[.bool false, .bool false, .bool false] 81 (0, 0))) := HX.out
      clear hA3 hK3
      go_wp2_with fail
      exact bodyPost_ret (results_b3 rfl _ _ rfl (mset_at (mset_at (mset_at HX2.out 0 _) 1 _) 2 _)) rfl ⟨rfl, ((HK.out.setFresh (Nat.le_refl _) _).setFresh (Nat.le_refl _) _).setFresh (Nat.le_refl _) _⟩

set_option maxRecDepth 100000 in
set_option maxHeartbeats 1000000 in
theorem has_any {w : World} (s : B3) (g : Int) : Calls Try.prog 37 #[s.val, .int .i64 g] w fun e w' => e = .returned (.bool (hasG s g)) ∧ Kept (fun _ => True) w w' := by
  have hX := Ba.made w s
  have kX : Kept (fun _ => True) w (w.alloc (.cells #[.bool s.a, .bool s.b, .bool s.c] 81)) := (Kept.refl _ _).alloc _
  have KX : Hid (Kept (fun _ => True) w (w.alloc (.cells #[.bool s.a, .bool s.b, .bool s.c] 81))) := kX
  unfold B3.val
  clear kX
  by_cases h0 : 0 ≤ g
  · by_cases h1 : g < 3
    · obtain ⟨n, rfl⟩ : ∃ n : Nat, g = (n : Int) := ⟨g.toNat, by omega⟩
      have y0 := Af.cell hX (i := n) (by omega)
      rw [hasG_nat s n (by omega)]
      generalize s.at n = r at *
      clear hX
      go_enter Try.func37, Try.ntmps37
      go_wp2_with fail
      go_ret
      exact ⟨rfl, KX.out⟩
    · have e : hasG s g = false := by simp [hasG, h1]
      rw [e]
      clear hX e
      go_enter Try.func37, Try.ntmps37
      go_wp2_with fail
      go_ret
      exact ⟨rfl, KX.out⟩
  · have e : hasG s g = false := by simp [hasG, h0]
    have h1 : g < 3 := by omega
    rw [e]
    clear hX e
    go_enter Try.func37, Try.ntmps37
    go_wp2_with fail
    go_ret
    exact ⟨rfl, KX.out⟩

theorem passes_any {w : World} (y : Int) : Calls Try.prog 38 #[.int .i64 y] w fun e w' => e = .returned (.bool (passesP y)) ∧ w' = w := by
  unfold passesP
  cases h5 : y == 35
  · cases h6 : y == 36
    · go_enter Try.func38, Try.ntmps38
      go_wp2_with fail
      go_ret
      exact ⟨rfl, rfl⟩
    · go_enter Try.func38, Try.ntmps38
      go_wp2_with fail
      go_ret
      exact ⟨rfl, rfl⟩
  · go_enter Try.func38, Try.ntmps38
    go_wp2_with fail
    go_ret
    exact ⟨rfl, rfl⟩

end Go.Proofs.Ytebpkhemkdgbjaa

namespace Go.Proofs.Ytebpkhemkdgbjaa
open Go.RowKit

set_option maxRecDepth 100000 in
set_option maxHeartbeats 1000000 in
theorem share_any {w : World} {b T : Nat} {ov tv : Value} {z : Tn} (h : Tm w b T ov tv z) (g : Nat) :
    Calls Try.prog 40 #[.pointer (some ⟨T, 0, none⟩), .int .i64 g] w fun e w' => e = .returned (.int .i64 ((idx (oh z.ow) z.ow.length g).length : Nat)) ∧ w' = w := by
  have H : Hid (Tm w b T ov tv z) := h
  have hc := h.c.1
  obtain ⟨ao, cap, rfl⟩ := h.ow.shape
  have hf := h.few
  clear h
  go_enter Try.func40, Try.ntmps40
  go_wp2_with fail
  go_loopw [13, 5] (fun t u wr => ∃ k : Nat, k ≤ z.ow.length ∧ t = .int .i64 k ∧ u = .int .i64 ((idx (oh z.ow) k g).length : Nat) ∧ w = wr) (fun t _ _ => z.ow.length - (intOf t).toNat)
  case atStart => exact ⟨0, Nat.zero_le _, rfl, rfl, rfl⟩
  case round =>
    obtain ⟨k, hk, rfl, rfl, rfl⟩ := hrel
    have hm := idx_most (oh z.ow) k g
    by_cases hlt : k < z.ow.length
    · obtain ⟨gp, rfl, q1⟩ := H.out.ow.at k hlt
      have i0 : (0 : Int) ≤ (k : Int) := by omega
      have i1 : (k : Int) < (z.ow.length : Int) := by omega
      by_cases e : z.ow[k] = g
      · have HT : Hid (idx (oh z.ow) (k + 1) g = idx (oh z.ow) k g ++ [k]) := idx_yes _ _ _ (by rw [oh_at hlt, e])
        rw [e] at q1
        clear e
        go_wp2_with fail
        go_roundw
        case rel => exact ⟨k + 1, by omega, by go_num, by rw [HT.out, List.length_append]; go_num, trivial⟩
        case measure => simp [intOf]; omega
      · have HT : Hid (idx (oh z.ow) (k + 1) g = idx (oh z.ow) k g) := idx_no _ _ _ (by rw [oh_at hlt]; omega)
        have hne : ((z.ow[k] : Int) == (g : Int)) = false := by simp; omega
        generalize z.ow[k] = y at *
        clear e
        go_wp2_with fail
        go_roundw
        case rel => exact ⟨k + 1, by omega, by go_num, by rw [HT.out], trivial⟩
        case measure => simp [intOf]; omega
    · have hke : k = z.ow.length := by omega
      subst hke
      go_wp2_with fail
      go_ret
      exact ⟨rfl, rfl⟩

theorem index_b0 (a b c : Bool) (W : World) : (Instr.index 81 (.agg #[.bool a, .bool b, .bool c]) (.int .i64 0)).run Try.prog W = .ok (.bool a) W := by kernel_rfl
theorem index_b1 (a b c : Bool) (W : World) : (Instr.index 81 (.agg #[.bool a, .bool b, .bool c]) (.int .i64 1)).run Try.prog W = .ok (.bool b) W := by kernel_rfl
theorem index_b2 (a b c : Bool) (W : World) : (Instr.index 81 (.agg #[.bool a, .bool b, .bool c]) (.int .i64 2)).run Try.prog W = .ok (.bool c) W := by kernel_rfl
theorem index_b3 (s : B3) (n : Nat) (hn : n < 3) (W : World) : (Instr.index 81 (.agg #[.bool s.a, .bool s.b, .bool s.c]) (.int .i64 (n : Nat))).run Try.prog W = .ok (.bool (s.at n)) W := by
  obtain ⟨a, b, c⟩ := s
  have hc : n = 0 ∨ n = 1 ∨ n = 2 := by omega
  rcases hc with rfl | rfl | rfl
  · exact index_b0 a b c W
  · exact index_b1 a b c W
  · exact index_b2 a b c W

set_option maxRecDepth 100000 in
set_option maxHeartbeats 1000000 in
theorem but_any {w : World} (s x : B3) :
    Calls Try.prog 42 #[s.val, x.val] w fun e w' => ∃ v, e = .returned v ∧ Its w' w.heap.size v (butG s x 3) ∧ Kept (fun _ => True) w w' := by
  have h2 := Ba.two w s x
  have H2 : Hid (Ba ((w.alloc (.cells #[.bool s.a, .bool s.b, .bool s.c] 81)).alloc (.cells #[.bool x.a, .bool x.b, .bool x.c] 81)) w.heap.size s ∧ Ba ((w.alloc (.cells #[.bool s.a, .bool s.b, .bool s.c] 81)).alloc (.cells #[.bool x.a, .bool x.b, .bool x.c] 81)) (w.heap.size + 1) x ∧ Kept (fun _ => True) w ((w.alloc (.cells #[.bool s.a, .bool s.b, .bool s.c] 81)).alloc (.cells #[.bool x.a, .bool x.b, .bool x.c] 81))) := h2
  obtain ⟨a0, a1, a2⟩ := h2.1.cells3
  unfold B3.val
  clear h2
  go_enter Try.func42, Try.ntmps42
  go_wp2_with fail
  generalize (w.alloc (.cells #[.bool s.a, .bool s.b, .bool s.c] 81)).alloc (.cells #[.bool x.a, .bool x.b, .bool x.c] 81) = w2 at *
  generalize w.heap.size + 1 = A at *
  go_loopw [9, 5] (fun t u wr => ∃ (i : Nat), i ≤ 3 ∧ t = .int .i64 i ∧ Its wr w.heap.size u (butG s x i) ∧ Ba wr A x ∧ Kept (fun _ => True) w wr) (fun t _ _ => 3 - (intOf t).toNat)
  case atStart => exact ⟨0, by omega, rfl, Its.nil _ _, H2.out.2.1, H2.out.2.2⟩
  case round =>
    obtain ⟨i, hi, rfl, hU, hA, hK⟩ := hrel
    obtain ⟨uo, uc, rfl⟩ := hU.shape
    have hm := butG_most s x i
    have HU : Hid (Its wr w.heap.size (.slice uo (butG s x i).length uc) (butG s x i)) := hU
    have HA : Hid (Ba wr A x) := hA
    have HK : Hid (Kept (fun _ => True) w wr) := hK
    clear hU hK H2 a0 a1 a2
    by_cases hlt : i < 3
    · have hx := index_b3 s i hlt
      have y0 := Af.cell hA hlt
      have i0 : (0 : Int) ≤ (i : Int) := by omega
      have i1 : (i : Int) < 3 := by omega
      have HY : Hid ((s.at i && !x.at i) = true → butG s x (i + 1) = butG s x i ++ [i]) := butG_yes _ _ _
      have HN : Hid ((s.at i && !x.at i) = false → butG s x (i + 1) = butG s x i) := butG_no _ _ _
      clear hA
      generalize s.at i = r at *
      generalize x.at i = q at *
      cases r
      · have HT : Hid (butG s x (i + 1) = butG s x i) := HN.out rfl
        clear HY HN
        go_wp2_with fail
        go_roundw
        case rel => exact ⟨i + 1, by omega, by go_num, by rw [HT.out]; exact HU.out, HA.out, HK.out⟩
        case measure => simp [intOf]; omega
      · cases q
        · have HT : Hid (butG s x (i + 1) = butG s x i ++ [i]) := HY.out rfl
          clear HY HN
          go_wp2_with (at_builtin; refine wpList_append_it rfl _ _ rfl w.heap.size (.slice uo (butG s x i).length uc) (butG s x i) rfl (HU.out.all ((Kept.refl _ _).alloc _)) (Nat.le_trans HK.out.size ((Kept.refl (fun _ => True) _).alloc _).size) _ rfl i (0, 0) (heap_alloc_new _ _) (by omega) ?_; intro ao' cap' w5 ho5 hg5 hat5; have k5 : Kept (fun y => (Value.slice uo (butG s x i).length uc).ownBlock ≠ some y) wr w5 := ((Kept.refl _ _).alloc _).trans (grown_kept hg5); have HO5 : Hid (Its w5 w.heap.size (.slice ao' ((butG s x i).length + 1) cap') (butG s x i ++ [i])) := ho5; have HA5 : Hid (Ba w5 A x) := HA.out.kept k5 (HU.out.ne HA.out (by decide)); have HK5 : Hid (Kept (fun _ => True) w w5) := HK.out.then k5 (fun y hy _ e => by have := HU.out.ge e; omega); clear ho5 hg5 hat5 k5)
          go_roundw
          case rel => exact ⟨i + 1, by omega, by go_num, by rw [HT.out]; exact HO5.out, HA5.out, HK5.out⟩
          case measure => simp [intOf]; omega
        · have HT : Hid (butG s x (i + 1) = butG s x i) := HN.out rfl
          clear HY HN
          go_wp2_with fail
          go_roundw
          case rel => exact ⟨i + 1, by omega, by go_num, by rw [HT.out]; exact HU.out, HA.out, HK.out⟩
          case measure => simp [intOf]; omega
    · have hie : i = 3 := by omega
      subst hie
      clear hA
      go_wp2_with fail
      go_ret
      exact ⟨_, rfl, HU.out, HK.out⟩

theorem Try.zeroText : (Try.prog.info? 9).map (fun i => (i.zero, i.size)) = some (some (.string ⟨#[]⟩), 1) := by kernel_rfl
/-- clear over a row of texts of one's own. -/
theorem clear_text (W : World) (ty : TypeId) (base : Nat) (v : Value) (ss : List (List UInt8)) (h : Txs W base v ss) :
    ∃ W', (Builtin.clear_ #[37] ty #[v]).run Try.prog W = .ok (.tuple #[]) W' ∧ Txs W' base v (ss.map fun _ => []) ∧ Kept (fun x => v.ownBlock ≠ some x) W W' := by
  by_cases hp : 0 < ss.length
  · rcases h.2 with ⟨_, h0⟩ | ⟨g, cap, cur, rfl, hb, hh, hc, hm, hs, ht⟩
    · omega
    · have hsz : cur.size = cap := by simpa using hs
      have hst := run_storeCells_at Try.prog g 0 9 (List.replicate ss.length (Value.string ⟨#[]⟩)) 0 cur W hh (by simp; omega) (by intro u hu; rw [List.eq_of_mem_replicate hu]; rfl)
      simp only [Nat.add_zero] at hst
      have hz : (Builtin.zeroCells (Value.string ⟨#[]⟩).cells ss.length).toList = List.replicate ss.length (Value.string ⟨#[]⟩) := by
        simp [Builtin.zeroCells, Value.cells]
        apply List.ext_getElem
        · simp
        · intro i h1 h2
          simp [Nat.mod_one]
      obtain ⟨m, hm1⟩ : ∃ m, ss.length = m + 1 := ⟨ss.length - 1, by omega⟩
      refine ⟨W.setRow g (cur.toList.take 0 ++ List.replicate ss.length (Value.string ⟨#[]⟩) ++ cur.toList.drop (0 + (List.replicate ss.length (Value.string ⟨#[]⟩)).length)).toArray, ?_, ?_, (Kept.refl _ _).setRow (by simp [Value.ownBlock]) _⟩
      · rw [hm1] at hst hz ⊢
        simp [Builtin.clear_, run_underlying Try.underlying37, (zero_of_info Try.zeroText).1, hz, hst]
      · have e : srow (ss.map fun _ => []) = List.replicate ss.length (Value.string ⟨#[]⟩) := by simp [srow, List.map_const']
        unfold Txs
        rw [List.length_map, e]
        refine ⟨by simp, .inr ⟨g, cap, _, rfl, hb, setRow_heap W g _ _ 9 _ hh, hc, hm, ?_, ?_⟩⟩
        · simp
          omega
        · simp
  · have e0 : ss = [] := List.eq_nil_of_length_eq_zero (by omega)
    subst e0
    refine ⟨W, ?_, h, Kept.refl _ _⟩
    rcases h.2 with ⟨rfl, h0⟩ | ⟨g, cap, cur, rfl, hb, hh, hc, hm, hs, ht⟩
    · simp [Builtin.clear_, run_underlying Try.underlying37]
    · simp [Builtin.clear_, run_underlying Try.underlying37]

end Go.Proofs.Ytebpkhemkdgbjaa

namespace Go.Proofs.Ytebpkhemkdgbjaa
open Go.RowKit

section
variable {w w' : World} {b T : Nat} {ov tv : Value} {z : Tn}
/-- The outcome, and those who voted, are written. -/
theorem Tm.outcome (h : Tm w b T ov tv z) (oc : Int) : Tm (w.setCell ⟨T, 8, none⟩ (.int .i64 oc)) b T ov tv { z with oc := oc } := by
  have k : Kept (· ≠ T) w (w.setCell ⟨T, 8, none⟩ (.int .i64 oc)) := (Kept.refl _ _).setCell (by simp) _
  exact ⟨mset_at h.self 8 _, h.ow.kept k (fun x hx e => h.ovT (e ▸ hx)), h.tx.kept k (fun x hx e => h.tvT (e ▸ hx)), h.len, h.lt3, h.few, h.tb⟩
theorem Tm.reason (h : Tm w b T ov tv z) (ar wy : Int) : Tm ((w.setCell ⟨T, 9, none⟩ (.int .i64 ar)).setCell ⟨T, 10, none⟩ (.int .i64 wy)) b T ov tv { z with ar := ar, wy := wy } := by
  have k : Kept (· ≠ T) w ((w.setCell ⟨T, 9, none⟩ (.int .i64 ar)).setCell ⟨T, 10, none⟩ (.int .i64 wy)) := ((Kept.refl _ _).setCell (by simp) _).setCell (by simp) _
  exact ⟨mset_at (mset_at h.self 9 _) 10 _, h.ow.kept k (fun x hx e => h.ovT (e ▸ hx)), h.tx.kept k (fun x hx e => h.tvT (e ▸ hx)), h.len, h.lt3, h.few, h.tb⟩
theorem Tm.novotes (h : Tm w b T ov tv z) : Tm (((w.setCell ⟨T, 2, none⟩ (.bool false)).setCell ⟨T, 3, none⟩ (.bool false)).setCell ⟨T, 4, none⟩ (.bool false)) b T ov tv { z with vo := B3.none } := by
  have k : Kept (· ≠ T) w (((w.setCell ⟨T, 2, none⟩ (.bool false)).setCell ⟨T, 3, none⟩ (.bool false)).setCell ⟨T, 4, none⟩ (.bool false)) := (((Kept.refl _ _).setCell (by simp) _).setCell (by simp) _).setCell (by simp) _
  exact ⟨mset_at (mset_at (mset_at h.self 2 _) 3 _) 4 _, h.ow.kept k (fun x hx e => h.ovT (e ▸ hx)), h.tx.kept k (fun x hx e => h.tvT (e ▸ hx)), h.len, h.lt3, h.few, h.tb⟩
theorem Tm.voted (h : Tm w b T ov tv z) {g : Nat} (hg : g < 3) : Tm (w.setCell ⟨T, 2 + g, none⟩ (.bool true)) b T ov tv { z with vo := z.vo.set g } := by
  have k : Kept (· ≠ T) w (w.setCell ⟨T, 2 + g, none⟩ (.bool true)) := (Kept.refl _ _).setCell (by simp) _
  refine ⟨?_, h.ow.kept k (fun x hx e => h.ovT (e ▸ hx)), h.tx.kept k (fun x hx e => h.tvT (e ▸ hx)), h.len, h.lt3, h.few, h.tb⟩
  have hs := mset_at h.self (2 + g) (.bool true)
  rw [hs]
  have hc : g = 0 ∨ g = 1 ∨ g = 2 := by omega
  rcases hc with rfl | rfl | rfl <;> rfl
theorem Tm.acked (h : Tm w b T ov tv z) {g : Nat} (hg : g < 3) : Tm (w.setCell ⟨T, 5 + g, none⟩ (.bool true)) b T ov tv { z with dn := z.dn.set g } := by
  have k : Kept (· ≠ T) w (w.setCell ⟨T, 5 + g, none⟩ (.bool true)) := (Kept.refl _ _).setCell (by simp) _
  refine ⟨?_, h.ow.kept k (fun x hx e => h.ovT (e ▸ hx)), h.tx.kept k (fun x hx e => h.tvT (e ▸ hx)), h.len, h.lt3, h.few, h.tb⟩
  have hs := mset_at h.self (5 + g) (.bool true)
  rw [hs]
  have hc : g = 0 ∨ g = 1 ∨ g = 2 := by omega
  rcases hc with rfl | rfl | rfl <;> rfl
/-- The texts turn. -/
theorem Tm.texts (h : Tm w b T ov tv z) {ss : List (List UInt8)} (ht : Txs w' b tv ss) (hl : ss.length = z.tx.length) (k : Kept (fun x => tv.ownBlock ≠ some x) w w') : Tm w' b T ov tv { z with tx := ss } :=
  ⟨(k.block T h.lt h.tvT).trans h.self, h.ow.kept k (fun _ hx => h.ovtv hx), ht, hl.trans h.len, h.lt3, h.few, h.tb⟩
/-- What a call that turns a transaction may write. -/
abbrev Tstep (T : Nat) (tv : Value) (w w' : World) : Prop := Kept (fun x => x ≠ T ∧ tv.ownBlock ≠ some x) w w'
end

set_option maxRecDepth 100000 in
set_option maxHeartbeats 1000000 in
theorem stop_any {w : World} {b T : Nat} {ov tv : Value} {z : Tn} (h : Tm w b T ov tv z) (oc : Int) :
    Calls Try.prog 39 #[.pointer (some ⟨T, 0, none⟩), .int .i64 oc] w fun e w' => e = .returned (.tuple #[]) ∧ Tm w' b T ov tv (z.stop oc) ∧ Tstep T tv w w' := by
  have f8 := h.free 8
  have f2 := h.free 2
  have f3 := h.free 3
  have f4 := h.free 4
  have c1 := h.c.2.1
  have c8 := h.c.2.2.1
  obtain ⟨c2, c3, c4⟩ := h.cv
  have H : Hid (Tm w b T ov tv z) := h
  obtain ⟨to, cap, rfl, hcap, -⟩ := h.tx.shape
  obtain ⟨w5, r5, h5, k5⟩ := clear_text _ 0 b (.slice to z.tx.length cap) z.tx ((h.outcome oc).novotes).tx
  have H5 : Hid (Tm w5 b T ov (.slice to z.tx.length cap) (z.stop oc)) := ((h.outcome oc).novotes).texts h5 (by simp) k5
  have K5 : Hid (Tstep T (.slice to z.tx.length cap) w w5) := ((((((Kept.refl (fun x => x ≠ T ∧ (Value.slice to z.tx.length cap).ownBlock ≠ some x) w).setCell (ad := ⟨T, 8, none⟩) (by simp) (.int .i64 oc)).setCell (ad := ⟨T, 2, none⟩) (by simp) (.bool false)).setCell (ad := ⟨T, 3, none⟩) (by simp) (.bool false)).setCell (ad := ⟨T, 4, none⟩) (by simp) (.bool false)).trans (k5.mono (fun _ _ q => q.2)))
  clear h h5 k5 H
  go_enter Try.func39, Try.ntmps39
  go_wp2_with fail
  go_end0
  exact ⟨rfl, H5.out, K5.out⟩

end Go.Proofs.Ytebpkhemkdgbjaa

namespace Go.Proofs.Ytebpkhemkdgbjaa
open Go.RowKit

/-- Texts that are looked at; p tells the blocks that they may lie in. -/
structure Xv (p : Nat → Prop) (w : World) (ao : Option Addr) (cap : Nat) (xs : List (List UInt8)) : Prop where
  row : 0 < xs.length → ∃ b off, ao = some ⟨b, off, none⟩ ∧ p b ∧ b < w.heap.size ∧ ∀ i (h : i < xs.length), w.cell? ⟨b, off + i, none⟩ = some (.string ⟨(xs[i]).toArray⟩)
  most : xs.length ≤ cap
theorem Xv.kept {p q : Nat → Prop} {w w' : World} {ao : Option Addr} {cap : Nat} {xs : List (List UInt8)} (h : Xv p w ao cap xs) (k : Kept q w w') (hq : ∀ b, p b → q b) : Xv p w' ao cap xs := by
  refine ⟨fun h0 => ?_, h.most⟩
  obtain ⟨b, off, e, hp, hb, hc⟩ := h.row h0
  exact ⟨b, off, e, hp, Nat.lt_of_lt_of_le hb k.size, fun i hi => (kept_cell k hb (hq b hp)).trans (hc i hi)⟩
theorem Xv.all {p : Nat → Prop} {w w' : World} {ao : Option Addr} {cap : Nat} {xs : List (List UInt8)} (h : Xv p w ao cap xs) (k : Kept (fun _ => True) w w') : Xv p w' ao cap xs := h.kept k (fun _ _ => trivial)
theorem Xv.mono {p q : Nat → Prop} {w : World} {ao : Option Addr} {cap : Nat} {xs : List (List UInt8)} (h : Xv p w ao cap xs) (hq : ∀ b, b < w.heap.size → p b → q b) : Xv q w ao cap xs := by
  refine ⟨fun h0 => ?_, h.most⟩
  obtain ⟨b, off, e, hp, hb, hc⟩ := h.row h0
  exact ⟨b, off, e, hq b hb hp, hb, hc⟩
set_option maxRecDepth 100000 in
/-- All but the first. -/
theorem Xv.rest {p : Nat → Prop} {w : World} {ao : Option Addr} {cap : Nat} {x : List UInt8} {xs : List (List UInt8)} (h : Xv p w ao cap (x :: xs)) :
    ∃ ao' b off, ao = some ⟨b, off, none⟩ ∧ p b ∧ b < w.heap.size ∧ w.cell? ⟨b, off, none⟩ = some (.string ⟨x.toArray⟩) ∧ (∀ w0, (Instr.slice 37 (.slice (some ⟨b, off, none⟩) (xs.length + 1) cap) (some (.int .i64 1)) none none).run Try.prog w0 = .ok (.slice ao' xs.length (cap - 1)) w0) ∧ Xv p w ao' (cap - 1) xs := by
  obtain ⟨b, off, rfl, hp, hb, hc⟩ := h.row (by simp)
  have hm := h.most
  simp only [List.length_cons] at hm hc
  have h0 := hc 0 (by omega)
  have hs := fun w0 => run_slice_l (P := Try.prog) w0 37 (some ⟨b, off, none⟩) (xs.length + 1) cap Try.underlying37 .i64 1 (by omega) (by omega)
  by_cases e1 : cap = 1
  · have e0 : xs.length = 0 := by omega
    have en := List.eq_nil_of_length_eq_zero e0
    subst en
    subst e1
    have q : ∃ ao', ∀ w0, (Instr.slice 37 (.slice (some ⟨b, off, none⟩) 1 1) (some (.int .i64 1)) none none).run Try.prog w0 = .ok (.slice ao' 0 0) w0 := by
      refine ⟨some ⟨b, off, none⟩, fun w0 => ?_⟩
      have := hs w0
      rw [size_text] at this
      simp [Result.andThen, sliced] at this
      exact this
    obtain ⟨ao', q⟩ := q
    exact ⟨ao', b, off, rfl, hp, hb, by simpa using h0, q, ⟨fun h => by simp at h, Nat.le_refl _⟩⟩
  · refine ⟨some ⟨b, off + 1, none⟩, b, off, rfl, hp, hb, by simpa using h0, fun w0 => ?_, ⟨fun _ => ⟨b, off + 1, rfl, hp, hb, fun i hi => ?_⟩, by omega⟩⟩
    · rw [hs w0, size_text]
      simp [Result.andThen, sliced, Addr.add, e1]
    · have := hc (i + 1) (by omega)
      rw [show off + 1 + i = off + (i + 1) by omega]
      simpa using this
theorem idx_mono (h : Nat → Int) (g k : Nat) : ∀ n, k ≤ n → (idx h k g).length ≤ (idx h n g).length
  | 0, hk => by
    obtain rfl : k = 0 := by omega
    exact Nat.le_refl _
  | n + 1, hk => by
    by_cases e : k = n + 1
    · subst e
      exact Nat.le_refl _
    · have := idx_mono h g k n (by omega)
      by_cases q : h n = (g : Int)
      · rw [idx_yes h n g q, List.length_append]; omega
      · rw [idx_no h n g q]; exact this
theorem Txs.set {w : World} {base g n cap : Nat} {ss : List (List UInt8)} (h : Txs w base (.slice (some ⟨g, 0, none⟩) n cap) ss) (k : Nat) (x : List UInt8) :
    Txs (w.setCell ⟨g, k, none⟩ (.string ⟨x.toArray⟩)) base (.slice (some ⟨g, 0, none⟩) n cap) (ss.set k x) ∧ w.frozen? ⟨g, k, none⟩ = false := by
  have hn : n = ss.length := by
    rcases h.2 with ⟨h', _⟩ | ⟨g', cap', cur, h', _⟩
    · simp at h'
    · simp at h'
      simpa using h'.2.1
  subst hn
  have h2 : w.ownsRow base 9 1 (.slice (some ⟨g, 0, none⟩) ss.length cap) ss.length (srow ss) := h
  refine ⟨?_, h2.frozenAt _⟩
  have h3 := (h2.stored k (.string ⟨x.toArray⟩)).1
  unfold Txs
  rw [List.length_set]
  have e : srow (ss.set k x) = (srow ss).set k (.string ⟨x.toArray⟩) := by
    unfold srow
    rw [List.map_set]
  rw [e]
  exact h3

set_option maxRecDepth 100000 in
set_option maxHeartbeats 2000000 in
theorem keep_any {w : World} {b T : Nat} {ov tv : Value} {z : Tn} (h : Tm w b T ov tv z) {g : Nat} (hg : g < 3) {xo : Option Addr} {xc : Nat} {xs : List (List UInt8)} (hx : Xv (fun x => x ≠ T ∧ tv.ownBlock ≠ some x) w xo xc xs) (hl : xs.length = (idx (oh z.ow) z.ow.length g).length) :
    Calls Try.prog 41 #[.pointer (some ⟨T, 0, none⟩), .int .i64 g, .slice xo xs.length xc] w fun e w' => e = .returned (.tuple #[]) ∧ Tm w' b T ov tv (z.keep g xs) ∧ Tstep T tv w w' := by
  have H1 := h.voted hg
  have KT : Tstep T tv w (w.setCell ⟨T, 2 + g, none⟩ (.bool true)) := (Kept.refl _ _).setCell (by simp) _
  have fg := h.free (2 + g)
  have cg : ∃ v, w.cell? ⟨T, 2 + g, none⟩ = some v := by
    obtain ⟨c2, c3, c4⟩ := h.cv
    have hc : g = 0 ∨ g = 1 ∨ g = 2 := by omega
    rcases hc with rfl | rfl | rfl
    · exact ⟨_, c2⟩
    · exact ⟨_, c3⟩
    · exact ⟨_, c4⟩
  obtain ⟨vg, cg⟩ := cg
  have HX : Hid (Xv (fun x => x ≠ T ∧ tv.ownBlock ≠ some x) (w.setCell ⟨T, 2 + g, none⟩ (.bool true)) xo xc xs) := hx.kept KT (fun _ q => q)
  have H : Hid (Tm (w.setCell ⟨T, 2 + g, none⟩ (.bool true)) b T ov tv { z with vo := z.vo.set g }) := H1
  have HK : Hid (Tstep T tv w (w.setCell ⟨T, 2 + g, none⟩ (.bool true))) := KT
  have HL : Hid (xs.length = (idx (oh z.ow) z.ow.length g).length) := hl
  have c0 := H1.c.1
  obtain ⟨oo, oc, rfl⟩ := h.ow.shape
  obtain ⟨to, tc, rfl, -, -⟩ := h.tx.shape
  have hf := h.few
  have hm := idx_most (oh z.ow) z.ow.length g
  have hxl : xs.length ≤ 4 := by omega
  have j0 : (0 : Int) ≤ (g : Int) := by omega
  have j1 : (g : Int) < 3 := by omega
  clear h H1 KT hx hl hm
  go_enter Try.func41, Try.ntmps41
  go_wp2_with fail
  generalize w.setCell ⟨T, 2 + g, none⟩ (.bool true) = w1 at *
  go_loopw [18, 2] (fun t u wr => ∃ (k : Nat) (ao : Option Addr) (c : Nat) (ys : List (List UInt8)), k ≤ z.ow.length ∧ t = .int .i64 k ∧ u = .slice ao ys.length c ∧ ys = xs.drop (idx (oh z.ow) k g).length ∧ Xv (fun x => x ≠ T ∧ (Value.slice to z.tx.length tc).ownBlock ≠ some x) wr ao c ys ∧ Tm wr b T (.slice oo z.ow.length oc) (.slice to z.tx.length tc) { z with vo := z.vo.set g, tx := puts (idx (oh z.ow) k g) xs z.tx } ∧ Tstep T (.slice to z.tx.length tc) w wr) (fun t _ _ => z.ow.length - (intOf t).toNat)
  case atStart => exact ⟨0, xo, xc, xs, Nat.zero_le _, rfl, rfl, rfl, HX.out, H.out, HK.out⟩
  case round =>
    obtain ⟨k, ao, c, ys, hk, rfl, rfl, hys, hX, hT, hK⟩ := hrel
    have HYs : Hid (ys = xs.drop (idx (oh z.ow) k g).length) := hys
    have HT : Hid (Tm wr b T (.slice oo z.ow.length oc) (.slice to z.tx.length tc) { z with vo := z.vo.set g, tx := puts (idx (oh z.ow) k g) xs z.tx }) := hT
    have HKr : Hid (Tstep T (.slice to z.tx.length tc) w wr) := hK
    have HXr : Hid (Xv (fun x => x ≠ T ∧ (Value.slice to z.tx.length tc).ownBlock ≠ some x) wr ao c ys) := hX
    clear hX hK hys H HX HK c0 cg fg
    by_cases hlt : k < z.ow.length
    · obtain ⟨gp, rfl, q1⟩ := hT.ow.at k hlt
      replace q1 : wr.cell? ⟨gp, k, none⟩ = some (.int .i64 (z.ow[k] : Nat)) := q1
      have i0 : (0 : Int) ≤ (k : Int) := by omega
      have i1 : (k : Int) < (z.ow.length : Int) := by omega
      by_cases e : z.ow[k] = g
      · have HI : Hid (idx (oh z.ow) (k + 1) g = idx (oh z.ow) k g ++ [k]) := idx_yes _ _ _ (by rw [oh_at hlt, e])
        have hj : (idx (oh z.ow) k g).length < xs.length := by
          have h1 := idx_mono (oh z.ow) g (k + 1) z.ow.length (by omega)
          rw [HI.out, List.length_append, List.length_singleton] at h1
          have := HL.out
          omega
        have HJ : Hid ((idx (oh z.ow) k g).length < xs.length) := hj
        have HD : Hid (xs.drop (idx (oh z.ow) k g).length = xs[(idx (oh z.ow) k g).length] :: xs.drop ((idx (oh z.ow) k g).length + 1)) := List.drop_eq_getElem_cons hj
        have HP : Hid (puts (idx (oh z.ow) (k + 1) g) xs z.tx = (puts (idx (oh z.ow) k g) xs z.tx).set k xs[(idx (oh z.ow) k g).length]) := by
          show _ = _
          rw [HI.out, puts_snoc _ _ _ _ hj]
          rfl
        have HJ1 : Hid ((idx (oh z.ow) (k + 1) g).length = (idx (oh z.ow) k g).length + 1) := by
          show _ = _
          rw [HI.out, List.length_append, List.length_singleton]
        rw [e] at q1
        obtain ⟨y, yt, rfl⟩ : ∃ y yt, ys = y :: yt := ⟨_, _, HYs.out.trans HD.out⟩
        have hyy := HYs.out.trans HD.out
        simp only [List.cons.injEq] at hyy
        have HY1 : Hid (y = xs[(idx (oh z.ow) k g).length]) := hyy.1
        have HY2 : Hid (yt = xs.drop (idx (oh z.ow) (k + 1) g).length) := by
          show _ = _
          rw [HJ1.out]; exact hyy.2
        obtain ⟨ao', xb, off, rfl, hpx, hbx, cx, hsl, hXn⟩ := HXr.out.rest
        have HXn : Hid (Xv (fun x => x ≠ T ∧ (Value.slice to z.tx.length tc).ownBlock ≠ some x) wr ao' (c - 1) yt) := hXn
        have htl := HT.out.len
        have hpl : (puts (idx (oh z.ow) k g) xs z.tx).length = z.tx.length := puts_length _ _ _
        simp only [hpl] at htl
        obtain ⟨tg, htg⟩ : ∃ tg, to = some ⟨tg, 0, none⟩ := by
          obtain ⟨ao9, cap9, e9, -, h9⟩ := HT.out.tx.shape
          injection e9 with e91 e92 e93
          obtain ⟨g9, h9⟩ := h9 (by rw [hpl]; omega)
          exact ⟨g9, e91.trans h9⟩
        subst htg
        have hst := HT.out.tx.set k y
        obtain ⟨u0, hcell⟩ : ∃ u0, wr.cell? ⟨tg, k, none⟩ = some u0 := ⟨_, HT.out.tx.cell k (by rw [hpl]; omega)⟩
        have hfr := hst.2
        have ht1 := HT.out.c.2.1
        have htT := HT.out.tvT
        have hTl := HT.out.lt
        have i2 : (k : Int) < (z.tx.length : Int) := by omega
        have C1 : ∀ W, Kept (fun x => (Value.slice (some ⟨tg, 0, none⟩) z.tx.length tc).ownBlock ≠ some x) wr W → W.cell? ⟨T, 1, none⟩ = some (.slice (some ⟨tg, 0, none⟩) z.tx.length tc) := fun W q => (kept_cell q hTl htT).trans ht1
        have CX : ∀ W, Kept (fun x => (Value.slice (some ⟨tg, 0, none⟩) z.tx.length tc).ownBlock ≠ some x) wr W → W.cell? ⟨xb, off, none⟩ = some (.string ⟨y.toArray⟩) := fun W q => (kept_cell q hbx hpx.2).trans cx
        have hcd : wr.drew.cell? ⟨tg, k, none⟩ = some u0 := hcell
        have hfd : wr.drew.frozen? ⟨tg, k, none⟩ = false := hfr
        have HS : Hid (Txs (wr.setCell ⟨tg, k, none⟩ (.string ⟨y.toArray⟩)) b (.slice (some ⟨tg, 0, none⟩) z.tx.length tc) ((puts (idx (oh z.ow) k g) xs z.tx).set k y)) := hst.1
        clear e hT hst hpx hbx cx hXn htl hyy htT hTl ht1 hj
        go_wp2_with fail
        go_region_held3 (fun W => Kept (fun x => (Value.slice (some ⟨tg, 0, none⟩) z.tx.length tc).ownBlock ≠ some x) wr W) (first | assumption | (repeat (first | assumption | exact Kept.refl _ _ | refine Kept.drew ?_ | refine Kept.setCell ?_ (by simp [Value.ownBlock]) _))) (fail)
        go_wp2_with fail
        go_roundw
        case rel =>
          have kS : Kept (fun x => (Value.slice (some ⟨tg, 0, none⟩) z.tx.length tc).ownBlock ≠ some x) wr (wr.setCell ⟨tg, k, none⟩ (.string ⟨y.toArray⟩)).drew := ((Kept.refl _ _).setCell (by simp [Value.ownBlock]) _).drew
          refine ⟨k + 1, ao', c - 1, yt, by omega, by go_num, rfl, HY2.out, HXn.out.kept kS (fun _ q => q.2), ?_, HKr.out.trans (kS.mono (fun _ _ q => q.2))⟩
          have hS : Txs (wr.setCell ⟨tg, k, none⟩ (.string ⟨y.toArray⟩)).drew b (.slice (some ⟨tg, 0, none⟩) z.tx.length tc) ((puts (idx (oh z.ow) k g) xs z.tx).set k y) := HS.out.kept (p := fun _ => True) ((Kept.refl _ _).drew) (fun _ _ => trivial)
          have := HT.out.texts hS (by simp) kS
          rw [HP.out, ← HY1.out]
          exact this
        case measure => simp [intOf]; omega
      · have HI : Hid (idx (oh z.ow) (k + 1) g = idx (oh z.ow) k g) := idx_no _ _ _ (by rw [oh_at hlt]; omega)
        have hne : ((z.ow[k] : Int) == (g : Int)) = false := by simp; omega
        generalize z.ow[k] = y at *
        clear e hT
        go_wp2_with fail
        go_roundw
        case rel => exact ⟨k + 1, ao, c, ys, by omega, by go_num, rfl, by rw [HI.out]; exact HYs.out, HXr.out, by rw [HI.out]; exact HT.out, HKr.out⟩
        case measure => simp [intOf]; omega
    · have hke : k = z.ow.length := by omega
      subst hke
      clear hT
      go_wp2_with fail
      go_end0
      exact ⟨rfl, HT.out, HKr.out⟩

end Go.Proofs.Ytebpkhemkdgbjaa
