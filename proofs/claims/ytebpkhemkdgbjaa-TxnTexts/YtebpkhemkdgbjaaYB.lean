/-
  The books' Read and Reply; New refused; a row of one text, of one operation.
-/
import Derived.Test.YtebpkhemkdgbjaaYN
import Derived.Test.YtebpkhemkdgbjaaWBook
import Derived.Test.YtebpkhemkdgbjaaMBx
namespace Go.Proofs.Ytebpkhemkdgbjaa
open Go.RowKit

theorem Try.sizeOp : (Try.prog.info? 32).map (·.size) = some 4 := by kernel_rfl
theorem results_op {fn : Func} {p : Nat} (h : fn.results = #[.cell p 32]) (tmps : Array Value) (w : World) {g : Nat} {x y z u : Value} {t : TypeId} {fr : Nat × Nat} (hp : tmps.getD p undef = .pointer (some ⟨g, 0, none⟩)) (hg : w.heap[g]? = some (.cells #[x, y, z, u] t fr)) :
    (results fn tmps).run Try.prog w = .ok (.agg #[x, y, z, u]) w :=
  results_cell_row h tmps w g t #[x, y, z, u] fr _ hp hg Try.underlying32 rfl Try.sizeOp
theorem read_any {w : World} (s : List UInt8) : Calls Try.prog 10 #[.string ⟨s.toArray⟩] w fun e w' => e = .returned (.agg #[.int .i64 5, .string ⟨s.toArray⟩, .string ⟨#[]⟩, .int .i64 0]) ∧ Kept (fun _ => True) w w' := by
  go_enter Try.func10, Try.ntmps10
  go_wp2_with fail
  exact bodyPost_ret (results_op rfl _ _ rfl (heap_alloc_new w _)) rfl ⟨rfl, (Kept.refl _ _).alloc _⟩

set_option maxRecDepth 100000 in
set_option maxHeartbeats 1000000 in
/-- The book's Reply of two replies that are the same. -/
theorem reply_same {w : World} {b1 b2 : Nat} {o1 o2 : Option Addr} {c1 c2 : Nat} {xs : List (List UInt8)} {oc ar wy : Int} (h1 : Txs w b1 (.slice o1 xs.length c1) xs) (h2 : Txs w b2 (.slice o2 xs.length c2) xs) (hl : xs.length ≤ 1000000) :
    Calls Try.prog 17 #[.agg #[.int .i64 oc, .slice o1 xs.length c1, .int .i64 ar, .int .i64 wy], .agg #[.int .i64 oc, .slice o2 xs.length c2, .int .i64 ar, .int .i64 wy]] w fun e w' => e = .returned (.bool true) ∧ Kept (fun _ => True) w w' := by
  have hX := heap_alloc_new w (.cells #[.int .i64 oc, .slice o1 xs.length c1, .int .i64 ar, .int .i64 wy] 45)
  have hY := heap_alloc_new (w.alloc (.cells #[.int .i64 oc, .slice o1 xs.length c1, .int .i64 ar, .int .i64 wy] 45)) (.cells #[.int .i64 oc, .slice o2 xs.length c2, .int .i64 ar, .int .i64 wy] 45)
  have e1 : (w.alloc (.cells #[.int .i64 oc, .slice o1 xs.length c1, .int .i64 ar, .int .i64 wy] 45)).heap.size = w.heap.size + 1 := by simp
  rw [e1] at hY
  have kk : Kept (fun _ => True) w ((w.alloc (.cells #[.int .i64 oc, .slice o1 xs.length c1, .int .i64 ar, .int .i64 wy] 45)).alloc (.cells #[.int .i64 oc, .slice o2 xs.length c2, .int .i64 ar, .int .i64 wy] 45)) := ((Kept.refl _ _).alloc _).alloc _
  have hX2 := ((Kept.refl (fun _ => True) (w.alloc (.cells #[.int .i64 oc, .slice o1 xs.length c1, .int .i64 ar, .int .i64 wy] 45))).alloc (.cells #[.int .i64 oc, .slice o2 xs.length c2, .int .i64 ar, .int .i64 wy] 45)).block _ (lt_of_block hX) trivial |>.trans hX
  obtain ⟨x0, x1, x2, x3⟩ := rfour_cell hX2
  obtain ⟨y0, y1, y2, y3⟩ := rfour_cell hY
  have ct := texts_any (h1.kept kk (fun _ _ => trivial)) (h2.kept kk (fun _ _ => trivial)) (by omega)
  have ed : decide (xs = xs) = true := decide_eq_true rfl
  rw [ed] at ct
  have KK : Hid (Kept (fun _ => True) w ((w.alloc (.cells #[.int .i64 oc, .slice o1 xs.length c1, .int .i64 ar, .int .i64 wy] 45)).alloc (.cells #[.int .i64 oc, .slice o2 xs.length c2, .int .i64 ar, .int .i64 wy] 45))) := kk
  clear hX hY e1 kk hX2 h1 h2 ed
  go_enter Try.func17, Try.ntmps17
  go_wp2_with (go_at_call 52; (with_reducible refine Calls.mono ct ?_); rintro e w3 ⟨rfl, m3, rfl⟩)
  go_ret
  exact ⟨rfl, KK.out.drewN _⟩

theorem Tm.low {w : World} {b b' T : Nat} {ov tv : Value} {z : Tn} (h : Tm w b T ov tv z) (hb : b' ≤ b) : Tm w b' T ov tv z :=
  ⟨h.self, Its.low h.ow hb, Txs.low h.tx hb, h.len, h.lt3, h.few, Nat.le_trans hb h.tb⟩
/-- One operation in a block of its own. -/
theorem Ov.one (w : World) (o : Oz) : Ov (w.alloc (.cells #[.int .i64 o.kind, .string ⟨o.cas.toArray⟩, .string ⟨o.name.toArray⟩, .int .i64 o.n] 32)) (some ⟨w.heap.size, 0, none⟩) [o] := by
  have h := heap_alloc_new w (.cells #[.int .i64 o.kind, .string ⟨o.cas.toArray⟩, .string ⟨o.name.toArray⟩, .int .i64 o.n] 32)
  obtain ⟨c0, c1, c2, c3⟩ := rfour_cell h
  refine ⟨fun _ => ⟨_, 0, rfl, lt_of_block h, fun i hi => ?_⟩⟩
  obtain rfl : i = 0 := by simpa using hi
  exact ⟨c0, c1, c2, c3⟩
/-- Texts in a block of their own. -/
theorem Xv.made {p : Nat → Prop} (w : World) (xs : List (List UInt8)) (hp : p w.heap.size) : Xv p (w.alloc (.cells (srow xs).toArray 9)) (some ⟨w.heap.size, 0, none⟩) xs.length xs := by
  have h := heap_alloc_new w (.cells (srow xs).toArray 9)
  refine ⟨fun _ => ⟨_, 0, rfl, hp, lt_of_block h, fun i hi => ?_⟩, Nat.le_refl _⟩
  rw [cell_of_row _ _ _ _ _ _ h]
  have := srow_get xs i hi
  simpa using this

theorem Txs.made (w : World) (base : Nat) (xs : List (List UInt8)) (hb : base ≤ w.heap.size) (hl : xs.length ≤ 1000000) : Txs (w.alloc (.cells (srow xs).toArray 9)) base (.slice (some ⟨w.heap.size, 0, none⟩) xs.length xs.length) xs := by
  have h := World.ownsRow_lit (base := base) (e := 9) (size := 1) w (srow xs).toArray xs.length hb (by unfold maxLen; omega) (by simp [srow])
  simpa [Txs] using h
/-- A transaction stays while an older one, or a younger one, turns. -/
theorem Tm.under {w w' : World} {b T U : Nat} {ov tv uv : Value} {z : Tn} (h : Tm w b T ov tv z) (k : Tstep U uv w w') (hU : U < b) (huv : ∀ x, uv.ownBlock = some x → x < b) : Tm w' b T ov tv z :=
  h.kept k ⟨fun e => by have := h.tb; omega, fun e => by have := huv _ e; have := h.tb; omega⟩ (fun x hx => ⟨fun e => by have := Its.ge h.ow hx; omega, fun e => by have := huv _ e; have := Its.ge h.ow hx; omega⟩) (fun x hx => ⟨fun e => by have := Txs.ge h.tx hx; omega, fun e => by have := huv _ e; have := Txs.ge h.tx hx; omega⟩)
theorem Tm.above {w0 w w' : World} {b T U : Nat} {ov tv uv : Value} {z z0 : Tn} (h0 : Tm w0 b T ov tv z0) (h : Tm w b T ov tv z) (k : Tstep U uv w w') (hU : w0.heap.size ≤ U) (huv : ∀ x, uv.ownBlock = some x → w0.heap.size ≤ x) : Tm w' b T ov tv z :=
  h.kept k ⟨fun e => by have := h0.lt; omega, fun e => by have := huv _ e; have := h0.lt; omega⟩ (fun x hx => ⟨fun e => by have := Its.lt h0.ow hx; omega, fun e => by have := huv _ e; have := Its.lt h0.ow hx; omega⟩) (fun x hx => ⟨fun e => by have := Txs.lt h0.tx hx; omega, fun e => by have := huv _ e; have := Txs.lt h0.tx hx; omega⟩)
theorem Xv.nil (p : Nat → Prop) (w : World) (ao : Option Addr) (c : Nat) : Xv p w ao c [] := ⟨fun h => by simp at h, Nat.zero_le _⟩
/-- A Vote whose outcome is known. -/
theorem vote_to {w : World} {b T : Nat} {ov tv : Value} {z z' : Tn} (h : Tm w b T ov tv z) (g : Int) (yes : Bool) {xo : Option Addr} {xc : Nat} {xs : List (List UInt8)} (hx : Xv (fun x => x ≠ T ∧ tv.ownBlock ≠ some x) w xo xc xs) (ar wy : Int) (e : z.vote g yes xs ar wy = z') :
    Calls Try.prog 12 #[.pointer (some ⟨T, 0, none⟩), .int .i64 g, .bool yes, .slice xo xs.length xc, .int .i64 ar, .int .i64 wy] w fun e w' => e = .returned (.tuple #[]) ∧ Tm w' b T ov tv z' ∧ Tstep T tv w w' := by
  have := vote_any h g yes hx ar wy
  rw [e] at this
  exact this
theorem vote_made {w : World} {b T : Nat} {ov tv : Value} {z z' : Tn} (h : Tm w b T ov tv z) (g : Int) (yes : Bool) (xs : List (List UInt8)) (ar wy : Int) (e : z.vote g yes xs ar wy = z') :
    Calls Try.prog 12 #[.pointer (some ⟨T, 0, none⟩), .int .i64 g, .bool yes, .slice (some ⟨w.heap.size, 0, none⟩) xs.length xs.length, .int .i64 ar, .int .i64 wy] (w.alloc (.cells (srow xs).toArray 9)) fun e w' => e = .returned (.tuple #[]) ∧ Tm w' b T ov tv z' ∧ Tstep T tv (w.alloc (.cells (srow xs).toArray 9)) w' :=
  vote_to (h.all ((Kept.refl _ _).alloc _)) g yes (Xv.made (p := fun x => x ≠ T ∧ tv.ownBlock ≠ some x) w xs ⟨fun e => by have := h.lt; omega, fun e => by have := Txs.lt h.tx e; omega⟩) ar wy e
set_option maxRecDepth 100000 in
set_option maxHeartbeats 1000000 in
theorem new_no {w : World} (tx : List UInt8) {ao : Option Addr} {cap : Nat} {ep : Int} {ps : List Pa} (h : Pv w ao ps) (hl : ps.length ≤ 1000000) {am : Option Addr} {n cm : Nat} (hr : tx.isEmpty = true ∨ n = 0 ∨ 4 < n ∨ rgt ep ps = false) (hn : n ≤ 140737488355328) :
    Calls Try.prog 9 #[.string ⟨tx.toArray⟩, .slice am n cm, .agg #[.int .i64 ep, .slice ao ps.length cap]] w fun e w' => e = .returned (.tuple #[.pointer none, .int .i64 1]) ∧ Kept (fun _ => True) w w' := by
  have HB : Hid (Bx (w.alloc (.cells #[.int .i64 ep, .slice ao ps.length cap] 24)) w.heap.size ao cap ep ps) := Bx.made h
  have HK : Hid (Kept (fun _ => True) w (w.alloc (.cells #[.int .i64 ep, .slice ao ps.length cap] 24))) := (Kept.refl _ _).alloc _
  have c := right_any (cap := cap) (ep := ep) HB.out.view (by omega)
  obtain ⟨x0, x1⟩ := HB.out.cells
  clear h
  cases ht : tx.isEmpty
  · by_cases h0 : n = 0
    · subst h0
      clear hr c
      go_enter Try.func9, Try.ntmps9
      go_wp2_with fail
      go_ret2
      exact ⟨rfl, HK.out⟩
    · have n0b : ((n : Int) == 0) = false := by rw [beq_eq_false_iff_ne]; omega
      by_cases h4 : 4 < n
      · have n4 : (4 : Int) < (n : Int) := by omega
        clear hr c h4 h0
        go_enter Try.func9, Try.ntmps9
        go_wp2_with fail
        go_ret2
        exact ⟨rfl, HK.out⟩
      · have hrf : rgt ep ps = false := by
          rcases hr with q | q | q | q
          · rw [ht] at q; cases q
          · omega
          · omega
          · exact q
        rw [hrf] at c
        have n4 : ¬ ((4 : Int) < (n : Int)) := by omega
        clear hr h4 h0 hrf
        go_enter Try.func9, Try.ntmps9
        go_wp2_with (go_at_call 35; (with_reducible refine Calls.mono c ?_); rintro e w2 ⟨rfl, k2⟩)
        go_ret2
        exact ⟨rfl, HK.out.trans k2⟩
  · clear hr c
    go_enter Try.func9, Try.ntmps9
    go_wp2_with fail
    go_ret2
    exact ⟨rfl, HK.out⟩

end Go.Proofs.Ytebpkhemkdgbjaa

namespace Go.Proofs.Ytebpkhemkdgbjaa
open Go.RowKit

theorem newP_one : newP 1 = [⟨0, 256, 0⟩] := rfl
theorem hof_one (os : List Oz) (k : Nat) : hof (newP 1) os k = 0 := by
  rw [newP_one]
  unfold hof
  split
  · unfold ownH
    split
    · rfl
    · rfl
  · rfl
theorem owl_one (os : List Oz) : owl (hof (newP 1) os) os.length = List.replicate os.length 0 := by
  apply List.ext_getElem
  · simp [owl]
  · intro i h1 h2
    simp [owl, hof_one]
/-- A Map of one group, and New of it. -/
theorem newt_one {w : World} (tx : List UInt8) (ht : tx.isEmpty = false) {ao : Option Addr} {cap : Nat} (h : Pv w ao (newP 1)) {am : Option Addr} {cm : Nat} {os : List Oz} (hm : Ov w am os) (hs : ∀ o ∈ os, o.cas.length ≤ 140737488355328) (h0 : 0 < os.length) (h4 : os.length ≤ 4) :
    Calls Try.prog 9 #[.string ⟨tx.toArray⟩, .slice am os.length cm, .agg #[.int .i64 1, .slice ao 1 cap]] w fun e w' => ∃ T ov tv, e = .returned (.tuple #[.pointer (some ⟨T, 0, none⟩), .int .i64 0]) ∧ Tm w' w.heap.size T ov tv (rawT (List.replicate os.length 0)) ∧ Kept (fun _ => True) w w' := by
  have := new_txn (cap := cap) (cm := cm) tx ht h (ep := 1) (new_rgt (k := 0) (by decide)) hm hs h0 h4
  rw [owl_one] at this
  exact this

set_option maxRecDepth 100000 in
set_option maxHeartbeats 4000000 in
theorem known_txn (w : World) : Calls Try.prog 20 #[] w fun e w' => e = .returned (.bool true) ∧ Kept (fun _ => True) w w' := by
  have cn : Calls Try.prog 8 #[.int .i64 1] w _ := new_any (w := w) 1 (by decide) (by decide)
  have hn1 : (newP 1).length = 1 := rfl
  rw [hn1] at cn
  go_enter Try.func20, Try.ntmps20
  go_wp2_with (go_at_call 8; (with_reducible refine Calls.mono cn ?_); rintro e w1 ⟨a0, p0, rfl, hp, k1⟩; have hv := hp.view)
  have HB : Hid (Bx (w1.alloc (.cells #[.int .i64 1, .slice a0 1 p0] 24)) w1.heap.size a0 p0 1 (newP 1)) := Bx.made hv
  have HK : Hid (Kept (fun _ => True) w (w1.alloc (.cells #[.int .i64 1, .slice a0 1 p0] 24))) := k1.alloc _
  clear hp hv k1 cn hn1
  generalize w1.alloc (.cells #[.int .i64 1, .slice a0 1 p0] 24) = w2 at *
  generalize w1.heap.size = X at *
  have M0 : ∀ W, Kept (fun _ => True) w2 W → W.cell? ⟨X, 0, none⟩ = some (.int .i64 1) := fun W q => (HB.out.all q).cells.1
  have M1 : ∀ W, Kept (fun _ => True) w2 W → W.cell? ⟨X, 1, none⟩ = some (.slice a0 1 p0) := fun W q => (HB.out.all q).cells.2
  have CN1 : Hid (∀ W am, Kept (fun _ => True) w2 W → Ov W am [⟨5, [97], [], 0⟩] → Calls Try.prog 9 #[.string ⟨#[116]⟩, .slice am 1 1, .agg #[.int .i64 1, .slice a0 1 p0]] W fun e w' => ∃ T ov tv, e = .returned (.tuple #[.pointer (some ⟨T, 0, none⟩), .int .i64 0]) ∧ Tm w' W.heap.size T ov tv (rawT [0]) ∧ Kept (fun _ => True) W w') := fun W am k hm => newt_one [116] rfl (HB.out.all k).view hm (by simp) (by decide) (by decide)
  have CN2 : Hid (∀ W am, Kept (fun _ => True) w2 W → Ov W am [⟨5, [97], [], 0⟩] → Calls Try.prog 9 #[.string ⟨#[117]⟩, .slice am 1 1, .agg #[.int .i64 1, .slice a0 1 p0]] W fun e w' => ∃ T ov tv, e = .returned (.tuple #[.pointer (some ⟨T, 0, none⟩), .int .i64 0]) ∧ Tm w' W.heap.size T ov tv (rawT [0]) ∧ Kept (fun _ => True) W w') := fun W am k hm => newt_one [117] rfl (HB.out.all k).view hm (by simp) (by decide) (by decide)
  go_region_held3 (fun W => Kept (fun _ => True) w2 W) (first | assumption | (repeat (first | assumption | exact Kept.refl _ _ | refine Kept.drew ?_ | refine Kept.alloc ?_ _))) (first
    | (go_at_call 10; (with_reducible refine Calls.mono (read_any [97]) ?_); rintro e w3 ⟨rfl, k3⟩; have s3 : Kept (fun _ => True) w2 w3 := (Kept.refl _ _).drew.trans k3; clear k3)
    | (go_at_call 9; (with_reducible refine Calls.mono (CN1.out _ _ (Kept.alloc s3 _) (Ov.one w3 ⟨5, [97], [], 0⟩)) ?_); rintro e w4 ⟨T, ov, tv, rfl, h4, k4⟩; have s4 : Kept (fun _ => True) w2 w4 := (Kept.alloc s3 _).trans k4; have H4 : Hid (Tm w4 w2.heap.size T ov tv (rawT [0])) := h4.low (Kept.alloc s3 _).size; clear h4 k4))
  clear M0 M1 s3 CN1
  have HS4 : Hid (Kept (fun _ => True) w2 w4) := s4
  have M0 : ∀ W, Kept (fun _ => True) w4 W → W.cell? ⟨X, 0, none⟩ = some (.int .i64 1) := fun W q => (HB.out.all (HS4.out.trans q)).cells.1
  have M1 : ∀ W, Kept (fun _ => True) w4 W → W.cell? ⟨X, 1, none⟩ = some (.slice a0 1 p0) := fun W q => (HB.out.all (HS4.out.trans q)).cells.2
  clear s4
  go_wp2_with fail
  go_region_held3 (fun W => Kept (fun _ => True) w4 W) (first | assumption | (repeat (first | assumption | exact Kept.refl _ _ | refine Kept.drew ?_ | refine Kept.alloc ?_ _))) (first
    | (go_at_call 10; (with_reducible refine Calls.mono (read_any [97]) ?_); rintro e w5 ⟨rfl, k5⟩; have s5 : Kept (fun _ => True) w4 w5 := (Kept.refl _ _).drew.trans k5; clear k5)
    | (go_at_call 9; (with_reducible refine Calls.mono (CN2.out _ _ (HS4.out.trans (Kept.alloc s5 _)) (Ov.one w5 ⟨5, [97], [], 0⟩)) ?_); rintro e w6 ⟨U, ou, uv, rfl, h6, k6⟩; have s6 : Kept (fun _ => True) w4 w6 := (Kept.alloc s5 _).trans k6; have H6 : Hid (Tm w6 w4.heap.size U ou uv (rawT [0])) := h6.low (Kept.alloc s5 _).size; clear h6 k6))
  have HS6 : Hid (Kept (fun _ => True) w4 w6) := s6
  clear M0 M1 s5 CN2 s6 HB
  have HTU : Hid (T < w4.heap.size ∧ (∀ x, tv.ownBlock = some x → x < w4.heap.size) ∧ w4.heap.size ≤ U ∧ (∀ x, uv.ownBlock = some x → w4.heap.size ≤ x)) := ⟨H4.out.lt, fun x hx => Txs.lt H4.out.tx hx, H6.out.tb, fun x hx => Txs.ge H6.out.tx hx⟩
  have HT0 : Hid (w.heap.size ≤ T ∧ (∀ x, tv.ownBlock = some x → w.heap.size ≤ x) ∧ w.heap.size ≤ U ∧ (∀ x, uv.ownBlock = some x → w.heap.size ≤ x)) := ⟨Nat.le_trans HK.out.size H4.out.tb, fun x hx => Nat.le_trans HK.out.size (Txs.ge H4.out.tx hx), Nat.le_trans (HK.out.trans HS4.out).size H6.out.tb, fun x hx => Nat.le_trans (HK.out.trans HS4.out).size (Txs.ge H6.out.tx hx)⟩
  have e1 : (rawT [0]).vote 0 true [[120]] 0 0 = ⟨[0], [[120]], ⟨true, false, false⟩, B3.none, 1, 0, 0⟩ := by kernel_rfl
  have e2 : (rawT [0]).late = ⟨[0], [[]], B3.none, B3.none, 2, 0, 0⟩ := by kernel_rfl
  have e3 : (⟨[0], [[]], B3.none, B3.none, 2, 0, 0⟩ : Tn).vote 0 true [[120]] 0 0 = ⟨[0], [[]], B3.none, B3.none, 2, 0, 0⟩ := by kernel_rfl
  have HT6 : Hid (Tm w6 w2.heap.size T ov tv (rawT [0])) := H4.out.all HS6.out
  have c7 : ∀ W, Kept (fun _ => True) w6 W → Calls Try.prog 12 #[.pointer (some ⟨T, 0, none⟩), .int .i64 0, .bool true, .slice (some ⟨w6.heap.size, 0, none⟩) 1 1, .int .i64 0, .int .i64 0] (w6.alloc (.cells #[.string ⟨#[120]⟩] 9)) _ := fun _ _ => vote_any (H4.out.all (HS6.out.alloc _)) 0 true (Xv.made (p := fun x => x ≠ T ∧ tv.ownBlock ≠ some x) w6 [[120]] ⟨fun e => by have := HT6.out.lt; omega, fun e => by have := Txs.lt HT6.out.tx e; omega⟩) 0 0
  have c7 := c7 w6 (Kept.refl _ _)
  rw [e1] at c7
  go_wp2_with (go_at_call 12; (with_reducible refine Calls.mono c7 ?_); rintro e w7 ⟨rfl, h7, k7⟩; have H7 : Hid (Tm w7 w2.heap.size T ov tv ⟨[0], [[120]], ⟨true, false, false⟩, B3.none, 1, 0, 0⟩) := h7; have HU7 : Hid (Tm w7 w4.heap.size U ou uv (rawT [0])) := (H6.out.all ((Kept.refl _ _).alloc _)).under k7 HTU.out.1 HTU.out.2.1; have HK7 : Hid (Kept (fun _ => True) w w7) := ((HK.out.trans HS4.out).trans (HS6.out.alloc _)).then k7 (fun i hi _ => ⟨fun e => by have := HT0.out.1; omega, fun e => by have := HT0.out.2.1 _ e; omega⟩); have c8 := late_any HU7.out; clear h7 k7)
  clear c7 e1 HT6
  rw [e2] at c8
  go_wp2_with (go_at_call 14; (with_reducible refine Calls.mono c8 ?_); rintro e w8 ⟨rfl, h8, k8⟩; have H8 : Hid (Tm w8 w4.heap.size U ou uv ⟨[0], [[]], B3.none, B3.none, 2, 0, 0⟩) := h8; have HT8 : Hid (Tm w8 w2.heap.size T ov tv ⟨[0], [[120]], ⟨true, false, false⟩, B3.none, 1, 0, 0⟩) := H4.out.above H7.out k8 HTU.out.2.2.1 HTU.out.2.2.2; have HK8 : Hid (Kept (fun _ => True) w w8) := HK7.out.then k8 (fun i hi _ => ⟨fun e => by have := HT0.out.2.2.1; omega, fun e => by have := HT0.out.2.2.2 _ e; omega⟩); clear h8 k8)
  have c9 : ∀ W, Kept (fun _ => True) w8 W → Calls Try.prog 12 #[.pointer (some ⟨U, 0, none⟩), .int .i64 0, .bool true, .slice (some ⟨w8.heap.size, 0, none⟩) 1 1, .int .i64 0, .int .i64 0] (w8.alloc (.cells #[.string ⟨#[120]⟩] 9)) _ := fun _ _ => vote_any (H8.out.all (Kept.alloc (Kept.refl _ _) _)) 0 true (Xv.made (p := fun x => x ≠ U ∧ uv.ownBlock ≠ some x) w8 [[120]] ⟨fun e => by have := H8.out.lt; omega, fun e => by have := Txs.lt H8.out.tx e; omega⟩) 0 0
  have c9 := c9 w8 (Kept.refl _ _)
  rw [e3] at c9
  clear H7 HU7 HK7 c8 e2 e3
  go_wp2_with (go_at_call 12; (with_reducible refine Calls.mono c9 ?_); rintro e w9 ⟨rfl, h9, k9⟩; have H9 : Hid (Tm w9 w4.heap.size U ou uv ⟨[0], [[]], B3.none, B3.none, 2, 0, 0⟩) := h9; have HT9 : Hid (Tm w9 w2.heap.size T ov tv ⟨[0], [[120]], ⟨true, false, false⟩, B3.none, 1, 0, 0⟩) := H4.out.above (HT8.out.all ((Kept.refl _ _).alloc _)) k9 HTU.out.2.2.1 HTU.out.2.2.2; have HK9 : Hid (Kept (fun _ => True) w w9) := (HK8.out.alloc _).then k9 (fun i hi _ => ⟨fun e => by have := HT0.out.2.2.1; omega, fun e => by have := HT0.out.2.2.2 _ e; omega⟩); have c10 := outcome_any HT9.out; have c11 : Calls Try.prog 18 #[.pointer (some ⟨T, 0, none⟩)] w9 fun e w' => ∃ ro rc, e = .returned (.agg #[.int .i64 1, .slice ro 1 rc, .int .i64 0, .int .i64 0]) ∧ Txs w' w9.heap.size (.slice ro 1 rc) [[120]] ∧ Kept (fun _ => True) w9 w' := reply_any HT9.out; clear h9 k9)
  clear c9
  go_wp2_with (first
    | (go_at_call 13; (with_reducible refine Calls.mono c10 ?_); rintro e w10 ⟨rfl, hw10⟩; obtain rfl := hw10)
    | (go_at_call 18; (with_reducible refine Calls.mono c11 ?_); rintro e w11 ⟨ro, rc, rfl, h11, k11⟩; have c12 := reply_same (oc := 1) (ar := 0) (wy := 0) (Txs.kept h11 ((Kept.refl (fun _ => True) w11).alloc (.cells #[.string ⟨#[120]⟩] 9)) (fun _ _ => trivial)) (Txs.made w11 0 [[120]] (Nat.zero_le _) (by decide)) (by decide); have K11 : Hid (Kept (fun _ => True) w w11) := HK9.out.trans k11; clear h11)
    | (go_at_call 17; (with_reducible refine Calls.mono c12 ?_); rintro e w12 ⟨rfl, k12⟩; have c13 := outcome_any (H9.out.all (k11.trans ((Kept.alloc (Kept.refl _ _) _).trans k12))); have K12 : Hid (Kept (fun _ => True) w w12) := (K11.out.alloc _).trans k12; clear k12 k11)
    | (go_at_call 13; (with_reducible refine Calls.mono c13 ?_); rintro e w13 ⟨rfl, hw13⟩; obtain rfl := hw13))
  go_ret
  exact ⟨rfl, K12.out⟩

end Go.Proofs.Ytebpkhemkdgbjaa
