/-
  A transaction: readOwners, readGroups.
-/
import Derived.Test.YtebpkhemkdgbjaaYS
import Derived.Test.YtebpkhemkdgbjaaXRd1
import Derived.Test.YtebpkhemkdgbjaaVOrd
namespace Go.Proofs.Ytebpkhemkdgbjaa
open Go.RowKit

theorem Ba.put {w : World} {A : Nat} {s : B3} (h : Ba w A s) (b : Bool) {g : Nat} (hg : g < 3) : Ba (w.setCell ⟨A, g, none⟩ (.bool b)) A (s.put b g) := by
  refine Af.congr (Af.set h g (.bool b)) (fun i _ => ?_)
  simp only [B3.at_put _ _ _ _ hg]
  split <;> rfl

set_option maxRecDepth 100000 in
set_option maxHeartbeats 2000000 in
theorem readGroups_any {w : World} {B R : Nat} {bs : List UInt8} {cap : Nat} {s : RS} (h : Rs w B R bs cap s) :
    Calls Try.prog 46 #[.pointer (some ⟨B, 0, none⟩)] w fun e w' => e = .returned (rGr bs s 3).1.val ∧ Rs w' B R bs cap (rGr bs s 3).2 ∧ Kept (· ≠ B) w w' := by
  have h2 := Ba.two w B3.none B3.none
  have HRd : Hid (Rs ((w.alloc (.cells #[.bool false, .bool false, .bool false] 81)).alloc (.cells #[.bool false, .bool false, .bool false] 81)) B R bs cap s) := h.kept h2.2.2 trivial trivial
  have H2 : Hid (Ba ((w.alloc (.cells #[.bool false, .bool false, .bool false] 81)).alloc (.cells #[.bool false, .bool false, .bool false] 81)) w.heap.size B3.none ∧ Ba ((w.alloc (.cells #[.bool false, .bool false, .bool false] 81)).alloc (.cells #[.bool false, .bool false, .bool false] 81)) (w.heap.size + 1) B3.none ∧ Kept (fun _ => True) w ((w.alloc (.cells #[.bool false, .bool false, .bool false] 81)).alloc (.cells #[.bool false, .bool false, .bool false] 81))) := h2
  have HA : Hid (w.heap.size < w.heap.size + 1) := Nat.lt_succ_self _
  have HBl : Hid (B < w.heap.size) := h.lt
  clear h2 h
  go_enter Try.func46, Try.ntmps46
  go_wp2_with fail
  generalize (w.alloc (.cells #[.bool false, .bool false, .bool false] 81)).alloc (.cells #[.bool false, .bool false, .bool false] 81) = w2 at *
  generalize w.heap.size + 1 = A at *
  go_loopw [6] (fun t wr => ∃ i : Nat, i ≤ 3 ∧ t = .int .i64 i ∧ Rs wr B R bs cap (rGr bs s i).2 ∧ Ba wr A (rGr bs s i).1 ∧ Ba wr w.heap.size B3.none ∧ Kept (· ≠ B) w wr) (fun t _ => 3 - (intOf t).toNat)
  case atStart => exact ⟨0, by omega, rfl, HRd.out, H2.out.2.1, H2.out.1, H2.out.2.2.mono (fun _ _ _ => trivial)⟩
  case round =>
    obtain ⟨i, hi, rfl, hr, hA, hX, hK⟩ := hrel
    have HA3 : Hid (Ba wr A (rGr bs s i).1) := hA
    have HX3 : Hid (Ba wr w.heap.size B3.none) := hX
    have HK3 : Hid (Kept (· ≠ B) w wr) := hK
    clear hX hK HRd H2
    by_cases hlt : i < 3
    · have e1 : (rGr bs s (i + 1)).1 = (rGr bs s i).1.put (((rGr bs s i).2.num bs 1).1 == 1) i := rfl
      have e2 : (rGr bs s (i + 1)).2 = if 1 < ((rGr bs s i).2.num bs 1).1 then ((rGr bs s i).2.num bs 1).2.fail 12 else ((rGr bs s i).2.num bs 1).2 := rfl
      have c := byte_any hr
      generalize (rGr bs s i).2.num bs 1 = q at *
      obtain ⟨n, s'⟩ := q
      have HE1 : Hid ((rGr bs s (i + 1)).1 = (rGr bs s i).1.put (n == 1) i) := e1
      have HE2 : Hid ((rGr bs s (i + 1)).2 = if 1 < n then s'.fail 12 else s') := e2
      simp only at c
      have i0 : (0 : Int) ≤ (i : Int) := by omega
      have i1 : (i : Int) < 3 := by omega
      clear hA e1 e2 hr
      have FA : Hid (∀ W, Kept (· ≠ B) wr W → Ba W A (rGr bs s i).1 ∧ Ba W w.heap.size B3.none) := fun W k => ⟨HA3.out.kept k (by have := HA.out; have := HBl.out; show A ≠ B; omega), HX3.out.kept k (by have := HBl.out; show w.heap.size ≠ B; omega)⟩
      have ANe : Hid (A ≠ B) := by show A ≠ B; have := HA.out; have := HBl.out; omega
      by_cases hn : 1 < n
      · have g1 : (1 : Int) < (n : Int) := by omega
        have g2 : ((n : Int) == 1) = false := by rw [beq_eq_false_iff_ne]; omega
        have g3 : (n == 1) = false := by rw [beq_eq_false_iff_ne]; omega
        have HE3 : Hid ((rGr bs s (i + 1)).1 = (rGr bs s i).1.put false i) := by show _ = _; rw [HE1.out, g3]
        have HE4 : Hid ((rGr bs s (i + 1)).2 = s'.fail 12) := by show _ = _; rw [HE2.out, if_pos hn]
        clear g3 HE1 HE2 hn
        go_wp2_with (first
          | (go_at_call 44; (with_reducible refine Calls.mono c ?_); rintro e w4 ⟨rfl, h4, k4⟩; have c5 := fail_any 12 h4; clear h4)
          | (go_at_call 66; (with_reducible refine Calls.mono c5 ?_); rintro e w5 ⟨rfl, h5, k5⟩; have H5 : Hid (Rs w5 B R bs cap (s'.fail 12)) := h5; have s5 : Kept (· ≠ B) wr w5 := k4.trans k5; have y0 := Af.cell (FA.out w5 s5).1 hlt; have yf := Af.free (FA.out w5 s5).1 i; clear h5 k4 k5 c5))
        go_roundw
        case rel => exact ⟨i + 1, by omega, by go_num, by rw [HE4.out]; exact H5.out.kept (p := (· ≠ A)) ((Kept.refl _ _).setCell (by simp) _) (Ne.symm ANe.out) (fun e => by have h9 := (FA.out w5 s5).1; have h8 := H5.out.rd.row; rw [e] at h8; obtain ⟨cur, h8, -⟩ := h8; unfold Ba Af at h9; rw [h8] at h9; simp at h9), by rw [HE3.out]; exact (FA.out w5 s5).1.put false hlt, (FA.out w5 s5).2.kept (p := (· ≠ A)) ((Kept.refl _ _).setCell (by simp) _) (Nat.ne_of_lt HA.out), (HK3.out.trans s5).setFresh (Nat.le_of_lt HA.out) _⟩
        case measure => simp [intOf]; omega
      · have g1 : ¬ ((1 : Int) < (n : Int)) := by omega
        have HE4 : Hid ((rGr bs s (i + 1)).2 = s') := by show _ = _; rw [HE2.out, if_neg hn]
        have g2 : ((n : Int) == 1) = (n == 1) := by
          have hc : n = 0 ∨ n = 1 := by omega
          rcases hc with rfl | rfl <;> rfl
        generalize (n == 1) = r at *
        clear HE2 hn
        go_wp2_with (go_at_call 44; (with_reducible refine Calls.mono c ?_); rintro e w5 ⟨rfl, h5, k5⟩; have H5 : Hid (Rs w5 B R bs cap s') := h5; have s5 : Kept (· ≠ B) wr w5 := k5; have y0 := Af.cell (FA.out w5 s5).1 hlt; have yf := Af.free (FA.out w5 s5).1 i; clear h5 k5)
        go_roundw
        case rel => exact ⟨i + 1, by omega, by go_num, by rw [HE4.out]; exact H5.out.kept (p := (· ≠ A)) ((Kept.refl _ _).setCell (by simp) _) (Ne.symm ANe.out) (fun e => by have h9 := (FA.out w5 s5).1; have h8 := H5.out.rd.row; rw [e] at h8; obtain ⟨cur, h8, -⟩ := h8; unfold Ba Af at h9; rw [h8] at h9; simp at h9), by rw [HE1.out]; exact (FA.out w5 s5).1.put r hlt, (FA.out w5 s5).2.kept (p := (· ≠ A)) ((Kept.refl _ _).setCell (by simp) _) (Nat.ne_of_lt HA.out), (HK3.out.trans s5).setFresh (Nat.le_of_lt HA.out) _⟩
        case measure => simp [intOf]; omega
    · have hie : i = 3 := by omega
      subst hie
      obtain ⟨a0, a1, a2⟩ := hA.cells3
      have x0 := Af.free HX3.out 0
      have x1 := Af.free HX3.out 1
      have x2 := Af.free HX3.out 2
      obtain ⟨b0, b1, b2⟩ := HX3.out.cells3
      have HX4 : Hid (wr.heap[w.heap.size]? = some (.cells #[.bool false, .bool false, .bool false] 81 (0, 0))) := HX3.out
      have HR4 : Hid (Rs wr B R bs cap (rGr bs s 3).2) := hr
      clear hA hr
      go_wp2_with fail
      have kz : Kept (· ≠ w.heap.size) wr (((wr.setCell ⟨w.heap.size, 0, none⟩ (.bool (rGr bs s 3).1.a)).setCell ⟨w.heap.size, 1, none⟩ (.bool (rGr bs s 3).1.b)).setCell ⟨w.heap.size, 2, none⟩ (.bool (rGr bs s 3).1.c)) := (((Kept.refl _ _).setCell (by simp) _).setCell (by simp) _).setCell (by simp) _
      exact bodyPost_ret (results_b3 rfl _ _ rfl (mset_at (mset_at (mset_at HX4.out 0 _) 1 _) 2 _)) rfl ⟨rfl, HR4.out.kept kz (Nat.ne_of_lt HBl.out) (fun e => by have h8 := HR4.out.rd.row; rw [e] at h8; obtain ⟨cur, h8, -⟩ := h8; rw [HX4.out] at h8; simp at h8), ((HK3.out.setFresh (Nat.le_refl _) _).setFresh (Nat.le_refl _) _).setFresh (Nat.le_refl _) _⟩

end Go.Proofs.Ytebpkhemkdgbjaa

namespace Go.Proofs.Ytebpkhemkdgbjaa
open Go.RowKit

theorem rOw_lt3 (bs : List UInt8) : ∀ (n : Nat) (s : RS) (xs : List Nat), (∀ g ∈ xs, g < 3) → ∀ g ∈ (rOw bs n s xs).1, g < 3
  | 0, _, _, h => h
  | n + 1, s, xs, h => by
    unfold rOw
    split
    · intro g hg; simp at hg
    · refine rOw_lt3 bs n _ _ (fun g hg => ?_)
      rcases List.mem_append.1 hg with q | q
      · exact h g q
      · rw [List.mem_singleton.1 q]; omega
theorem rOw_most (bs : List UInt8) : ∀ (n : Nat) (s : RS) (xs : List Nat), (rOw bs n s xs).1.length ≤ n + xs.length
  | 0, _, _ => by simp [rOw]
  | n + 1, s, xs => by
    unfold rOw
    split
    · simp
    · have := rOw_most bs n (s.num bs 1).2 (xs ++ [(s.num bs 1).1])
      simp at this ⊢
      omega
theorem count_most4 (s : RS) (bs : List UInt8) : (s.count bs 4).1 ≤ 4 := by
  unfold RS.count
  split
  · simp
  · rename_i h; omega

set_option maxRecDepth 100000 in
set_option maxHeartbeats 2000000 in
theorem readOwners_any {w : World} {B R : Nat} {bs : List UInt8} {cap : Nat} {s : RS} (h : Rs w B R bs cap s) :
    Calls Try.prog 45 #[.pointer (some ⟨B, 0, none⟩)] w fun e w' => ∃ v, e = .returned v ∧ Its w' w.heap.size v (rOw bs (s.count bs 4).1 (s.count bs 4).2 []).1 ∧ Rs w' B R bs cap (rOw bs (s.count bs 4).1 (s.count bs 4).2 []).2 ∧ Kept (· ≠ B) w w' := by
  have hm := count_most4 s bs
  have c := count_any 4 h
  have HBl : Hid (B < w.heap.size ∧ R < w.heap.size) := ⟨h.lt, h.rowlt⟩
  generalize s.count bs 4 = q at *
  obtain ⟨n, s1⟩ := q
  simp only at *
  generalize hRES : rOw bs n s1 [] = RES at *
  have HRES : Hid (rOw bs (n - 0) s1 [] = RES) := hRES
  clear hRES h
  go_enter Try.func45, Try.ntmps45
  go_wp2_with (go_at_call 65; (with_reducible refine Calls.mono c ?_); rintro e w1 ⟨rfl, h1, k1⟩; have H1 : Hid (Rs w1 B R bs cap s1) := h1; have K1 : Hid (Kept (· ≠ B) w w1) := k1; clear h1 k1)
  clear c
  go_loopw [7, 3] (fun t u wr => ∃ (i : Nat) (s : RS) (xs : List Nat), i ≤ n ∧ t = .int .i64 i ∧ xs.length = i ∧ Its wr w.heap.size u xs ∧ rOw bs (n - i) s xs = RES ∧ Rs wr B R bs cap s ∧ Kept (· ≠ B) w wr) (fun t _ _ => n - (intOf t).toNat)
  case atStart => exact ⟨0, s1, [], Nat.zero_le _, rfl, rfl, Its.nil _ _, HRES.out, H1.out, K1.out⟩
  case round =>
    obtain ⟨i, s2, xs, hi, rfl, hxl, hI, hres, hr, hK⟩ := hrel
    obtain ⟨uo, uc, rfl⟩ := hI.shape
    have HI : Hid (Its wr w.heap.size (.slice uo xs.length uc) xs) := hI
    have HXL : Hid (xs.length = i) := hxl
    have HK : Hid (Kept (· ≠ B) w wr) := hK
    clear hI hK H1 K1 HRES
    by_cases hlt : i < n
    · obtain ⟨k, hk⟩ : ∃ k, n - i = k + 1 := ⟨n - i - 1, by omega⟩
      have HK1 : Hid (n - (i + 1) = k) := by show _ = _; omega
      rw [hk] at hres
      unfold rOw at hres
      have c := byte_any hr
      generalize s2.num bs 1 = q at *
      obtain ⟨g, s3⟩ := q
      simp only at hres c
      have i1 : (i : Int) < (n : Int) := by omega
      have hxs : xs.length ≤ 1000 := by omega
      by_cases hg : 3 ≤ g
      · rw [if_pos hg] at hres
        have HR2 : Hid (([], s3.fail 12) = RES) := hres
        have g1 : (3 : Int) ≤ (g : Int) := by omega
        clear hres hg hk hxl
        go_wp2_with (first
          | (go_at_call 44; (with_reducible refine Calls.mono c ?_); rintro e w4 ⟨rfl, h4, k4⟩; have c5 := fail_any 12 h4; clear h4)
          | (go_at_call 66; (with_reducible refine Calls.mono c5 ?_); rintro e w5 ⟨rfl, h5, k5⟩; have H5 : Hid (Rs w5 B R bs cap (s3.fail 12)) := h5; have s5 : Kept (· ≠ B) wr w5 := k4.trans k5; clear h5 k4 k5 c5))
        go_ret
        refine ⟨_, rfl, ?_, ?_, HK.out.trans s5⟩
        · rw [← HR2.out]; exact Its.nil _ _
        · rw [← HR2.out]; exact H5.out
      · rw [if_neg hg] at hres
        have HR2 : Hid (rOw bs k s3 (xs ++ [g]) = RES) := hres
        have g1 : ¬ ((3 : Int) ≤ (g : Int)) := by omega
        clear hres hg hk hxl
        go_wp2_with (first
          | (go_at_call 44; (with_reducible refine Calls.mono c ?_); rintro e w4 ⟨rfl, h4, k4⟩; have H4 : Hid (Rs w4 B R bs cap s3) := h4; have HI4 : Hid (Its w4 w.heap.size (.slice uo xs.length uc) xs) := Its.kept HI.out k4 (fun x hx e => by have := Its.ge HI.out hx; have := HBl.out.1; omega); have K4 : Hid (Kept (· ≠ B) w w4) := HK.out.trans k4; clear h4 k4)
          | (at_builtin; refine wpList_append_it rfl _ _ rfl w.heap.size (.slice uo xs.length uc) xs rfl (Its.all HI4.out ((Kept.refl _ _).alloc _)) (Nat.le_trans K4.out.size ((Kept.refl (fun _ => True) _).alloc _).size) _ rfl g (0, 0) (heap_alloc_new _ _) (by omega) ?_; intro ao' cap' w5 ho5 hg5 hat5; have k5 : Kept (fun y => (Value.slice uo xs.length uc).ownBlock ≠ some y) w4 w5 := ((Kept.refl _ _).alloc _).trans (grown_kept hg5); have HO5 : Hid (Its w5 w.heap.size (.slice ao' (xs.length + 1) cap') (xs ++ [g])) := ho5; have HR5 : Hid (Rs w5 B R bs cap s3) := H4.out.kept k5 (fun e => by have := Its.ge HI4.out e; have := HBl.out.1; omega) (fun e => by have := Its.ge HI4.out e; have := HBl.out.2; omega); have HK5 : Hid (Kept (· ≠ B) w w5) := K4.out.then k5 (fun y hy _ e => by have := Its.ge HI4.out e; omega); clear ho5 hg5 hat5 k5))
        go_roundw
        case rel => exact ⟨i + 1, s3, xs ++ [g], by omega, by go_num, by simp [HXL.out], HO5.out, by rw [HK1.out]; exact HR2.out, HR5.out, HK5.out⟩
        case measure => simp [intOf]; omega
    · have hie : i = n := by omega
      subst hie
      have HR2 : Hid ((xs, s2) = RES) := by
        show _ = _
        rw [← hres, Nat.sub_self]
        rfl
      clear hres hxl
      go_wp2_with fail
      go_ret
      refine ⟨_, rfl, ?_, ?_, HK.out⟩
      · rw [← HR2.out]; exact HI.out
      · rw [← HR2.out]; exact hr

end Go.Proofs.Ytebpkhemkdgbjaa

namespace Go.Proofs.Ytebpkhemkdgbjaa
open Go.RowKit

/-- A reader and a transaction that is being read, behind w0. -/
structure Ldt (w0 w : World) (B R : Nat) (bs : List UInt8) (s : RS) (T : Nat) (ov tv : Value) (z : Tn) : Prop where
  rs : Rs w B R bs bs.length s
  self : w.heap[T]? = some (.cells (tcells ov tv z) 83 (0, 0))
  ow : Its w w0.heap.size ov z.ow
  tx : Txs w w0.heap.size tv z.tx
  kept : Kept (fun _ => True) w0 w
  t0 : w0.heap.size ≤ T
  b0 : w0.heap.size ≤ B
section
variable {w0 w w' : World} {B R : Nat} {bs : List UInt8} {s s' : RS} {T : Nat} {ov tv : Value} {z : Tn}
theorem Ldt.tB (h : Ldt w0 w B R bs s T ov tv z) : T ≠ B := fun e => by
  have h1 := h.self
  rw [e, h.rs.rd.self] at h1
  simp at h1
theorem Ldt.tR (h : Ldt w0 w B R bs s T ov tv z) : T ≠ R := fun e => by
  obtain ⟨cur, hr, -⟩ := h.rs.rd.row
  have h1 := h.self
  rw [e, hr] at h1
  simp at h1
theorem Ldt.rB (h : Ldt w0 w B R bs s T ov tv z) : ov.ownBlock ≠ some B ∧ tv.ownBlock ≠ some B := ⟨h.ow.ne h.rs.rd.self (by decide), h.tx.ne h.rs.rd.self (by decide)⟩
theorem Ldt.rR (h : Ldt w0 w B R bs s T ov tv z) : ov.ownBlock ≠ some R ∧ tv.ownBlock ≠ some R := by
  obtain ⟨cur, hr, -⟩ := h.rs.rd.row
  exact ⟨h.ow.ne hr (by decide), h.tx.ne hr (by decide)⟩
theorem Ldt.rT (h : Ldt w0 w B R bs s T ov tv z) : ov.ownBlock ≠ some T ∧ tv.ownBlock ≠ some T := ⟨h.ow.ne h.self (by decide), h.tx.ne h.self (by decide)⟩
theorem Ldt.read (h : Ldt w0 w B R bs s T ov tv z) (r : Rs w' B R bs bs.length s') (k : Kept (· ≠ B) w w') : Ldt w0 w' B R bs s' T ov tv z :=
  ⟨r, (k.block T (lt_of_block h.self) h.tB).trans h.self, h.ow.kept k (fun x hx e => h.rB.1 (e ▸ hx)), h.tx.kept k (fun x hx e => h.rB.2 (e ▸ hx)), h.kept.then k (fun i hi _ => by have := h.b0; show i ≠ B; omega), h.t0, h.b0⟩
theorem Ldt.all (h : Ldt w0 w B R bs s T ov tv z) (k : Kept (fun _ => True) w w') : Ldt w0 w' B R bs s T ov tv z :=
  ⟨h.rs.kept k trivial trivial, (k.block T (lt_of_block h.self) trivial).trans h.self, h.ow.kept k (fun _ _ => trivial), h.tx.kept k (fun _ _ => trivial), h.kept.trans k, h.t0, h.b0⟩
/-- Its own block is written. -/
theorem Ldt.put (h : Ldt w0 w B R bs s T ov tv z) {z' : Tn} (k : Kept (· ≠ T) w w') (hs : w'.heap[T]? = some (.cells (tcells ov tv z') 83 (0, 0))) (e1 : z'.ow = z.ow) (e2 : z'.tx = z.tx) : Ldt w0 w' B R bs s T ov tv z' :=
  ⟨h.rs.kept k (Ne.symm h.tB) (Ne.symm h.tR), hs, by rw [e1]; exact h.ow.kept k (fun x hx e => h.rT.1 (e ▸ hx)), by rw [e2]; exact h.tx.kept k (fun x hx e => h.rT.2 (e ▸ hx)), h.kept.then k (fun i hi _ => by have := h.t0; show i ≠ T; omega), h.t0, h.b0⟩
theorem Ldt.vo (h : Ldt w0 w B R bs s T ov tv z) (v : B3) : Ldt w0 (((w.setCell ⟨T, 2, none⟩ (.bool v.a)).setCell ⟨T, 3, none⟩ (.bool v.b)).setCell ⟨T, 4, none⟩ (.bool v.c)) B R bs s T ov tv { z with vo := v } :=
  h.put ((((Kept.refl _ _).setCell (by simp) _).setCell (by simp) _).setCell (by simp) _) (mset_at (mset_at (mset_at h.self 2 _) 3 _) 4 _) rfl rfl
theorem Ldt.dn (h : Ldt w0 w B R bs s T ov tv z) (v : B3) : Ldt w0 (((w.setCell ⟨T, 5, none⟩ (.bool v.a)).setCell ⟨T, 6, none⟩ (.bool v.b)).setCell ⟨T, 7, none⟩ (.bool v.c)) B R bs s T ov tv { z with dn := v } :=
  h.put ((((Kept.refl _ _).setCell (by simp) _).setCell (by simp) _).setCell (by simp) _) (mset_at (mset_at (mset_at h.self 5 _) 6 _) 7 _) rfl rfl
theorem Ldt.ar (h : Ldt w0 w B R bs s T ov tv z) (x : Int) : Ldt w0 (w.setCell ⟨T, 9, none⟩ (.int .i64 x)) B R bs s T ov tv { z with ar := x } :=
  h.put ((Kept.refl _ _).setCell (by simp) _) (mset_at h.self 9 _) rfl rfl
theorem Ldt.wy (h : Ldt w0 w B R bs s T ov tv z) (x : Int) : Ldt w0 (w.setCell ⟨T, 10, none⟩ (.int .i64 x)) B R bs s T ov tv { z with wy := x } :=
  h.put ((Kept.refl _ _).setCell (by simp) _) (mset_at h.self 10 _) rfl rfl
theorem Ldt.free (h : Ldt w0 w B R bs s T ov tv z) (i : Nat) : w.frozen? ⟨T, i, none⟩ = false := by simp [World.frozen?, h.self]
theorem Ldt.c (h : Ldt w0 w B R bs s T ov tv z) : w.cell? ⟨T, 0, none⟩ = some ov ∧ w.cell? ⟨T, 1, none⟩ = some tv ∧ w.cell? ⟨T, 9, none⟩ = some (.int .i64 z.ar) ∧ w.cell? ⟨T, 10, none⟩ = some (.int .i64 z.wy) :=
  ⟨cell_of_row w T 0 _ _ _ h.self, cell_of_row w T 1 _ _ _ h.self, cell_of_row w T 9 _ _ _ h.self, cell_of_row w T 10 _ _ _ h.self⟩
theorem Ldt.cv (h : Ldt w0 w B R bs s T ov tv z) : w.cell? ⟨T, 2, none⟩ = some (.bool z.vo.a) ∧ w.cell? ⟨T, 3, none⟩ = some (.bool z.vo.b) ∧ w.cell? ⟨T, 4, none⟩ = some (.bool z.vo.c) :=
  ⟨cell_of_row w T 2 _ _ _ h.self, cell_of_row w T 3 _ _ _ h.self, cell_of_row w T 4 _ _ _ h.self⟩
theorem Ldt.cd (h : Ldt w0 w B R bs s T ov tv z) : w.cell? ⟨T, 5, none⟩ = some (.bool z.dn.a) ∧ w.cell? ⟨T, 6, none⟩ = some (.bool z.dn.b) ∧ w.cell? ⟨T, 7, none⟩ = some (.bool z.dn.c) :=
  ⟨cell_of_row w T 5 _ _ _ h.self, cell_of_row w T 6 _ _ _ h.self, cell_of_row w T 7 _ _ _ h.self⟩
/-- A text is laid. -/
theorem Ldt.text {g n c : Nat} (h : Ldt w0 w B R bs s T ov (.slice (some ⟨g, 0, none⟩) n c) z) (k : Nat) (x : List UInt8) : Ldt w0 (w.setCell ⟨g, k, none⟩ (.string ⟨x.toArray⟩)) B R bs s T ov (.slice (some ⟨g, 0, none⟩) n c) { z with tx := z.tx.set k x } := by
  have kk : Kept (· ≠ g) w (w.setCell ⟨g, k, none⟩ (.string ⟨x.toArray⟩)) := (Kept.refl _ _).setCell (by simp) _
  have hb : (Value.slice (some ⟨g, 0, none⟩) n c).ownBlock = some g := rfl
  have hg : w0.heap.size ≤ g := h.tx.ge hb
  refine ⟨h.rs.kept kk (fun e => h.rB.2 (by rw [hb, e])) (fun e => h.rR.2 (by rw [hb, e])), (kk.block T (lt_of_block h.self) (fun e => h.rT.2 (by rw [hb, e]))).trans h.self, h.ow.kept kk (fun y hy e => ?_), (h.tx.set k x).1, h.kept.then kk (fun i hi _ => by show i ≠ g; omega), h.t0, h.b0⟩
  obtain ⟨cs, fr, hh⟩ := own_block_of (e := 3) h.ow hy
  exact h.tx.ne hh (by decide) (by rw [hb, e])
/-- A row of texts of its own is made. -/
theorem Ldt.made {n : Nat} (h : Ldt w0 w B R bs s T ov tv z) (hn : n ≤ 1000000) : Ldt w0 ((w.alloc (.cells (madeCells #[.string ⟨#[]⟩] n) 9)).setCell ⟨T, 1, none⟩ (.slice (some ⟨w.heap.size, 0, none⟩) n n)) B R bs s T ov (.slice (some ⟨w.heap.size, 0, none⟩) n n) { z with tx := List.replicate n [] } := by
  have k1 : Kept (fun _ => True) w (w.alloc (.cells (madeCells #[.string ⟨#[]⟩] n) 9)) := (Kept.refl _ _).alloc _
  have h1 := h.all k1
  have ht := own_texts0 (heap_alloc_new w (.cells (madeCells #[.string ⟨#[]⟩] n) 9)) h.kept.size hn
  have hT : T ≠ w.heap.size := Nat.ne_of_lt (lt_of_block h.self)
  generalize w.alloc (.cells (madeCells #[.string ⟨#[]⟩] n) 9) = w1 at *
  have kk : Kept (· ≠ T) w1 (w1.setCell ⟨T, 1, none⟩ (.slice (some ⟨w.heap.size, 0, none⟩) n n)) := (Kept.refl _ _).setCell (by simp) _
  refine ⟨h1.rs.kept kk (Ne.symm h1.tB) (Ne.symm h1.tR), mset_at h1.self 1 _, h1.ow.kept kk (fun x hx e => h1.rT.1 (e ▸ hx)), ht.kept kk (fun x hx e => ?_), h1.kept.then kk (fun i hi _ => by have := h1.t0; show i ≠ T; omega), h1.t0, h1.b0⟩
  simp [Value.ownBlock] at hx
  exact hT (e ▸ hx.symm)
end
theorem snoc_rep (xs : List (List UInt8)) (x : List UInt8) (n k : Nat) (h : xs.length = k) (hk : k < n) : (xs ++ List.replicate (n - k) []).set k x = (xs ++ [x]) ++ List.replicate (n - (k + 1)) [] := by
  obtain ⟨m, hm⟩ : ∃ m, n - k = m + 1 := ⟨n - k - 1, by omega⟩
  rw [hm, show n - (k + 1) = m by omega, List.replicate_succ, List.set_append_right _ _ (by omega), show k - xs.length = 0 by omega]
  simp
theorem snoc_rep0 (xs : List (List UInt8)) (n k : Nat) (hk : k < n) : xs ++ List.replicate (n - k) [] = (xs ++ [[]]) ++ List.replicate (n - (k + 1)) [] := by
  obtain ⟨m, hm⟩ : ∃ m, n - k = m + 1 := ⟨n - k - 1, by omega⟩
  rw [hm, show n - (k + 1) = m by omega, List.replicate_succ]
  simp

set_option maxRecDepth 100000 in
set_option maxHeartbeats 4000000 in
theorem load_txn {w : World} {bs : List UInt8} {cap : Nat} {ao : Option Addr} (hb : (bs.length : Int) ≤ 140737488355328) (hc : Has w ao bs) :
    Calls Try.prog 16 #[.slice ao bs.length cap] w fun e w' => ((loadT bs = none ∧ e = .returned (.tuple #[.pointer none, .int .i64 12])) ∨ ∃ T ov tv z, loadT bs = some z ∧ e = .returned (.tuple #[.pointer (some ⟨T, 0, none⟩), .int .i64 0]) ∧ Tm w' w.heap.size T ov tv z) ∧ Kept (fun _ => True) w w' := by
  have cn := newReader_any (cap := cap) hb hc
  have hraw : rawL bs = rawL bs := rfl
  conv at hraw => rhs; unfold rawL
  simp only at hraw
  have C1 : Hid (∀ W B R, Rs W B R bs bs.length ⟨0, 0⟩ → Calls Try.prog 44 #[.pointer (some ⟨B, 0, none⟩)] W fun e w' => e = .returned (.int .i64 (((⟨0, 0⟩ : RS).num bs 1).1 : Nat)) ∧ Rs w' B R bs bs.length ((⟨0, 0⟩ : RS).num bs 1).2 ∧ Kept (· ≠ B) W w') := fun W B R q => byte_any q
  generalize (⟨0, 0⟩ : RS).num bs 1 = r at C1 hraw
  obtain ⟨o, s1⟩ := r
  simp only at C1 hraw
  have C2 : Hid (∀ W B R, Rs W B R bs bs.length s1 → Calls Try.prog 45 #[.pointer (some ⟨B, 0, none⟩)] W fun e w' => ∃ v, e = .returned v ∧ Its w' W.heap.size v (rOw bs (s1.count bs 4).1 (s1.count bs 4).2 []).1 ∧ Rs w' B R bs bs.length (rOw bs (s1.count bs 4).1 (s1.count bs 4).2 []).2 ∧ Kept (· ≠ B) W w') := fun W B R q => readOwners_any q
  have hl3 := rOw_lt3 bs (s1.count bs 4).1 (s1.count bs 4).2 [] (by simp)
  have hl4 := rOw_most bs (s1.count bs 4).1 (s1.count bs 4).2 []
  have hm4 := count_most4 s1 bs
  generalize rOw bs (s1.count bs 4).1 (s1.count bs 4).2 [] = r at C2 hraw hl3 hl4
  obtain ⟨ow, s2⟩ := r
  simp only at C2 hraw hl3 hl4
  have how : ow.length ≤ 4 := by
    simp at hl4
    omega
  clear hl4 hm4
  have C3 : Hid (∀ W B R, Rs W B R bs bs.length s2 → Calls Try.prog 46 #[.pointer (some ⟨B, 0, none⟩)] W fun e w' => e = .returned (.agg #[.bool (rGr bs s2 3).1.a, .bool (rGr bs s2 3).1.b, .bool (rGr bs s2 3).1.c]) ∧ Rs w' B R bs bs.length (rGr bs s2 3).2 ∧ Kept (· ≠ B) W w') := fun W B R q => readGroups_any q
  generalize rGr bs s2 3 = r at C3 hraw
  obtain ⟨vo, s3⟩ := r
  simp only at C3 hraw
  have C4 : Hid (∀ W B R, Rs W B R bs bs.length s3 → Calls Try.prog 46 #[.pointer (some ⟨B, 0, none⟩)] W fun e w' => e = .returned (.agg #[.bool (rGr bs s3 3).1.a, .bool (rGr bs s3 3).1.b, .bool (rGr bs s3 3).1.c]) ∧ Rs w' B R bs bs.length (rGr bs s3 3).2 ∧ Kept (· ≠ B) W w') := fun W B R q => readGroups_any q
  generalize rGr bs s3 3 = r at C4 hraw
  obtain ⟨dn, s4⟩ := r
  simp only at C4 hraw
  have htx : rTx bs vo (ow.drop 0) s4 [] = rTx bs vo ow s4 [] := by rw [List.drop_zero]
  generalize rTx bs vo ow s4 [] = r at htx hraw
  obtain ⟨tx, s5⟩ := r
  simp only at hraw
  have HTX : Hid (rTx bs vo (ow.drop 0) s4 [] = (tx, s5)) := htx
  have C6 : Hid (∀ W B R, Rs W B R bs bs.length s5 → Calls Try.prog 49 #[.pointer (some ⟨B, 0, none⟩)] W fun e w' => e = .returned (.int .i64 (i64 ((s5.num bs 8).1 : Nat))) ∧ Rs w' B R bs bs.length (s5.num bs 8).2 ∧ Kept (· ≠ B) W w') := fun W B R q => eight_any q
  generalize s5.num bs 8 = r at C6 hraw
  obtain ⟨a, s6⟩ := r
  simp only at C6 hraw
  have C7 : Hid (∀ W B R, Rs W B R bs bs.length s6 → Calls Try.prog 49 #[.pointer (some ⟨B, 0, none⟩)] W fun e w' => e = .returned (.int .i64 (i64 ((s6.num bs 8).1 : Nat))) ∧ Rs w' B R bs bs.length (s6.num bs 8).2 ∧ Kept (· ≠ B) W w') := fun W B R q => eight_any q
  generalize s6.num bs 8 = r at C7 hraw
  obtain ⟨y, s7⟩ := r
  simp only at C7 hraw
  generalize i64 (a : Nat) = av at *
  generalize i64 (y : Nat) = yv at *
  have hld : loadT bs = if (s7.end_ bs).1 = 0 ∧ mayBeP ⟨ow, tx, vo, dn, (o : Int), av, yv⟩ = true then some ⟨ow, tx, vo, dn, (o : Int), av, yv⟩ else none := by
    unfold loadT
    rw [hraw]
  generalize loadT bs = LD at *
  have HLD : Hid (LD = if (s7.end_ bs).1 = 0 ∧ mayBeP ⟨ow, tx, vo, dn, (o : Int), av, yv⟩ = true then some ⟨ow, tx, vo, dn, (o : Int), av, yv⟩ else none) := hld
  have HL3 : Hid (∀ g ∈ ow, g < 3) := hl3
  clear hraw htx hld hl3 hc
  go_enter Try.func16, Try.ntmps16
  go_wp2_with (first
    | (go_at_call 43; (with_reducible refine Calls.mono cn ?_); rintro e w1 ⟨B, R, rfl, h1, k1, b1, r1⟩; have H1 : Hid (Rs w1 B R bs bs.length ⟨0, 0⟩) := h1; have K1 : Hid (Kept (fun _ => True) w w1) := k1; have hB0 : Hid (w.heap.size ≤ B) := b1; clear h1 k1 b1 r1)
    | (go_at_call 44; (with_reducible refine Calls.mono (C1.out _ _ _ H1.out) ?_); rintro e w2 ⟨rfl, h2, k2⟩; have H2 : Hid (Rs w2 B R bs bs.length s1) := h2; have K2 : Hid (Kept (fun _ => True) w w2) := K1.out.then k2 (fun i hi _ => by have := hB0.out; show i ≠ B; omega); clear h2 k2)
    | (go_at_call 45; (with_reducible refine Calls.mono (C2.out _ _ _ H2.out) ?_); rintro e w3 ⟨ov, rfl, hov, h3, k3⟩; obtain ⟨oo, oc, rfl⟩ := Its.shape hov; have L3 : Hid (Ldt w (w3.alloc (.cells #[.slice oo ow.length oc, .slice none 0 0, .bool false, .bool false, .bool false, .bool false, .bool false, .bool false, .int .i64 (o : Int), .int .i64 0, .int .i64 0] 83)) B R bs s2 w3.heap.size (.slice oo ow.length oc) (.slice none 0 0) ⟨ow, [], B3.none, B3.none, (o : Int), 0, 0⟩) := ⟨h3.kept ((Kept.refl (fun _ => True) _).alloc _) trivial trivial, heap_alloc_new w3 _, Its.kept (Its.low hov K2.out.size) ((Kept.refl (fun _ => True) _).alloc _) (fun _ _ => trivial), Txs.nil _ _, (K2.out.then k3 (fun i hi _ => by have := hB0.out; show i ≠ B; omega)).alloc _, Nat.le_trans K2.out.size k3.size, hB0.out⟩; clear hov h3 k3))
  generalize w3.alloc (.cells #[.slice oo ow.length oc, .slice none 0 0, .bool false, .bool false, .bool false, .bool false, .bool false, .bool false, .int .i64 (o : Int), .int .i64 0, .int .i64 0] 83) = w4 at *
  generalize w3.heap.size = T at *
  obtain ⟨q2, q3, q4⟩ := L3.out.cv
  have f2 := fun W B R s ov tv z (h : Ldt w W B R bs s T ov tv z) => h.free
  have HF : Hid (∀ W B R s ov tv z, Ldt w W B R bs s T ov tv z → ∀ i, W.frozen? ⟨T, i, none⟩ = false) := f2
  clear f2 q2 q3 q4 H1 K1 H2 K2 C1 C2 cn
  go_wp2_with (go_at_call 46; (with_reducible refine Calls.mono (C3.out _ _ _ L3.out.rs) ?_); rintro e w5 ⟨rfl, h5, k5⟩; have L5 : Hid (Ldt w w5 B R bs s3 T (.slice oo ow.length oc) (.slice none 0 0) ⟨ow, [], B3.none, B3.none, (o : Int), 0, 0⟩) := L3.out.read h5 k5; obtain ⟨q2, q3, q4⟩ := L5.out.cv; have g2 := L5.out.free 2; have g3 := L5.out.free 3; have g4 := L5.out.free 4; have L6 : Hid (Ldt w (((w5.setCell ⟨T, 2, none⟩ (.bool vo.a)).setCell ⟨T, 3, none⟩ (.bool vo.b)).setCell ⟨T, 4, none⟩ (.bool vo.c)) B R bs s3 T (.slice oo ow.length oc) (.slice none 0 0) ⟨ow, [], vo, B3.none, (o : Int), 0, 0⟩) := L5.out.vo vo; clear h5 k5)
  clear q2 q3 q4 g2 g3 g4 L3 L5 C3
  generalize ((w5.setCell ⟨T, 2, none⟩ (.bool vo.a)).setCell ⟨T, 3, none⟩ (.bool vo.b)).setCell ⟨T, 4, none⟩ (.bool vo.c) = w6 at *
  go_upto_region 5 with (go_at_call 46; (with_reducible refine Calls.mono (C4.out _ _ _ L6.out.rs) ?_); rintro e w7 ⟨rfl, h7, k7⟩; have L7 : Hid (Ldt w w7 B R bs s4 T (.slice oo ow.length oc) (.slice none 0 0) ⟨ow, [], vo, B3.none, (o : Int), 0, 0⟩) := L6.out.read h7 k7; obtain ⟨q2, q3, q4⟩ := L7.out.cd; have g2 := L7.out.free 5; have g3 := L7.out.free 6; have g4 := L7.out.free 7; have L8 : Hid (Ldt w (((w7.setCell ⟨T, 5, none⟩ (.bool dn.a)).setCell ⟨T, 6, none⟩ (.bool dn.b)).setCell ⟨T, 7, none⟩ (.bool dn.c)) B R bs s4 T (.slice oo ow.length oc) (.slice none 0 0) ⟨ow, [], vo, dn, (o : Int), 0, 0⟩) := L7.out.dn dn; clear h7 k7)
  clear q2 q3 q4 g2 g3 g4 L6 L7 C4
  generalize ((w7.setCell ⟨T, 5, none⟩ (.bool dn.a)).setCell ⟨T, 6, none⟩ (.bool dn.b)).setCell ⟨T, 7, none⟩ (.bool dn.c) = w8 at *
  have mT := make_texts ow.length (by omega)
  obtain ⟨c0, -, -, -⟩ := L8.out.c
  obtain ⟨-, c1, -, -⟩ := (L8.out.all ((Kept.refl (fun _ => True) _).alloc (.cells (madeCells #[.string ⟨#[]⟩] ow.length) 9))).c
  have g1 := (L8.out.all ((Kept.refl (fun _ => True) _).alloc (.cells (madeCells #[.string ⟨#[]⟩] ow.length) 9))).free 1
  have L9 : Hid (Ldt w ((w8.alloc (.cells (madeCells #[.string ⟨#[]⟩] ow.length) 9)).setCell ⟨T, 1, none⟩ (.slice (some ⟨w8.heap.size, 0, none⟩) ow.length ow.length)) B R bs s4 T (.slice oo ow.length oc) (.slice (some ⟨w8.heap.size, 0, none⟩) ow.length ow.length) ⟨ow, List.replicate ow.length [], vo, dn, (o : Int), 0, 0⟩) := L8.out.made (by omega)
  go_upto_region 6 with fail
  clear c0 c1 g1 mT L8
  generalize (w8.alloc (.cells (madeCells #[.string ⟨#[]⟩] ow.length) 9)).setCell ⟨T, 1, none⟩ (.slice (some ⟨w8.heap.size, 0, none⟩) ow.length ow.length) = w9 at *
  generalize w8.heap.size = tg at *
  obtain ⟨c0, -, -, -⟩ := L9.out.c
  go_wp2_with fail
  clear c0
  go_loopw [42] (fun t wr => ∃ (k : Nat) (s : RS) (xs : List (List UInt8)), k ≤ ow.length ∧ t = .int .i64 k ∧ xs.length = k ∧ rTx bs vo (ow.drop k) s xs = (tx, s5) ∧ Ldt w wr B R bs s T (.slice oo ow.length oc) (.slice (some ⟨tg, 0, none⟩) ow.length ow.length) ⟨ow, xs ++ List.replicate (ow.length - k) [], vo, dn, (o : Int), 0, 0⟩) (fun t _ => ow.length - (intOf t).toNat)
  case atStart => exact ⟨0, s4, [], Nat.zero_le _, rfl, rfl, HTX.out, by simpa using L9.out⟩
  case round =>
    obtain ⟨k, s, xs, hk, rfl, hxl, htx, hld⟩ := hrel
    have LW : Hid (Ldt w wr B R bs s T (.slice oo ow.length oc) (.slice (some ⟨tg, 0, none⟩) ow.length ow.length) ⟨ow, xs ++ List.replicate (ow.length - k) [], vo, dn, (o : Int), 0, 0⟩) := hld
    have HXL : Hid (xs.length = k) := hxl
    have i0 : (0 : Int) ≤ (k : Int) := by omega
    clear hld L9 HTX hxl
    by_cases hlt : k < ow.length
    · obtain ⟨gp, rfl, q1⟩ := LW.out.ow.at k hlt
      replace q1 : wr.cell? ⟨gp, k, none⟩ = some (.int .i64 (ow[k] : Nat)) := q1
      have i1 : (k : Int) < (ow.length : Int) := by omega
      have g3 := HL3.out _ (List.getElem_mem hlt)
      have hd : ow.drop k = ow[k] :: ow.drop (k + 1) := List.drop_eq_getElem_cons hlt
      rw [hd] at htx
      unfold rTx at htx
      have cv := b3_cell (s := 2) LW.out.cv g3
      clear hd
      generalize ow[k] = y at *
      replace cv : wr.cell? ⟨T, 2 + y, none⟩ = some (.bool (vo.at y)) := cv
      have j0 : (0 : Int) ≤ (y : Int) := by omega
      have j1 : (y : Int) < 3 := by omega
      by_cases hv : vo.at y = true
      · rw [if_pos hv] at htx
        rw [hv] at cv
        have HT2 : Hid (rTx bs vo (ow.drop (k + 1)) (s.text bs (s.left bs)).2 (xs ++ [(s.text bs (s.left bs)).1]) = (tx, s5)) := htx
        have cl := left_is (LW.out.rs.kept (Kept.drew (Kept.refl (fun _ => True) wr)) trivial trivial)
        have CT : Hid (∀ W, Rs W B R bs bs.length s → Calls Try.prog 47 #[.pointer (some ⟨B, 0, none⟩), .int .i64 (s.left bs)] W fun e w' => e = .returned (.string ⟨(s.text bs (s.left bs)).1.toArray⟩) ∧ Rs w' B R bs bs.length (s.text bs (s.left bs)).2 ∧ Kept (· ≠ B) W w') := fun W q => text_any (s.left bs) q
        generalize s.text bs (s.left bs) = r at *
        obtain ⟨x, s'⟩ := r
        simp only at CT HT2
        generalize s.left bs = lf at *
        have hne : T ≠ B ∧ T ≠ tg := ⟨LW.out.tB, fun e => LW.out.rT.2 (by rw [e]; rfl)⟩
        have C1 : ∀ W, Kept (fun x => x ≠ B ∧ x ≠ tg) wr W → W.cell? ⟨T, 1, none⟩ = some (.slice (some ⟨tg, 0, none⟩) ow.length ow.length) := fun W q => (kept_cell q (lt_of_block LW.out.self) hne).trans LW.out.c.2.1
        have hkl : k < (xs ++ List.replicate (ow.length - k) ([] : List UInt8)).length := by rw [List.length_append, List.length_replicate]; have := HXL.out; omega
        have HKL : Hid (k < (xs ++ List.replicate (ow.length - k) ([] : List UInt8)).length) := hkl
        have HSR : Hid ((xs ++ List.replicate (ow.length - k) []).set k x = (xs ++ [x]) ++ List.replicate (ow.length - (k + 1)) []) := snoc_rep xs x ow.length k HXL.out hlt
        clear htx hv hkl hne
        go_wp2_with fail
        go_region_held3 (fun W => Kept (fun x => x ≠ B ∧ x ≠ tg) wr W) (first | assumption | (repeat (first | assumption | exact Kept.refl _ _ | refine Kept.drew ?_ | refine Kept.setCell ?_ (by simp) _))) (first
          | (go_at_call 48; (with_reducible refine Calls.mono cl ?_); rintro e w10 ⟨rfl, hm10⟩; have hk10 : Kept (fun _ => True) wr w10 := (by obtain ⟨m10, e10⟩ := hm10; rw [e10]; exact (Kept.refl _ _).drew.drewN m10); have L10 : Hid (Ldt w w10 B R bs s T (.slice (some ⟨gp, 0, none⟩) ow.length oc) (.slice (some ⟨tg, 0, none⟩) ow.length ow.length) ⟨ow, xs ++ List.replicate (ow.length - k) [], vo, dn, (o : Int), 0, 0⟩) := LW.out.all hk10; have s10 : Kept (fun x => x ≠ B ∧ x ≠ tg) wr w10 := hk10.mono (fun _ _ _ => trivial); clear hm10 hk10)
          | (go_at_call 47; (with_reducible refine Calls.mono (CT.out _ L10.out.rs) ?_); rintro e w11 ⟨rfl, h11, k11⟩; have L11 : Hid (Ldt w w11 B R bs s' T (.slice (some ⟨gp, 0, none⟩) ow.length oc) (.slice (some ⟨tg, 0, none⟩) ow.length ow.length) ⟨ow, xs ++ List.replicate (ow.length - k) [], vo, dn, (o : Int), 0, 0⟩) := L10.out.read h11 k11; have s11 : Kept (fun x => x ≠ B ∧ x ≠ tg) wr w11 := s10.trans (k11.mono (fun _ _ q => q.1)); have u11 : ∃ u, w11.cell? ⟨tg, k, none⟩ = some u := ⟨_, L11.out.tx.cell k HKL.out⟩; obtain ⟨u11, q11⟩ := u11; have f11 := (L11.out.tx.set k x).2; clear h11 k11))
        have L12 : Hid (Ldt w (w11.setCell ⟨tg, k, none⟩ (.string ⟨x.toArray⟩)) B R bs s' T (.slice (some ⟨gp, 0, none⟩) ow.length oc) (.slice (some ⟨tg, 0, none⟩) ow.length ow.length) ⟨ow, (xs ++ [x]) ++ List.replicate (ow.length - (k + 1)) [], vo, dn, (o : Int), 0, 0⟩) := by
          have := L11.out.text k x
          show Ldt _ _ _ _ _ _ _ _ _ _
          rw [← HSR.out]
          exact this
        go_wp2_with fail
        go_roundw
        case rel => exact ⟨k + 1, s', xs ++ [x], by omega, by go_num, by simp [HXL.out], HT2.out, by first | exact L12.out | exact L12.out.all ((Kept.refl _ _).drew)⟩
        case measure => simp [intOf]; omega
      · rw [if_neg hv] at htx
        have HT2 : Hid (rTx bs vo (ow.drop (k + 1)) s (xs ++ [[]]) = (tx, s5)) := htx
        have hv' : vo.at y = false := by simpa using hv
        rw [hv'] at cv
        have HSR : Hid (xs ++ List.replicate (ow.length - k) [] = (xs ++ [[]]) ++ List.replicate (ow.length - (k + 1)) []) := snoc_rep0 xs ow.length k hlt
        clear htx hv hv'
        go_wp2_with fail
        go_roundw
        case rel => exact ⟨k + 1, s, xs ++ [[]], by omega, by go_num, by simp [HXL.out], HT2.out, by rw [← HSR.out]; exact LW.out⟩
        case measure => simp [intOf]; omega
    · have hke : k = ow.length := by omega
      subst hke
      have hEq : (xs, s) = (tx, s5) := by
        rw [← htx, List.drop_length]
        rfl
      cases hEq
      have LX : Hid (Ldt w wr B R bs s5 T (.slice oo ow.length oc) (.slice (some ⟨tg, 0, none⟩) ow.length ow.length) ⟨ow, tx, vo, dn, (o : Int), 0, 0⟩) := by
        have := LW.out
        rw [Nat.sub_self, List.replicate_zero, List.append_nil] at this
        exact this
      clear LW htx
      go_wp2_with (go_at_call 49; (with_reducible refine Calls.mono (C6.out _ _ _ LX.out.rs) ?_); rintro e w12 ⟨rfl, h12, k12⟩; have L12 : Hid (Ldt w w12 B R bs s6 T (.slice oo ow.length oc) (.slice (some ⟨tg, 0, none⟩) ow.length ow.length) ⟨ow, tx, vo, dn, (o : Int), 0, 0⟩) := LX.out.read h12 k12; obtain ⟨-, -, q9, -⟩ := L12.out.c; have g9 := L12.out.free 9; have L13 : Hid (Ldt w (w12.setCell ⟨T, 9, none⟩ (.int .i64 av)) B R bs s6 T (.slice oo ow.length oc) (.slice (some ⟨tg, 0, none⟩) ow.length ow.length) ⟨ow, tx, vo, dn, (o : Int), av, 0⟩) := L12.out.ar av; clear h12 k12)
      clear q9 g9 L12 LX C6
      generalize w12.setCell ⟨T, 9, none⟩ (.int .i64 av) = w13 at *
      go_wp2_with (go_at_call 49; (with_reducible refine Calls.mono (C7.out _ _ _ L13.out.rs) ?_); rintro e w14 ⟨rfl, h14, k14⟩; have L14 : Hid (Ldt w w14 B R bs s7 T (.slice oo ow.length oc) (.slice (some ⟨tg, 0, none⟩) ow.length ow.length) ⟨ow, tx, vo, dn, (o : Int), av, 0⟩) := L13.out.read h14 k14; obtain ⟨-, -, -, q10⟩ := L14.out.c; have g10 := L14.out.free 10; have L15 : Hid (Ldt w (w14.setCell ⟨T, 10, none⟩ (.int .i64 yv)) B R bs s7 T (.slice oo ow.length oc) (.slice (some ⟨tg, 0, none⟩) ow.length ow.length) ⟨ow, tx, vo, dn, (o : Int), av, yv⟩) := L14.out.wy yv; clear h14 k14)
      clear q10 g10 L13 L14 C7
      generalize w14.setCell ⟨T, 10, none⟩ (.int .i64 yv) = w15 at *
      have ce := end_any L15.out.rs
      generalize hE : s7.end_ bs = E at *
      obtain ⟨E1, E2⟩ := E
      simp only at ce
      have HLD2 : Hid (LD = if E1 = 0 ∧ mayBeP ⟨ow, tx, vo, dn, (o : Int), av, yv⟩ = true then some ⟨ow, tx, vo, dn, (o : Int), av, yv⟩ else none) := HLD.out
      have CM : Hid (∀ m, Calls Try.prog 51 #[.pointer (some ⟨T, 0, none⟩)] (w15.drewN m) fun e w' => e = .returned (.bool (mayBeP ⟨ow, tx, vo, dn, (o : Int), av, yv⟩)) ∧ Kept (fun _ => True) (w15.drewN m) w') := fun m => by
        have h9 := L15.out.all (Kept.drewN (Kept.refl (fun _ => True) w15) m)
        exact mayBe_any ⟨h9.self, h9.ow, h9.tx, HXL.out, HL3.out, how, h9.t0⟩
      have HTm : Hid (∀ W, Kept (fun _ => True) w15 W → Tm W w.heap.size T (.slice oo ow.length oc) (.slice (some ⟨tg, 0, none⟩) ow.length ow.length) ⟨ow, tx, vo, dn, (o : Int), av, yv⟩) := fun W k => by
        have h9 := L15.out.all k
        exact ⟨h9.self, h9.ow, h9.tx, HXL.out, HL3.out, how, h9.t0⟩
      clear HLD hE
      by_cases hE1 : E1 = 0
      · subst hE1
        cases hmb : mayBeP ⟨ow, tx, vo, dn, (o : Int), av, yv⟩
        · rw [hmb] at CM
          have hl : LD = none := HLD2.out.trans (if_neg (by rw [hmb]; simp))
          clear hmb
          go_wp2_with (first
            | (go_at_call 50; (with_reducible refine Calls.mono ce ?_); rintro e w16 ⟨rfl, m16, rfl⟩)
            | (go_at_call 51; (with_reducible refine Calls.mono (CM.out _) ?_); rintro e w17 ⟨rfl, k17⟩))
          go_ret2
          exact ⟨.inl ⟨hl, rfl⟩, L15.out.kept.trans ((Kept.drewN (Kept.refl _ _) _).trans k17)⟩
        · rw [hmb] at CM
          have hl : LD = some ⟨ow, tx, vo, dn, (o : Int), av, yv⟩ := HLD2.out.trans (if_pos ⟨rfl, hmb⟩)
          clear hmb
          go_wp2_with (first
            | (go_at_call 50; (with_reducible refine Calls.mono ce ?_); rintro e w16 ⟨rfl, m16, rfl⟩)
            | (go_at_call 51; (with_reducible refine Calls.mono (CM.out _) ?_); rintro e w17 ⟨rfl, k17⟩))
          go_ret2
          have kk : Kept (fun _ => True) w15 w17 := (Kept.drewN (Kept.refl _ _) _).trans k17
          exact ⟨.inr ⟨T, _, _, _, hl, rfl, HTm.out _ kk⟩, L15.out.kept.trans kk⟩
      · have hE2 : (E1 != 0) = true := by simpa using hE1
        have hl : LD = none := HLD2.out.trans (if_neg (fun q => hE1 q.1))
        clear hE1
        go_wp2_with (go_at_call 50; (with_reducible refine Calls.mono ce ?_); rintro e w16 ⟨rfl, m16, rfl⟩)
        go_ret2
        exact ⟨.inl ⟨hl, rfl⟩, L15.out.kept.trans (Kept.drewN (Kept.refl _ _) _)⟩

end Go.Proofs.Ytebpkhemkdgbjaa
