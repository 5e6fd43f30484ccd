/-
  read, its other labels.
-/
import Derived.Test.YtnddpalngjmhnaaDoorQ3
namespace Go.Proofs.YtnddpalngjmhnaaDoor
open Go.RowKit

theorem alloc_two (w : World) (o o' : Obj) : ((w.alloc o).alloc o').heap[w.heap.size]? = some o ∧ ((w.alloc o).alloc o').heap[w.heap.size + 1]? = some o' := by
  refine ⟨(((Kept.refl (fun _ => True) _).alloc _).block w.heap.size (by simp) trivial).trans (heap_alloc_new w _), ?_⟩
  have hz := heap_alloc_new (w.alloc o) o'
  have hy : (w.alloc o).heap.size = w.heap.size + 1 := by simp
  rw [hy] at hz
  exact hz
theorem Mm.drew {w0 w : World} {k q t n : Int} (h : Mm w0 w k q t n) : Mm w0 w.drew k q t n := ⟨h.kept.drew, h.res, h.cur⟩

set_option maxRecDepth 100000 in
set_option maxHeartbeats 1000000 in
theorem rd3a {w w1 : World} {s : List UInt8} (_ : s.length ≤ 281474976710656) {p q e i dg : Nat} {a : Act} (hE : At1 s p q e) (hD : Dg s q e dg) (h1 : dg ≤ i) (h2 : i < e) (h4 : i < dg + 4) (ha : (tex s dg i).all isD = true) (hlt : i < s.length) (hc : isD s[i] = true)
    (hF : Fr s w.heap.size (w.heap.size + 1) i dg a) (hM : Mm w w1 0 q 0 (digs (tex s dg i))) : Rw w s p (6 * (s.length - i) + 4) 3 a w1 := by
  obtain ⟨u, rfl⟩ := hF
  have HE : Hid (At1 s p q e) := hE
  have HD : Hid (Dg s q e dg) := hD
  have HA : Hid ((tex s dg (i + 1)).all isD = true) := all_tex h1 hlt ha hc
  have hb : digs (tex s dg i) < 1000 := by
    have := digs_lt _ ha
    have hl := tex_length (q := dg) (Nat.le_of_lt hlt)
    rw [hl] at this
    exact Nat.lt_of_lt_of_le this (Nat.pow_le_pow_right (n := 10) (by decide) (show i - dg ≤ 3 by omega))
  have HN : Hid (digs (tex s dg (i + 1)) = 10 * digs (tex s dg i) + (s[i].toNat - 48)) := by
    show _ = _
    rw [tex_succ h1 hlt, digs_snoc]
  have hd := hc
  simp only [isD, Bool.and_eq_true, decide_eq_true_eq] at hd
  obtain ⟨d1, d2⟩ := hd
  have cl := fun W => isDigit_any (w := W) s[i]
  rw [hc] at cl
  have hx := at_text s i hlt (by simpa [ByteArray.size] using hlt)
  clear hE hD ha hc
  generalize digs (tex s dg i) = N at *
  generalize s[i] = c at *
  have HM : Hid (Mm w (w1.setCell ⟨w.heap.size + 1, 3, none⟩ (.int .i64 (10 * (N : Int) + ((c.toNat : Int) - 48)))).drew 0 q 0 (10 * (N : Int) + ((c.toNat : Int) - 48))) := (hM.set 3 _ rfl).drew
  obtain ⟨c0, c1, c2, c3, hfz⟩ := hM.cells
  have hf3 := hfz 3
  clear hM hfz
  have i1 : (i : Int) < (s.length : Int) := by omega
  have i0 : (0 : Int) ≤ (i : Int) := by omega
  have i4 : (i : Int) < (dg : Int) + 4 := by omega
  refine ⟨_, rfl, ?_⟩
  go_wp2_with fail
  refine Calls.mono (cl _) ?_
  rintro e' w2 ⟨rfl, rfl⟩
  go_wp2_with fail
  go_region
  all_goals
    go_wp2_with fail
    go_step3
    exact ⟨_, by omega, i + 1, q, 0, 10 * (N : Int) + ((c.toNat : Int) - 48), dg, .inr (.inl ⟨rfl, rfl, e, HE.out, HD.out, by omega, by omega, by omega, HA.out, rfl, by rw [HN.out]; omega⟩), Fr.mk' rfl rfl rfl rfl rfl rfl, HM.out⟩

set_option maxRecDepth 100000 in
set_option maxHeartbeats 1000000 in
theorem rd3na {w w1 : World} {s : List UInt8} (_ : s.length ≤ 281474976710656) {p q e i dg : Nat} {a : Act} (hE : At1 s p q e) (hq : q ≤ i) (h2 : i ≤ e) (h0 : i = dg) (hk : kd (tex s q e) = 1) (hlt : i = s.length)
    (hF : Fr s w.heap.size (w.heap.size + 1) i dg a) {n : Int} (hM : Mm w w1 0 q 0 n) : Rw w s p (6 * (s.length - i) + 4) 3 a w1 := by
  subst h0
  obtain ⟨u, rfl⟩ := hF
  have HE : Hid (At1 s p q e) := hE
  have HC : Hid (kd (tex s q e) = 1) := hk
  have HM : Hid (Mm w w1 0 q 0 n) := hM
  clear hE hk hM
  subst hlt
  refine ⟨_, rfl, ?_⟩
  go_wp2_with fail
  go_step3
  exact ⟨_, by omega, s.length, q, 0, n, s.length, .inr (.inr (.inr (.inl ⟨rfl, rfl, e, HE.out, hq, h2, HC.out⟩))), Fr.mk' rfl rfl rfl rfl rfl rfl, HM.out⟩

set_option maxRecDepth 100000 in
set_option maxHeartbeats 1000000 in
theorem rd3pa {w w1 : World} {s : List UInt8} (_ : s.length ≤ 281474976710656) {p q e i dg : Nat} {a : Act} (hE : At1 s p q e) (h1 : dg < i) (_ : q ≤ dg) (h2 : i ≤ e) {n : Int} (hn : 0 ≤ n ∧ n < 10000) (hk : (i = e → kd (tex s q e) = 2 ∧ num (tex s q e) = n) ∧ (i < e → kd (tex s q e) = 1)) (hm : ∀ h : q < s.length, s[q] ≠ 45) (hlt : i = s.length)
    (hF : Fr s w.heap.size (w.heap.size + 1) i dg a) (hM : Mm w w1 0 q 0 n) : Rw w s p (6 * (s.length - i) + 4) 3 a w1 := by
  obtain ⟨u, rfl⟩ := hF
  have hql : q < s.length := Nat.lt_of_lt_of_le hE.some hE.within
  have HE : Hid (At1 s p q e) := hE
  have HC : Hid ((i = e → kd (tex s q e) = 2 ∧ num (tex s q e) = n) ∧ (i < e → kd (tex s q e) = 1)) := hk
  have HM : Hid (Mm w (w1.setCell ⟨w.heap.size + 1, 0, none⟩ (.int .i64 2)) 2 q 0 (n)) := hM.set 0 _ rfl
  obtain ⟨c0, c1, c2, c3, hfz⟩ := hM.cells
  have hf0 := hfz 0
  have hf3 := hfz 3
  obtain ⟨n0, n1⟩ := hn
  clear hE hk hM hfz
  have hqx := at_text s q hql (by simpa [ByteArray.size] using hql)
  have hm' : ((s[q].toNat : Int) == 45) = false := by simp only [beq_eq_false_iff_ne, ne_eq]; intro x; exact hm hql (UInt8.toNat_inj.1 (by simpa using (by omega : s[q].toNat = 45)))
  clear hm
  generalize s[q] = cq at *
  subst hlt
  have g1 : ((s.length : Int) == (dg : Int)) = false := by simp; omega
  have g0 : (0 : Int) ≤ (q : Int) := by omega
  have gq : (q : Int) < (s.length : Int) := by omega
  refine ⟨_, rfl, ?_⟩
  go_wp2_with fail
  go_step3
  exact ⟨_, by omega, s.length, q, 2, n, dg, .inr (.inr (.inr (.inr (.inl ⟨rfl, rfl, e, HE.out, by omega, h2, fun x => ⟨(HC.out.1 x).1.symm, fun _ => (HC.out.1 x).2.symm⟩, HC.out.2⟩)))), Fr.mk' rfl rfl rfl rfl rfl rfl, HM.out⟩

set_option maxRecDepth 100000 in
set_option maxHeartbeats 1000000 in
theorem rd3ma {w w1 : World} {s : List UInt8} (_ : s.length ≤ 281474976710656) {p q e i dg : Nat} {a : Act} (hE : At1 s p q e) (h1 : dg < i) (_ : q ≤ dg) (h2 : i ≤ e) {n : Int} (hn : 0 ≤ n ∧ n < 10000) (hk : (i = e → kd (tex s q e) = 2 ∧ num (tex s q e) = -n) ∧ (i < e → kd (tex s q e) = 1)) (hm : ∀ h : q < s.length, s[q] = 45) (hlt : i = s.length)
    (hF : Fr s w.heap.size (w.heap.size + 1) i dg a) (hM : Mm w w1 0 q 0 n) : Rw w s p (6 * (s.length - i) + 4) 3 a w1 := by
  obtain ⟨u, rfl⟩ := hF
  have hql : q < s.length := Nat.lt_of_lt_of_le hE.some hE.within
  have HE : Hid (At1 s p q e) := hE
  have HC : Hid ((i = e → kd (tex s q e) = 2 ∧ num (tex s q e) = -n) ∧ (i < e → kd (tex s q e) = 1)) := hk
  have HM : Hid (Mm w ((w1.setCell ⟨w.heap.size + 1, 3, none⟩ (.int .i64 (-n))).setCell ⟨w.heap.size + 1, 0, none⟩ (.int .i64 2)) 2 q 0 (-n)) := (hM.set 3 _ rfl).set 0 _ rfl
  obtain ⟨c0, c1, c2, c3, hfz⟩ := hM.cells
  have hf0 := hfz 0
  have hf3 := hfz 3
  obtain ⟨n0, n1⟩ := hn
  clear hE hk hM hfz
  have hqx := at_text s q hql (by simpa [ByteArray.size] using hql)
  rw [hm hql] at hqx
  clear hm
  subst hlt
  have g1 : ((s.length : Int) == (dg : Int)) = false := by simp; omega
  have g0 : (0 : Int) ≤ (q : Int) := by omega
  have gq : (q : Int) < (s.length : Int) := by omega
  refine ⟨_, rfl, ?_⟩
  go_wp2_with fail
  go_step3
  exact ⟨_, by omega, s.length, q, 2, -n, dg, .inr (.inr (.inr (.inr (.inl ⟨rfl, rfl, e, HE.out, by omega, h2, fun x => ⟨(HC.out.1 x).1.symm, fun _ => (HC.out.1 x).2.symm⟩, HC.out.2⟩)))), Fr.mk' rfl rfl rfl rfl rfl rfl, HM.out⟩

set_option maxRecDepth 100000 in
set_option maxHeartbeats 1000000 in
theorem rd3pb {w w1 : World} {s : List UInt8} (_ : s.length ≤ 281474976710656) {p q e i dg : Nat} {a : Act} (hE : At1 s p q e) (_ : dg < i) (hqd : q ≤ dg) (h2 : i ≤ e) {n : Int} (hn : 0 ≤ n ∧ n < 10000) (hk : (i = e → kd (tex s q e) = 2 ∧ num (tex s q e) = n) ∧ (i < e → kd (tex s q e) = 1)) (hm : ∀ h : q < s.length, s[q] ≠ 45) (hlt : i < s.length) (hd : i = dg + 4)
    (hF : Fr s w.heap.size (w.heap.size + 1) i dg a) (hM : Mm w w1 0 q 0 n) : Rw w s p (6 * (s.length - i) + 4) 3 a w1 := by
  obtain ⟨u, rfl⟩ := hF
  have hql : q < s.length := Nat.lt_of_lt_of_le hE.some hE.within
  have HE : Hid (At1 s p q e) := hE
  have HC : Hid ((i = e → kd (tex s q e) = 2 ∧ num (tex s q e) = n) ∧ (i < e → kd (tex s q e) = 1)) := hk
  have HM : Hid (Mm w (w1.setCell ⟨w.heap.size + 1, 0, none⟩ (.int .i64 2)) 2 q 0 (n)) := hM.set 0 _ rfl
  obtain ⟨c0, c1, c2, c3, hfz⟩ := hM.cells
  have hf0 := hfz 0
  have hf3 := hfz 3
  obtain ⟨n0, n1⟩ := hn
  clear hE hk hM hfz
  have hqx := at_text s q hql (by simpa [ByteArray.size] using hql)
  have hm' : ((s[q].toNat : Int) == 45) = false := by simp only [beq_eq_false_iff_ne, ne_eq]; intro x; exact hm hql (UInt8.toNat_inj.1 (by simpa using (by omega : s[q].toNat = 45)))
  clear hm
  generalize s[q] = cq at *
  have i1 : (i : Int) < (s.length : Int) := by omega
  have i4 : ¬ (i : Int) < (dg : Int) + 4 := by omega
  have HI : Hid (i = dg + 4) := hd
  clear hd
  have g1 : ((i : Int) == (dg : Int)) = false := by simp; omega
  have g0 : (0 : Int) ≤ (q : Int) := by omega
  have gq : (q : Int) < (s.length : Int) := by omega
  refine ⟨_, rfl, ?_⟩
  go_wp2_with fail
  go_step3
  exact ⟨_, by omega, i, q, 2, n, dg, .inr (.inr (.inr (.inr (.inl ⟨rfl, rfl, e, HE.out, by omega, h2, fun x => ⟨(HC.out.1 x).1.symm, fun _ => (HC.out.1 x).2.symm⟩, HC.out.2⟩)))), Fr.mk' rfl rfl rfl rfl rfl rfl, HM.out⟩

set_option maxRecDepth 100000 in
set_option maxHeartbeats 1000000 in
theorem rd3mb {w w1 : World} {s : List UInt8} (_ : s.length ≤ 281474976710656) {p q e i dg : Nat} {a : Act} (hE : At1 s p q e) (_ : dg < i) (hqd : q ≤ dg) (h2 : i ≤ e) {n : Int} (hn : 0 ≤ n ∧ n < 10000) (hk : (i = e → kd (tex s q e) = 2 ∧ num (tex s q e) = -n) ∧ (i < e → kd (tex s q e) = 1)) (hm : ∀ h : q < s.length, s[q] = 45) (hlt : i < s.length) (hd : i = dg + 4)
    (hF : Fr s w.heap.size (w.heap.size + 1) i dg a) (hM : Mm w w1 0 q 0 n) : Rw w s p (6 * (s.length - i) + 4) 3 a w1 := by
  obtain ⟨u, rfl⟩ := hF
  have hql : q < s.length := Nat.lt_of_lt_of_le hE.some hE.within
  have HE : Hid (At1 s p q e) := hE
  have HC : Hid ((i = e → kd (tex s q e) = 2 ∧ num (tex s q e) = -n) ∧ (i < e → kd (tex s q e) = 1)) := hk
  have HM : Hid (Mm w ((w1.setCell ⟨w.heap.size + 1, 3, none⟩ (.int .i64 (-n))).setCell ⟨w.heap.size + 1, 0, none⟩ (.int .i64 2)) 2 q 0 (-n)) := (hM.set 3 _ rfl).set 0 _ rfl
  obtain ⟨c0, c1, c2, c3, hfz⟩ := hM.cells
  have hf0 := hfz 0
  have hf3 := hfz 3
  obtain ⟨n0, n1⟩ := hn
  clear hE hk hM hfz
  have hqx := at_text s q hql (by simpa [ByteArray.size] using hql)
  rw [hm hql] at hqx
  clear hm
  have i1 : (i : Int) < (s.length : Int) := by omega
  have i4 : ¬ (i : Int) < (dg : Int) + 4 := by omega
  have HI : Hid (i = dg + 4) := hd
  clear hd
  have g1 : ((i : Int) == (dg : Int)) = false := by simp; omega
  have g0 : (0 : Int) ≤ (q : Int) := by omega
  have gq : (q : Int) < (s.length : Int) := by omega
  refine ⟨_, rfl, ?_⟩
  go_wp2_with fail
  go_step3
  exact ⟨_, by omega, i, q, 2, -n, dg, .inr (.inr (.inr (.inr (.inl ⟨rfl, rfl, e, HE.out, by omega, h2, fun x => ⟨(HC.out.1 x).1.symm, fun _ => (HC.out.1 x).2.symm⟩, HC.out.2⟩)))), Fr.mk' rfl rfl rfl rfl rfl rfl, HM.out⟩

set_option maxRecDepth 100000 in
set_option maxHeartbeats 1000000 in
theorem rd3nc {w w1 : World} {s : List UInt8} (_ : s.length ≤ 281474976710656) {p q e i dg : Nat} {a : Act} (hE : At1 s p q e) (hq : q ≤ i) (h2 : i ≤ e) (h0 : i = dg) (hk : kd (tex s q e) = 1) (hlt : i < s.length) (hd : i < dg + 4) (hc : isD s[i] = false)
    (hF : Fr s w.heap.size (w.heap.size + 1) i dg a) {n : Int} (hM : Mm w w1 0 q 0 n) : Rw w s p (6 * (s.length - i) + 4) 3 a w1 := by
  subst h0
  obtain ⟨u, rfl⟩ := hF
  have HE : Hid (At1 s p q e) := hE
  have HC : Hid (kd (tex s q e) = 1) := hk
  have HM : Hid (Mm w w1 0 q 0 n) := hM
  clear hE hk hM
  have i1 : (i : Int) < (s.length : Int) := by omega
  have i0 : (0 : Int) ≤ (i : Int) := by omega
  have i4 : (i : Int) < (i : Int) + 4 := by omega
  have cl := fun W => isDigit_any (w := W) s[i]
  rw [hc] at cl
  have hx := at_text s i hlt (by simpa [ByteArray.size] using hlt)
  clear hc
  generalize s[i] = c at *
  refine ⟨_, rfl, ?_⟩
  go_wp2_with fail
  refine Calls.mono (cl _) ?_
  rintro e' w2 ⟨rfl, rfl⟩
  go_wp2_with fail
  go_step3
  exact ⟨_, by omega, i, q, 0, n, i, .inr (.inr (.inr (.inl ⟨rfl, rfl, e, HE.out, hq, h2, HC.out⟩))), Fr.mk' rfl rfl rfl rfl rfl rfl, HM.out⟩

set_option maxRecDepth 100000 in
set_option maxHeartbeats 1000000 in
theorem rd3pc {w w1 : World} {s : List UInt8} (_ : s.length ≤ 281474976710656) {p q e i dg : Nat} {a : Act} (hE : At1 s p q e) (h1 : dg < i) (hqd : q ≤ dg) (h2 : i ≤ e) {n : Int} (hn : 0 ≤ n ∧ n < 10000) (hk : (i = e → kd (tex s q e) = 2 ∧ num (tex s q e) = n) ∧ (i < e → kd (tex s q e) = 1)) (hm : ∀ h : q < s.length, s[q] ≠ 45) (hlt : i < s.length) (hd : i < dg + 4) (hc : isD s[i] = false)
    (hF : Fr s w.heap.size (w.heap.size + 1) i dg a) (hM : Mm w w1 0 q 0 n) : Rw w s p (6 * (s.length - i) + 4) 3 a w1 := by
  obtain ⟨u, rfl⟩ := hF
  have hql : q < s.length := Nat.lt_of_lt_of_le hE.some hE.within
  have HE : Hid (At1 s p q e) := hE
  have HC : Hid ((i = e → kd (tex s q e) = 2 ∧ num (tex s q e) = n) ∧ (i < e → kd (tex s q e) = 1)) := hk
  have HM : Hid (Mm w (w1.setCell ⟨w.heap.size + 1, 0, none⟩ (.int .i64 2)) 2 q 0 (n)) := hM.set 0 _ rfl
  obtain ⟨c0, c1, c2, c3, hfz⟩ := hM.cells
  have hf0 := hfz 0
  have hf3 := hfz 3
  obtain ⟨n0, n1⟩ := hn
  clear hE hk hM hfz
  have hqx := at_text s q hql (by simpa [ByteArray.size] using hql)
  have hm' : ((s[q].toNat : Int) == 45) = false := by simp only [beq_eq_false_iff_ne, ne_eq]; intro x; exact hm hql (UInt8.toNat_inj.1 (by simpa using (by omega : s[q].toNat = 45)))
  clear hm
  generalize s[q] = cq at *
  have i1 : (i : Int) < (s.length : Int) := by omega
  have i0 : (0 : Int) ≤ (i : Int) := by omega
  have i4 : (i : Int) < (dg : Int) + 4 := by omega
  have cl := fun W => isDigit_any (w := W) s[i]
  rw [hc] at cl
  have hx := at_text s i hlt (by simpa [ByteArray.size] using hlt)
  clear hc
  generalize s[i] = c at *
  have g1 : ((i : Int) == (dg : Int)) = false := by simp; omega
  have g0 : (0 : Int) ≤ (q : Int) := by omega
  have gq : (q : Int) < (s.length : Int) := by omega
  refine ⟨_, rfl, ?_⟩
  go_wp2_with fail
  refine Calls.mono (cl _) ?_
  rintro e' w2 ⟨rfl, rfl⟩
  go_wp2_with fail
  go_step3
  exact ⟨_, by omega, i, q, 2, n, dg, .inr (.inr (.inr (.inr (.inl ⟨rfl, rfl, e, HE.out, by omega, h2, fun x => ⟨(HC.out.1 x).1.symm, fun _ => (HC.out.1 x).2.symm⟩, HC.out.2⟩)))), Fr.mk' rfl rfl rfl rfl rfl rfl, HM.out⟩

set_option maxRecDepth 100000 in
set_option maxHeartbeats 1000000 in
theorem rd3mc {w w1 : World} {s : List UInt8} (_ : s.length ≤ 281474976710656) {p q e i dg : Nat} {a : Act} (hE : At1 s p q e) (h1 : dg < i) (hqd : q ≤ dg) (h2 : i ≤ e) {n : Int} (hn : 0 ≤ n ∧ n < 10000) (hk : (i = e → kd (tex s q e) = 2 ∧ num (tex s q e) = -n) ∧ (i < e → kd (tex s q e) = 1)) (hm : ∀ h : q < s.length, s[q] = 45) (hlt : i < s.length) (hd : i < dg + 4) (hc : isD s[i] = false)
    (hF : Fr s w.heap.size (w.heap.size + 1) i dg a) (hM : Mm w w1 0 q 0 n) : Rw w s p (6 * (s.length - i) + 4) 3 a w1 := by
  obtain ⟨u, rfl⟩ := hF
  have hql : q < s.length := Nat.lt_of_lt_of_le hE.some hE.within
  have HE : Hid (At1 s p q e) := hE
  have HC : Hid ((i = e → kd (tex s q e) = 2 ∧ num (tex s q e) = -n) ∧ (i < e → kd (tex s q e) = 1)) := hk
  have HM : Hid (Mm w ((w1.setCell ⟨w.heap.size + 1, 3, none⟩ (.int .i64 (-n))).setCell ⟨w.heap.size + 1, 0, none⟩ (.int .i64 2)) 2 q 0 (-n)) := (hM.set 3 _ rfl).set 0 _ rfl
  obtain ⟨c0, c1, c2, c3, hfz⟩ := hM.cells
  have hf0 := hfz 0
  have hf3 := hfz 3
  obtain ⟨n0, n1⟩ := hn
  clear hE hk hM hfz
  have hqx := at_text s q hql (by simpa [ByteArray.size] using hql)
  rw [hm hql] at hqx
  clear hm
  have i1 : (i : Int) < (s.length : Int) := by omega
  have i0 : (0 : Int) ≤ (i : Int) := by omega
  have i4 : (i : Int) < (dg : Int) + 4 := by omega
  have cl := fun W => isDigit_any (w := W) s[i]
  rw [hc] at cl
  have hx := at_text s i hlt (by simpa [ByteArray.size] using hlt)
  clear hc
  generalize s[i] = c at *
  have g1 : ((i : Int) == (dg : Int)) = false := by simp; omega
  have g0 : (0 : Int) ≤ (q : Int) := by omega
  have gq : (q : Int) < (s.length : Int) := by omega
  refine ⟨_, rfl, ?_⟩
  go_wp2_with fail
  refine Calls.mono (cl _) ?_
  rintro e' w2 ⟨rfl, rfl⟩
  go_wp2_with fail
  go_step3
  exact ⟨_, by omega, i, q, 2, -n, dg, .inr (.inr (.inr (.inr (.inl ⟨rfl, rfl, e, HE.out, by omega, h2, fun x => ⟨(HC.out.1 x).1.symm, fun _ => (HC.out.1 x).2.symm⟩, HC.out.2⟩)))), Fr.mk' rfl rfl rfl rfl rfl rfl, HM.out⟩

set_option maxRecDepth 100000 in
set_option maxHeartbeats 1000000 in
theorem rd2a {w w1 : World} {s : List UInt8} (_ : s.length ≤ 281474976710656) {p q e i dg : Nat} {a : Act} (hE : At1 s p q e) (h1 : q ≤ i) (h2 : i < e) (ha : (tex s q i).all isL = true) (hl : ∀ h : q < s.length, isL s[q] = true) (hlt : i < s.length) (hc : isL s[i] = true)
    (hF : Fr s w.heap.size (w.heap.size + 1) i dg a) (hM : Mm w w1 0 q 0 0) : Rw w s p (6 * (s.length - i) + 3) 2 a w1 := by
  obtain ⟨u, rfl⟩ := hF
  have HE : Hid (At1 s p q e) := hE
  have HL : Hid (∀ h : q < s.length, isL s[q] = true) := hl
  have HA : Hid ((tex s q (i + 1)).all isL = true) := all_tex h1 hlt ha hc
  have HM : Hid (Mm w w1 0 q 0 0) := hM
  have cl := fun W => isLetter_any (w := W) s[i]
  rw [hc] at cl
  have hx := at_text s i hlt (by simpa [ByteArray.size] using hlt)
  clear hE ha hc hl hM
  generalize s[i] = c at *
  have i1 : (i : Int) < (s.length : Int) := by omega
  have i0 : (0 : Int) ≤ (i : Int) := by omega
  refine ⟨_, rfl, ?_⟩
  go_wp2_with fail
  refine Calls.mono (cl _) ?_
  rintro e' w2 ⟨rfl, rfl⟩
  go_wp2_with fail
  go_step3
  exact ⟨_, by omega, i + 1, q, 0, 0, dg, .inr (.inr (.inl ⟨rfl, rfl, e, HE.out, by omega, by omega, HA.out, HL.out, rfl, rfl⟩)), Fr.mk' rfl rfl rfl rfl rfl rfl, HM.out⟩

set_option maxRecDepth 100000 in
set_option maxHeartbeats 1000000 in
theorem rd2b {w w1 : World} {s : List UInt8} (_ : s.length ≤ 281474976710656) {p q e i dg : Nat} {a : Act} (hE : At1 s p q e) (h1 : q < i) (h2 : i ≤ e) (ha : (tex s q i).all isL = true) (hk : (i = e → kd (tex s q e) = kd (tex s q i)) ∧ (i < e → kd (tex s q e) = 1)) (hlt : i = s.length)
    (hF : Fr s w.heap.size (w.heap.size + 1) i dg a) (hM : Mm w w1 0 q 0 0) : Rw w s p (6 * (s.length - i) + 3) 2 a w1 := by
  obtain ⟨u, rfl⟩ := hF
  have hie := Nat.le_trans h2 hE.within
  have HE : Hid (At1 s p q e) := hE
  have HC : Hid ((i = e → kd (tex s q e) = kd (tex s q i)) ∧ (i < e → kd (tex s q e) = 1)) := hk
  have HM : Hid (Mm w (w1.setCell ⟨w.heap.size + 1, 0, none⟩ (.int .i64 (kd (tex s q i) : Nat))) (kd (tex s q i) : Nat) q 0 0) := hM.set 0 _ rfl
  have hne : tex s q i ≠ [] := by
    intro h0
    have := tex_length (q := q) hie
    rw [h0] at this
    simp at this
    omega
  have H2 : Hid (kd (tex s q i) ≠ 2) := by
    show kd (tex s q i) ≠ 2
    intro h
    rw [kd_num, letters_num ha hne] at h
    cases h
  have cs := fun W => spelt_any (w := W) (tex s q i) ha hne
  have hcut := cut_text s q i (Nat.le_of_lt h1) hie
  obtain ⟨c0, c1, c2, c3, hfz⟩ := hM.cells
  have hf0 := hfz 0
  clear hE hk hM hfz ha hne
  have i1 : ¬ (i : Int) < (s.length : Int) := by omega
  have HI : Hid (i = s.length) := hlt
  clear hlt
  generalize tex s q i = x at *
  generalize kd x = kx at *
  refine ⟨_, rfl, ?_⟩
  go_wp2_with fail
  refine Calls.mono (cs _) ?_
  rintro e'' w3 ⟨rfl, rfl⟩
  go_wp2_with fail
  go_step3
  exact ⟨_, by omega, i, q, kx, 0, dg, .inr (.inr (.inr (.inr (.inl ⟨rfl, rfl, e, HE.out, by omega, h2, fun y => ⟨(HC.out.1 y).symm, fun z => absurd z H2.out⟩, HC.out.2⟩)))), Fr.mk' rfl rfl rfl rfl rfl rfl, HM.out⟩

set_option maxRecDepth 100000 in
set_option maxHeartbeats 1000000 in
theorem rd2c {w w1 : World} {s : List UInt8} (_ : s.length ≤ 281474976710656) {p q e i dg : Nat} {a : Act} (hE : At1 s p q e) (h1 : q < i) (h2 : i ≤ e) (ha : (tex s q i).all isL = true) (hk : (i = e → kd (tex s q e) = kd (tex s q i)) ∧ (i < e → kd (tex s q e) = 1)) (hlt : i < s.length) (hc : isL s[i] = false)
    (hF : Fr s w.heap.size (w.heap.size + 1) i dg a) (hM : Mm w w1 0 q 0 0) : Rw w s p (6 * (s.length - i) + 3) 2 a w1 := by
  obtain ⟨u, rfl⟩ := hF
  have hie := Nat.le_trans h2 hE.within
  have HE : Hid (At1 s p q e) := hE
  have HC : Hid ((i = e → kd (tex s q e) = kd (tex s q i)) ∧ (i < e → kd (tex s q e) = 1)) := hk
  have HM : Hid (Mm w (w1.setCell ⟨w.heap.size + 1, 0, none⟩ (.int .i64 (kd (tex s q i) : Nat))) (kd (tex s q i) : Nat) q 0 0) := hM.set 0 _ rfl
  have hne : tex s q i ≠ [] := by
    intro h0
    have := tex_length (q := q) hie
    rw [h0] at this
    simp at this
    omega
  have H2 : Hid (kd (tex s q i) ≠ 2) := by
    show kd (tex s q i) ≠ 2
    intro h
    rw [kd_num, letters_num ha hne] at h
    cases h
  have cs := fun W => spelt_any (w := W) (tex s q i) ha hne
  have hcut := cut_text s q i (Nat.le_of_lt h1) hie
  obtain ⟨c0, c1, c2, c3, hfz⟩ := hM.cells
  have hf0 := hfz 0
  clear hE hk hM hfz ha hne
  have i1 : (i : Int) < (s.length : Int) := by omega
  have i0 : (0 : Int) ≤ (i : Int) := by omega
  have cl := fun W => isLetter_any (w := W) s[i]
  rw [hc] at cl
  have hx := at_text s i hlt (by simpa [ByteArray.size] using hlt)
  clear hc
  generalize s[i] = c at *
  generalize tex s q i = x at *
  generalize kd x = kx at *
  refine ⟨_, rfl, ?_⟩
  go_wp2_with fail
  refine Calls.mono (cl _) ?_
  rintro e' w2 ⟨rfl, rfl⟩
  go_wp2_with fail
  refine Calls.mono (cs _) ?_
  rintro e'' w3 ⟨rfl, rfl⟩
  go_wp2_with fail
  go_step3
  exact ⟨_, by omega, i, q, kx, 0, dg, .inr (.inr (.inr (.inr (.inl ⟨rfl, rfl, e, HE.out, by omega, h2, fun y => ⟨(HC.out.1 y).symm, fun z => absurd z H2.out⟩, HC.out.2⟩)))), Fr.mk' rfl rfl rfl rfl rfl rfl, HM.out⟩

set_option maxRecDepth 100000 in
set_option maxHeartbeats 1000000 in
theorem rd4 {w w1 : World} {s : List UInt8} (_ : s.length ≤ 281474976710656) {p q e i dg k : Nat} {n : Int} {a : Act} (hE : At1 s p q e) (h1 : q ≤ i) (h2 : i ≤ e) (hk : kd (tex s q e) = 1)
    (hF : Fr s w.heap.size (w.heap.size + 1) i dg a) (hM : Mm w w1 (k : Nat) q 0 n) (IH : Ri w s p (6 * (s.length - i) + 2)) : Rw w s p (6 * (s.length - i) + 2) 4 a w1 := by
  obtain ⟨u, rfl⟩ := hF
  have HE : Hid (At1 s p q e) := hE
  have HC : Hid (kd (tex s q e) = 1) := hk
  have HM : Hid (Mm w (w1.setCell ⟨w.heap.size + 1, 0, none⟩ (.int .i64 1)) 1 q 0 n) := hM.set 0 _ rfl
  obtain ⟨c0, c1, c2, c3, hfz⟩ := hM.cells
  have hf0 := hfz 0
  clear hE hk hM hfz
  refine ⟨_, rfl, ?_⟩
  go_wp2_with fail
  go_step3
  iterate 2 (first | go_values | go_skip | go_guarded | go_step | go_upon | go_back)
  refine From.use (IH.out (6 * (s.length - i) + 1) 5 _ _ (by omega) ⟨i, q, 1, n, dg, .inr (.inr (.inr (.inr (.inl ⟨rfl, rfl, e, HE.out, h1, h2, fun _ => ⟨HC.out.symm, fun h => absurd h (by decide)⟩, fun _ => HC.out⟩)))), ?_, ?_⟩) rfl
  · exact Fr.mk' rfl rfl rfl rfl rfl rfl
  · exact HM.out

set_option maxRecDepth 100000 in
set_option maxHeartbeats 1000000 in
theorem rd5a {w w1 : World} {s : List UInt8} (_ : s.length ≤ 281474976710656) {p q e i dg k : Nat} {n : Int} {a : Act} (hE : At1 s p q e) (h1 : q ≤ i) (h2 : i < e) (hk : kd (tex s q e) = 1) (hlt : i < s.length) (hc : s[i] ≠ 32)
    (hF : Fr s w.heap.size (w.heap.size + 1) i dg a) (hM : Mm w w1 (k : Nat) q 0 n) : Rw w s p (6 * (s.length - i) + 1) 5 a w1 := by
  obtain ⟨u, rfl⟩ := hF
  have HE : Hid (At1 s p q e) := hE
  have HC : Hid (kd (tex s q e) = 1) := hk
  have HM : Hid (Mm w w1 (k : Nat) q 0 n) := hM
  have hx := at_text s i hlt (by simpa [ByteArray.size] using hlt)
  have hc' : ((s[i].toNat : Int) == 32) = false := by simp only [beq_eq_false_iff_ne, ne_eq]; intro q; exact hc (UInt8.toNat_inj.1 (by simpa using (by omega : s[i].toNat = 32)))
  clear hE hk hM hc
  generalize s[i] = c at *
  have i1 : (i : Int) < (s.length : Int) := by omega
  have i0 : (0 : Int) ≤ (i : Int) := by omega
  refine ⟨_, rfl, ?_⟩
  go_wp2_with fail
  go_step3
  exact ⟨_, by omega, i + 1, q, k, n, dg, .inr (.inr (.inr (.inl ⟨rfl, rfl, e, HE.out, by omega, by omega, HC.out⟩))), Fr.mk' rfl rfl rfl rfl rfl rfl, HM.out⟩

set_option maxRecDepth 100000 in
set_option maxHeartbeats 1000000 in
theorem rd5b {w w1 : World} {s : List UInt8} (_ : s.length ≤ 281474976710656) {p q e i dg k : Nat} {n : Int} {a : Act} (hE : At1 s p q e) (h2 : i = e) (hk : k = kd (tex s q e) ∧ (k = 2 → n = num (tex s q e))) (hlt : i = s.length)
    (hF : Fr s w.heap.size (w.heap.size + 1) i dg a) (hM : Mm w w1 (k : Nat) q 0 n) (IH : Ri w s p (6 * (s.length - i) + 1)) : Rw w s p (6 * (s.length - i) + 1) 5 a w1 := by
  obtain ⟨u, rfl⟩ := hF
  have HE : Hid (At1 s p q e ∧ i = e ∧ k = kd (tex s q e) ∧ (k = 2 → n = num (tex s q e))) := ⟨hE, h2, hk⟩
  have HM : Hid (Mm w w1 (k : Nat) q 0 n) := hM
  clear hE hk hM h2
  have i1 : ¬ (i : Int) < (s.length : Int) := by omega
  have HI : Hid (i = s.length) := hlt
  clear hlt
  refine ⟨_, rfl, ?_⟩
  go_wp2_with fail
  go_step3
  iterate 2 (first | go_values | go_skip | go_guarded | go_step | go_upon | go_back)
  refine From.use (IH.out (6 * (s.length - i)) 1 _ _ (by omega) ⟨i, q, k, n, dg, .inr (.inr (.inr (.inr (.inr ⟨rfl, rfl, .inr ⟨e, HE.out⟩⟩)))), ?_, ?_⟩) rfl
  · exact Fr.mk' rfl rfl rfl rfl rfl rfl
  · exact HM.out

set_option maxRecDepth 100000 in
set_option maxHeartbeats 1000000 in
theorem rd5c {w w1 : World} {s : List UInt8} (_ : s.length ≤ 281474976710656) {p q e i dg k : Nat} {n : Int} {a : Act} (hE : At1 s p q e) (h2 : i = e) (hk : k = kd (tex s q e) ∧ (k = 2 → n = num (tex s q e))) (hlt : i < s.length) (hc : s[i] = 32)
    (hF : Fr s w.heap.size (w.heap.size + 1) i dg a) (hM : Mm w w1 (k : Nat) q 0 n) (IH : Ri w s p (6 * (s.length - i) + 1)) : Rw w s p (6 * (s.length - i) + 1) 5 a w1 := by
  obtain ⟨u, rfl⟩ := hF
  have HE : Hid (At1 s p q e ∧ i = e ∧ k = kd (tex s q e) ∧ (k = 2 → n = num (tex s q e))) := ⟨hE, h2, hk⟩
  have HM : Hid (Mm w w1 (k : Nat) q 0 n) := hM
  clear hE hk hM h2
  have i1 : (i : Int) < (s.length : Int) := by omega
  have i0 : (0 : Int) ≤ (i : Int) := by omega
  have hx := at_text s i hlt (by simpa [ByteArray.size] using hlt)
  rw [hc] at hx
  clear hc
  refine ⟨_, rfl, ?_⟩
  go_wp2_with fail
  go_step3
  iterate 2 (first | go_values | go_skip | go_guarded | go_step | go_upon | go_back)
  refine From.use (IH.out (6 * (s.length - i)) 1 _ _ (by omega) ⟨i, q, k, n, dg, .inr (.inr (.inr (.inr (.inr ⟨rfl, rfl, .inr ⟨e, HE.out⟩⟩)))), ?_, ?_⟩) rfl
  · exact Fr.mk' rfl rfl rfl rfl rfl rfl
  · exact HM.out

set_option maxRecDepth 100000 in
set_option maxHeartbeats 1000000 in
theorem rd1 {w w1 : World} {s : List UInt8} (_ : s.length ≤ 281474976710656) {p q i dg k : Nat} {n : Int} {a : Act} (hR : Rd s p k q i n)
    (hF : Fr s w.heap.size (w.heap.size + 1) i dg a) (hM : Mm w w1 (k : Nat) q 0 n) : Rw w s p (6 * (s.length - i)) 1 a w1 := by
  obtain ⟨u, rfl⟩ := hF
  have HR : Hid (Rd s p k q i n) := hR
  have HM : Hid (Mm w (w1.setCell ⟨w.heap.size + 1, 2, none⟩ (.int .i64 (i : Nat))) (k : Nat) q i n) := hM.set 2 _ rfl
  obtain ⟨c0, c1, c2, c3, hfz⟩ := hM.cells
  have hf2 := hfz 2
  have r0 : w1.cell? ⟨w.heap.size, 0, none⟩ = some (.int .i64 0) := by simp [World.cell?, hM.res]
  have r1 : w1.cell? ⟨w.heap.size, 1, none⟩ = some (.int .i64 0) := by simp [World.cell?, hM.res]
  have r2 : w1.cell? ⟨w.heap.size, 2, none⟩ = some (.int .i64 0) := by simp [World.cell?, hM.res]
  have r3 : w1.cell? ⟨w.heap.size, 3, none⟩ = some (.int .i64 0) := by simp [World.cell?, hM.res]
  have rf : ∀ j, w1.frozen? ⟨w.heap.size, j, none⟩ = false := fun j => by simp [World.frozen?, hM.res]
  have rf0 := rf 0
  have rf1 := rf 1
  have rf2 := rf 2
  have rf3 := rf 3
  clear hR hM hfz rf
  refine ⟨_, rfl, ?_⟩
  go_wp2_with fail
  simp only [Exit.jumps]
  refine bodyPost_ret (results_word rfl _ _ rfl (set_word (set_word (set_word (set_word HM.out.res 0 _) 1 _) 2 _) 3 _)) rfl ⟨⟨k, q, i, n, rfl, HR.out⟩, ?_⟩
  have := HM.out.kept
  refine ⟨this.os, this.tape, this.output, Nat.le_trans this.size (by simp [World.setCell]), fun j hj hp => ?_⟩
  rw [heap_setCell_other _ _ j _ (by simp; omega), heap_setCell_other _ _ j _ (by simp; omega), heap_setCell_other _ _ j _ (by simp; omega), heap_setCell_other _ _ j _ (by simp; omega)]
  exact this.block j hj hp

set_option maxRecDepth 100000 in
set_option maxHeartbeats 1000000 in
theorem read_any {w : World} {s : List UInt8} (hs : s.length ≤ 281474976710656) (p : Nat) (hp : p ≤ s.length) :
    Calls Tryd.prog 81 #[.string ⟨s.toArray⟩, .int .i64 (p : Nat)] w fun e w' => (∃ (k q t : Nat) (n : Int), e = .returned (.agg #[.int .i64 (k : Nat), .int .i64 (q : Nat), .int .i64 (t : Nat), .int .i64 n]) ∧ Rd s p k q t n) ∧ Kept (fun _ => True) w w' := by
  go_enter Tryd.func81, Tryd.ntmps81
  go_wp2
  refine wp_scope_all (c := scopeIn Tryd.f81.body) (Rj w s p) ?_ ?_
  · rintro m l a w1 ⟨i, q, k, n, dg, hR, hF, hM⟩ IH
    rcases hR with ⟨rfl, rfl, h1, h2, h3, rfl, rfl, rfl, rfl⟩ | ⟨rfl, rfl, e, hE, hD, h1, h2, h4, ha, rfl, rfl⟩ | ⟨rfl, rfl, e, hE, h1, h2, ha, hl, rfl, rfl⟩ | ⟨rfl, rfl, e, hE, h1, h2, hk⟩ | ⟨rfl, rfl, e, hE, h1, h2, hk1, hk2⟩ | ⟨rfl, rfl, hR⟩
    · rcases Nat.lt_or_ge i s.length with hlt | hge
      · by_cases hc : s[i] = 32
        · exact rd0a hs h1 hlt h3 hc hF hM
        · exact rd0c hs h1 hlt h3 hc hF hM IH
      · exact rd0b hs (by omega) h3 hF hM
    · have hql := Nat.lt_of_lt_of_le hE.some hE.within
      have hdq : q ≤ dg := by rcases hD.spot with ⟨x, _⟩ | ⟨x, _⟩ <;> omega
      have hb : (digs (tex s dg i) : Int) < 10000 := by
        have := digs_lt _ ha
        have hl := tex_length (q := dg) (Nat.le_trans h2 hE.within)
        rw [hl] at this
        have := Nat.lt_of_lt_of_le this (Nat.pow_le_pow_right (n := 10) (by decide) (show i - dg ≤ 4 by omega))
        omega
      have out : (i = e ∨ i = dg + 4 ∨ ∃ hi : i < s.length, isD s[i] = false) → ((i = s.length) ∨ (∃ _ : i < s.length, i = dg + 4) ∨ (∃ hi : i < s.length, i < dg + 4 ∧ isD s[i] = false)) → Rw w s p (6 * (s.length - i) + 4) 3 a w1 := by
        intro hd how
        rcases Nat.eq_or_lt_of_le h1 with h0 | h0
        · have hd' : dg = e ∨ ∃ hi : dg < s.length, isD s[dg] = false := by
            subst h0
            rcases hd with hd | hd | hd
            · exact .inl hd
            · omega
            · exact .inr hd
          have hk := hD.none hE hd'
          rcases how with hw | ⟨_, hw⟩ | ⟨hi, hw, hc⟩
          · exact rd3na hs hE (by omega) h2 h0.symm hk hw hF hM
          · omega
          · exact rd3nc hs hE (by omega) h2 h0.symm hk hi hw hc hF hM
        · have hk := hD.some hE h0 h2 h4 ha hd
          rcases hD.spot with ⟨hq, hm⟩ | ⟨hq, hm⟩
          · rw [if_pos hq] at hk
            rcases how with hw | ⟨hi, hw⟩ | ⟨hi, hw, hc⟩
            · exact rd3pa hs hE h0 hdq h2 ⟨by omega, hb⟩ hk hm hw hF hM
            · exact rd3pb hs hE h0 hdq h2 ⟨by omega, hb⟩ hk hm hi hw hF hM
            · exact rd3pc hs hE h0 hdq h2 ⟨by omega, hb⟩ hk hm hi hw hc hF hM
          · rw [if_neg (by omega)] at hk
            rcases how with hw | ⟨hi, hw⟩ | ⟨hi, hw, hc⟩
            · exact rd3ma hs hE h0 hdq h2 ⟨by omega, hb⟩ hk hm hw hF hM
            · exact rd3mb hs hE h0 hdq h2 ⟨by omega, hb⟩ hk hm hi hw hF hM
            · exact rd3mc hs hE h0 hdq h2 ⟨by omega, hb⟩ hk hm hi hw hc hF hM
      rcases hE.out (Nat.le_trans hdq h1) h2 with ⟨hi, h5, h6⟩ | ⟨h5, h6⟩ | ⟨h5, hi, h6⟩
      · by_cases h7 : i = dg + 4
        · exact out (.inr (.inl h7)) (.inr (.inl ⟨hi, h7⟩))
        · by_cases hc : isD s[i] = true
          · exact rd3a hs hE hD h1 h5 (by omega) ha hi hc hF hM
          · have hc' : isD s[i] = false := by simpa using hc
            exact out (.inr (.inr ⟨hi, hc'⟩)) (.inr (.inr ⟨hi, by omega, hc'⟩))
      · exact out (.inl h5) (.inl h6)
      · by_cases h7 : i = dg + 4
        · exact out (.inl h5) (.inr (.inl ⟨hi, h7⟩))
        · exact out (.inl h5) (.inr (.inr ⟨hi, by omega, by rw [h6]; decide⟩))
    · have hql := Nat.lt_of_lt_of_le hE.some hE.within
      have out : (i = e ∨ ∃ hi : i < s.length, isL s[i] = false) → ((i = s.length) ∨ (∃ hi : i < s.length, isL s[i] = false)) → Rw w s p (6 * (s.length - i) + 3) 2 a w1 := by
        intro hd how
        have h0 : q < i := by
          rcases Nat.eq_or_lt_of_le h1 with h0 | h0
          · subst h0
            rcases how with hw | ⟨hi, hw⟩
            · omega
            · rw [hl hi] at hw; cases hw
          · exact h0
        have hk := letters_some hE h0 h2 hl hd
        rcases how with hw | ⟨hi, hw⟩
        · exact rd2b hs hE h0 h2 ha hk hw hF hM
        · exact rd2c hs hE h0 h2 ha hk hi hw hF hM
      rcases hE.out h1 h2 with ⟨hi, h5, h6⟩ | ⟨h5, h6⟩ | ⟨h5, hi, h6⟩
      · by_cases hc : isL s[i] = true
        · exact rd2a hs hE h1 h5 ha hl hi hc hF hM
        · have hc' : isL s[i] = false := by simpa using hc
          exact out (.inr ⟨hi, hc'⟩) (.inr ⟨hi, hc'⟩)
      · exact out (.inl h5) (.inl h6)
      · exact out (.inl h5) (.inr ⟨hi, by rw [h6]; decide⟩)
    · exact rd4 hs hE h1 h2 hk hF hM IH
    · rcases hE.out h1 h2 with ⟨hi, h5, h6⟩ | ⟨h5, h6⟩ | ⟨h5, hi, h6⟩
      · exact rd5a hs hE h1 h5 (hk2 h5) hi h6 hF hM
      · exact rd5b hs hE h5 (hk1 h5) h6 hF hM IH
      · exact rd5c hs hE h5 (hk1 h5) hi h6 hF hM IH
    · refine rd1 hs ?_ hF hM
      rcases hR with ⟨x1, x2, x3, x4⟩ | ⟨e, x1, x2, x3⟩
      · exact .inl ⟨x3, x1, x2, x4⟩
      · subst x2
        exact .inr ⟨x1, x3⟩
  · intro H
    have HH : Hid _ := H
    clear H
    conv => arg 2; whnf
    go_wp2
    go_step3
    iterate 2 (first | go_values | go_skip | go_guarded | go_step | go_upon | go_back)
    refine From.use (HH.out (6 * (s.length - p) + 5) 0 _ _ ⟨p, 0, 0, 0, 0, .inl ⟨rfl, rfl, Nat.le_refl _, hp, rfl, rfl, rfl, rfl, rfl⟩, ?_, ?_⟩) rfl
    · exact Fr.mk' rfl rfl rfl rfl rfl rfl
    · exact ⟨((Kept.refl _ _).alloc _).alloc _, (alloc_two w _ _).1, (alloc_two w _ _).2⟩

end Go.Proofs.YtnddpalngjmhnaaDoor
