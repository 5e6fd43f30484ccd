/-
  Load: the program's.
-/
import Derived.Test.YtihfcmcpapgokaaE6
namespace Go.Proofs.Ytihfcmcpapgokaa
open Go.RowKit

/-- A reader and a table side by side, made behind w0. -/
structure Ld (w0 w : World) (B R : Nat) (bs : List UInt8) (s : RS) (A : Nat) (v : Value) (m : Int) (xs : List La) : Prop where
  rs : Rs w B R bs bs.length s
  tb : Pt w A v m xs
  kept : Kept (fun _ => True) w0 w
  b0 : w0.heap.size ≤ B
  r0 : w0.heap.size ≤ R
  a0 : w0.heap.size ≤ A
  v0 : ∀ k, v.ownBlock = some k → w0.heap.size ≤ k

section
variable {w0 w w' : World} {B R : Nat} {bs : List UInt8} {s s' : RS} {A : Nat} {v v' : Value} {m : Int} {xs ys : List La}
theorem Ld.apart (h : Ld w0 w B R bs s A v m xs) : (A ≠ B ∧ A ≠ R) ∧ (v.ownBlock ≠ some B ∧ v.ownBlock ≠ some R) := by
  obtain ⟨cur, hr, -⟩ := h.rs.rd.row
  refine ⟨⟨fun q => ?_, fun q => ?_⟩, own_type h.tb.own h.rs.rd.self (by decide), own_type h.tb.own hr (by decide)⟩
  · have := h.tb.self
    rw [q, h.rs.rd.self] at this
    simp at this
  · have := h.tb.self
    rw [q, hr] at this
    simp at this
theorem Ld.all (h : Ld w0 w B R bs s A v m xs) (k : Kept (fun _ => True) w w') : Ld w0 w' B R bs s A v m xs :=
  ⟨h.rs.kept k trivial trivial, h.tb.all k, h.kept.trans k, h.b0, h.r0, h.a0, h.v0⟩
theorem Ld.read (h : Ld w0 w B R bs s A v m xs) (r : Rs w' B R bs bs.length s') (k : Kept (· ≠ B) w w') : Ld w0 w' B R bs s' A v m xs :=
  ⟨r, h.tb.kept k h.apart.1.1 (fun x hx e => h.apart.2.1 (e ▸ hx)), h.kept.then k (fun i hi _ => by have := h.b0; omega), h.b0, h.r0, h.a0, h.v0⟩
theorem Ld.push (h : Ld w0 w B R bs s A v m xs) (k : PS w w' A v v' m ys) : Ld w0 w' B R bs s A v' m ys :=
  ⟨h.rs.kept k.kept ⟨Ne.symm h.apart.1.1, h.apart.2.1⟩ ⟨Ne.symm h.apart.1.2, h.apart.2.2⟩, k.now, h.kept.then k.kept (fun i hi _ => ⟨by have := h.a0; omega, fun e => by have := h.v0 i e; omega⟩), h.b0, h.r0, h.a0, fun x hx => by
    rcases k.new x hx with e | e
    · exact h.v0 x e
    · exact Nat.le_trans h.kept.size e⟩
end

theorem Where.any {xs : List La} {c : List UInt8} {n : Int} (h : Where xs c n) : xs.any (isC c) = decide (0 ≤ n) := by
  rcases h with ⟨rfl, h⟩ | ⟨k, rfl, h⟩
  · rw [decide_eq_false (by omega)]
    rw [List.any_eq_false]
    intro x hx
    simpa [isC] using h x hx
  · rw [decide_eq_true (by omega), List.any_eq_true]
    exact ⟨_, List.getElem_mem h.lt, by simpa [isC] using h.is⟩

set_option maxRecDepth 100000 in
set_option maxHeartbeats 2000000 in
theorem load_any {w : World} {bs : List UInt8} {cap : Nat} {ao : Option Addr} (hb : (bs.length : Int) ≤ 140737488355328) (hc : Has w ao bs) :
    Calls Try.prog 11 #[.slice ao bs.length cap] w fun e w' => ((load bs = none ∧ e = .returned (.tuple #[.pointer none, .int .i64 12])) ∨ ∃ A v m xs, load bs = some (m, xs) ∧ e = .returned (.tuple #[.pointer (some ⟨A, 0, none⟩), .int .i64 0]) ∧ Pt w' A v (m : Nat) xs ∧ xs.length ≤ 64 ∧ w.heap.size ≤ A ∧ (∀ k, v.ownBlock = some k → w.heap.size ≤ k)) ∧ Kept (fun _ => True) w w' := by
  have hl0 : load bs = if ((⟨0, 0⟩ : RS).count bs 64).1 < 1 then none
      else match loads bs (((⟨0, 0⟩ : RS).count bs 64).2.count bs ((⟨0, 0⟩ : RS).count bs 64).1).1 (((⟨0, 0⟩ : RS).count bs 64).2.count bs ((⟨0, 0⟩ : RS).count bs 64).1).2 [] with
        | none => none
        | some r => if (r.1.end_ bs).1 = 0 then some (((⟨0, 0⟩ : RS).count bs 64).1, r.2) else none := rfl
  have cc := fun W B R cap (q : Rs W B R bs cap ⟨0, 0⟩) => count_any 64 q
  have hcm := count_most ⟨0, 0⟩ bs 64
  simp only [Int.cast_ofNat_Int] at hcm
  generalize (⟨0, 0⟩ : RS).count bs 64 = r at cc hl0 hcm
  obtain ⟨m, s1⟩ := r
  simp only at cc hl0 hcm
  have cc2 := fun W B R cap (q : Rs W B R bs cap s1) => count_any m q
  have hcm2 := count_most s1 bs m
  generalize s1.count bs m = r at cc2 hl0 hcm2
  obtain ⟨n, s2⟩ := r
  simp only at cc2 hl0 hcm2
  generalize load bs = LD at *
  have HL : Hid (LD = if m < 1 then none
      else match loads bs n s2 [] with
        | none => none
        | some r => if (r.1.end_ bs).1 = 0 then some (m, r.2) else none) := hl0
  clear hl0
  have cn := newReader_any (cap := cap) hb hc
  go_enter Try.func11, Try.ntmps11
  go_wp2_with fail
  refine Calls.mono cn ?_
  rintro e w1 ⟨B, R, rfl, h1, k1, b1, r1⟩
  have H1 : Hid (Rs w1 B R bs bs.length ⟨0, 0⟩) := h1
  have K1 : Hid (Kept (fun _ => True) w w1 ∧ w.heap.size ≤ B ∧ w.heap.size ≤ R) := ⟨k1, b1, r1⟩
  clear h1 k1 b1 r1 cn
  go_wp2_with fail
  refine Calls.mono (cc _ _ _ _ H1.out) ?_
  rintro e w2 ⟨rfl, h2, k2⟩
  have H2 : Hid (Rs w2 B R bs bs.length s1) := h2
  have K2 : Hid (Kept (fun _ => True) w w2) := K1.out.1.then k2 (fun i hi _ => by have := K1.out.2.1; omega)
  clear h2 k2 H1 cc
  by_cases hm1 : m < 1
  · have HL' : Hid (LD = none) := HL.out.trans (if_pos hm1)
    have cb := fun W => new_bad (w := W) (m : Int) (.inl (by omega))
    clear HL hm1
    go_wp2_with fail
    refine Calls.mono (cb _) ?_
    rintro e w3 ⟨rfl, rfl⟩
    go_wp2_with fail
    go_ret2
    exact ⟨.inl ⟨HL'.out, rfl⟩, K2.out⟩
  have HL' : Hid (LD = match loads bs n s2 [] with
        | none => none
        | some r => if (r.1.end_ bs).1 = 0 then some (m, r.2) else none) := HL.out.trans (if_neg hm1)
  clear HL
  have co := fun W => new_ok (w := W) (m : Int) (by omega) (by omega)
  go_wp2_with fail
  refine Calls.mono (co _) ?_
  rintro e w3 ⟨rfl, p3, k3⟩
  have L3 : Hid (Ld w w3 B R bs s1 w2.heap.size (.slice none 0 0) m []) := ⟨H2.out.kept k3 trivial trivial, p3, K2.out.trans k3, K1.out.2.1, K1.out.2.2, K2.out.size, fun k hk => by simp [Value.ownBlock] at hk⟩
  clear p3 k3 H2 K2 co K1
  generalize w2.heap.size = A at *
  obtain ⟨c0, c1, f0, f1⟩ := two_cell L3.out.tb.self
  have lA := L3.out.tb.lt
  go_wp2_with fail
  refine Calls.mono (cc2 _ _ _ _ L3.out.rs) ?_
  rintro e w4 ⟨rfl, h4, k4⟩
  have L4 : Hid (Ld w w4 B R bs s2 A (.slice none 0 0) m []) := L3.out.read h4 k4
  clear L3 h4 k4 cc2 c0 c1 f0 f1 lA
  generalize hLL : loads bs n s2 [] = LL at *
  have HLL : Hid (loads bs (n - 0) s2 [] = LL) := hLL
  clear hLL
  go_wp2_with fail
  go_loopw [26] (fun t wr => ∃ (j : Nat) (s : RS) (v : Value) (xs : List La), j ≤ n ∧ xs.length = j ∧ t = .int .i64 j ∧ loads bs (n - j) s xs = LL ∧ Ld w wr B R bs s A v m xs) (fun t _ => n - (intOf t).toNat)
  case atStart => exact ⟨0, s2, _, [], Nat.zero_le _, rfl, rfl, HLL.out, L4.out⟩
  case round =>
    obtain ⟨j, s, v, xs, hj, rfl, rfl, hll, hld⟩ := hrel
    have LW : Hid (Ld w wr B R bs s A v m xs) := hld
    clear hld L4 HLL
    by_cases hjn : xs.length < n
    · obtain ⟨q, hq⟩ : ∃ q, n - xs.length = q + 1 := ⟨n - xs.length - 1, by omega⟩
      have hq1 : Hid (n - (xs.length + 1) = q) := by show _ = _; omega
      rw [hq] at hll
      unfold loads at hll
      have cv := fun W (q : Rs W B R bs bs.length s) => readLast_any q
      generalize rlast s bs = r at hll cv
      obtain ⟨⟨xc, xi, xr⟩, s'⟩ := r
      simp only at hll cv
      have HLL : Hid ((if xs.any (isC xc) = true then none else loads bs q s' (xs ++ [⟨xc, xi, xr⟩])) = LL) := hll
      have g1 : (xs.length : Int) < (n : Int) := by omega
      clear hll hq
      go_wp2_with fail
      refine Calls.mono (cv _ LW.out.rs) ?_
      rintro e w7 ⟨rfl, h7, k7⟩
      have L7 := LW.out.read h7 k7
      clear h7 k7 LW cv
      have kV : Kept (fun _ => True) w7 (w7.alloc (.cells #[.string ⟨xc.toArray⟩, .int .i64 xi, .string ⟨xr.toArray⟩] 54)) := (Kept.refl _ _).alloc _
      have hV := heap_alloc_new w7 (.cells #[.string ⟨xc.toArray⟩, .int .i64 xi, .string ⟨xr.toArray⟩] 54)
      have HVA : Hid (w7.heap.size ≠ A ∧ v.ownBlock ≠ some w7.heap.size) := ⟨Ne.symm (Nat.ne_of_lt L7.tb.lt), fun e => Nat.lt_irrefl _ (L7.tb.rowlt _ e)⟩
      have L8 : Hid (Ld w _ B R bs s' A v m xs) := L7.all kV
      clear kV L7
      obtain ⟨v0, v1, v2⟩ := three_cell hV
      go_wp2_with fail
      generalize w7.alloc (.cells #[.string ⟨xc.toArray⟩, .int .i64 xi, .string ⟨xr.toArray⟩] 54) = w8 at *
      generalize w7.heap.size = V at *
      have HV : Hid (w8.heap[V]? = some (.cells #[.string ⟨xc.toArray⟩, .int .i64 xi, .string ⟨xr.toArray⟩] 54 (0, 0))) := hV
      clear v0 v1 v2 hV
      refine Calls.mono (place_any L8.out.tb xc) ?_
      rintro e w9 ⟨⟨z, rfl, hz⟩, k9⟩
      have hany := hz.any
      have L9 : Hid (Ld w w9 B R bs s' A v m xs) := L8.out.all k9
      have hV9 := (k9.block V (lt_of_block HV.out) trivial).trans HV.out
      clear L8 k9 HV hz
      by_cases hz0 : 0 ≤ z
      · have HN : Hid (LL = none) := by
          show _ = _
          rw [← HLL.out, hany, decide_eq_true hz0]; rfl
        clear HLL hany
        go_wp2_with fail
        go_ret2
        refine ⟨.inl ⟨?_, rfl⟩, L9.out.kept⟩
        rw [HL'.out, HN.out]
      · have HN : Hid (loads bs q s' (xs ++ [⟨xc, xi, xr⟩]) = LL) := by
          show _ = _
          rw [← HLL.out, hany, decide_eq_false hz0]; rfl
        clear HLL hany
        obtain ⟨ao2, cap2, rfl, -, -, -⟩ := L9.out.tb.shape
        obtain ⟨c0, c1, f0, f1⟩ := two_cell L9.out.tb.self
        obtain ⟨v0, v1, v2⟩ := three_cell hV9
        have lA := L9.out.tb.lt
        have hne := L9.out.tb.ne
        have kd : Hid (Kept (fun _ => True) w9 w9.drew) := (Kept.refl _ _).drewN 1
        have HR : Hid (w9.ownsRow 0 54 3 (.slice ao2 xs.length cap2) xs.length (row true xs)) := L9.out.tb.own
        clear hV9
        go_wp2_with fail
        go_region_law
          (refine step_append_last (p := true) Try.underlying48 Try.infoLast cells_last (by decide) ?_ (.tmp 39) (.tmp 41) ?_ (.slice ao2 xs.length cap2) xs.length xs ?_ rfl (own_kept3 HR.out (kd.out.alloc _) (fun _ _ => trivial)) w9.heap.size ?_ ⟨xc, xi, xr⟩ (0, 0) (heap_alloc_new w9.drew _) (by omega) ?_; rfl; rfl; rfl; rfl; intro a3 p3 w3 ho3 hg3 hl3; have hlt3 : A < (w9.drew.alloc (.cells #[.string ⟨xc.toArray⟩, .int .i64 xi, .string ⟨xr.toArray⟩] 54)).heap.size := Nat.lt_of_lt_of_le lA (kd.out.alloc _).size; have hc1 : w3.cell? ⟨A, 1, none⟩ = some (.slice ao2 xs.length cap2) := (hg3.cell_far _ hlt3 (Ne.symm hne)).trans ((kept_cell (kd.out.alloc _) lA trivial).trans c1); have hf1 : w3.frozen? ⟨A, 1, none⟩ = false := (hg3.frozen_far _ hlt3 (Ne.symm hne)).trans ((kept_frozen (kd.out.alloc _) lA trivial).trans f1); clear hlt3; have HG3 : Hid (World.grownBy _ w3 _) := hg3; have HL3 : Hid _ := hl3; clear hg3 hl3)
        all_goals
          go_wp2_with fail
          go_roundw
          case rel => exact ⟨xs.length + 1, s', _, xs ++ [⟨xc, xi, xr⟩], by omega, by simp, by go_num, by rw [hq1.out]; exact HN.out, L9.out.push (L9.out.tb.grow (kd.out.alloc _) rfl (by omega) ho3 HG3.out HL3.out)⟩
          case measure => simp [intOf]; omega
    · have hje : xs.length = n := by omega
      subst hje
      have HL2 : Hid (LL = some (s, xs)) := by
        show _ = _
        rw [← hll, Nat.sub_self]
        rfl
      clear hll
      have ce := end_any LW.out.rs
      generalize hE : s.end_ bs = E at ce
      obtain ⟨E1, E2⟩ := E
      have HE : Hid (s.end_ bs = (E1, E2)) := hE
      clear hE
      simp only at ce
      go_wp2_with fail
      refine Calls.mono ce ?_
      rintro e w9 ⟨rfl, m9, rfl⟩
      have L9 := LW.out.all ((Kept.refl _ _).drewN m9)
      by_cases hE1 : E1 = 0
      · subst hE1
        go_wp2
        go_ret2
        refine ⟨.inr ⟨A, v, m, xs, ?_, rfl, L9.tb, by omega, L9.a0, L9.v0⟩, L9.kept⟩
        rw [HL'.out, HL2.out]
        simp [HE.out]
      · have hE2 : (E1 == 0) = false := by simpa using hE1
        go_wp2
        go_ret2
        refine ⟨.inl ⟨?_, rfl⟩, L9.kept⟩
        rw [HL'.out, HL2.out]
        simp [HE.out, hE1]

end Go.Proofs.Ytihfcmcpapgokaa
