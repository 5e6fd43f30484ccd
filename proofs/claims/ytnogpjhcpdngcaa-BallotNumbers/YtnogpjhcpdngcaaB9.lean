/-
  Load: the program's.
-/
import Derived.Test.YtnogpjhcpdngcaaB8
namespace Go.Proofs.Ytnogpjhcpdngcaa
open Go.RowKit

set_option maxRecDepth 100000 in
set_option maxHeartbeats 2000000 in
theorem load_any {w : World} {bs : List UInt8} {cap : Nat} {ao : Option Addr} (hb : (bs.length : Int) ≤ 140737488355328) (hc : Has w ao bs) :
    Calls Try.prog 12 #[.slice ao bs.length cap] w fun e w' => ((load bs = none ∧ e = .returned (.tuple #[.pointer none, .int .i64 12])) ∨ ∃ A M n p f, load bs = some (p, f) ∧ e = .returned (.tuple #[.pointer (some ⟨A, 0, none⟩), .int .i64 0]) ∧ Ac w' A M n p f ∧ n ≤ 512 ∧ w.heap.size ≤ A ∧ w.heap.size ≤ M) ∧ Kept (fun _ => True) w w' := by
  have hl0 : load bs = if less (rbal ⟨0, 0⟩ bs).1 ⟨0, 0⟩ = true then none
      else match loads (rbal ⟨0, 0⟩ bs).1 bs ((rbal ⟨0, 0⟩ bs).2.count bs 512).1 ((rbal ⟨0, 0⟩ bs).2.count bs 512).2 (-1) (fun _ => none) with
        | none => none
        | some r => if (r.1.end_ bs).1 = 0 then some ((rbal ⟨0, 0⟩ bs).1, r.2) else none := rfl
  have cb := fun W B R cap (q : Rs W B R bs cap ⟨0, 0⟩) => readBallot_any q
  generalize rbal ⟨0, 0⟩ bs = r at cb hl0
  obtain ⟨p, s1⟩ := r
  simp only at cb hl0
  have cc := fun W B R cap (q : Rs W B R bs cap s1) => count_any 512 q
  have hcm := count_most s1 bs 512
  simp only [Int.cast_ofNat_Int] at hcm
  generalize s1.count bs 512 = r at cc hl0 hcm
  obtain ⟨c, s2⟩ := r
  simp only at cc hl0 hcm
  have ck := fun W => less_any (w := W) p ⟨0, 0⟩
  generalize load bs = LD at *
  have HL : Hid (LD = if less p ⟨0, 0⟩ = true then none
      else match loads p bs c s2 (-1) (fun _ => none) with
        | none => none
        | some r => if (r.1.end_ bs).1 = 0 then some (p, r.2) else none) := hl0
  clear hl0
  generalize hlp : less p ⟨0, 0⟩ = LP at *
  have HP : Hid (less p ⟨0, 0⟩ = LP) := hlp
  clear hlp
  have cn := newReader_any (cap := cap) hb hc
  go_enter Try.func12, Try.ntmps12
  go_wp2_with fail
  refine Calls.mono cn ?_
  rintro e w1 ⟨B, R, rfl, h1, k1, b1, r1⟩
  have H1 : Hid (Rs w1 B R bs bs.length ⟨0, 0⟩) := h1
  have K1 : Hid (Kept (fun _ => True) w w1 ∧ w.heap.size ≤ B ∧ w.heap.size ≤ R) := ⟨k1, b1, r1⟩
  clear h1 k1 b1 r1 cn
  go_wp2_with fail
  refine Calls.mono new_any ?_
  rintro e w2 ⟨A, M, rfl, h2, k2, a2, m2⟩
  have HN : Hid (A ≠ B ∧ A ≠ R ∧ M ≠ B ∧ M ≠ R) := by
    have := H1.out.lt
    have := H1.out.rowlt
    refine ⟨?_, ?_, ?_, ?_⟩ <;> omega
  have HZ : Hid (w.heap.size ≤ A ∧ w.heap.size ≤ M) := ⟨Nat.le_trans K1.out.1.size a2, Nat.le_trans K1.out.1.size m2⟩
  have H2 : Hid (Rs w2 B R bs bs.length ⟨0, 0⟩ ∧ Ac w2 A M 0 ⟨0, 0⟩ (fun _ => none)) := ⟨H1.out.kept k2 trivial trivial, h2⟩
  have K2 : Hid (Kept (fun _ => True) w w2) := K1.out.1.trans k2
  clear h2 k2 a2 m2 H1
  go_wp2_with fail
  refine Calls.mono (cb _ _ _ _ H2.out.1) ?_
  rintro e w3 ⟨rfl, h3, k3⟩
  have A3 : Hid (Ac w3 A M 0 ⟨0, 0⟩ (fun _ => none)) := H2.out.2.kept k3 HN.out.1 HN.out.2.2.1
  have R3 : Hid (Rs w3 B R bs bs.length s1) := h3
  have K3 : Hid (Kept (fun _ => True) w w3) := K2.out.then k3 (fun i hi _ => by have := K1.out.2.1; omega)
  obtain ⟨c0, c1, c2, f0, f1, f2⟩ := acell A3.out.self
  clear h3 k3 H2 K2 cb
  go_wp2_with fail
  have hp := A3.out.promise p
  have A4 : Hid (Ac ((w3.setCell ⟨A, 0, none⟩ (.int .i64 p.r)).setCell ⟨A, 1, none⟩ (.int .i64 p.n)) A M 0 p (fun _ => none)) := hp.1
  have R4 : Hid (Rs ((w3.setCell ⟨A, 0, none⟩ (.int .i64 p.r)).setCell ⟨A, 1, none⟩ (.int .i64 p.n)) B R bs bs.length s1) := R3.out.kept hp.2 ⟨Ne.symm HN.out.1, Ne.symm HN.out.2.2.1⟩ ⟨Ne.symm HN.out.2.1, Ne.symm HN.out.2.2.2⟩
  have K4 : Hid (Kept (fun _ => True) w ((w3.setCell ⟨A, 0, none⟩ (.int .i64 p.r)).setCell ⟨A, 1, none⟩ (.int .i64 p.n))) := K3.out.then hp.2 (fun i hi _ => by have := HZ.out; omega)
  clear hp A3 R3 K3 c0 c1 c2 f0 f1 f2
  generalize (w3.setCell ⟨A, 0, none⟩ (.int .i64 p.r)).setCell ⟨A, 1, none⟩ (.int .i64 p.n) = w4 at *
  refine Calls.mono (ck _) ?_
  rintro e w5 ⟨rfl, k5⟩
  have A5 : Hid (Ac w5 A M 0 p (fun _ => none)) := A4.out.all k5
  have R5 : Hid (Rs w5 B R bs bs.length s1) := R4.out.kept k5 trivial trivial
  have K5 : Hid (Kept (fun _ => True) w w5) := K4.out.trans k5
  clear k5 A4 R4 K4 ck
  cases LP
  case true =>
    go_wp2
    go_ret2
    exact ⟨.inl ⟨HL.out, rfl⟩, K5.out⟩
  case false =>
  generalize hLL : loads p bs c s2 (-1) (fun _ => none) = LL at *
  have HLL : Hid (loads p bs (c - 0) s2 (-1) (fun _ => none) = LL) := hLL
  clear hLL
  go_wp2_with fail
  refine Calls.mono (cc _ _ _ _ R5.out) ?_
  rintro e w6 ⟨rfl, h6, k6⟩
  have A6 : Hid (Ac w6 A M 0 p (fun _ => none)) := A5.out.kept k6 HN.out.1 HN.out.2.2.1
  have R6 : Hid (Rs w6 B R bs bs.length s2) := h6
  have K6 : Hid (Kept (fun _ => True) w w6) := K5.out.then k6 (fun i hi _ => by have := K1.out.2.1; omega)
  clear h6 k6 A5 R5 K5 cc
  go_wp2_with fail
  go_loopw [6, 26] (fun t u wr => ∃ (j n : Nat) (s : RS) (last : Int) (f : Vs), j ≤ c ∧ n ≤ j ∧ t = .int .i64 last ∧ u = .int .i64 j ∧ loads p bs (c - j) s last f = LL ∧ Rs wr B R bs bs.length s ∧ Ac wr A M n p f ∧ Kept (fun _ => True) w wr) (fun _ u _ => c - (intOf u).toNat)
  case atStart => exact ⟨0, 0, s2, -1, _, Nat.zero_le _, Nat.le_refl _, rfl, rfl, HLL.out, R6.out, A6.out, K6.out⟩
  case round =>
    obtain ⟨j, n, s, last, f, hj, hn, rfl, rfl, hll, hr, ha, hk⟩ := hrel
    have RR : Hid (Rs wr B R bs bs.length s) := hr
    have AA : Hid (Ac wr A M n p f) := ha
    have KK : Hid (Kept (fun _ => True) w wr) := hk
    clear hr ha hk R6 A6 K6 HLL
    by_cases hjc : j < c
    · obtain ⟨m, hm⟩ : ∃ m, c - j = m + 1 := ⟨c - j - 1, by omega⟩
      have hm1 : Hid (c - (j + 1) = m) := by show _ = _; omega
      rw [hm] at hll
      unfold loads at hll
      have hsl := rvote_slot s bs
      have cv := fun W (q : Rs W B R bs bs.length s) => readVote_any q
      generalize rvote s bs = r at hll hsl cv
      obtain ⟨⟨vs, ⟨vr, vn⟩, vv⟩, s'⟩ := r
      simp only at hll hsl cv
      obtain ⟨sl, rfl⟩ : ∃ sl : Nat, vs = sl := ⟨vs.toNat, by omega⟩
      have hsl5 : sl < 512 := by omega
      simp only [Int.toNat_natCast] at hll
      have cl := fun W => less_any (w := W) p ⟨vr, vn⟩
      have cm := fun W => mayVote_any (w := W) ⟨vr, vn⟩
      simp only at cl cm
      generalize less p ⟨vr, vn⟩ = L1 at hll cl
      generalize less ⟨0, 0⟩ ⟨vr, vn⟩ = L2 at hll cm
      generalize hbad : (decide ((sl : Int) ≤ last) || !L2 || L1) = bad at hll
      have HLL : Hid ((if bad = true then none else loads p bs m s' sl (upd f sl ⟨vr, vn⟩ vv)) = LL) := hll
      have g1 : (j : Int) < (c : Int) := by omega
      clear hll hsl hm
      go_wp2_with fail
      refine Calls.mono (cv _ RR.out) ?_
      rintro e w7 ⟨rfl, h7, k7⟩
      have A7 := AA.out.kept k7 HN.out.1 HN.out.2.2.1
      have K7 : Hid (Kept (fun _ => True) w w7) := KK.out.then k7 (fun i hi _ => by have := K1.out.2.1; omega)
      clear k7 RR AA KK cv
      go_upto_if 48 with fail
      have kV : Kept (fun _ => True) w7 (w7.alloc (.cells #[.int .i64 sl, .int .i64 vr, .int .i64 vn, .string vv] 36)) := (Kept.refl _ _).alloc _
      have hV := heap_alloc_new w7 (.cells #[.int .i64 sl, .int .i64 vr, .int .i64 vn, .string vv] 36)
      have hVM : Hid (w7.heap.size ≠ A ∧ w7.heap.size ≠ M) := ⟨Ne.symm (Nat.ne_of_lt A7.lt), Ne.symm (Nat.ne_of_lt A7.mlt)⟩
      have A8 : Hid (Ac _ A M n p f) := A7.all kV
      have R8 : Hid (Rs _ B R bs bs.length s') := h7.kept kV trivial trivial
      have K8 : Hid (Kept (fun _ => True) w _) := K7.out.trans kV
      clear kV A7 h7 K7
      generalize w7.alloc (.cells #[.int .i64 sl, .int .i64 vr, .int .i64 vn, .string vv] 36) = w8 at *
      generalize w7.heap.size = V at *
      obtain ⟨v0, v1, v2, v3⟩ := vcell hV
      obtain ⟨c0, c1, c2, f0, f1, f2⟩ := acell A8.out.self
      have u0 : ∀ W, Kept (fun _ => True) w8 W → W.cell? ⟨V, 0, none⟩ = some (.int .i64 sl) := fun W k => cell_kept k v0 trivial
      have u1 : ∀ W, Kept (fun _ => True) w8 W → W.cell? ⟨V, 1, none⟩ = some (.int .i64 vr) := fun W k => cell_kept k v1 trivial
      have u2 : ∀ W, Kept (fun _ => True) w8 W → W.cell? ⟨V, 2, none⟩ = some (.int .i64 vn) := fun W k => cell_kept k v2 trivial
      have a0 : ∀ W, Kept (fun _ => True) w8 W → W.cell? ⟨A, 0, none⟩ = some (.int .i64 p.r) := fun W k => cell_kept k c0 trivial
      have a1 : ∀ W, Kept (fun _ => True) w8 W → W.cell? ⟨A, 1, none⟩ = some (.int .i64 p.n) := fun W k => cell_kept k c1 trivial
      have HV : Hid (w8.heap[V]? = some (.cells #[.int .i64 sl, .int .i64 vr, .int .i64 vn, .string vv] 36 (0, 0))) := hV
      have kd : Kept (fun _ => True) w8 w8.drew := (Kept.refl _ _).drewN 1
      clear hV v1 v2 v3 c0 c1 c2 f0 f1 f2
      go_cut [48] from 30 to 47 (fun t wx => t = .bool bad ∧ Kept (fun _ => True) w8 wx)
      case first =>
        cases h1 : decide ((sl : Int) ≤ last)
        case true =>
          rw [h1] at hbad
          subst hbad
          clear u0 u1 u2 a0 a1
          go_wp2_with fail
          go_quiet (fail)
          go_wp2_with fail
          go_meet
          exact ⟨by simp, (Kept.refl _ _).drewN _⟩
        case false =>
          rw [h1] at hbad
          clear v0
          cases L2
          · have e0 := u0 _ kd
            have e1 := u1 _ kd
            have e2 := u2 _ kd
            subst hbad
            go_wp2_with fail
            first
            | (go_region_with (first | (go_at_call 26; refine Calls.mono (cm _) ?_; rintro e w9 ⟨rfl, k9⟩; have k9' : Kept (fun _ => True) w8 w9 := kd.trans k9)))
            | fail
            all_goals (go_wp2_with fail; go_meet; exact ⟨by simp, k9'⟩)
          · subst hbad
            go_wp2_with fail
            go_region_held (fun W => Kept (fun _ => True) w8 W) (assumption) (first
              | (go_at_call 26; refine Calls.mono (cm _) ?_; rintro e w9 ⟨rfl, k9⟩; have k9' : Kept (fun _ => True) w8 w9 := kd.trans k9)
              | (go_at_call 16; refine Calls.mono (cl _) ?_; rintro e w10 ⟨rfl, k10⟩; have k10' : Kept (fun _ => True) w8 w10 := k9'.trans k10))
            all_goals (go_wp2_with fail; go_meet; exact ⟨by simp, k10'⟩)
      case rest =>
      obtain ⟨ht, kc⟩ := hcut
      subst ht
      clear cl cm kd u0 u1 u2 a0 a1 v0
      have Ac9 := A8.out.all kc
      have R9 : Hid (Rs wc B R bs bs.length s') := R8.out.kept kc trivial trivial
      have K9 : Hid (Kept (fun _ => True) w wc) := K8.out.trans kc
      have V9 := (kc.block V (lt_of_block HV.out) trivial).trans HV.out
      clear A8 R8 K8 HV kc
      cases hbd : bad
      · rw [hbd] at hbad
        have HL2 : Hid (loads p bs m s' sl (upd f sl ⟨vr, vn⟩ vv) = LL) := by
          show _ = _
          have := HLL.out
          rw [hbd] at this
          simpa using this
        subst hbd
        clear hbad HLL
        obtain ⟨c0, c1, c2, f0, f1, f2⟩ := acell Ac9.self
        obtain ⟨v0, v1, v2, v3⟩ := vcell V9
        obtain ⟨w4', hu, m4, k4, -⟩ := (Ac9.mp.kept (Kept.refl (fun _ => True) _).drew trivial).store hsl5 (by omega) ⟨vr, vn⟩ vv
        have hne := Ac9.ne
        have y0 : ∀ W, Kept (· ≠ M) wc W → W.cell? ⟨V, 0, none⟩ = some (.int .i64 sl) := fun W k => cell_kept k v0 hVM.out.2
        have y1 : ∀ W, Kept (· ≠ M) wc W → W.cell? ⟨V, 1, none⟩ = some (.int .i64 vr) := fun W k => cell_kept k v1 hVM.out.2
        have y2 : ∀ W, Kept (· ≠ M) wc W → W.cell? ⟨V, 2, none⟩ = some (.int .i64 vn) := fun W k => cell_kept k v2 hVM.out.2
        have y3 : ∀ W, Kept (· ≠ M) wc W → W.cell? ⟨V, 3, none⟩ = some (.string vv) := fun W k => cell_kept k v3 hVM.out.2
        have x2 : ∀ W, Kept (· ≠ M) wc W → W.cell? ⟨A, 2, none⟩ = some (.map (some M)) := fun W k => cell_kept k c2 hne
        have kd : Kept (· ≠ M) wc wc.drew := (Kept.refl _ _).drew
        have h4 : Kept (· ≠ M) wc w4' := kd.trans k4
        have Ha : Hid (Ac w4' A M (n + 1) p (upd f sl ⟨vr, vn⟩ vv)) := ⟨(h4.block A Ac9.lt hne).trans Ac9.self, m4⟩
        have Hr : Hid (Rs w4' B R bs bs.length s') := R9.out.kept h4 (Ne.symm HN.out.2.2.1) (Ne.symm HN.out.2.2.2)
        have Hk : Hid (Kept (fun _ => True) w w4') := K9.out.then h4 (fun i hi _ => by have := HZ.out.2; omega)
        have e0 : w4'.cell? ⟨V, 0, none⟩ = some (.int .i64 sl) := y0 _ h4
        clear c0 c1 c2 f0 f1 f2 v0 v1 v2 v3 m4 k4 Ac9 R9 K9 V9
        go_wp2_with fail
        go_region_held (fun W => Kept (· ≠ M) wc W) (assumption) (fail)
        all_goals
          go_wp2_with fail
          go_roundw
          case rel => exact ⟨j + 1, n + 1, s', sl, _, by omega, by omega, rfl, by go_num, by rw [hm1.out]; exact HL2.out, Hr.out, Ha.out, Hk.out⟩
          case measure => simp [intOf]; omega
      · have HL2 : Hid (LL = none) := by
          show _ = _
          have := HLL.out
          rw [hbd] at this
          simpa using this.symm
        subst hbd
        clear hbad HLL
        go_wp2_with fail
        go_ret2
        refine ⟨.inl ⟨?_, rfl⟩, K9.out⟩
        rw [HL.out, HL2.out]
        rfl
    · have hje : j = c := by omega
      subst hje
      have HL2 : Hid (LL = some (s, f)) := by
        show _ = _
        rw [← hll, Nat.sub_self]
        rfl
      clear hll
      have ce := end_any RR.out
      generalize hE : s.end_ bs = E at ce
      obtain ⟨E1, E2⟩ := E
      have HE : Hid (s.end_ bs = (E1, E2)) := hE
      clear hE
      simp only at ce
      go_wp2_with fail
      refine Calls.mono ce ?_
      rintro e w9 ⟨rfl, m9, rfl⟩
      by_cases hE1 : E1 = 0
      · subst hE1
        go_wp2
        go_ret2
        refine ⟨.inr ⟨A, M, n, p, f, ?_, rfl, AA.out.all ((Kept.refl _ _).drewN _), by omega, HZ.out.1, HZ.out.2⟩, KK.out.drewN _⟩
        rw [HL.out, HL2.out]
        simp [HE.out]
      · have hE2 : (E1 == 0) = false := by simpa using hE1
        go_wp2
        go_ret2
        refine ⟨.inl ⟨?_, rfl⟩, KK.out.drewN _⟩
        rw [HL.out, HL2.out]
        simp [HE.out, hE1]

/-- Bytes that lie in a block by themselves. -/
theorem row_has {w : World} {D : Nat} {bs : List UInt8} {fr : Nat × Nat} (h : w.heap[D]? = some (.cells (cells bs).toArray 5 fr)) : Has w (some ⟨D, 0, none⟩) bs := by
  intro _
  refine ⟨_, rfl, fun j hj => ?_⟩
  have e : (Addr.mk D 0 none).add j = ⟨D, j, none⟩ := by
    unfold Addr.add
    split <;> simp_all
  rw [e]
  exact row_cells (w := w) (bs := bs) h (List.take_of_length_le (by simp [cells_length])) j hj

end Go.Proofs.Ytnogpjhcpdngcaa
