/-
  Texts of the proofs, 11 of 52.
-/
import Derived.Test.YtmcaoimgmgjjiaaWJ
import Derived.Great.BuildSlice
import Derived.Test.YtmcaoimgmgjjiaaWI
namespace Go.Proofs.Ytmcaoimgmgjjiaa
open Go.RowKit

theorem w_build {ops : Array Oper} {rest : List Oper} {a : Act} {w : World} {Q : Exit → Act → World → Prop} {d : Option Nat} {ty : TypeId} {p : String} {af : Array Edge} {parts : Array (Nat × Operand)} (ws : List Nat)
    (hl : ws.length = 64) (hparts : parts.toList = ((ws.map fun (n : Nat) => (n : Int)).zipIdx 0).map fun x => (x.2, Operand.const (Value.int .u32 x.1)))
    (h : wpList Try.prog ops Q rest (a.put d (.agg (wcells ws).toArray)) w) :
    wpList Try.prog ops Q (⟨d, .build 152 parts, ty, p, af, none⟩ :: rest) a w := by
  refine wpList_buildFlatArrTo (P := Try.prog) rfl 152 150 64 parts rfl .u32 (ws.map fun (n : Nat) => (n : Int)) d rfl Try.underlying152 (by kernel_rfl) ?_ hparts ?_
  · rw [List.length_map, hl]
    kernel_rfl
  · simpa [wcells, Function.comp_def] using h

theorem Try.info32 : (Try.prog.info? 150).map (fun i => (i.zero, i.size)) = some (some (.int .u32 0), 1) := by kernel_rfl
theorem index_words (ks : List Nat) (t n : Nat) (hu : Try.prog.underlying t = some (.array n 150)) (k : Nat) (hk : k < n) (hl : ks.length = n) (w0 : World) : (Instr.index t (.agg (wcells ks).toArray) (.int .i64 (k : Int))).run Try.prog w0 = .ok (.int .u32 (ks.getD k 0 : Nat)) w0 := by
  have hz : ∀ w, (sizeOf 150).run Try.prog w = .ok 1 w := fun w => by
    cases hq : Try.prog.info? 150 with
    | none => have := (zero_of_info Try.info32).2; simp [hq] at this
    | some i => have := (zero_of_info Try.info32).2; simp [hq] at this; simp [sizeOf, typeInfo, hq, this]
  have hc : (wcells ks).toArray[k]? = some (.int .u32 (ks.getD k 0 : Nat)) := by
    rw [getD_at ks (by omega)]
    simpa using wcells_get ks k (by omega)
  have h0 : (0 : Int) ≤ (k : Int) ∧ (k : Int) < (n : Int) := by omega
  simp only [Instr.index, asIntOf, Sem.run_bind, Sem.run_pure, Result.andThen_ok, run_underlying hu, if_pos h0, hz, part, isAgg, run_underlying Try.underlying150]
  simp [hc]

theorem kOf_length : kOf.length = 64 := by kernel_rfl
theorem kOf_lt : below32 kOf := by
  intro x hx
  have : ∀ y ∈ kOf, y < 4294967296 := by decide +kernel
  exact this x hx

theorem not_eq (e : Nat) (h : e < 4294967296) : 4294967295 ^^^ e = 4294967295 - e := by
  have := congrArg BitVec.toNat (BitVec.xor_allOnes (x := BitVec.ofNat 32 e))
  rw [BitVec.toNat_xor, BitVec.toNat_not, BitVec.toNat_allOnes, BitVec.toNat_ofNat, Nat.mod_eq_of_lt h, Nat.xor_comm] at this
  exact this
theorem not_bits (e : Nat) (h : e < 4294967296) : bits BinOp.xor .u32 IntKind.u32.max (e : Int) = ((4294967295 - e : Nat) : Int) := by
  have := xor_bits 4294967295 e (by decide) h
  rw [not_eq e h] at this
  exact this

theorem half_set (X Y : List Nat) (i : Nat) (hX : i < X.length) (hl : X.length = Y.length) : (X.take i ++ Y.drop i).set i (X.getD i 0) = X.take (i + 1) ++ Y.drop (i + 1) := by
  have lt : (X.take i).length = i := by simp; omega
  rw [getD_at X hX, List.set_append_right _ _ (by omega), lt, Nat.sub_self, List.drop_eq_getElem_cons (by omega), List.set_cons_zero, List.take_succ_eq_append_getElem hX, List.append_assoc]
  rfl
theorem half_get (X Y : List Nat) (i : Nat) (hX : i < X.length) (hl : X.length = Y.length) : (wcells (X.take i ++ Y.drop i))[i]? = some (.int .u32 (Y.getD i 0 : Nat)) := by
  have lt : (X.take i).length = i := by simp; omega
  rw [wcells_get _ i (by simp; omega), List.getElem_append_right (by omega), getD_at Y (by omega)]
  simp [lt]
theorem add_words (v u : H8) (i : Nat) (hi : i < 8) : (v.add u).words.getD i 0 = (v.words.getD i 0 + u.words.getD i 0) % 4294967296 := by
  match i, hi with
  | 0, _ => rfl
  | 1, _ => rfl
  | 2, _ => rfl
  | 3, _ => rfl
  | 4, _ => rfl
  | 5, _ => rfl
  | 6, _ => rfl
  | 7, _ => rfl

theorem ks_any : ∃ ks : List Nat, Hid (ks = kOf) ∧ ks.length = 64 ∧ (wcells ks).length = 64 ∧ (∀ u ∈ wcells ks, u.oneCell' = true) ∧ Hid (below32 ks) := ⟨kOf, rfl, kOf_length, by rw [wcells_length]; exact kOf_length, wcells_one kOf, kOf_lt⟩

set_option maxRecDepth 100000 in
set_option maxHeartbeats 400000 in
theorem mix_any {w : World} {ao : Option Addr} {cap : Nat} {bs : List UInt8} (v : H8) (hv : v.ok) (hh : Has w ao bs) (h4 : bs.length = 64) (hc : 64 ≤ cap) :
    Calls Try.prog 95 #[.agg (wcells v.words).toArray, .slice ao 64 cap] w fun e w' => e = .returned (.agg (wcells (v.block bs 0).words).toArray) ∧ Kept (fun _ => True) w w' := by
  have HH : Hid (Has w ao bs) := hh
  clear hh
  obtain ⟨ws, hws⟩ : ∃ ws, ws = sched 48 (wordsAt bs 0 16) := ⟨_, rfl⟩
  have lw : ws.length = 64 := by rw [hws, sched_length, wordsAt_length]
  have bw : below32 ws := by rw [hws]; exact sched_lt _ _ (wordsAt_lt _ _ _)
  have HR : Hid (v.block bs 0 = v.add (v.rounds ws 64)) := by show _ = _; rw [hws]; rfl
  have hsch : ∀ w0, Has w0 ao bs → Calls Try.prog 98 #[.slice ao 64 cap] w0 fun e w' => e = .returned (.agg (wcells ws).toArray) ∧ Kept (fun _ => True) w0 w' := fun w0 h => by rw [hws]; exact schedule_any h h4 hc
  clear hws
  have lws : (wcells ws).length = 64 := by rw [wcells_length, lw]
  have ows := wcells_one ws
  have HV : Hid v.ok := hv
  clear hv
  obtain ⟨ks, HK, lk, lk', ok, bk⟩ := ks_any
  go_enter Try.func95, Try.ntmps95
  go_wp2_with (first
    | ((with_reducible refine w_box (d := some 2) (wcells v.words) ?hx ?hn); (case hx => rfl); intro w1 a2 k1 s1)
    | ((with_reducible refine w_alloc (d := some 4) arr8 ?_); intro w2 a4 k2 s2)
    | (with_reducible refine w_build ks lk (by rw [HK.out]; kernel_rfl) ?_)
    | ((with_reducible refine w_alloc (d := some 5) arr64 ?_); intro w3 a5 k3 s3)
    | ((with_reducible apply w_store (x := .tmp 5) (b := w2.heap.size) (xs := wcells ks) (old := List.replicate 64 (.int .u32 0)) arr64); (case hx => rfl); (case hy => rfl); (case ha => exact a5); (case ho => simp); (case hl => exact lk'); (case h1 => exact ok); intro w4 a5' k4 s4)
    | (go_at_call 98; refine Calls.mono (hsch _ (HH.out.kept (((k1.trans k2).trans k3).then k4 (fun i hi _ => by have := s1.out; have := s2.out; omega)) (fun _ _ => trivial))) ?_; rintro e w5 ⟨rfl, k5⟩)
    | ((with_reducible refine w_alloc (d := some 6) arr64 ?_); intro w6 a6 k6 s6)
    | ((with_reducible apply w_store (x := .tmp 6) (b := w5.heap.size) (xs := wcells ws) (old := List.replicate 64 (.int .u32 0)) arr64); (case hx => rfl); (case hy => rfl); (case ha => exact a6); (case ho => simp); (case hl => exact lws); (case h1 => exact ows); intro w7 a6' k7 s7))
  have q1 := s1.out
  have q2 := s2.out
  have q3 := s3.out
  have q4 := s4.out
  have q6 := s6.out
  have q7 := s7.out
  have z5 := k5.size
  have k14 : Kept (· ≠ w2.heap.size) w1 w4 := (((k2.trans k3).mono (fun _ _ _ => trivial)).trans k4)
  have k47 : Kept (· ≠ w5.heap.size) w4 w7 := (((k5.trans k6).mono (fun _ _ _ => trivial)).trans k7)
  have A2 : Ar w7 w.heap.size 151 (wcells v.words) := (a2.kept k14 (by omega)).kept k47 (by omega)
  have A4 : Ar w7 w1.heap.size 151 (List.replicate 8 (.int .u32 0)) := ((a4.kept (k3.mono (q := (· ≠ w2.heap.size)) (fun _ _ _ => trivial)) (by omega)).kept k4 (by omega)).kept k47 (by omega)
  have A5 : Ar w7 w2.heap.size 152 (wcells ks) := a5'.kept k47 (by omega)
  have K07 : Kept (fun _ => True) w w7 := (k1.then k14 (fun i hi _ => by omega)).then k47 (fun i hi _ => by omega)
  have d1 : w.heap.size < w1.heap.size := by omega
  have d2 : w1.heap.size < w2.heap.size := by omega
  have d3 : w2.heap.size < w5.heap.size := by omega
  have d4 : w5.heap.size < w7.heap.size := by omega
  clear q1 q2 q3 q4 q6 q7 z5 k14 k47 s1 s2 s3 s4 s6 s7 k1 k2 k3 k4 k5 k6 k7 a2 a4 a5 a5' a6
  generalize w1.heap.size = B4 at *
  generalize w2.heap.size = B5 at *
  generalize w5.heap.size = B6 at *
  obtain ⟨B2, hB2⟩ : ∃ B, B = w.heap.size := ⟨_, rfl⟩
  rw [← hB2] at A2 d1
  rw [← hB2]
  have HB2 : Hid (B2 = w.heap.size) := hB2
  clear hB2
  have c0 : w7.cell? ⟨B2, 0, none⟩ = some (.int .u32 (v.a : Nat)) := A2.word 0 (by simp [H8.words])
  have c1 : w7.cell? ⟨B2, 1, none⟩ = some (.int .u32 (v.b : Nat)) := A2.word 1 (by simp [H8.words])
  have c2 : w7.cell? ⟨B2, 2, none⟩ = some (.int .u32 (v.c : Nat)) := A2.word 2 (by simp [H8.words])
  have c3 : w7.cell? ⟨B2, 3, none⟩ = some (.int .u32 (v.d : Nat)) := A2.word 3 (by simp [H8.words])
  have c4 : w7.cell? ⟨B2, 4, none⟩ = some (.int .u32 (v.e : Nat)) := A2.word 4 (by simp [H8.words])
  have c5 : w7.cell? ⟨B2, 5, none⟩ = some (.int .u32 (v.f : Nat)) := A2.word 5 (by simp [H8.words])
  have c6 : w7.cell? ⟨B2, 6, none⟩ = some (.int .u32 (v.g : Nat)) := A2.word 6 (by simp [H8.words])
  have c7 : w7.cell? ⟨B2, 7, none⟩ = some (.int .u32 (v.h : Nat)) := A2.word 7 (by simp [H8.words])
  go_quiet (fail)
  go_wp2
  go_quiet (fail)
  clear c0 c1 c2 c3 c4 c5 c6 c7
  go_wp2_with ((with_reducible apply w_load (d := some 40) (b := B5) (xs := wcells ks) arr64); (case hx => rfl); (case ha => exact A5); (case hl => exact lk'))
  go_loopw [41, 7, 8, 9, 10, 11, 12, 13, 14] (fun t xa xb xc xd xe xf xg xh wr => ∃ k : Nat, k ≤ 64 ∧ t = .int .i64 k ∧ xa = .int .u32 ((v.rounds ws k).a : Nat) ∧ xb = .int .u32 ((v.rounds ws k).b : Nat) ∧ xc = .int .u32 ((v.rounds ws k).c : Nat) ∧ xd = .int .u32 ((v.rounds ws k).d : Nat) ∧ xe = .int .u32 ((v.rounds ws k).e : Nat) ∧ xf = .int .u32 ((v.rounds ws k).f : Nat) ∧ xg = .int .u32 ((v.rounds ws k).g : Nat) ∧ xh = .int .u32 ((v.rounds ws k).h : Nat) ∧ Kept (fun _ => True) w7 wr)
    (fun t _ _ _ _ _ _ _ _ _ => 64 - (intOf t).toNat)
  case atStart => exact ⟨0, by omega, rfl, rfl, rfl, rfl, rfl, rfl, rfl, rfl, rfl, (Kept.refl _ _).drewN _⟩
  case round =>
    obtain ⟨k, hk, rfl, rfl, rfl, rfl, rfl, rfl, rfl, rfl, rfl, kr⟩ := hrel
    by_cases hlk : k < 64
    · have hkl : (k : Int) < 64 := by omega
      have hk0 : (0 : Int) ≤ (k : Int) := by omega
      have uok : (v.rounds ws k).ok := H8.rounds_ok v ws k HV.out
      have HS : Hid (v.rounds ws (k + 1) = (v.rounds ws k).round (ks.getD k 0) (ws.getD k 0)) := by show _ = _; rw [HK.out]; rfl
      have cw : wr.cell? ⟨B6, k, none⟩ = some (.int .u32 (ws.getD k 0 : Nat)) := by
        rw [getD_at ws (by omega)]
        exact (kept_cell kr d4 trivial).trans (a6'.word k (by omega))
      have bw' := below_getD bw k
      have bk' := below_getD bk.out k
      obtain ⟨ua, ub, uc, ud, ue, uf, ug, uh⟩ := uok
      generalize v.rounds ws k = u at *
      generalize ws.getD k 0 = wk at *
      have hix : ∀ w0, (Instr.index 152 (.agg (wcells ks).toArray) (.int .i64 (k : Int))).run Try.prog w0 = .ok (.int .u32 (ks.getD k 0 : Nat)) w0 := fun w0 => index_words ks 152 64 Try.underlying152 k hlk lk w0
      generalize ks.getD k 0 = kk at *
      have te : ∀ w0, Calls Try.prog 99 #[.int .u32 (u.e : Nat), .int .i64 6, .int .i64 11, .int .i64 25] w0 fun e w' => e = .returned (.int .u32 (bsig1 u.e : Nat)) ∧ w' = w0 := fun w0 => turns_any u.e 6 11 25 ue (by decide) (by decide) (by decide)
      have ta : ∀ w0, Calls Try.prog 99 #[.int .u32 (u.a : Nat), .int .i64 2, .int .i64 13, .int .i64 22] w0 fun e w' => e = .returned (.int .u32 (bsig0 u.a : Nat)) ∧ w' = w0 := fun w0 => turns_any u.a 2 13 22 ua (by decide) (by decide) (by decide)
      have f1 := and_bits u.e u.f ue uf
      have f2 := not_bits u.e ue
      have f3 := and_bits (4294967295 - u.e) u.g (by omega) ug
      have f4 : bits BinOp.xor .u32 ((u.e &&& u.f : Nat) : Int) (((4294967295 - u.e) &&& u.g : Nat) : Int) = ((ch u.e u.f u.g : Nat) : Int) := xor_bits _ _ (and_lt32 uf) (and_lt32 ug)
      have g1 := and_bits u.a u.b ua ub
      have g2 := and_bits u.a u.c ua uc
      have g3 := and_bits u.b u.c ub uc
      have g4 := xor_bits (u.a &&& u.b) (u.a &&& u.c) (and_lt32 ub) (and_lt32 uc)
      have g5 : bits BinOp.xor .u32 (((u.a &&& u.b) ^^^ (u.a &&& u.c) : Nat) : Int) ((u.b &&& u.c : Nat) : Int) = ((maj u.a u.b u.c : Nat) : Int) := xor_bits _ _ (xor_lt32 (and_lt32 ub) (and_lt32 uc)) (and_lt32 uc)
      have b1 := bsig1_lt u.e ue
      have b2 := bsig0_lt u.a ua
      have b3 := ch_lt u.e u.f u.g uf ug
      have b4 := maj_lt u.a u.b u.c ub uc
      have HT : Hid ((u.round kk wk).a = ((u.h + bsig1 u.e + ch u.e u.f u.g + kk + wk) % 4294967296 + bsig0 u.a + maj u.a u.b u.c) % 4294967296 ∧ (u.round kk wk).e = (u.d + (u.h + bsig1 u.e + ch u.e u.f u.g + kk + wk) % 4294967296) % 4294967296) := ⟨rfl, rfl⟩
      have HU : Hid ((u.round kk wk).b = u.a ∧ (u.round kk wk).c = u.b ∧ (u.round kk wk).d = u.c ∧ (u.round kk wk).f = u.e ∧ (u.round kk wk).g = u.f ∧ (u.round kk wk).h = u.g) := ⟨rfl, rfl, rfl, rfl, rfl, rfl⟩
      generalize bsig1 u.e = r1 at *
      generalize bsig0 u.a = r2 at *
      generalize ch u.e u.f u.g = r3 at *
      generalize maj u.a u.b u.c = r4 at *
      go_wp2
      go_quiet (exact Calls.quiet_of_same (te _))
      go_wp2_with fail
      refine Calls.mono (ta _) ?_
      rintro e _ ⟨rfl, rfl⟩
      go_wp2
      go_roundw
      case rel =>
        refine ⟨k + 1, by omega, by go_num, ?_, ?_, ?_, ?_, ?_, ?_, ?_, ?_, kr.drewN nq⟩ <;> rw [HS.out]
        · exact congrArg (Value.int .u32) (by rw [HT.out.1]; omega)
        · rw [HU.out.1]
        · rw [HU.out.2.1]
        · rw [HU.out.2.2.1]
        · exact congrArg (Value.int .u32) (by rw [HT.out.2]; omega)
        · rw [HU.out.2.2.2.1]
        · rw [HU.out.2.2.2.2.1]
        · rw [HU.out.2.2.2.2.2]
      case measure => simp [intOf]; omega
    · have hkl : ¬ (k : Int) < 64 := by omega
      obtain rfl : k = 64 := by omega
      have HR2 := HR.out
      obtain ⟨u, hu⟩ : ∃ u, u = v.rounds ws 64 := ⟨_, rfl⟩
      have HQ : Hid (v.block bs 0 = v.add u) := by show _ = _; rw [hu]; exact HR2
      rw [← hu]
      clear hu HR2 HR hsch A5 a6' lws ows lw bw
      have hix : ∀ (i : Nat), i < 8 → ∀ w0, (Instr.index 151 (.agg #[.int .u32 (u.a : Nat), .int .u32 (u.b : Nat), .int .u32 (u.c : Nat), .int .u32 (u.d : Nat), .int .u32 (u.e : Nat), .int .u32 (u.f : Nat), .int .u32 (u.g : Nat), .int .u32 (u.h : Nat)]) (.int .i64 (i : Int))).run Try.prog w0 = .ok (.int .u32 (u.words.getD i 0 : Nat)) w0 := fun i hi w0 => index_words u.words 151 8 Try.underlying151 i hi rfl w0
      have A2w : Ar wr B2 151 (wcells v.words) := A2.kept kr trivial
      have A4w : Ar wr B4 151 (List.replicate 8 (.int .u32 0)) := A4.kept kr trivial
      go_wp2
      go_loopw [100] (fun t x => ∃ i : Nat, i ≤ 8 ∧ t = .int .i64 i ∧ Ar x B2 151 (wcells ((v.add u).words.take i ++ v.words.drop i)) ∧ Kept (· ≠ B2) wr x) (fun t _ => 8 - (intOf t).toNat)
      case atStart => exact ⟨0, by omega, rfl, by simpa using A2w, Kept.refl _ _⟩
      case round =>
        obtain ⟨i, hi, rfl, ar, kx⟩ := hrel
        have ll : (v.add u).words.length = v.words.length := rfl
        have l8 : (v.add u).words.length = 8 := rfl
        by_cases hli : i < 8
        · have hil : (i : Int) < 8 := by omega
          have hi0 : (0 : Int) ≤ (i : Int) := by omega
          have hixi := hix i hli
          have hcell := (ar.cell i).trans (half_get _ _ i (by omega) ll)
          have hf := ar.free i
          have HS : Hid (∀ x, Ar (wr.setCell ⟨B2, i, none⟩ x) B2 151 _) := fun x => ar.set i x
          have HE : Hid (((v.add u).words.take i ++ v.words.drop i).set i ((v.add u).words.getD i 0) = (v.add u).words.take (i + 1) ++ v.words.drop (i + 1)) := half_set _ _ i (by omega) ll
          have hv := add_words v u i hli
          generalize (v.add u).words.getD i 0 = nw at *
          generalize v.words.getD i 0 = x1 at *
          generalize u.words.getD i 0 = x2 at *
          have hv2 : ((x1 : Int) + (x2 : Int)) % 4294967296 = ((nw : Nat) : Int) := by omega
          clear hix ar hv
          go_wp2
          go_roundw
          case rel =>
            refine ⟨i + 1, by omega, by go_num, ?_, kx.setCell (by simp) _⟩
            have := HS.out (.int .u32 nw)
            rw [wcells_set, HE.out] at this
            exact this
          case measure => simp [intOf]; omega
        · have hil : ¬ (i : Int) < 8 := by omega
          obtain rfl : i = 8 := by omega
          rw [List.take_of_length_le (by omega), List.drop_eq_nil_of_le (by omega), List.append_nil] at ar
          have A4x := A4w.kept kx (by omega)
          obtain ⟨xs, hxs⟩ : ∃ xs, xs = wcells (v.add u).words := ⟨_, rfl⟩
          have lx : xs.length = 8 := by rw [hxs, wcells_length]; rfl
          have ox : ∀ x ∈ xs, x.oneCell' = true := by rw [hxs]; exact wcells_one _
          rw [← hxs] at ar
          have HX : Hid (xs = wcells (v.add u).words) := hxs
          clear hxs hix ll l8
          go_wp2_with (first
            | ((with_reducible apply w_load (d := some 111) (b := B2) (xs := xs) arr8); (case hx => rfl); (case ha => exact ar); (case hl => exact lx))
            | ((with_reducible apply w_store (x := .tmp 4) (b := B4) (xs := xs) (old := List.replicate 8 (.int .u32 0)) arr8); (case hx => rfl); (case hy => rfl); (case ha => exact A4x); (case ho => simp); (case hl => exact lx); (case h1 => exact ox); intro w9 a9 k9 s9))
          refine bodyPost_ret (results_ar (p := 4) arr8 rfl _ _ rfl a9 lx) rfl ⟨by rw [HX.out, HQ.out], ?_⟩
          have h2 := HB2.out
          exact ((K07.trans kr).then kx (fun i hi _ => by omega)).then k9 (fun i hi _ => by omega)

end Go.Proofs.Ytmcaoimgmgjjiaa

namespace Go.Proofs.Ytmcaoimgmgjjiaa

theorem getD_cut (m : List UInt8) (a j : Nat) (hj : j < 64) : ((m.drop a).take 64).getD j 0 = m.getD (a + j) 0 := by
  simp [List.getD, hj]
theorem wordAt_cut (m : List UInt8) (a i : Nat) (hi : i < 16) : wordAt ((m.drop a).take 64) (4 * i) = wordAt m (a + 4 * i) := by
  unfold wordAt
  rw [getD_cut m a _ (by omega), getD_cut m a _ (by omega), getD_cut m a _ (by omega), getD_cut m a _ (by omega)]
  simp only [Nat.add_assoc]
theorem wordsAt_cut (m : List UInt8) (a : Nat) : wordsAt ((m.drop a).take 64) 0 16 = wordsAt m a 16 := by
  unfold wordsAt
  apply List.map_congr_left
  intro i hi
  rw [List.mem_range] at hi
  rw [Nat.zero_add]
  exact wordAt_cut m a i hi
theorem block_cut (v : H8) (m : List UInt8) (a : Nat) : v.block ((m.drop a).take 64) 0 = v.block m a := by
  unfold H8.block
  rw [wordsAt_cut]

theorem padded_split (b : List UInt8) : padded b = b.take (64 * (b.length / 64)) ++ (padEnd (b.drop (64 * (b.length / 64))) b.length).take (padSize (b.length % 64)) := by
  have hl : (b.drop (64 * (b.length / 64))).length = b.length % 64 := by simp; omega
  have hr : b.length % 64 < 64 := Nat.mod_lt _ (by decide)
  unfold padEnd
  rw [hl]
  have hs : padSize (b.length % 64) = 64 ∧ b.length % 64 + 9 ≤ 64 ∨ padSize (b.length % 64) = 128 ∧ 64 < b.length % 64 + 9 := by
    unfold padSize; split <;> omega
  have hz : padSize (b.length % 64) - b.length % 64 - 9 = padZeros b.length := by unfold padZeros; omega
  rw [hz]
  have ll : (b.drop (64 * (b.length / 64)) ++ [128] ++ List.replicate (padZeros b.length) 0 ++ bytesOf (8 * b.length) 8).length = padSize (b.length % 64) := by
    simp only [List.length_append, hl, List.length_cons, List.length_nil, List.length_replicate, bytesOf_length]
    omega
  rw [List.take_left' ll]
  unfold padded
  have hb : b = b.take (64 * (b.length / 64)) ++ b.drop (64 * (b.length / 64)) := (List.take_append_drop _ _).symm
  have ha : ∀ x y : List UInt8, b.take (64 * (b.length / 64)) ++ (b.drop (64 * (b.length / 64)) ++ [128] ++ x ++ y) = b ++ [128] ++ x ++ y := fun x y => by
    rw [← List.append_assoc, ← List.append_assoc, ← List.append_assoc, ← hb]
  rw [ha]
theorem padEnd_length (last : List UInt8) (n : Nat) (h : last.length < 64) : (padEnd last n).length = 128 := by
  rw [← pad_put last n h, putN_length, putN_length, List.length_set]
  simp; omega
theorem cut_front64 (b : List UInt8) (k : Nat) (h : k < b.length / 64) : ((padded b).drop (64 * k)).take 64 = (b.drop (64 * k)).take 64 := by
  unfold padded
  rw [List.append_assoc, List.append_assoc, List.drop_append_of_le_length (by omega), List.take_append_of_le_length (by simp; omega)]
theorem cut_end64 (b : List UInt8) (j : Nat) (h : 64 * j + 64 ≤ padSize (b.length % 64)) : ((padded b).drop (64 * (b.length / 64 + j))).take 64 = ((padEnd (b.drop (64 * (b.length / 64))) b.length).drop (64 * j)).take 64 := by
  have lt : (b.take (64 * (b.length / 64))).length = 64 * (b.length / 64) := by simp; omega
  rw [padded_split, List.drop_append, lt, List.drop_eq_nil_of_le (by omega), List.nil_append, show 64 * (b.length / 64 + j) - 64 * (b.length / 64) = 64 * j by omega, List.drop_take, List.take_take, Nat.min_eq_left (by omega)]
theorem blocks_count (b : List UInt8) : (b.length + 72) / 64 = b.length / 64 + padSize (b.length % 64) / 64 := by
  unfold padSize
  split <;> omega

end Go.Proofs.Ytmcaoimgmgjjiaa
