/-
  AuditReads: it answers true.
-/
import Derived.Test.YtbooeabmpdpgpaaU19
import Derived.Test.YtbooeabmpdpgpaaLawAu1
import Derived.Test.YtbooeabmpdpgpaaVOrd
namespace Go.Proofs.Ytbooeabmpdpgpaa
open Go.RowKit

/-- What a reading answers: the record, and the refusal. -/
def rdV (bs : List UInt8) : Ur := (rec? bs).getD ⟨0, [], [], []⟩
def rdE (bs : List UInt8) : Int := if (rec? bs).isSome then 0 else 12
theorem eread_one {bs : List UInt8} {w w' : World} {e : Ending} (h : ERead bs w e w') : (∃ a c, e = .returned (.tuple #[.agg #[.int .i64 ((rdV bs).k : Nat), .string ⟨(rdV bs).tx.toArray⟩, .slice a (rdV bs).gs.length c, .string ⟨(rdV bs).bd.toArray⟩], .int .i64 (rdE bs)]) ∧ Its w' w.heap.size (.slice a (rdV bs).gs.length c) (rdV bs).gs) ∧ Kept (fun _ => True) w w' := by
  obtain ⟨⟨h, he⟩ | ⟨r, a, c, h, he, hi⟩, k⟩ := h
  · have e1 : rdV bs = ⟨0, [], [], []⟩ := by unfold rdV; rw [h]; rfl
    have e2 : rdE bs = 12 := by unfold rdE; rw [h]; rfl
    rw [e1, e2]
    exact ⟨⟨none, 0, he, Its.nil _ _⟩, k⟩
  · have e1 : rdV bs = r := by unfold rdV; rw [h]; rfl
    have e2 : rdE bs = 0 := by unfold rdE; rw [h]; rfl
    rw [e1, e2]
    exact ⟨⟨a, c, he, hi⟩, k⟩
theorem rdV_few (bs : List UInt8) : (rdV bs).gs.length < 256 := by
  unfold rdV
  cases h : rec? bs with
  | none => simp
  | some r =>
    unfold rec? at h
    split at h
    · cases h
      show (rdGs bs).1.length < 256
      unfold rdGs
      rw [rdG_len]
      exact RS.num_lt1 _ _
    · cases h

set_option maxRecDepth 100000 in
set_option maxHeartbeats 2000000 in
theorem lsame_any {w : World} {v : Ur} {a b : Option Addr} {c d n1 n2 : Nat} (h1 : Its w n1 (.slice a v.gs.length c) v.gs) (h2 : Its w n2 (.slice b v.gs.length d) v.gs) (hl : v.gs.length < 256) :
    Calls Try.prog 22 #[.agg #[.int .i64 (v.k : Nat), .string ⟨v.tx.toArray⟩, .slice a v.gs.length c, .string ⟨v.bd.toArray⟩], .agg #[.int .i64 (v.k : Nat), .string ⟨v.tx.toArray⟩, .slice b v.gs.length d, .string ⟨v.bd.toArray⟩]] w fun e w' => e = .returned (.bool true) ∧ Kept (fun _ => True) w w' := by
  obtain ⟨k, tx, gs, bd⟩ := v
  simp only at *
  obtain ⟨w2, hw2⟩ : ∃ x, x = (w.alloc (.cells #[.int .i64 (k : Nat), .string ⟨tx.toArray⟩, .slice a gs.length c, .string ⟨bd.toArray⟩] 24)).alloc (.cells #[.int .i64 (k : Nat), .string ⟨tx.toArray⟩, .slice b gs.length d, .string ⟨bd.toArray⟩] 48) := ⟨_, rfl⟩
  have k2 : Kept (fun _ => True) w w2 := by rw [hw2]; exact ((Kept.refl _ _).alloc _).alloc _
  obtain ⟨q0, q1⟩ := new2 w (.cells #[.int .i64 (k : Nat), .string ⟨tx.toArray⟩, .slice a gs.length c, .string ⟨bd.toArray⟩] 24) (.cells #[.int .i64 (k : Nat), .string ⟨tx.toArray⟩, .slice b gs.length d, .string ⟨bd.toArray⟩] 48)
  rw [← hw2] at q0 q1
  obtain ⟨x0, x1, x2, x3⟩ := Four4.cell q0
  obtain ⟨y0, y1, y2, y3⟩ := Four4.cell q1
  have CS := isame_any (h1.kept k2 (fun _ _ => trivial)) (h2.kept k2 (fun _ _ => trivial)) (by omega)
  have K2 : Hid (Kept (fun _ => True) w w2) := k2
  clear q0 q1 k2 h1 h2 hl
  go_enter Try.func22, Try.ntmps22
  go_upto_region 1 with fail
  rw [← hw2]
  clear hw2
  go_wp2_with (go_at_call 13; (with_reducible refine Calls.mono CS ?_); rintro e w3 ⟨rfl, m3, rfl⟩)
  go_ret
  exact ⟨rfl, K2.out.trans ((Kept.refl _ _).drewN _)⟩

theorem size_ints (w0 : World) : (sizeOf (Try.prog.elem 22)).run Try.prog w0 = .ok 1 w0 := by kernel_rfl
set_option maxRecDepth 100000 in
theorem cut_i (ao : Option Addr) (n cap k : Nat) (hk : k ≤ cap) (hn : ao = none → cap = 0) (w0 : World) :
    (Instr.slice 22 (.slice ao n cap) none (some (.int .i64 (k : Int))) none).run Try.prog w0 = .ok (.slice ao k cap) w0 := by
  rw [run_slice_h (P := Try.prog) w0 22 ao n cap Try.underlying22 .i64 k (by omega) (by omega), size_ints]
  cases ao with
  | none => have := hn rfl; simp [Result.andThen, sliced]
  | some ad => simp [Result.andThen, sliced, Addr.add]
theorem Gi.take {w : World} {a : Option Addr} {gs : List Int} (h : Gi w a gs) (k : Nat) : Gi w a (gs.take k) := fun h0 => by
  rw [List.length_take] at h0
  obtain ⟨b, off, e, hb, hc⟩ := h (by omega)
  refine ⟨b, off, e, hb, fun i hi => ?_⟩
  rw [List.length_take] at hi
  rw [List.getElem_take]
  exact hc i (by omega)

set_option maxRecDepth 100000 in
set_option maxHeartbeats 4000000 in
theorem auditReads_any {w : World} {x : Rr} (hg : Gi w x.2.1 x.1.gs) (hc1 : x.1.gs.length ≤ x.2.2) (hc2 : x.2.1 = none → x.2.2 = 0) (s : List UInt8) (l1 : x.1.tx.length ≤ 1048576) (l2 : x.1.bd.length ≤ 1048576) :
    Calls Try.prog 4 #[.agg (rcell x).toArray, .string ⟨s.toArray⟩] w fun e w' => e = .returned (.bool true) ∧ Kept (fun _ => True) w w' := by
  obtain ⟨⟨k, tx, gs, bd⟩, a, c⟩ := x
  unfold rcell
  simp only at *
  obtain ⟨w1, hw1⟩ : ∃ x, x = w.alloc (.cells #[.int .i64 k, .string ⟨tx.toArray⟩, .slice a gs.length c, .string ⟨bd.toArray⟩] 24) := ⟨_, rfl⟩
  have k1 : Kept (fun _ => True) w w1 := by rw [hw1]; exact (Kept.refl _ _).alloc _
  have F1 : Four4 w1 w.heap.size 24 (.int .i64 k) (.string ⟨tx.toArray⟩) (.slice a gs.length c) (.string ⟨bd.toArray⟩) := by rw [hw1]; exact heap_alloc_new w _
  have HF1 : Hid (Four4 w1 w.heap.size 24 (.int .i64 k) (.string ⟨tx.toArray⟩) (.slice a gs.length c) (.string ⟨bd.toArray⟩)) := F1
  have K1 : Hid (Kept (fun _ => True) w w1) := k1
  have HG1 : Hid (Gi w1 a gs) := hg.all k1
  have hgX0 : 0 < gs.length → ∀ b off, a = some ⟨b, off, none⟩ → b < w.heap.size := fun h0 b off e => by
    obtain ⟨b', off', e', hb, _⟩ := hg h0
    rw [e] at e'
    cases e'
    exact hb
  have HGX : Hid (0 < gs.length → ∀ b off, a = some ⟨b, off, none⟩ → b < w.heap.size) := hgX0
  obtain ⟨x0, x1, x2, x3⟩ := F1.cell
  have xf := F1.free
  clear F1 k1 hg hgX0
  go_enter Try.func4, Try.ntmps4
  go_upto_region 1 with fail
  rw [← hw1]
  clear hw1
  obtain ⟨X, hX⟩ : ∃ X, X = w.heap.size := ⟨_, rfl⟩
  have HX : Hid (X = w.heap.size) := hX
  rw [← hX] at x0 x1 x2 x3 xf HF1 ⊢
  clear hX
  obtain ⟨s3, hs3⟩ : ∃ s3, s3 = s.take 300 := ⟨_, rfl⟩
  have hl3 : s3.length ≤ 300 := by rw [hs3, List.length_take]; omega
  obtain ⟨gs2, hgs2⟩ : ∃ g, g = gs.take 10 := ⟨_, rfl⟩
  have hlg : gs2.length ≤ 10 := by rw [hgs2, List.length_take]; omega
  go_upto_if 16 with fail
  go_cut [4] from 13 to 20 (fun t4 wx => t4 = .bool false ∧ Four4 wx X 24 (.int .i64 k) (.string ⟨tx.toArray⟩) (.slice a gs2.length c) (.string ⟨bd.toArray⟩) ∧ Gi wx a gs2 ∧ Kept (fun _ => True) w wx)
  case first =>
    by_cases hgl : 10 < gs.length
    · have e1 : (10 : Int) < (gs.length : Int) := by omega
      have hci2 := fun W : World => cut_i a gs.length c 10 (by omega) hc2 W
      have hl : gs2.length = 10 := by rw [hgs2, List.length_take]; omega
      have HGL : Hid (gs2.length = 10 ∧ gs2 = gs.take 10) := ⟨hl, hgs2⟩
      clear hl hgs2 hgl
      go_wp2_with fail
      go_meet
      refine ⟨rfl, ?_, ?_, ?_⟩
      · rw [HGL.out.1]; exact HF1.out.set2 _
      · rw [HGL.out.2]
        refine Gi.take (fun h0 => ?_) 10
        obtain ⟨b, off, e, hb, hc⟩ := HG1.out h0
        refine ⟨b, off, e, by simpa [World.setCell] using hb, fun i hi => ?_⟩
        have hbX : b ≠ X := fun q => by
          have := HGX.out h0 b off e
          have := HX.out
          omega
        rw [kept_cell (w := w1) kept_set hb hbX]
        exact hc i hi
      · exact kept_fresh K1.out (by rw [HX.out]; exact Nat.le_refl _) _
    · have e1 : ¬ (10 : Int) < (gs.length : Int) := by omega
      have HGL : Hid (gs2 = gs) := by show _ = _; rw [hgs2, List.take_of_length_le (by omega)]
      clear hgs2 hgl
      go_wp2_with fail
      go_meet
      rw [HGL.out]
      exact ⟨rfl, HF1.out, HG1.out, K1.out⟩
  case rest =>
  obtain ⟨rfl, hF, hG, hK⟩ := hcut
  have HF2 : Hid (Four4 wc X 24 (.int .i64 k) (.string ⟨tx.toArray⟩) (.slice a gs2.length c) (.string ⟨bd.toArray⟩)) := hF
  have HG2 : Hid (Gi wc a gs2) := hG
  have K2 : Hid (Kept (fun _ => True) w wc) := hK
  clear hF hG hK x0 x1 x2 x3 xf HF1 HG1 K1 HGX hgs2
  obtain ⟨w2, hw2⟩ : ∃ x, x = wc := ⟨_, rfl⟩
  rw [← hw2] at HF2 HG2 K2 ⊢
  clear hw2
  go_upto_if 23 with fail
  go_cut [1] from 21 to 25 (fun t1 wx => t1 = .string ⟨s3.toArray⟩ ∧ wx = w2)
  case first =>
    by_cases hsl : 300 < s.length
    · have e2 : (300 : Int) < (s.length : Int) := by omega
      have hex : Hid ((⟨s.toArray⟩ : ByteArray).extract 0 300 = ⟨s3.toArray⟩) := by
        show _ = _
        rw [hs3]
        apply ByteArray.ext
        simp
      clear hs3 hsl
      go_wp2_with fail
      go_meet
      exact ⟨congrArg Value.string hex.out, rfl⟩
    · have e2 : ¬ (300 : Int) < (s.length : Int) := by omega
      have e3 : s3 = s := by rw [hs3, List.take_of_length_le (by omega)]
      subst e3
      clear hs3 hsl
      go_wp2_with fail
      go_meet
      exact ⟨rfl, rfl⟩
  case rest =>
  obtain ⟨rfl, rfl⟩ := hcut
  clear hs3
  obtain ⟨S, hS⟩ : ∃ S, S = encU ⟨k, tx, gs2, bd⟩ := ⟨_, rfl⟩
  have hSl : (S.length : Int) ≤ 140737488355328 := by
    rw [hS]
    unfold encU
    simp only [List.length_append, enc_length, encGi_len]
    omega
  obtain ⟨w2, hw2⟩ : ∃ x, x = wc := ⟨_, rfl⟩
  rw [← hw2] at HF2 HG2 K2 ⊢
  clear hw2
  have CA : ∀ (W : World) (bs : List UInt8), (bs.length : Int) ≤ 140737488355328 → Calls Try.prog 17 #[.string ⟨bs.toArray⟩] W fun e w' => (∃ a c, e = .returned (.tuple #[.agg #[.int .i64 ((rdV bs).k : Nat), .string ⟨(rdV bs).tx.toArray⟩, .slice a (rdV bs).gs.length c, .string ⟨(rdV bs).bd.toArray⟩], .int .i64 (rdE bs)]) ∧ Its w' W.heap.size (.slice a (rdV bs).gs.length c) (rdV bs).gs) ∧ Kept (fun _ => True) W w' := fun W bs h => (readA_any h).mono fun e w' q => eread_one q
  have CB : ∀ (W : World) (bs : List UInt8), (bs.length : Int) ≤ 140737488355328 → Calls Try.prog 18 #[.string ⟨bs.toArray⟩] W fun e w' => (∃ a c, e = .returned (.tuple #[.agg #[.int .i64 ((rdV bs).k : Nat), .string ⟨(rdV bs).tx.toArray⟩, .slice a (rdV bs).gs.length c, .string ⟨(rdV bs).bd.toArray⟩], .int .i64 (rdE bs)]) ∧ Its w' W.heap.size (.slice a (rdV bs).gs.length c) (rdV bs).gs) ∧ Kept (fun _ => True) W w' := fun W bs h => (rread_any h).mono fun e w' q => eread_one q
  have CT : ∀ W, Kept (fun _ => True) w2 W → Calls Try.prog 21 #[.agg #[.int .i64 k, .string ⟨tx.toArray⟩, .slice a gs2.length c, .string ⟨bd.toArray⟩]] W fun e w' => e = .returned (.string ⟨S.toArray⟩) ∧ Kept (fun _ => True) W w' := fun W q => by
    have := textA_any (w := W) (r := ⟨k, tx, gs2, bd⟩) (ao := a) (cap := c) (HG2.out.all q) (by show gs2.length ≤ _; omega) (by show (tx.length : Int) ≤ _; omega) (by show (bd.length : Int) ≤ _; omega)
    rwa [← hS] at this
  have CU : ∀ W, Kept (fun _ => True) w2 W → Calls Try.prog 19 #[.agg #[.int .i64 k, .string ⟨tx.toArray⟩, .slice a gs2.length c, .string ⟨bd.toArray⟩]] W fun e w' => e = .returned (.string ⟨S.toArray⟩) ∧ Kept (fun _ => True) W w' := fun W q => by
    have := rtextR_any (w := W) (r := ⟨k, tx, gs2, bd⟩) (ao := a) (cap := c) (HG2.out.all q) (by show gs2.length ≤ _; omega) (by show tx.length ≤ _; omega) (by show bd.length ≤ _; omega)
    rwa [← hS] at this
  have CC : ∀ W, Calls Try.prog 20 #[.agg #[.int .i64 k, .string ⟨tx.toArray⟩, .slice a gs2.length c, .string ⟨bd.toArray⟩]] W fun e w' => e = .returned (.agg #[.int .i64 k, .string ⟨tx.toArray⟩, .slice a gs2.length c, .string ⟨bd.toArray⟩]) ∧ Kept (fun _ => True) W w' := fun W => lrec_any W (⟨k, tx, gs2, bd⟩, (a, c))
  clear hS
  have CA3 := fun W : World => CA W s3 (by omega)
  have CB3 := fun W : World => CB W s3 (by omega)
  have CAS := fun W : World => CA W S hSl
  have CBS := fun W : World => CB W S hSl
  have HV3 : Hid ((rdV s3).gs.length < 256) := rdV_few _
  have HVS : Hid ((rdV S).gs.length < 256) := rdV_few _
  clear CA CB hSl hl3 hlg l1 l2
  generalize rdV s3 = v3 at *
  generalize rdE s3 = e3 at *
  generalize rdV S = vS at *
  generalize rdE S = eS at *
  go_upto_region 6 with (go_at_call 17; (with_reducible refine Calls.mono (CA3 _) ?_); rintro e w3 ⟨⟨a3, c3, rfl, hi3⟩, k3⟩)
  have F3 : Hid (Four4 (w3.alloc (.cells #[.int .i64 (v3.k : Nat), .string ⟨v3.tx.toArray⟩, .slice a3 v3.gs.length c3, .string ⟨v3.bd.toArray⟩] 24)) w3.heap.size 24 (.int .i64 (v3.k : Nat)) (.string ⟨v3.tx.toArray⟩) (.slice a3 v3.gs.length c3) (.string ⟨v3.bd.toArray⟩)) := heap_alloc_new w3 _
  have K3 : Hid (Kept (fun _ => True) w2 (w3.alloc (.cells #[.int .i64 (v3.k : Nat), .string ⟨v3.tx.toArray⟩, .slice a3 v3.gs.length c3, .string ⟨v3.bd.toArray⟩] 24))) := k3.alloc _
  have I3 : Hid (Its (w3.alloc (.cells #[.int .i64 (v3.k : Nat), .string ⟨v3.tx.toArray⟩, .slice a3 v3.gs.length c3, .string ⟨v3.bd.toArray⟩] 24)) w2.heap.size (.slice a3 v3.gs.length c3) v3.gs) := hi3.fresh _
  clear hi3 k3 CA3
  generalize w3.heap.size = Y3 at *
  generalize w3.alloc (.cells #[.int .i64 (v3.k : Nat), .string ⟨v3.tx.toArray⟩, .slice a3 v3.gs.length c3, .string ⟨v3.bd.toArray⟩] 24) = w3 at *
  go_upto_region 7 with (go_at_call 18; (with_reducible refine Calls.mono (CB3 _) ?_); rintro e w4 ⟨⟨a4, c4, rfl, hi4⟩, k4⟩)
  have F4 : Hid (Four4 (w4.alloc (.cells #[.int .i64 (v3.k : Nat), .string ⟨v3.tx.toArray⟩, .slice a4 v3.gs.length c4, .string ⟨v3.bd.toArray⟩] 48)) w4.heap.size 48 (.int .i64 (v3.k : Nat)) (.string ⟨v3.tx.toArray⟩) (.slice a4 v3.gs.length c4) (.string ⟨v3.bd.toArray⟩)) := heap_alloc_new w4 _
  have K4 : Hid (Kept (fun _ => True) w3 (w4.alloc (.cells #[.int .i64 (v3.k : Nat), .string ⟨v3.tx.toArray⟩, .slice a4 v3.gs.length c4, .string ⟨v3.bd.toArray⟩] 48))) := k4.alloc _
  have I4 : Hid (Its (w4.alloc (.cells #[.int .i64 (v3.k : Nat), .string ⟨v3.tx.toArray⟩, .slice a4 v3.gs.length c4, .string ⟨v3.bd.toArray⟩] 48)) w3.heap.size (.slice a4 v3.gs.length c4) v3.gs) := hi4.fresh _
  clear hi4 k4 CB3
  generalize w4.heap.size = Y4 at *
  generalize w4.alloc (.cells #[.int .i64 (v3.k : Nat), .string ⟨v3.tx.toArray⟩, .slice a4 v3.gs.length c4, .string ⟨v3.bd.toArray⟩] 48) = w4 at *
  have k24 : Kept (fun _ => True) w2 w4 := K3.out.trans K4.out
  obtain ⟨x0, x1, x2, x3⟩ := (HF2.out.kept k24 trivial).cell
  go_upto_region 8 with (first
    | (go_at_call 20; (with_reducible refine Calls.mono (CC _) ?_); rintro e w5 ⟨rfl, k5⟩)
    | (go_at_call 19; (with_reducible refine Calls.mono (CU _ (k24.trans k5)) ?_); rintro e w6 ⟨rfl, k6⟩)
    | (go_at_call 17; (with_reducible refine Calls.mono (CAS _) ?_); rintro e w7 ⟨⟨a7, c7, rfl, hi7⟩, k7⟩))
  have F7 : Hid (Four4 (w7.alloc (.cells #[.int .i64 (vS.k : Nat), .string ⟨vS.tx.toArray⟩, .slice a7 vS.gs.length c7, .string ⟨vS.bd.toArray⟩] 24)) w7.heap.size 24 (.int .i64 (vS.k : Nat)) (.string ⟨vS.tx.toArray⟩) (.slice a7 vS.gs.length c7) (.string ⟨vS.bd.toArray⟩)) := heap_alloc_new w7 _
  have K7 : Hid (Kept (fun _ => True) w4 (w7.alloc (.cells #[.int .i64 (vS.k : Nat), .string ⟨vS.tx.toArray⟩, .slice a7 vS.gs.length c7, .string ⟨vS.bd.toArray⟩] 24))) := ((k5.trans k6).trans k7).alloc _
  have I7 : Hid (Its (w7.alloc (.cells #[.int .i64 (vS.k : Nat), .string ⟨vS.tx.toArray⟩, .slice a7 vS.gs.length c7, .string ⟨vS.bd.toArray⟩] 24)) w6.heap.size (.slice a7 vS.gs.length c7) vS.gs) := hi7.fresh _
  clear hi7 k5 k6 k7 CAS x0 x1 x2 x3
  generalize w7.heap.size = Y7 at *
  generalize w7.alloc (.cells #[.int .i64 (vS.k : Nat), .string ⟨vS.tx.toArray⟩, .slice a7 vS.gs.length c7, .string ⟨vS.bd.toArray⟩] 24) = w7 at *
  have k27 : Kept (fun _ => True) w2 w7 := k24.trans K7.out
  obtain ⟨x0, x1, x2, x3⟩ := (HF2.out.kept k27 trivial).cell
  go_upto_region 9 with (first
    | (go_at_call 20; (with_reducible refine Calls.mono (CC _) ?_); rintro e w8 ⟨rfl, k8⟩)
    | (go_at_call 19; (with_reducible refine Calls.mono (CU _ (k27.trans k8)) ?_); rintro e w9 ⟨rfl, k9⟩)
    | (go_at_call 18; (with_reducible refine Calls.mono (CBS _) ?_); rintro e w10 ⟨⟨a10, c10, rfl, hi10⟩, k10⟩))
  have F10 : Hid (Four4 (w10.alloc (.cells #[.int .i64 (vS.k : Nat), .string ⟨vS.tx.toArray⟩, .slice a10 vS.gs.length c10, .string ⟨vS.bd.toArray⟩] 48)) w10.heap.size 48 (.int .i64 (vS.k : Nat)) (.string ⟨vS.tx.toArray⟩) (.slice a10 vS.gs.length c10) (.string ⟨vS.bd.toArray⟩)) := heap_alloc_new w10 _
  have K10 : Hid (Kept (fun _ => True) w7 (w10.alloc (.cells #[.int .i64 (vS.k : Nat), .string ⟨vS.tx.toArray⟩, .slice a10 vS.gs.length c10, .string ⟨vS.bd.toArray⟩] 48))) := ((k8.trans k9).trans k10).alloc _
  have I10 : Hid (Its (w10.alloc (.cells #[.int .i64 (vS.k : Nat), .string ⟨vS.tx.toArray⟩, .slice a10 vS.gs.length c10, .string ⟨vS.bd.toArray⟩] 48)) w9.heap.size (.slice a10 vS.gs.length c10) vS.gs) := hi10.fresh _
  clear hi10 k8 k9 k10 CBS x0 x1 x2 x3
  generalize w10.heap.size = Y10 at *
  generalize w10.alloc (.cells #[.int .i64 (vS.k : Nat), .string ⟨vS.tx.toArray⟩, .slice a10 vS.gs.length c10, .string ⟨vS.bd.toArray⟩] 48) = w11 at *
  have K211 : Hid (Kept (fun _ => True) w2 w11) := k27.trans K10.out
  have xA : ∀ W, Kept (fun _ => True) w11 W → W.cell? ⟨X, 0, none⟩ = some (.int .i64 k) ∧ W.cell? ⟨X, 1, none⟩ = some (.string ⟨tx.toArray⟩) ∧ W.cell? ⟨X, 2, none⟩ = some (.slice a gs2.length c) ∧ W.cell? ⟨X, 3, none⟩ = some (.string ⟨bd.toArray⟩) := fun W q => (HF2.out.kept (K211.out.trans q) trivial).cell
  have F3' := F3.out.kept ((K4.out.trans K7.out).trans K10.out) trivial
  have F4' := F4.out.kept (K7.out.trans K10.out) trivial
  have F7' := F7.out.kept K10.out trivial
  have F10' := F10.out
  have j3 := I3.out.kept ((K4.out.trans K7.out).trans K10.out) (fun _ _ => trivial)
  have j4 := I4.out.kept (K7.out.trans K10.out) (fun _ _ => trivial)
  have j7 := I7.out.kept K10.out (fun _ _ => trivial)
  have j10 := I10.out
  have CS1 : ∀ W, Kept (fun _ => True) w11 W → _ := fun W q => lsame_any (j3.kept q (fun _ _ => trivial)) (j4.kept q (fun _ _ => trivial)) HV3.out
  have CS2 : ∀ W, Kept (fun _ => True) w11 W → _ := fun W q => lsame_any (j7.kept q (fun _ _ => trivial)) (j10.kept q (fun _ _ => trivial)) HVS.out
  have CT2 : ∀ W, Kept (fun _ => True) w11 W → _ := fun W q => CT W (K211.out.trans q)
  have CU2 : ∀ W, Kept (fun _ => True) w11 W → _ := fun W q => CU W (K211.out.trans q)
  have KW : Hid (Kept (fun _ => True) w w11) := K2.out.trans K211.out
  clear CT CU j3 j4 j7 j10 k24 k27 I3 I4 I7 I10 F3 F4 F7 F10 K3 K4 K7 K10 HF2 HG2 K2 K211 HX
  obtain ⟨y0, y1, y2, y3⟩ : (∀ W, Kept (fun _ => True) w11 W → W.cell? ⟨Y3, 0, none⟩ = some (.int .i64 (v3.k : Nat))) ∧ (∀ W, Kept (fun _ => True) w11 W → W.cell? ⟨Y3, 1, none⟩ = some (.string ⟨v3.tx.toArray⟩)) ∧ (∀ W, Kept (fun _ => True) w11 W → W.cell? ⟨Y3, 2, none⟩ = some (.slice a3 v3.gs.length c3)) ∧ (∀ W, Kept (fun _ => True) w11 W → W.cell? ⟨Y3, 3, none⟩ = some (.string ⟨v3.bd.toArray⟩)) := ⟨fun W q => (F3'.kept q trivial).cell.1, fun W q => (F3'.kept q trivial).cell.2.1, fun W q => (F3'.kept q trivial).cell.2.2.1, fun W q => (F3'.kept q trivial).cell.2.2.2⟩
  obtain ⟨z0, z1, z2, z3⟩ : (∀ W, Kept (fun _ => True) w11 W → W.cell? ⟨Y4, 0, none⟩ = some (.int .i64 (v3.k : Nat))) ∧ (∀ W, Kept (fun _ => True) w11 W → W.cell? ⟨Y4, 1, none⟩ = some (.string ⟨v3.tx.toArray⟩)) ∧ (∀ W, Kept (fun _ => True) w11 W → W.cell? ⟨Y4, 2, none⟩ = some (.slice a4 v3.gs.length c4)) ∧ (∀ W, Kept (fun _ => True) w11 W → W.cell? ⟨Y4, 3, none⟩ = some (.string ⟨v3.bd.toArray⟩)) := ⟨fun W q => (F4'.kept q trivial).cell.1, fun W q => (F4'.kept q trivial).cell.2.1, fun W q => (F4'.kept q trivial).cell.2.2.1, fun W q => (F4'.kept q trivial).cell.2.2.2⟩
  obtain ⟨p0, p1, p2, p3⟩ : (∀ W, Kept (fun _ => True) w11 W → W.cell? ⟨Y7, 0, none⟩ = some (.int .i64 (vS.k : Nat))) ∧ (∀ W, Kept (fun _ => True) w11 W → W.cell? ⟨Y7, 1, none⟩ = some (.string ⟨vS.tx.toArray⟩)) ∧ (∀ W, Kept (fun _ => True) w11 W → W.cell? ⟨Y7, 2, none⟩ = some (.slice a7 vS.gs.length c7)) ∧ (∀ W, Kept (fun _ => True) w11 W → W.cell? ⟨Y7, 3, none⟩ = some (.string ⟨vS.bd.toArray⟩)) := ⟨fun W q => (F7'.kept q trivial).cell.1, fun W q => (F7'.kept q trivial).cell.2.1, fun W q => (F7'.kept q trivial).cell.2.2.1, fun W q => (F7'.kept q trivial).cell.2.2.2⟩
  obtain ⟨q0, q1, q2, q3⟩ : (∀ W, Kept (fun _ => True) w11 W → W.cell? ⟨Y10, 0, none⟩ = some (.int .i64 (vS.k : Nat))) ∧ (∀ W, Kept (fun _ => True) w11 W → W.cell? ⟨Y10, 1, none⟩ = some (.string ⟨vS.tx.toArray⟩)) ∧ (∀ W, Kept (fun _ => True) w11 W → W.cell? ⟨Y10, 2, none⟩ = some (.slice a10 vS.gs.length c10)) ∧ (∀ W, Kept (fun _ => True) w11 W → W.cell? ⟨Y10, 3, none⟩ = some (.string ⟨vS.bd.toArray⟩)) := ⟨fun W q => (F10'.kept q trivial).cell.1, fun W q => (F10'.kept q trivial).cell.2.1, fun W q => (F10'.kept q trivial).cell.2.2.1, fun W q => (F10'.kept q trivial).cell.2.2.2⟩
  obtain ⟨x0, x1, x2, x3⟩ : (∀ W, Kept (fun _ => True) w11 W → W.cell? ⟨X, 0, none⟩ = some (.int .i64 k)) ∧ (∀ W, Kept (fun _ => True) w11 W → W.cell? ⟨X, 1, none⟩ = some (.string ⟨tx.toArray⟩)) ∧ (∀ W, Kept (fun _ => True) w11 W → W.cell? ⟨X, 2, none⟩ = some (.slice a gs2.length c)) ∧ (∀ W, Kept (fun _ => True) w11 W → W.cell? ⟨X, 3, none⟩ = some (.string ⟨bd.toArray⟩)) := ⟨fun W q => (xA W q).1, fun W q => (xA W q).2.1, fun W q => (xA W q).2.2.1, fun W q => (xA W q).2.2.2⟩
  clear xA F3' F4' F7' F10'
  go_wp2_with fail
  refine Gz.begin (fun W => Kept (fun _ => True) w11 W) (fun _ => false) (by kernel_rfl) ?_
  refine Gz.take (i := 0) (oi := { dst := some 50, op := Op.load 24 (Operand.tmp 2), type := 24, pos := _, after := _, guard := none }) (v := ?_) rfl (by kernel_rfl) (by kernel_rfl) (by kernel_rfl) (by kernel_rfl) (fun _ _ _ h => h) (Or.inl ⟨by rfl, ?hy0⟩) (Kept.refl _ _).drew ?_
  case hy0 => (intro W hSw; (try dsimp only at hSw); go_simp; try with_reducible rfl)
  try simp only [Act.put, List.setIfInBounds_toArray, List.set_cons_zero, List.set_cons_succ]
  refine Gz.take (i := 2) (oi := { dst := some 52, op := Op.load 24 (Operand.tmp 2), type := 24, pos := _, after := _, guard := none }) (v := ?_) rfl (by kernel_rfl) (by kernel_rfl) (by kernel_rfl) (by kernel_rfl) (fun _ _ _ h => h) (Or.inl ⟨by rfl, ?hy2⟩) (Kept.refl _ _).drew ?_
  case hy2 => (intro W hSw; (try dsimp only at hSw); go_simp; try with_reducible rfl)
  try simp only [Act.put, List.setIfInBounds_toArray, List.set_cons_zero, List.set_cons_succ]
  refine Gz.one (i := 1) (o := { dst := some 51, op := Op.call { callee := Callee.value (Operand.func 21), args := #[Operand.tmp 50], argTypes := #[24] }, type := 9, pos := _, after := _, guard := none }) (by kernel_rfl) rfl (fun K hK => ?_)
  go_simp
  with_reducible refine Calls.mono (CT2 _ (Kept.refl _ _).drew) ?_
  rintro e w12 ⟨rfl, k12⟩
  have s12 : Kept (fun _ => True) w11 w12 := (Kept.refl _ _).drew.trans k12
  try go_wp2_with fail
  refine hK.out _ _ (fun _ => s12) ?_
  clear hK K
  try simp only [Act.put, List.setIfInBounds_toArray, List.set_cons_zero, List.set_cons_succ]
  refine Gz.one (i := 3) (o := { dst := some 53, op := Op.call { callee := Callee.value (Operand.func 20), args := #[Operand.tmp 52], argTypes := #[24] }, type := 48, pos := _, after := _, guard := none }) (by kernel_rfl) rfl (fun K hK => ?_)
  go_simp
  with_reducible refine Calls.mono (CC _) ?_
  rintro e w13 ⟨rfl, k13⟩
  have s13 := s12.trans k13
  try go_wp2_with fail
  refine hK.out _ _ (fun _ => s13) ?_
  clear hK K
  try simp only [Act.put, List.setIfInBounds_toArray, List.set_cons_zero, List.set_cons_succ]
  refine Gz.one (i := 4) (o := { dst := some 54, op := Op.call { callee := Callee.value (Operand.func 19), args := #[Operand.tmp 53], argTypes := #[48] }, type := 9, pos := _, after := _, guard := none }) (by kernel_rfl) rfl (fun K hK => ?_)
  go_simp
  with_reducible refine Calls.mono (CU2 _ s13) ?_
  rintro e w14 ⟨rfl, k14⟩
  have s14 := s13.trans k14
  try go_wp2_with fail
  refine hK.out _ _ (fun _ => s14) ?_
  clear hK K
  try simp only [Act.put, List.setIfInBounds_toArray, List.set_cons_zero, List.set_cons_succ]
  refine Gz.take (i := 5) (oi := { dst := some 55, op := Op.binOp BinOp.eql 9 (Operand.tmp 51) (Operand.tmp 54) 9, type := 4, pos := _, after := _, guard := none }) (v := ?_) rfl (by kernel_rfl) (by kernel_rfl) (by kernel_rfl) (by kernel_rfl) (fun _ _ _ h => h) (Or.inl ⟨by rfl, ?hy5⟩) s14 ?_
  case hy5 => (intro W hSw; (try dsimp only at hSw); go_simp; try with_reducible rfl)
  try simp only [Act.put, List.setIfInBounds_toArray, List.set_cons_zero, List.set_cons_succ]
  refine Gz.take (i := 6) (oi := { dst := some 56, op := Op.move (Operand.tmp 55), type := 4, pos := _, after := _, guard := none }) (v := ?_) rfl (by kernel_rfl) (by kernel_rfl) (by kernel_rfl) (by kernel_rfl) (fun _ _ _ h => h) (Or.inl ⟨by rfl, ?hy6⟩) s14 ?_
  case hy6 => (intro W hSw; (try dsimp only at hSw); go_simp; try with_reducible rfl)
  try simp only [Act.put, List.setIfInBounds_toArray, List.set_cons_zero, List.set_cons_succ]
  refine Gz.take (i := 7) (oi := { dst := some 57, op := Op.load 24 (Operand.tmp 5), type := 24, pos := _, after := _, guard := some (6, true) }) (v := ?_) rfl (by kernel_rfl) (by kernel_rfl) (by kernel_rfl) (by kernel_rfl) (fun _ _ _ h => h) (Or.inl ⟨by rfl, ?hy7⟩) s14 ?_
  case hy7 => (intro W hSw; (try dsimp only at hSw); go_simp; try with_reducible rfl)
  try simp only [Act.put, List.setIfInBounds_toArray, List.set_cons_zero, List.set_cons_succ]
  refine Gz.take (i := 8) (oi := { dst := some 58, op := Op.load 48 (Operand.tmp 7), type := 48, pos := _, after := _, guard := some (6, true) }) (v := ?_) rfl (by kernel_rfl) (by kernel_rfl) (by kernel_rfl) (by kernel_rfl) (fun _ _ _ h => h) (Or.inl ⟨by rfl, ?hy8⟩) s14 ?_
  case hy8 => (intro W hSw; (try dsimp only at hSw); go_simp; try with_reducible rfl)
  try simp only [Act.put, List.setIfInBounds_toArray, List.set_cons_zero, List.set_cons_succ]
  refine Gz.one (i := 9) (o := { dst := some 59, op := Op.call { callee := Callee.value (Operand.func 22), args := #[Operand.tmp 57, Operand.tmp 58], argTypes := #[24, 48] }, type := 4, pos := _, after := _, guard := some (6, true) }) (by kernel_rfl) rfl (fun K hK => ?_)
  go_simp
  with_reducible refine Calls.mono (CS1 _ s14) ?_
  rintro e w15 ⟨rfl, k15⟩
  have s15 := s14.trans k15
  try go_wp2_with fail
  refine hK.out _ _ (fun _ => s15) ?_
  clear hK K
  try simp only [Act.put, List.setIfInBounds_toArray, List.set_cons_zero, List.set_cons_succ]
  refine Gz.take (i := 10) (oi := { dst := some 60, op := Op.pick (Operand.tmp 56) (Operand.tmp 59) (Operand.const (Value.bool false)), type := 4, pos := _, after := _, guard := none }) (v := ?_) rfl (by kernel_rfl) (by kernel_rfl) (by kernel_rfl) (by kernel_rfl) (fun _ _ _ h => h) (Or.inl ⟨by rfl, ?hy10⟩) s15 ?_
  case hy10 => (intro W hSw; (try dsimp only at hSw); go_simp; try with_reducible rfl)
  try simp only [Act.put, List.setIfInBounds_toArray, List.set_cons_zero, List.set_cons_succ]
  refine Gz.take (i := 11) (oi := { dst := some 61, op := Op.move (Operand.tmp 60), type := 4, pos := _, after := _, guard := none }) (v := ?_) rfl (by kernel_rfl) (by kernel_rfl) (by kernel_rfl) (by kernel_rfl) (fun _ _ _ h => h) (Or.inl ⟨by rfl, ?hy11⟩) s15 ?_
  case hy11 => (intro W hSw; (try dsimp only at hSw); go_simp; try with_reducible rfl)
  try simp only [Act.put, List.setIfInBounds_toArray, List.set_cons_zero, List.set_cons_succ]
  refine Gz.take (i := 12) (oi := { dst := some 62, op := Op.move (Operand.tmp 6), type := 45, pos := _, after := _, guard := some (11, true) }) (v := ?_) rfl (by kernel_rfl) (by kernel_rfl) (by kernel_rfl) (by kernel_rfl) (fun _ _ _ h => h) (Or.inl ⟨by rfl, ?hy12⟩) s15 ?_
  case hy12 => (intro W hSw; (try dsimp only at hSw); go_simp; try with_reducible rfl)
  try simp only [Act.put, List.setIfInBounds_toArray, List.set_cons_zero, List.set_cons_succ]
  refine Gz.take (i := 13) (oi := { dst := some 63, op := Op.move (Operand.tmp 8), type := 3, pos := _, after := _, guard := some (11, true) }) (v := ?_) rfl (by kernel_rfl) (by kernel_rfl) (by kernel_rfl) (by kernel_rfl) (fun _ _ _ h => h) (Or.inl ⟨by rfl, ?hy13⟩) s15 ?_
  case hy13 => (intro W hSw; (try dsimp only at hSw); go_simp; try with_reducible rfl)
  try simp only [Act.put, List.setIfInBounds_toArray, List.set_cons_zero, List.set_cons_succ]
  refine Gz.take (i := 14) (oi := { dst := some 64, op := Op.binOp BinOp.eql 3 (Operand.tmp 62) (Operand.tmp 63) 3, type := 4, pos := _, after := _, guard := some (11, true) }) (v := ?_) rfl (by kernel_rfl) (by kernel_rfl) (by kernel_rfl) (by kernel_rfl) (fun _ _ _ h => h) (Or.inl ⟨by rfl, ?hy14⟩) s15 ?_
  case hy14 => (intro W hSw; (try dsimp only at hSw); go_simp; try with_reducible rfl)
  try simp only [Act.put, List.setIfInBounds_toArray, List.set_cons_zero, List.set_cons_succ]
  refine Gz.take (i := 15) (oi := { dst := some 65, op := Op.pick (Operand.tmp 61) (Operand.tmp 64) (Operand.const (Value.bool false)), type := 4, pos := _, after := _, guard := none }) (v := ?_) rfl (by kernel_rfl) (by kernel_rfl) (by kernel_rfl) (by kernel_rfl) (fun _ _ _ h => h) (Or.inl ⟨by rfl, ?hy15⟩) s15 ?_
  case hy15 => (intro W hSw; (try dsimp only at hSw); go_simp; try with_reducible rfl)
  try simp only [Act.put, List.setIfInBounds_toArray, List.set_cons_zero, List.set_cons_succ]
  refine Gz.take (i := 16) (oi := { dst := some 66, op := Op.move (Operand.tmp 65), type := 4, pos := _, after := _, guard := none }) (v := ?_) rfl (by kernel_rfl) (by kernel_rfl) (by kernel_rfl) (by kernel_rfl) (fun _ _ _ h => h) (Or.inl ⟨by rfl, ?hy16⟩) s15 ?_
  case hy16 => (intro W hSw; (try dsimp only at hSw); go_simp; try with_reducible rfl)
  try simp only [Act.put, List.setIfInBounds_toArray, List.set_cons_zero, List.set_cons_succ]
  refine Gz.take (i := 17) (oi := { dst := some 67, op := Op.load 24 (Operand.tmp 9), type := 24, pos := _, after := _, guard := some (16, true) }) (v := ?_) rfl (by kernel_rfl) (by kernel_rfl) (by kernel_rfl) (by kernel_rfl) (fun _ _ _ h => h) (Or.inl ⟨by rfl, ?hy17⟩) s15 ?_
  case hy17 => (intro W hSw; (try dsimp only at hSw); go_simp; try with_reducible rfl)
  try simp only [Act.put, List.setIfInBounds_toArray, List.set_cons_zero, List.set_cons_succ]
  refine Gz.take (i := 18) (oi := { dst := some 68, op := Op.load 48 (Operand.tmp 11), type := 48, pos := _, after := _, guard := some (16, true) }) (v := ?_) rfl (by kernel_rfl) (by kernel_rfl) (by kernel_rfl) (by kernel_rfl) (fun _ _ _ h => h) (Or.inl ⟨by rfl, ?hy18⟩) s15 ?_
  case hy18 => (intro W hSw; (try dsimp only at hSw); go_simp; try with_reducible rfl)
  try simp only [Act.put, List.setIfInBounds_toArray, List.set_cons_zero, List.set_cons_succ]
  refine Gz.one (i := 19) (o := { dst := some 69, op := Op.call { callee := Callee.value (Operand.func 22), args := #[Operand.tmp 67, Operand.tmp 68], argTypes := #[24, 48] }, type := 4, pos := _, after := _, guard := some (16, true) }) (by kernel_rfl) rfl (fun K hK => ?_)
  go_simp
  with_reducible refine Calls.mono (CS2 _ s15) ?_
  rintro e w16 ⟨rfl, k16⟩
  have s16 := s15.trans k16
  try go_wp2_with fail
  refine hK.out _ _ (fun _ => s16) ?_
  clear hK K
  try simp only [Act.put, List.setIfInBounds_toArray, List.set_cons_zero, List.set_cons_succ]
  refine Gz.take (i := 20) (oi := { dst := some 70, op := Op.pick (Operand.tmp 66) (Operand.tmp 69) (Operand.const (Value.bool false)), type := 4, pos := _, after := _, guard := none }) (v := ?_) rfl (by kernel_rfl) (by kernel_rfl) (by kernel_rfl) (by kernel_rfl) (fun _ _ _ h => h) (Or.inl ⟨by rfl, ?hy20⟩) s16 ?_
  case hy20 => (intro W hSw; (try dsimp only at hSw); go_simp; try with_reducible rfl)
  try simp only [Act.put, List.setIfInBounds_toArray, List.set_cons_zero, List.set_cons_succ]
  refine Gz.take (i := 21) (oi := { dst := some 71, op := Op.move (Operand.tmp 70), type := 4, pos := _, after := _, guard := none }) (v := ?_) rfl (by kernel_rfl) (by kernel_rfl) (by kernel_rfl) (by kernel_rfl) (fun _ _ _ h => h) (Or.inl ⟨by rfl, ?hy21⟩) s16 ?_
  case hy21 => (intro W hSw; (try dsimp only at hSw); go_simp; try with_reducible rfl)
  try simp only [Act.put, List.setIfInBounds_toArray, List.set_cons_zero, List.set_cons_succ]
  refine Gz.take (i := 22) (oi := { dst := some 72, op := Op.move (Operand.tmp 10), type := 45, pos := _, after := _, guard := some (21, true) }) (v := ?_) rfl (by kernel_rfl) (by kernel_rfl) (by kernel_rfl) (by kernel_rfl) (fun _ _ _ h => h) (Or.inl ⟨by rfl, ?hy22⟩) s16 ?_
  case hy22 => (intro W hSw; (try dsimp only at hSw); go_simp; try with_reducible rfl)
  try simp only [Act.put, List.setIfInBounds_toArray, List.set_cons_zero, List.set_cons_succ]
  refine Gz.take (i := 23) (oi := { dst := some 73, op := Op.move (Operand.tmp 12), type := 3, pos := _, after := _, guard := some (21, true) }) (v := ?_) rfl (by kernel_rfl) (by kernel_rfl) (by kernel_rfl) (by kernel_rfl) (fun _ _ _ h => h) (Or.inl ⟨by rfl, ?hy23⟩) s16 ?_
  case hy23 => (intro W hSw; (try dsimp only at hSw); go_simp; try with_reducible rfl)
  try simp only [Act.put, List.setIfInBounds_toArray, List.set_cons_zero, List.set_cons_succ]
  refine Gz.take (i := 24) (oi := { dst := some 74, op := Op.binOp BinOp.eql 3 (Operand.tmp 72) (Operand.tmp 73) 3, type := 4, pos := _, after := _, guard := some (21, true) }) (v := ?_) rfl (by kernel_rfl) (by kernel_rfl) (by kernel_rfl) (by kernel_rfl) (fun _ _ _ h => h) (Or.inl ⟨by rfl, ?hy24⟩) s16 ?_
  case hy24 => (intro W hSw; (try dsimp only at hSw); go_simp; try with_reducible rfl)
  try simp only [Act.put, List.setIfInBounds_toArray, List.set_cons_zero, List.set_cons_succ]
  refine Gz.take (i := 25) (oi := { dst := some 75, op := Op.pick (Operand.tmp 71) (Operand.tmp 74) (Operand.const (Value.bool false)), type := 4, pos := _, after := _, guard := none }) (v := ?_) rfl (by kernel_rfl) (by kernel_rfl) (by kernel_rfl) (by kernel_rfl) (fun _ _ _ h => h) (Or.inl ⟨by rfl, ?hy25⟩) s16 ?_
  case hy25 => (intro W hSw; (try dsimp only at hSw); go_simp; try with_reducible rfl)
  try simp only [Act.put, List.setIfInBounds_toArray, List.set_cons_zero, List.set_cons_succ]
  refine Gz.take (i := 26) (oi := { dst := some 76, op := Op.move (Operand.tmp 75), type := 4, pos := _, after := _, guard := none }) (v := ?_) rfl (by kernel_rfl) (by kernel_rfl) (by kernel_rfl) (by kernel_rfl) (fun _ _ _ h => h) (Or.inl ⟨by rfl, ?hy26⟩) s16 ?_
  case hy26 => (intro W hSw; (try dsimp only at hSw); go_simp; try with_reducible rfl)
  try simp only [Act.put, List.setIfInBounds_toArray, List.set_cons_zero, List.set_cons_succ]
  refine Gz.one (i := 27) (o := { dst := some 77, op := Op.call { callee := Callee.value (Operand.func 16), args := #[], argTypes := #[] }, type := 4, pos := _, after := _, guard := some (26, true) }) (by kernel_rfl) rfl (fun K hK => ?_)
  go_simp
  with_reducible refine Calls.mono (known_any _) ?_
  rintro e w17 ⟨rfl, k17⟩
  have s17 := s16.trans k17
  try go_wp2_with fail
  refine hK.out _ _ (fun _ => s17) ?_
  clear hK K
  try simp only [Act.put, List.setIfInBounds_toArray, List.set_cons_zero, List.set_cons_succ]
  refine Gz.take (i := 28) (oi := { dst := some 78, op := Op.pick (Operand.tmp 76) (Operand.tmp 77) (Operand.const (Value.bool false)), type := 4, pos := _, after := _, guard := none }) (v := ?_) rfl (by kernel_rfl) (by kernel_rfl) (by kernel_rfl) (by kernel_rfl) (fun _ _ _ h => h) (Or.inl ⟨by rfl, ?hy28⟩) s17 ?_
  case hy28 => (intro W hSw; (try dsimp only at hSw); go_simp; try with_reducible rfl)
  try simp only [Act.put, List.setIfInBounds_toArray, List.set_cons_zero, List.set_cons_succ]
  refine Gz.take (i := 29) (oi := { dst := some 4, op := Op.assign (Operand.tmp 78), type := 4, pos := _, after := _, guard := none }) (v := ?_) rfl (by kernel_rfl) (by kernel_rfl) (by kernel_rfl) (by kernel_rfl) (fun _ _ _ h => h) (Or.inl ⟨by rfl, ?hy29⟩) s17 ?_
  case hy29 => (intro W hSw; (try dsimp only at hSw); go_simp; try with_reducible rfl)
  try simp only [Act.put, List.setIfInBounds_toArray, List.set_cons_zero, List.set_cons_succ]
  refine Gz.done (by kernel_rfl) ?_ _
  go_wp2_with fail
  go_ret
  exact ⟨rfl, KW.out.trans s17⟩

end Go.Proofs.Ytbooeabmpdpgpaa
