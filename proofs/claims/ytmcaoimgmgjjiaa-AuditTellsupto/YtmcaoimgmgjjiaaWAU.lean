/-
  Texts of the proofs, 47 of 52.
-/
import Derived.Test.YtmcaoimgmgjjiaaWAF
import Derived.Test.YtmcaoimgmgjjiaaWAT
import Derived.Test.YtmcaoimgmgjjiaaWC
namespace Go.Proofs.Ytmcaoimgmgjjiaa
open Go.RowKit

theorem own_ne {w : World} {b e sz n : Nat} {v : Value} {xs : List Value} (h : w.ownsRow b e sz v n xs) {B : Nat} {cs : Array Value} {t : TypeId} {fr : Nat × Nat} (hB : w.heap[B]? = some (.cells cs t fr)) (ht : t ≠ e) : v.ownBlock ≠ some B := by
  intro q
  rcases h.2 with ⟨hv, _⟩ | ⟨g, cap, cur, hv, _, hh, _⟩
  · rw [hv] at q; simp [Value.ownBlock] at q
  · rw [hv] at q; simp [Value.ownBlock] at q
    subst q
    rw [hB] at hh
    simp at hh
    exact ht hh.2.1
theorem own_two {w : World} {b1 e1 s1 n1 b2 e2 s2 n2 : Nat} {v1 v2 : Value} {xs ys : List Value} (h1 : w.ownsRow b1 e1 s1 v1 n1 xs) (h2 : w.ownsRow b2 e2 s2 v2 n2 ys) (he : e1 ≠ e2) (k : Nat) (hk : v1.ownBlock = some k) : v2.ownBlock ≠ some k := by
  rcases h1.2 with ⟨hv, _⟩ | ⟨g, cap, cur, hv, _, hh, _⟩
  · rw [hv] at hk; simp [Value.ownBlock] at hk
  · rw [hv] at hk; simp [Value.ownBlock] at hk
    subst hk
    exact own_ne h2 hh he
theorem raw_or (bs : List UInt8) (s : RS) (n : Nat) : (s.raw bs n).1.length = n ∨ (s.raw bs n).1 = [] := by
  by_cases h : (s.raw bs n).2.why = 0
  · exact .inl (raw_ok h).2.2
  · refine .inr ?_
    unfold RS.raw at *
    split
    · split
      · rename_i h1 h2
        rw [if_pos h1, if_pos h2] at h
        simp at h
      · rfl
    · rfl
theorem w_build1 {ops : Array Oper} {rest : List Oper} {a : Act} {w : World} {Q : Exit → Act → World → Prop} {d : Option Nat} {ty : TypeId} {p : String} {af : Array Edge} {T e : TypeId} {y : Operand} (hT : LinkT T e) (x : Li) (hz : x.h = zero32) (hy : a.eval y = .string ⟨x.t.toArray⟩)
    (h : wpList Try.prog ops Q rest (a.put d (.agg (lcell x).toArray)) w) :
    wpList Try.prog ops Q (⟨d, .build e #[(0, y)], ty, p, af, none⟩ :: rest) a w := by
  refine wpList_plain rfl fun K hK => ?_
  have hl : lcell x = .string ⟨x.t.toArray⟩ :: cells zero32 := by unfold lcell; rw [hz]
  rw [hl] at h
  have e1 : (Instr.build e #[(0, .string ⟨x.t.toArray⟩)]).run Try.prog w = .ok (.agg (.string ⟨x.t.toArray⟩ :: cells zero32).toArray) w := run_build w e _ _ (hT.built1 _)
  unfold Oper.wp execOp
  simp only [Sem.run_bind, Sem.run_pure, List.map_toArray, List.map_cons, List.map_nil, hy]
  simp [e1, Oper.upon, Result.andThen]
  exact hK _ _ (by simpa using h)
theorem step_copy {w W : World} {ops : Array Oper} {o : Oper} {a : Act} {K : Act → World → Prop} {Q : Exit → Act → World → Prop} {E : Prop} (hgd : o.guard = none) (sl y : Operand) (ho : o.op = .call { callee := .builtin .copy, args := #[sl, y], argTypes := #[25, 25] }) (v u : Value) (hs : a.eval sl = v) (hy : a.eval y = u) (n : Value) (ty : TypeId)
    (hr : (Builtin.copy_ #[25, 25] ty #[v, u]).run Try.prog w = .ok n W) (h : K (a.put o.dst n) W) (ht : o.type = ty := by rfl) : if Region.wanted o (yielded ops a.tmps) = true then Oper.wp Try.prog o a w K Q else E := by
  have hw : Region.wanted o (yielded ops a.tmps) = true := by simp [Region.wanted, hgd]
  rw [if_pos hw]
  subst ht
  unfold Oper.wp execOp
  simp only [ho, resolve, invoke, builtin, Sem.run_bind, Sem.run_pure, Result.andThen_ok, List.map_toArray, List.map_cons, List.map_nil, hs, hy, hr]
  exact h

set_option maxRecDepth 100000 in
set_option maxHeartbeats 4000000 in
theorem rdecode_any {w : World} {ao : Option Addr} {cap : Nat} {bs : List UInt8} (hh : Has w ao bs) (hn : ao = none → cap = 0) (hcap : bs.length ≤ cap) (hb : bs.length ≤ 2000000) :
    Calls Try.prog 35 #[.slice ao bs.length cap] w fun e w' => ∃ xs y z a' c', e = .returned (.tuple #[.slice a' xs.length c', .int .i64 y, .int .i64 z]) ∧ IsDec bs xs y z ∧ Lo 80 w' w.heap.size (.slice a' xs.length c') xs ∧ Kept (fun _ => True) w w' := by
  have HF : Hid (∀ ad, ao = some ad → 0 < bs.length → ad.block < w.heap.size) := fun ad e h0 => by
    subst e
    obtain ⟨ad', e', hc⟩ := hh h0
    injection e' with e'
    subst e'
    obtain ⟨b, off, spot⟩ := ad
    have hspot : spot = none := by simpa [Addr.add] using World.cell?_spot (hc 0 h0)
    subst hspot
    have hc0 := hc 0 h0
    rw [WideShapes.add_plain] at hc0
    exact World.block_lt_of_cell? w _ hc0
  have HG0 : Rg (w.alloc (.cells #[.slice ao bs.length cap, .int .i64 0, .bool false, .int .i64 0, .int .i64 0] 97)) w.heap.size ao cap bs ⟨0, 0⟩ := by
    refine ⟨⟨⟨0, 0, 0, heap_alloc_new w _, fun _ => rfl, fun h => absurd rfl h⟩, Nat.zero_le _, by omega⟩, hh.kept ((Kept.refl (fun _ => True) w).alloc _) (fun _ _ => trivial), hn, hcap, fun ad e h0 => ?_⟩
    have := HF.out ad e h0
    omega
  have CC := fcount_any 4096 HG0
  clear HG0 hh hn hcap
  go_enter Try.func35, Try.ntmps35
  go_wp2_with (go_at_call 66; (with_reducible refine Calls.mono CC ?_); rintro e w1 ⟨rfl, hg1, k1⟩)
  have HG1 : Hid (Rg w1 w.heap.size ao cap bs ((⟨0, 0⟩ : RS).count bs 4096).2) := hg1
  have K1 : Hid (Kept (fun _ => True) w w1) := ((Kept.refl _ _).alloc _).then k1 (fun i hi _ => by omega)
  have HS0 : Hid (Sofar bs ((⟨0, 0⟩ : RS).count bs 4096).1 ((⟨0, 0⟩ : RS).count bs 4096).2 []) := Sofar.start bs
  clear hg1 k1 CC
  obtain ⟨B, hB⟩ : ∃ B, B = w.heap.size := ⟨_, rfl⟩
  rw [← hB] at HG1 ⊢
  have HB : Hid (B = w.heap.size) := hB
  clear hB
  have hm0 : ((⟨0, 0⟩ : RS).count bs 4096).1 < 4294967296 := RS.count_lt _ _ _
  generalize ((⟨0, 0⟩ : RS).count bs 4096).1 = m0 at *
  generalize ((⟨0, 0⟩ : RS).count bs 4096).2 = s0 at *
  go_loopw [6, 7, 8] (fun t v7 v8 wr => ∃ (m : Nat) (s : RS) (ys : List Li) (ps : List Nat) (a7 : Option Addr) (c7 : Nat) (a8 : Option Addr) (c8 : Nat), m < 4294967296 ∧ t = .int .i64 m ∧ v7 = .slice a7 ys.length c7 ∧ v8 = .slice a8 ps.length c8 ∧ Sofar bs m s ys ∧ ps = plc ys ∧ Rg wr B ao cap bs s ∧ Lo 80 wr w.heap.size (.slice a7 ys.length c7) ys ∧ Its wr w.heap.size (.slice a8 ps.length c8) ps ∧ Kept (fun _ => True) w wr) (fun t _ _ _ => (intOf t).toNat)
  case atStart => exact ⟨m0, s0, [], [], none, 0, none, 0, hm0, rfl, rfl, rfl, HS0.out, rfl, HG1.out, Lo.nil _ _ _, Its.nil _ _, K1.out⟩
  case round =>
    obtain ⟨m, s, ys, ps, a7, c7, a8, c8, hmb, rfl, rfl, rfl, hS, hps, hg, ho, hi, kr⟩ := hrel
    have HSo : Hid (Sofar bs m s ys) := hS
    have HPS : Hid (ps = plc ys) := hps
    have HPL : Hid (ps.length = ys.length) := by show _ = _; rw [hps, plc_length]
    have HPV : Hid (∀ k (hk : k < ps.length), ((ps[k] : Nat) : Int) = ((encL (ys.take k)).length : Nat)) := fun k hk => by
      subst hps
      rw [plc_get]
    have HSh : Hid (∀ y ∈ ys, y.t.length ≤ 4000) := hS.short
    have hfew := hS.few
    have HG : Hid (Rg wr B ao cap bs s) := hg
    have HO : Hid (Lo 80 wr w.heap.size (.slice a7 ys.length c7) ys) := ho
    have HI : Hid (Its wr w.heap.size (.slice a8 ps.length c8) ps) := hi
    have KR : Hid (Kept (fun _ => True) w wr) := kr
    obtain ⟨at_, y1, z1, hh5, hp, _⟩ := hg.rf.self
    obtain ⟨_, c1, c2, _, _, _⟩ := five_cell hh5
    have hBl := hg.rf.lt
    clear hS hps hg ho hi kr hh5
    by_cases hm : m = 0
    · have HD : Hid (rdAll bs = (ys, s)) := HSo.out.done (.inl hm)
      have i0 : ¬ (0 : Int) < (m : Int) := by omega
      have CE := fend_any (HG.out.rf)
      replace CE := fun (_ : Unit) => CE
      clear hm HSo HPS c1 c2 hp
      by_cases he : (s.end_ bs).1 = 0
      · generalize hq1 : (s.end_ bs).1 = e1 at *
        subst he
        have HE : Hid ((s.end_ bs).1 = 0) := hq1
        clear hq1
        generalize (s.end_ bs).2 = e2 at *
        have cc := fun (W : World) (c : Nat) (k : Kept (fun _ => True) wr W) => rcheck_any (w := W) (cap := c) (HO.out.view.all k) (by omega) (fun x hx => by have := HSh.out x hx; omega)
        go_wp2_with (go_at_call 48; (with_reducible refine Calls.mono (CE ()) ?_); rintro e w7 ⟨rfl, n7, rfl⟩)
        (with_reducible refine Calls.mono (cc _ _ ((Kept.refl _ _).drewN n7)) ?_)
        rintro e w8 ⟨n, rfl, hn8, k8⟩
        have hnl := hn8.le
        have HN8 : Hid (IsChk ys n) := hn8
        clear hn8
        have k8' : Kept (fun _ => True) wr w8 := ((Kept.refl _ _).drewN n7).trans k8
        have K8 : Hid (Kept (fun _ => True) w w8) := KR.out.trans k8'
        have O8 : Hid (Lo 80 w8 w.heap.size (.slice a7 ys.length c7) ys) := HO.out.all k8'
        have I8 : Hid (Its w8 w.heap.size (.slice a8 ps.length c8) ps) := HI.out.kept k8' (fun _ _ => trivial)
        clear k8 k8' cc HO HI KR CE
        by_cases hlt : n < ys.length
        · have i1 : (n : Int) < (ys.length : Int) := by omega
          have i0 : (0 : Int) ≤ (n : Int) := by omega
          have i2 : (n : Int) < (ps.length : Int) := by have := HPL.out; omega
          obtain ⟨g8, rfl, hc8⟩ := I8.out.at n (by have := HPL.out; omega)
          have hg8 : g8 < w8.heap.size := World.block_lt_of_cell? w8 _ hc8
          have ct : ∀ W, Kept (fun _ => True) w8 W → W.cell? ⟨g8, n, none⟩ = some (.int .i64 ((ps[n]'(by have := HPL.out; omega) : Nat) : Int)) := fun W hW => (kept_cell hW hg8 trivial).trans hc8
          have HV : Hid (((ps[n]'(by have := HPL.out; omega) : Nat) : Int) = ((encL (ys.take n)).length : Nat)) := HPV.out n (by have := HPL.out; omega)
          generalize ((ps[n]'(by have := HPL.out; omega) : Nat) : Int) = pv at *
          clear hc8
          go_wp2_with fail
          refine Gz.begin (fun W => Kept (fun _ => True) w8 W) (fun _ => false) (by kernel_rfl) ?_
          refine Gz.tk (i := 0) (oi := ⟨some 63, .move (.tmp 8), 22, _, _, none⟩) (v := ?_) rfl (by kernel_rfl) (fun _ _ _ h => h) (Or.inl ⟨by rfl, ?hy0⟩) (Kept.refl _ _).drew ?_
          case hy0 => (intro W hS; (try dsimp only at hS); go_simp; try with_reducible rfl)
          try simp only [Act.put, lyA, ly0, ly1]
          refine Gz.tk (i := 1) (oi := ⟨some 64, .move (.tmp 12), 3, _, _, none⟩) (v := ?_) rfl (by kernel_rfl) (fun _ _ _ h => h) (Or.inl ⟨by rfl, ?hy1⟩) (Kept.refl _ _).drew ?_
          case hy1 => (intro W hS; (try dsimp only at hS); go_simp; try with_reducible rfl)
          try simp only [Act.put, lyA, ly0, ly1]
          refine Gz.tk (i := 2) (oi := ⟨some 65, .indexAddr 22 (.tmp 63) (.tmp 64), 0, _, _, none⟩) (v := ?_) rfl (by kernel_rfl) (fun _ _ _ h => h) (Or.inl ⟨by rfl, ?hy2⟩) (Kept.refl _ _).drew ?_
          case hy2 => (intro W hS; (try dsimp only at hS); go_simp; try with_reducible rfl)
          try simp only [Act.put, lyA, ly0, ly1]
          refine Gz.tk (i := 3) (oi := ⟨some 66, .load 3 (.tmp 65), 3, _, _, none⟩) (v := ?_) rfl (by kernel_rfl) (fun _ _ _ h => h) (Or.inl ⟨by rfl, ?hy3⟩) (Kept.refl _ _).drew ?_
          case hy3 => (intro W hS; (try dsimp only at hS); go_simp; try with_reducible rfl)
          try simp only [Act.put, lyA, ly0, ly1]
          refine Gz.tk (i := 4) (oi := ⟨some 2, .assign (.const (Value.slice none 0 0)), 65, _, _, none⟩) (v := ?_) rfl (by kernel_rfl) (fun _ _ _ h => h) (Or.inl ⟨by rfl, ?hy4⟩) (Kept.refl _ _).drew ?_
          case hy4 => (intro W hS; (try dsimp only at hS); go_simp; try with_reducible rfl)
          try simp only [Act.put, lyA, ly0, ly1]
          refine Gz.tk (i := 5) (oi := ⟨some 3, .assign (.const (Value.int IntKind.i64 12)), 3, _, _, none⟩) (v := ?_) rfl (by kernel_rfl) (fun _ _ _ h => h) (Or.inl ⟨by rfl, ?hy5⟩) (Kept.refl _ _).drew ?_
          case hy5 => (intro W hS; (try dsimp only at hS); go_simp; try with_reducible rfl)
          try simp only [Act.put, lyA, ly0, ly1]
          refine Gz.tk (i := 6) (oi := ⟨some 4, .assign (.tmp 66), 3, _, _, none⟩) (v := ?_) rfl (by kernel_rfl) (fun _ _ _ h => h) (Or.inl ⟨by rfl, ?hy6⟩) (Kept.refl _ _).drew ?_
          case hy6 => (intro W hS; (try dsimp only at hS); go_simp; try with_reducible rfl)
          try simp only [Act.put, lyA, ly0, ly1]
          refine Gz.done (by kernel_rfl) ?_ _
          go_wp2_with fail
          go_ret3
          refine ⟨[], 12, pv, none, 0, rfl, ⟨fun h => ?_, fun _ => ⟨n, ?_, fun _ => ⟨rfl, rfl, ?_⟩, fun h => ?_⟩⟩, Lo.nil _ _ _, K8.out.drew⟩
          · rw [HD.out] at h; exact absurd HE.out h
          · rw [HD.out]; exact HN8.out
          · rw [HD.out]; exact HV.out
          · rw [HD.out] at h; simp only at h; omega
        · have i1 : ¬ (n : Int) < (ys.length : Int) := by omega
          have hne : n = ys.length := by omega
          go_wp2_with fail
          go_ret3
          refine ⟨ys, 0, 0, a7, c7, rfl, ⟨fun h => ?_, fun _ => ⟨n, ?_, fun h => ?_, fun _ => ⟨?_, rfl, rfl⟩⟩⟩, O8.out, K8.out⟩
          · rw [HD.out] at h; exact absurd HE.out h
          · rw [HD.out]; exact HN8.out
          · rw [HD.out] at h; simp only at h; omega
          · rw [HD.out]
      · have HE : Hid ((s.end_ bs).1 ≠ 0) := he
        have q : ((s.end_ bs).1 == 0) = false := by simp [he]
        have HW : Hid ((rdAll bs).2.end_ bs = s.end_ bs) := by (show _ = _); rw [HD.out]
        clear he
        go_wp2_with (go_at_call 48; (with_reducible refine Calls.mono (CE ()) ?_); rintro e w7 ⟨rfl, n7, rfl⟩)
        go_ret3
        refine ⟨[], _, _, none, 0, rfl, ⟨fun _ => ⟨rfl, ?_, ?_⟩, fun h => ?_⟩, Lo.nil _ _ _, KR.out.drewN n7⟩
        · rw [HW.out]
        · rw [HW.out]
        · rw [HW.out] at h; exact absurd h HE.out
    · obtain ⟨m', rfl⟩ : ∃ m', m = m' + 1 := ⟨m - 1, by omega⟩
      have i0 : (0 : Int) < ((m' + 1 : Nat) : Int) := by omega
      by_cases hw : s.why = 0
      · have hdec : decide (s.why ≠ 0) = false := by simp [hw]
        rw [hdec] at c2
        have hat := hp hw
        subst hat
        have HN : Hid (Sofar bs m' (rdOne bs s).2 (ys ++ [(rdOne bs s).1])) := HSo.out.next hw
        have hpos4 := HSo.out.at_ hw
        have HPN : Hid (ps ++ [s.pos] = plc (ys ++ [(rdOne bs s).1])) := by (show _ = _); rw [plc_snoc, HPS.out, hpos4]
        obtain ⟨x0, hx0⟩ : ∃ x0 : Li, x0 = ⟨(s.text bs 4000).1, zero32, rfl⟩ := ⟨_, rfl⟩
        have tx : (s.text bs 4000).1 = x0.t := by rw [hx0]
        have HZ0 : Hid (x0.h = zero32) := by (show _ = _); rw [hx0]
        have HT0 : Hid ((rdOne bs s).1.t = x0.t) := tx
        have HH0 : Hid ((rdOne bs s).1.h = pad32 ((s.text bs 4000).2.raw bs 32).1) := rfl
        have HS2 : ((s.text bs 4000).2.raw bs 32).2 = (rdOne bs s).2 := rfl
        have HLR : Hid (((s.text bs 4000).2.raw bs 32).1.length = 32 ∨ ((s.text bs 4000).2.raw bs 32).1 = []) := raw_or _ _ _
        have CT : ∀ W, Rg W B ao cap bs s → Calls Try.prog 47 #[.pointer (some ⟨B, 0, none⟩), .int .i64 4000] W fun e w' => e = .returned (.string ⟨x0.t.toArray⟩) ∧ Rg w' B ao cap bs (s.text bs 4000).2 ∧ Kept (· ≠ B) W w' := fun W h => by
          have := ftext_any 4000 h
          rw [tx] at this
          exact this
        have CR : ∀ W, Rg W B ao cap bs (s.text bs 4000).2 → Calls Try.prog 67 #[.pointer (some ⟨B, 0, none⟩), .int .i64 32] W fun e w' => ∃ a6 c6, e = .returned (.slice a6 ((s.text bs 4000).2.raw bs 32).1.length c6) ∧ Has w' a6 ((s.text bs 4000).2.raw bs 32).1 ∧ Rg w' B ao cap bs ((s.text bs 4000).2.raw bs 32).2 ∧ Kept (· ≠ B) W w' := fun W h => by
          refine (fraw_any 32 h.rf h.has h.nil h.cap (by decide)).mono ?_
          rintro e w' ⟨r, rfl, g1, g2, g3⟩
          obtain ⟨ro, rc, rfl⟩ := own_shape g1
          exact ⟨ro, rc, rfl, own_has g1, h.mine g2 g3, g3⟩
        rw [HS2] at CR
        clear tx hx0 HS2
        generalize (rdOne bs s).2 = s2 at *
        generalize (rdOne bs s).1 = x at *
        generalize ((s.text bs 4000).2.raw bs 32).1 = RW at *
        generalize (s.text bs 4000).2 = s1 at *
        obtain ⟨_, _, _, hh5, _, _⟩ := HG.out.rf.self
        have hB8 : (Value.slice a8 ps.length c8).ownBlock ≠ some B := own_ne HI.out hh5 (by decide)
        have hB7 : (Value.slice a7 ys.length c7).ownBlock ≠ some B := own_ne HO.out hh5 (by decide)
        have h78 := own_two HO.out HI.out (by decide)
        have hge8 : ∀ k, (Value.slice a8 ps.length c8).ownBlock = some k → w.heap.size ≤ k := fun k hk => (World.ownsRow.lt HI.out k hk).1
        have hge7 : ∀ k, (Value.slice a7 ys.length c7).ownBlock = some k → w.heap.size ≤ k ∧ k < wr.heap.size := fun k hk => World.ownsRow.lt HO.out k hk
        have HZ1 : Hid (w.heap.size ≤ (wr.alloc (.cells #[.int .i64 (s.pos : Nat)] 3)).heap.size) := Nat.le_trans KR.out.size ((Kept.refl (fun _ => True) wr).alloc _).size
        have HPM : Hid (ps.length ≤ 1099511627776) := by (show _ ≤ _); have := HPL.out; omega
        have hfr : ∀ (p : Nat → Prop), (∀ y, y < w.heap.size → p y) → ∀ ad, ao = some ad → 0 < bs.length → p ad.block := fun p h ad e h0 => h _ (HF.out ad e h0)
        have hHR : Hid (Kept (fun _ => True) w wr) := KR.out
        have HB8 : Hid ((Value.slice a8 ps.length c8).ownBlock ≠ some B) := hB8
        have HQ8 : Hid (∀ y, y < w.heap.size → (Value.slice a8 ps.length c8).ownBlock ≠ some y) := fun y hy e => by have := hge8 y e; omega
        clear hh5 HSo HPS hdec hm hw hp hpos4
        go_wp2_with (first
          | (at_builtin; refine wpList_append_int rfl (.tmp 29) (.tmp 34) rfl w.heap.size (.slice a8 ps.length c8) ps rfl (HI.out.fresh _) HZ1.out _ rfl s.pos (0, 0) (heap_alloc_new wr _) HPM.out ?_; intro b8 d8 w2 hi2 hg2; have k2 : Kept (fun y => (Value.slice a8 ps.length c8).ownBlock ≠ some y) wr w2 := ((Kept.refl _ _).alloc _).grown hg2 (fun _ _ e h => h e); have HI2 : Hid (Its w2 w.heap.size (.slice b8 (ps.length + 1) d8) (ps ++ [s.pos])) := hi2; clear hi2 hg2)
          | (go_at_call 47; (with_reducible refine Calls.mono (CT _ (HG.out.kept k2 HB8.out (hfr _ HQ8.out))) ?_); rintro e w3 ⟨rfl, hg3, k3⟩; have HG3 : Hid (Rg w3 B ao cap bs s1) := hg3; clear hg3)
          | ((with_reducible apply w_build1 (d := some 38) linkR x0 HZ0.out); (case hy => rfl))
          | ((with_reducible refine w_allocL (d := some 9) linkR ?_); intro w4 a9 k4 s4)
          | ((with_reducible apply w_storeL (x := .tmp 9) linkR (b := w3.heap.size) (z := x0) (old := zeroLi)); (case hx => rfl); (case hy => rfl); (case ha => exact a9); intro w5 a9' k5 s5))
        have hz2 := k2.size
        have hz3 := k3.size
        have hzr := KR.out.size
        obtain ⟨P, hP⟩ : ∃ P, P = w3.heap.size := ⟨_, rfl⟩
        rw [← hP] at a9' k5 ⊢
        have hPB : P ≠ B := by omega
        have hBP : B ≠ P := by omega
        have hwP : w.heap.size ≤ P := by omega
        have AP : Hid (Ar w5 P 80 (lcell x0)) := a9'
        have K35 : Hid (Kept (· ≠ P) w3 w5) := (k4.mono (fun _ _ _ => trivial)).trans k5
        have RG5 : Hid (Rg w5 B ao cap bs s1) := HG3.out.kept K35.out hBP (hfr (· ≠ P) (fun y hy => by show y ≠ P; omega))
        have hPr : wr.heap.size ≤ P := by omega
        have hP2 : w2.heap.size ≤ P := by omega
        have hsl := fun (w0 : World) => slice_at P 1 w0
        clear s4 s5 a9 a9' k4 k5 hP CT
        refine Gz.begin (fun W => Kept (fun y => y ≠ B ∧ y ≠ P) w5 W) (fun _ => false) (by kernel_rfl) ?_
        refine Gz.tk (i := 0) (oi := ⟨some 39, .fieldAddr 80 (.tmp 9) 1, 0, _, _, none⟩) (v := ?_) rfl (by kernel_rfl) (fun _ _ _ h => h) (Or.inl ⟨by rfl, ?hy0⟩) (Kept.refl _ _).drew ?_
        case hy0 => (intro W hS; (try dsimp only at hS); go_simp; try with_reducible rfl)
        try simp only [Act.put, lyA, ly0, ly1]
        refine Gz.tk (i := 1) (oi := ⟨some 40, .slice 78 (.tmp 39) none none none, 25, _, _, none⟩) (v := ?_) rfl (by kernel_rfl) (fun _ _ _ h => h) (Or.inl ⟨by rfl, ?hy1⟩) (Kept.refl _ _).drew ?_
        case hy1 => (intro W hS; (try dsimp only at hS); go_simp; try with_reducible rfl)
        try simp only [Act.put, lyA, ly0, ly1]
        refine Gz.tk (i := 2) (oi := ⟨some 41, .move (.tmp 5), 95, _, _, none⟩) (v := ?_) rfl (by kernel_rfl) (fun _ _ _ h => h) (Or.inl ⟨by rfl, ?hy2⟩) (Kept.refl _ _).drew ?_
        case hy2 => (intro W hS; (try dsimp only at hS); go_simp; try with_reducible rfl)
        try simp only [Act.put, lyA, ly0, ly1]
        refine Gz.one (i := 3) (o := ⟨some 42, .call { callee := .value (.func 67), args := #[.tmp 41, .const (Value.int IntKind.i64 32)], argTypes := #[95, 3] }, 25, _, _, none⟩) (by kernel_rfl) rfl (fun K hK => ?_)
        go_simp
        with_reducible refine Calls.mono (CR _ (RG5.out.kept (Kept.refl (fun _ => True) w5).drew trivial (fun _ _ _ => trivial))) ?_
        rintro e w6 ⟨a6, c6, rfl, hh6, hg6, k6⟩
        have s6 : Kept (fun y => y ≠ B ∧ y ≠ P) w5 w6 := ((Kept.refl _ _).drew).trans (k6.mono (fun _ _ h => h.1))
        have A6 : Ar w6 P 80 (lcell x0) := (AP.out.kept (Kept.refl (fun _ => True) w5).drew trivial).kept k6 hPB
        have HG6 : Hid (Rg w6 B ao cap bs s2) := hg6
        try go_wp2_with fail
        refine hK.out _ _ (fun _ => s6) ?_
        clear hK K
        try simp only [Act.put, lyA, ly0, ly1]
        obtain ⟨w7, n7, hrun7, a7x, k7, z7⟩ := copy_head w6 P 80 x0 x RW a6 c6 A6 HZ0.out HT0.out HH0.out HLR.out hh6
        refine Gz.one (i := 4) (o := ⟨some 43, .call { callee := .builtin Builtin.copy, args := #[.tmp 40, .tmp 42], argTypes := #[25, 25] }, 3, _, _, none⟩) (by kernel_rfl) rfl (fun K hK => ?_)
        refine step_copy rfl (.tmp 40) (.tmp 42) rfl _ _ rfl rfl _ _ hrun7 ?_
        refine hK.out _ _ (fun _ => s6.trans (k7.mono (fun _ _ h => h.2))) ?_
        clear hK K
        try simp only [Act.put, lyA, ly0, ly1]
        refine Gz.done (by kernel_rfl) ?_ _
        have K57 : Hid (Kept (fun y => y ≠ B ∧ y ≠ P) w5 w7) := s6.trans (k7.mono (fun _ _ h => h.2))
        have K27 : Hid (Kept (fun y => y ≠ B ∧ y ≠ P) w2 w7) := ((k3.mono (fun _ _ h => h.1)).trans (K35.out.mono (fun _ _ h => h.2))).trans K57.out
        have KR7 : Hid (Kept (fun y => (Value.slice a8 ps.length c8).ownBlock ≠ some y ∧ y ≠ B ∧ y ≠ P) wr w7) := (k2.mono (fun _ _ h => h.1)).trans (K27.out.mono (fun _ _ h => h.2))
        have O7 : Hid (Lo 80 w7 w.heap.size (.slice a7 ys.length c7) ys) := HO.out.kept KR7.out (fun k hk => ⟨h78 k hk, fun e => hB7 (by rw [hk, e]), by have := (hge7 k hk).2; omega⟩)
        have I7 : Hid (Its w7 w.heap.size (.slice b8 (ps.length + 1) d8) (ps ++ [s.pos])) := HI2.out.kept K27.out (fun k hk => ⟨fun e => by
          subst e
          obtain ⟨_, _, _, hh5, _, _⟩ := (HG.out.kept k2 HB8.out (hfr _ HQ8.out)).rf.self
          exact own_ne HI2.out hh5 (by decide) hk, by have := (World.ownsRow.lt HI2.out k hk).2; omega⟩)
        have G7 : Hid (Rg w7 B ao cap bs s2) := HG6.out.kept k7 hBP (hfr (· ≠ P) (fun y hy => by show y ≠ P; omega))
        have A7 : Hid (Ar w7 P 80 (lcell x)) := a7x
        have hz7 : Hid (w.heap.size ≤ (w7.alloc (.cells (lcell x).toArray 80)).heap.size) := Nat.le_trans (Nat.le_trans hzr KR7.out.size) ((Kept.refl (fun _ => True) w7).alloc _).size
        have KW7 : Hid (Kept (fun _ => True) w w7) := KR.out.then KR7.out (fun i hi _ => ⟨fun e => by have := hge8 i e; omega, by have := HB.out; omega, by omega⟩)
        clear K57 K27 KR7 s6 k7 a7x z7 hrun7 HG6 HI2 k2 k3 hsl CR K35 RG5 AP A6 HG3 HO HI hh6 hg6 k6
        have HM1 : Hid (ys.length + [x].length ≤ 3000000) := by (show _ ≤ _); rw [List.length_singleton]; omega
        go_wp2_with (first
          | ((with_reducible apply w_loadL (d := some 45) linkR (b := P) (o := 0) (x := x)); (case hx => rfl); (case hr => exact A7.out.range))
          | ((with_reducible apply w_sliceL (d := some 46) linkR x); (case hy => rfl))
          | (at_builtin; refine wpList_append_links linkR rfl (.tmp 44) (.tmp 46) rfl w.heap.size (.slice a7 ys.length c7) ys rfl (O7.out.all ((Kept.refl _ _).alloc _)) hz7.out (some ⟨w7.heap.size, 0, none⟩) 1 1 [x] rfl rfl (by simp) (lv_one (heap_alloc_new w7 _)) HM1.out (ys.length + 1) rfl ?_; intro a10 c10 w10 ho10 hg10 at10; have k10 : Kept (fun y => (Value.slice a7 ys.length c7).ownBlock ≠ some y) w7 w10 := ((Kept.refl _ _).alloc _).grown hg10 (fun _ _ e h => h e); have HO10 : Hid (Lo 80 w10 w.heap.size (.slice a10 (ys.length + 1) c10) (ys ++ [x])) := ho10; clear ho10 hg10 at10))
        go_roundw
        case rel =>
          refine ⟨m', s2, ys ++ [x], ps ++ [s.pos], a10, c10, b8, d8, by omega, by go_num, by rw [List.length_append]; rfl, by rw [List.length_append]; rfl, HN.out, HPN.out, G7.out.kept k10 hB7 (hfr (fun y => (Value.slice a7 ys.length c7).ownBlock ≠ some y) (fun y hy e => by have := (hge7 y e).1; omega)), ?_, ?_, ?_⟩
          · rw [List.length_append]; exact HO10.out
          · rw [List.length_append]
            exact I7.out.kept k10 (fun k hk => own_two I7.out O7.out (by decide) k hk)
          · exact KW7.out.then k10 (fun i hi _ e => by have := (hge7 i e).1; omega)
        case measure => simp [intOf]
      · have HD : Hid (rdAll bs = (ys, s)) := HSo.out.done (.inr hw)
        have hdec : decide (s.why ≠ 0) = true := by simpa using hw
        rw [hdec] at c2
        have CE := fend_any (HG.out.rf)
        replace CE := fun (_ : Unit) => CE
        clear hm HSo HPS c1 hp hw hdec
        by_cases he : (s.end_ bs).1 = 0
        · generalize hq1 : (s.end_ bs).1 = e1 at *
          subst he
          have HE : Hid ((s.end_ bs).1 = 0) := hq1
          clear hq1
          generalize (s.end_ bs).2 = e2 at *
          have cc := fun (W : World) (c : Nat) (k : Kept (fun _ => True) wr W) => rcheck_any (w := W) (cap := c) (HO.out.view.all k) (by omega) (fun x hx => by have := HSh.out x hx; omega)
          go_wp2_with (go_at_call 48; (with_reducible refine Calls.mono (CE ()) ?_); rintro e w7 ⟨rfl, n7, rfl⟩)
          (with_reducible refine Calls.mono (cc _ _ ((Kept.refl _ _).drewN n7)) ?_)
          rintro e w8 ⟨n, rfl, hn8, k8⟩
          have hnl := hn8.le
          have HN8 : Hid (IsChk ys n) := hn8
          clear hn8
          have k8' : Kept (fun _ => True) wr w8 := ((Kept.refl _ _).drewN n7).trans k8
          have K8 : Hid (Kept (fun _ => True) w w8) := KR.out.trans k8'
          have O8 : Hid (Lo 80 w8 w.heap.size (.slice a7 ys.length c7) ys) := HO.out.all k8'
          have I8 : Hid (Its w8 w.heap.size (.slice a8 ps.length c8) ps) := HI.out.kept k8' (fun _ _ => trivial)
          clear k8 k8' cc HO HI KR CE
          by_cases hlt : n < ys.length
          · have i1 : (n : Int) < (ys.length : Int) := by omega
            have i0 : (0 : Int) ≤ (n : Int) := by omega
            have i2 : (n : Int) < (ps.length : Int) := by have := HPL.out; omega
            obtain ⟨g8, rfl, hc8⟩ := I8.out.at n (by have := HPL.out; omega)
            have hg8 : g8 < w8.heap.size := World.block_lt_of_cell? w8 _ hc8
            have ct : ∀ W, Kept (fun _ => True) w8 W → W.cell? ⟨g8, n, none⟩ = some (.int .i64 ((ps[n]'(by have := HPL.out; omega) : Nat) : Int)) := fun W hW => (kept_cell hW hg8 trivial).trans hc8
            have HV : Hid (((ps[n]'(by have := HPL.out; omega) : Nat) : Int) = ((encL (ys.take n)).length : Nat)) := HPV.out n (by have := HPL.out; omega)
            generalize ((ps[n]'(by have := HPL.out; omega) : Nat) : Int) = pv at *
            clear hc8
            go_wp2_with fail
            refine Gz.begin (fun W => Kept (fun _ => True) w8 W) (fun _ => false) (by kernel_rfl) ?_
            refine Gz.tk (i := 0) (oi := ⟨some 63, .move (.tmp 8), 22, _, _, none⟩) (v := ?_) rfl (by kernel_rfl) (fun _ _ _ h => h) (Or.inl ⟨by rfl, ?hy0⟩) (Kept.refl _ _).drew ?_
            case hy0 => (intro W hS; (try dsimp only at hS); go_simp; try with_reducible rfl)
            try simp only [Act.put, lyA, ly0, ly1]
            refine Gz.tk (i := 1) (oi := ⟨some 64, .move (.tmp 12), 3, _, _, none⟩) (v := ?_) rfl (by kernel_rfl) (fun _ _ _ h => h) (Or.inl ⟨by rfl, ?hy1⟩) (Kept.refl _ _).drew ?_
            case hy1 => (intro W hS; (try dsimp only at hS); go_simp; try with_reducible rfl)
            try simp only [Act.put, lyA, ly0, ly1]
            refine Gz.tk (i := 2) (oi := ⟨some 65, .indexAddr 22 (.tmp 63) (.tmp 64), 0, _, _, none⟩) (v := ?_) rfl (by kernel_rfl) (fun _ _ _ h => h) (Or.inl ⟨by rfl, ?hy2⟩) (Kept.refl _ _).drew ?_
            case hy2 => (intro W hS; (try dsimp only at hS); go_simp; try with_reducible rfl)
            try simp only [Act.put, lyA, ly0, ly1]
            refine Gz.tk (i := 3) (oi := ⟨some 66, .load 3 (.tmp 65), 3, _, _, none⟩) (v := ?_) rfl (by kernel_rfl) (fun _ _ _ h => h) (Or.inl ⟨by rfl, ?hy3⟩) (Kept.refl _ _).drew ?_
            case hy3 => (intro W hS; (try dsimp only at hS); go_simp; try with_reducible rfl)
            try simp only [Act.put, lyA, ly0, ly1]
            refine Gz.tk (i := 4) (oi := ⟨some 2, .assign (.const (Value.slice none 0 0)), 65, _, _, none⟩) (v := ?_) rfl (by kernel_rfl) (fun _ _ _ h => h) (Or.inl ⟨by rfl, ?hy4⟩) (Kept.refl _ _).drew ?_
            case hy4 => (intro W hS; (try dsimp only at hS); go_simp; try with_reducible rfl)
            try simp only [Act.put, lyA, ly0, ly1]
            refine Gz.tk (i := 5) (oi := ⟨some 3, .assign (.const (Value.int IntKind.i64 12)), 3, _, _, none⟩) (v := ?_) rfl (by kernel_rfl) (fun _ _ _ h => h) (Or.inl ⟨by rfl, ?hy5⟩) (Kept.refl _ _).drew ?_
            case hy5 => (intro W hS; (try dsimp only at hS); go_simp; try with_reducible rfl)
            try simp only [Act.put, lyA, ly0, ly1]
            refine Gz.tk (i := 6) (oi := ⟨some 4, .assign (.tmp 66), 3, _, _, none⟩) (v := ?_) rfl (by kernel_rfl) (fun _ _ _ h => h) (Or.inl ⟨by rfl, ?hy6⟩) (Kept.refl _ _).drew ?_
            case hy6 => (intro W hS; (try dsimp only at hS); go_simp; try with_reducible rfl)
            try simp only [Act.put, lyA, ly0, ly1]
            refine Gz.done (by kernel_rfl) ?_ _
            go_wp2_with fail
            go_ret3
            refine ⟨[], 12, pv, none, 0, rfl, ⟨fun h => ?_, fun _ => ⟨n, ?_, fun _ => ⟨rfl, rfl, ?_⟩, fun h => ?_⟩⟩, Lo.nil _ _ _, K8.out.drew⟩
            · rw [HD.out] at h; exact absurd HE.out h
            · rw [HD.out]; exact HN8.out
            · rw [HD.out]; exact HV.out
            · rw [HD.out] at h; simp only at h; omega
          · have i1 : ¬ (n : Int) < (ys.length : Int) := by omega
            have hne : n = ys.length := by omega
            go_wp2_with fail
            go_ret3
            refine ⟨ys, 0, 0, a7, c7, rfl, ⟨fun h => ?_, fun _ => ⟨n, ?_, fun h => ?_, fun _ => ⟨?_, rfl, rfl⟩⟩⟩, O8.out, K8.out⟩
            · rw [HD.out] at h; exact absurd HE.out h
            · rw [HD.out]; exact HN8.out
            · rw [HD.out] at h; simp only at h; omega
            · rw [HD.out]
        · have HE : Hid ((s.end_ bs).1 ≠ 0) := he
          have q : ((s.end_ bs).1 == 0) = false := by simp [he]
          have HW : Hid ((rdAll bs).2.end_ bs = s.end_ bs) := by (show _ = _); rw [HD.out]
          clear he
          go_wp2_with (go_at_call 48; (with_reducible refine Calls.mono (CE ()) ?_); rintro e w7 ⟨rfl, n7, rfl⟩)
          go_ret3
          refine ⟨[], _, _, none, 0, rfl, ⟨fun _ => ⟨rfl, ?_, ?_⟩, fun h => ?_⟩, Lo.nil _ _ _, KR.out.drewN n7⟩
          · rw [HW.out]
          · rw [HW.out]
          · rw [HW.out] at h; exact absurd h HE.out

end Go.Proofs.Ytmcaoimgmgjjiaa
