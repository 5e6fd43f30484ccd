/-
  Take, Gaps.
-/
import Derived.Test.YtmejeiadfcdogaaL2
import Derived.Test.YtmejeiadfcdogaaWStr
import Derived.Test.YtmejeiadfcdogaaPInts
namespace Go.Proofs.Ytmejeiadfcdogaa
open Go.RowKit

section
variable {w : World} {L M n b t : Nat} {f : Vals} {x : Lo}

theorem own_ge {w : World} {b e sz n : Nat} {v : Value} {xs : List Value} (h : w.ownsRow b e sz v n xs) {k : Nat} (hk : v.ownBlock = some k) : b ≤ k := by
  rcases h.2 with ⟨rfl, _⟩ | ⟨g, cap, cur, rfl, hb, _⟩
  · simp [Value.ownBlock] at hk
  · simp [Value.ownBlock] at hk
    omega

set_option maxRecDepth 100000 in
set_option maxHeartbeats 2000000 in
theorem take_any (h : Lm w L M n x) :
    Calls Try.prog 15 #[.pointer (some ⟨L, 0, none⟩)] w fun e w' => ∃ (m : Nat) (v : Value), e = .returned v ∧ IsNext x.f x.taken m ∧ Txs w' w.heap.size v (vals x.f x.taken m) ∧ Lm w' L M n { x with taken := m } ∧ Kept (fun y => y ≠ L ∧ y ≠ M) w w' := by
  have H : Hid (Lm w L M n x) := h
  clear h
  go_enter Try.func15, Try.ntmps15
  go_wp2_with fail
  refine Calls.mono (next_any H.out) ?_
  rintro e w0 ⟨m, rfl, hnx, k0⟩
  have HN : Hid (IsNext x.f x.taken m) := hnx
  have hm1 : x.taken ≤ m := hnx.le
  have hm2 : m ≤ 512 := H.out.ok.next_le H.out.ok.most hnx
  have H0 : Hid (Lm w0 L M n x) := H.out.all k0
  clear hnx
  go_wp2_with fail
  go_loopw [3] (fun u wr => ∃ (k : Nat) (ao : Option Addr) (cap : Nat), x.taken ≤ k ∧ k ≤ m ∧ u = .slice ao (vals x.f x.taken k).length cap ∧ Txs wr w.heap.size (.slice ao (vals x.f x.taken k).length cap) (vals x.f x.taken k) ∧ Lc wr L M n x.base k x.f ∧ Kept (fun y => y ≠ L ∧ y ≠ M) w wr) (fun _ wr => m - (intOf ((wr.cell? ⟨L, 1, none⟩).getD (.int .i64 0))).toNat)
  case atStart => exact ⟨x.taken, none, 0, Nat.le_refl _, hm1, by rw [vals_none]; rfl, by rw [vals_none]; exact Txs.nil _ _, H0.out.lc, k0.mono (fun _ _ _ => trivial)⟩
  case round =>
    obtain ⟨k, ao, cap, g1, g2, rfl, hT, hc, hk⟩ := hrel
    obtain ⟨c0, c1, c2, f0, f1, f2⟩ := lcell hc.self
    have HC : Hid (Lc wr L M n x.base k x.f) := hc
    have HT : Hid (Txs wr w.heap.size (.slice ao (vals x.f x.taken k).length cap) (vals x.f x.taken k)) := hT
    have hl : (vals x.f x.taken k).length ≤ 512 := by rw [vals_length]; omega
    have lt := hc.lt
    have hLw : Hid (L < w.heap.size ∧ M < w.heap.size) := ⟨H.out.lc.lt, H.out.lc.mlt⟩
    clear hT
    by_cases hlt : k < m
    · have hlt' : (k : Int) < (m : Int) := by omega
      have HS : Hid (vals x.f x.taken (k + 1) = vals x.f x.taken k ++ [(x.f (k : Int)).getD []]) := vals_step x.f g1
      have lk : ∀ W, Kept (fun y => y < w.heap.size) wr W → (Instr.lookup 54 (.map (some M)) (.int .i64 (k : Int)) false).run Try.prog W = .ok (.agg #[.string ⟨((x.f (k : Int)).getD []).toArray⟩]) W := fun W q => (HC.out.mp.kept q hLw.out.2).look1 ⟨by omega, by omega⟩
      have l1 : ∀ W, Kept (fun y => y < w.heap.size) wr W → W.cell? ⟨L, 1, none⟩ = some (.int .i64 (k : Nat)) := fun W q => cell_kept q c1 hLw.out.1
      have l2 : ∀ W, Kept (fun y => y < w.heap.size) wr W → W.cell? ⟨L, 2, none⟩ = some (.map (some M)) := fun W q => cell_kept q c2 hLw.out.1
      have C1 : Hid (wr.cell? ⟨L, 1, none⟩ = some (.int .i64 (k : Nat))) := c1
      have kd : Kept (fun _ => True) wr wr.drew := (Kept.refl _ _).drew
      have kd' : Kept (fun y => y < w.heap.size) wr wr.drew := (Kept.refl _ _).drew
      have HD : Hid (Txs wr.drew w.heap.size (.slice ao (vals x.f x.taken k).length cap) (vals x.f x.taken k)) := HT.out.kept kd (fun _ _ => trivial)
      have hsz : Hid (∀ o : Obj, w.heap.size ≤ (wr.drew.alloc o).heap.size) := fun o => Nat.le_trans hk.size ((kd.alloc o).size)
      clear hc
      generalize hss' : vals x.f x.taken (k + 1) = ss' at *
      generalize hss : vals x.f x.taken k = ss at *
      generalize (x.f (k : Int)).getD [] = v at *
      have HSS : Hid (vals x.f x.taken (k + 1) = ss') := hss'
      have hfd : ∀ W : World, (Instr.field 58 (.agg #[.string ⟨v.toArray⟩]) 0).run Try.prog W = .ok (.string ⟨v.toArray⟩) W := fun _ => by kernel_rfl
      clear hss hss'
      go_wp2_with fail
      clear c0 c1 c2 f0 f1 f2
      go_region_held3 (fun W => Kept (fun y => y < w.heap.size) wr W) (first | assumption | exact kd'.alloc _) ((refine step_append_text ?_ (.tmp 20) (.tmp 31) ?_ w.heap.size (.slice ao ss.length cap) ss ?_ (HD.out.kept ((Kept.refl (fun _ => True) _).alloc _) (fun _ _ => trivial)) (hsz.out _) wr.heap.size ?_ v (0, 0) (heap_alloc_new wr.drew _) (by omega) ?_; rfl; rfl; rfl; rfl; intro ao1 cap1 w1 t1 gr1 at1; have T1 : Hid (Txs w1 w.heap.size (.slice ao1 (ss.length + 1) cap1) (ss ++ [v])) := t1; have k1 : Kept (fun y => y < w.heap.size) wr w1 := ((kd.mono (fun _ _ _ => trivial)).alloc _).grown gr1 (fun j hj e q => by have := own_ge HD.out e; omega); clear t1 gr1 at1))
      all_goals
        have HC1 : Lc w1 L M n x.base k x.f := HC.out.kept k1 hLw.out.1 hLw.out.2
        obtain ⟨d0, d1, d2, e0, e1, e2⟩ := lcell HC1.self
        have H2 : Hid _ := HC1.setTaken (k + 1)
        clear HC1
        go_wp2_with fail
        go_roundw
        case rel =>
          have e1 : vals x.f x.taken (k + 1) = ss ++ [v] := HSS.out.trans HS.out
          have e2 : (ss ++ [v]).length = ss.length + 1 := by simp
          refine ⟨k + 1, ao1, cap1, by omega, by omega, by rw [e1, e2], ?_, H2.out.1, (hk.then k1 (fun i hi _ => hi)).trans (H2.out.2.mono (fun _ _ q => q.1))⟩
          rw [e1, e2]
          exact T1.out.kept H2.out.2 (fun j hj e => by have := own_ge T1.out hj; have := hLw.out.1; omega)
        case measure =>
          have q : (w1.setCell ⟨L, 1, none⟩ (.int .i64 ((k : Int) + 1))).cell? ⟨L, 1, none⟩ = some (.int .i64 ((k + 1 : Nat) : Int)) := (lcell H2.out.1.self).2.1
          rw [q, C1.out]
          simp only [Option.getD_some, intOf, Int.toNat_natCast]
          omega
    · have hlt' : ¬ (k : Int) < (m : Int) := by omega
      have e : k = m := by omega
      subst e
      go_wp2
      go_ret
      exact ⟨k, _, rfl, HN.out, HT.out, ⟨HC.out, H.out.ok.take HN.out⟩, hk⟩

set_option maxRecDepth 100000 in
set_option maxHeartbeats 2000000 in
theorem gaps_any (h : Lm w L M n x) (z : Int) :
    Calls Try.prog 10 #[.pointer (some ⟨L, 0, none⟩), .int .i64 z] w fun e w' => ∃ (m : Nat) (v : Value), e = .returned v ∧ IsNext x.f x.taken m ∧ Its w' w.heap.size v (gapsIn x.f m (min z 512).toNat) ∧ Kept (fun _ => True) w w' := by
  have H : Hid (Lm w L M n x) := h
  obtain ⟨q, hq⟩ : ∃ q, q = min z 512 := ⟨_, rfl⟩
  rw [← hq]
  have HQ : Hid (q = min z 512) := hq
  have hq5 : q ≤ 512 := by omega
  clear h hq
  go_enter Try.func10, Try.ntmps10
  go_wp2_with fail
  refine Calls.mono (next_any H.out) ?_
  rintro e w0 ⟨m, rfl, hnx, k0⟩
  have HN : Hid (IsNext x.f x.taken m) := hnx
  have hm2 : m ≤ 512 := H.out.ok.next_le H.out.ok.most hnx
  clear hnx
  go_wp2_with fail
  go_loopw [5, 6] (fun u s wr => ∃ (k : Nat) (ao : Option Addr) (cap : Nat), s = .int .i64 (k : Nat) ∧ m ≤ k ∧ (k = m ∨ (k : Int) ≤ q) ∧ u = .slice ao (gapsIn x.f m k).length cap ∧ Its wr w.heap.size (.slice ao (gapsIn x.f m k).length cap) (gapsIn x.f m k) ∧ Kept (fun _ => True) w wr) (fun _ s _ => 512 - (intOf s).toNat)
  case atStart => exact ⟨m, none, 0, rfl, Nat.le_refl _, .inl rfl, by rw [gapsIn_none _ (Nat.le_refl _)]; rfl, by rw [gapsIn_none _ (Nat.le_refl _)]; exact Its.nil _ _, k0⟩
  case round =>
    obtain ⟨k, ao, cap, rfl, g1, g2, rfl, hT, hk⟩ := hrel
    have HT : Hid (Its wr w.heap.size (.slice ao (gapsIn x.f m k).length cap) (gapsIn x.f m k)) := hT
    have HK : Hid (Kept (fun _ => True) w wr) := hk
    have hl : (gapsIn x.f m k).length ≤ 512 := Nat.le_trans (gapsIn_length _ _ _) (by omega)
    have hbn : Hid (∀ o : Obj, w.heap.size ≤ (wr.alloc o).heap.size) := fun o => ((hk.alloc o).size)
    clear hT
    by_cases hlt : (k : Int) < q
    · have c := knows_any (H.out.all hk).lc (z := (k : Int)) ⟨by omega, by omega⟩
      have HS : Hid (gapsIn x.f m (k + 1) = gapsIn x.f m k ++ (if (x.f (k : Int)).isNone = true then [k] else [])) := gapsIn_step x.f g1
      have hk5 : k < 512 := by omega
      have b1 : Hid ((k : Int) < z ∧ (k : Int) < 512) := by have := HQ.out; exact ⟨by omega, by omega⟩
      have hz1 : (k : Int) < z := b1.out.1
      have hz2 : (k : Int) < 512 := b1.out.2
      have hmn : (k : Int) < min z 512 := by omega
      generalize hss' : gapsIn x.f m (k + 1) = ss' at *
      generalize hss : gapsIn x.f m k = ss at *
      have HSS : Hid (gapsIn x.f m (k + 1) = ss') := hss'
      clear hss hss' hk
      cases hf : x.f (k : Int) with
      | none =>
        rw [hf] at c
        have HS' : Hid (ss' = ss ++ [k]) := by show _ = _; have := HS.out; rw [hf] at this; simpa using this
        simp only [Option.isSome_none] at c
        clear hf HS
        go_wp2_with (first
          | (go_at_call 29; refine Calls.mono c ?_; rintro e w1 ⟨rfl, k1⟩; have HT1 : Hid (Its w1 w.heap.size (.slice ao ss.length cap) ss) := HT.out.kept k1 (fun _ _ => trivial); have hb1 : Hid (∀ o : Obj, w.heap.size ≤ (w1.alloc o).heap.size) := fun o => (((HK.out.trans k1).alloc o).size))
          | (at_builtin; refine wpList_append_int rfl _ _ rfl w.heap.size _ ss rfl (HT1.out.fresh _) (hb1.out _) _ rfl k (0, 0) (heap_alloc_new _ _) (by omega) ?_; intro ao2 cap2 w2 t2 gr2; have T2 : Hid (Its w2 w.heap.size (.slice ao2 (ss.length + 1) cap2) (ss ++ [k])) := t2; have k2 : Kept (fun _ => True) w w2 := HT1.out.grown (HK.out.trans k1) gr2; clear t2 gr2))
        go_roundw
        case rel =>
          have e1 : gapsIn x.f m (k + 1) = ss ++ [k] := HSS.out.trans HS'.out
          have e2 : (ss ++ [k]).length = ss.length + 1 := by simp
          exact ⟨k + 1, ao2, cap2, by go_num, by omega, .inr (by omega), by rw [e1, e2], by rw [e1, e2]; exact T2.out, k2⟩
        case measure => simp [intOf]; omega
      | some v =>
        rw [hf] at c
        have HS' : Hid (ss' = ss) := by show _ = _; have := HS.out; rw [hf] at this; simpa using this
        simp only [Option.isSome_some] at c
        clear hf HS
        go_wp2_with (go_at_call 29; refine Calls.mono c ?_; rintro e w1 ⟨rfl, k1⟩; have HT1 : Hid (Its w1 w.heap.size (.slice ao ss.length cap) ss) := HT.out.kept k1 (fun _ _ => trivial))
        go_roundw
        case rel =>
          have e1 : gapsIn x.f m (k + 1) = ss := HSS.out.trans HS'.out
          exact ⟨k + 1, ao, cap, by go_num, by omega, .inr (by omega), by rw [e1], by rw [e1]; exact HT1.out, HK.out.trans k1⟩
        case measure => simp [intOf]; omega
    · have hmn : ¬ (k : Int) < min z 512 := by have := HQ.out; omega
      have HE : Hid (gapsIn x.f m q.toNat = gapsIn x.f m k) := by
        show _ = _
        rcases g2 with rfl | g2
        · rw [gapsIn_none _ (by omega), gapsIn_none _ (by omega)]
        · rw [show q.toNat = k by omega]
      clear hbn g2
      go_wp2
      all_goals
        go_ret
        exact ⟨m, _, rfl, HN.out, by rw [HE.out]; exact HT.out, HK.out⟩
end

end Go.Proofs.Ytmejeiadfcdogaa
