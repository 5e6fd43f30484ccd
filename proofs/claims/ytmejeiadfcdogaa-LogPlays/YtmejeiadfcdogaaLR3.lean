/-
  The document's Take, Gaps.
-/
import Derived.Test.YtmejeiadfcdogaaLR2
namespace Go.Proofs.Ytmejeiadfcdogaa
open Go.RowKit

section
variable {w w' : World} {R b t : Nat} {f : Vals} {x : Lo}

theorem Lo.Ok.part {x : Lo} (h : x.Ok) {m k : Nat} (n : IsNext x.f x.taken m) (h1 : x.taken ≤ k) (h2 : k ≤ m) : Lo.Ok { x with taken := k } := by
  refine ⟨Nat.le_trans h.le h1, Nat.le_trans h2 (h.next_le h.most n), h.low, h.high, fun z a b => ?_⟩
  have a' : (x.base : Int) ≤ z := a
  have b' : z < (k : Int) := b
  by_cases h3 : z < x.taken
  · exact h.full z a' h3
  · exact n.known z (by omega) (by omega)
theorem IsNext.part {f : Vals} {a m k : Nat} (n : IsNext f a m) (h1 : a ≤ k) (h2 : k ≤ m) : IsNext f k m := ⟨h2, fun z g1 g2 => n.known z (by omega) g2, n.stop⟩

set_option maxRecDepth 100000 in
set_option maxHeartbeats 2000000 in
theorem rtake_any (h : Rm w R x) {m : Nat} (hnx : IsNext x.f x.taken m) :
    Calls Try.prog 22 #[.pointer (some ⟨R, 0, none⟩)] w fun e w' => ∃ v : Value, e = .returned v ∧ Txs w' w.heap.size v (vals x.f x.taken m) ∧ Rm w' R { x with taken := m } ∧ Kept (· ≠ R) w w' := by
  have H : Hid (Rm w R x) := h
  have HN : Hid (IsNext x.f x.taken m) := hnx
  have hm1 : x.taken ≤ m := hnx.le
  have hm2 : m ≤ 512 := H.out.ok.next_le H.out.ok.most hnx
  clear h hnx
  go_enter Try.func22, Try.ntmps22
  go_wp2_with fail
  go_loopw [3] (fun u wr => ∃ (k : Nat) (ao : Option Addr) (cap : Nat), x.taken ≤ k ∧ k ≤ m ∧ u = .slice ao (vals x.f x.taken k).length cap ∧ Txs wr w.heap.size (.slice ao (vals x.f x.taken k).length cap) (vals x.f x.taken k) ∧ Rl wr R x.base k x.f ∧ Kept (· ≠ R) w wr) (fun _ wr => m - (intOf ((wr.cell? ⟨R, 1025, none⟩).getD (.int .i64 0))).toNat)
  case atStart => exact ⟨x.taken, none, 0, Nat.le_refl _, hm1, by rw [vals_none]; rfl, by rw [vals_none]; exact Txs.nil _ _, H.out.rl, Kept.refl _ _⟩
  case round =>
    obtain ⟨k, ao, cap, g1, g2, rfl, hT, hc, hk⟩ := hrel
    have HC : Hid (Rl wr R x.base k x.f) := hc
    have HT : Hid (Txs wr w.heap.size (.slice ao (vals x.f x.taken k).length cap) (vals x.f x.taken k)) := hT
    have hl : (vals x.f x.taken k).length ≤ 512 := by rw [vals_length]; omega
    have lt := hc.lt
    have ct := hc.ct
    have C1 : Hid (wr.cell? ⟨R, 1025, none⟩ = some (.int .i64 (k : Nat))) := ct
    have hRw : Hid (R < w.heap.size) := H.out.lt
    have cn : ∀ n, Calls Try.prog 26 #[.pointer (some ⟨R, 0, none⟩)] (wr.drewN n) (fun e w' => e = .returned (.int .i64 (m : Nat)) ∧ w' = wr.drewN n) := fun n =>
      rnext_at (x := { x with taken := k }) ⟨HC.out.kept ((Kept.refl (fun _ => True) _).drewN n) trivial, H.out.ok.part HN.out g1 g2⟩ (HN.out.part g1 g2)
    clear hT hc
    by_cases hlt : k < m
    · have hlt' : (k : Int) < (m : Int) := by omega
      go_wp2_with fail
      go_quiet ((go_at_call 26; exact Calls.quiet_of_same (cn _)))
      have k2 : Kept (fun _ => True) wr (wr.drewN nq) := (Kept.refl _ _).drewN nq
      have HC2 : Hid (Rl (wr.drewN nq) R x.base k x.f) := HC.out.kept k2 trivial
      have HT2 : Hid (Txs (wr.drewN nq) w.heap.size (.slice ao (vals x.f x.taken k).length cap) (vals x.f x.taken k)) := HT.out.kept k2 (fun _ _ => trivial)
      have hk2 : Kept (· ≠ R) w (wr.drewN nq) := hk.drewN nq
      clear k2 HC HT hk cn ct lt
      generalize wr.drewN nq = w2 at *
      have HS : Hid (vals x.f x.taken (k + 1) = vals x.f x.taken k ++ [(x.f (k : Int)).getD []]) := vals_step x.f g1
      have ct2 := HC2.out.ct
      have cv2 := HC2.out.cv (s := k) (by omega)
      have g0 : (0 : Int) ≤ (k : Int) := by omega
      have g5 : (k : Int) < 512 := by omega
      have l1 : ∀ W, Kept (fun y => y < w.heap.size) w2 W → W.cell? ⟨R, 1025, none⟩ = some (.int .i64 (k : Nat)) := fun W q => cell_kept q ct2 hRw.out
      have l2 : ∀ W, Kept (fun y => y < w.heap.size) w2 W → W.cell? ⟨R, k, none⟩ = some (.string ⟨((x.f (k : Int)).getD []).toArray⟩) := fun W q => cell_kept q cv2 hRw.out
      have kd : Kept (fun y => y < w.heap.size) w2 w2.drew := (Kept.refl _ _).drew
      have HD : Hid (Txs w2.drew w.heap.size (.slice ao (vals x.f x.taken k).length cap) (vals x.f x.taken k)) := HT2.out.kept ((Kept.refl (fun _ => True) _).drew) (fun _ _ => trivial)
      have hsz : Hid (∀ o : Obj, w.heap.size ≤ (w2.drew.alloc o).heap.size) := fun o => Nat.le_trans hk2.size ((kd.alloc o).size)
      generalize hss' : vals x.f x.taken (k + 1) = ss' at *
      generalize hss : vals x.f x.taken k = ss at *
      generalize (x.f (k : Int)).getD [] = v at *
      have HSS : Hid (vals x.f x.taken (k + 1) = ss') := hss'
      clear hss hss' ct2 cv2
      go_wp2_with fail
      go_region_held3 (fun W => Kept (fun y => y < w.heap.size) w2 W) (first | assumption | exact kd.alloc _) ((refine step_append_text ?_ (.tmp 11) (.tmp 21) ?_ w.heap.size (.slice ao ss.length cap) ss ?_ (HD.out.kept ((Kept.refl (fun _ => True) _).alloc _) (fun _ _ => trivial)) (hsz.out _) w2.heap.size ?_ v (0, 0) (heap_alloc_new w2.drew _) (by omega) ?_; rfl; rfl; rfl; rfl; intro ao1 cap1 w1 t1 gr1 at1; have T1 : Hid (Txs w1 w.heap.size (.slice ao1 (ss.length + 1) cap1) (ss ++ [v])) := t1; have k1 : Kept (fun y => y < w.heap.size) w2 w1 := (kd.alloc _).grown gr1 (fun j hj e q => by have := own_ge HD.out e; omega); clear t1 gr1 at1))
      all_goals
        have HC1 : Rl w1 R x.base k x.f := HC2.out.kept k1 hRw.out
        have d1 := HC1.ct
        have e1 := HC1.fr 1025
        have lt1 := HC1.lt
        have H2 : Hid _ := HC1.setTaken (k + 1)
        have K2 : Hid (Kept (· ≠ R) w1 (w1.setCell ⟨R, 1025, none⟩ (.int .i64 ((k + 1 : Nat) : Int)))) := (Kept.refl _ _).setCell (by simp) _
        clear HC1
        go_wp2_with fail
        go_roundw
        case rel =>
          have e1 : vals x.f x.taken (k + 1) = ss ++ [v] := HSS.out.trans HS.out
          have e2 : (ss ++ [v]).length = ss.length + 1 := by simp
          refine ⟨k + 1, ao1, cap1, by omega, by omega, by rw [e1, e2], ?_, H2.out, (hk2.then k1 (fun i hi _ => hi)).trans K2.out⟩
          rw [e1, e2]
          exact T1.out.kept K2.out (fun j hj e => by have := own_ge T1.out hj; have := hRw.out; omega)
        case measure =>
          have q : (w1.setCell ⟨R, 1025, none⟩ (.int .i64 ((k : Int) + 1))).cell? ⟨R, 1025, none⟩ = some (.int .i64 ((k + 1 : Nat) : Int)) := Rl.ct H2.out
          rw [q, C1.out]
          simp only [Option.getD_some, intOf, Int.toNat_natCast]
          omega
    · have hlt' : ¬ (k : Int) < (m : Int) := by omega
      have e : k = m := by omega
      subst e
      go_wp2_with fail
      go_quiet ((go_at_call 26; exact Calls.quiet_of_same (cn _)))
      go_wp2
      go_ret
      have k2 : Kept (fun _ => True) wr (wr.drewN nq) := (Kept.refl _ _).drewN nq
      exact ⟨_, rfl, HT.out.kept k2 (fun _ _ => trivial), ⟨HC.out.kept k2 trivial, H.out.ok.take HN.out⟩, hk.drewN nq⟩

set_option maxRecDepth 100000 in
set_option maxHeartbeats 2000000 in
theorem rgaps_any (h : Rm w R x) {m : Nat} (hnx : IsNext x.f x.taken m) (z : Int) :
    Calls Try.prog 27 #[.pointer (some ⟨R, 0, none⟩), .int .i64 z] w fun e w' => ∃ v : Value, e = .returned v ∧ Its w' w.heap.size v (gapsIn x.f m (min z 512).toNat) ∧ Kept (fun _ => True) w w' := by
  have H : Hid (Rm w R x) := h
  have HN : Hid (IsNext x.f x.taken m) := hnx
  have hm2 : m ≤ 512 := H.out.ok.next_le H.out.ok.most hnx
  obtain ⟨q, hq⟩ : ∃ q, q = min z 512 := ⟨_, rfl⟩
  rw [← hq]
  have HQ : Hid (q = min z 512) := hq
  have hq5 : q ≤ 512 := by omega
  clear h hnx hq
  go_enter Try.func27, Try.ntmps27
  go_wp2_with fail
  refine Calls.mono (rnext_at H.out HN.out) ?_
  rintro e w ⟨rfl, rfl⟩
  go_wp2_with fail
  go_loopw [5, 6] (fun u s wr => ∃ (k : Nat) (ao : Option Addr) (cap : Nat), s = .int .i64 (k : Nat) ∧ m ≤ k ∧ (k = m ∨ (k : Int) ≤ q) ∧ u = .slice ao (gapsIn x.f m k).length cap ∧ Its wr w.heap.size (.slice ao (gapsIn x.f m k).length cap) (gapsIn x.f m k) ∧ Kept (fun _ => True) w wr) (fun _ s _ => 512 - (intOf s).toNat)
  case atStart => exact ⟨m, none, 0, rfl, Nat.le_refl _, .inl rfl, by rw [gapsIn_none _ (Nat.le_refl _)]; rfl, by rw [gapsIn_none _ (Nat.le_refl _)]; exact Its.nil _ _, Kept.refl _ _⟩
  case round =>
    obtain ⟨k, ao, cap, rfl, g1, g2, rfl, hT, hk⟩ := hrel
    have HT : Hid (Its wr w.heap.size (.slice ao (gapsIn x.f m k).length cap) (gapsIn x.f m k)) := hT
    have HK : Hid (Kept (fun _ => True) w wr) := hk
    have hl : (gapsIn x.f m k).length ≤ 512 := Nat.le_trans (gapsIn_length _ _ _) (by omega)
    have hbn : Hid (∀ o : Obj, w.heap.size ≤ (wr.alloc o).heap.size) := fun o => ((hk.alloc o).size)
    clear hT
    by_cases hlt : (k : Int) < q
    · have ck := (H.out.rl.kept hk trivial).ck (s := k) (by omega)
      have HS : Hid (gapsIn x.f m (k + 1) = gapsIn x.f m k ++ (if (x.f (k : Int)).isNone = true then [k] else [])) := gapsIn_step x.f g1
      have hk5 : k < 512 := by omega
      have hz1 : (k : Int) < z := by have := HQ.out; omega
      have hz2 : (k : Int) < 512 := by omega
      have g0 : (0 : Int) ≤ (k : Int) := by omega
      generalize hss' : gapsIn x.f m (k + 1) = ss' at *
      generalize hss : gapsIn x.f m k = ss at *
      have HSS : Hid (gapsIn x.f m (k + 1) = ss') := hss'
      clear hss hss' hk
      cases hf : x.f (k : Int) with
      | none =>
        rw [hf] at ck
        have HS' : Hid (ss' = ss ++ [k]) := by show _ = _; have := HS.out; rw [hf] at this; simpa using this
        simp only [Option.isSome_none] at ck
        clear hf HS
        go_wp2_with (at_builtin; refine wpList_append_int rfl _ _ rfl w.heap.size _ ss rfl (HT.out.fresh _) (hbn.out _) _ rfl k (0, 0) (heap_alloc_new _ _) (by omega) ?_; intro ao2 cap2 w2 t2 gr2; have T2 : Hid (Its w2 w.heap.size (.slice ao2 (ss.length + 1) cap2) (ss ++ [k])) := t2; have k2 : Kept (fun _ => True) w w2 := HT.out.grown HK.out gr2; clear t2 gr2)
        go_roundw
        case rel =>
          have e1 : gapsIn x.f m (k + 1) = ss ++ [k] := HSS.out.trans HS'.out
          have e2 : (ss ++ [k]).length = ss.length + 1 := by simp
          exact ⟨k + 1, ao2, cap2, by go_num, by omega, .inr (by omega), by rw [e1, e2], by rw [e1, e2]; exact T2.out, k2⟩
        case measure => simp [intOf]; omega
      | some v =>
        rw [hf] at ck
        have HS' : Hid (ss' = ss) := by show _ = _; have := HS.out; rw [hf] at this; simpa using this
        simp only [Option.isSome_some] at ck
        clear hf HS
        go_wp2_with fail
        go_roundw
        case rel =>
          have e1 : gapsIn x.f m (k + 1) = ss := HSS.out.trans HS'.out
          exact ⟨k + 1, ao, cap, by go_num, by omega, .inr (by omega), by rw [e1], by rw [e1]; exact HT.out, HK.out⟩
        case measure => simp [intOf]; omega
    · have HE : Hid (gapsIn x.f m q.toNat = gapsIn x.f m k) := by
        show _ = _
        rcases g2 with rfl | g2
        · rw [gapsIn_none _ (by omega), gapsIn_none _ (by omega)]
        · rw [show q.toNat = k by omega]
      clear hbn g2
      by_cases hz1 : (k : Int) < z
      · have hz2 : ¬ (k : Int) < 512 := by have := HQ.out; omega
        go_wp2
        go_ret
        exact ⟨_, rfl, by rw [HE.out]; exact HT.out, HK.out⟩
      · go_wp2
        go_ret
        exact ⟨_, rfl, by rw [HE.out]; exact HT.out, HK.out⟩
end

end Go.Proofs.Ytmejeiadfcdogaa
