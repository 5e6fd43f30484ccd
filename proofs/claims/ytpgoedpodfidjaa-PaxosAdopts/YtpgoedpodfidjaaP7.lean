/-
  Open; a proposer that was made behind a world; known.
-/
import Derived.Test.YtpgoedpodfidjaaP6
import Derived.Test.YtpgoedpodfidjaaPInts
namespace Go.Proofs.Ytpgoedpodfidjaa
open Go.RowKit

theorem opens_upto {x : Pr} {n : Nat} (ht : ∀ s, n ≤ s → x.pl s = zeroPl) (hn : n ≤ 512) : x.opens = (List.range n).filter x.isOpen := by
  have h : ∀ d, (List.range (n + d)).filter x.isOpen = (List.range n).filter x.isOpen := by
    intro d
    induction d with
    | zero => rfl
    | succ d ih =>
      rw [show n + (d + 1) = (n + d) + 1 by omega, List.range_succ, List.filter_append, ih]
      have : x.isOpen (n + d) = false := by
        unfold Pr.isOpen
        rw [ht _ (by omega)]
        rfl
      simp [this]
  have := h (512 - n)
  rwa [show n + (512 - n) = 512 by omega] at this

set_option maxRecDepth 100000 in
set_option maxHeartbeats 1000000 in
theorem open_any {w : World} {P n : Nat} {v : Value} {x : Pr} (h : Po w P v n x) :
    Calls Try.prog 15 #[.pointer (some ⟨P, 0, none⟩)] w fun e w' => ∃ u, e = .returned u ∧ Its w' w.heap.size u x.opens ∧ Kept (fun _ => True) w w' := by
  have H : Hid (Po w P v n x) := h
  obtain ⟨ao, cap, rfl, hg⟩ := h.shape
  obtain ⟨c0, c1, c2, c3, c4, c5, c6, c7, cf⟩ := ocell h.self
  have lt := h.lt
  have hn5 := h.small
  clear h c0 c1 c2 c3 c4 c5 c6 cf
  go_enter Try.func15, Try.ntmps15
  go_wp2
  go_loopw [3, 11] (fun t i wr => ∃ k : Nat, k ≤ n ∧ i = .int .i64 k ∧ Its wr w.heap.size t ((List.range k).filter x.isOpen) ∧ Kept (fun _ => True) w wr) (fun _ i _ => n - (intOf i).toNat)
  case atStart => exact ⟨0, Nat.zero_le _, rfl, Its.nil _ _, Kept.refl _ _⟩
  case round =>
    obtain ⟨k, hk, rfl, hi, hkp⟩ := hrel
    have HI : Hid (Its wr w.heap.size _ ((List.range k).filter x.isOpen)) := hi
    have HK : Hid (Kept (fun _ => True) w wr) := hkp
    obtain ⟨ia, ic, rfl⟩ := hi.shape
    have hfl : ((List.range k).filter x.isOpen).length ≤ k := Nat.le_trans (List.length_filter_le _ _) (by simp)
    by_cases hlt : k < n
    · obtain ⟨g, rfl⟩ := hg (by omega)
      have HP : Hid (Po wr P (.slice (some ⟨g, 0, none⟩) n cap) n x) := H.out.all hkp
      obtain ⟨g0, g1, g2, g3, g4, g5, g6, g7, gf⟩ := HP.out.cells hlt
      have hst : Hid ((List.range (k + 1)).filter x.isOpen = (List.range k).filter x.isOpen ++ if x.isOpen k = true then [k] else []) := by
        show _ = _
        rw [List.range_succ, List.filter_append]
        by_cases ho : x.isOpen k = true
        · simp [ho]
        · simp [ho]
      have hop : Hid (x.isOpen k = (((x.pl k).voted || (x.pl k).picked) && !x.most (x.pl k).acc)) := rfl
      have hac : Hid ((x.pl k).acc < 32) := HP.out.ok.acc k
      clear hi hkp
      generalize (List.range k).filter x.isOpen = L at *
      generalize x.pl k = q at *
      obtain ⟨qv, ⟨bs, ⟨br, bn⟩, bv⟩, qp, qval, qa⟩ := q
      simp only at g0 g1 g2 g3 g4 g5 g6 g7
      have j1 : (k : Int) < (n : Int) := by omega
      have j0 : (0 : Int) ≤ (k : Int) := by omega
      have k9 : Kept (fun _ => True) wr (wr.alloc (.cells #[.bool qv, .int .i64 bs, .int .i64 br, .int .i64 bn, .string bv, .bool qp, .string qval, .int .u64 qa] 75)) := (Kept.refl _ _).alloc _
      have cm := most_any (HP.out.all k9) hac.out
      have HI9 : Hid (Its (wr.alloc (.cells #[.bool qv, .int .i64 bs, .int .i64 br, .int .i64 bn, .string bv, .bool qp, .string qval, .int .u64 qa] 75)) w.heap.size (.slice ia L.length ic) L) := HI.out.fresh _
      cases hvp : (qv || qp)
      · have hv : qv = false ∧ qp = false := by simpa using hvp
        obtain ⟨rfl, rfl⟩ := hv
        go_wp2
        go_roundw
        case rel => exact ⟨k + 1, by omega, by go_num, by rw [hst.out, hop.out]; simpa using HI9.out, HK.out.alloc _⟩
        case measure => simp [intOf]; omega
      · have hv : qv = true ∨ (qv = false ∧ qp = true) := by
          cases qv
          · exact .inr ⟨rfl, by simpa using hvp⟩
          · exact .inl rfl
        clear hvp
        cases hm : x.most qa
        · rw [hm] at cm
          rcases hv with rfl | ⟨rfl, rfl⟩
          all_goals
            go_wp2_with fail
            refine Calls.mono cm ?_
            rintro e _ ⟨rfl, d, rfl⟩
            have k10 : Kept (fun _ => True) w _ := (HK.out.trans k9).drewN d
            have HI10 : Hid (Its _ w.heap.size (.slice ia L.length ic) L) := HI9.out.kept (p := fun _ => True) ((Kept.refl _ _).drewN d) (fun _ _ => trivial)
            generalize World.drewN _ d = w2 at *
            go_wp2_with (at_builtin; refine wpList_append_int rfl _ _ rfl w.heap.size _ L rfl (HI10.out.fresh _) (Nat.le_trans k10.size (by simp)) _ rfl k (0, 0) (heap_alloc_new _ _) (by omega) ?_; intro ao' cap' w3 hown hgrow)
            go_wp2
            go_roundw
            case rel => exact ⟨k + 1, by omega, by go_num, by rw [hst.out, hop.out, hm]; simpa using hown, HI10.out.grown k10 hgrow⟩
            case measure => simp [intOf]; omega
        · rw [hm] at cm
          rcases hv with rfl | ⟨rfl, rfl⟩
          all_goals
            go_wp2_with fail
            refine Calls.mono cm ?_
            rintro e _ ⟨rfl, d, rfl⟩
            go_wp2
            go_roundw
            case rel => exact ⟨k + 1, by omega, by go_num, by rw [hst.out, hop.out, hm]; simpa using HI9.out.kept (p := fun _ => True) ((Kept.refl _ _).drewN d) (fun _ _ => trivial), (HK.out.trans k9).drewN d⟩
            case measure => simp [intOf]; omega
    · have hkn : k = n := by omega
      subst hkn
      go_wp2
      go_ret
      refine ⟨_, rfl, ?_, HK.out⟩
      rw [opens_upto H.out.top H.out.small]
      exact HI.out

/-- A proposer that was made behind w0. -/
structure PM (w0 w : World) (P : Nat) (v : Value) (n : Nat) (x : Pr) : Prop where
  po : Po w P v n x
  kept : Kept (fun _ => True) w0 w
  p0 : w0.heap.size ≤ P
  v0 : ∀ i, v.ownBlock = some i → w0.heap.size ≤ i
section
variable {w0 w w' : World} {P n n' : Nat} {v v' : Value} {x x' : Pr}
theorem PM.step (h : PM w0 w P v n x) (h' : Po w' P v' n' x') (k : PS w w' P v v') : PM w0 w' P v' n' x' :=
  ⟨h', h.kept.then k.kept (fun i hi _ => ⟨by have := h.p0; omega, fun e => by have := h.v0 i e; omega⟩), h.p0, fun i e => by
    rcases k.own i e with q | q
    · exact h.v0 i q
    · exact Nat.le_trans h.kept.size q⟩
theorem PM.ahead (h : PM w0 w P v n x) (k : Kept (fun _ => True) w w') : PM w0 w' P v n x := ⟨h.po.all k, h.kept.trans k, h.p0, h.v0⟩
theorem PM.begun (h : PM w0 w P v n x) (h' : Po w' P (.slice none 0 0) 0 x') (k : Kept (· ≠ P) w w') : PM w0 w' P (.slice none 0 0) 0 x' :=
  h.step h' ⟨k.mono (fun _ _ q => q.1), fun i e => by simp [Value.ownBlock] at e⟩
theorem PM.self (h : PM w0 w P v n x) (h' : Po w' P v n x') (k : Kept (· ≠ P) w w') : PM w0 w' P v n x' := h.step h' (PS.self k)
end

end Go.Proofs.Ytpgoedpodfidjaa
