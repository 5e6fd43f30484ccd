/-
  The document's table: Done, walked.
-/
import Derived.Test.YtihfcmcpapgokaaER2
import Derived.Deep.CutRange
namespace Go.Proofs.Ytihfcmcpapgokaa
open Go.RowKit

theorem own_zero3 {e sz : Nat} {w : World} {b n : Nat} {v : Value} {xs : List Value} (h : w.ownsRow b e sz v n xs) : w.ownsRow 0 e sz v n xs := by
  refine ⟨h.1, ?_⟩
  rcases h.2 with h0 | ⟨g, cap, cur, rfl, hb, rest⟩
  · exact .inl h0
  · exact .inr ⟨g, cap, cur, rfl, Nat.zero_le _, rest⟩

set_option maxRecDepth 100000 in
set_option maxHeartbeats 2000000 in
theorem rdone_tb {w : World} {B : Nat} {v : Value} {m : Int} {xs : List La} (h : Rt w B v m xs) (hl : xs.length ≤ 64) (_ : 0 ≤ m) (x : La) :
    Calls Try.prog 18 #[.pointer (some ⟨B, 0, none⟩), .string ⟨x.c.toArray⟩, .int .i64 x.i, .string ⟨x.r.toArray⟩] w fun e w' => e = .returned (.int .i64 ((done m xs x).1 : Nat)) ∧ ∃ v', RSt w w' B v v' m (done m xs x).2 := by
  have HP : Hid (Rt w B v m xs) := h
  obtain ⟨c, i, r⟩ := x
  have ca := rask_any h c i
  clear h
  generalize hD : done m xs ⟨c, i, r⟩ = d
  have hD' : d = if (ask xs c i).1 = 1 then (0, fewer m (xs.eraseP (isC c) ++ [⟨c, i, r⟩])) else (1, xs) := hD.symm
  generalize ask xs c i = a at ca hD'
  have HD : Hid (d = if a.1 = 1 then (0, fewer m (xs.eraseP (isC c) ++ [⟨c, i, r⟩])) else (1, xs)) := hD'
  clear hD hD'
  obtain ⟨a1, a2⟩ := a
  go_enter Try.func18, Try.ntmps18
  go_wp2_with fail
  refine Calls.mono ca ?_
  rintro e w1 ⟨rfl, k1⟩
  clear ca
  have p1 := HP.out.all k1
  by_cases ha : a1 = 1
  · subst ha
    replace HD : Hid (d = (0, fewer m (xs.eraseP (isC c) ++ [⟨c, i, r⟩]))) := HD.out.trans (if_pos rfl)
    have cp := rfind_any p1 c
    have P1 : Hid (Rt w1 B v m xs) := p1
    have K1 : Hid (Kept (fun _ => True) w w1) := k1
    clear p1 k1
    go_wp2_with fail
    refine Calls.mono cp ?_
    rintro e w2 ⟨⟨n, rfl, hn⟩, k2⟩
    clear cp
    have hlen : (xs.eraseP (isC c)).length ≤ 64 := Nat.le_trans List.length_eraseP_le hl
    go_upto_if 25 with fail
    go_cut [11] from 25 to 44 (fun _ wx => ∃ v', RSt w wx B v v' m (xs.eraseP (isC c)))
    case first =>
      rcases hn with ⟨rfl, hn⟩ | ⟨k, rfl, hs⟩
      · have S2 : Hid (RSt w w2 B v v m (xs.eraseP (isC c))) := by
          show RSt _ _ _ _ _ _ _
          rw [hn.erase]
          exact ((TStep.refl HP.out).ahead K1.out).ahead k2
        clear hn
        go_wp2_with fail
        go_meet
        exact ⟨_, S2.out⟩
      · have hlt := hs.lt
        have he := hs.erase
        have p2 := P1.out.all k2
        have S2 : Hid (RSt w w2 B v v m xs) := ((TStep.refl HP.out).ahead K1.out).ahead k2
        obtain ⟨ao, cap, rfl, hcap, -, hg⟩ := p2.shape
        obtain ⟨g, rfl⟩ := hg (by omega)
        obtain ⟨c0, c1, f0, f1⟩ := two_cell p2.self
        have lt2 := p2.lt
        have i0 : (0 : Int) ≤ (k : Int) := by omega
        obtain ⟨j, hj⟩ : ∃ j, j = k + 1 := ⟨_, rfl⟩
        obtain ⟨n1, hn1⟩ : ∃ n1, n1 = xs.length - 1 := ⟨_, rfl⟩
        have hw : IntKind.i64.wrap ((k : Int) + 1) = (j : Int) := by simp [IntKind.wrap, IntKind.bits, IntKind.signed]; omega
        have s2 := cut_front (g := g) (n := xs.length) (cap := cap) (k := k) (by omega) hcap
        obtain ⟨A, hA, s3⟩ := cut_back (g := g) (n := xs.length) (cap := cap) (j := j) (by omega) hcap
        have HA : Hid (A = (if cap = j then ⟨g, 0, none⟩ else ⟨g, j * 3, none⟩)) := hA
        have HO : Hid (w2.ownsRow 0 69 3 (.slice (some ⟨g, 0, none⟩) xs.length cap) xs.length (row false xs)) := p2.own
        have HC : Hid (xs.length ≤ cap) := hcap
        have t1 : Hid ((xs.take k).length = k) := by show _ = _; rw [List.length_take]; omega
        have t2 : Hid ((xs.drop j).length = xs.length - j) := by show _ = _; rw [List.length_drop]
        have t3 : Hid (k + (xs.length - j) = n1) := by show _ = _; omega
        have t4 : Hid (xs.take k ++ xs.drop j = xs.eraseP (isC c)) := by show _ = _; rw [he, hj, List.eraseIdx_eq_take_drop_succ]
        have t5 : Hid (k ≤ 64 ∧ n1 ≤ 64) := ⟨by omega, by omega⟩
        have t6 : Hid ((xs.eraseP (isC c)).length = n1) := by show _ = _; rw [he, List.length_eraseIdx_of_lt hlt, hn1]
        have P2 : Hid (Rt w2 B (.slice (some ⟨g, 0, none⟩) xs.length cap) m xs) := p2
        have u1 : ∀ W, Kept (fun _ => True) w2 W → W.cell? ⟨B, 1, none⟩ = some (.slice (some ⟨g, 0, none⟩) xs.length cap) := fun W q => cell_kept q c1 trivial
        have kd : Kept (fun _ => True) w2 w2.drew := (Kept.refl _ _).drewN 1
        clear hs he hA hg p2 hj hn1 c0 f0 hcap
        go_wp2_with fail
        go_region_law
          (first
            | (refine step_append_rows (p := false) Try.underlying65 Try.infoOne cells_oneV (by decide) ?_ (.tmp 27) (.tmp 33) ?_ w2.heap.size (.slice (some ⟨w2.heap.size, 0, none⟩) 0 0) 0 [] ?_ (own_new3 false _ w2.drew w2.heap.size (Nat.le_refl _)) (by simp) ⟨g, 0, none⟩ k cap (xs.take k) ?_ t1.out (src_front (own_kept3 HO.out (kd.alloc _) (fun _ _ => trivial)) k) (by have := t5.out; omega) k (by omega) ?_; rfl; rfl; rfl; rfl; intro a3 p3 w3 ho3 hg3 hl3; have k3 : Kept (fun _ => True) w2 w3 := (kd.alloc _).grown hg3 (fun q hq e _ => by simp [Value.ownBlock] at e; omega); have O3 : Hid (w3.ownsRow w2.heap.size 69 3 (.slice a3 k p3) k (row false ([] ++ xs.take k))) := ho3; have c3 := u1 w3 k3; clear ho3 hg3 hl3)
            | (refine step_append_rows (p := false) Try.underlying65 Try.infoOne cells_oneV (by decide) ?_ (.tmp 34) (.tmp 41) ?_ w2.heap.size (.slice a3 k p3) k ([] ++ xs.take k) ?_ O3.out k3.size A (xs.length - j) (cap - j) (xs.drop j) ?_ t2.out (src_back (own_kept3 HO.out k3 (fun _ _ => trivial)) HC.out j HA.out) (by have := t5.out; have := t3.out; omega) n1 t3.out ?_; rfl; rfl; rfl; rfl; intro a4 p4 w4 ho4 hg4 hl4; have k4 : Kept (fun _ => True) w2 w4 := k3.grown hg4 (fun q hq e _ => by have := (O3.out.lt q e).1; omega); have O4 : Hid (w4.ownsRow w2.heap.size 69 3 (.slice a4 n1 p4) n1 (row false (([] ++ xs.take k) ++ xs.drop j))) := ho4; have f4 : w4.frozen? ⟨B, 1, none⟩ = false := (kept_frozen k4 lt2 trivial).trans f1; have c4 := u1 w4 k4; clear ho4 hg4 hl4))
        all_goals
          go_wp2_with fail
          go_meet
          refine ⟨_, S2.out.trans (P2.out.swap (ys := xs.eraseP (isC c)) (nv := .slice a4 n1 p4) (k4.mono (fun _ _ _ => trivial)) (by have := own_zero3 O4.out; rw [List.nil_append, t4.out] at this; rw [t6.out]; exact this) (fun x hx => .inr (O4.out.lt x hx).1) (by have := t5.out; rw [t6.out]; omega))⟩
    case rest =>
    obtain ⟨v2, hS2⟩ := hcut
    have S2 : Hid (RSt w wc B v v2 m (xs.eraseP (isC c))) := hS2
    clear hS2 P1 K1 k2 HP hl hn
    generalize xs.eraseP (isC c) = ys at *
    obtain ⟨c0, c1, f0, f1⟩ := two_cell S2.out.now.self
    have lt2 := S2.out.now.lt
    go_wp2_with (at_builtin; refine wpList_append_last (p := false) Try.underlying65 Try.infoOne cells_oneV (by decide) rfl _ _ rfl _ ys.length ys rfl rfl (S2.out.now.all ((Kept.refl _ _).alloc _)).own _ rfl ⟨c, i, r⟩ (0, 0) (heap_alloc_new _ _) (by omega) ?_; intro ao3 cap3 w3 ho3 hg3 hat3; have g3 := S2.out.now.grow ((Kept.refl _ _).alloc _) rfl (by omega) ho3 hg3 hat3; have b3 := (hg3.block B (Nat.lt_of_lt_of_le lt2 ((Kept.refl (fun _ => True) _).alloc _).size) (Ne.symm S2.out.now.ne)).trans ((((Kept.refl (fun _ => True) wc).alloc _).block B lt2 trivial).trans S2.out.now.self); obtain ⟨-, c1', -, f1'⟩ := two_cell b3)
    have S3 : Hid (RSt w _ B v _ m (ys ++ [⟨c, i, r⟩])) := S2.out.trans g3
    obtain ⟨x0, x1, y0, y1⟩ := two_cell S3.out.now.self
    have lt3 := S3.out.now.lt
    have hlen3 : (ys ++ [(⟨c, i, r⟩ : La)]).length = ys.length + 1 := by simp
    clear S2 c0 c1 f0 f1 lt2 g3 b3 ho3 hg3 hat3 c1' f1'
    generalize w3.setCell ⟨B, 1, none⟩ (.slice ao3 (ys.length + 1) cap3) = w4 at *
    generalize ys ++ [(⟨c, i, r⟩ : La)] = zs at *
    by_cases hbig : m < (ys.length : Int) + 1
    · have hbig' : m < ((ys.length + 1 : Nat) : Int) := by omega
      have HF : Hid (fewer m zs = zs.drop 1) := by
        show _ = _
        unfold fewer
        rw [if_pos (by rw [hlen3]; exact hbig')]
      obtain ⟨g, rfl, hcap⟩ : ∃ g, ao3 = some ⟨g, 0, none⟩ ∧ ys.length + 1 ≤ cap3 := by
        obtain ⟨ao', cap', e, hc, -, hg⟩ := S3.out.now.shape
        obtain ⟨g, rfl⟩ := hg (by omega)
        injection e with e1 e2 e3
        subst e1 e3
        exact ⟨g, rfl, by omega⟩
      obtain ⟨A, hA, s3⟩ := cut_back (g := g) (n := ys.length + 1) (cap := cap3) (j := 1) (by omega) hcap
      replace s3 : ∀ w0, (Instr.slice 65 (.slice (some ⟨g, 0, none⟩) (ys.length + 1) cap3) (some (.int .i64 1)) none none).run Try.prog w0 = .ok (.slice (some A) ys.length (cap3 - 1)) w0 := s3
      have HA : Hid (A = (if cap3 = 1 then ⟨g, 0, none⟩ else ⟨g, 1 * 3, none⟩)) := hA
      have HO : Hid (w4.ownsRow 0 69 3 (.slice (some ⟨g, 0, none⟩) (ys.length + 1) cap3) zs.length (row false zs)) := S3.out.now.own
      have HZ : Hid (zs.length = ys.length + 1) := hlen3
      have q1 : ∀ n o, ((w4.drewN n).alloc o).cell? ⟨B, 1, none⟩ = some (.slice (some ⟨g, 0, none⟩) (ys.length + 1) cap3) := fun n o => cell_kept (((Kept.refl (fun _ => True) _).drewN n).alloc o) x1 trivial
      clear hA
      go_quiet (fail)
      go_wp2_with (at_builtin; refine wpList_append_rows (p := false) Try.underlying65 Try.infoOne cells_oneV (by decide) rfl _ _ rfl w4.heap.size (.slice (some ⟨w4.heap.size, 0, none⟩) 0 0) 0 [] rfl (own_new3 false _ (w4.drewN _) w4.heap.size (Nat.le_refl _)) (by simp) A ys.length (cap3 - 1) (zs.drop 1) rfl (by rw [List.length_drop, HZ.out]; omega) (src_back (own_kept3 HO.out (((Kept.refl (fun _ => True) _).drewN _).alloc _) (fun _ _ => trivial)) (by rw [HZ.out]; exact hcap) 1 HA.out) (by omega) ys.length (by omega) ?_; intro ao5 cap5 w5 ho5 hg5 hat5; have k5 : Kept (fun _ => True) w4 w5 := (((Kept.refl (fun _ => True) _).drewN _).alloc _).grown hg5 (fun k hk e _ => by simp [Value.ownBlock] at e; omega); have b5 := (k5.block B lt3 trivial).trans S3.out.now.self; obtain ⟨-, z1, -, z2⟩ := two_cell b5)
      have S5 := S3.out.now.swap (ys := zs.drop 1) (nv := .slice ao5 ys.length cap5) (k5.mono (fun _ _ _ => trivial)) (by have := own_zero3 ho5; rw [List.nil_append] at this; rw [List.length_drop, HZ.out]; exact this) (fun x hx => .inr (ho5.lt x hx).1) (by rw [List.length_drop, HZ.out]; omega)
      go_ret
      rw [HD.out, HF.out]
      exact ⟨rfl, _, S3.out.trans S5⟩
    · have hbig' : ¬ (m < ((ys.length + 1 : Nat) : Int)) := by omega
      have HF : Hid (fewer m zs = zs) := by
        show _ = _
        unfold fewer
        rw [if_neg (by rw [hlen3]; exact hbig')]
      go_quiet (fail)
      go_wp2_with fail
      go_ret
      rw [HD.out, HF.out]
      exact ⟨rfl, _, S3.out.ahead ((Kept.refl _ _).drewN _)⟩
  · have ha' : ((a1 : Int) == 1) = false := by simpa using (by omega : ¬ (a1 : Int) = 1)
    obtain rfl : d = (1, xs) := by rw [HD.out, if_neg ha]
    clear ha HD
    go_wp2_with fail
    go_ret
    exact ⟨rfl, v, (TStep.refl HP.out).ahead k1⟩

end Go.Proofs.Ytihfcmcpapgokaa
