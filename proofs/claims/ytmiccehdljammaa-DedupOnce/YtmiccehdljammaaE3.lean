/-
  The program's table: Ask, Done, Clients.
-/
import Derived.Test.YtmiccehdljammaaE2
import Derived.Test.YtmiccehdljammaaWStr
namespace Go.Proofs.Ytmiccehdljammaa
open Go.RowKit

set_option maxRecDepth 100000 in
set_option maxHeartbeats 1000000 in
theorem ask_any {w : World} {B : Nat} {v : Value} {m : Int} {xs : List La} (h : Pt w B v m xs) (c : List UInt8) (id : Int) :
    Calls Try.prog 5 #[.pointer (some ⟨B, 0, none⟩), .string ⟨c.toArray⟩, .int .i64 id] w fun e w' => e = .returned (.tuple #[.int .i64 ((ask xs c id).1 : Nat), .string ⟨(ask xs c id).2.toArray⟩]) ∧ Kept (fun _ => True) w w' := by
  have HP : Hid (Pt w B v m xs) := h
  have cp := place_any h c
  clear h
  generalize hA : ask xs c id = a
  have HA : Hid (ask xs c id = a) := hA
  clear hA
  go_enter Try.func5, Try.ntmps5
  go_wp2_with fail
  refine Calls.mono cp ?_
  rintro e w1 ⟨⟨n, rfl, hn⟩, k1⟩
  clear cp
  rcases hn with ⟨rfl, hn⟩ | ⟨k, rfl, hs⟩
  · obtain rfl := HA.out.symm.trans (hn.ask id)
    clear hn HA
    go_wp2_with fail
    go_ret2
    exact ⟨rfl, k1⟩
  · have hlt := hs.lt
    have ea := HA.out.symm.trans (hs.ask id)
    have p1 := HP.out.all k1
    obtain ⟨ao, cap, rfl, -, -, hg⟩ := p1.shape
    obtain ⟨g, rfl⟩ := hg (by omega)
    obtain ⟨c0, c1, f0, f1⟩ := two_cell p1.self
    obtain ⟨y0, y1, y2⟩ := lay_cells p1.own k hlt
    have hm := p1.most
    have i1 : (k : Int) < (xs.length : Int) := by omega
    have i0 : ¬ ((k : Int) < 0) := by omega
    have i2 : (0 : Int) ≤ (k : Int) := by omega
    have B1 := p1.lt
    generalize xs[k] = x at *
    clear hg p1 hs HA
    by_cases q1 : x.i < id
    · rw [if_pos q1] at ea
      subst ea
      go_wp2_with fail
      go_ret2
      exact ⟨rfl, k1⟩
    · rw [if_neg q1] at ea
      by_cases q2 : id = x.i
      · rw [if_pos q2] at ea
        subst ea q2
        go_wp2_with fail
        go_quiet (fail)
        go_wp2_with fail
        go_ret2
        exact ⟨rfl, k1.drewN _⟩
      · rw [if_neg q2] at ea
        subst ea
        have q3 : (id == x.i) = false := beq_eq_false_iff_ne.2 q2
        clear q2
        go_wp2_with fail
        go_ret2
        exact ⟨rfl, k1⟩

set_option maxRecDepth 100000 in
set_option maxHeartbeats 1000000 in
theorem done_tb {w : World} {B : Nat} {v : Value} {m : Int} {xs : List La} (h : Pt w B v m xs) (hl : xs.length ≤ 64) (_ : 0 ≤ m) (x : La) :
    Calls Try.prog 6 #[.pointer (some ⟨B, 0, none⟩), .string ⟨x.c.toArray⟩, .int .i64 x.i, .string ⟨x.r.toArray⟩] w fun e w' => e = .returned (.int .i64 ((done m xs x).1 : Nat)) ∧ ∃ v', PS w w' B v v' m (done m xs x).2 := by
  have HP : Hid (Pt w B v m xs) := h
  obtain ⟨c, i, r⟩ := x
  have ca := ask_any h c i
  clear h
  generalize hD : done m xs ⟨c, i, r⟩ = d
  have hD' : d = if (ask xs c i).1 = 1 then (0, fewer m (xs.eraseP (isC c) ++ [⟨c, i, r⟩])) else (1, xs) := hD.symm
  generalize ask xs c i = a at ca hD'
  have HD : Hid (d = if a.1 = 1 then (0, fewer m (xs.eraseP (isC c) ++ [⟨c, i, r⟩])) else (1, xs)) := hD'
  clear hD hD'
  obtain ⟨a1, a2⟩ := a
  go_enter Try.func6, Try.ntmps6
  go_wp2_with fail
  refine Calls.mono ca ?_
  rintro e w1 ⟨rfl, k1⟩
  clear ca
  have p1 := HP.out.all k1
  by_cases ha : a1 = 1
  · subst ha
    replace HD : Hid (d = (0, fewer m (xs.eraseP (isC c) ++ [⟨c, i, r⟩]))) := HD.out.trans (if_pos rfl)
    have cp := place_any p1 c
    have P1 : Hid (Pt w1 B v m xs) := p1
    have K1 : Hid (Kept (fun _ => True) w w1) := k1
    clear p1 k1
    go_wp2_with fail
    refine Calls.mono cp ?_
    rintro e w2 ⟨⟨n, rfl, hn⟩, k2⟩
    clear cp
    have hlen : (xs.eraseP (isC c)).length ≤ 64 := Nat.le_trans List.length_eraseP_le hl
    rcases hn with ⟨rfl, hn⟩ | ⟨k, rfl, hs⟩
    · have S2 : Hid (PS w w2 B v v m (xs.eraseP (isC c))) := by
        show PS _ _ _ _ _ _ _
        rw [hn.erase]
        exact ((TStep.refl HP.out).ahead K1.out).ahead k2
      clear hn
      clear P1 K1 k2 HP hl
      generalize xs.eraseP (isC c) = ys at *
      obtain ⟨c0, c1, f0, f1⟩ := two_cell S2.out.now.self
      have lt2 := S2.out.now.lt
      go_wp2_with (at_builtin; refine wpList_append_last (p := true) Try.underlying32 Try.infoLast cells_last (by decide) rfl _ _ rfl _ ys.length ys rfl rfl (S2.out.now.all ((Kept.refl _ _).alloc _)).own _ rfl ⟨c, i, r⟩ (0, 0) (heap_alloc_new _ _) (by omega) ?_; intro ao3 cap3 w3 ho3 hg3 hat3; have g3 := S2.out.now.grow ((Kept.refl _ _).alloc _) rfl (by omega) ho3 hg3 hat3; have b3 := (hg3.block B (Nat.lt_of_lt_of_le lt2 ((Kept.refl (fun _ => True) _).alloc _).size) (Ne.symm S2.out.now.ne)).trans ((((Kept.refl (fun _ => True) w2).alloc _).block B lt2 trivial).trans S2.out.now.self); obtain ⟨-, c1', -, f1'⟩ := two_cell b3)
      have S3 : Hid (PS w _ B v _ m (ys ++ [⟨c, i, r⟩])) := S2.out.trans g3
      obtain ⟨x0, x1, -, -⟩ := two_cell S3.out.now.self
      have lt3 := S3.out.now.lt
      have hlen3 : (ys ++ [(⟨c, i, r⟩ : La)]).length = ys.length + 1 := by simp
      clear S2 c0 c1 f0 f1 lt2 g3 b3 ho3 hg3 hat3 c1' f1'
      generalize w3.setCell ⟨B, 1, none⟩ (.slice ao3 (ys.length + 1) cap3) = w4 at *
      generalize ys ++ [(⟨c, i, r⟩ : La)] = zs at *
      by_cases hbig : m < (ys.length : Int) + 1
      · have hbig' : m < ((ys.length + 1 : Nat) : Int) := by omega
        have HF : Hid (fewer m zs = zs.eraseIdx 0) := by
          show _ = _
          unfold fewer
          rw [if_pos (by rw [hlen3]; exact hbig')]
          cases zs <;> rfl
        go_quiet (fail)
        go_wp2_with fail
        refine Calls.mono (forget_any (S3.out.ahead ((Kept.refl _ _).drewN _)).now 0 (by omega)) ?_
        rintro e w5 ⟨rfl, v5, s5⟩
        go_wp2_with fail
        go_ret
        rw [HD.out, HF.out]
        exact ⟨rfl, v5, (S3.out.ahead ((Kept.refl _ _).drewN _)).trans s5⟩
      · have hbig' : ¬ (m < ((ys.length + 1 : Nat) : Int)) := by omega
        have HF : Hid (fewer m zs = zs) := by
          show _ = _
          unfold fewer
          rw [if_neg (by rw [hlen3]; exact hbig')]
        go_quiet (fail)
        go_wp2_with fail
        go_ret
        rw [HD.out, HF.out]
        exact ⟨rfl, _, S3.out.ahead ((Kept.refl _ _).drewN _)⟩
    · have cf := forget_any (P1.out.all k2) k hs.lt
      rw [← hs.erase] at cf
      have i0 : (0 : Int) ≤ (k : Int) := by omega
      clear hs
      go_wp2_with fail
      refine Calls.mono cf ?_
      rintro e w2' ⟨rfl, v', s2⟩
      have S2 : Hid (PS w w2' B v v' m (xs.eraseP (isC c))) := (((TStep.refl HP.out).ahead K1.out).ahead k2).trans s2
      clear cf s2
      clear P1 K1 k2 HP hl
      generalize xs.eraseP (isC c) = ys at *
      obtain ⟨c0, c1, f0, f1⟩ := two_cell S2.out.now.self
      have lt2 := S2.out.now.lt
      go_wp2_with (at_builtin; refine wpList_append_last (p := true) Try.underlying32 Try.infoLast cells_last (by decide) rfl _ _ rfl _ ys.length ys rfl rfl (S2.out.now.all ((Kept.refl _ _).alloc _)).own _ rfl ⟨c, i, r⟩ (0, 0) (heap_alloc_new _ _) (by omega) ?_; intro ao3 cap3 w3 ho3 hg3 hat3; have g3 := S2.out.now.grow ((Kept.refl _ _).alloc _) rfl (by omega) ho3 hg3 hat3; have b3 := (hg3.block B (Nat.lt_of_lt_of_le lt2 ((Kept.refl (fun _ => True) _).alloc _).size) (Ne.symm S2.out.now.ne)).trans ((((Kept.refl (fun _ => True) w2').alloc _).block B lt2 trivial).trans S2.out.now.self); obtain ⟨-, c1', -, f1'⟩ := two_cell b3)
      have S3 : Hid (PS w _ B v _ m (ys ++ [⟨c, i, r⟩])) := S2.out.trans g3
      obtain ⟨x0, x1, -, -⟩ := two_cell S3.out.now.self
      have lt3 := S3.out.now.lt
      have hlen3 : (ys ++ [(⟨c, i, r⟩ : La)]).length = ys.length + 1 := by simp
      clear S2 c0 c1 f0 f1 lt2 g3 b3 ho3 hg3 hat3 c1' f1'
      generalize w3.setCell ⟨B, 1, none⟩ (.slice ao3 (ys.length + 1) cap3) = w4 at *
      generalize ys ++ [(⟨c, i, r⟩ : La)] = zs at *
      by_cases hbig : m < (ys.length : Int) + 1
      · have hbig' : m < ((ys.length + 1 : Nat) : Int) := by omega
        have HF : Hid (fewer m zs = zs.eraseIdx 0) := by
          show _ = _
          unfold fewer
          rw [if_pos (by rw [hlen3]; exact hbig')]
          cases zs <;> rfl
        go_quiet (fail)
        go_wp2_with fail
        refine Calls.mono (forget_any (S3.out.ahead ((Kept.refl _ _).drewN _)).now 0 (by omega)) ?_
        rintro e w5 ⟨rfl, v5, s5⟩
        go_wp2_with fail
        go_ret
        rw [HD.out, HF.out]
        exact ⟨rfl, v5, (S3.out.ahead ((Kept.refl _ _).drewN _)).trans s5⟩
      · have hbig' : ¬ (m < ((ys.length + 1 : Nat) : Int)) := by omega
        have HF : Hid (fewer m zs = zs) := by
          show _ = _
          unfold fewer
          rw [if_neg (by rw [hlen3]; exact hbig')]
        go_quiet (fail)
        go_wp2_with fail
        go_ret
        rw [HD.out, HF.out]
        exact ⟨rfl, _, S3.out.ahead ((Kept.refl _ _).drewN _)⟩
  · have ha' : ((a1 : Int) == 1) = false := by simpa using (by omega : ¬ (a1 : Int) = 1)
    obtain rfl : d = (1, xs) := by rw [HD.out, if_neg ha]
    clear ha HD
    go_wp2_with fail
    go_ret
    exact ⟨rfl, v, (TStep.refl HP.out).ahead k1⟩

end Go.Proofs.Ytmiccehdljammaa
