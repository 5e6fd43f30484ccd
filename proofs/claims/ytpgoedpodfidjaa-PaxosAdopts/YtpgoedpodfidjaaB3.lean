/-
  Prepare, Accept.
-/
import Derived.Test.YtpgoedpodfidjaaB2
import Derived.Deep.CutRange
import Derived.Deep.RegionHeld
namespace Go.Proofs.Ytpgoedpodfidjaa
open Go.RowKit

theorem ac_set {w : World} {b : Nat} {x y z : Value} {t : TypeId} (h : w.heap[b]? = some (.cells #[x, y, z] t (0, 0))) (u v : Value) :
    ((w.setCell ⟨b, 0, none⟩ u).setCell ⟨b, 1, none⟩ v).heap[b]? = some (.cells #[u, v, z] t (0, 0)) := by
  have hlt := lt_of_block h
  have h' : w.heap[b] = .cells #[x, y, z] t (0, 0) := by simpa [Array.getElem?_eq_getElem hlt] using h
  have h1 : (w.setCell ⟨b, 0, none⟩ u).heap[b]? = some (.cells #[u, y, z] t (0, 0)) := by
    show (w.heap.modify b _)[b]? = _
    rw [Array.getElem?_eq_getElem (by simpa using hlt), Array.getElem_modify_self, h']
    rfl
  generalize w.setCell ⟨b, 0, none⟩ u = w1 at *
  have hlt1 := lt_of_block h1
  have h1' : w1.heap[b] = .cells #[u, y, z] t (0, 0) := by simpa [Array.getElem?_eq_getElem hlt1] using h1
  show (w1.heap.modify b _)[b]? = _
  rw [Array.getElem?_eq_getElem (by simpa using hlt1), Array.getElem_modify_self, h1']
  rfl

theorem Ac.promise {w : World} {A M n : Nat} {p : Bl} {f : Vs} (h : Ac w A M n p f) (q : Bl) :
    Ac ((w.setCell ⟨A, 0, none⟩ (.int .i64 q.r)).setCell ⟨A, 1, none⟩ (.int .i64 q.n)) A M n q f ∧ Kept (fun x => x ≠ A ∧ x ≠ M) w ((w.setCell ⟨A, 0, none⟩ (.int .i64 q.r)).setCell ⟨A, 1, none⟩ (.int .i64 q.n)) := by
  have k : Kept (fun x => x ≠ A) w ((w.setCell ⟨A, 0, none⟩ (.int .i64 q.r)).setCell ⟨A, 1, none⟩ (.int .i64 q.n)) := ((Kept.refl _ _).setCell (by simp) _).setCell (by simp) _
  exact ⟨⟨ac_set h.self _ _, h.mp.kept k (Ne.symm h.ne)⟩, k.mono (fun _ _ h => h.1)⟩

theorem bcell {w : World} {b : Nat} {x y : Value} {t : TypeId} {fr : Nat × Nat} (h : w.heap[b]? = some (.cells #[x, y] t fr)) :
    w.cell? ⟨b, 0, none⟩ = some x ∧ w.cell? ⟨b, 1, none⟩ = some y := ⟨by simp [World.cell?, h], by simp [World.cell?, h]⟩
theorem cell_kept {p : Nat → Prop} {w w' : World} {a : Addr} {v : Value} (k : Kept p w w') (h : w.cell? a = some v) (hp : p a.block) : w'.cell? a = some v :=
  (World.cell?_of_block (w := w) (k.block a.block (World.block_lt_of_cell? w _ h) hp)).trans h

set_option maxHeartbeats 1000000 in
theorem prepare_any {w : World} {A M n : Nat} {p : Bl} {f : Vs} (h : Ac w A M n p f) (b : Bl) (a : Int) :
    Calls Try.prog 21 #[.pointer (some ⟨A, 0, none⟩), .agg #[.int .i64 b.r, .int .i64 b.n], .int .i64 a] w fun e w' => ∃ v, e = .returned (.tuple #[.bool (less p b), v]) ∧ VR w' v (if less p b = true then votesFrom f a else []) ∧ Ac w' A M n (if less p b = true then b else p) f ∧ Kept (fun x => x ≠ A ∧ x ≠ M) w w' ∧ (∀ k, v.ownBlock = some k → w.heap.size ≤ k) := by
  have HA : Hid (Ac w A M n p f) := h
  clear h
  have c := fun W => less_any (w := W) p b
  generalize less p b = L at c ⊢
  go_enter Try.func21, Try.ntmps21
  go_upto_if 14 with fail
  have k1 : Kept (fun _ => True) w (w.alloc (.cells #[.int .i64 b.r, .int .i64 b.n] 27)) := (Kept.refl _ _).alloc _
  have hb := heap_alloc_new w (.cells #[.int .i64 b.r, .int .i64 b.n] 27)
  generalize w.alloc (.cells #[.int .i64 b.r, .int .i64 b.n] 27) = w1 at *
  have hB : w.heap.size ≤ w.heap.size := Nat.le_refl _
  generalize hBe : w.heap.size = B at hb ⊢
  have ha := HA.out.all k1
  have Ha : Hid (Ac w1 A M n p f) := ha
  obtain ⟨c0, c1, c2, f0, f1, f2⟩ := acell ha.self
  obtain ⟨d0, d1⟩ := bcell hb
  have hc0 : ∀ W, Kept (fun _ => True) w1 W → W.cell? ⟨A, 0, none⟩ = some (.int .i64 p.r) := fun W k => cell_kept k c0 trivial
  have hc1 : ∀ W, Kept (fun _ => True) w1 W → W.cell? ⟨A, 1, none⟩ = some (.int .i64 p.n) := fun W k => cell_kept k c1 trivial
  have hd0 : ∀ W, Kept (fun _ => True) w1 W → W.cell? ⟨B, 0, none⟩ = some (.int .i64 b.r) := fun W k => cell_kept k d0 trivial
  have hd1 : ∀ W, Kept (fun _ => True) w1 W → W.cell? ⟨B, 1, none⟩ = some (.int .i64 b.n) := fun W k => cell_kept k d1 trivial
  have kd : Kept (fun _ => True) w1 w1.drew := (Kept.refl _ _).drewN 1
  have HB : Hid (w1.heap[B]? = some (.cells #[.int .i64 b.r, .int .i64 b.n] 27)) := hb
  clear ha c0 c1 c2 f0 f1 f2 d0 d1 hb
  go_cut [14] from 8 to 13 (fun t wx => t = .bool (!L) ∧ Kept (fun _ => True) w1 wx)
  case first =>
    go_wp2_with fail
    go_region_held (fun W => Kept (fun _ => True) w1 W) (assumption) (first | (go_at_call 34; refine Calls.mono (c _) ?_; rintro e w2 ⟨rfl, k2⟩; have k2' : Kept (fun _ => True) w1 w2 := kd.trans k2))
    all_goals (go_wp2_with fail; go_meet; exact ⟨rfl, k2'⟩)
  case rest =>
  obtain ⟨rfl, kc⟩ := hcut
  cases L
  · go_wp2
    go_ret2
    exact ⟨_, rfl, VR.nil _, HA.out.all (k1.trans kc), (k1.trans kc).mono (fun _ _ _ => trivial), fun k hk => by simp [Value.ownBlock] at hk⟩
  · have e0 := hd0 _ kc
    have e1 := hd1 _ kc
    have ha := Ha.out.all kc
    obtain ⟨c0, c1, c2, f0, f1, f2⟩ := acell ha.self
    have c' := votes_any (ha.promise b).1 a
    go_wp2_with (go_at_call 24; refine Calls.mono c' ?_; rintro e w3 ⟨v, rfl, v1, v2, v3⟩)
    go_ret2
    have hp := ha.promise b
    have k3 : Kept (fun x => x ≠ A ∧ x ≠ M) w w3 := ((k1.trans kc).mono (fun _ _ _ => trivial)).trans (hp.2.trans (v2.mono (fun _ _ _ => trivial)))
    exact ⟨v, rfl, v1, hp.1.all v2, k3, fun k hk => by have := v3 k hk; have := (k1.trans kc).size; have := hp.2.size; omega⟩

set_option maxRecDepth 100000 in
set_option maxHeartbeats 1000000 in
theorem accept_any {w : World} {A M n : Nat} {p : Bl} {f : Vs} (h : Ac w A M n p f) (hn : n < 1000000) (b : Bl) (slot : Int) (v : ByteArray) (bad : Bool) (hbad : bad = (decide (slot < 0) || decide (512 ≤ slot) || !less ⟨0, 0⟩ b || less b p)) :
    Calls Try.prog 23 #[.pointer (some ⟨A, 0, none⟩), .agg #[.int .i64 b.r, .int .i64 b.n], .int .i64 slot, .string v] w fun e w' => e = .returned (.bool (!bad)) ∧ Ac w' A M (n + 1) (if bad = true then p else b) (if bad = true then f else upd f slot.toNat b v) ∧ Kept (fun x => x ≠ A ∧ x ≠ M) w w' := by
  have HA : Hid (Ac w A M n p f) := h
  clear h
  have c := fun W => less_any (w := W) b p
  have c' := fun W => mayVote_any (w := W) b
  generalize less b p = L at c hbad
  generalize less ⟨0, 0⟩ b = L' at c' hbad
  go_enter Try.func23, Try.ntmps23
  go_upto_if 27 with fail
  have k1 : Kept (fun _ => True) w (w.alloc (.cells #[.int .i64 b.r, .int .i64 b.n] 27)) := (Kept.refl _ _).alloc _
  have hb := heap_alloc_new w (.cells #[.int .i64 b.r, .int .i64 b.n] 27)
  generalize w.alloc (.cells #[.int .i64 b.r, .int .i64 b.n] 27) = w1 at *
  have hAB : A ≠ w.heap.size ∧ M ≠ w.heap.size := ⟨Nat.ne_of_lt HA.out.lt, Nat.ne_of_lt HA.out.mlt⟩
  generalize w.heap.size = B at hb hAB ⊢
  have ha := HA.out.all k1
  have Ha : Hid (Ac w1 A M n p f) := ha
  obtain ⟨c0, c1, c2, f0, f1, f2⟩ := acell ha.self
  obtain ⟨d0, d1⟩ := bcell hb
  have hc0 : ∀ W, Kept (fun _ => True) w1 W → W.cell? ⟨A, 0, none⟩ = some (.int .i64 p.r) := fun W k => cell_kept k c0 trivial
  have hc1 : ∀ W, Kept (fun _ => True) w1 W → W.cell? ⟨A, 1, none⟩ = some (.int .i64 p.n) := fun W k => cell_kept k c1 trivial
  have hd0 : ∀ W, Kept (fun _ => True) w1 W → W.cell? ⟨B, 0, none⟩ = some (.int .i64 b.r) := fun W k => cell_kept k d0 trivial
  have hd1 : ∀ W, Kept (fun _ => True) w1 W → W.cell? ⟨B, 1, none⟩ = some (.int .i64 b.n) := fun W k => cell_kept k d1 trivial
  have kd : Kept (fun _ => True) w1 w1.drew := (Kept.refl _ _).drewN 1
  have HB : Hid (w1.heap[B]? = some (.cells #[.int .i64 b.r, .int .i64 b.n] 27)) := hb
  clear ha c0 c1 c2 f0 f1 f2 d0 d1 hb
  go_cut [27] from 9 to 26 (fun t wx => t = .bool bad ∧ Kept (fun _ => True) w1 wx)
  case first =>
    cases h1 : decide (slot < 0)
    case true =>
      go_wp2_with fail
      go_quiet (fail)
      go_wp2_with fail
      go_meet
      exact ⟨by simp [hbad, h1], (Kept.refl _ _).drewN _⟩
    case false =>
      cases h2 : decide (512 ≤ slot)
      case true =>
        go_wp2_with fail
        go_quiet (fail)
        go_wp2_with fail
        go_meet
        exact ⟨by simp [hbad, h2], (Kept.refl _ _).drewN _⟩
      case false =>
        cases L'
        · go_wp2_with fail
          have hd0' := hd0 _ kd
          have hd1' := hd1 _ kd
          first
          | (go_region_with (first | (go_at_call 35; refine Calls.mono (c' _) ?_; rintro e w2 ⟨rfl, k2⟩; have k2' : Kept (fun _ => True) w1 w2 := kd.trans k2)))
          | fail
          all_goals (go_wp2_with fail; go_meet; exact ⟨by simp [hbad], k2'⟩)
        · go_wp2_with fail
          go_region_held (fun W => Kept (fun _ => True) w1 W) (assumption) (first
            | (go_at_call 35; refine Calls.mono (c' _) ?_; rintro e w2 ⟨rfl, k2⟩; have k2' : Kept (fun _ => True) w1 w2 := kd.trans k2)
            | (go_at_call 34; refine Calls.mono (c _) ?_; rintro e w3 ⟨rfl, k3⟩; have k3' : Kept (fun _ => True) w1 w3 := k2'.trans k3))
          all_goals (go_wp2_with fail; go_meet; exact ⟨by simp [hbad, h1, h2], k3'⟩)
  case rest =>
  obtain ⟨ht, kc⟩ := hcut
  subst ht
  clear c c' kd
  cases hbd : bad
  · rw [hbd] at hbad
    have hs : 0 ≤ slot ∧ slot < 512 := by
      simp at hbad
      omega
    clear hbad
    subst hbd
    obtain ⟨s, rfl⟩ : ∃ s : Nat, slot = s := ⟨slot.toNat, by omega⟩
    have e0 := hd0 _ kc
    have e1 := hd1 _ kc
    have ha := Ha.out.all kc
    obtain ⟨c0, c1, c2, f0, f1, f2⟩ := acell ha.self
    have hp := ha.promise b
    obtain ⟨w4, hu, m4, k4, -⟩ := (hp.1.mp.kept (Kept.refl (fun _ => True) _).drew trivial).store (by omega : s < 512) hn b v
    have HK : Hid (Kept (fun _ => True) w wc) := k1.trans kc
    have HP : Hid (Ac ((wc.setCell ⟨A, 0, none⟩ (.int .i64 b.r)).setCell ⟨A, 1, none⟩ (.int .i64 b.n)) A M n b f) := hp.1
    have HQ : Hid (Kept (fun x => x ≠ A ∧ x ≠ M) wc ((wc.setCell ⟨A, 0, none⟩ (.int .i64 b.r)).setCell ⟨A, 1, none⟩ (.int .i64 b.n))) := hp.2
    have HM : Hid (Mp w4 M (n + 1) (upd f s b v)) := m4
    have H4 : Hid (Kept (· ≠ M) ((wc.setCell ⟨A, 0, none⟩ (.int .i64 b.r)).setCell ⟨A, 1, none⟩ (.int .i64 b.n)) w4) := ((Kept.refl _ _).drew).trans k4
    have hne := ha.ne
    clear hd0 hd1 hc0 hc1 hp m4 k4 kc k1 ha Ha HB
    go_wp2_with fail
    have x2 := (acell HP.out.self).2.2.1
    have x0 : ((wc.setCell ⟨A, 0, none⟩ (.int .i64 b.r)).setCell ⟨A, 1, none⟩ (.int .i64 b.n)).cell? ⟨B, 0, none⟩ = some (.int .i64 b.r) := cell_kept HQ.out e0 ⟨Ne.symm hAB.1, Ne.symm hAB.2⟩
    have x1 : ((wc.setCell ⟨A, 0, none⟩ (.int .i64 b.r)).setCell ⟨A, 1, none⟩ (.int .i64 b.n)).cell? ⟨B, 1, none⟩ = some (.int .i64 b.n) := cell_kept HQ.out e1 ⟨Ne.symm hAB.1, Ne.symm hAB.2⟩
    clear e0 e1 c0 c1 c2 f0 f1 f2
    generalize (wc.setCell ⟨A, 0, none⟩ (.int .i64 b.r)).setCell ⟨A, 1, none⟩ (.int .i64 b.n) = w3 at *
    have y2 : ∀ W, Kept (· ≠ M) w3 W → W.cell? ⟨A, 2, none⟩ = some (.map (some M)) := fun W k => cell_kept k x2 hne
    have y0 : ∀ W, Kept (· ≠ M) w3 W → W.cell? ⟨B, 0, none⟩ = some (.int .i64 b.r) := fun W k => cell_kept k x0 (Ne.symm hAB.2)
    have y1 : ∀ W, Kept (· ≠ M) w3 W → W.cell? ⟨B, 1, none⟩ = some (.int .i64 b.n) := fun W k => cell_kept k x1 (Ne.symm hAB.2)
    clear x0 x1 x2
    have kd : Kept (· ≠ M) w3 w3.drew := (Kept.refl _ _).drew
    have h4 : Kept (· ≠ M) w3 w4 := H4.out
    go_region_held (fun W => Kept (· ≠ M) w3 W) (assumption) (fail)
    all_goals
      go_wp2
      go_ret
      have k9 : Kept (fun x => x ≠ A ∧ x ≠ M) w w4 := (HK.out.mono (fun _ _ _ => trivial)).trans (HQ.out.trans (H4.out.mono (fun _ _ h => h.2)))
      refine ⟨rfl, ⟨?_, ?_⟩, k9⟩
      · exact (H4.out.block A HP.out.lt hne).trans HP.out.self
      · simpa using HM.out
  · clear hbad
    go_wp2
    go_ret
    exact ⟨rfl, (HA.out.all (k1.trans kc)).mono (Nat.le_succ _), (k1.trans kc).mono (fun _ _ _ => trivial)⟩

end Go.Proofs.Ytpgoedpodfidjaa
