/-
  The law GuardUses.
-/
import Derived.Test.YtpjfmgmhohpjmaaQMade2
import Derived.Test.YtpjfmgmhohpjmaaQ11
namespace Go.Proofs.Ytpjfmgmhohpjmaa
open Go.RowKit

theorem Vi.apart {w : World} {v : Value} {xs : List Int} (h : Vi w v xs) {w' : World} (k : Kept (fun _ => True) w w') {P : Nat} (hP : w.heap.size ≤ P) : Vp w' P v xs := by
  obtain ⟨ao, cap, e, h⟩ := h
  refine ⟨ao, cap, e, fun h0 => ?_⟩
  obtain ⟨b, off, e, hb, hc⟩ := h h0
  exact ⟨b, off, e, Nat.lt_of_lt_of_le hb k.size, by omega, fun i hi => (kept_cell k hb trivial).trans (hc i hi)⟩
/-- Names that are x and y alone, in order. -/
theorem two_names {us : List (List UInt8)} (h : Rises us) (hx : ∀ x ∈ us, x = [120] ∨ x = [121]) : us = [] ∨ us = [[120]] ∨ us = [[121]] ∨ us = [[120], [121]] := by
  have hle : ¬ (([121] : List UInt8) ≤ [120]) := by decide
  match us, h, hx with
  | [], _, _ => exact .inl rfl
  | [a], _, hx =>
    rcases hx a (by simp) with rfl | rfl
    · exact .inr (.inl rfl)
    · exact .inr (.inr (.inl rfl))
  | [a, b], h, hx =>
    have hab : a ≤ b ∧ a ≠ b := by unfold Rises at h; rw [List.pairwise_cons] at h; exact h.1 b (by simp)
    rcases hx a (by simp) with rfl | rfl <;> rcases hx b (by simp) with rfl | rfl
    · exact absurd rfl hab.2
    · exact .inr (.inr (.inr rfl))
    · exact absurd hab.1 hle
    · exact absurd rfl hab.2
  | a :: b :: c :: r, h, hx =>
    unfold Rises at h
    rw [List.pairwise_cons, List.pairwise_cons] at h
    have h1 := (h.1 b (by simp)).2
    have h2 := (h.1 c (by simp)).2
    have h3 := (h.2.1 c (by simp)).2
    rcases hx a (by simp) with rfl | rfl <;> rcases hx b (by simp) with rfl | rfl <;> rcases hx c (by simp) with rfl | rfl <;> simp_all
/-- A guard of x and y: what it is worth hangs on those of them alone that it uses. -/
theorem mk_hangs {s : List UInt8} (h : Mk 3 s) {us : List (List UInt8)} (hu : Us s us) {A B C x y U : Int} (hU : Va (env [[120], [121], [122]] [A, B, 0]) 3 (tx s) U) (hx : [120] ∈ us → x = A) (hy : [121] ∈ us → y = B) : evl [[120], [121], [122]] [x, y, C] s = (U, 0) ∧ (chk us s).1 = 0 := by
  have hl : s.length ≤ 51 := h.len
  obtain ⟨U', hU'⟩ := h.va (env [[120], [121], [122]] [x, y, C])
  have hin : ∀ z ∈ tx s, kd z = 3 → z ∈ us := fun z hz h3 => (hu.2 z).2 ⟨hz, (kd_name z).1 h3⟩
  have e : U = U' := hU.same hU' fun z hz h3 => by
    have hm := hin z hz h3
    rcases h.nm z hz h3 with rfl | rfl
    · show A = x
      exact (hx hm).symm
    · show B = y
      exact (hy hm).symm
  rw [e]
  refine ⟨h.evl (by decide) (by omega) (fun z hz h3 => ?_) (by simp) hU', h.chk (by decide) (by omega) hin⟩
  rcases h.nm z hz h3 with rfl | rfl <;> decide

theorem vi3 (W : World) (x y z : Int) : Vi (W.alloc (.cells #[.int .i64 x, .int .i64 y, .int .i64 z] 3)) (.slice (some ⟨W.heap.size, 0, none⟩) 3 3) [x, y, z] := Vi.new (xs := [x, y, z]) (cap := 3) (fr := (0, 0)) (heap_alloc_new W _)

set_option maxRecDepth 100000 in
set_option maxHeartbeats 4000000 in
theorem guardUses_any {w : World} {v : Value} {ls : List Int} (hl : Vi w v ls) (a b c : Int) :
    Calls Try.prog 6 #[v, .int .i64 a, .int .i64 b, .int .i64 c] w fun e w' => e = .returned (.bool true) ∧ Kept (fun _ => True) w w' := by
  have HL : Hid (Vi w v ls) := hl
  obtain ⟨ao, cap, rfl, -⟩ := hl
  have x1 := heap_alloc_new w (.cells #[.string ⟨#[120]⟩, .string ⟨#[121]⟩, .string ⟨#[122]⟩] 9)
  have HN : Hid (Ns (w.alloc (.cells #[.string ⟨#[120]⟩, .string ⟨#[121]⟩, .string ⟨#[122]⟩] 9)) (.slice (some ⟨w.heap.size, 0, none⟩) 3 3) [[120], [121], [122]]) := Ns.new (ns := [[120], [121], [122]]) (cap := 3) x1 (by decide)
  have HK1 : Hid (Kept (fun _ => True) w (w.alloc (.cells #[.string ⟨#[120]⟩, .string ⟨#[121]⟩, .string ⟨#[122]⟩] 9))) := (Kept.refl (fun _ => True) w).alloc _
  clear x1
  go_enter Try.func6, Try.ntmps6
  go_wp2_with fail
  generalize hW1 : w.alloc (.cells #[.string ⟨#[120]⟩, .string ⟨#[121]⟩, .string ⟨#[122]⟩] 9) = W1 at *
  have hsz : W1.heap.size = w.heap.size + 1 := by rw [← hW1]; simp
  have HZ : Hid (w.heap.size ≤ W1.heap.size) := by rw [hsz]; show _ ≤ _; omega
  rw [← hsz]
  clear hW1 hsz
  have hP0 := heap_alloc_new W1 (.cells #[.int .i64 0] 3)
  have HC0 : Hid (Kept (fun _ => True) W1 (W1.alloc (.cells #[.int .i64 0] 3))) := (Kept.refl (fun _ => True) W1).alloc _
  generalize hW2 : W1.alloc (.cells #[.int .i64 0] 3) = W2 at *
  clear hW2
  obtain ⟨P, hP⟩ : ∃ P, P = W1.heap.size := ⟨_, rfl⟩
  rw [← hP] at hP0 ⊢
  have HP : Hid (P = W1.heap.size) := hP
  have HPL : Hid (w.heap.size ≤ P) := by rw [hP]; exact HZ.out
  clear hP HZ
  have cm := made_any 3 (i := 0) (HL.out.apart (HK1.out.trans HC0.out) HPL.out) hP0 (by decide) (by decide)
  clear hP0
  refine Calls.mono cm ?_
  rintro e W3 ⟨⟨s, rfl, hM⟩, i1, hi1, hP1, hk3⟩
  clear cm
  have HC1 : Hid (Kept (fun _ => True) W1 W3) := HC0.out.fresh hk3 (by rw [HP.out]; exact Nat.le_refl _)
  have HM : Hid (Mk 3 s) := hM
  have hsl : s.length ≤ 51 := hM.len
  clear hP1 hk3 hM HC0 hi1
  obtain ⟨U, hU⟩ := HM.out.va (env [[120], [121], [122]] [a.tmod 50, b.tmod 50, 0])
  have HU : Hid (Va (env [[120], [121], [122]] [a.tmod 50, b.tmod 50, 0]) 3 (tx s) U) := hU
  have ce : ∀ (vs : List Int) (z : Int), evl [[120], [121], [122]] vs s = (z, 0) → ∀ W (vv : Value), Kept (fun _ => True) W1 W → Vi W vv vs → Calls Try.prog 11 #[.string ⟨s.toArray⟩, .slice (some ⟨w.heap.size, 0, none⟩) 3 3, vv] W fun e w' => e = .returned (.tuple #[.int .i64 z, .int .i64 0]) ∧ Kept (fun _ => True) W w' := by
    intro vs z hE W vv hk hv
    have := eval_any (HN.out.all hk) hv (s := s) (by omega)
    rw [hE] at this
    exact this
  have c1 := ce [a.tmod 50, b.tmod 50, 0] U (HM.out.evl (by decide) (by omega) (fun z hz h3 => by rcases HM.out.nm z hz h3 with rfl | rfl <;> decide) (by simp) hU) _ _ (HC1.out.alloc _) (vi3 W3 (a.tmod 50) (b.tmod 50) 0)
  have HC2 : Hid (Kept (fun _ => True) W1 (W3.alloc (.cells #[.int .i64 (a.tmod 50), .int .i64 (b.tmod 50), .int .i64 0] 3))) := HC1.out.alloc _
  have HCE : Hid _ := ce
  clear ce hU
  go_wp2_with fail
  refine Calls.mono c1 ?_
  rintro e W4 ⟨rfl, k4⟩
  clear c1
  have HC4 : Hid (Kept (fun _ => True) W1 W4) := HC2.out.trans k4
  have cu := fun W => uses_any (w := W) (s := s) (by omega)
  clear HC2 k4
  go_wp2_with fail
  refine Calls.mono (cu _) ?_
  rintro e W5 ⟨⟨uv, us, rfl, hus, hT⟩, k5⟩
  clear cu
  have HC5 : Hid (Kept (fun _ => True) W1 W5) := HC4.out.trans k5
  have HUS : Hid (Us s us) := hus
  have HT : Hid (Txs W5 W4.heap.size uv us) := hT
  have ck := fun W => known_any (w := W)
  clear k5
  have hcase := two_names hus.1 (fun x hx => HM.out.nm x ((hus.2 x).1 hx).1 ((kd_name x).2 ((hus.2 x).1 hx).2))
  clear hus
  obtain ⟨uao, ucap, rfl, -, hg⟩ := hT.shape
  clear hT
  rcases hcase with rfl | rfl | rfl | rfl
  · obtain ⟨e1, e2⟩ := mk_hangs HM.out HUS.out (C := c.tmod 50) (x := c.tmod 50) (y := c.tmod 50) HU.out (fun h => absurd h (by decide)) (fun h => absurd h (by decide))
    have cc := fun W (hk : Kept (fun _ => True) W5 W) => check_any ((HT.out.ns (by decide)).all hk) (s := s) (by omega)
    rw [e2] at cc
    have c2 := HCE.out [c.tmod 50, c.tmod 50, c.tmod 50] U e1 _ _ (HC5.out.alloc _) (vi3 W5 (c.tmod 50) (c.tmod 50) (c.tmod 50))
    have HA : Hid (Kept (fun _ => True) W5 (W5.alloc (.cells #[.int .i64 (c.tmod 50), .int .i64 (c.tmod 50), .int .i64 (c.tmod 50)] 3))) := (Kept.refl _ _).alloc _
    clear e1 e2
    generalize (chk [] s).2 = pos at *
    go_wp2_with fail
    refine Calls.mono c2 ?_
    rintro e W6 ⟨rfl, k6⟩
    clear c2
    have c3 := cc _ (HA.out.trans k6)
    have HC6 : Hid (Kept (fun _ => True) W1 W6) := (HC5.out.trans HA.out).trans k6
    clear cc k6 HA
    go_wp2_with fail
    refine Calls.mono c3 ?_
    rintro e W7 ⟨rfl, k7⟩
    have HC7 : Hid (Kept (fun _ => True) W1 W7) := HC6.out.trans k7
    clear c3 k7
    go_wp2_with fail
    refine Calls.mono (ck _) ?_
    rintro e W8 ⟨rfl, k8⟩
    go_wp2_with fail
    go_ret
    exact ⟨rfl, (HK1.out.trans HC7.out).trans k8⟩
  · obtain ⟨g, rfl⟩ := hg (by decide)
    have q0 := HT.out.cell 0 (by decide)
    simp only [List.getElem_cons_zero] at q0
    obtain ⟨e1, e2⟩ := mk_hangs HM.out HUS.out (C := c.tmod 50) (x := a.tmod 50) (y := c.tmod 50) HU.out (fun _ => rfl) (fun h => absurd h (by decide))
    have cc := fun W (hk : Kept (fun _ => True) W5 W) => check_any ((HT.out.ns (by decide)).all hk) (s := s) (by omega)
    rw [e2] at cc
    have c2 := HCE.out [a.tmod 50, c.tmod 50, c.tmod 50] U e1 _ _ (HC5.out.alloc _) (vi3 W5 (a.tmod 50) (c.tmod 50) (c.tmod 50))
    have HA : Hid (Kept (fun _ => True) W5 (W5.alloc (.cells #[.int .i64 (a.tmod 50), .int .i64 (c.tmod 50), .int .i64 (c.tmod 50)] 3))) := (Kept.refl _ _).alloc _
    clear e1 e2
    generalize (chk [[120]] s).2 = pos at *
    go_wp2_with fail
    refine Calls.mono c2 ?_
    rintro e W6 ⟨rfl, k6⟩
    clear c2
    have c3 := cc _ (HA.out.trans k6)
    have HC6 : Hid (Kept (fun _ => True) W1 W6) := (HC5.out.trans HA.out).trans k6
    clear cc k6 HA
    go_wp2_with fail
    refine Calls.mono c3 ?_
    rintro e W7 ⟨rfl, k7⟩
    have HC7 : Hid (Kept (fun _ => True) W1 W7) := HC6.out.trans k7
    clear c3 k7
    go_wp2_with fail
    refine Calls.mono (ck _) ?_
    rintro e W8 ⟨rfl, k8⟩
    go_wp2_with fail
    go_ret
    exact ⟨rfl, (HK1.out.trans HC7.out).trans k8⟩
  · obtain ⟨g, rfl⟩ := hg (by decide)
    have q0 := HT.out.cell 0 (by decide)
    simp only [List.getElem_cons_zero] at q0
    obtain ⟨e1, e2⟩ := mk_hangs HM.out HUS.out (C := c.tmod 50) (x := c.tmod 50) (y := b.tmod 50) HU.out (fun h => absurd h (by decide)) (fun _ => rfl)
    have cc := fun W (hk : Kept (fun _ => True) W5 W) => check_any ((HT.out.ns (by decide)).all hk) (s := s) (by omega)
    rw [e2] at cc
    have c2 := HCE.out [c.tmod 50, b.tmod 50, c.tmod 50] U e1 _ _ (HC5.out.alloc _) (vi3 W5 (c.tmod 50) (b.tmod 50) (c.tmod 50))
    have HA : Hid (Kept (fun _ => True) W5 (W5.alloc (.cells #[.int .i64 (c.tmod 50), .int .i64 (b.tmod 50), .int .i64 (c.tmod 50)] 3))) := (Kept.refl _ _).alloc _
    clear e1 e2
    generalize (chk [[121]] s).2 = pos at *
    go_wp2_with fail
    refine Calls.mono c2 ?_
    rintro e W6 ⟨rfl, k6⟩
    clear c2
    have c3 := cc _ (HA.out.trans k6)
    have HC6 : Hid (Kept (fun _ => True) W1 W6) := (HC5.out.trans HA.out).trans k6
    clear cc k6 HA
    go_wp2_with fail
    refine Calls.mono c3 ?_
    rintro e W7 ⟨rfl, k7⟩
    have HC7 : Hid (Kept (fun _ => True) W1 W7) := HC6.out.trans k7
    clear c3 k7
    go_wp2_with fail
    refine Calls.mono (ck _) ?_
    rintro e W8 ⟨rfl, k8⟩
    go_wp2_with fail
    go_ret
    exact ⟨rfl, (HK1.out.trans HC7.out).trans k8⟩
  · obtain ⟨g, rfl⟩ := hg (by decide)
    have q0 := HT.out.cell 0 (by decide)
    simp only [List.getElem_cons_zero] at q0
    have q1 := HT.out.cell 1 (by decide)
    simp only [List.getElem_cons_succ, List.getElem_cons_zero] at q1
    obtain ⟨e1, e2⟩ := mk_hangs HM.out HUS.out (C := c.tmod 50) (x := a.tmod 50) (y := b.tmod 50) HU.out (fun _ => rfl) (fun _ => rfl)
    have cc := fun W (hk : Kept (fun _ => True) W5 W) => check_any ((HT.out.ns (by decide)).all hk) (s := s) (by omega)
    rw [e2] at cc
    have c2 := HCE.out [a.tmod 50, b.tmod 50, c.tmod 50] U e1 _ _ (HC5.out.alloc _) (vi3 W5 (a.tmod 50) (b.tmod 50) (c.tmod 50))
    have HA : Hid (Kept (fun _ => True) W5 (W5.alloc (.cells #[.int .i64 (a.tmod 50), .int .i64 (b.tmod 50), .int .i64 (c.tmod 50)] 3))) := (Kept.refl _ _).alloc _
    clear e1 e2
    generalize (chk [[120], [121]] s).2 = pos at *
    go_wp2_with fail
    refine Calls.mono c2 ?_
    rintro e W6 ⟨rfl, k6⟩
    clear c2
    have c3 := cc _ (HA.out.trans k6)
    have HC6 : Hid (Kept (fun _ => True) W1 W6) := (HC5.out.trans HA.out).trans k6
    clear cc k6 HA
    go_wp2_with fail
    refine Calls.mono c3 ?_
    rintro e W7 ⟨rfl, k7⟩
    have HC7 : Hid (Kept (fun _ => True) W1 W7) := HC6.out.trans k7
    clear c3 k7
    go_wp2_with fail
    refine Calls.mono (ck _) ?_
    rintro e W8 ⟨rfl, k8⟩
    go_wp2_with fail
    go_ret
    exact ⟨rfl, (HK1.out.trans HC7.out).trans k8⟩

end Go.Proofs.Ytpjfmgmhohpjmaa
