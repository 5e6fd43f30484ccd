/-
  PaxosNumbers.
-/
import Derived.Test.YtpgoedpodfidjaaP8
namespace Go.Proofs.Ytpgoedpodfidjaa
open Go.RowKit

def nA : Pr := (Pr.new 1 3).sees 7
def nB : Pr := nA.begins 2
def nC : Pr := nB.promise 0 ⟨8, 1⟩ [⟨1, ⟨1, 0⟩, ⟨#[108, 111, 119]⟩⟩, ⟨3, ⟨2, 0⟩, ⟨#[111, 108, 100]⟩⟩, ⟨3, ⟨5, 2⟩, ⟨#[110, 101, 119]⟩⟩]
def nD : Pr := nC.promise 0 ⟨8, 1⟩ []
def nE : Pr := nD.promise 1 ⟨8, 1⟩ [⟨3, ⟨5, 2⟩, ⟨#[108, 97, 116, 101]⟩⟩]
def nF : Pr := nE.pick 3 ⟨#[109, 105, 110, 101]⟩
def nG : Pr := nF.pick 1 ⟨#[109, 105, 110, 101]⟩
def nH : Pr := nG.accept 0 ⟨8, 1⟩ 3
def nI : Pr := nH.accept 0 ⟨8, 1⟩ 3
def nJ : Pr := nI.accept 2 ⟨8, 1⟩ 3
def nK : Pr := nJ.accept 1 ⟨8, 1⟩ 4

theorem VR.three {w : World} {G : Nat} {x y z : Vo} (h : w.heap[G]? = some (.cells #[.int .i64 x.s, .int .i64 x.b.r, .int .i64 x.b.n, .string x.v, .int .i64 y.s, .int .i64 y.b.r, .int .i64 y.b.n, .string y.v, .int .i64 z.s, .int .i64 z.b.r, .int .i64 z.b.n, .string z.v] 33 (0, 0))) : VR w (.slice (some ⟨G, 0, none⟩) 3 3) [x, y, z] :=
  ⟨rfl, .inr ⟨G, 3, _, rfl, Nat.zero_le _, h, Nat.le_refl _, by decide, rfl, rfl⟩⟩

theorem Its.apart {w : World} {P n base : Nat} {v u : Value} {x : Pr} {l : List Nat} (h : Po w P v n x) (hv : Its w base u l) : ∀ k, u.ownBlock = some k → k ≠ P ∧ v.ownBlock ≠ some k := by
  intro k hk
  rcases hv.2 with ⟨rfl, _⟩ | ⟨g, cap, cur, rfl, _, hg, _⟩
  · simp [Value.ownBlock] at hk
  · simp [Value.ownBlock] at hk
    subst hk
    refine ⟨fun e => ?_, fun e => ?_⟩
    · subst e
      rw [h.self] at hg
      simp at hg
    · rcases h.row.2 with ⟨rfl, _⟩ | ⟨g', cap', cur', rfl, _, hg', _⟩
      · simp [Value.ownBlock] at e
      · simp [Value.ownBlock] at e
        subst e
        rw [hg] at hg'
        simp at hg'

set_option maxRecDepth 100000 in
set_option maxHeartbeats 2000000 in
theorem paxosNumbers_any {w : World} :
    Calls Try.prog 3 #[] w fun e w' => e = .returned (.bool true) ∧ Kept (fun _ => True) w w' := by
  go_enter Try.func3, Try.ntmps3
  go_wp2_with fail
  refine Calls.mono (pnew_bad (by decide)) ?_
  rintro e w ⟨rfl, rfl⟩
  go_wp2_with fail
  refine Calls.mono (pnew_bad (by decide)) ?_
  rintro e w ⟨rfl, rfl⟩
  go_wp2_with fail
  refine Calls.mono (pnew_any (by decide) (by decide) (by decide) (by decide)) ?_
  rintro e w1 ⟨P, rfl, h1, k1, rfl⟩
  have H1 : Hid (PM w w1 w.heap.size (.slice none 0 0) 0 (Pr.new 1 3)) := ⟨h1, k1, Nat.le_refl _, fun i e => by simp [Value.ownBlock] at e⟩
  clear h1 k1
  generalize w.heap.size = P at *
  go_wp2_with fail
  refine Calls.mono (pballot_any H1.out.po) ?_
  rintro e w2 ⟨rfl, k2⟩
  have H2 : Hid (PM w w2 P (.slice none 0 0) 0 (Pr.new 1 3)) := H1.out.ahead k2
  rw [show (Pr.new 1 3).b.r = 0 from rfl, show (Pr.new 1 3).b.n = 0 from rfl]
  clear H1 k2
  go_wp2_with fail
  have t3 := Two.made w2 0 0
  have k3 : Kept (fun _ => True) w2 (w2.alloc (.cells #[.int .i64 0, .int .i64 0] 27)) := (Kept.refl _ _).alloc _
  have O3 : Hid (w2.heap.size ≠ P ∧ (Value.slice none 0 0).ownBlock ≠ some w2.heap.size) := H2.out.po.off
  have H3 : Hid (PM w _ P (.slice none 0 0) 0 (Pr.new 1 3)) := H2.out.ahead k3
  have T3 : Hid (Two _ w2.heap.size 0 0) := t3
  clear k3 H2 t3
  generalize w2.alloc (.cells #[.int .i64 0, .int .i64 0] 27) = w3 at *
  generalize w2.heap.size = Z at *
  refine Calls.mono (pseen_any H3.out.po 7 2) ?_
  rintro e w4 ⟨rfl, h4, k4⟩
  have H4 : Hid (PM w w4 P (.slice none 0 0) 0 nA) := H3.out.self h4 k4
  have T4 : Hid (Two w4 Z 0 0) := T3.out.kept k4 O3.out.1
  clear h4 k4 H3 T3
  go_wp2_with fail
  refine Calls.mono (pbegin_any H4.out.po 2 (by decide)) ?_
  rintro e w5 ⟨rfl, h5, k5⟩
  have H5 : Hid (PM w w5 P (.slice none 0 0) 0 nB) := H4.out.begun h5 k5
  have T5 : Hid (Two w5 Z 0 0) := T4.out.kept k5 O3.out.1
  rw [show (nA.begins 2).b.r = 8 from by kernel_rfl, show (nA.begins 2).b.n = 1 from by kernel_rfl]
  clear h5 k5 H4 T4
  go_wp2_with fail
  have U6 : Hid (Two _ w5.heap.size 8 1) := Two.made w5 8 1
  have k6 : Kept (fun _ => True) w5 (w5.alloc (.cells #[.int .i64 8, .int .i64 1] 27)) := (Kept.refl _ _).alloc _
  have O6 : Hid (w5.heap.size ≠ P ∧ (Value.slice none 0 0).ownBlock ≠ some w5.heap.size) := H5.out.po.off
  have H6 : Hid (PM w _ P (.slice none 0 0) 0 nB) := H5.out.ahead k6
  have T6 : Hid (Two _ Z 0 0) := T5.out.kept k6 trivial
  have L6 : Hid ((w5.alloc (.cells #[.int .i64 8, .int .i64 1] 27)).heap.size = w5.heap.size + 1) := by show _ = _; simp
  clear k6 H5 T5
  generalize w5.alloc (.cells #[.int .i64 8, .int .i64 1] 27) = w6 at *
  generalize w5.heap.size = B at *
  have k7 : Kept (fun _ => True) w6 (w6.alloc (.cells #[.int .i64 1, .int .i64 1, .int .i64 0, .string ⟨#[108, 111, 119]⟩, .int .i64 3, .int .i64 2, .int .i64 0, .string ⟨#[111, 108, 100]⟩, .int .i64 3, .int .i64 5, .int .i64 2, .string ⟨#[110, 101, 119]⟩] 33)) := (Kept.refl _ _).alloc _
  have H7 : Hid (PM w _ P (.slice none 0 0) 0 nB) := H6.out.ahead k7
  have hV : VR (w6.alloc (.cells #[.int .i64 1, .int .i64 1, .int .i64 0, .string ⟨#[108, 111, 119]⟩, .int .i64 3, .int .i64 2, .int .i64 0, .string ⟨#[111, 108, 100]⟩, .int .i64 3, .int .i64 5, .int .i64 2, .string ⟨#[110, 101, 119]⟩] 33)) (.slice (some ⟨B + 1, 0, none⟩) 3 3) [⟨1, ⟨1, 0⟩, ⟨#[108, 111, 119]⟩⟩, ⟨3, ⟨2, 0⟩, ⟨#[111, 108, 100]⟩⟩, ⟨3, ⟨5, 2⟩, ⟨#[110, 101, 119]⟩⟩] := VR.three (by rw [← L6.out]; exact heap_alloc_new _ _)
  have T7 : Hid (Two _ Z 0 0) := T6.out.kept k7 trivial
  have U7 : Hid (Two _ B 8 1) := U6.out.kept k7 trivial
  refine Calls.mono (promise_any H7.out.po hV (by decide) 0 ⟨8, 1⟩) ?_
  rintro e w8 ⟨v8, n8, rfl, h8, s8⟩
  have H8 : Hid (PM w w8 P v8 n8 nC) := H7.out.step h8 s8
  have T8 : Hid (Two w8 Z 0 0) := T7.out.kept s8.kept O3.out
  have U8 : Hid (Two w8 B 8 1) := U7.out.kept s8.kept O6.out
  have O8 : Hid (Z ≠ P ∧ v8.ownBlock ≠ some Z) := s8.off O3.out T7.out.lt
  have Q8 : Hid (B ≠ P ∧ v8.ownBlock ≠ some B) := s8.off O6.out U7.out.lt
  clear h8 s8 hV k7 T7 T6 U7 U6 O3 O6 L6 H7 H6
  obtain ⟨u0, u1⟩ := U8.out
  go_wp2_with fail
  refine Calls.mono (promise_any H8.out.po (VR.nil _) (by decide) 0 ⟨8, 1⟩) ?_
  rintro e w9 ⟨v9, n9, rfl, h9, s9⟩
  have H9 : Hid (PM w w9 P v9 n9 nD) := H8.out.step h9 s9
  have T9 : Hid (Two w9 Z 0 0) := T8.out.kept s9.kept O8.out
  have U9 : Hid (Two w9 B 8 1) := U8.out.kept s9.kept Q8.out
  have O9 : Hid (Z ≠ P ∧ v9.ownBlock ≠ some Z) := s9.off O8.out T8.out.lt
  have Q9 : Hid (B ≠ P ∧ v9.ownBlock ≠ some B) := s9.off Q8.out U8.out.lt
  clear h9 s9 T8 U8 O8 Q8 H8 u0 u1
  go_wp2_with fail
  refine Calls.mono (led_any H9.out.po) ?_
  rintro e w10 ⟨rfl, d, hw⟩
  have kk : Kept (fun _ => True) w9 w10 := by rw [hw]; exact (Kept.refl _ _).drewN d
  rw [show nD.led = false from by kernel_rfl]
  have H10 : Hid (PM w w10 P v9 n9 nD) := H9.out.ahead kk
  have T10 : Hid (Two w10 Z 0 0) := T9.out.kept kk trivial
  have U10 : Hid (Two w10 B 8 1) := U9.out.kept kk trivial
  clear hw kk T9 U9 H9
  obtain ⟨v10, hv10⟩ : ∃ u, u = v9 := ⟨_, rfl⟩
  obtain ⟨n10, hn10⟩ : ∃ u, u = n9 := ⟨_, rfl⟩
  subst hv10 hn10
  have O10 := O9
  have Q10 := Q9
  clear O9 Q9
  obtain ⟨u0, u1⟩ := U10.out
  go_wp2_with fail
  have k11 : Kept (fun _ => True) w10 (w10.alloc (.cells #[.int .i64 3, .int .i64 5, .int .i64 2, .string ⟨#[108, 97, 116, 101]⟩] 33)) := (Kept.refl _ _).alloc _
  have H11 : Hid (PM w _ P v10 n10 nD) := H10.out.ahead k11
  have hV : VR (w10.alloc (.cells #[.int .i64 3, .int .i64 5, .int .i64 2, .string ⟨#[108, 97, 116, 101]⟩] 33)) (.slice (some ⟨w10.heap.size, 0, none⟩) 1 1) [⟨3, ⟨5, 2⟩, ⟨#[108, 97, 116, 101]⟩⟩] := VR.one (heap_alloc_new _ _)
  have T11 : Hid (Two _ Z 0 0) := T10.out.kept k11 trivial
  have U11 : Hid (Two _ B 8 1) := U10.out.kept k11 trivial
  refine Calls.mono (promise_any H11.out.po hV (by decide) 1 ⟨8, 1⟩) ?_
  rintro e w12 ⟨v12, n12, rfl, h12, s12⟩
  have H12 : Hid (PM w w12 P v12 n12 nE) := H11.out.step h12 s12
  have T12 : Hid (Two w12 Z 0 0) := T11.out.kept s12.kept O10.out
  have U12 : Hid (Two w12 B 8 1) := U11.out.kept s12.kept Q10.out
  have O12 : Hid (Z ≠ P ∧ v12.ownBlock ≠ some Z) := s12.off O10.out T11.out.lt
  have Q12 : Hid (B ≠ P ∧ v12.ownBlock ≠ some B) := s12.off Q10.out U11.out.lt
  clear h12 s12 hV k11 T11 T10 U11 U10 O10 Q10 H11 H10 u0 u1
  obtain ⟨u0, u1⟩ := U12.out
  go_wp2_with fail
  refine Calls.mono (pick_any H12.out.po 3 ⟨#[109, 105, 110, 101]⟩) ?_
  rintro e w13 ⟨v13, n13, rfl, h13, s13⟩
  have H13 : Hid (PM w w13 P v13 n13 nF) := H12.out.step h13 s13
  have T13 : Hid (Two w13 Z 0 0) := T12.out.kept s13.kept O12.out
  have U13 : Hid (Two w13 B 8 1) := U12.out.kept s13.kept Q12.out
  have O13 : Hid (Z ≠ P ∧ v13.ownBlock ≠ some Z) := s13.off O12.out T12.out.lt
  have Q13 : Hid (B ≠ P ∧ v13.ownBlock ≠ some B) := s13.off Q12.out U12.out.lt
  rw [show nE.may 3 = true from by kernel_rfl, show nE.picks 3 ⟨#[109, 105, 110, 101]⟩ = ⟨#[110, 101, 119]⟩ from by kernel_rfl]
  clear h13 s13 T12 U12 O12 Q12 H12 u0 u1
  obtain ⟨u0, u1⟩ := U13.out
  go_wp2_with fail
  refine Calls.mono (pick_any H13.out.po 1 ⟨#[109, 105, 110, 101]⟩) ?_
  rintro e w14 ⟨v14, n14, rfl, h14, s14⟩
  have H14 : Hid (PM w w14 P v14 n14 nG) := H13.out.step h14 s14
  have T14 : Hid (Two w14 Z 0 0) := T13.out.kept s14.kept O13.out
  have U14 : Hid (Two w14 B 8 1) := U13.out.kept s14.kept Q13.out
  have O14 : Hid (Z ≠ P ∧ v14.ownBlock ≠ some Z) := s14.off O13.out T13.out.lt
  have Q14 : Hid (B ≠ P ∧ v14.ownBlock ≠ some B) := s14.off Q13.out U13.out.lt
  rw [show nF.may 1 = false from by kernel_rfl]
  generalize nF.picks 1 ⟨#[109, 105, 110, 101]⟩ = junk
  clear h14 s14 T13 U13 O13 Q13 H13 u0 u1
  go_wp2_with fail
  refine Calls.mono (open_any H14.out.po) ?_
  rintro e w15 ⟨u15, rfl, i15, k15⟩
  rw [show nG.opens = [3] from by kernel_rfl] at i15
  have H15 : Hid (PM w w15 P v14 n14 nG) := H14.out.ahead k15
  have T15 : Hid (Two w15 Z 0 0) := T14.out.kept k15 trivial
  have U15 : Hid (Two w15 B 8 1) := U14.out.kept k15 trivial
  have I15 : Hid (Its w15 w14.heap.size u15 [3]) := i15
  have J15 : Hid (∀ k, u15.ownBlock = some k → k ≠ P ∧ v14.ownBlock ≠ some k) := Its.apart H15.out.po i15
  obtain ⟨v15, hv15⟩ : ∃ u, u = v14 := ⟨_, rfl⟩
  obtain ⟨n15, hn15⟩ : ∃ u, u = n14 := ⟨_, rfl⟩
  subst hv15 hn15
  have O15 := O14
  have Q15 := Q14
  clear k15 i15 H14 T14 U14 O14 Q14
  obtain ⟨u0, u1⟩ := U15.out
  go_wp2_with fail
  refine Calls.mono (accepted_any H15.out.po 0 ⟨8, 1⟩ 3) ?_
  rintro e w16 ⟨v16, n16, rfl, h16, s16⟩
  have H16 : Hid (PM w w16 P v16 n16 nH) := H15.out.step h16 s16
  have T16 : Hid (Two w16 Z 0 0) := T15.out.kept s16.kept O15.out
  have U16 : Hid (Two w16 B 8 1) := U15.out.kept s16.kept Q15.out
  have O16 : Hid (Z ≠ P ∧ v16.ownBlock ≠ some Z) := s16.off O15.out T15.out.lt
  have Q16 : Hid (B ≠ P ∧ v16.ownBlock ≠ some B) := s16.off Q15.out U15.out.lt
  rw [show nG.accepts 0 ⟨8, 1⟩ 3 = false from by kernel_rfl]
  have I16 : Hid (Its w16 w14.heap.size u15 [3]) := I15.out.kept s16.kept J15.out
  have J16 : Hid (∀ k, u15.ownBlock = some k → k ≠ P ∧ v16.ownBlock ≠ some k) := fun k hk => s16.off (J15.out k hk) (World.ownsRow.lt I15.out k hk).2
  clear I15 J15
  clear h16 s16 T15 U15 O15 Q15 H15 u0 u1
  obtain ⟨u0, u1⟩ := U16.out
  go_wp2_with fail
  refine Calls.mono (accepted_any H16.out.po 0 ⟨8, 1⟩ 3) ?_
  rintro e w17 ⟨v17, n17, rfl, h17, s17⟩
  have H17 : Hid (PM w w17 P v17 n17 nI) := H16.out.step h17 s17
  have T17 : Hid (Two w17 Z 0 0) := T16.out.kept s17.kept O16.out
  have U17 : Hid (Two w17 B 8 1) := U16.out.kept s17.kept Q16.out
  have O17 : Hid (Z ≠ P ∧ v17.ownBlock ≠ some Z) := s17.off O16.out T16.out.lt
  have Q17 : Hid (B ≠ P ∧ v17.ownBlock ≠ some B) := s17.off Q16.out U16.out.lt
  rw [show nH.accepts 0 ⟨8, 1⟩ 3 = false from by kernel_rfl]
  have I17 : Hid (Its w17 w14.heap.size u15 [3]) := I16.out.kept s17.kept J16.out
  have J17 : Hid (∀ k, u15.ownBlock = some k → k ≠ P ∧ v17.ownBlock ≠ some k) := fun k hk => s17.off (J16.out k hk) (World.ownsRow.lt I16.out k hk).2
  clear I16 J16
  clear h17 s17 T16 U16 O16 Q16 H16 u0 u1
  obtain ⟨u0, u1⟩ := U17.out
  go_wp2_with fail
  refine Calls.mono (accepted_any H17.out.po 2 ⟨8, 1⟩ 3) ?_
  rintro e w18 ⟨v18, n18, rfl, h18, s18⟩
  have H18 : Hid (PM w w18 P v18 n18 nJ) := H17.out.step h18 s18
  have T18 : Hid (Two w18 Z 0 0) := T17.out.kept s18.kept O17.out
  have U18 : Hid (Two w18 B 8 1) := U17.out.kept s18.kept Q17.out
  have O18 : Hid (Z ≠ P ∧ v18.ownBlock ≠ some Z) := s18.off O17.out T17.out.lt
  have Q18 : Hid (B ≠ P ∧ v18.ownBlock ≠ some B) := s18.off Q17.out U17.out.lt
  rw [show nI.accepts 2 ⟨8, 1⟩ 3 = true from by kernel_rfl]
  have I18 : Hid (Its w18 w14.heap.size u15 [3]) := I17.out.kept s18.kept J17.out
  have J18 : Hid (∀ k, u15.ownBlock = some k → k ≠ P ∧ v18.ownBlock ≠ some k) := fun k hk => s18.off (J17.out k hk) (World.ownsRow.lt I17.out k hk).2
  clear I17 J17
  clear h18 s18 T17 U17 O17 Q17 H17 u0 u1
  obtain ⟨u0, u1⟩ := U18.out
  go_wp2_with fail
  refine Calls.mono (accepted_any H18.out.po 1 ⟨8, 1⟩ 4) ?_
  rintro e w19 ⟨v19, n19, rfl, h19, s19⟩
  have H19 : Hid (PM w w19 P v19 n19 nK) := H18.out.step h19 s19
  have T19 : Hid (Two w19 Z 0 0) := T18.out.kept s19.kept O18.out
  have U19 : Hid (Two w19 B 8 1) := U18.out.kept s19.kept Q18.out
  have O19 : Hid (Z ≠ P ∧ v19.ownBlock ≠ some Z) := s19.off O18.out T18.out.lt
  have Q19 : Hid (B ≠ P ∧ v19.ownBlock ≠ some B) := s19.off Q18.out U18.out.lt
  rw [show nJ.accepts 1 ⟨8, 1⟩ 4 = false from by kernel_rfl]
  have I19 : Hid (Its w19 w14.heap.size u15 [3]) := I18.out.kept s19.kept J18.out
  have J19 : Hid (∀ k, u15.ownBlock = some k → k ≠ P ∧ v19.ownBlock ≠ some k) := fun k hk => s19.off (J18.out k hk) (World.ownsRow.lt I18.out k hk).2
  clear I18 J18
  clear h19 s19 T18 U18 O18 Q18 H18 u0 u1
  obtain ⟨u0, u1⟩ := U19.out
  obtain ⟨z0, z1⟩ := T19.out
  go_wp2_with fail
  refine Calls.mono (led_any H19.out.po) ?_
  rintro e w20 ⟨rfl, d, hw⟩
  have k20 : Kept (fun _ => True) w19 w20 := by rw [hw]; exact (Kept.refl _ _).drewN d
  rw [show nK.led = true from by kernel_rfl]
  have H20 : Hid (PM w w20 P v19 n19 nK) := H19.out.ahead k20
  have I20 : Hid (Its w20 w14.heap.size u15 [3]) := I19.out.kept k20 (fun _ _ => trivial)
  clear hw k20 H19 I19 T19 U19 u0 u1 z0 z1
  go_wp2_with fail
  have k21 : Kept (fun _ => True) w20 (w20.alloc (.cells #[.int .i64 3] 3)) := (Kept.refl _ _).alloc _
  refine Calls.mono (isame_any (I20.out.kept k21 (fun _ _ => trivial)) (Its.one (k := 3) (heap_alloc_new _ _)) (by decide)) ?_
  rintro e w22 ⟨rfl, d2, hw2⟩
  have k22 : Kept (fun _ => True) w20 w22 := by rw [hw2]; exact k21.drewN d2
  have H22 : Hid (PM w w22 P v19 n19 nK) := H20.out.ahead k22
  clear hw2 k22 k21 H20 I20
  go_wp2_with fail
  refine Calls.mono (open_any H22.out.po) ?_
  rintro e w23 ⟨u23, rfl, i23, k23⟩
  rw [show nK.opens = [] from by kernel_rfl] at i23
  have H23 : Hid (PM w w23 P v19 n19 nK) := H22.out.ahead k23
  obtain ⟨ia, ic, rfl⟩ := i23.shape
  clear i23 k23 H22
  go_wp2_with fail
  refine Calls.mono pknown_any ?_
  rintro e w24 ⟨rfl, k24⟩
  go_wp2
  go_ret
  exact ⟨rfl, H23.out.kept.trans k24⟩

end Go.Proofs.Ytpgoedpodfidjaa
