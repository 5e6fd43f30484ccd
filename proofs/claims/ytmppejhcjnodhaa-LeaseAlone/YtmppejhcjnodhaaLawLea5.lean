/-
  LeaseAlone: of two who ask three granters never both may answer alone at one time.
-/
import Derived.Test.YtmppejhcjnodhaaGAlone2
import Derived.Deep.CutRange
import Derived.Deep.RegionHeld
namespace Go.Proofs.Ytmppejhcjnodhaa
open Go.RowKit

set_option maxRecDepth 100000 in
set_option maxHeartbeats 4000000 in
theorem leaseAlone_any {w : World} (z : Int) {a a2 : Option Addr} {na ca na2 ca2 : Nat} (ha : IsInts w a na) (ha2 : IsAsks w a2 na2) :
    Calls Try.prog 7 #[.int .i64 z, .slice a na ca, .slice a2 na2 ca2] w fun e w' => e = .returned (.bool true) ∧ Kept (fun _ => True) w w' := by
  have HS : Hid (IsInts w a na) := ha
  have HS2 : Hid (IsAsks w a2 na2) := ha2
  clear ha ha2
  go_enter Try.func7, Try.ntmps7
  go_wp2_with fail
  refine (within_any z 500 (by omega) (by omega) _).mono ?_
  rintro e w ⟨⟨r, r0, r1, rfl⟩, rfl⟩
  have hr : Hid (Dr r) := ⟨r0, r1⟩
  go_upto_region 4 with fail
  have H1 : Hid (L1 w ((w.alloc (.cells #[.pointer none, .pointer none, .pointer none] 56)).alloc (.cells #[.int .i64 0, .int .i64 0, .int .i64 0, .int .i64 0, .int .i64 0] 57)) w.heap.size (w.heap.size + 1) r (fun _ => 0) 0) := by
    have k1 : Kept (fun _ => True) w (w.alloc (.cells #[.pointer none, .pointer none, .pointer none] 56)) := (Kept.refl _ _).alloc _
    have a1 : Af _ w.heap.size 56 3 (fun _ => .pointer none) := heap_alloc_new w (.cells #[.pointer none, .pointer none, .pointer none] 56)
    have s1 : (w.alloc (.cells #[.pointer none, .pointer none, .pointer none] 56)).heap.size = w.heap.size + 1 := by simp
    generalize w.alloc (.cells #[.pointer none, .pointer none, .pointer none] 56) = w1 at *
    have k2 : Kept (fun _ => True) w1 (w1.alloc (.cells #[.int .i64 0, .int .i64 0, .int .i64 0, .int .i64 0, .int .i64 0] 57)) := (Kept.refl _ _).alloc _
    have a2 : Af _ w1.heap.size 57 5 (fun _ => .int .i64 0) := heap_alloc_new w1 (.cells #[.int .i64 0, .int .i64 0, .int .i64 0, .int .i64 0, .int .i64 0] 57)
    rw [s1] at a2
    exact ⟨k1.trans k2, a1.kept k2 trivial, a2, fun j hj => by omega, Nat.le_refl _, by omega⟩
  generalize ((w.alloc (.cells #[.pointer none, .pointer none, .pointer none] 56)).alloc (.cells #[.int .i64 0, .int .i64 0, .int .i64 0, .int .i64 0, .int .i64 0] 57)) = w2 at *
  generalize w.heap.size + 1 = R at *
  generalize w.heap.size = A at *
  go_wp2_with fail
  go_loopw [9] (fun t wr => ∃ (i : Nat) (rate : Nat → Int), i ≤ 5 ∧ t = .int .i64 i ∧ L1 w wr A R r rate i) (fun t _ => 5 - (intOf t).toNat)
  case atStart => exact ⟨0, _, by omega, rfl, H1.out⟩
  case round =>
    obtain ⟨i, rate, hi, rfl, h1⟩ := hrel
    have H : Hid (L1 w wr A R r rate i) := h1
    clear h1 H1
    by_cases hi5 : i < 5
    · have g5 : (i : Int) < 5 := by omega
      have g0 : (0 : Int) ≤ (i : Int) := by omega
      have af := H.out.rt.free i
      have ac := H.out.rt.cell hi5
      have al := H.out.rt.lt
      have H2 : Hid (L1 w (wr.setCell ⟨R, i, none⟩ (.int .i64 1000)) A R r (put rate i 1000) i) := H.out.store 1000
      by_cases hin : i < na
      · have g1 : (i : Int) < (na : Int) := by omega
        obtain ⟨b, off, x, rfl, _, hx⟩ := int_at HS.out hin
        have y0 := hx _ H2.out.kept
        have af2 := H2.out.rt.free i
        have ac2 := H2.out.rt.cell hi5
        have al2 := H2.out.rt.lt
        clear hx
        go_wp2_with fail
        refine (within_any x (2 * r) (by omega) (by omega) _).mono ?_
        rintro e w3 ⟨⟨y, h0, h1, rfl⟩, rfl⟩
        have H3 : Hid (L1 w _ A R r (put (put rate i 1000) i (1000 + y - r)) i) := H2.out.store (1000 + y - r)
        go_wp2_with fail
        go_roundw
        case rel => exact ⟨i + 1, _, by omega, by go_num, H3.out.next (by rw [put_same]; omega)⟩
        case measure => simp [intOf]; omega
      · have g1 : ¬ (i : Int) < (na : Int) := by omega
        go_wp2_with fail
        go_roundw
        case rel => exact ⟨i + 1, _, by omega, by go_num, H2.out.next (by rw [put_same]; omega)⟩
        case measure => simp [intOf]; omega
    · have e5 : Hid (i = 5) := show i = 5 by omega
      have g5 : ¬ (i : Int) < 5 := by omega
      obtain ⟨rate', hrate, H2⟩ : ∃ rate', Hid (Rates r rate') ∧ Hid (L2 w wr A R (fun _ => 0) rate' 0) := by
        refine ⟨fun j => if j < 5 then rate j else 1000, ?_, ⟨H.out.kept, fun n hn => by omega, H.out.arr, H.out.rt.congr (fun j hj => by rw [if_pos hj]), fun n m hn => by omega, fun n hn => by omega, H.out.a0⟩⟩
        intro j
        by_cases e : j < 5
        · simp only [if_pos e]
          exact H.out.ok j (by have := e5.out; omega)
        · simp only [if_neg e]
          omega
      clear H HS hi5 rate e5
      go_wp2_with fail
      go_loopw [10] (fun t wx => ∃ (i : Nat) (bl : Nat → Nat), i ≤ 3 ∧ t = .int .i64 i ∧ L2 w wx A R bl rate' i) (fun t _ => 3 - (intOf t).toNat)
      case atStart => exact ⟨0, _, by omega, rfl, H2.out⟩
      case round =>
        obtain ⟨i, bl, hi, rfl, h2⟩ := hrel
        have H : Hid (L2 w wr A R bl rate' i) := h2
        clear h2 H2
        by_cases hi3 : i < 3
        · have g5 : (i : Int) < 3 := by omega
          have g0 : (0 : Int) ≤ (i : Int) := by omega
          go_wp2_with fail
          refine (new_ok r hr.out).mono ?_
          rintro e w3 ⟨rfl, h3, k3⟩
          have H3 : Hid (L2 w _ A R (put bl i wr.heap.size) rate' (i + 1)) := H.out.new h3 k3
          have a3 := H.out.arr.kept k3 trivial
          have af := a3.free i
          have ac := a3.cell hi3
          have al := a3.lt
          clear h3 k3 a3
          generalize wr.heap.size = B at *
          go_wp2_with fail
          go_roundw
          case rel => exact ⟨i + 1, _, by omega, by go_num, H3.out⟩
          case measure => simp [intOf]; omega
        · have e3 : i = 3 := by omega
          have E3 : Hid (i = 3) := e3
          have g5 : ¬ (i : Int) < 3 := by omega
          clear hi3 e3
          go_upto_region 19 with fail
          have HA : Hid (AL w (((wr.alloc (.cells #[.int .i64 0, .int .i64 0] 58)).alloc (.cells #[.int .i64 0, .int .i64 0] 58)).alloc (.cells #[.int .i64 0, .int .i64 0] 58)) A R wr.heap.size (wr.heap.size + 1) (wr.heap.size + 1 + 1) bl rate' St.new) := by
            have k1 : Kept (fun _ => True) wr (wr.alloc (.cells #[.int .i64 0, .int .i64 0] 58)) := (Kept.refl _ _).alloc _
            have a1 : Af _ wr.heap.size 58 2 (fun _ => .int .i64 0) := heap_alloc_new wr (.cells #[.int .i64 0, .int .i64 0] 58)
            have s1 : (wr.alloc (.cells #[.int .i64 0, .int .i64 0] 58)).heap.size = wr.heap.size + 1 := by simp
            generalize wr.alloc (.cells #[.int .i64 0, .int .i64 0] 58) = w3 at *
            have k2 : Kept (fun _ => True) w3 (w3.alloc (.cells #[.int .i64 0, .int .i64 0] 58)) := (Kept.refl _ _).alloc _
            have a2 : Af _ w3.heap.size 58 2 (fun _ => .int .i64 0) := heap_alloc_new w3 (.cells #[.int .i64 0, .int .i64 0] 58)
            have s2 : (w3.alloc (.cells #[.int .i64 0, .int .i64 0] 58)).heap.size = w3.heap.size + 1 := by simp
            generalize w3.alloc (.cells #[.int .i64 0, .int .i64 0] 58) = w4 at *
            have k3 : Kept (fun _ => True) w4 (w4.alloc (.cells #[.int .i64 0, .int .i64 0] 58)) := (Kept.refl _ _).alloc _
            have a3 : Af _ w4.heap.size 58 2 (fun _ => .int .i64 0) := heap_alloc_new w4 (.cells #[.int .i64 0, .int .i64 0] 58)
            rw [s2, s1] at a3
            rw [s1] at a2
            have k := (k1.trans k2).trans k3
            have hs := H.out.kept.size
            have E := E3.out
            subst E
            refine ⟨H.out.kept.trans k, fun n hn => (H.out.gr n hn).kept k trivial, (H.out.arr.congr (fun j hj => by rw [if_pos hj])).kept k trivial, H.out.rt.kept k trivial, (a1.kept k2 trivial).kept k3 trivial, a2.kept k3 trivial, a3, by omega, by omega, by omega, H.out.bb, H.out.old, by omega, by omega, by omega⟩
          generalize (((wr.alloc (.cells #[.int .i64 0, .int .i64 0] 58)).alloc (.cells #[.int .i64 0, .int .i64 0] 58)).alloc (.cells #[.int .i64 0, .int .i64 0] 58)) = w5 at *
          generalize wr.heap.size + 1 + 1 = U at *
          generalize wr.heap.size + 1 = G at *
          generalize wr.heap.size = K at *
          clear H E3
          go_wp2_with fail
          go_loopw [16, 17] (fun t u wy => ∃ (i : Nat) (now : Int) (s : St), i ≤ 120 ∧ t = .int .i64 now ∧ now ≤ 20 * (i : Int) ∧ u = .int .i64 i ∧ AL w wy A R K G U bl rate' s ∧ Inv r rate' now s) (fun _ u _ => 120 - (intOf u).toNat)
          case atStart => exact ⟨0, 0, _, by omega, rfl, by omega, rfl, HA.out, Inv.start _ _⟩
          case round =>
            obtain ⟨i, now, s, hi, rfl, hnow, rfl, hA, hI⟩ := hrel
            have H : Hid (AL w wr A R K G U bl rate' s) := hA
            have HI : Hid (Inv r rate' now s) := hI
            have n0 := hI.now0
            clear hA hI HA
            by_cases hlt : i < na2 ∧ i < 120
            · obtain ⟨b, off, y, rfl, hy⟩ := ask_at HS2.out hlt.1
              have g3 : (i : Int) < (na2 : Int) := by omega
              have g4 : (i : Int) < 120 := by omega
              have g0 : (0 : Int) ≤ (i : Int) := by omega
              obtain ⟨y0, y1, y2, y3⟩ := hy wr H.out.kept
              obtain ⟨kind, node, tm, num⟩ := y
              simp only at y0 y1 y2 y3
              clear hlt hy
              go_wp2_with fail
              refine (within_any tm 20 (by omega) (by omega) _).mono ?_
              rintro e wr ⟨⟨d, d0, d1, rfl⟩, rfl⟩
              go_wp2_with fail
              have HI2 : Hid (Inv r rate' (now + d) s) := HI.out.later hr.out hrate.out (by omega)
              have t0 : 0 ≤ now + d ∧ now + d ≤ 20 * ((i : Int) + 1) := by omega
              clear HI hnow
              generalize now + d = T at *
              refine (within_any node 1 (by omega) (by omega) _).mono ?_
              rintro e wr ⟨⟨k0, k00, k01, rfl⟩, rfl⟩
              obtain ⟨k, rfl⟩ : ∃ k : Nat, k0 = (k : Int) := ⟨k0.toNat, by omega⟩
              go_wp2_with fail
              refine (within_any num 2 (by omega) (by omega) _).mono ?_
              rintro e wr ⟨⟨m0, m00, m01, rfl⟩, rfl⟩
              obtain ⟨n, rfl⟩ : ∃ n : Nat, m0 = (n : Int) := ⟨m0.toNat, by omega⟩
              have k2 : (k : Int) < 2 := by omega
              have hk2 : k < 2 := by omega
              have hn3 : n < 3 := by omega
              have xa := H.out.ask.cell hk2
              have asz := HI2.out.asked k
              obtain ⟨c, hc⟩ : ∃ c : Bool, Hid (c = (decide (kind = 1) || decide (s.asked k = 0))) := ⟨_, rfl⟩
              go_upto_region 26 with fail
              go_cut [105] from 94 to 104 (fun t wx => t = .bool c ∧ wr = wx)
              case first =>
                by_cases h1 : kind = 1
                · subst h1
                  go_wp2_with fail
                  go_meet
                  exact ⟨by rw [hc.out]; simp, rfl⟩
                · have e1 : (kind == 1) = false := by simpa using h1
                  by_cases h2 : s.asked k = 0
                  · have e2 : (s.asked k == 0) = true := by simpa using h2
                    go_wp2_with fail
                    go_meet
                    exact ⟨by rw [hc.out]; simp [h2], rfl⟩
                  · have e2 : (s.asked k == 0) = false := by simpa using h2
                    go_wp2_with fail
                    go_meet
                    exact ⟨by rw [hc.out]; simp [h1, h2], rfl⟩
              case rest =>
              obtain ⟨rfl, rfl⟩ := hcut
              clear y0 y1 y2 y3
              go_upto_if 105 with fail
              go_cut [20, 21] from 105 to 176 (fun _ _ wx => ∃ s', AL w wx A R K G U bl rate' s' ∧ Inv r rate' T s')
              case first =>
                cases c with
                | true =>
                  have af := H.out.ask.free k
                  have al := H.out.ask.lt
                  have H3 : Hid (AL w (wr.setCell ⟨K, k, none⟩ (.int .i64 (T + 1))) A R K G U bl rate' ⟨s.g, put s.asked k (T + 1), s.got, s.til⟩) := H.out.setAsk k (T + 1)
                  have bf := H3.out.got.free k
                  have bc := H3.out.got.cell hk2
                  have bl2 := H3.out.got.lt
                  have H4 : Hid (AL w _ A R K G U bl rate' ⟨s.g, put s.asked k (T + 1), put s.got k 0, s.til⟩) := H3.out.setGot k 0
                  have HI3 : Hid (Inv r rate' T ⟨s.g, put s.asked k (T + 1), put s.got k 0, s.til⟩) := HI2.out.ask k
                  go_wp2_with fail
                  go_meet
                  exact ⟨_, H4.out, HI3.out⟩
                | false =>
                  have ak : 1 ≤ s.asked k := by
                    have := hc.out
                    simp at this
                    omega
                  have kd : Kept (fun y => y = A ∨ y = R) wr wr.drew := (Kept.refl _ _).drew
                  have HD : Hid (AL w wr.drew A R K G U bl rate' s) := H.out.ahead (Kept.refl _ _).drew
                  obtain ⟨q, hq, hq2⟩ : ∃ q : Nat, (2 : Int) + (n : Int) = (q : Int) ∧ Hid (q = 2 + n) := ⟨2 + n, by omega, rfl⟩
                  have q5 : (q : Int) < 5 := by omega
                  have q0 : (0 : Int) ≤ (q : Int) := by omega
                  have wq : IntKind.i64.wrap (q : Int) = (q : Int) := wrap_ok (by omega) (by omega)
                  have m3 : (n : Int) < 3 := by omega
                  have m0 : (0 : Int) ≤ (n : Int) := by omega
                  have u1 : ∀ W, Kept (fun y => y = A ∨ y = R) wr W → W.cell? ⟨A, n, none⟩ = some (.pointer (some ⟨bl n, 0, none⟩)) := fun W k => cell_kept k (H.out.arr.cell hn3) (.inl rfl)
                  have u2 : ∀ W, Kept (fun y => y = A ∨ y = R) wr W → W.cell? ⟨R, q, none⟩ = some (.int .i64 (rate' q)) := fun W k => cell_kept k (H.out.rt.cell (by omega)) (.inr rfl)
                  have rq := hrate.out q
                  have pq := prod_le (n := 1500) t0.1 (show (0 : Int) ≤ rate' q by omega) (show T ≤ 2400 by omega) (by omega)
                  have W1 : IntKind.i64.wrap (T * rate' q) = T * rate' q := wrap_ok (by omega) (by omega)
                  have hba : Hid (A ≠ bl n ∧ R ≠ bl n) := ⟨apart H.out.arr (H.out.gr n hn3) (by decide), apart H.out.rt (H.out.gr n hn3) (by decide)⟩
                  by_cases hm : (s.g n).may (k : Int) (T * rate' q) 40000
                  · have c9 := ask_yes (HD.out.gr n hn3) (k : Int) (T * rate' q) 40000 hm
                    have HI3 : Hid (Inv r rate' T ⟨put s.g n ((s.g n).on 1 (k : Int) (T * rate' q + 40000)), s.asked, put s.got k (s.got k ||| 2 ^ n), s.til⟩) := by
                      have := hq2.out
                      subst this
                      exact HI2.out.grant hr.out hrate.out hn3 ak hm
                    generalize (s.g n).on 1 (k : Int) (T * rate' q + 40000) = g' at *
                    clear hm
                    have HB : Hid (bl = bl) := rfl
                    obtain ⟨B, hB⟩ : ∃ B, Hid (B = bl n) := ⟨_, rfl⟩
                    rw [← hB.out] at c9 u1 hba
                    go_wp2_with fail
                    go_region_held (fun W => Kept (fun y => y = A ∨ y = R) wr W) (assumption) (
                      (go_at_call 13; refine Calls.mono c9 ?_; rintro e w9 ⟨rfl, s9⟩; have k9' : Kept (fun y => y = A ∨ y = R) wr w9 := kd.trans (s9.kept.mono (fun _ _ q => by rcases q with rfl | rfl; exact hba.out.1; exact hba.out.2)); rw [hB.out] at s9; have H9 : Hid (AL w w9 A R K G U bl rate' ⟨put s.g n g', s.asked, s.got, s.til⟩) := HD.out.step hn3 s9 _ rfl; clear s9))
                    all_goals
                      clear kd HD u1 u2 W1 pq rq q5 q0 wq hq hq2 hba c9 hB H k9'
                      have gz := HI2.out.got k
                      have H10 : Hid (AL w (w9.setCell ⟨G, k, none⟩ (.int .i64 (s.got k ||| 2 ^ n : Nat))) A R K G U bl rate' ⟨put s.g n g', s.asked, put s.got k (s.got k ||| 2 ^ n), s.til⟩) := H9.out.setGot k _
                      have bf := H9.out.got.free k
                      have bc := H9.out.got.cell hk2
                      have bl2 := H9.out.got.lt
                      have hb := add_bit (s.got k) gz n hn3
                      have hw := wrap_bit n hn3
                      simp only at bc
                      generalize s.got k = M at *
                      go_upto_region 31 with fail
                      generalize hM' : M ||| 2 ^ n = M' at *
                      generalize w9.setCell ⟨G, k, none⟩ (.int .i64 (M' : Nat)) = w10 at *
                      have cc := H10.out.got.cell hk2
                      simp only [put_same] at cc
                      clear bf bc bl2 hb hw hM' H9
                      obtain ⟨cm, hcm⟩ : ∃ cm : Bool, Hid (cm = decide (Maj M')) := ⟨_, rfl⟩
                      go_cut [153] from 132 to 152 (fun t wx => t = .bool cm ∧ w10 = wx)
                      case first =>
                        by_cases p3 : M' = 3
                        · have e3 : ((M' : Int) == 3) = true := by simp; omega
                          go_wp2_with fail
                          go_meet
                          exact ⟨by rw [hcm.out, decide_eq_true (show Maj M' from .inl p3)], rfl⟩
                        · have e3 : ((M' : Int) == 3) = false := by simp; omega
                          by_cases p5 : M' = 5
                          · have e5 : ((M' : Int) == 5) = true := by simp; omega
                            go_wp2_with fail
                            go_meet
                            exact ⟨by rw [hcm.out, decide_eq_true (show Maj M' from .inr (.inl p5))], rfl⟩
                          · have e5 : ((M' : Int) == 5) = false := by simp; omega
                            by_cases p6 : M' = 6
                            · have e6 : ((M' : Int) == 6) = true := by simp; omega
                              go_wp2_with fail
                              go_meet
                              exact ⟨by rw [hcm.out, decide_eq_true (show Maj M' from .inr (.inr (.inl p6)))], rfl⟩
                            · have e6 : ((M' : Int) == 6) = false := by simp; omega
                              by_cases p7 : M' = 7
                              · have e7 : ((M' : Int) == 7) = true := by simp; omega
                                go_wp2_with fail
                                go_meet
                                exact ⟨by rw [hcm.out, decide_eq_true (show Maj M' from .inr (.inr (.inr p7)))], rfl⟩
                              · have e7 : ((M' : Int) == 7) = false := by simp; omega
                                go_wp2_with fail
                                go_meet
                                exact ⟨by rw [hcm.out, decide_eq_false (show ¬ Maj M' from fun h => by unfold Maj at h; omega)], rfl⟩
                      case rest =>
                      obtain ⟨rfl, rfl⟩ := hcut
                      cases cm with
                      | true =>
                        have hmaj : Maj M' := of_decide_eq_true hcm.out.symm
                        have rk := hrate.out k
                        have pk := prod_le (a := s.asked k - 1) (n := 1500) (by omega) (show (0 : Int) ≤ rate' k by omega) (show s.asked k - 1 ≤ 2400 by omega) (by omega)
                        have W3 : IntKind.i64.wrap ((s.asked k - 1) * rate' k) = (s.asked k - 1) * rate' k := wrap_ok (by omega) (by omega)
                        have ch := fun W => hold_yes ((s.asked k - 1) * rate' k) 40000 r ⟨by omega, by omega⟩ (by decide) hr.out W
                        have HI4 : Hid (Inv r rate' T ⟨put s.g n g', s.asked, put s.got k M', put s.til k ((s.asked k - 1) * rate' k + share 40000 r)⟩) := HI3.out.holds (k := k) (by simp only [put_same]; exact hmaj)
                        generalize (s.asked k - 1) * rate' k + share 40000 r = h at *
                        have xk := H10.out.ask.cell hk2
                        have xr := H10.out.rt.cell (i := k) (by omega)
                        have xt := H10.out.til.cell hk2
                        have xf := H10.out.til.free k
                        have xl := H10.out.til.lt
                        simp only at xk xr xt
                        clear hmaj hcm cc HI2 xa
                        by_cases hgt : s.til k < h
                        · have hgd : decide (s.til k < h) = true := decide_eq_true hgt
                          go_wp2_with fail
                          go_quiet ((go_at_call 10; exact Calls.quiet_of (ch _)))
                          go_wp2_with fail
                          go_meet
                          exact ⟨_, (H10.out.ahead ((Kept.refl _ _).drewN _)).setTil k h, HI4.out⟩
                        · have hgd : decide (s.til k < h) = false := decide_eq_false hgt
                          go_wp2_with fail
                          go_quiet ((go_at_call 10; exact Calls.quiet_of (ch _)))
                          go_wp2_with fail
                          go_meet
                          exact ⟨_, H10.out.ahead ((Kept.refl _ _).drewN _), HI3.out⟩
                      | false =>
                        clear hcm
                        go_wp2_with fail
                        go_meet
                        exact ⟨_, H10.out, HI3.out⟩
                  · have c9 := ask_no (HD.out.gr n hn3) (k : Int) (T * rate' q) 40000 hm
                    clear hm
                    generalize bl n = B at *
                    go_wp2_with fail
                    go_region_held (fun W => Kept (fun y => y = A ∨ y = R) wr W) (assumption) (
                      (go_at_call 13; refine Calls.mono c9 ?_; rintro e w9 ⟨rfl, rfl⟩))
                    all_goals
                      go_wp2_with fail
                      go_meet
                      exact ⟨_, HD.out, HI2.out⟩
              case rest =>
              obtain ⟨s', h9, i9⟩ := hcut
              have H9 : Hid (AL w wc A R K G U bl rate' s') := h9
              have I9 : Hid (Inv r rate' T s') := i9
              have x0 := h9.rt.cell (i := 0) (by omega)
              have x1 := h9.rt.cell (i := 1) (by omega)
              have x2 := h9.til.cell (i := 0) (by omega)
              have x3 := h9.til.cell (i := 1) (by omega)
              have ra := hrate.out 0
              have rb := hrate.out 1
              have pa := prod_le (n := 1500) t0.1 (show (0 : Int) ≤ rate' 0 by omega) (show T ≤ 2400 by omega) (by omega)
              have pb := prod_le (n := 1500) t0.1 (show (0 : Int) ≤ rate' 1 by omega) (show T ≤ 2400 by omega) (by omega)
              have W1 : IntKind.i64.wrap (T * rate' 0) = T * rate' 0 := wrap_ok (by omega) (by omega)
              have W2 : IntKind.i64.wrap (T * rate' 1) = T * rate' 1 := wrap_ok (by omega) (by omega)
              have hal := i9.alone
              clear h9 i9 H HI2 hc
              by_cases hz : T * rate' 0 < s'.til 0
              · have hz1 : decide (T * rate' 0 < s'.til 0) = true := decide_eq_true hz
                have hz2 : decide (T * rate' 1 < s'.til 1) = false := decide_eq_false (fun h => hal ⟨hz, h⟩)
                clear hz hal
                go_wp2_with fail
                go_roundw
                case rel => exact ⟨i + 1, T, s', by omega, rfl, by omega, by go_num, H9.out, I9.out⟩
                case measure => simp [intOf]; omega
              · have hz1 : decide (T * rate' 0 < s'.til 0) = false := decide_eq_false hz
                clear hz hal
                go_wp2_with fail
                go_roundw
                case rel => exact ⟨i + 1, T, s', by omega, rfl, by omega, by go_num, H9.out, I9.out⟩
                case measure => simp [intOf]; omega
            · have hex : ¬ (i : Int) < (na2 : Int) ∨ ((i : Int) < (na2 : Int) ∧ ¬ (i : Int) < 120) := by omega
              clear hlt HS2
              rcases hex with hex | hex
              all_goals
                go_wp2_with fail
                refine (runs_any _).mono ?_
                rintro e w6 ⟨rfl, k6⟩
                go_wp2
                go_ret
                exact ⟨rfl, H.out.kept.trans k6⟩

end Go.Proofs.Ytmppejhcjnodhaa
