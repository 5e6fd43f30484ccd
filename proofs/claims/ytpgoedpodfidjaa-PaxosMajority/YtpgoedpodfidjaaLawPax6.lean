/-
  PaxosMajority.
-/
import Derived.Test.YtpgoedpodfidjaaP8
import Derived.Test.YtpgoedpodfidjaaPArr
import Derived.Test.YtpgoedpodfidjaaPSteps
import Derived.Test.YtpgoedpodfidjaaSWithin
namespace Go.Proofs.Ytpgoedpodfidjaa
open Go.RowKit

theorem ones_or : ∀ M : Nat, M < 32 → ∀ k : Nat, k < 5 → ones (M ||| 2 ^ k) = if M.testBit k = true then ones M else ones M + 1 := by decide +kernel
theorem or_same : ∀ M : Nat, M < 32 → ∀ k : Nat, k < 5 → M.testBit k = true → M ||| 2 ^ k = M := by decide +kernel
theorem or_bit (M k j : Nat) : (M ||| 2 ^ k).testBit j = (decide (j = k) || M.testBit j) := by
  rw [Nat.testBit_or, Nat.testBit_two_pow]
  by_cases h : j = k
  · simp [h]
  · simp [h, Ne.symm h]

/-- The law's proposer. -/
def mj (N M : Nat) (q : Pl) : Pr := ⟨0, N, 1, ⟨1, 0⟩, 0, M, fun s => if s = 3 then q else zeroPl⟩
def q3 (A : Nat) : Pl := ⟨false, ⟨0, ⟨0, 0⟩, .empty⟩, true, ⟨#[118]⟩, A⟩
theorem mj_begin (N : Nat) : (Pr.new 0 N).begins 0 = mj N 0 zeroPl := by
  unfold Pr.begins Pr.new mj
  congr 1
  funext s
  simp
theorem mj_promise {N M k : Nat} {q : Pl} (hN : N ≤ 5) (hM : M < 32) (hk : k < N) : (mj N M q).promise k ⟨1, 0⟩ [] = mj N (M ||| 2 ^ k) q := by
  have e : (mj N M q).sees 1 = mj N M q := by
    unfold Pr.sees mj
    congr 1
  unfold Pr.promise
  rw [show (⟨1, 0⟩ : Bl).r = 1 from rfl, e]
  cases hb : M.testBit k
  · rw [if_pos (by simp [Pr.counts, Pr.mine, Pr.isNode, mj, hb, hk])]
    simp [mj]
  · rw [if_neg (by simp [Pr.counts, Pr.mine, Pr.isNode, mj, hb, hk]), or_same M hM k (by omega) hb]
theorem mj_led (N M : Nat) (q : Pl) : (mj N M q).led = decide (N < 2 * ones M) := rfl
theorem mj_may (N M : Nat) (q : Pl) : (mj N M q).may 3 = decide (N < 2 * ones M) := by
  unfold Pr.may
  rw [mj_led, show (mj N M q).asked 3 = true from by simp [Pr.asked, mj]]
  simp
theorem mj_pick {N M : Nat} (h : N < 2 * ones M) : (mj N M zeroPl).pick 3 ⟨#[118]⟩ = mj N M (q3 0) ∧ (mj N M zeroPl).picks 3 ⟨#[118]⟩ = ⟨#[118]⟩ := by
  have hm : (mj N M zeroPl).may 3 = true := by rw [mj_may]; simpa using h
  refine ⟨?_, ?_⟩
  · unfold Pr.pick
    rw [if_pos hm]
    unfold Pr.put mj
    congr 1
    funext s
    by_cases e : s = 3
    · subst e; rfl
    · simp [e]
  · unfold Pr.picks
    rw [if_pos hm]
    rfl
theorem mj_nopick {N M : Nat} (h : ¬ N < 2 * ones M) : (mj N M zeroPl).pick 3 ⟨#[118]⟩ = mj N M zeroPl := by
  unfold Pr.pick
  rw [if_neg (by rw [mj_may]; simpa using h)]
theorem mj_accept {N M A k : Nat} (hk : k < N) : (mj N M (q3 A)).accept k ⟨1, 0⟩ 3 = mj N M (q3 (A ||| 2 ^ k)) ∧ (mj N M (q3 A)).accepts k ⟨1, 0⟩ 3 = decide (N < 2 * ones (A ||| 2 ^ k)) := by
  have ht : (mj N M (q3 A)).took k ⟨1, 0⟩ 3 = true := by simp [Pr.took, Pr.mine, Pr.isNode, mj, q3, hk]
  refine ⟨?_, ?_⟩
  · unfold Pr.accept
    rw [if_pos ht]
    unfold Pr.put mj
    congr 1
    funext s
    by_cases e : s = 3
    · subst e; rfl
    · simp [e]
  · unfold Pr.accepts
    rw [ht]
    rfl
theorem mj_noaccept {N M k : Nat} : (mj N M zeroPl).accept k ⟨1, 0⟩ 3 = mj N M zeroPl ∧ (mj N M zeroPl).accepts k ⟨1, 0⟩ 3 = false := by
  have ht : (mj N M zeroPl).took k ⟨1, 0⟩ 3 = false := by simp [Pr.took, mj, zeroPl]
  exact ⟨if_neg (by simp [ht]), by simp [Pr.accepts, ht]⟩
theorem three_only : (List.range 512).filter (fun s => decide (s = 3)) = [3] := by kernel_rfl
theorem mj_opens (N M : Nat) (q : Pl) : (mj N M q).opens = if ((q.voted || q.picked) && !decide (N < 2 * ones q.acc)) = true then [3] else [] := by
  unfold Pr.opens
  have : (mj N M q).isOpen = fun s => decide (s = 3) && ((q.voted || q.picked) && !decide (N < 2 * ones q.acc)) := by
    funext s
    unfold Pr.isOpen
    by_cases e : s = 3
    · subst e
      simp [mj, Pr.most]
    · simp [mj, e, zeroPl]
  rw [this]
  cases ((q.voted || q.picked) && !decide (N < 2 * ones q.acc))
  · simp
  · simpa using three_only

/-- Truths as cells. -/
def bitv (M : Nat) : Nat → Value := fun i => .bool (M.testBit i)
theorem Af.bit {w : World} {b t n M k : Nat} (h : Af w b t n (bitv M)) : Af (w.setCell ⟨b, k, none⟩ (.bool true)) b t n (bitv (M ||| 2 ^ k)) :=
  (h.set k (.bool true)).congr (fun i _ => by
    unfold bitv
    rw [or_bit]
    by_cases e : i = k
    · simp [e]
    · simp [e])
theorem Af.none5 {w : World} {b t : Nat} (h : w.heap[b]? = some (.cells #[.bool false, .bool false, .bool false, .bool false, .bool false] t (0, 0))) : Af w b t 5 (bitv 0) := h

/-- The proposer, its ballot in a variable, and two arrays. -/
structure MJ (w0 w : World) (P B X Y : Nat) (v : Value) (n : Nat) (x : Pr) (MX MY : Nat) : Prop where
  pm : PM w0 w P v n x
  two : Two w B 1 0
  ax : Af w X 60 5 (bitv MX)
  ay : Af w Y 60 5 (bitv MY)
  ob : B ≠ P ∧ v.ownBlock ≠ some B
  ox : X ≠ P ∧ v.ownBlock ≠ some X
  oy : Y ≠ P ∧ v.ownBlock ≠ some Y
  bx : B ≠ X
  bY : B ≠ Y
  xy : X ≠ Y
  x0 : w0.heap.size ≤ X
  y0 : w0.heap.size ≤ Y
section
variable {w0 w w' : World} {P B X Y n n' : Nat} {v v' : Value} {x x' : Pr} {MX MY : Nat}
theorem MJ.step (h : MJ w0 w P B X Y v n x MX MY) (h' : Po w' P v' n' x') (k : PS w w' P v v') : MJ w0 w' P B X Y v' n' x' MX MY :=
  ⟨h.pm.step h' k, h.two.kept k.kept h.ob, h.ax.kept k.kept h.ox, h.ay.kept k.kept h.oy, k.off h.ob h.two.lt, k.off h.ox h.ax.lt, k.off h.oy h.ay.lt, h.bx, h.bY, h.xy, h.x0, h.y0⟩
theorem MJ.ahead (h : MJ w0 w P B X Y v n x MX MY) (k : Kept (fun _ => True) w w') : MJ w0 w' P B X Y v n x MX MY :=
  ⟨h.pm.ahead k, h.two.kept k trivial, h.ax.kept k trivial, h.ay.kept k trivial, h.ob, h.ox, h.oy, h.bx, h.bY, h.xy, h.x0, h.y0⟩
theorem MJ.setX (h : MJ w0 w P B X Y v n x MX MY) (k : Nat) : MJ w0 (w.setCell ⟨X, k, none⟩ (.bool true)) P B X Y v n x (MX ||| 2 ^ k) MY := by
  have kk : Kept (· ≠ X) w (w.setCell ⟨X, k, none⟩ (.bool true)) := (Kept.refl _ _).setCell (by simp) _
  exact ⟨⟨h.pm.po.kept kk (Ne.symm h.ox.1) (fun i hi e => h.ox.2 (e ▸ hi)), h.pm.kept.then kk (fun i hi _ => by have := h.x0; omega), h.pm.p0, h.pm.v0⟩, h.two.kept kk h.bx, h.ax.bit, h.ay.kept kk (Ne.symm h.xy), h.ob, h.ox, h.oy, h.bx, h.bY, h.xy, h.x0, h.y0⟩
theorem MJ.setY (h : MJ w0 w P B X Y v n x MX MY) (k : Nat) : MJ w0 (w.setCell ⟨Y, k, none⟩ (.bool true)) P B X Y v n x MX (MY ||| 2 ^ k) := by
  have kk : Kept (· ≠ Y) w (w.setCell ⟨Y, k, none⟩ (.bool true)) := (Kept.refl _ _).setCell (by simp) _
  exact ⟨⟨h.pm.po.kept kk (Ne.symm h.oy.1) (fun i hi e => h.oy.2 (e ▸ hi)), h.pm.kept.then kk (fun i hi _ => by have := h.y0; omega), h.pm.p0, h.pm.v0⟩, h.two.kept kk h.bY, h.ax.kept kk h.xy, h.ay.bit, h.ob, h.ox, h.oy, h.bx, h.bY, h.xy, h.x0, h.y0⟩
end

set_option maxRecDepth 100000 in
set_option maxHeartbeats 2000000 in
theorem paxosMajority_any {w : World} {a a2 : Option Addr} {na ca na2 ca2 : Nat} (ha : IsInts w a na) (ha2 : IsInts w a2 na2) (nodes : Int) :
    Calls Try.prog 7 #[.int .i64 nodes, .slice a na ca, .slice a2 na2 ca2] w fun e w' => e = .returned (.bool true) ∧ Kept (fun _ => True) w w' := by
  have HS : Hid (IsInts w a na) := ha
  have HS2 : Hid (IsInts w a2 na2) := ha2
  clear ha ha2
  go_enter Try.func7, Try.ntmps7
  go_wp2_with fail
  refine Calls.mono (within_any _ 4 (by decide)) ?_
  rintro e w ⟨⟨N, hN, rfl⟩, rfl⟩
  go_wp2_with fail
  refine Calls.mono (pnew_any (by omega) (by omega) (by omega) (by omega)) ?_
  rintro e w1 ⟨P, rfl, h1, k1, hP⟩
  rw [show (1 + (N : Int)).toNat = N + 1 by omega] at h1
  have H1 : Hid (PM w w1 P (.slice none 0 0) 0 (Pr.new 0 (N + 1))) := ⟨h1, k1, by omega, fun i e => by simp [Value.ownBlock] at e⟩
  clear h1 k1 hP
  go_wp2_with fail
  refine Calls.mono (pbegin_any H1.out.po 0 (by decide)) ?_
  rintro e w2 ⟨rfl, h2, k2⟩
  have H2 : Hid (PM w w2 P (.slice none 0 0) 0 ((Pr.new 0 (N + 1)).begins 0)) := H1.out.begun h2 k2
  rw [mj_begin] at H2 ⊢
  rw [show (mj (N + 1) 0 zeroPl).b.r = 1 from rfl, show (mj (N + 1) 0 zeroPl).b.n = 0 from rfl]
  clear h2 k2 H1
  go_upto_region 7 with fail
  have hJ : Hid (MJ w (((w2.alloc (.cells #[.int .i64 1, .int .i64 0] 27)).alloc (.cells #[.bool false, .bool false, .bool false, .bool false, .bool false] 60)).alloc (.cells #[.bool false, .bool false, .bool false, .bool false, .bool false] 60)) P w2.heap.size (w2.heap.size + 1) (w2.heap.size + 1 + 1) (.slice none 0 0) 0 (mj (N + 1) 0 zeroPl) 0 0) := by
    have k1 : Kept (fun _ => True) w2 (w2.alloc (.cells #[.int .i64 1, .int .i64 0] 27)) := (Kept.refl _ _).alloc _
    have t1 := Two.made w2 1 0
    have s1 : (w2.alloc (.cells #[.int .i64 1, .int .i64 0] 27)).heap.size = w2.heap.size + 1 := by simp
    generalize w2.alloc (.cells #[.int .i64 1, .int .i64 0] 27) = w3 at *
    have k2 : Kept (fun _ => True) w3 (w3.alloc (.cells #[.bool false, .bool false, .bool false, .bool false, .bool false] 60)) := (Kept.refl _ _).alloc _
    have a2 : Af _ w3.heap.size 60 5 (bitv 0) := Af.none5 (heap_alloc_new w3 _)
    have s2 : (w3.alloc (.cells #[.bool false, .bool false, .bool false, .bool false, .bool false] 60)).heap.size = w3.heap.size + 1 := by simp
    generalize w3.alloc (.cells #[.bool false, .bool false, .bool false, .bool false, .bool false] 60) = w4 at *
    have k3 : Kept (fun _ => True) w4 (w4.alloc (.cells #[.bool false, .bool false, .bool false, .bool false, .bool false] 60)) := (Kept.refl _ _).alloc _
    have a3 : Af _ w4.heap.size 60 5 (bitv 0) := Af.none5 (heap_alloc_new w4 _)
    rw [s2, s1] at a3
    rw [s1] at a2
    have hlt := H2.out.po.lt
    have hsz := H2.out.kept.size
    refine ⟨H2.out.ahead ((k1.trans k2).trans k3), (t1.kept k2 trivial).kept k3 trivial, a2.kept k3 trivial, a3, ⟨by omega, by simp [Value.ownBlock]⟩, ⟨by omega, by simp [Value.ownBlock]⟩, ⟨by omega, by simp [Value.ownBlock]⟩, by omega, by omega, by omega, by omega, by omega⟩
  clear H2
  generalize (((w2.alloc (.cells #[.int .i64 1, .int .i64 0] 27)).alloc (.cells #[.bool false, .bool false, .bool false, .bool false, .bool false] 60)).alloc (.cells #[.bool false, .bool false, .bool false, .bool false, .bool false] 60)) = w5 at *
  generalize hXX : w2.heap.size + 1 + 1 = Y at *
  generalize hYY : w2.heap.size + 1 = X at *
  generalize w2.heap.size = B at *
  clear hXX hYY
  have hsub : (1 : Int) + (N : Int) - 1 = (N : Int) := by omega
  go_wp2_with fail
  go_loopw [12, 13] (fun t i wr => ∃ (k M : Nat) (v : Value) (c : Nat), i = .int .i64 k ∧ k ≤ 20 ∧ t = .int .i64 (ones M : Nat) ∧ M < 32 ∧ MJ w wr P B X Y v c (mj (N + 1) M zeroPl) M 0) (fun _ i _ => 20 - (intOf i).toNat)
  case atStart => exact ⟨0, 0, _, _, rfl, by omega, rfl, by omega, hJ.out⟩
  case round =>
    obtain ⟨k, M, v, c, rfl, hk, rfl, hM, hj⟩ := hrel
    have HJ : Hid (MJ w wr P B X Y v c (mj (N + 1) M zeroPl) M 0) := hj
    clear hj hJ
    by_cases hlt : k < na ∧ k < 20
    · obtain ⟨b, off, z, rfl, hx⟩ := int_at HS.out hlt.1
      have y0 := hx wr HJ.out.pm.kept
      clear hx
      have g1 : (k : Int) < (na : Int) := by omega
      have g2 : (k : Int) < 20 := by omega
      have g0 : (0 : Int) ≤ (k : Int) := by omega
      go_wp2_with fail
      refine Calls.mono (within_any _ N (by omega)) ?_
      rintro e wr ⟨⟨j, hj, rfl⟩, rfl⟩
      obtain ⟨t0, t1⟩ := HJ.out.two
      go_wp2_with fail
      refine Calls.mono (promise_any HJ.out.pm.po (VR.nil _) (by decide) j ⟨1, 0⟩) ?_
      rintro e w6 ⟨v6, n6, rfl, h6, s6⟩
      rw [mj_promise (by omega) hM (by omega)] at h6
      have H6 : Hid (MJ w w6 P B X Y v6 n6 (mj (N + 1) (M ||| 2 ^ j) zeroPl) M 0) := HJ.out.step h6 s6
      have H7 : Hid (MJ w (w6.setCell ⟨X, j, none⟩ (.bool true)) P B X Y v6 n6 (mj (N + 1) (M ||| 2 ^ j) zeroPl) (M ||| 2 ^ j) 0) := H6.out.setX j
      have hor := ones_or M hM j (by omega)
      have hM' : Hid (M ||| 2 ^ j < 32) := bit_or hM (by omega)
      have ac := H6.out.ax.cell (i := j) (by omega)
      have af := H6.out.ax.free j
      have al := H6.out.ax.lt
      have cl := led_any H7.out.pm.po
      rw [mj_led] at cl
      have j1 : (j : Int) < 5 := by omega
      have j0 : (0 : Int) ≤ (j : Int) := by omega
      unfold bitv at ac
      clear h6 s6 t0 t1 y0
      generalize hMM : M ||| 2 ^ j = M' at *
      have ho5 := ones_le M
      cases hb : M.testBit j
      · rw [hb] at ac
        rw [if_neg (by simp [hb])] at hor
        rw [hor] at cl
        have hiff : Hid (decide (N + 1 < 2 * (ones M + 1)) = decide ((1 : Int) + (N : Int) < 2 * ((ones M : Int) + 1))) := by
          show _ = _
          simp only [decide_eq_decide]
          omega
        rw [hiff.out] at cl
        have hor' : Hid (ones M' = ones M + 1) := hor
        clear hor hb
        generalize ones M = o at *
        go_wp2_with fail
        refine Calls.mono cl ?_
        rintro e w8 ⟨rfl, d, rfl⟩
        by_cases hq : (1 : Int) + (N : Int) < 2 * ((o : Int) + 1)
        all_goals
          rw [show decide ((1 : Int) + (N : Int) < 2 * ((o : Int) + 1)) = _ from by first | exact decide_eq_true hq | exact decide_eq_false hq]
          go_wp2_with fail
          go_roundw
          case rel => exact ⟨k + 1, M', v6, n6, by go_num, by omega, by rw [hor'.out]; go_num, hM'.out, H7.out.ahead ((Kept.refl _ _).drewN d)⟩
          case measure => simp [intOf]; omega
      · rw [hb] at ac
        rw [if_pos hb] at hor
        rw [hor] at cl
        have hiff : Hid (decide (N + 1 < 2 * ones M) = decide ((1 : Int) + (N : Int) < 2 * (ones M : Int))) := by
          show _ = _
          simp only [decide_eq_decide]
          omega
        rw [hiff.out] at cl
        have hor' : Hid (ones M' = ones M) := hor
        clear hor hb
        generalize ones M = o at *
        go_wp2_with fail
        refine Calls.mono cl ?_
        rintro e w8 ⟨rfl, d, rfl⟩
        by_cases hq : (1 : Int) + (N : Int) < 2 * (o : Int)
        all_goals
          rw [show decide ((1 : Int) + (N : Int) < 2 * (o : Int)) = _ from by first | exact decide_eq_true hq | exact decide_eq_false hq]
          go_wp2_with fail
          go_roundw
          case rel => exact ⟨k + 1, M', v6, n6, by go_num, by omega, by rw [hor'.out], hM'.out, H7.out.ahead ((Kept.refl _ _).drewN d)⟩
          case measure => simp [intOf]; omega
    · have hex : ¬ (k : Int) < (na : Int) ∨ ((k : Int) < (na : Int) ∧ ¬ (k : Int) < 20) := by omega
      clear HS hlt
      have ho5 := ones_le M
      have cp := pick_any HJ.out.pm.po 3 ⟨#[118]⟩
      rw [mj_may] at cp
      rcases hex with hex | hex
      all_goals
        go_wp2_with fail
        refine Calls.mono cp ?_
        rintro e w6 ⟨v6, n6, rfl, h6, s6⟩
        by_cases hq : N + 1 < 2 * ones M
        · have hp := mj_pick hq
          rw [hp.1] at h6
          rw [hp.2, decide_eq_true hq]
          have H6 : Hid (MJ w w6 P B X Y v6 n6 (mj (N + 1) M (q3 0)) M 0) := HJ.out.step h6 s6
          have hq' : (1 : Int) + (N : Int) < 2 * (ones M : Int) := by omega
          clear h6 s6 cp hp HJ
          go_wp2_with fail
          go_loopw [17, 18] (fun t i wy => ∃ (k A : Nat) (v : Value) (c : Nat), i = .int .i64 k ∧ k ≤ 20 ∧ t = .int .i64 (ones A : Nat) ∧ A < 32 ∧ MJ w wy P B X Y v c (mj (N + 1) M (q3 A)) M A) (fun _ i _ => 20 - (intOf i).toNat)
          case atStart => exact ⟨0, 0, _, _, rfl, by omega, rfl, by omega, H6.out⟩
          case round =>
            obtain ⟨k2, A, v2, c2, rfl, hk2, rfl, hA, hj2⟩ := hrel
            have HJ2 : Hid (MJ w wr P B X Y v2 c2 (mj (N + 1) M (q3 A)) M A) := hj2
            clear hj2 H6
            by_cases hlt2 : k2 < na2 ∧ k2 < 20
            · obtain ⟨b2, off2, z2, rfl, hx2⟩ := int_at HS2.out hlt2.1
              have y0 := hx2 wr HJ2.out.pm.kept
              clear hx2
              have g1 : (k2 : Int) < (na2 : Int) := by omega
              have g2 : (k2 : Int) < 20 := by omega
              have g0 : (0 : Int) ≤ (k2 : Int) := by omega
              go_wp2_with fail
              refine Calls.mono (within_any _ N (by omega)) ?_
              rintro e wr ⟨⟨j, hj, rfl⟩, rfl⟩
              have H7 : Hid (MJ w (wr.setCell ⟨Y, j, none⟩ (.bool true)) P B X Y v2 c2 (mj (N + 1) M (q3 A)) M (A ||| 2 ^ j)) := HJ2.out.setY j
              obtain ⟨t0, t1⟩ := H7.out.two
              have ac := HJ2.out.ay.cell (i := j) (by omega)
              have af := HJ2.out.ay.free j
              have al := HJ2.out.ay.lt
              have ca := accepted_any H7.out.pm.po j ⟨1, 0⟩ 3
              have hor := ones_or A hA j (by omega)
              have hA' : Hid (A ||| 2 ^ j < 32) := bit_or hA (by omega)
              have ho6 := ones_le A
              have j1 : (j : Int) < 5 := by omega
              have j0 : (0 : Int) ≤ (j : Int) := by omega
              unfold bitv at ac
              clear y0
              rw [(mj_accept (by omega)).1, (mj_accept (by omega)).2] at ca
              generalize A ||| 2 ^ j = A' at *
              cases hb : A.testBit j
              · rw [hb] at ac
                rw [if_neg (by simp [hb])] at hor
                rw [hor] at ca
                have hiff : Hid (decide (N + 1 < 2 * (ones A + 1)) = decide ((1 : Int) + (N : Int) < 2 * ((ones A : Int) + 1))) := by
                  show _ = _
                  simp only [decide_eq_decide]
                  omega
                rw [hiff.out] at ca
                have hor' : Hid (ones A' = ones A + 1) := hor
                clear hor hb
                generalize ones A = o2 at *
                go_wp2_with fail
                refine Calls.mono ca ?_
                rintro e w8 ⟨v8, n8, rfl, h8, s8⟩
                have H8 : Hid (MJ w w8 P B X Y v8 n8 (mj (N + 1) M (q3 A')) M A') := H7.out.step h8 s8
                by_cases hq2 : (1 : Int) + (N : Int) < 2 * ((o2 : Int) + 1)
                all_goals
                  rw [show decide ((1 : Int) + (N : Int) < 2 * ((o2 : Int) + 1)) = _ from by first | exact decide_eq_true hq2 | exact decide_eq_false hq2]
                  go_wp2_with fail
                  go_roundw
                  case rel => exact ⟨k2 + 1, A', v8, n8, by go_num, by omega, by rw [hor'.out]; go_num, hA'.out, H8.out⟩
                  case measure => simp [intOf]; omega
              · rw [hb] at ac
                rw [if_pos hb] at hor
                rw [hor] at ca
                have hiff : Hid (decide (N + 1 < 2 * ones A) = decide ((1 : Int) + (N : Int) < 2 * (ones A : Int))) := by
                  show _ = _
                  simp only [decide_eq_decide]
                  omega
                rw [hiff.out] at ca
                have hor' : Hid (ones A' = ones A) := hor
                clear hor hb
                generalize ones A = o2 at *
                go_wp2_with fail
                refine Calls.mono ca ?_
                rintro e w8 ⟨v8, n8, rfl, h8, s8⟩
                have H8 : Hid (MJ w w8 P B X Y v8 n8 (mj (N + 1) M (q3 A')) M A') := H7.out.step h8 s8
                by_cases hq2 : (1 : Int) + (N : Int) < 2 * (o2 : Int)
                all_goals
                  rw [show decide ((1 : Int) + (N : Int) < 2 * (o2 : Int)) = _ from by first | exact decide_eq_true hq2 | exact decide_eq_false hq2]
                  go_wp2_with fail
                  go_roundw
                  case rel => exact ⟨k2 + 1, A', v8, n8, by go_num, by omega, by rw [hor'.out], hA'.out, H8.out⟩
                  case measure => simp [intOf]; omega
            · have hex2 : ¬ (k2 : Int) < (na2 : Int) ∨ ((k2 : Int) < (na2 : Int) ∧ ¬ (k2 : Int) < 20) := by omega
              clear HS2 hlt2
              have ho6 := ones_le A
              have co := open_any HJ2.out.pm.po
              rw [mj_opens] at co
              have hod : ((q3 A).voted || (q3 A).picked) = true := rfl
              rw [hod, show (q3 A).acc = A from rfl] at co
              by_cases hq2 : N + 1 < 2 * ones A
              · have hq3 : decide (2 * (ones A : Int) ≤ 1 + (N : Int)) = false := decide_eq_false (by omega)
                rw [decide_eq_true hq2, if_neg (by simp)] at co
                generalize ones A = o2 at *
                rcases hex2 with hex2 | hex2
                all_goals
                  go_wp2_with fail
                  refine Calls.mono co ?_
                  rintro e w9 ⟨u9, rfl, i9, k9⟩
                  obtain ⟨ia, ic, rfl⟩ := i9.shape
                  go_wp2_with fail
                  refine Calls.mono pknown_any ?_
                  rintro e w10 ⟨rfl, k10⟩
                  go_wp2
                  go_ret
                  exact ⟨rfl, (HJ2.out.pm.kept.trans k9).trans k10⟩
              · have hq3 : 2 * (ones A : Int) ≤ 1 + (N : Int) := by omega
                rw [decide_eq_false hq2, if_pos (by simp)] at co
                generalize ones A = o2 at *
                rcases hex2 with hex2 | hex2
                all_goals
                  go_wp2_with fail
                  refine Calls.mono co ?_
                  rintro e w9 ⟨u9, rfl, i9, k9⟩
                  obtain ⟨ia, ic, rfl⟩ := i9.shape
                  go_wp2_with fail
                  refine Calls.mono pknown_any ?_
                  rintro e w10 ⟨rfl, k10⟩
                  go_wp2
                  go_ret
                  exact ⟨rfl, (HJ2.out.pm.kept.trans k9).trans k10⟩
        · rw [mj_nopick hq] at h6
          rw [decide_eq_false hq]
          generalize (mj (N + 1) M zeroPl).picks 3 ⟨#[118]⟩ = junk
          have H6 : Hid (MJ w w6 P B X Y v6 n6 (mj (N + 1) M zeroPl) M 0) := HJ.out.step h6 s6
          have hq' : ¬ (1 : Int) + (N : Int) < 2 * (ones M : Int) := by omega
          clear h6 s6 cp HJ
          go_wp2_with fail
          go_loopw [17, 18] (fun t i wy => ∃ (k A : Nat) (v : Value) (c : Nat), i = .int .i64 k ∧ k ≤ 20 ∧ t = .int .i64 0 ∧ A < 32 ∧ MJ w wy P B X Y v c (mj (N + 1) M zeroPl) M A) (fun _ i _ => 20 - (intOf i).toNat)
          case atStart => exact ⟨0, 0, _, _, rfl, by omega, rfl, by omega, H6.out⟩
          case round =>
            obtain ⟨k2, A, v2, c2, rfl, hk2, rfl, hA, hj2⟩ := hrel
            have HJ2 : Hid (MJ w wr P B X Y v2 c2 (mj (N + 1) M zeroPl) M A) := hj2
            clear hj2 H6
            by_cases hlt2 : k2 < na2 ∧ k2 < 20
            · obtain ⟨b2, off2, z2, rfl, hx2⟩ := int_at HS2.out hlt2.1
              have y0 := hx2 wr HJ2.out.pm.kept
              clear hx2
              have g1 : (k2 : Int) < (na2 : Int) := by omega
              have g2 : (k2 : Int) < 20 := by omega
              have g0 : (0 : Int) ≤ (k2 : Int) := by omega
              go_wp2_with fail
              refine Calls.mono (within_any _ N (by omega)) ?_
              rintro e wr ⟨⟨j, hj, rfl⟩, rfl⟩
              have H7 : Hid (MJ w (wr.setCell ⟨Y, j, none⟩ (.bool true)) P B X Y v2 c2 (mj (N + 1) M zeroPl) M (A ||| 2 ^ j)) := HJ2.out.setY j
              obtain ⟨t0, t1⟩ := H7.out.two
              have ac := HJ2.out.ay.cell (i := j) (by omega)
              have af := HJ2.out.ay.free j
              have al := HJ2.out.ay.lt
              have ca := accepted_any H7.out.pm.po j ⟨1, 0⟩ 3
              have hor := ones_or A hA j (by omega)
              have hA' : Hid (A ||| 2 ^ j < 32) := bit_or hA (by omega)
              have ho6 := ones_le A
              have j1 : (j : Int) < 5 := by omega
              have j0 : (0 : Int) ≤ (j : Int) := by omega
              unfold bitv at ac
              clear y0
              rw [mj_noaccept.1, mj_noaccept.2] at ca
              have hno : ¬ (1 : Int) + (N : Int) < 0 := by omega
              generalize A ||| 2 ^ j = A' at *
              clear hor
              go_wp2_with fail
              refine Calls.mono ca ?_
              rintro e w8 ⟨v8, n8, rfl, h8, s8⟩
              have H8 : Hid (MJ w w8 P B X Y v8 n8 (mj (N + 1) M zeroPl) M A') := H7.out.step h8 s8
              go_wp2_with fail
              go_roundw
              case rel => exact ⟨k2 + 1, A', v8, n8, by go_num, by omega, rfl, hA'.out, H8.out⟩
              case measure => simp [intOf]; omega
            · have hex2 : ¬ (k2 : Int) < (na2 : Int) ∨ ((k2 : Int) < (na2 : Int) ∧ ¬ (k2 : Int) < 20) := by omega
              clear HS2 hlt2
              have ho6 := ones_le A
              have co := open_any HJ2.out.pm.po
              rw [mj_opens] at co
              rw [show (zeroPl.voted || zeroPl.picked) = false from rfl, if_neg (by simp)] at co
              rcases hex2 with hex2 | hex2
              all_goals
                go_wp2_with fail
                refine Calls.mono co ?_
                rintro e w9 ⟨u9, rfl, i9, k9⟩
                obtain ⟨ia, ic, rfl⟩ := i9.shape
                go_wp2_with fail
                refine Calls.mono pknown_any ?_
                rintro e w10 ⟨rfl, k10⟩
                go_wp2
                go_ret
                exact ⟨rfl, (HJ2.out.pm.kept.trans k9).trans k10⟩

end Go.Proofs.Ytpgoedpodfidjaa
