/-
  The document's reckoning of leases and judging of clocks.
-/
import Derived.Test.YtmppejhcjnodhaaGR
import Derived.Test.YtmppejhcjnodhaaGRow
import Derived.Deep.RegionHeld3
namespace Go.Proofs.Ytmppejhcjnodhaa
open Go.RowKit

/-- What Hold and Bar answer. -/
def holdV (n l r : Int) : Int × Int := if Tm n ∧ Tm l ∧ Dr r then (n + share l r, 0) else (0, 1)
def barV (n l : Int) : Int × Int := if Tm n ∧ Tm l then (n + l, 0) else (0, 1)

theorem hold_any (n l r : Int) (w : World) : Calls Try.prog 10 #[.int .i64 n, .int .i64 l, .int .i64 r] w fun e w' => e = .returned (.tuple #[.int .i64 (holdV n l r).1, .int .i64 (holdV n l r).2]) ∧ ∃ k, w' = w.drewN k := by
  unfold holdV
  by_cases h : Tm n ∧ Tm l ∧ Dr r
  · rw [if_pos h]
    exact hold_yes n l r h.1 h.2.1 h.2.2 w
  · rw [if_neg h]
    exact (hold_no n l r h w).mono fun _ _ ⟨he, hw⟩ => ⟨he, 0, hw⟩
theorem barr_any (n l : Int) (w : World) : Calls Try.prog 11 #[.int .i64 n, .int .i64 l] w fun e w' => e = .returned (.tuple #[.int .i64 (barV n l).1, .int .i64 (barV n l).2]) ∧ w' = w := by
  unfold barV
  by_cases h : Tm n ∧ Tm l
  · rw [if_pos h]
    exact bar_yes n l h.1 h.2 w
  · rw [if_neg h]
    exact bar_no n l h w

set_option maxHeartbeats 1000000 in
theorem rhold_any (n l r : Int) (w : World) : Calls Try.prog 18 #[.int .i64 n, .int .i64 l, .int .i64 r] w fun e w' => e = .returned (.tuple #[.int .i64 (holdV n l r).1, .int .i64 (holdV n l r).2]) ∧ w' = w := by
  have i1 := small_any n w
  have i2 := small_any l w
  unfold holdV
  by_cases hn : Tm n
  · rw [decide_eq_true hn] at i1
    by_cases hl : Tm l
    · rw [decide_eq_true hl] at i2
      by_cases hr : Dr r
      · rw [if_pos ⟨hn, hl, hr⟩]
        obtain ⟨r0, r1⟩ := hr
        obtain ⟨l0, l1⟩ := hl
        obtain ⟨n0, n1⟩ := hn
        have p1 := prod_le (n := 1000) l0 (show (0 : Int) ≤ 1000 - r by omega) l1 (by omega)
        have sh := share_le l0 (show Dr r from ⟨r0, r1⟩)
        have e2 : share l r = l * (1000 - r) / (1000 + r) := rfl
        have w1 : IntKind.i64.wrap (l * (1000 - r)) = l * (1000 - r) := wrap_ok (by omega) (by omega)
        have z1 : (1000 + r == 0) = false := by simp; omega
        have y1 : ¬ (1000 + r = 0) := by omega
        have x1 : ¬ (1000 + r = -1) := by omega
        have g1 : ¬ r < 0 := by omega
        have g2 : ¬ (500 < r) := by omega
        rw [e2] at sh ⊢
        clear e2
        have w2 : IntKind.i64.wrap (n + l * (1000 - r) / (1000 + r)) = n + l * (1000 - r) / (1000 + r) := wrap_ok (by omega) (by omega)
        go_enter Try.func18, Try.ntmps18
        go_wp2_with fail
        refine i1.mono ?_
        rintro e w ⟨rfl, rfl⟩
        go_wp2_with fail
        refine i2.mono ?_
        rintro e w ⟨rfl, rfl⟩
        go_wp2
        go_ret2
        exact ⟨rfl, rfl⟩
      · rw [if_neg (fun h => hr h.2.2)]
        unfold Dr at hr
        clear hn hl
        by_cases g1 : r < 0
        · clear hr
          go_enter Try.func18, Try.ntmps18
          go_wp2_with fail
          refine i1.mono ?_
          rintro e w ⟨rfl, rfl⟩
          go_wp2_with fail
          refine i2.mono ?_
          rintro e w ⟨rfl, rfl⟩
          go_wp2
          go_ret2
          exact ⟨rfl, rfl⟩
        · have g2 : 500 < r := by omega
          clear hr
          go_enter Try.func18, Try.ntmps18
          go_wp2_with fail
          refine i1.mono ?_
          rintro e w ⟨rfl, rfl⟩
          go_wp2_with fail
          refine i2.mono ?_
          rintro e w ⟨rfl, rfl⟩
          go_wp2
          go_ret2
          exact ⟨rfl, rfl⟩
    · rw [if_neg (fun h => hl h.2.1)]
      rw [decide_eq_false hl] at i2
      clear hn hl
      go_enter Try.func18, Try.ntmps18
      go_wp2_with fail
      refine i1.mono ?_
      rintro e w ⟨rfl, rfl⟩
      go_wp2_with fail
      refine i2.mono ?_
      rintro e w ⟨rfl, rfl⟩
      go_wp2
      go_ret2
      exact ⟨rfl, rfl⟩
  · rw [if_neg (fun h => hn h.1)]
    rw [decide_eq_false hn] at i1
    clear hn i2
    go_enter Try.func18, Try.ntmps18
    go_wp2_with fail
    refine i1.mono ?_
    rintro e w ⟨rfl, rfl⟩
    go_wp2
    go_ret2
    exact ⟨rfl, rfl⟩

theorem rbar_any (n l : Int) (w : World) : Calls Try.prog 19 #[.int .i64 n, .int .i64 l] w fun e w' => e = .returned (.tuple #[.int .i64 (barV n l).1, .int .i64 (barV n l).2]) ∧ w' = w := by
  have i1 := small_any n w
  have i2 := small_any l w
  unfold barV
  by_cases hn : Tm n
  · rw [decide_eq_true hn] at i1
    by_cases hl : Tm l
    · rw [decide_eq_true hl] at i2
      rw [if_pos ⟨hn, hl⟩]
      obtain ⟨l0, l1⟩ := hl
      obtain ⟨n0, n1⟩ := hn
      go_enter Try.func19, Try.ntmps19
      go_wp2_with fail
      refine i1.mono ?_
      rintro e w ⟨rfl, rfl⟩
      go_wp2_with fail
      refine i2.mono ?_
      rintro e w ⟨rfl, rfl⟩
      go_wp2
      go_ret2
      exact ⟨rfl, rfl⟩
    · rw [if_neg (fun h => hl h.2)]
      rw [decide_eq_false hl] at i2
      clear hn hl
      go_enter Try.func19, Try.ntmps19
      go_wp2_with fail
      refine i1.mono ?_
      rintro e w ⟨rfl, rfl⟩
      go_wp2_with fail
      refine i2.mono ?_
      rintro e w ⟨rfl, rfl⟩
      go_wp2
      go_ret2
      exact ⟨rfl, rfl⟩
  · rw [if_neg (fun h => hn h.1)]
    rw [decide_eq_false hn] at i1
    clear hn i2
    go_enter Try.func19, Try.ntmps19
    go_wp2_with fail
    refine i1.mono ?_
    rintro e w ⟨rfl, rfl⟩
    go_wp2
    go_ret2
    exact ⟨rfl, rfl⟩

theorem Try.infoRr : (Try.prog.info? 77).map (fun i => (i.zero, i.size, i.bytes)) = some (some (.agg #[.int .i64 0, .int .i64 0]), 2, 16) := by kernel_rfl

set_option maxRecDepth 100000 in
set_option maxHeartbeats 2000000 in
/-- The readings, as the document's. -/
theorem in_any {w : World} {ao : Option Addr} {n cap : Nat} {xs : List (Int × Int)} (hl : xs.length = n) (h : Rd w ao xs) (hm : n ≤ 1000) :
    Calls Try.prog 21 #[.slice ao n cap] w fun e w' => ∃ v, e = .returned v ∧ w'.ownsRow w.heap.size 77 2 v n (rrow xs) ∧ Kept (fun _ => True) w w' := by
  have HR : Hid (Rd w ao xs) := h
  have HL : Hid (xs.length = n) := hl
  clear h hl
  go_enter Try.func21, Try.ntmps21
  go_wp2_with fail
  go_loopw [3, 4] (fun u t wr => ∃ (i : Nat) (bo : Option Addr) (bcap : Nat), i ≤ n ∧ t = .int .i64 i ∧ u = .slice bo i bcap ∧ wr.ownsRow w.heap.size 77 2 (.slice bo i bcap) i (rrow (xs.take i)) ∧ Kept (fun _ => True) w wr) (fun _ t _ => n - (intOf t).toNat)
  case atStart => exact ⟨0, none, 0, Nat.zero_le _, rfl, rfl, by rw [List.take_zero]; exact World.ownsRow_nil _ _ _ _, Kept.refl _ _⟩
  case round =>
    obtain ⟨i, bo, bcap, hi, rfl, rfl, hO, hk⟩ := hrel
    have HO : Hid (wr.ownsRow w.heap.size 77 2 (.slice bo i bcap) i (rrow (xs.take i))) := hO
    clear hO
    by_cases hlt : i < n
    · have hlt' : i < xs.length := by have := HL.out; omega
      have HS : Hid (xs.take (i + 1) = xs.take i ++ [xs[i]]) := List.take_succ_eq_append_getElem hlt'
      obtain ⟨b, off, rfl, hb, hc⟩ := HR.out.row (by omega)
      obtain ⟨y0, y1⟩ := hc i hlt'
      replace y0 := cell_kept hk y0 trivial
      replace y1 := cell_kept hk y1 trivial
      clear hc
      generalize xs[i] = x at *
      obtain ⟨x1, x2⟩ := x
      simp only at y0 y1
      have i1 : (i : Int) < (n : Int) := by omega
      have i0 : (0 : Int) ≤ (i : Int) := by omega
      have kd : Kept (fun _ => True) wr wr.drew := (Kept.refl _ _).drew
      have HD : Hid (wr.drew.ownsRow w.heap.size 77 2 (.slice bo i bcap) i (rrow (xs.take i))) := own_kept2 HO.out kd (fun _ _ => trivial)
      have hsz : Hid (∀ o : Obj, w.heap.size ≤ (wr.drew.alloc o).heap.size) := fun o => Nat.le_trans hk.size ((kd.alloc o).size)
      have kd' : Kept (fun y => y < w.heap.size) wr wr.drew := (Kept.refl _ _).drew
      have u0 : ∀ W, Kept (fun y => y < w.heap.size) wr W → W.cell? ⟨b, off + i * 2, none⟩ = some (.int .i64 x1) := fun W q => cell_kept q y0 hb
      have u1 : ∀ W, Kept (fun y => y < w.heap.size) wr W → W.cell? ⟨b, off + i * 2 + 1, none⟩ = some (.int .i64 x2) := fun W q => cell_kept q y1 hb
      clear y0 y1
      generalize hys : xs.take i = ys at *
      go_wp2_with fail
      go_region_held3 (fun W => Kept (fun y => y < w.heap.size) wr W) (first | assumption | exact kd'.alloc _) ((refine step_append_rd Try.underlying42 Try.infoRr (by simp [Value.cells]) (by omega) ?_ (.tmp 11) (.tmp 23) ?_ w.heap.size (.slice bo i bcap) i ys ?_ (own_kept2 HD.out ((Kept.refl (fun _ => True) _).alloc _) (fun _ _ => trivial)) (hsz.out _) ⟨wr.heap.size, 0, none⟩ 1 1 [(x1, x2)] ?_ rfl (rd_one (heap_alloc_new wr.drew _)) (by omega) ?_; rfl; rfl; rfl; rfl; intro ao1 cap1 w1 t1 gr1 at1; have T1 : Hid (w1.ownsRow w.heap.size 77 2 (.slice ao1 (i + 1) cap1) (i + 1) (rrow (ys ++ [(x1, x2)]))) := t1; have k1 : Kept (fun y => y < w.heap.size) wr w1 := ((kd.mono (fun _ _ _ => trivial)).alloc _).grown gr1 (fun j hj e q => by have := own_ge HD.out e; omega); clear t1 gr1 at1))
      all_goals
        go_wp2_with fail
        go_roundw
        case rel =>
          refine ⟨i + 1, ao1, cap1, by omega, by go_num, rfl, ?_, hk.then k1 (fun j hj _ => hj)⟩
          rw [HS.out]
          exact T1.out
        case measure => simp [intOf]; omega
    · have i1 : ¬ (i : Int) < (n : Int) := by omega
      have e : i = n := by omega
      subst e
      go_wp2
      go_ret
      refine ⟨_, rfl, ?_, hk⟩
      have := HO.out
      rw [List.take_of_length_le (by have := HL.out; omega)] at this
      exact this

/-- Of the readings ahead of i each goes together with all; the reading i with those ahead of k. -/
def Upto (r : Int) (xs : List (Int × Int)) (i : Nat) : Prop := ∀ a b (_ : a < xs.length) (_ : b < xs.length), a < i → xs[b].1 ≤ xs[a].1 → Goes r xs[b] xs[a]
def Upto2 (r : Int) (xs : List (Int × Int)) (i k : Nat) : Prop := ∀ b (_ : i < xs.length) (_ : b < xs.length), b < k → xs[b].1 ≤ xs[i].1 → Goes r xs[b] xs[i]
theorem Upto.next {r : Int} {xs : List (Int × Int)} {i k : Nat} (h : Upto r xs i) (h2 : Upto2 r xs i k) (hk : xs.length ≤ k) : Upto r xs (i + 1) := fun a b ha hb hi hle => by
  by_cases e : a = i
  · subst e
    exact h2 b ha hb (by omega) hle
  · exact h a b ha hb (by omega) hle
theorem Upto.all {r : Int} {xs : List (Int × Int)} {i : Nat} (h : Upto r xs i) (hk : xs.length ≤ i) : Fairly r xs := fun x hx y hy hle => by
  obtain ⟨a, ha, rfl⟩ := List.getElem_of_mem hx
  obtain ⟨b, hb, rfl⟩ := List.getElem_of_mem hy
  exact h a b ha hb (by omega) hle
theorem Upto2.next {r : Int} {xs : List (Int × Int)} {i k : Nat} (h : Upto2 r xs i k) (hi : i < xs.length) (hk : k < xs.length) (hg : xs[k].1 ≤ xs[i].1 → Goes r xs[k] xs[i]) : Upto2 r xs i (k + 1) := fun b hi' hb hlt hle => by
  by_cases e : b = k
  · subst e
    exact hg hle
  · exact h b hi' hb (by omega) hle

set_option maxRecDepth 100000 in
set_option maxHeartbeats 4000000 in
/-- The document's Fair. -/
theorem rfair_yes {w : World} {ao : Option Addr} {n cap : Nat} {xs : List (Int × Int)} (hl : xs.length = n) (h : Rd w ao xs) (hm : n ≤ 1000) (r : Int) (hr : Dr r) (F : Bool) (hF : F = true ↔ Fr xs r) :
    Calls Try.prog 20 #[.slice ao n cap, .int .i64 r] w fun e w' => e = .returned (.bool F) ∧ Kept (fun _ => True) w w' := by
  have HR : Hid (Rd w ao xs) := h
  have HL : Hid (xs.length = n) := hl
  have HD : Hid (Dr r) := hr
  obtain ⟨r0, r1⟩ := hr
  have g1 : ¬ r < 0 := by omega
  have g2 : ¬ (500 : Int) < r := by omega
  have HF : Hid (F = true ↔ Fr xs r) := hF
  clear h hl hF
  go_enter Try.func20, Try.ntmps20
  go_wp2_with fail
  go_loopw [5] (fun t wr => ∃ (i : Nat), i ≤ n ∧ t = .int .i64 i ∧ (∀ x ∈ xs.take i, Tm x.1 ∧ Tm x.2) ∧ wr = w) (fun t _ => n - (intOf t).toNat)
  case atStart => exact ⟨0, Nat.zero_le _, rfl, by simp, rfl⟩
  case round =>
    obtain ⟨i, hi, rfl, ht, rfl⟩ := hrel
    have HT : Hid (∀ x ∈ xs.take i, Tm x.1 ∧ Tm x.2) := ht
    clear ht
    by_cases hlt : i < n
    · have hlt' : i < xs.length := by have := HL.out; omega
      have HS : Hid (xs.take (i + 1) = xs.take i ++ [xs[i]]) := List.take_succ_eq_append_getElem hlt'
      have HM : Hid (xs[i] ∈ xs) := List.getElem_mem hlt'
      obtain ⟨b, off, rfl, hb, hc⟩ := HR.out.row (by omega)
      obtain ⟨y0, y1⟩ := hc i hlt'
      clear hc
      generalize xs[i] = x at *
      obtain ⟨x1, x2⟩ := x
      simp only at y0 y1
      have s1 := small_any x1 wr
      have s2 := small_any x2 wr
      have i1 : (i : Int) < (n : Int) := by omega
      have i0 : (0 : Int) ≤ (i : Int) := by omega
      by_cases h1 : Tm x1
      · rw [decide_eq_true h1] at s1
        by_cases h2 : Tm x2
        · rw [decide_eq_true h2] at s2
          have HT2 : Hid (∀ x ∈ xs.take (i + 1), Tm x.1 ∧ Tm x.2) := fun y hy => by
            rw [HS.out] at hy
            rcases List.mem_append.1 hy with hy | hy
            · exact HT.out y hy
            · rw [List.mem_singleton.1 hy]; exact ⟨h1, h2⟩
          clear h1 h2
          go_wp2_with fail
          refine s1.mono ?_
          rintro e wr ⟨rfl, rfl⟩
          go_wp2_with fail
          refine s2.mono ?_
          rintro e wr ⟨rfl, rfl⟩
          go_wp2_with fail
          go_roundw
          case rel => exact ⟨i + 1, by omega, by go_num, HT2.out, by trivial⟩
          case measure => simp [intOf]; omega
        · rw [decide_eq_false h2] at s2
          have hF : F = false := tells_no HF.out fun q => h2 (q.2.1 _ HM.out).2
          subst hF
          clear h1 h2
          go_wp2_with fail
          refine s1.mono ?_
          rintro e wr ⟨rfl, rfl⟩
          go_wp2_with fail
          refine s2.mono ?_
          rintro e wr ⟨rfl, rfl⟩
          go_wp2
          go_ret
          exact ⟨rfl, Kept.refl _ _⟩
      · rw [decide_eq_false h1] at s1
        have hF : F = false := tells_no HF.out fun q => h1 (q.2.1 _ HM.out).1
        subst hF
        clear h1 s2
        go_wp2_with fail
        refine s1.mono ?_
        rintro e wr ⟨rfl, rfl⟩
        go_wp2
        go_ret
        exact ⟨rfl, Kept.refl _ _⟩
    · have i1 : ¬ (i : Int) < (n : Int) := by omega
      have HA : Hid (AllTm xs) := fun x hx => HT.out x (by rw [List.take_of_length_le (by have := HL.out; omega)]; exact hx)
      clear HT
      have HW : Hid (i = n) := show i = n by omega
      go_wp2_with fail
      go_loopw [6] (fun t wx => ∃ (i : Nat), i ≤ n ∧ t = .int .i64 i ∧ Upto r xs i ∧ Kept (fun _ => True) wr wx) (fun t _ => n - (intOf t).toNat)
      case atStart => exact ⟨0, Nat.zero_le _, rfl, fun a b _ _ h => by omega, Kept.refl _ _⟩
      case round =>
        obtain ⟨j, hj, rfl, hu, kk⟩ := hrel
        have HU : Hid (Upto r xs j) := hu
        have HR2 : Hid (Rd wr ao xs) := HR.out.kept kk (fun _ _ => trivial)
        have HK : Hid (Kept (fun _ => True) _ wr) := kk
        clear hu kk
        by_cases hlt : j < n
        · have j1 : (j : Int) < (n : Int) := by omega
          have j0 : (0 : Int) ≤ (j : Int) := by omega
          go_wp2_with fail
          go_loopw [7] (fun t wx => ∃ (k : Nat), k ≤ n ∧ t = .int .i64 k ∧ Upto2 r xs j k ∧ Kept (fun _ => True) wr wx) (fun t _ => n - (intOf t).toNat)
          case atStart => exact ⟨0, Nat.zero_le _, rfl, fun b _ _ h => by omega, Kept.refl _ _⟩
          case round =>
            obtain ⟨k, hk, rfl, hu2, kk2⟩ := hrel
            have HU2 : Hid (Upto2 r xs j k) := hu2
            have HK2 : Hid (Kept (fun _ => True) _ wr) := HK.out.trans kk2
            clear hu2
            by_cases hlt2 : k < n
            · have k1 : (k : Int) < (n : Int) := by omega
              have k0 : (0 : Int) ≤ (k : Int) := by omega
              have hjx : j < xs.length := by have := HL.out; omega
              have hkx : k < xs.length := by have := HL.out; omega
              obtain ⟨b, off, rfl, hb, hc⟩ := (HR2.out.kept kk2 (fun _ _ => trivial)).row (by omega)
              obtain ⟨y0, y1⟩ := hc j hjx
              obtain ⟨z0, z1⟩ := hc k hkx
              have tj := HA.out _ (List.getElem_mem hjx)
              have tk := HA.out _ (List.getElem_mem hkx)
              have HN : Hid ((xs[k].1 ≤ xs[j].1 → Goes r xs[k] xs[j]) → Upto2 r xs j (k + 1)) := HU2.out.next hjx hkx
              have HX : Hid (xs[k].1 ≤ xs[j].1 → ¬ Goes r xs[k] xs[j] → F = false) := fun q1 q2 => tells_no HF.out fun q => q2 (q.2.2 _ (List.getElem_mem hjx) _ (List.getElem_mem hkx) q1)
              clear hc
              generalize xs[j] = x at *
              generalize xs[k] = y at *
              obtain ⟨a, bb⟩ := x
              obtain ⟨c, d⟩ := y
              simp only at y0 y1 z0 z1 tj tk HN HX
              obtain ⟨⟨a0, a1⟩, ⟨b0, b1⟩⟩ := tj
              obtain ⟨⟨c0, c1⟩, ⟨d0, d1⟩⟩ := tk
              have Y0 : ∀ m, (wr.drewN m).cell? ⟨b, off + j * 2, none⟩ = some (.int .i64 a) := fun _ => y0
              have Y1 : ∀ m, (wr.drewN m).cell? ⟨b, off + j * 2 + 1, none⟩ = some (.int .i64 bb) := fun _ => y1
              have Z0 : ∀ m, (wr.drewN m).cell? ⟨b, off + k * 2, none⟩ = some (.int .i64 c) := fun _ => z0
              have Z1 : ∀ m, (wr.drewN m).cell? ⟨b, off + k * 2 + 1, none⟩ = some (.int .i64 d) := fun _ => z1
              clear hb hjx hkx
              obtain ⟨D, hD⟩ : ∃ D, a - c = D := ⟨_, rfl⟩
              obtain ⟨E, hE⟩ : ∃ E, bb - d = E := ⟨_, rfl⟩
              have WD : IntKind.i64.wrap D = D := wrap_ok (by omega) (by omega)
              have WE : IntKind.i64.wrap E = E := wrap_ok (by omega) (by omega)
              have W0 : IntKind.i64.wrap (1000 * E) = 1000 * E := wrap_ok (by omega) (by omega)
              by_cases hdr : 0 ≤ D
              · have hd0 : decide (0 ≤ D) = true := decide_eq_true hdr
                have p1 := prod_le (n := 1073741824) (show (0 : Int) ≤ 1000 - r by omega) hdr (show 1000 - r ≤ 1000 by omega) (by omega)
                have p2 := prod_le (n := 1073741824) (show (0 : Int) ≤ 1000 + r by omega) hdr (show 1000 + r ≤ 1500 by omega) (by omega)
                obtain ⟨X, hX⟩ : ∃ X, (1000 - r) * D = X := ⟨_, rfl⟩
                obtain ⟨Y, hY⟩ : ∃ Y, (1000 + r) * D = Y := ⟨_, rfl⟩
                rw [hX] at p1
                rw [hY] at p2
                have WX : IntKind.i64.wrap X = X := wrap_ok (by omega) (by omega)
                have WY : IntKind.i64.wrap Y = Y := wrap_ok (by omega) (by omega)
                have hG : Hid (Goes r (c, d) (a, bb) ↔ X ≤ 1000 * E ∧ 1000 * E ≤ Y) := by
                  show _ ↔ _
                  unfold Goes
                  simp only
                  rw [hD, hE, hX, hY]
                by_cases q1 : 1000 * E < X
                · have hF : F = false := HX.out (by omega) (fun g => by have := hG.out.1 g; omega)
                  subst hF
                  have e1 : decide (1000 * E < X) = true := decide_eq_true q1
                  clear HN HX p1 p2 hdr q1 hG
                  go_wp2_with fail
                  go_quiet (fail)
                  go_wp2_with fail
                  go_quiet (fail)
                  go_wp2_with fail
                  go_ret
                  exact ⟨rfl, HK2.out.drewN _⟩
                · have e1 : decide (1000 * E < X) = false := decide_eq_false q1
                  by_cases q2 : Y < 1000 * E
                  · have hF : F = false := HX.out (by omega) (fun g => by have := hG.out.1 g; omega)
                    subst hF
                    have e2 : decide (Y < 1000 * E) = true := decide_eq_true q2
                    clear HN HX p1 p2 hdr q1 q2 hG
                    go_wp2_with fail
                    go_quiet (fail)
                    go_wp2_with fail
                    go_quiet (fail)
                    go_wp2_with fail
                    go_ret
                    exact ⟨rfl, HK2.out.drewN _⟩
                  · have e2 : decide (Y < 1000 * E) = false := decide_eq_false q2
                    have HU3 : Hid (Upto2 r xs j (k + 1)) := HN.out (fun _ => hG.out.2 ⟨by omega, by omega⟩)
                    clear HN HX p1 p2 hdr q1 q2 hG
                    go_wp2_with fail
                    go_quiet (fail)
                    go_wp2_with fail
                    go_quiet (fail)
                    go_wp2_with fail
                    go_roundw
                    case rel => exact ⟨k + 1, by omega, by go_num, HU3.out, kk2.drewN _⟩
                    case measure => simp [intOf]; omega
              · have hd0 : decide (0 ≤ D) = false := decide_eq_false hdr
                have HU3 : Hid (Upto2 r xs j (k + 1)) := HN.out (fun q => absurd q (by omega))
                clear HN HX hdr
                go_wp2_with fail
                go_quiet (fail)
                go_wp2_with fail
                go_quiet (fail)
                go_wp2_with fail
                go_roundw
                case rel => exact ⟨k + 1, by omega, by go_num, HU3.out, kk2.drewN _⟩
                case measure => simp [intOf]; omega
            · have k1 : ¬ (k : Int) < (n : Int) := by omega
              have HU3 : Hid (Upto r xs (j + 1)) := HU.out.next HU2.out (by have := HL.out; omega)
              clear hlt2
              go_wp2_with fail
              go_roundw
              case rel => exact ⟨j + 1, by omega, by go_num, HU3.out, HK2.out⟩
              case measure => simp [intOf]; omega
        · have j1 : ¬ (j : Int) < (n : Int) := by omega
          have hF : F = true := tells_yes HF.out ⟨HD.out, HA.out, HU.out.all (by have := HL.out; omega)⟩
          subst hF
          go_wp2
          go_ret
          exact ⟨rfl, HK.out⟩

theorem rfair_any {w : World} {ao : Option Addr} {n cap : Nat} {xs : List (Int × Int)} (hl : xs.length = n) (h : Rd w ao xs) (hm : n ≤ 1000) (r : Int) (q : Bool) (hq : q = true ↔ Fr xs r) :
    Calls Try.prog 20 #[.slice ao n cap, .int .i64 r] w fun e w' => e = .returned (.bool q) ∧ Kept (fun _ => True) w w' := by
  by_cases hr : Dr r
  · exact rfair_yes hl h hm r hr q hq
  · rw [tells_no hq (fun k => hr k.1)]
    unfold Dr at hr
    clear h hl hq
    by_cases g1 : r < 0
    · clear hr
      go_enter Try.func20, Try.ntmps20
      go_wp2
      go_ret
      exact ⟨rfl, Kept.refl _ _⟩
    · have g2 : 500 < r := by omega
      clear hr
      go_enter Try.func20, Try.ntmps20
      go_wp2
      go_ret
      exact ⟨rfl, Kept.refl _ _⟩

end Go.Proofs.Ytmppejhcjnodhaa
