/-
  LeaseFair: readings of a clock that goes at one rate are fair; one that jumps is not; fewer readings are fair.
-/
import Derived.Test.YtmppejhcjnodhaaG6
import Derived.Test.YtmppejhcjnodhaaGFair2
import Derived.Test.YtmppejhcjnodhaaGAsks
import Derived.Deep.RegionHeld3
import Derived.Deep.CutRange
namespace Go.Proofs.Ytmppejhcjnodhaa
open Go.RowKit

theorem Try.elemRd : Try.prog.elem 36 = 35 := by kernel_rfl
set_option maxRecDepth 100000 in
theorem size_rd (w0 : World) : (sizeOf (Try.prog.elem 36)).run Try.prog w0 = .ok 2 w0 := by
  obtain ⟨i, hi, hz0, hz1, hz2⟩ := info_parts Try.infoRd
  rw [Try.elemRd]
  simp [sizeOf, typeInfo, hi, hz1]
set_option maxRecDepth 100000 in
theorem cut_back {g n cap j : Nat} (hj : j ≤ n) (hc : j < cap) (w0 : World) : (Instr.slice 36 (.slice (some ⟨g, 0, none⟩) n cap) (some (.int .i64 (j : Int))) none none).run Try.prog w0 = .ok (.slice (some ⟨g, j * 2, none⟩) (n - j) (cap - j)) w0 := by
  rw [run_slice_l (P := Try.prog) w0 36 _ n cap Try.underlying36 .i64 j (by omega) (by omega), size_rd]
  simp [Result.andThen, sliced, show ¬ cap = j by omega, WideShapes.add_plain]
/-- All but the first. -/
theorem cut_first {g n cap : Nat} (hn : 2 ≤ n) (hc : n ≤ cap) (w0 : World) : (Instr.slice 36 (.slice (some ⟨g, 0, none⟩) n cap) (some (.int .i64 1)) none none).run Try.prog w0 = .ok (.slice (some ⟨g, 2, none⟩) (n - 1) (cap - 1)) w0 :=
  cut_back (j := 1) (by omega) (by omega) w0
theorem rd_tail {w : World} {g : Nat} {xs : List (Int × Int)} (h : Rd w (some ⟨g, 0, none⟩) xs) : Rd w (some ⟨g, 2, none⟩) xs.tail := ⟨fun h0 => by
  rw [List.length_tail] at h0
  obtain ⟨b, off, e, hb, hc⟩ := h.row (by omega)
  cases e
  refine ⟨g, 2, rfl, hb, fun i hi => ?_⟩
  rw [List.length_tail] at hi
  have := hc (i + 1) (by omega)
  rw [List.getElem_tail]
  rw [show 2 + i * 2 = 0 + (i + 1) * 2 by omega]
  exact this⟩

theorem step_append_rdN {w : World} {ops : Array Oper} {o : Oper} {a : Act} {K : Act → World → Prop} {Q : Exit → Act → World → Prop} {E : Prop} (hgd : o.guard = none) (sl y : Operand) (ho : o.op = .call { callee := .builtin .append, args := #[sl, y], argTypes := #[36, 36] })
    (base : Nat) (v : Value) (n : Nat) (xs : List (Int × Int)) (hs : a.eval sl = v) (hown : w.ownsRow base 35 2 v n (rrow xs)) (hb : base ≤ w.heap.size) (ad : Addr) (k c : Nat) (ys : List (Int × Int)) (hy : a.eval y = .slice (some ad) k c) (hk : ys.length = k) (hsrc : Rd w (some ad) ys) (N : Nat) (hN : n + k = N) (hm : N ≤ 2000)
    (h : ∀ ao' cap' w', w'.ownsRow base 35 2 (.slice ao' N cap') N (rrow (xs ++ ys)) → w.grownBy w' v.ownBlock → ((Value.slice ao' N cap').ownBlock = v.ownBlock ∨ (Value.slice ao' N cap').ownBlock = some w.heap.size) → K (a.put o.dst (.slice ao' N cap')) w') : if Region.wanted o (yielded ops a.tmps) = true then Oper.wp Try.prog o a w K Q else E := by
  subst hN
  exact step_append_rd Try.underlying36 Try.infoRd (by simp [Value.cells]) (by omega) hgd sl y ho base v n xs hs hown hb ad k c ys hy hk hsrc hm h

set_option maxRecDepth 100000 in
set_option maxHeartbeats 4000000 in
theorem leaseFair_any {w : World} (z0 z1 z2 z4 : Int) {a : Option Addr} {na ca : Nat} (ha : IsInts w a na) :
    Calls Try.prog 8 #[.int .i64 z0, .int .i64 z1, .int .i64 z2, .slice a na ca, .int .i64 z4] w fun e w' => e = .returned (.bool true) ∧ Kept (fun _ => True) w w' := by
  have HS : Hid (IsInts w a na) := ha
  clear ha
  go_enter Try.func8, Try.ntmps8
  go_wp2_with fail
  refine (within_any z0 500 (by omega) (by omega) _).mono ?_
  rintro e w ⟨⟨r, r0, r1, rfl⟩, rfl⟩
  have hr : Hid (Dr r) := ⟨r0, r1⟩
  go_wp2_with fail
  refine (within_any z1 (2 * r) (by omega) (by omega) _).mono ?_
  rintro e w ⟨⟨x1, x10, x11, rfl⟩, rfl⟩
  go_wp2_with fail
  have o0 : 1000 - r ≤ 1000 + x1 - r ∧ 1000 + x1 - r ≤ 1000 + r := by omega
  generalize 1000 + x1 - r = rate at *
  clear x10 x11
  refine (within_any z2 1000 (by omega) (by omega) _).mono ?_
  rintro e w ⟨⟨start, s0, s1, rfl⟩, rfl⟩
  go_wp2_with fail
  go_loopw [11, 12] (fun u t wr => ∃ (i : Nat) (xs : List (Int × Int)) (ao : Option Addr) (cap : Nat), i ≤ 10 ∧ t = .int .i64 i ∧ xs.length = i ∧ u = .slice ao i cap ∧ wr.ownsRow w.heap.size 35 2 (.slice ao i cap) i (rrow xs) ∧ AtRate rate start xs ∧ Kept (fun _ => True) w wr) (fun _ t _ => 10 - (intOf t).toNat)
  case atStart => exact ⟨0, [], none, 0, by omega, rfl, rfl, rfl, World.ownsRow_nil _ _ _ _, (show AtRate rate start [] from fun x hx => by cases hx), Kept.refl _ _⟩
  case round =>
    obtain ⟨i, xs, ao, cap, hi, rfl, hl, rfl, hO, hT, hk⟩ := hrel
    have HO : Hid (wr.ownsRow w.heap.size 35 2 (.slice ao i cap) i (rrow xs)) := hO
    have HT : Hid (AtRate rate start xs) := hT
    have HL : Hid (xs.length = i) := hl
    clear hO hT hl
    by_cases hlt : i < na ∧ i < 10
    · obtain ⟨b, off, x, rfl, _, hx⟩ := int_at HS.out hlt.1
      have y0 := hx _ hk
      have g1 : (i : Int) < (na : Int) := by omega
      have g2 : (i : Int) < 10 := by omega
      have g0 : (0 : Int) ≤ (i : Int) := by omega
      clear hx
      go_wp2_with fail
      refine (within_any x 1000 (by omega) (by omega) _).mono ?_
      rintro e wr ⟨⟨t, t0, t1, rfl⟩, rfl⟩
      have p := prod_le (n := 1000) (show (0 : Int) ≤ rate by omega) t0 (show rate ≤ 1500 by omega) t1
      have W1 : IntKind.i64.wrap (rate * t) = rate * t := wrap_ok (by omega) (by omega)
      have HT2 : Hid (AtRate rate start (xs ++ [(1000 * t, start + rate * t)])) := HT.out.snoc t0 t1
      clear y0
      generalize hp : rate * t = P at *
      have ka : Hid (Kept (fun _ => True) wr (wr.alloc (.cells #[.int .i64 (1000 * t), .int .i64 (start + P)] 35))) := (Kept.refl _ _).alloc _
      go_wp2_with (at_builtin; refine wpList_append_rd Try.underlying36 Try.infoRd (by simp [Value.cells]) (by omega) rfl (.tmp 41) (.tmp 50) rfl w.heap.size (.slice ao i cap) i xs rfl (own_kept2 HO.out ka.out (fun _ _ => trivial)) (Nat.le_trans hk.size ka.out.size) ⟨wr.heap.size, 0, none⟩ 1 1 [(1000 * t, start + P)] rfl rfl (rd_one (heap_alloc_new wr _)) (by omega) ?_; intro ao1 cap1 w1 t1' gr1 at1)
      go_roundw
      case rel =>
        refine ⟨i + 1, xs ++ [(1000 * t, start + P)], ao1, cap1, by omega, by go_num, by have := HL.out; simp; omega, rfl, t1', HT2.out, (hk.trans ka.out).grown gr1 (fun j hj e _ => ?_)⟩
        have := own_ge HO.out e
        omega
      case measure => simp [intOf]; omega
    · have hex : ¬ (i : Int) < (na : Int) ∨ ((i : Int) < (na : Int) ∧ ¬ (i : Int) < 10) := by omega
      clear hlt HS
      have hO2 := HO.out
      rw [← HL.out] at hO2
      obtain ⟨ao', cap', hv, hc, hrd, hat, hnil⟩ := own_rd hO2
      simp only [Value.slice.injEq] at hv
      obtain ⟨rfl, _, rfl⟩ := hv
      have HRd : Hid (Rd wr ao xs) := hrd
      have hc' : i ≤ cap := by have := HL.out; omega
      have hF1 := fair_to (w := wr) (cap := cap) xs HL.out hrd hnil (by omega) r true (true_tells (rate_fair hr.out o0.1 o0.2 s0 s1 HT.out))
      have H0 : Hid (xs.length = 0 → xs = []) := fun h => List.eq_nil_of_length_eq_zero h
      clear hO2 hc hrd
      by_cases hi0 : i = 0
      · subst hi0
        rcases hex with hex | hex
        · go_wp2_with fail
          refine hF1.mono ?_
          rintro e w2 ⟨rfl, k2⟩
          go_wp2_with fail
          refine (runs_any _).mono ?_
          rintro e w3 ⟨rfl, k3⟩
          go_wp2
          go_ret
          exact ⟨rfl, (hk.trans k2).trans k3⟩
        · omega
      · obtain ⟨g, rfl⟩ : ∃ g, ao = some ⟨g, 0, none⟩ := by
          cases ao with
          | none => exact absurd (by have := (hnil rfl).2; have := HL.out; simp_all) hi0
          | some ad =>
            obtain ⟨b', off', sp'⟩ := ad
            obtain ⟨_, q2, q3⟩ := hat _ rfl
            simp only at q2 q3
            subst q2 q3
            exact ⟨b', rfl⟩
        clear hat hnil
        have e0 : ((i : Int) == 0) = false := by simp; omega
        have i0 : (0 : Int) < (i : Int) := by omega
        have n0 : 0 < i := by omega
        have hq : Hid (¬ i = 1 → 2 ≤ i) := fun h => by omega
        have hF2 := fun W (k : Kept (fun _ => True) wr W) => fair_to (w := W) (n := i - 1) (cap := cap - 1) xs.tail (by rw [List.length_tail, HL.out]) ((rd_tail HRd.out).kept k (fun _ _ => trivial)) (by simp) (by omega) r true (true_tells (rate_fair hr.out o0.1 o0.2 s0 s1 HT.out.tail))
        clear hi0
        rcases hex with hex | hex
        all_goals
          go_upto_region 10 with fail
          go_cut [67] from 52 to 66 (fun t wx => t = .bool false ∧ Kept (fun _ => True) wr wx)
          case first =>
            by_cases hi1 : i = 1
            · first
                | (exfalso; omega)
                | (have e1 : ¬ (1 : Int) < (i : Int) := by omega
                   clear hi1 hq hF2
                   go_wp2_with fail
                   refine hF1.mono ?_
                   rintro e w2 ⟨rfl, k2⟩
                   go_wp2_with fail
                   go_meet
                   exact ⟨rfl, k2⟩)
            · have e1 : (1 : Int) < (i : Int) := by omega
              have hcf := cut_first (g := g) (n := i) (cap := cap) (hq.out hi1) hc'
              clear hi1 hq
              go_wp2_with fail
              refine hF1.mono ?_
              rintro e w2 ⟨rfl, k2⟩
              go_wp2_with fail
              refine (hF2 _ k2).mono ?_
              rintro e w3 ⟨rfl, k3⟩
              go_wp2_with fail
              go_meet
              exact ⟨rfl, k2.trans k3⟩
          case rest =>
          obtain ⟨rfl, kc⟩ := hcut
          clear hF1 hF2 hq hex
          have HRc : Hid (Rd wc (some ⟨g, 0, none⟩) xs) := HRd.out.kept kc (fun _ _ => trivial)
          have HKc : Hid (Kept (fun _ => True) w wc) := hk.trans kc
          obtain ⟨a0, b0, hm0, hb0, c0, c1⟩ : ∃ a0 b0 : Int, Hid ((a0, b0) ∈ xs) ∧ (0 ≤ b0 ∧ b0 ≤ 1073741824) ∧ wc.cell? ⟨g, 0, none⟩ = some (.int .i64 a0) ∧ wc.cell? ⟨g, 1, none⟩ = some (.int .i64 b0) := by
            have hl0 : 0 < xs.length := by have := HL.out; omega
            obtain ⟨b', off', e, _, hcs⟩ := HRc.out.row hl0
            cases e
            have := hcs 0 hl0
            have hmem : xs[0] ∈ xs := List.getElem_mem hl0
            exact ⟨xs[0].1, xs[0].2, hmem, ((rate_fair hr.out o0.1 o0.2 s0 s1 HT.out).2.1 _ hmem).2, by simpa using this.1, by simpa using this.2⟩
          have kd : Kept (fun _ => True) wc wc.drew := (Kept.refl _ _).drew
          have u0 : ∀ W, Kept (fun _ => True) wc W → W.cell? ⟨g, 0, none⟩ = some (.int .i64 a0) := fun W q => cell_kept q c0 trivial
          have u1 : ∀ W, Kept (fun _ => True) wc W → W.cell? ⟨g, 1, none⟩ = some (.int .i64 b0) := fun W q => cell_kept q c1 trivial
          have W5 : IntKind.i64.wrap (b0 + 1) = b0 + 1 := wrap_ok (by omega) (by omega)
          clear c0 c1 HRd kc hc'
          go_wp2_with fail
          go_region_held3 (fun W => Kept (fun _ => True) wc W) (first | assumption | exact Kept.alloc (by assumption) _) (first
            | (go_at_call 26; refine Calls.mono (within_any z4 100 (by omega) (by omega) _) ?_; rintro e w1 ⟨⟨j, j0, j1, rfl⟩, rfl⟩; have W6 : IntKind.i64.wrap (b0 + 1 + j) = b0 + 1 + j := wrap_ok (by omega) (by omega))
            | (refine step_append_rdN ?_ (.tmp 72) (.tmp 73) ?_ wc.heap.size (.slice (some ⟨wc.heap.size, 0, none⟩) 0 0) 0 [] ?_ (own_new2 _ wc.drew _ (Nat.le_refl _)) (by simp) ⟨g, 0, none⟩ i cap xs ?_ HL.out (HRc.out.kept (kd.alloc _) (fun _ _ => trivial)) i (by omega) (by omega) ?_; rfl; rfl; rfl; rfl; intro ao1 cap1 w1 t1 gr1 at1; have k1 : Kept (fun _ => True) wc w1 := (kd.alloc _).grown gr1 (fun q hq e _ => by simp [Value.ownBlock] at e; omega))
            | (refine step_append_rdN ?_ (.tmp 74) (.tmp 88) ?_ wc.heap.size (.slice ao1 i cap1) i xs ?_ (own_kept2 t1 ((Kept.refl (fun _ => True) _).alloc _) (fun _ _ => trivial)) (Nat.le_trans k1.size ((Kept.refl (fun _ => True) w1).alloc _).size) ⟨w1.heap.size, 0, none⟩ 1 1 [(a0, b0 + 1 + j)] ?_ rfl (rd_one (heap_alloc_new w1 _)) (i + 1) rfl (by omega) ?_; rfl; rfl; rfl; rfl; intro ao2 cap2 w2 t2 gr2 at2; have k2 : Kept (fun _ => True) wc w2 := (k1.alloc _).grown gr2 (fun q hq e _ => by have := own_ge t1 e; omega)))
          all_goals
            have hj := jump_not (r := r) hm0.out j0
            have t2' := t2
            rw [show i + 1 = (xs ++ [(a0, b0 + 1 + j)]).length by rw [List.length_append, HL.out]; rfl] at t2'
            obtain ⟨ao3, cap3, hv3, _, hrd3, _, hnil3⟩ := own_rd t2'
            have hl3 : (xs ++ [(a0, b0 + 1 + j)]).length = i + 1 := by rw [List.length_append, HL.out]; rfl
            rw [hl3, Value.slice.injEq] at hv3
            obtain ⟨rfl, _, rfl⟩ := hv3
            have hF3 := fair_to (w := w2) (cap := cap2) (xs ++ [(a0, b0 + 1 + j)]) hl3 hrd3 hnil3 (by omega) r false (false_tells hj)
            have K2 : Hid (Kept (fun _ => True) w w2) := HKc.out.trans k2
            clear hj t2' hrd3 hnil3 hl3 t2 gr2 at2 t1 gr1 at1
            go_wp2_with fail
            refine hF3.mono ?_
            rintro e w3 ⟨rfl, k3⟩
            go_wp2_with fail
            refine (runs_any _).mono ?_
            rintro e w4 ⟨rfl, k4⟩
            go_wp2
            go_ret
            exact ⟨rfl, (K2.out.trans k3).trans k4⟩

end Go.Proofs.Ytmppejhcjnodhaa
