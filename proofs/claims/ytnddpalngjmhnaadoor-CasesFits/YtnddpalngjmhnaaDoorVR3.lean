/-
  The document's Fits.
-/
import Derived.Test.YtnddpalngjmhnaaDoorV1
namespace Go.Proofs.YtnddpalngjmhnaaDoor
open Go.RowKit

theorem nat_same {a b : Nat} (h : a = b) : ((a : Int) != (b : Int)) = false := by rw [h]; simp
theorem nat_other {a b : Nat} (h : ¬ a = b) : ((a : Int) != (b : Int)) = true := by
  simp only [bne_iff_ne, ne_eq]
  omega

set_option maxRecDepth 100000 in
set_option maxHeartbeats 4000000 in
theorem rfits_any {w : World} {tv sv : Value} {t : Ty} {s : Sa} (ht : TyV w tv t) (hs : StV w sv s) (g : Good t) :
    Calls Tryd.prog 28 #[tv, sv] w fun e w' => Tells e (Fit t s) ∧ Kept (fun _ => True) w w' := by
  obtain ⟨ta, ts, tm, rfl, ha, hss, hk⟩ := ht
  obtain ⟨ao, ac, rfl, la⟩ := ha.form
  obtain ⟨so, sc, rfl, ls⟩ := hss.form
  obtain ⟨mo, mc, rfl, lm⟩ := hk.form
  obtain ⟨va, vd, vg, rfl, h1, h2, h3⟩ := hs
  obtain ⟨vo, vc, rfl, -, -⟩ := h1.ints
  obtain ⟨eo, ec, rfl, -, -⟩ := h2.bools
  obtain ⟨go, gc, rfl, -, -⟩ := h3.bools
  obtain ⟨x1, x2⟩ := alloc_two w (.cells #[.string ⟨t.name.toArray⟩, .slice ao t.attrs.length ac, .slice so t.stages.length sc, .slice mo t.marks.length mc] 25) (.cells #[.string ⟨s.type.toArray⟩, .slice vo s.vals.length vc, .slice eo s.done.length ec, .slice go s.got.length gc] 31)
  have hk0 : Kept (fun _ => True) w ((w.alloc (.cells #[.string ⟨t.name.toArray⟩, .slice ao t.attrs.length ac, .slice so t.stages.length sc, .slice mo t.marks.length mc] 25)).alloc (.cells #[.string ⟨s.type.toArray⟩, .slice vo s.vals.length vc, .slice eo s.done.length ec, .slice go s.got.length gc] 31)) := ((Kept.refl _ _).alloc _).alloc _
  have HA : Hid (Av _ (.slice ao t.attrs.length ac) t.attrs) := ha.all hk0
  have HV : Hid (Cv _ (.slice vo s.vals.length vc) (iv s.vals)) := h1.all hk0
  have hna := g.na
  have K0 : Hid _ := hk0
  have X1 : Hid _ := x1
  have X2 : Hid _ := x2
  clear ha hss hk h1 h2 h3 hk0 x1 x2 g
  go_enter Tryd.func28, Tryd.ntmps28
  go_upto_region 1 with fail
  generalize (w.alloc (.cells #[.string ⟨t.name.toArray⟩, .slice ao t.attrs.length ac, .slice so t.stages.length sc, .slice mo t.marks.length mc] 25)).alloc (.cells #[.string ⟨s.type.toArray⟩, .slice vo s.vals.length vc, .slice eo s.done.length ec, .slice go s.got.length gc] 31) = w2 at *
  generalize w.heap.size = B at *
  obtain ⟨⟨y0, y1, y2, y3⟩, _⟩ := four_cell X1.out
  obtain ⟨⟨z0, z1, z2, z3⟩, _⟩ := four_cell X2.out
  by_cases hn : s.type = t.name
  · have hn' : (s.type == t.name) = true := by simpa using hn
    have hn2 : (s.type != t.name) = false := by simpa using hn
    have HN : Hid _ := hn
    clear hn
    by_cases e1 : s.vals.length = t.attrs.length
    · by_cases e2 : s.done.length = t.stages.length
      · by_cases e3 : s.got.length = t.marks.length
        · have HZ : Hid (Sized t s) := ⟨e1, e2, e3⟩
          have f1 := nat_same e1
          have f2 := nat_same e2
          have f3 := nat_same e3
          have hvl : s.vals.length ≤ 6 := by omega
          have HE : Hid (s.vals.length = t.attrs.length) := e1
          clear e1 e2 e3
          go_wp2_with fail
          clear y0 y1 y2 y3 z0 z1 z2 z3
          go_loopw [5] (fun ti wr => ∃ i : Nat, i ≤ s.vals.length ∧ ti = .int .i64 i ∧ (∀ k, k < i → wthn (t.attrs.getD k At.nil) (s.vals.getD k 0) = true) ∧ Kept (fun _ => True) w2 wr) (fun ti _ => s.vals.length - (intOf ti).toNat)
          case atStart => exact ⟨0, Nat.zero_le _, rfl, fun k hk => (by omega), Kept.refl _ _⟩
          case round =>
          obtain ⟨i, hi, rfl, hall, hk⟩ := hrel
          have HAll : Hid (∀ k, k < i → wthn (t.attrs.getD k At.nil) (s.vals.getD k 0) = true) := hall
          have HKr : Hid (Kept (fun _ => True) w2 wr) := hk
          have HB1 := (hk.block _ (lt_of_block X1.out) trivial).trans X1.out
          have HB2 := (hk.block _ (lt_of_block X2.out) trivial).trans X2.out
          obtain ⟨⟨y0, y1, y2, y3⟩, _⟩ := four_cell HB1
          obtain ⟨⟨z0, z1, z2, z3⟩, _⟩ := four_cell HB2
          clear hall hk HB1 HB2
          by_cases hlt : i < s.vals.length
          · have hla : i < t.attrs.length := by have := HE.out; omega
            obtain ⟨hv, hwe⟩ := within_at HZ.out hla
            obtain ⟨b, off, rfl, hb, q0, q1, q2, q3⟩ := (HA.out.all HKr.out).at i hla
            obtain ⟨b2, off2, rfl, hb2, c0⟩ := (HV.out.all HKr.out).intAt i hv
            have HWE : Hid _ := hwe
            have i1 : (i : Int) < (t.attrs.length : Int) := by omega
            have i0 : (0 : Int) ≤ (i : Int) := by omega
            have i2 : (i : Int) < (s.vals.length : Int) := by omega
            clear hb hwe hb2
            generalize t.attrs[i] = x at *
            generalize s.vals[i] = n at *
            by_cases l1 : n < x.lo
            · have HQ : Hid ((false : Bool) = true ↔ Fit t s) := ⟨fun h => (by cases h), fun h => by
                have := (h.within i hla).symm.trans HWE.out
                simp only [wthn, Bool.true_eq, Bool.and_eq_true, decide_eq_true_eq] at this
                omega⟩
              go_wp2_with fail
              go_quiet (fail)
              go_wp2_with fail
              go_ret
              exact ⟨Tells.mk rfl HQ.out, (K0.out.trans HKr.out).drewN _⟩
            · by_cases l2 : x.hi < n
              · have HQ : Hid ((false : Bool) = true ↔ Fit t s) := ⟨fun h => (by cases h), fun h => by
                  have := (h.within i hla).symm.trans HWE.out
                  simp only [wthn, Bool.true_eq, Bool.and_eq_true, decide_eq_true_eq] at this
                  omega⟩
                go_wp2_with fail
                go_quiet (fail)
                go_wp2_with fail
                go_ret
                exact ⟨Tells.mk rfl HQ.out, (K0.out.trans HKr.out).drewN _⟩
              · have HW2 : Hid (wthn x n = true) := by
                  show _ = _
                  simp only [wthn, Bool.and_eq_true, decide_eq_true_eq]
                  omega
                go_wp2_with fail
                go_quiet (fail)
                go_wp2_with fail
                go_roundw
                case rel =>
                  refine ⟨i + 1, by omega, by go_num, fun k hk => ?_, HKr.out.drewN _⟩
                  rcases Nat.lt_or_ge k i with h | h
                  · exact HAll.out k h
                  · obtain rfl : k = i := by omega
                    exact HWE.out.trans HW2.out
                case measure => simp [intOf]; omega
          · have i1 : ¬ (i : Int) < (s.vals.length : Int) := by omega
            have HQ : Hid (Fit t s) := ⟨HN.out, HZ.out, fun k hk => HAll.out k (by have := HE.out; omega)⟩
            go_wp2_with fail
            go_ret
            exact ⟨Tells.yes rfl HQ.out, K0.out.trans HKr.out⟩
        · have f1 := nat_same e1
          have f2 := nat_same e2
          have f3 := nat_other e3
          have HQ : Hid ((false : Bool) = true ↔ Fit t s) := ⟨fun h => (by cases h), fun h => absurd h.sz.got e3⟩
          clear e1 e2 e3
          go_wp2_with fail
          go_ret
          exact ⟨Tells.mk rfl HQ.out, K0.out⟩
      · have f1 := nat_same e1
        have f2 := nat_other e2
        have HQ : Hid ((false : Bool) = true ↔ Fit t s) := ⟨fun h => (by cases h), fun h => absurd h.sz.done e2⟩
        clear e1 e2
        go_wp2_with fail
        go_ret
        exact ⟨Tells.mk rfl HQ.out, K0.out⟩
    · have f1 := nat_other e1
      have HQ : Hid ((false : Bool) = true ↔ Fit t s) := ⟨fun h => (by cases h), fun h => absurd h.sz.vals e1⟩
      clear e1
      go_wp2_with fail
      go_ret
      exact ⟨Tells.mk rfl HQ.out, K0.out⟩
  · have hn' : (s.type == t.name) = false := by simpa using hn
    have hn2 : (s.type != t.name) = true := by simpa using hn
    have HQ : Hid ((false : Bool) = true ↔ Fit t s) := ⟨fun h => (by cases h), fun h => absurd h.type hn⟩
    clear hn
    go_wp2_with fail
    go_ret
    exact ⟨Tells.mk rfl HQ.out, K0.out⟩

end Go.Proofs.YtnddpalngjmhnaaDoor
