/-
  settle.
-/
import Derived.Test.YtnddpalngjmhnabDoorV1
import Derived.Deep.RegionHeld
import Derived.Lib.SliceRun
namespace Go.Proofs.YtnddpalngjmhnabDoor
open Go.RowKit

def isF : Option Value → Bool
  | some (.bool false) => true
  | _ => false
/-- How many of a row of truths are false. -/
def falses (w : World) : Value → Nat
  | .slice (some a) n _ => (List.range n).countP (fun i => isF (w.cell? ⟨a.block, i, none⟩))
  | _ => 0
def flag : Value → Nat
  | .bool true => 1
  | _ => 0
theorem count_isF : ∀ xs : List Bool, (List.range xs.length).countP (fun i => isF ((bv xs)[i]?)) = xs.count false
  | [] => rfl
  | b :: l => by
    have ih := count_isF l
    rw [List.length_cons, List.range_succ_eq_map, List.countP_cons, List.countP_map, List.count_cons]
    have e : ((fun i => isF ((bv (b :: l))[i]?)) ∘ Nat.succ) = fun i => isF ((bv l)[i]?) := by
      funext i
      simp [bv]
    rw [e, ih]
    cases b <;> simp [bv, isF]
theorem falses_own {w : World} {base n : Nat} {v : Value} {xs : List Bool} (h : w.ownsRow base 4 1 v n (bv xs)) (hn : n = xs.length) : falses w v = xs.count false := by
  subst hn
  rcases h.2 with ⟨rfl, h0⟩ | ⟨g, cap, cur, rfl, _⟩
  · obtain rfl := List.eq_nil_of_length_eq_zero h0
    rfl
  · rw [← count_isF xs]
    show (List.range xs.length).countP _ = _
    refine List.countP_congr fun i hi => ?_
    rw [h.cellAt i (by have := List.mem_range.1 hi; omega)]

/-- Rounds: what is settled is told by where one stands. -/
theorem round_again {t : Ty} {s s' : Sa} {b : Bool} (h : rnd t 0 t.marks s = (s', b)) : Grows s s' ∧ (b = true → settled t s' = settled t s ∧ wanting s' < wanting s) ∧ (b = false → s' = s ∧ settled t s = s) := by
  obtain ⟨h1, h2, h3, h4⟩ := rnd_facts t t.marks 0 s
  have e1 : (rnd t 0 t.marks s).1 = s' := by rw [h]
  have e2 : (rnd t 0 t.marks s).2 = b := by rw [h]
  rw [e1] at h1 h2 h3 h4
  rw [e2] at h2 h4
  refine ⟨h1, fun hb => ⟨?_, h4 hb⟩, fun hb => ⟨h2 hb, settled_stop (e2.trans hb)⟩⟩
  rw [settled_again (e2.trans hb), e1]
/-- One mark of a round: from where one stands. -/
theorem round_step {t : Ty} {s0 s : Sa} {i : Nat} {b d : Bool} (h : rnd t 0 t.marks s0 = ((rnd t i (t.marks.drop i) s).1, b || (rnd t i (t.marks.drop i) s).2)) (hi : i < t.marks.length) (hg : i < s.got.length) (hd : s.got[i] = d) :
    (d = true → rnd t 0 t.marks s0 = ((rnd t (i + 1) (t.marks.drop (i + 1)) s).1, b || (rnd t (i + 1) (t.marks.drop (i + 1)) s).2)) ∧
    (d = false → hld t s (t.marks[i]).guard = false → rnd t 0 t.marks s0 = ((rnd t (i + 1) (t.marks.drop (i + 1)) s).1, b || (rnd t (i + 1) (t.marks.drop (i + 1)) s).2)) ∧
    (d = false → hld t s (t.marks[i]).guard = true → rnd t 0 t.marks s0 = ((rnd t (i + 1) (t.marks.drop (i + 1)) (s.mark i)).1, true || (rnd t (i + 1) (t.marks.drop (i + 1)) (s.mark i)).2)) := by
  have e : s.got[i]? = some d := by rw [List.getElem?_eq_getElem hg, hd]
  have hs := rnd_step (s := s) hi
  rw [e] at hs
  refine ⟨fun h1 => ?_, fun h1 h2 => ?_, fun h1 h2 => ?_⟩
  · rw [if_neg (by rw [h1]; simp)] at hs
    rw [h, hs]
  · rw [if_neg (by rw [h2]; simp)] at hs
    rw [h, hs]
  · rw [if_pos ⟨by rw [h1], h2⟩] at hs
    rw [h, hs]
    simp

/-- A state whose marks are being got: in memory. -/
structure Ge (base : Nat) (w1 w : World) (va vd vg : Value) (s0 s : Sa) : Prop where
  so : So w base va vd vg s
  grows : Grows s0 s
  kept : Kept (fun k => vg.ownBlock ≠ some k) w1 w
theorem Ge.all {base : Nat} {w1 w w' : World} {va vd vg : Value} {s0 s : Sa} (h : Ge base w1 w va vd vg s0 s) (k : Kept (fun _ => True) w w') : Ge base w1 w' va vd vg s0 s :=
  ⟨h.so.all k, h.grows, h.kept.trans (k.mono fun _ _ _ => trivial)⟩
theorem Ge.mark {base g n cap : Nat} {w1 w : World} {va vd : Value} {s0 s : Sa} (h : Ge base w1 w va vd (.slice (some ⟨g, 0, none⟩) n cap) s0 s) (hn : n = s.got.length) (i : Nat) : Ge base w1 (w.setCell ⟨g, i, none⟩ (.bool true)) va vd (.slice (some ⟨g, 0, none⟩) n cap) s0 (s.mark i) :=
  ⟨(h.so.setGot hn i true).1, h.grows.trans (Grows.mark s i), h.kept.setCell (by simp [Value.ownBlock]) _⟩
/-- What does not lie in the row of marks stays. -/
theorem Ge.block {base : Nat} {w1 w : World} {va vd vg : Value} {s0 s : Sa} (h : Ge base w1 w va vd vg s0 s) {B : Nat} {o : Obj} (hB : w1.heap[B]? = some o) (hne : vg.ownBlock ≠ some B) : w.heap[B]? = some o := (h.kept.block B (lt_of_block hB) hne).trans hB

theorem So.lowG {w w' : World} {base : Nat} {va vd vg : Value} {s : Sa} (h : So w base va vd vg s) (k : Kept (fun k => vg.ownBlock ≠ some k) w w') : Kept (· < base) w w' :=
  k.mono fun i _ hi e => by have := (h.got.lt i e).1; omega
set_option maxRecDepth 100000 in
set_option maxHeartbeats 8000000 in
theorem settle_any {w0 w : World} {tv va vd vg : Value} {t : Ty} {s : Sa} (ht : TyV w0 tv t) (k0 : Kept (· < w0.heap.size) w0 w) (h : So w w0.heap.size va vd vg s) (g : Good t) (f : Sized t s) :
    Calls Tryd.prog 16 #[tv, .agg #[.string ⟨s.type.toArray⟩, va, vd, vg]] w fun e w' => e = .returned (.tuple #[]) ∧ So w' w0.heap.size va vd vg (settled t s) ∧ Kept (fun k => vg.ownBlock ≠ some k) w w' := by
  have HTy : Hid (TyV w0 tv t) := ht
  obtain ⟨ta, ts, tm, rfl, ha, hss, hkk⟩ := ht
  obtain ⟨ao, ac, rfl, la⟩ := ha.form
  obtain ⟨so, sc, rfl, ls⟩ := hss.form
  obtain ⟨mo, mc, rfl, lm⟩ := hkk.form
  obtain ⟨vo, vc, rfl⟩ := own_shape_any h.vals
  obtain ⟨eo, ec, rfl⟩ := own_shape_any h.done
  obtain ⟨go, gc, rfl⟩ := own_shape_any h.got
  obtain ⟨N0, hN0⟩ : ∃ N0, N0 = w0.heap.size := ⟨_, rfl⟩
  rw [← hN0] at h k0 ⊢
  obtain ⟨x1, x2⟩ := alloc_two w (.cells #[.string ⟨t.name.toArray⟩, .slice ao t.attrs.length ac, .slice so t.stages.length sc, .slice mo t.marks.length mc] 26) (.cells #[.string ⟨s.type.toArray⟩, .slice vo s.vals.length vc, .slice eo s.done.length ec, .slice go s.got.length gc] 32)
  have hk1 : Kept (fun _ => True) w ((w.alloc (.cells #[.string ⟨t.name.toArray⟩, .slice ao t.attrs.length ac, .slice so t.stages.length sc, .slice mo t.marks.length mc] 26)).alloc (.cells #[.string ⟨s.type.toArray⟩, .slice vo s.vals.length vc, .slice eo s.done.length ec, .slice go s.got.length gc] 32)) := ((Kept.refl _ _).alloc _).alloc _
  have hlow : ∀ k, (Value.slice go s.got.length gc).ownBlock = some k → N0 ≤ k ∧ k < w.heap.size := h.got.lt
  have hge0 : Ge N0 _ _ (.slice vo s.vals.length vc) (.slice eo s.done.length ec) (.slice go s.got.length gc) s s := ⟨h.all hk1, Grows.refl s, Kept.refl _ _⟩
  obtain ⟨B, hB⟩ : ∃ B, B = w.heap.size := ⟨_, rfl⟩
  have hb1 : (Value.slice go s.got.length gc).ownBlock ≠ some B := fun e => by have := (hlow B e).2; omega
  have hb2 : (Value.slice go s.got.length gc).ownBlock ≠ some (B + 1) := fun e => by have := (hlow (B + 1) e).2; omega
  rw [← hB] at x1 x2
  have hm := g.nm
  have hml : s.got.length = t.marks.length := f.got
  have HFew : Hid (∀ s', Grows s s' → Few s') := fun s' hg => by
    have := g.na; have := g.ns; have := f.vals; have := f.done
    exact ⟨by rw [hg.vals]; omega, by rw [hg.done]; omega, by rw [hg.got]; omega⟩
  have HGd : Hid (Good t) := g
  have HB0 : Hid (B = w.heap.size) := hB
  have HTW : Hid (∀ W s', Ge N0 ((w.alloc (.cells #[.string ⟨t.name.toArray⟩, .slice ao t.attrs.length ac, .slice so t.stages.length sc, .slice mo t.marks.length mc] 26)).alloc (.cells #[.string ⟨s.type.toArray⟩, .slice vo s.vals.length vc, .slice eo s.done.length ec, .slice go s.got.length gc] 32)) W (.slice vo s.vals.length vc) (.slice eo s.done.length ec) (.slice go s.got.length gc) s s' → TyV W (.agg #[.string ⟨t.name.toArray⟩, .slice ao t.attrs.length ac, .slice so t.stages.length sc, .slice mo t.marks.length mc]) t) := fun W s' hg => by
    refine HTy.out.low ?_
    rw [← hN0]
    exact (k0.trans (hk1.mono fun _ _ _ => trivial)).trans (hg.kept.mono fun i _ hi e => by have := (hlow i e).1; omega)
  have HEnd : Hid (∀ W s', Ge N0 ((w.alloc (.cells #[.string ⟨t.name.toArray⟩, .slice ao t.attrs.length ac, .slice so t.stages.length sc, .slice mo t.marks.length mc] 26)).alloc (.cells #[.string ⟨s.type.toArray⟩, .slice vo s.vals.length vc, .slice eo s.done.length ec, .slice go s.got.length gc] 32)) W (.slice vo s.vals.length vc) (.slice eo s.done.length ec) (.slice go s.got.length gc) s s' → Kept (fun k => (Value.slice go s.got.length gc).ownBlock ≠ some k) w W) := fun W s' hg =>
    (hk1.mono fun _ _ _ => trivial).trans hg.kept
  have HML : Hid (s.got.length = t.marks.length) := hml
  obtain ⟨R, hR⟩ : ∃ R, R = settled t s := ⟨_, rfl⟩
  have HR : Hid (settled t s = R) := hR.symm
  rw [← hR]
  clear hR
  clear ha hss hkk k0 h hk1 g f hN0 HTy hB hml
  go_enter Tryd.func16, Tryd.ntmps16
  go_upto_region 1 with fail
  rw [← HB0.out]
  generalize (w.alloc (.cells #[.string ⟨t.name.toArray⟩, .slice ao t.attrs.length ac, .slice so t.stages.length sc, .slice mo t.marks.length mc] 26)).alloc (.cells #[.string ⟨s.type.toArray⟩, .slice vo s.vals.length vc, .slice eo s.done.length ec, .slice go s.got.length gc] 32) = w1 at *
  have HG0 : Hid (Ge N0 w1 w1 (.slice vo s.vals.length vc) (.slice eo s.done.length ec) (.slice go s.got.length gc) s s) := hge0
  have X1 : Hid (w1.heap[B]? = some (.cells #[.string ⟨t.name.toArray⟩, .slice ao t.attrs.length ac, .slice so t.stages.length sc, .slice mo t.marks.length mc] 26 (0, 0))) := x1
  have X2 : Hid (w1.heap[B + 1]? = some (.cells #[.string ⟨s.type.toArray⟩, .slice vo s.vals.length vc, .slice eo s.done.length ec, .slice go s.got.length gc] 32 (0, 0))) := x2
  have N1 : Hid _ := hb1
  have N2 : Hid _ := hb2
  clear hge0 x1 x2 hb1 hb2 hlow HB0
  go_wp2_with fail
  go_loopw [4, 5, 6, 11] (fun t4 _ _ _ wr => ∃ (b : Bool) (s' : Sa), t4 = .bool b ∧ Ge N0 w1 wr (.slice vo s.vals.length vc) (.slice eo s.done.length ec) (.slice go s.got.length gc) s s' ∧ (b = true → settled t s' = R) ∧ (b = false → s' = R)) (fun t4 _ _ _ wr => 2 * falses wr (.slice go s.got.length gc) + flag t4)
  case atStart => exact ⟨true, s, rfl, HG0.out, fun _ => HR.out, fun h => (by cases h)⟩
  case round =>
  obtain ⟨b, s0, rfl, hge, hb1, hb2⟩ := hrel
  have HGe : Hid (Ge N0 w1 wr (.slice vo s.vals.length vc) (.slice eo s.done.length ec) (.slice go s.got.length gc) s s0) := hge
  cases b with
  | false =>
    have HE : Hid (s0 = R) := hb2 rfl
    clear hge hb1 hb2
    go_wp2_with fail
    go_end0
    refine ⟨rfl, ?_, HEnd.out _ _ HGe.out⟩
    rw [← HE.out]
    exact HGe.out.so
  | true =>
    have HE : Hid (settled t s0 = R) := hb1 rfl
    have HF0 : Hid (falses wr (.slice go s.got.length gc) = wanting s0) := falses_own hge.so.got (by rw [hge.grows.got])
    have hB1 := hge.block X1.out N1.out
    obtain ⟨⟨y0, y1, y2, y3⟩, _⟩ := four_cell hB1
    clear hge hb1 hb2 hB1
    go_wp2_with fail
    clear y0 y1 y2 y3
    go_loopw [4, 5, 6, 11] (fun t4 _ _ ti wq => ∃ (b : Bool) (i : Nat) (s' : Sa), i ≤ t.marks.length ∧ ti = .int .i64 i ∧ t4 = .bool b ∧ Ge N0 w1 wq (.slice vo s.vals.length vc) (.slice eo s.done.length ec) (.slice go s.got.length gc) s s' ∧ rnd t 0 t.marks s0 = ((rnd t i (t.marks.drop i) s').1, b || (rnd t i (t.marks.drop i) s').2)) (fun _ _ _ ti _ => t.marks.length - (intOf ti).toNat)
    case atStart => exact ⟨false, 0, s0, Nat.zero_le _, rfl, rfl, HGe.out, by simp⟩
    case round =>
    obtain ⟨b, i, s', hi, rfl, rfl, hge, hrn⟩ := hrel
    have HRn : Hid (rnd t 0 t.marks s0 = ((rnd t i (t.marks.drop i) s').1, b || (rnd t i (t.marks.drop i) s').2)) := hrn
    have HGe2 : Hid (Ge N0 w1 wr (.slice vo s.vals.length vc) (.slice eo s.done.length ec) (.slice go s.got.length gc) s s') := hge
    clear hrn
    by_cases hlt : i < t.marks.length
    · have hgl : s'.got.length = s.got.length := hge.grows.got
      have hgi : i < s'.got.length := by rw [hgl, HML.out]; exact hlt
      have hgi2 : i < s.got.length := by rw [HML.out]; exact hlt
      have hT := HTW.out wr s' hge
      obtain ⟨_, _, tm, e4, _, _, hM⟩ := hT
      cases e4
      obtain ⟨b2, off, rfl, hb, q0, q1⟩ := hM.at i hlt
      have hso := hge.so.got
      rw [hgl] at hso
      obtain ⟨g, rfl⟩ : ∃ g, go = some ⟨g, 0, none⟩ := by
        obtain ⟨ao', cap', e, _, _, h0⟩ := own_form hso
        cases e
        exact h0 (by omega)
      have c0 := hso.cellAt i (by omega)
      rw [show (bv s'.got)[i]? = some (.bool s'.got[i]) by simp [bv, hgi]] at c0
      have f0 := hso.frozenAt i
      have hgb : g < wr.heap.size := (hso.lt g rfl).2
      have hB2 := hge.block X2.out N2.out
      have hB1 := hge.block X1.out N1.out
      obtain ⟨hr1, hr2, hr3⟩ := round_step HRn.out hlt hgi rfl
      have R1 : Hid _ := hr1
      have R2 : Hid _ := hr2
      have R3 : Hid _ := hr3
      have i1 : (i : Int) < (t.marks.length : Int) := by omega
      have i2 : (i : Int) < (s.got.length : Int) := by omega
      have i0 : (0 : Int) ≤ (i : Int) := by omega
      have HGL : Hid ((t.marks[i]).guard.length ≤ 281474976710656) := by
        have := HGd.out.guards _ (List.mem_append.2 (.inr (List.getElem_mem hlt)))
        show _ ≤ _
        omega
      have ka : Kept (fun _ => True) wr (wr.alloc (.cells #[.string ⟨(t.marks[i]).name.toArray⟩, .string ⟨(t.marks[i]).guard.toArray⟩] 50)) := (Kept.refl _ _).alloc _
      have hge3 := hge.all ka
      have c1 := (kept_cell ka hgb (o := i) trivial).trans c0
      have hB3 := hge3.block X2.out N2.out
      have hB4 := hge3.block X1.out N1.out
      have hV3 : StV (wr.alloc (.cells #[.string ⟨(t.marks[i]).name.toArray⟩, .string ⟨(t.marks[i]).guard.toArray⟩] 50)) (.agg #[.string ⟨s.type.toArray⟩, .slice vo s.vals.length vc, .slice eo s.done.length ec, .slice (some ⟨g, 0, none⟩) s.got.length gc]) s' := by
        obtain ⟨p1, p2, p3⟩ := hge3.so.view (HFew.out _ hge.grows)
        exact ⟨_, _, _, by rw [hge.grows.type], p1, p2, p3⟩
      have ch := holds_any (HTW.out _ s' hge3) hV3 (HFew.out _ hge.grows) (by have := HGd.out.few; omega) HGL.out
      have HG3 : Hid _ := hge3
      have hGx := heap_alloc_new wr (.cells #[.string ⟨(t.marks[i]).name.toArray⟩, .string ⟨(t.marks[i]).guard.toArray⟩] 50)
      clear hge hM hr1 hr2 hr3 hge3 hV3 ka hso hgb hB1 hB2 hb c0
      generalize s'.got[i] = d at *
      generalize t.marks[i] = r at *
      obtain ⟨⟨y0, y1, y2, y3⟩, _⟩ := four_cell hB4
      obtain ⟨⟨z0, z1, z2, z3⟩, _⟩ := four_cell hB3
      clear hB3 hB4
      cases d with
      | true =>
        have HRN : Hid _ := R1.out (by simp)
        clear ch
        go_wp2_with fail
        go_roundw
        case rel => exact ⟨b, i + 1, s', by omega, by go_num, rfl, HG3.out, HRN.out⟩
        case measure => simp [intOf]; omega
      | false =>
        go_upto_region 7 with fail
        generalize wr.alloc (.cells #[.string ⟨r.name.toArray⟩, .string ⟨r.guard.toArray⟩] 50) = w3 at *
        generalize wr.heap.size = G at *
        obtain ⟨g0, g1⟩ := pair_cell hGx
        go_wp2_with fail
        refine Calls.mono ch ?_
        rintro e w4 ⟨rfl, k4⟩
        have hge4 := HG3.out.all k4
        have hB4 := hge4.block X2.out N2.out
        have HG4 : Hid _ := hge4
        have hso4 := hge4.so.got
        rw [hgl] at hso4
        have f4 := hso4.frozenAt i
        have c4 := hso4.cellAt i (by omega)
        rw [show (bv s'.got)[i]? = some (.bool s'.got[i]) by simp [bv, hgi]] at c4
        clear ch y0 y1 y2 y3 z0 z1 z2 z3 hge4 c1 f0 k4 g0 g1 hGx hso4
        obtain ⟨⟨z0, z1, z2, z3⟩, _⟩ := four_cell hB4
        generalize hq : hld t s' r.guard = q at *
        cases q with
        | false =>
          have HRN : Hid _ := R2.out (by simp) (by simp)
          clear hB4
          go_wp2_with fail
          go_roundw
          case rel => exact ⟨b, i + 1, s', by omega, by go_num, rfl, HG4.out, HRN.out⟩
          case measure => simp [intOf]; omega
        | true =>
          have HRN : Hid _ := R3.out (by simp) (by simp)
          have HG5 : Hid _ := HG4.out.mark hgl.symm i
          clear hB4
          generalize s'.got[i] = d2 at *
          go_wp2_with fail
          go_roundw
          case rel => exact ⟨true, i + 1, s'.mark i, by omega, by go_num, rfl, HG5.out, HRN.out⟩
          case measure => simp [intOf]; omega
    · have i1 : ¬ (i : Int) < (t.marks.length : Int) := by omega
      have hov := HRn.out
      rw [rnd_over (by omega)] at hov
      simp only [Bool.or_false] at hov
      obtain ⟨h1, h2, h3⟩ := round_again hov
      have HH : Hid _ := h2
      have HH3 : Hid _ := h3
      have HF1 : Hid (falses wr (.slice go s.got.length gc) = wanting s') := falses_own hge.so.got (by rw [hge.grows.got])
      clear hov h1 h2 h3 hge
      go_wp2_with fail
      go_roundw
      case rel =>
        refine ⟨b, s', rfl, HGe2.out, fun hb => ?_, fun hb => ?_⟩
        · exact (HH.out hb).1.trans HE.out
        · obtain ⟨q1, q2⟩ := HH3.out hb
          rw [q1, ← q2]
          exact HE.out
      case measure =>
        rw [HF1.out, HF0.out]
        cases b with
        | true => have := (HH.out rfl).2; simp only [flag]; omega
        | false => have := (HH3.out rfl).1; rw [this]; simp only [flag]; omega

end Go.Proofs.YtnddpalngjmhnabDoor

namespace Go.Proofs.YtnddpalngjmhnabDoor
open Go.RowKit

theorem wrap_ok {x : Int} (h1 : -9223372036854775808 ≤ x) (h2 : x ≤ 9223372036854775807) : IntKind.i64.wrap x = x := by
  simp [IntKind.wrap, IntKind.bits, IntKind.signed]
  omega
theorem alloc_three (w : World) (a b c : Obj) : (((w.alloc a).alloc b).alloc c).heap[w.heap.size]? = some a ∧ (((w.alloc a).alloc b).alloc c).heap[w.heap.size + 1]? = some b ∧ (((w.alloc a).alloc b).alloc c).heap[w.heap.size + 1 + 1]? = some c := by
  have e2 : ((w.alloc a).alloc b).heap.size = w.heap.size + 1 + 1 := by simp
  obtain ⟨h1, h2⟩ := alloc_two w a b
  refine ⟨?_, ?_, ?_⟩
  · rw [heap_alloc_old _ _ (by omega)]; exact h1
  · rw [heap_alloc_old _ _ (by omega)]; exact h2
  · rw [← e2]; exact heap_alloc_new _ c
/-- An operation's value. -/
def opV (o : Oq) : Value := .agg #[.int .i64 o.kind, .string ⟨o.cas.toArray⟩, .string ⟨o.name.toArray⟩, .int .i64 o.n]
/-- The same row of a state, whatever its lists' blocks. -/
theorem So.shapes {w : World} {base : Nat} {va vd vg : Value} {s : Sa} (h : So w base va vd vg s) : ∃ vo vc eo ec go gc, va = .slice vo s.vals.length vc ∧ vd = .slice eo s.done.length ec ∧ vg = .slice go s.got.length gc := by
  obtain ⟨vo, vc, e1⟩ := own_shape_any h.vals
  obtain ⟨eo, ec, e2⟩ := own_shape_any h.done
  obtain ⟨go, gc, e3⟩ := own_shape_any h.got
  exact ⟨vo, vc, eo, ec, go, gc, e1, e2, e3⟩

theorem So.lowK {w w' : World} {base : Nat} {va vd vg : Value} {s : Sa} (h : So w base va vd vg s) (k : Kept (fun k => va.ownBlock ≠ some k) w w') : Kept (· < base) w w' :=
  k.mono fun i _ hi e => by have := (h.vals.lt i e).1; omega
set_option maxRecDepth 100000 in
set_option maxHeartbeats 8000000 in
theorem put_any {w0 w : World} {tv va vd vg : Value} {t : Ty} {s : Sa} (ht : TyV w0 tv t) (k0 : Kept (· < w0.heap.size) w0 w) (h : So w w0.heap.size va vd vg s) (f : Sized t s) (k : Nat) (hk : k < t.attrs.length) (n : Int) :
    Calls Tryd.prog 30 #[tv, .agg #[.string ⟨s.type.toArray⟩, va, vd, vg], .int .i64 (k : Nat), .int .i64 n] w fun e w' => e = .returned (.int .i64 ((putP t s k n).2 : Nat)) ∧ So w' w0.heap.size va vd vg (putP t s k n).1 ∧ Kept (fun k => va.ownBlock ≠ some k) w w' := by
  have hT := ht.low k0
  obtain ⟨ta, ts, tm, rfl, ha, hss, hkk⟩ := hT
  obtain ⟨ao, ac, rfl, la⟩ := ha.form
  obtain ⟨so, sc, rfl, ls⟩ := hss.form
  obtain ⟨mo, mc, rfl, lm⟩ := hkk.form
  obtain ⟨vo, vc, eo, ec, go, gc, rfl, rfl, rfl⟩ := h.shapes
  obtain ⟨N0, hN0⟩ : ∃ N0, N0 = w0.heap.size := ⟨_, rfl⟩
  rw [← hN0] at h k0 ⊢
  have hv : k < s.vals.length := by rw [f.vals]; exact hk
  obtain ⟨g, rfl⟩ : ∃ g, vo = some ⟨g, 0, none⟩ := by
    obtain ⟨ao', cap', e, _, _, h0⟩ := own_form h.vals
    cases e
    exact h0 (by omega)
  obtain ⟨x1, x2⟩ := alloc_two w (.cells #[.string ⟨t.name.toArray⟩, .slice ao t.attrs.length ac, .slice so t.stages.length sc, .slice mo t.marks.length mc] 26) (.cells #[.string ⟨s.type.toArray⟩, .slice (some ⟨g, 0, none⟩) s.vals.length vc, .slice eo s.done.length ec, .slice go s.got.length gc] 32)
  have hk1 : Kept (fun _ => True) w ((w.alloc (.cells #[.string ⟨t.name.toArray⟩, .slice ao t.attrs.length ac, .slice so t.stages.length sc, .slice mo t.marks.length mc] 26)).alloc (.cells #[.string ⟨s.type.toArray⟩, .slice (some ⟨g, 0, none⟩) s.vals.length vc, .slice eo s.done.length ec, .slice go s.got.length gc] 32)) := ((Kept.refl _ _).alloc _).alloc _
  have hgw : g < w.heap.size := (h.vals.lt g rfl).2
  obtain ⟨b, off, rfl, hb, q0, q1, q2, q3⟩ := (ha.all hk1).at k hk
  have i1 : (k : Int) < (t.attrs.length : Int) := by omega
  have i2 : (k : Int) < (s.vals.length : Int) := by omega
  have i0 : (0 : Int) ≤ (k : Int) := by omega
  have cw := fun W => within_any (w := W) t.attrs[k] n
  have HP : Hid (putP t s k n = if wthn t.attrs[k] n = true then ({ s with vals := s.vals.set k n }, 0) else (s, 34)) := by
    show _ = _
    simp [putP, List.getD_eq_getElem?_getD, hk]
  have HSo : Hid (So w N0 (.slice (some ⟨g, 0, none⟩) s.vals.length vc) (.slice eo s.done.length ec) (.slice go s.got.length gc) s) := h
  have K1 : Hid _ := hk1
  have HK : Hid (Kept (· < N0) w w) := Kept.refl _ _
  obtain ⟨⟨y0, y1, y2, y3⟩, _⟩ := four_cell x1
  have X2 : Hid _ := x2
  have HGW : Hid (g < w.heap.size) := hgw
  rw [HP.out]
  clear ha hss hkk k0 h f hN0 hk1 x1 x2 ht HP hb hgw
  generalize t.attrs[k] = x at *
  generalize wthn x n = wq at *
  go_enter Tryd.func30, Tryd.ntmps30
  go_wp2_with fail
  refine Calls.mono (cw _) ?_
  rintro e w2 ⟨rfl, k2⟩
  have k3 : Kept (fun _ => True) w w2 := K1.out.trans k2
  cases wq with
  | false =>
    have HS2 : Hid _ := HSo.out.all k3
    clear cw k2
    go_wp2_with fail
    go_ret
    exact ⟨rfl, HS2.out, k3.mono fun _ _ _ => trivial⟩
  | true =>
    have hS2 := HSo.out.all k3
    have hX := (k2.block _ (lt_of_block X2.out) trivial).trans X2.out
    obtain ⟨⟨z0, z1, z2, z3⟩, _⟩ := four_cell hX
    have hc := hS2.vals.cellAt k (by omega)
    rw [show (iv s.vals)[k]? = some (.int .i64 s.vals[k]) by simp [iv, hv]] at hc
    have hfz := hS2.vals.frozenAt k
    have HS3 : Hid _ := hS2.setVal rfl k n
    have K3 : Hid (Kept (fun k => (Value.slice (some ⟨g, 0, none⟩) s.vals.length vc).ownBlock ≠ some k) w w2) := k3.mono fun _ _ _ => trivial
    clear cw k2 k3 hS2 hX y0 y1 y2 y3 X2 K1 HK HSo
    generalize s.vals[k] = old at *
    generalize w.heap.size = B at *
    go_wp2_with fail
    go_ret
    exact ⟨rfl, HS3.out.1, K3.out.setCell (by simp [Value.ownBlock]) _⟩

set_option maxRecDepth 100000 in
set_option maxHeartbeats 8000000 in
theorem set_any {w0 w : World} {tv va vd vg : Value} {t : Ty} {s : Sa} (ht : TyV w0 tv t) (k0 : Kept (· < w0.heap.size) w0 w) (h : So w w0.heap.size va vd vg s) (g : Good t) (f : Sized t s) (o : Oq) :
    Calls Tryd.prog 19 #[tv, .agg #[.string ⟨s.type.toArray⟩, va, vd, vg], opV o] w fun e w' => e = .returned (.int .i64 ((setP t s o).2 : Nat)) ∧ So w' w0.heap.size va vd vg (setP t s o).1 ∧ Kept (· < w0.heap.size) w w' := by
  have HTy : Hid (TyV w0 tv t) := ht
  obtain ⟨tx0, tn, tc, so, sn, sc, mo, mn, mc, rfl⟩ := ht.parts
  obtain ⟨vo, vc, eo, ec, go, gc, rfl, rfl, rfl⟩ := h.shapes
  obtain ⟨x1, x2, x3⟩ := alloc_three w (.cells #[.string ⟨t.name.toArray⟩, .slice tx0 tn tc, .slice so sn sc, .slice mo mn mc] 26) (.cells #[.string ⟨s.type.toArray⟩, .slice vo s.vals.length vc, .slice eo s.done.length ec, .slice go s.got.length gc] 32) (.cells #[.int .i64 o.kind, .string ⟨o.cas.toArray⟩, .string ⟨o.name.toArray⟩, .int .i64 o.n] 38)
  have hk1 : Kept (fun _ => True) w (((w.alloc (.cells #[.string ⟨t.name.toArray⟩, .slice tx0 tn tc, .slice so sn sc, .slice mo mn mc] 26)).alloc (.cells #[.string ⟨s.type.toArray⟩, .slice vo s.vals.length vc, .slice eo s.done.length ec, .slice go s.got.length gc] 32)).alloc (.cells #[.int .i64 o.kind, .string ⟨o.cas.toArray⟩, .string ⟨o.name.toArray⟩, .int .i64 o.n] 38)) := (((Kept.refl _ _).alloc _).alloc _).alloc _
  have ca := attrOf_any ((ht.low k0).all hk1) g o.name
  obtain ⟨⟨y0, y1, y2, y3⟩, _⟩ := four_cell x1
  obtain ⟨⟨o0, o1, o2, o3⟩, _⟩ := four_cell x3
  have X1 : Hid _ := x1
  have X2 : Hid _ := x2
  have X3 : Hid _ := x3
  have HSo : Hid (So w w0.heap.size (.slice vo s.vals.length vc) (.slice eo s.done.length ec) (.slice go s.got.length gc) s) := h
  have K0 : Hid (Kept (· < w0.heap.size) w0 w) := k0
  have K1 : Hid _ := hk1
  have HF : Hid (Sized t s) := f
  obtain ⟨sp, hsp⟩ : ∃ sp, sp = spot (t.attrs.map At.name) o.name := ⟨_, rfl⟩
  have HSp : Hid (spot (t.attrs.map At.name) o.name = sp) := hsp.symm
  rw [← hsp] at ca
  obtain ⟨RS, hRS⟩ : ∃ RS, RS = setP t s o := ⟨_, rfl⟩
  have HRS : Hid (RS = setK t s o sp) := by show _ = _; rw [hRS, setP, HSp.out]
  rw [← hRS]
  unfold opV
  clear x1 x2 x3 h k0 hk1 g f hsp hRS
  go_enter Tryd.func19, Tryd.ntmps19
  go_wp2_with fail
  refine Calls.mono ca ?_
  rintro e w2 ⟨rfl, k2⟩
  have k3 : Kept (fun _ => True) w w2 := K1.out.trans k2
  have hB1 := (k2.block _ (lt_of_block X1.out) trivial).trans X1.out
  have hB2 := (k2.block _ (lt_of_block X2.out) trivial).trans X2.out
  have hB3 := (k2.block _ (lt_of_block X3.out) trivial).trans X3.out
  clear ca k2 X1 X2 X3 K1 y0 y1 y2 y3 o0 o1 o2 o3
  cases sp with
  | none =>
    simp only [spotN]
    have HS2 : Hid _ := HSo.out.all k3
    have HQ : Hid (RS = (s, 31)) := HRS.out
    go_wp2_with fail
    go_ret
    exact ⟨by rw [HQ.out]; rfl, by rw [HQ.out]; exact HS2.out, k3.mono fun _ _ _ => trivial⟩
  | some k =>
    simp only [spotN]
    obtain ⟨hk', -⟩ := spot_some HSp.out
    have cp := put_any HTy.out (K0.out.trans (k3.mono fun _ _ _ => trivial)) (HSo.out.all k3) HF.out k (by simpa using hk') o.n
    have HLow : Hid (∀ W, Kept (fun k => (Value.slice vo s.vals.length vc).ownBlock ≠ some k) w2 W → Kept (· < w0.heap.size) w2 W) := fun W => (HSo.out.all k3).lowK
    have K3 : Hid (Kept (· < w0.heap.size) w w2) := k3.mono fun _ _ _ => trivial
    have i0 : ¬ (k : Int) < 0 := by omega
    obtain ⟨⟨y0, y1, y2, y3⟩, _⟩ := four_cell hB1
    obtain ⟨⟨z0, z1, z2, z3⟩, _⟩ := four_cell hB2
    obtain ⟨⟨o0, o1, o2, o3⟩, _⟩ := four_cell hB3
    clear hk' k3 hB1 hB2 hB3 HSo
    generalize w.heap.size = B at *
    have HQ : Hid (RS = putP t s k o.n) := HRS.out
    clear HRS
    generalize putP t s k o.n = pp at *
    go_wp2_with fail
    refine Calls.mono cp ?_
    rintro e w3 ⟨rfl, hs3, k4⟩
    have HS3 : Hid _ := hs3
    clear cp hs3
    go_wp2_with fail
    go_ret
    exact ⟨by rw [HQ.out]; rfl, by rw [HQ.out]; exact HS3.out, K3.out.trans (HLow.out _ k4)⟩

theorem sum_fits {a n : Int} (h1 : -1000 ≤ a) (h2 : a ≤ 1000) (h3 : ¬ n < -2000) (h4 : ¬ 2000 < n) : IntKind.i64.wrap (a + n) = a + n := wrap_ok (by omega) (by omega)

set_option maxRecDepth 100000 in
set_option maxHeartbeats 8000000 in
theorem add_any {w0 w : World} {tv va vd vg : Value} {t : Ty} {s : Sa} (ht : TyV w0 tv t) (k0 : Kept (· < w0.heap.size) w0 w) (h : So w w0.heap.size va vd vg s) (g : Good t) (f : Fit t s) (o : Oq) :
    Calls Tryd.prog 20 #[tv, .agg #[.string ⟨s.type.toArray⟩, va, vd, vg], opV o] w fun e w' => e = .returned (.int .i64 ((addP t s o).2 : Nat)) ∧ So w' w0.heap.size va vd vg (addP t s o).1 ∧ Kept (· < w0.heap.size) w w' := by
  have HTy : Hid (TyV w0 tv t) := ht
  obtain ⟨tx0, tn, tc, so, sn, sc, mo, mn, mc, rfl⟩ := ht.parts
  obtain ⟨vo, vc, eo, ec, go, gc, rfl, rfl, rfl⟩ := h.shapes
  obtain ⟨x1, x2, x3⟩ := alloc_three w (.cells #[.string ⟨t.name.toArray⟩, .slice tx0 tn tc, .slice so sn sc, .slice mo mn mc] 26) (.cells #[.string ⟨s.type.toArray⟩, .slice vo s.vals.length vc, .slice eo s.done.length ec, .slice go s.got.length gc] 32) (.cells #[.int .i64 o.kind, .string ⟨o.cas.toArray⟩, .string ⟨o.name.toArray⟩, .int .i64 o.n] 38)
  have hk1 : Kept (fun _ => True) w (((w.alloc (.cells #[.string ⟨t.name.toArray⟩, .slice tx0 tn tc, .slice so sn sc, .slice mo mn mc] 26)).alloc (.cells #[.string ⟨s.type.toArray⟩, .slice vo s.vals.length vc, .slice eo s.done.length ec, .slice go s.got.length gc] 32)).alloc (.cells #[.int .i64 o.kind, .string ⟨o.cas.toArray⟩, .string ⟨o.name.toArray⟩, .int .i64 o.n] 38)) := (((Kept.refl _ _).alloc _).alloc _).alloc _
  have ca := attrOf_any ((ht.low k0).all hk1) g o.name
  obtain ⟨⟨y0, y1, y2, y3⟩, _⟩ := four_cell x1
  obtain ⟨⟨o0, o1, o2, o3⟩, _⟩ := four_cell x3
  have X1 : Hid _ := x1
  have X2 : Hid _ := x2
  have X3 : Hid _ := x3
  have HSo : Hid (So w w0.heap.size (.slice vo s.vals.length vc) (.slice eo s.done.length ec) (.slice go s.got.length gc) s) := h
  have K0 : Hid (Kept (· < w0.heap.size) w0 w) := k0
  have K1 : Hid _ := hk1
  have HF : Hid (Fit t s) := f
  have HGd : Hid (Good t) := g
  obtain ⟨sp, hsp⟩ : ∃ sp, sp = spot (t.attrs.map At.name) o.name := ⟨_, rfl⟩
  have HSp : Hid (spot (t.attrs.map At.name) o.name = sp) := hsp.symm
  rw [← hsp] at ca
  obtain ⟨RS, hRS⟩ : ∃ RS, RS = addP t s o := ⟨_, rfl⟩
  have HRS : Hid (RS = addK t s o sp) := by show _ = _; rw [hRS, addP, HSp.out]
  rw [← hRS]
  unfold opV
  clear x1 x2 x3 h k0 hk1 g f hsp hRS
  go_enter Tryd.func20, Tryd.ntmps20
  go_wp2_with fail
  refine Calls.mono ca ?_
  rintro e w2 ⟨rfl, k2⟩
  have k3 : Kept (fun _ => True) w w2 := K1.out.trans k2
  have hB1 := (k2.block _ (lt_of_block X1.out) trivial).trans X1.out
  have hB2 := (k2.block _ (lt_of_block X2.out) trivial).trans X2.out
  have hB3 := (k2.block _ (lt_of_block X3.out) trivial).trans X3.out
  clear ca k2 X1 X2 X3 K1 y0 y1 y2 y3 o0 o1 o2 o3
  have K3 : Hid (Kept (· < w0.heap.size) w w2) := k3.mono fun _ _ _ => trivial
  cases sp with
  | none =>
    simp only [spotN]
    have HS2 : Hid _ := HSo.out.all k3
    have HQ : Hid (RS = (s, 31)) := HRS.out
    go_wp2_with fail
    go_ret
    exact ⟨by rw [HQ.out]; rfl, by rw [HQ.out]; exact HS2.out, K3.out⟩
  | some k =>
    simp only [spotN]
    obtain ⟨hk', -⟩ := spot_some HSp.out
    have hka : k < t.attrs.length := by simpa using hk'
    have i0 : ¬ (k : Int) < 0 := by omega
    obtain ⟨⟨o0, o1, o2, o3⟩, _⟩ := four_cell hB3
    by_cases hn1 : o.n < -2000
    · have HS2 : Hid _ := HSo.out.all k3
      have HQ : Hid (RS = (s, 34)) := HRS.out.trans (if_pos (.inl hn1))
      clear hB1 hB2 hB3 k3
      generalize w.heap.size = B at *
      go_wp2_with fail
      go_ret
      exact ⟨by rw [HQ.out]; rfl, by rw [HQ.out]; exact HS2.out, K3.out⟩
    by_cases hn2 : 2000 < o.n
    · have HS2 : Hid _ := HSo.out.all k3
      have HQ : Hid (RS = (s, 34)) := HRS.out.trans (if_pos (.inr hn2))
      clear hB1 hB2 hB3 k3
      generalize w.heap.size = B at *
      go_wp2_with fail
      go_ret
      exact ⟨by rw [HQ.out]; rfl, by rw [HQ.out]; exact HS2.out, K3.out⟩
    have hq : RS = putP t s k (s.vals.getD k 0 + o.n) := HRS.out.trans (if_neg (by omega))
    have hv : k < s.vals.length := by rw [HF.out.sz.vals]; exact hka
    have hS2 := HSo.out.all k3
    obtain ⟨g, rfl⟩ : ∃ g, vo = some ⟨g, 0, none⟩ := by
      obtain ⟨ao', cap', e, _, _, h0⟩ := own_form hS2.vals
      cases e
      exact h0 (by omega)
    have hc := hS2.vals.cellAt k (by omega)
    rw [show (iv s.vals)[k]? = some (.int .i64 s.vals[k]) by simp [iv, hv]] at hc
    have hgw := (hS2.vals.lt g rfl).2
    have hval : s.vals.getD k 0 = s.vals[k] := by simp [List.getD_eq_getElem?_getD, hv]
    rw [hval] at hq
    have HQ : Hid (RS = putP t s k (s.vals[k] + o.n)) := hq
    clear hq HRS
    have hbd : -1000 ≤ s.vals[k] ∧ s.vals[k] ≤ 1000 := by
      have h1 := HF.out.within k hka
      have h2 := HGd.out.ranges t.attrs[k] (List.getElem_mem hka)
      rw [hval] at h1
      simp only [List.getD_eq_getElem?_getD, hka, List.getElem?_eq_getElem, Option.getD_some, wthn, Bool.and_eq_true, decide_eq_true_eq] at h1
      omega
    have hwr := sum_fits hbd.1 hbd.2 hn1 hn2
    have hcp := put_any HTy.out (((K0.out.trans K3.out).trans (Kept.refl _ _)).drew) (hS2.all (Kept.refl _ _).drew) HF.out.sz k hka (s.vals[k] + o.n)
    have HLow : Hid (∀ W, Kept (fun k => (Value.slice (some ⟨g, 0, none⟩) s.vals.length vc).ownBlock ≠ some k) w2.drew W → Kept (· < w0.heap.size) w2 W) := fun W q => (Kept.refl _ _).drew.trans ((hS2.all (Kept.refl _ _).drew).lowK q)
    have hbg : w.heap.size ≠ g ∧ w.heap.size + 1 ≠ g ∧ w.heap.size + 1 + 1 ≠ g := by
      have := (HSo.out.vals.lt g rfl).2
      omega
    have i2 : (k : Int) < (s.vals.length : Int) := by omega
    have i3 : (0 : Int) ≤ (k : Int) := by omega
    generalize s.vals[k] = old at *
    generalize putP t s k (old + o.n) = pp at *
    clear hval hbd hk' hS2 HSo k3 HF HGd HSp
    go_upto_region 6 with fail
    generalize w.heap.size = B at *
    obtain ⟨⟨y0, y1, y2, y3⟩, _⟩ := four_cell hB1
    obtain ⟨⟨z0, z1, z2, z3⟩, _⟩ := four_cell hB2
    have Y0 := fun W (q : Kept (fun k => k ≠ g) w2 W) => (kept_cell q (lt_of_block hB1) hbg.1).trans y0
    have Y1 := fun W (q : Kept (fun k => k ≠ g) w2 W) => (kept_cell q (lt_of_block hB1) hbg.1).trans y1
    have Y2 := fun W (q : Kept (fun k => k ≠ g) w2 W) => (kept_cell q (lt_of_block hB1) hbg.1).trans y2
    have Y3 := fun W (q : Kept (fun k => k ≠ g) w2 W) => (kept_cell q (lt_of_block hB1) hbg.1).trans y3
    have Z0 := fun W (q : Kept (fun k => k ≠ g) w2 W) => (kept_cell q (lt_of_block hB2) hbg.2.1).trans z0
    have Z1 := fun W (q : Kept (fun k => k ≠ g) w2 W) => (kept_cell q (lt_of_block hB2) hbg.2.1).trans z1
    have Z2 := fun W (q : Kept (fun k => k ≠ g) w2 W) => (kept_cell q (lt_of_block hB2) hbg.2.1).trans z2
    have Z3 := fun W (q : Kept (fun k => k ≠ g) w2 W) => (kept_cell q (lt_of_block hB2) hbg.2.1).trans z3
    have O3 := fun W (q : Kept (fun k => k ≠ g) w2 W) => (kept_cell q (lt_of_block hB3) hbg.2.2).trans o3
    have kd : Kept (fun k => k ≠ g) w2 w2.drew := (Kept.refl _ _).drew
    clear y0 y1 y2 y3 z0 z1 z2 z3 o0 o1 o2 o3 hgw hB1 hB2 hB3 hbg
    refine wp_region_held_drew (S := fun W => Kept (fun k => k ≠ g) w2 W) (by kernel_rfl) kd (fun hHeld => ?_)
    refine wpAnyH_take (i := 0) (oi := { dst := some 22, op := Op.load 26 (Operand.tmp 3), type := 26, pos := _, after := #[], guard := none }) (v := ?_) rfl (by kernel_rfl) (by kernel_rfl) (by kernel_rfl) (fun _ _ _ h => h) (Or.inl ⟨by rfl, ?hy0⟩) (by assumption) ?_
    case hy0 => (intro W hSw; (try dsimp only at hSw); go_simp; try with_reducible rfl)
    try simp only [Act.put, List.setIfInBounds_toArray, List.set_cons_zero, List.set_cons_succ]
    refine wpAnyH_take (i := 1) (oi := { dst := some 23, op := Op.load 32 (Operand.tmp 4), type := 32, pos := _, after := #[], guard := none }) (v := ?_) rfl (by kernel_rfl) (by kernel_rfl) (by kernel_rfl) (fun _ _ _ h => h) (Or.inl ⟨by rfl, ?hy1⟩) (by assumption) ?_
    case hy1 => (intro W hSw; (try dsimp only at hSw); go_simp; try with_reducible rfl)
    try simp only [Act.put, List.setIfInBounds_toArray, List.set_cons_zero, List.set_cons_succ]
    refine wpAnyH_take (i := 2) (oi := { dst := some 24, op := Op.move (Operand.tmp 7), type := 3, pos := _, after := #[], guard := none }) (v := ?_) rfl (by kernel_rfl) (by kernel_rfl) (by kernel_rfl) (fun _ _ _ h => h) (Or.inl ⟨by rfl, ?hy2⟩) (by assumption) ?_
    case hy2 => (intro W hSw; (try dsimp only at hSw); go_simp; try with_reducible rfl)
    try simp only [Act.put, List.setIfInBounds_toArray, List.set_cons_zero, List.set_cons_succ]
    refine wpAnyH_take (i := 3) (oi := { dst := some 25, op := Op.fieldAddr 32 (Operand.tmp 4) 1, type := 0, pos := _, after := #[], guard := none }) (v := ?_) rfl (by kernel_rfl) (by kernel_rfl) (by kernel_rfl) (fun _ _ _ h => h) (Or.inl ⟨by rfl, ?hy3⟩) (by assumption) ?_
    case hy3 => (intro W hSw; (try dsimp only at hSw); go_simp; try with_reducible rfl)
    try simp only [Act.put, List.setIfInBounds_toArray, List.set_cons_zero, List.set_cons_succ]
    refine wpAnyH_take (i := 4) (oi := { dst := some 26, op := Op.load 29 (Operand.tmp 25), type := 29, pos := _, after := #[{ on := 3, ground := Ground.data }], guard := none }) (v := ?_) rfl (by kernel_rfl) (by kernel_rfl) (by kernel_rfl) (fun _ _ _ h => h) (Or.inl ⟨by rfl, ?hy4⟩) (by assumption) ?_
    case hy4 => (intro W hSw; (try dsimp only at hSw); go_simp; try with_reducible rfl)
    try simp only [Act.put, List.setIfInBounds_toArray, List.set_cons_zero, List.set_cons_succ]
    refine wpAnyH_take (i := 5) (oi := { dst := some 27, op := Op.move (Operand.tmp 7), type := 3, pos := _, after := #[], guard := none }) (v := ?_) rfl (by kernel_rfl) (by kernel_rfl) (by kernel_rfl) (fun _ _ _ h => h) (Or.inl ⟨by rfl, ?hy5⟩) (by assumption) ?_
    case hy5 => (intro W hSw; (try dsimp only at hSw); go_simp; try with_reducible rfl)
    try simp only [Act.put, List.setIfInBounds_toArray, List.set_cons_zero, List.set_cons_succ]
    refine wpAnyH_take (i := 6) (oi := { dst := some 28, op := Op.indexAddr 29 (Operand.tmp 26) (Operand.tmp 27), type := 0, pos := _, after := #[{ on := 4, ground := Ground.data }, { on := 5, ground := Ground.data }], guard := none }) (v := ?_) rfl (by kernel_rfl) (by kernel_rfl) (by kernel_rfl) (fun _ _ _ h => h) (Or.inl ⟨by rfl, ?hy6⟩) (by assumption) ?_
    case hy6 => (intro W hSw; (try dsimp only at hSw); go_simp; try with_reducible rfl)
    try simp only [Act.put, List.setIfInBounds_toArray, List.set_cons_zero, List.set_cons_succ]
    refine wpAnyH_take (i := 8) (oi := { dst := some 30, op := Op.fieldAddr 38 (Operand.tmp 5) 3, type := 0, pos := _, after := #[], guard := none }) (v := ?_) rfl (by kernel_rfl) (by kernel_rfl) (by kernel_rfl) (fun _ _ _ h => h) (Or.inl ⟨by rfl, ?hy8⟩) (by assumption) ?_
    case hy8 => (intro W hSw; (try dsimp only at hSw); go_simp; try with_reducible rfl)
    try simp only [Act.put, List.setIfInBounds_toArray, List.set_cons_zero, List.set_cons_succ]
    refine wpAnyH_take (i := 9) (oi := { dst := some 31, op := Op.load 3 (Operand.tmp 30), type := 3, pos := _, after := #[{ on := 8, ground := Ground.data }], guard := none }) (v := ?_) rfl (by kernel_rfl) (by kernel_rfl) (by kernel_rfl) (fun _ _ _ h => h) (Or.inl ⟨by rfl, ?hy9⟩) (by assumption) ?_
    case hy9 => (intro W hSw; (try dsimp only at hSw); go_simp; try with_reducible rfl)
    try simp only [Act.put, List.setIfInBounds_toArray, List.set_cons_zero, List.set_cons_succ]
    refine wpAnyH_ready (rs := [7]) (by kernel_rfl) (by simp) ?_
    refine AllReadyH.cons (o := { dst := some 29, op := Op.load 3 (Operand.tmp 28), type := 3, pos := _, after := #[{ on := 6, ground := Ground.data }], guard := none }) rfl (fun K hK => ?_) AllReadyH.nil
    go_simp
    refine hK.out _ _ kd (fun hHeld7 => ?_)
    clear hK K
    try simp only [Act.put, List.setIfInBounds_toArray, List.set_cons_zero, List.set_cons_succ]
    refine wpAnyH_take (i := 10) (oi := { dst := some 32, op := Op.binOp BinOp.add 3 (Operand.tmp 29) (Operand.tmp 31) 3, type := 3, pos := _, after := #[{ on := 7, ground := Ground.data }, { on := 9, ground := Ground.data }], guard := none }) (v := ?_) rfl (by kernel_rfl) (by kernel_rfl) (by kernel_rfl) (fun _ _ _ h => h) (Or.inl ⟨by rfl, ?hy10⟩) (by assumption) ?_
    case hy10 => (intro W hSw; (try dsimp only at hSw); go_simp; try with_reducible rfl)
    try simp only [Act.put, List.setIfInBounds_toArray, List.set_cons_zero, List.set_cons_succ]
    refine wpAnyH_ready (rs := [11]) (by kernel_rfl) (by simp) ?_
    refine AllReadyH.cons (o := { dst := some 33, op := Op.call { callee := Callee.value (Operand.func 30), args := #[Operand.tmp 22, Operand.tmp 23, Operand.tmp 24, Operand.tmp 32], argTypes := #[26, 32, 3, 3] }, type := 34, pos := _, after := #[{ on := 0, ground := Ground.data }, { on := 1, ground := Ground.data }, { on := 2, ground := Ground.data }, { on := 10, ground := Ground.data }], guard := none }) rfl (fun K hK => ?_) AllReadyH.nil
    go_simp
    refine Calls.mono hcp ?_
    rintro e v5 ⟨rfl, hs5, m5⟩
    have HS5 : Hid _ := hs5
    have HM5 : Hid _ := m5
    have p5 : Kept (fun k => k ≠ g) w2 v5 := kd.trans (m5.mono fun i _ hi e => hi (by simpa [Value.ownBlock] using e.symm))
    clear m5 hs5
    try go_wp2_with fail
    refine hK.out _ _ p5 (fun hHeld11 => ?_)
    clear hK K
    try simp only [Act.put, List.setIfInBounds_toArray, List.set_cons_zero, List.set_cons_succ]
    refine wpAnyH_ready (rs := [12]) (by kernel_rfl) (by simp) ?_
    refine AllReadyH.cons (o := { dst := some 6, op := Op.assign (Operand.tmp 33), type := 34, pos := _, after := #[{ on := 11, ground := Ground.data }, { on := 11, ground := Ground.chain }, { on := 0, ground := Ground.phase }, { on := 1, ground := Ground.phase }, { on := 2, ground := Ground.phase }, { on := 3, ground := Ground.phase }, { on := 4, ground := Ground.phase }, { on := 5, ground := Ground.phase }, { on := 6, ground := Ground.phase }, { on := 7, ground := Ground.phase }, { on := 8, ground := Ground.phase }, { on := 9, ground := Ground.phase }, { on := 10, ground := Ground.phase }, { on := 11, ground := Ground.phase }], guard := none }) rfl (fun K hK => ?_) AllReadyH.nil
    go_simp
    refine hK.out _ _ p5 (fun hHeld12 => ?_)
    clear hK K
    try simp only [Act.put, List.setIfInBounds_toArray, List.set_cons_zero, List.set_cons_succ]
    refine wpAnyH_done (by kernel_rfl) ?_ _
    go_wp2_with fail
    go_ret
    exact ⟨by rw [HQ.out]; rfl, by rw [HQ.out]; exact HS5.out, K3.out.trans (HLow.out _ HM5.out)⟩

end Go.Proofs.YtnddpalngjmhnabDoor

namespace Go.Proofs.YtnddpalngjmhnabDoor
open Go.RowKit

theorem So.stv {w : World} {base : Nat} {va vd vg : Value} {s : Sa} (h : So w base va vd vg s) (f : Few s) : StV w (.agg #[.string ⟨s.type.toArray⟩, va, vd, vg]) s := by
  obtain ⟨p1, p2, p3⟩ := h.view f
  exact ⟨_, _, _, rfl, p1, p2, p3⟩
theorem fire_at {t : Ty} {s : Sa} (g : Good t) {i : Nat} (h : i < t.stages.length) {o : Oq} (hn : (t.stages[i]).name = o.name) : fireP t s o = if rdy t s i = true then ({ s with done := s.done.set i true }, 0) else (s, 32) := by
  obtain ⟨h1, h2⟩ := rule_at h
  rw [fireP, spot_at g.stageN i h1 (h2.trans hn)]
  rfl
theorem fire_no {t : Ty} {s : Sa} {o : Oq} (h : ∀ i (hi : i < t.stages.length), (t.stages[i]).name ≠ o.name) : fireP t s o = (s, 32) := by
  rw [fireP, spot_no (fun k hk => ?_)]
  · rfl
  · have hk' : k < t.stages.length := by simpa using hk
    obtain ⟨h1, h2⟩ := rule_at hk'
    rw [h2]
    exact h k hk'
/-- Another stage has that name: this one has not. -/
theorem fire_other {t : Ty} (g : Good t) {i j : Nat} (hi : i < t.stages.length) (hj : j < t.stages.length) {x : List UInt8} (h1 : (t.stages[i]).name = x) (h2 : (t.stages[j]).name = x) : i = j := by
  obtain ⟨p1, p2⟩ := rule_at hi
  obtain ⟨q1, q2⟩ := rule_at hj
  have e1 := spot_at g.stageN i p1 (p2.trans h1)
  have e2 := spot_at g.stageN j q1 (q2.trans h2)
  rw [e1] at e2
  exact Option.some.inj e2

set_option maxRecDepth 100000 in
set_option maxHeartbeats 8000000 in
theorem fire_any {w0 w : World} {tv va vd vg : Value} {t : Ty} {s : Sa} (ht : TyV w0 tv t) (k0 : Kept (· < w0.heap.size) w0 w) (h : So w w0.heap.size va vd vg s) (g : Good t) (f : Sized t s) (o : Oq) :
    Calls Tryd.prog 21 #[tv, .agg #[.string ⟨s.type.toArray⟩, va, vd, vg], opV o] w fun e w' => e = .returned (.int .i64 ((fireP t s o).2 : Nat)) ∧ So w' w0.heap.size va vd vg (fireP t s o).1 ∧ Kept (· < w0.heap.size) w w' := by
  have hT := ht.low k0
  have HTy : Hid (TyV w tv t) := hT
  obtain ⟨ta, ts, tm, rfl, ha, hss, hkk⟩ := hT
  obtain ⟨ao, ac, rfl, la⟩ := ha.form
  obtain ⟨so, sc, rfl, ls⟩ := hss.form
  obtain ⟨mo, mc, rfl, lm⟩ := hkk.form
  obtain ⟨vo, vc, eo, ec, go, gc, rfl, rfl, rfl⟩ := h.shapes
  obtain ⟨x1, x2, x3⟩ := alloc_three w (.cells #[.string ⟨t.name.toArray⟩, .slice ao t.attrs.length ac, .slice so t.stages.length sc, .slice mo t.marks.length mc] 26) (.cells #[.string ⟨s.type.toArray⟩, .slice vo s.vals.length vc, .slice eo s.done.length ec, .slice go s.got.length gc] 32) (.cells #[.int .i64 o.kind, .string ⟨o.cas.toArray⟩, .string ⟨o.name.toArray⟩, .int .i64 o.n] 38)
  have hk1 : Kept (fun _ => True) w (((w.alloc (.cells #[.string ⟨t.name.toArray⟩, .slice ao t.attrs.length ac, .slice so t.stages.length sc, .slice mo t.marks.length mc] 26)).alloc (.cells #[.string ⟨s.type.toArray⟩, .slice vo s.vals.length vc, .slice eo s.done.length ec, .slice go s.got.length gc] 32)).alloc (.cells #[.int .i64 o.kind, .string ⟨o.cas.toArray⟩, .string ⟨o.name.toArray⟩, .int .i64 o.n] 38)) := (((Kept.refl _ _).alloc _).alloc _).alloc _
  obtain ⟨⟨y0, y1, y2, y3⟩, _⟩ := four_cell x1
  have X1 : Hid _ := x1
  have X2 : Hid _ := x2
  have X3 : Hid _ := x3
  have HSo : Hid (So w w0.heap.size (.slice vo s.vals.length vc) (.slice eo s.done.length ec) (.slice go s.got.length gc) s) := h
  have K1 : Hid _ := hk1
  have HF : Hid (Sized t s) := f
  have HGd : Hid (Good t) := g
  have HFew : Hid (Few s) := by
    have := g.na; have := g.ns; have := g.nm; have := f.vals; have := f.done; have := f.got
    exact ⟨by omega, by omega, by omega⟩
  have hns := g.ns
  obtain ⟨RS, hRS⟩ : ∃ RS, RS = fireP t s o := ⟨_, rfl⟩
  have HRS : Hid (RS = fireP t s o) := hRS
  rw [← hRS]
  unfold opV
  clear x1 x2 x3 h k0 hk1 g f hRS ha hss hkk ht
  go_enter Tryd.func21, Tryd.ntmps21
  go_wp2_with fail
  generalize ((w.alloc (.cells #[.string ⟨t.name.toArray⟩, .slice ao t.attrs.length ac, .slice so t.stages.length sc, .slice mo t.marks.length mc] 26)).alloc (.cells #[.string ⟨s.type.toArray⟩, .slice vo s.vals.length vc, .slice eo s.done.length ec, .slice go s.got.length gc] 32)).alloc (.cells #[.int .i64 o.kind, .string ⟨o.cas.toArray⟩, .string ⟨o.name.toArray⟩, .int .i64 o.n] 38) = w1 at *
  generalize w.heap.size = B at *
  clear y0 y1 y2 y3
  go_loopw [7, 8, 12] (fun _ _ ti wr => ∃ i : Nat, i ≤ t.stages.length ∧ ti = .int .i64 i ∧ (∀ k (h : k < t.stages.length), k < i → (t.stages[k]).name = o.name → RS = (s, 32)) ∧ Kept (fun _ => True) w1 wr) (fun _ _ ti _ => t.stages.length - (intOf ti).toNat)
  case atStart => exact ⟨0, Nat.zero_le _, rfl, fun k _ hk => (by omega), Kept.refl _ _⟩
  case round =>
  obtain ⟨i, hi, rfl, hall, hk⟩ := hrel
  have HAll : Hid (∀ k (h : k < t.stages.length), k < i → (t.stages[k]).name = o.name → RS = (s, 32)) := hall
  have HKr : Hid (Kept (fun _ => True) w1 wr) := hk
  clear hall hk
  by_cases hlt : i < t.stages.length
  · have hT2 := HTy.out.all (K1.out.trans HKr.out)
    obtain ⟨_, ts, _, e4, _, hS, _⟩ := hT2
    cases e4
    obtain ⟨b2, off, rfl, hb, q0, q1⟩ := hS.at i hlt
    have i1 : (i : Int) < (t.stages.length : Int) := by omega
    have i0 : (0 : Int) ≤ (i : Int) := by omega
    have ka : Kept (fun _ => True) wr (wr.alloc (.cells #[.string ⟨(t.stages[i]).name.toArray⟩, .string ⟨(t.stages[i]).guard.toArray⟩] 50)) := (Kept.refl _ _).alloc _
    have HKa : Hid (Kept (fun _ => True) w1 _) := HKr.out.trans ka
    have hB3 := (HKa.out.block _ (lt_of_block X3.out) trivial).trans X3.out
    obtain ⟨⟨o0, o1, o2, o3⟩, _⟩ := four_cell hB3
    clear hS hb ka hB3
    by_cases hx : (t.stages[i]).name = o.name
    · have hx' : ((t.stages[i]).name == o.name) = true := by simpa using hx
      have HX : Hid _ := hx
      have hB1 := (HKa.out.block _ (lt_of_block X1.out) trivial).trans X1.out
      have hB2 := (HKa.out.block _ (lt_of_block X2.out) trivial).trans X2.out
      obtain ⟨⟨y0, y1, y2, y3⟩, _⟩ := four_cell hB1
      obtain ⟨⟨z0, z1, z2, z3⟩, _⟩ := four_cell hB2
      have kw := K1.out.trans HKa.out
      have hSo2 := HSo.out.all kw
      have hV := hSo2.stv HFew.out
      have cr := ready_any (HTy.out.all kw) hV HGd.out HF.out i hlt
      have HFi : Hid (RS = if rdy t s i = true then ({ s with done := s.done.set i true }, 0) else (s, 32)) := HRS.out.trans (fire_at HGd.out hlt hx)
      clear hx hB1 hB2 kw hSo2 hV
      generalize hrr : t.stages[i] = r at *
      have HRR : Hid _ := hrr
      clear hrr
      generalize rdy t s i = q at *
      go_wp2_with fail
      refine Calls.mono cr ?_
      rintro e w4 ⟨rfl, k4⟩
      clear cr y0 y1 y2 y3 z0 z1 z2 z3 o0 o1 o2 o3
      have K4 : Hid (Kept (fun _ => True) w1 w4) := HKa.out.trans k4
      cases q with
      | false =>
        have HQ : Hid (RS = (s, 32)) := HFi.out
        go_wp2_with fail
        go_roundw
        case rel => exact ⟨i + 1, by omega, by go_num, fun _ _ _ _ => HQ.out, K4.out⟩
        case measure => simp [intOf]; omega
      | true =>
        have HQ : Hid (RS = ({ s with done := s.done.set i true }, 0)) := HFi.out
        have hSo4 := HSo.out.all (K1.out.trans K4.out)
        have hd : i < s.done.length := by rw [HF.out.done]; exact hlt
        obtain ⟨g, rfl⟩ : ∃ g, eo = some ⟨g, 0, none⟩ := by
          obtain ⟨ao', cap', e, _, _, h0⟩ := own_form hSo4.done
          cases e
          exact h0 (by omega)
        have hc := hSo4.done.cellAt i (by omega)
        rw [show (bv s.done)[i]? = some (.bool s.done[i]) by simp [bv, hd]] at hc
        have hfz := hSo4.done.frozenAt i
        have HS5 : Hid _ := hSo4.setDone rfl i true
        have hB2 := (K4.out.block _ (lt_of_block X2.out) trivial).trans X2.out
        obtain ⟨⟨z0, z1, z2, z3⟩, _⟩ := four_cell hB2
        have i2 : (i : Int) < (s.done.length : Int) := by omega
        have K5 : Hid (Kept (· < w0.heap.size) w w4) := (K1.out.trans K4.out).mono fun _ _ _ => trivial
        clear hSo4 hB2 k4
        generalize s.done[i] = old at *
        go_wp2_with fail
        go_ret
        exact ⟨by rw [HQ.out]; rfl, by rw [HQ.out]; exact HS5.out.1, K5.out.trans HS5.out.2⟩
    · have hx' : ((t.stages[i]).name == o.name) = false := by simpa using hx
      have HAll2 : Hid (∀ k (h : k < t.stages.length), k < i + 1 → (t.stages[k]).name = o.name → RS = (s, 32)) := fun k h hk he => by
        rcases Nat.lt_or_ge k i with h2 | h2
        · exact HAll.out k h h2 he
        · obtain rfl : k = i := by omega
          exact absurd he hx
      clear hx
      generalize t.stages[i] = a at *
      go_wp2_with fail
      go_roundw
      case rel => exact ⟨i + 1, by omega, by go_num, HAll2.out, HKa.out⟩
      case measure => simp [intOf]; omega
  · have i1 : ¬ (i : Int) < (t.stages.length : Int) := by omega
    have HQ : Hid (RS = (s, 32)) := by
      show _ = _
      by_cases hex : ∃ k, ∃ h : k < t.stages.length, (t.stages[k]).name = o.name
      · obtain ⟨k, hk, he⟩ := hex
        exact HAll.out k hk (by omega) he
      · rw [HRS.out, fire_no (fun k hk he => hex ⟨k, hk, he⟩)]
    have HS2 : Hid _ := HSo.out.all (K1.out.trans HKr.out)
    go_wp2_with fail
    go_ret
    exact ⟨by rw [HQ.out]; rfl, by rw [HQ.out]; exact HS2.out, (K1.out.trans HKr.out).mono fun _ _ _ => trivial⟩

set_option maxRecDepth 100000 in
set_option maxHeartbeats 4000000 in
theorem clone_nums {w : World} {v : Value} {xs : List Value} (h : Cv w v xs) (h1 : ∀ u ∈ xs, u.oneCell' = true) (hl : xs.length ≤ 1000000) :
    Calls Tryd.prog 27 #[v] w fun e w' => ∃ v', e = .returned v' ∧ w'.ownsRow w.heap.size 3 1 v' xs.length xs ∧ Kept (fun _ => True) w w' := by
  have HC : Hid (Cv w v xs) := h
  obtain ⟨ao, cap, rfl, _, hn, hx⟩ := h
  cases ao with
  | none =>
    have h0 : xs = [] := by
      rcases Nat.eq_zero_or_pos xs.length with h | h
      · exact List.eq_nil_of_length_eq_zero h
      · obtain ⟨_, _, e, _⟩ := hx h; cases e
    have hc := hn rfl
    subst h0 hc
    clear hn hx HC h1 hl
    have qT : ∀ W : World, (binOp .eql 29 (.slice none 0 0) (.slice none 0 0)).run Tryd.prog W = .ok (.bool true) W := fun W => run_eql_nil_slice W 29 3 none 0 0 0 0 Tryd.underlying29
    go_enter Tryd.func27, Tryd.ntmps27
    go_wp2_with fail
    go_ret
    exact ⟨_, rfl, World.ownsRow_nil _ _ _ _, Kept.refl _ _⟩
  | some ad =>
    have H1 : Hid _ := h1
    have HL : Hid (xs.length ≤ 1000000) := hl
    obtain ⟨n, hnn⟩ : ∃ n, n = xs.length := ⟨_, rfl⟩
    rw [← hnn] at HC ⊢
    have HN : Hid (n = xs.length) := hnn
    clear hn hx h1 hl hnn
    have qT : ∀ W : World, (binOp .eql 29 (.slice (some ad) n cap) (.slice none 0 0)).run Tryd.prog W = .ok (.bool false) W := fun W => Lib.run_eql_slice_nil W 29 3 (some ad) n cap 0 0 Tryd.underlying29
    go_enter Tryd.func27, Tryd.ntmps27
    go_wp2_with (at_builtin; refine wpList_append_nums rfl (.tmp 5) (.tmp 6) rfl w.heap.size (.slice (some ⟨w.heap.size, 0, none⟩) 0 0) 0 [] rfl (empty_nums w w.heap.size (Nat.le_refl _)) (by simp) (.slice (some ad) n cap) rfl xs (HC.out.all ((Kept.refl _ _).alloc _)) H1.out (by have := HL.out; omega) n (by have := HN.out; omega) ?_; intro ao' cap' w' hW hG hO; have HW : Hid (w'.ownsRow w.heap.size 3 1 (.slice ao' n cap') n xs) := hW; have HK : Hid (Kept (fun _ => True) w w') := ((Kept.refl _ _).alloc _).grown hG (fun k hk e => by simp [Value.ownBlock] at e; omega); clear hW hG hO)
    go_ret
    exact ⟨_, rfl, HW.out, HK.out⟩
set_option maxRecDepth 100000 in
set_option maxHeartbeats 4000000 in
theorem clone_truths {w : World} {v : Value} {xs : List Value} (h : Cv w v xs) (h1 : ∀ u ∈ xs, u.oneCell' = true) (hl : xs.length ≤ 1000000) :
    Calls Tryd.prog 28 #[v] w fun e w' => ∃ v', e = .returned v' ∧ w'.ownsRow w.heap.size 4 1 v' xs.length xs ∧ Kept (fun _ => True) w w' := by
  have HC : Hid (Cv w v xs) := h
  obtain ⟨ao, cap, rfl, _, hn, hx⟩ := h
  cases ao with
  | none =>
    have h0 : xs = [] := by
      rcases Nat.eq_zero_or_pos xs.length with h | h
      · exact List.eq_nil_of_length_eq_zero h
      · obtain ⟨_, _, e, _⟩ := hx h; cases e
    have hc := hn rfl
    subst h0 hc
    clear hn hx HC h1 hl
    have qT : ∀ W : World, (binOp .eql 30 (.slice none 0 0) (.slice none 0 0)).run Tryd.prog W = .ok (.bool true) W := fun W => run_eql_nil_slice W 30 4 none 0 0 0 0 Tryd.underlying30
    go_enter Tryd.func28, Tryd.ntmps28
    go_wp2_with fail
    go_ret
    exact ⟨_, rfl, World.ownsRow_nil _ _ _ _, Kept.refl _ _⟩
  | some ad =>
    have H1 : Hid _ := h1
    have HL : Hid (xs.length ≤ 1000000) := hl
    obtain ⟨n, hnn⟩ : ∃ n, n = xs.length := ⟨_, rfl⟩
    rw [← hnn] at HC ⊢
    have HN : Hid (n = xs.length) := hnn
    clear hn hx h1 hl hnn
    have qT : ∀ W : World, (binOp .eql 30 (.slice (some ad) n cap) (.slice none 0 0)).run Tryd.prog W = .ok (.bool false) W := fun W => Lib.run_eql_slice_nil W 30 4 (some ad) n cap 0 0 Tryd.underlying30
    go_enter Tryd.func28, Tryd.ntmps28
    go_wp2_with (at_builtin; refine wpList_append_truths rfl (.tmp 5) (.tmp 6) rfl w.heap.size (.slice (some ⟨w.heap.size, 0, none⟩) 0 0) 0 [] rfl (empty_truths w w.heap.size (Nat.le_refl _)) (by simp) (.slice (some ad) n cap) rfl xs (HC.out.all ((Kept.refl _ _).alloc _)) H1.out (by have := HL.out; omega) n (by have := HN.out; omega) ?_; intro ao' cap' w' hW hG hO; have HW : Hid (w'.ownsRow w.heap.size 4 1 (.slice ao' n cap') n xs) := hW; have HK : Hid (Kept (fun _ => True) w w') := ((Kept.refl _ _).alloc _).grown hG (fun k hk e => by simp [Value.ownBlock] at e; omega); clear hW hG hO)
    go_ret
    exact ⟨_, rfl, HW.out, HK.out⟩

end Go.Proofs.YtnddpalngjmhnabDoor
