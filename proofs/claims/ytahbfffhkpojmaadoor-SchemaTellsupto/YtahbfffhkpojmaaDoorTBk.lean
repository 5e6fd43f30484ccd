/-
  Two types that are the same, held against one another.
-/
import Derived.Test.YtahbfffhkpojmaaDoorT9
namespace Go.Proofs.YtahbfffhkpojmaaDoor
open Go.RowKit

theorem attr_same (x : At) (W : World) : (binOp .neq 50 (.agg #[.string ⟨x.name.toArray⟩, .int .i64 x.start, .int .i64 x.lo, .int .i64 x.hi]) (.agg #[.string ⟨x.name.toArray⟩, .int .i64 x.start, .int .i64 x.lo, .int .i64 x.hi])).run Tryd.prog W = .ok (.bool false) W := by
  go_simp
theorem rule_same (x : Ru) (W : World) : (binOp .neq 44 (.agg #[.string ⟨x.name.toArray⟩, .string ⟨x.guard.toArray⟩]) (.agg #[.string ⟨x.name.toArray⟩, .string ⟨x.guard.toArray⟩])).run Tryd.prog W = .ok (.bool false) W := by
  go_simp

set_option maxRecDepth 100000 in
set_option maxHeartbeats 8000000 in
theorem same_any {w : World} {v u : Value} {t : Ty} (h : TyV w v t) (h' : TyV w u t) :
    Calls Tryd.prog 9 #[v, u] w fun e w' => e = .returned (.bool true) ∧ Kept (fun _ => True) w w' := by
  obtain ⟨va, vs, vm, rfl, ha, hs, hk⟩ := h
  obtain ⟨ao, ac, rfl, la⟩ := ha.form
  obtain ⟨so, sc, rfl, ls⟩ := hs.form
  obtain ⟨mo, mc, rfl, lm⟩ := hk.form
  obtain ⟨ua, us, um, rfl, ha', hs', hk'⟩ := h'
  obtain ⟨uao, uac, rfl, _⟩ := ha'.form
  obtain ⟨uso, usc, rfl, _⟩ := hs'.form
  obtain ⟨umo, umc, rfl, _⟩ := hk'.form
  have k0 : Kept (fun _ => True) w ((w.alloc (.cells #[.string ⟨t.name.toArray⟩, .slice ao t.attrs.length ac, .slice so t.stages.length sc, .slice mo t.marks.length mc] 26)).alloc (.cells #[.string ⟨t.name.toArray⟩, .slice uao t.attrs.length uac, .slice uso t.stages.length usc, .slice umo t.marks.length umc] 26)) := ((Kept.refl _ _).alloc _).alloc _
  obtain ⟨hX, hY⟩ := alloc_two w (.cells #[.string ⟨t.name.toArray⟩, .slice ao t.attrs.length ac, .slice so t.stages.length sc, .slice mo t.marks.length mc] 26) (.cells #[.string ⟨t.name.toArray⟩, .slice uao t.attrs.length uac, .slice uso t.stages.length usc, .slice umo t.marks.length umc] 26)
  replace ha := ha.all k0
  replace hs := hs.all k0
  replace hk := hk.all k0
  replace ha' := ha'.all k0
  replace hs' := hs'.all k0
  replace hk' := hk'.all k0
  obtain ⟨⟨z0, z1, z2, z3⟩, _⟩ := four_cell hX
  obtain ⟨⟨y0, y1, y2, y3⟩, _⟩ := four_cell hY
  go_enter Tryd.func9, Tryd.ntmps9
  go_wp2_with fail
  generalize (w.alloc (.cells #[.string ⟨t.name.toArray⟩, .slice ao t.attrs.length ac, .slice so t.stages.length sc, .slice mo t.marks.length mc] 26)).alloc (.cells #[.string ⟨t.name.toArray⟩, .slice uao t.attrs.length uac, .slice uso t.stages.length usc, .slice umo t.marks.length umc] 26) = w1 at *
  obtain ⟨G, hG⟩ : ∃ G, G = w.heap.size := ⟨_, rfl⟩
  rw [← hG] at hX hY ⊢
  obtain ⟨H, hH⟩ : ∃ H, H = G + 1 := ⟨_, rfl⟩
  rw [← hH] at hY ⊢
  have K0 : Hid (Kept (fun _ => True) w w1) := k0
  have HA : Hid (Av w1 (.slice ao t.attrs.length ac) t.attrs) := ha
  have HS : Hid (Rv w1 (.slice so t.stages.length sc) t.stages) := hs
  have HM : Hid (Rv w1 (.slice mo t.marks.length mc) t.marks) := hk
  have HA' : Hid (Av w1 (.slice uao t.attrs.length uac) t.attrs) := ha'
  have HS' : Hid (Rv w1 (.slice uso t.stages.length usc) t.stages) := hs'
  have HM' : Hid (Rv w1 (.slice umo t.marks.length umc) t.marks) := hk'
  have HX : Hid (w1.heap[G]? = some (.cells #[.string ⟨t.name.toArray⟩, .slice ao t.attrs.length ac, .slice so t.stages.length sc, .slice mo t.marks.length mc] 26 (0, 0))) := hX
  have HY : Hid (w1.heap[H]? = some (.cells #[.string ⟨t.name.toArray⟩, .slice uao t.attrs.length uac, .slice uso t.stages.length usc, .slice umo t.marks.length umc] 26 (0, 0))) := hY
  clear hG hH ha hs hk ha' hs' hk' hX hY k0 z0 z1 z2 z3 y0 y1 y2 y3
  go_loopw [5] (fun ti wr => ∃ i : Nat, i ≤ t.attrs.length ∧ ti = .int .i64 i ∧ Kept (fun _ => True) w1 wr) (fun ti _ => t.attrs.length - (intOf ti).toNat)
  case atStart => exact ⟨0, Nat.zero_le _, rfl, Kept.refl _ _⟩
  case round =>
  obtain ⟨i, hi, rfl, hk⟩ := hrel
  have HKr : Hid (Kept (fun _ => True) w1 wr) := hk
  obtain ⟨⟨z0, z1, z2, z3⟩, _⟩ := four_cell ((hk.block G (lt_of_block HX.out) trivial).trans HX.out)
  obtain ⟨⟨y0, y1, y2, y3⟩, _⟩ := four_cell ((hk.block H (lt_of_block HY.out) trivial).trans HY.out)
  clear hk
  by_cases hlt : i < t.attrs.length
  · obtain ⟨b, off, rfl, hb, q0, q1, q2, q3⟩ := (HA.out.all HKr.out).at i hlt
    obtain ⟨b', off', rfl, hb', r0, r1, r2, r3⟩ := (HA'.out.all HKr.out).at i hlt
    have he := attr_same t.attrs[i]
    have i1 : (i : Int) < (t.attrs.length : Int) := by omega
    have i0 : (0 : Int) ≤ (i : Int) := by omega
    clear hb hb'
    generalize t.attrs[i] = x at *
    obtain ⟨xn, xs, xl, xh⟩ := x
    simp only at he q0 q1 q2 q3 r0 r1 r2 r3
    go_wp2_with fail
    go_quiet (fail)
    go_wp2_with fail
    go_roundw
    case rel => exact ⟨i + 1, by omega, by go_num, HKr.out.drewN _⟩
    case measure => simp [intOf]; omega
  · have i1 : ¬ (i : Int) < (t.attrs.length : Int) := by omega
    clear hlt
    go_wp2_with fail
    go_loopw [6] (fun ti wr => ∃ i : Nat, i ≤ t.stages.length ∧ ti = .int .i64 i ∧ Kept (fun _ => True) w1 wr) (fun ti _ => t.stages.length - (intOf ti).toNat)
    case atStart => exact ⟨0, Nat.zero_le _, rfl, HKr.out⟩
    case round =>
    obtain ⟨i, hi, rfl, hk⟩ := hrel
    have HKr : Hid (Kept (fun _ => True) w1 wr) := hk
    obtain ⟨⟨z0, z1, z2, z3⟩, _⟩ := four_cell ((hk.block G (lt_of_block HX.out) trivial).trans HX.out)
    obtain ⟨⟨y0, y1, y2, y3⟩, _⟩ := four_cell ((hk.block H (lt_of_block HY.out) trivial).trans HY.out)
    clear hk
    by_cases hlt : i < t.stages.length
    · obtain ⟨b, off, rfl, hb, q0, q1⟩ := (HS.out.all HKr.out).at i hlt
      obtain ⟨b', off', rfl, hb', r0, r1⟩ := (HS'.out.all HKr.out).at i hlt
      have he := rule_same t.stages[i]
      have i1 : (i : Int) < (t.stages.length : Int) := by omega
      have i0 : (0 : Int) ≤ (i : Int) := by omega
      clear hb hb'
      generalize t.stages[i] = x at *
      obtain ⟨xn, xg⟩ := x
      simp only at he q0 q1 r0 r1
      go_wp2_with fail
      go_quiet (fail)
      go_wp2_with fail
      go_roundw
      case rel => exact ⟨i + 1, by omega, by go_num, HKr.out.drewN _⟩
      case measure => simp [intOf]; omega
    · have i1 : ¬ (i : Int) < (t.stages.length : Int) := by omega
      clear hlt
      go_wp2_with fail
      go_loopw [7] (fun ti wr => ∃ i : Nat, i ≤ t.marks.length ∧ ti = .int .i64 i ∧ Kept (fun _ => True) w1 wr) (fun ti _ => t.marks.length - (intOf ti).toNat)
      case atStart => exact ⟨0, Nat.zero_le _, rfl, HKr.out⟩
      case round =>
      obtain ⟨i, hi, rfl, hk⟩ := hrel
      have HKr : Hid (Kept (fun _ => True) w1 wr) := hk
      obtain ⟨⟨z0, z1, z2, z3⟩, _⟩ := four_cell ((hk.block G (lt_of_block HX.out) trivial).trans HX.out)
      obtain ⟨⟨y0, y1, y2, y3⟩, _⟩ := four_cell ((hk.block H (lt_of_block HY.out) trivial).trans HY.out)
      clear hk
      by_cases hlt : i < t.marks.length
      · obtain ⟨b, off, rfl, hb, q0, q1⟩ := (HM.out.all HKr.out).at i hlt
        obtain ⟨b', off', rfl, hb', r0, r1⟩ := (HM'.out.all HKr.out).at i hlt
        have he := rule_same t.marks[i]
        have i1 : (i : Int) < (t.marks.length : Int) := by omega
        have i0 : (0 : Int) ≤ (i : Int) := by omega
        clear hb hb'
        generalize t.marks[i] = x at *
        obtain ⟨xn, xg⟩ := x
        simp only at he q0 q1 r0 r1
        go_wp2_with fail
        go_quiet (fail)
        go_wp2_with fail
        go_roundw
        case rel => exact ⟨i + 1, by omega, by go_num, HKr.out.drewN _⟩
        case measure => simp [intOf]; omega
      · have i1 : ¬ (i : Int) < (t.marks.length : Int) := by omega
        clear hlt
        go_wp2_with fail
        go_ret
        exact ⟨rfl, K0.out.trans HKr.out⟩

theorem texts_same {w : World} {b1 b2 : Nat} {a1 a2 : Option Addr} {n1 n2 c1 c2 : Nat} {xs : List (List UInt8)} (h1 : Txs w b1 (.slice a1 n1 c1) xs) (h2 : Txs w b2 (.slice a2 n2 c2) xs) (hl : n1 ≤ 140737488355328) :
    Calls Tryd.prog 12 #[.slice a1 n1 c1, .slice a2 n2 c2] w fun e w' => e = .returned (.bool true) ∧ Kept (fun _ => True) w w' :=
  (texts_any h1 h2 hl).mono fun _ _ ⟨he, m, hw⟩ => ⟨by simpa using he, by rw [hw]; exact (Kept.refl _ _).drewN m⟩

end Go.Proofs.YtahbfffhkpojmaaDoor
