/-
  The books' Same of parts; the law's equal.
-/
import Derived.Test.YtclgdgdponoomaaMMo
namespace Go.Proofs.Ytclgdgdponoomaa
open Go.RowKit

theorem pa_ext {p q : Pa} (h0 : p.lo = q.lo) (h1 : p.hi = q.hi) (h2 : p.g = q.g) : p = q := by
  obtain ⟨a, b, c⟩ := p
  obtain ⟨a', b', c'⟩ := q
  simp only at h0 h1 h2
  subst h0 h1 h2
  rfl
/-- Whether they are alike. -/
def ESame (A : Prop) (w : World) (e : Ending) (w' : World) : Prop := ∃ b : Bool, e = .returned (.bool b) ∧ (b = true ↔ A) ∧ ∃ m, w' = w.drewN m

set_option maxRecDepth 100000 in
set_option maxHeartbeats 2000000 in
theorem psame_any {w : World} {a1 a2 : Option Addr} {c1 c2 : Nat} {ps qs : List Pa} (h1 : Pv w a1 ps) (h2 : Pv w a2 qs) (hl1 : ps.length ≤ 100000) (_ : qs.length ≤ 100000) :
    Calls Try.prog 42 #[.slice a1 ps.length c1, .slice a2 qs.length c2] w fun e w' => ESame (ps = qs) w e w' := by
  have H1 : Hid (Pv w a1 ps) := h1
  have H2 : Hid (Pv w a2 qs) := h2
  clear h1 h2
  by_cases hlen : ps.length = qs.length
  · have HLE : Hid (ps.length = qs.length) := hlen
    rw [← hlen]
    clear hlen
    go_enter Try.func42, Try.ntmps42
    go_wp2
    go_loopw [5] (fun t wr => ∃ i m : Nat, i ≤ ps.length ∧ t = .int .i64 i ∧ wr = w.drewN m ∧ ∀ j (h : j < i) (hp : j < ps.length) (hq : j < qs.length), ps[j] = qs[j]) (fun t _ => ps.length - (intOf t).toNat)
    case atStart => exact ⟨0, 0, Nat.zero_le _, rfl, rfl, fun j h => by omega⟩
    case round =>
      obtain ⟨i, m, hi, rfl, rfl, hall⟩ := hrel
      have HA : Hid (∀ j (h : j < i) (hp : j < ps.length) (hq : j < qs.length), ps[j] = qs[j]) := hall
      clear hall
      by_cases hlt : i < ps.length
      · have hlq : i < qs.length := by have := HLE.out; omega
        obtain ⟨b, off, rfl, hb, hc⟩ := H1.out.row (by omega)
        obtain ⟨b', off', rfl, hb', hc'⟩ := H2.out.row (by omega)
        obtain ⟨d0, d1, d2⟩ := hc i hlt
        obtain ⟨e0, e1, e2⟩ := hc' i hlq
        have HN : Hid (ps[i] = qs[i] → ∀ j (h : j < i + 1) (hp : j < ps.length) (hq : j < qs.length), ps[j] = qs[j]) := fun e j h hp hq => by
          by_cases hj : j = i
          · subst hj; exact e
          · exact HA.out j (by omega) hp hq
        have HF : Hid (ps[i] ≠ qs[i] → ps ≠ qs) := fun hne e => hne (by subst e; rfl)
        clear hc hc' HA
        generalize ps[i] = p at *
        generalize qs[i] = q at *
        obtain ⟨plo, phi, pg⟩ := p
        obtain ⟨qlo, qhi, qg⟩ := q
        simp only at d0 d1 d2 e0 e1 e2
        have i0 : (0 : Int) ≤ (i : Int) := by omega
        have i1 : (i : Int) < (ps.length : Int) := by omega
        by_cases hpq : plo = qlo ∧ phi = qhi ∧ pg = qg
        · obtain ⟨rfl, rfl, rfl⟩ := hpq
          have HN2 := HN.out rfl
          have HN3 : Hid (∀ j (h : j < i + 1) (hp : j < ps.length) (hq : j < qs.length), ps[j] = qs[j]) := HN2
          clear HN HN2 HF
          go_wp2
          go_quiet (fail)
          go_wp2
          go_roundw
          case rel => exact ⟨i + 1, _, by omega, by go_num, rfl, HN3.out⟩
          case measure => simp [intOf]; omega
        · have HNE : Hid (ps ≠ qs) := HF.out (fun e => hpq (by cases e; exact ⟨rfl, rfl, rfl⟩))
          clear HN HF
          by_cases q0 : plo = qlo
          · subst q0
            by_cases q1 : phi = qhi
            · subst q1
              have q2 : (pg == qg) = false := by
                simp only [beq_eq_false_iff_ne]
                exact fun e => hpq ⟨rfl, rfl, e⟩
              clear hpq
              go_wp2
              go_quiet (fail)
              go_wp2
              go_ret
              exact ⟨false, rfl, by simpa using HNE.out, m + nq, drew_two _ _ _⟩
            · have q2 : (phi == qhi) = false := by simpa using q1
              clear hpq
              go_wp2
              go_quiet (fail)
              go_wp2
              go_ret
              exact ⟨false, rfl, by simpa using HNE.out, m + nq, drew_two _ _ _⟩
          · have q2 : (plo == qlo) = false := by simpa using q0
            clear hpq
            go_wp2
            go_quiet (fail)
            go_wp2
            go_ret
            exact ⟨false, rfl, by simpa using HNE.out, m + nq, drew_two _ _ _⟩
      · have HEQ : Hid (ps = qs) := List.ext_getElem HLE.out (fun j h1 h2 => HA.out j (by omega) h1 h2)
        have hie : i = ps.length := by omega
        subst hie
        clear HA
        go_wp2
        go_ret
        exact ⟨true, rfl, by simpa using HEQ.out, m, rfl⟩
  · have HNE : Hid (ps ≠ qs) := fun e => hlen (by rw [e])
    have q2 : ((ps.length : Int) == (qs.length : Int)) = false := by simp only [beq_eq_false_iff_ne]; omega
    clear hlen
    go_enter Try.func42, Try.ntmps42
    go_wp2
    go_ret
    exact ⟨false, rfl, by simpa using HNE.out, 0, rfl⟩

set_option maxRecDepth 100000 in
set_option maxHeartbeats 2000000 in
theorem equal_any {w : World} {a1 a2 : Option Addr} {c1 c2 : Nat} {e1 e2 : Int} {ps qs : List Pa} (h1 : Pv w a1 ps) (h2 : Pv w a2 qs) (hl1 : ps.length ≤ 100000) (hl2 : qs.length ≤ 100000) :
    Calls Try.prog 26 #[.agg #[.int .i64 e1, .slice a1 ps.length c1], .agg #[.int .i64 e2, .slice a2 qs.length c2]] w fun e w' => ∃ b : Bool, e = .returned (.bool b) ∧ (b = true ↔ e1 = e2 ∧ ps = qs) ∧ Kept (fun _ => True) w w' := by
  have kX : Kept (fun _ => True) w ((w.alloc (.cells #[.int .i64 e1, .slice a1 ps.length c1] 24)).alloc (.cells #[.int .i64 e2, .slice a2 qs.length c2] 24)) := ((Kept.refl _ _).alloc _).alloc _
  have cs := psame_any (c1 := c1) (c2 := c2) (h1.all kX) (h2.all kX) hl1 hl2
  have KX : Hid _ := kX
  clear h1 h2 kX
  by_cases he : e1 = e2
  · subst he
    go_enter Try.func26, Try.ntmps26
    go_wp2_with (go_at_call 42; (with_reducible refine Calls.mono cs ?_); rintro e w2 ⟨b, rfl, hb, m, rfl⟩)
    go_ret
    exact ⟨b, rfl, by rw [hb]; simp, KX.out.drewN m⟩
  · have he' : (e1 == e2) = false := by simpa using he
    go_enter Try.func26, Try.ntmps26
    go_wp2
    go_ret
    exact ⟨false, rfl, by simp [he], KX.out⟩

end Go.Proofs.Ytclgdgdponoomaa
