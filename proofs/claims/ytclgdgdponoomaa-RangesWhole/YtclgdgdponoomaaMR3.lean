/-
  The law's same, of a Map that has the document's parts; known.
-/
import Derived.Test.YtclgdgdponoomaaMR1
import Derived.Test.YtclgdgdponoomaaMR2
import Derived.Test.YtclgdgdponoomaaM6
namespace Go.Proofs.Ytclgdgdponoomaa
open Go.RowKit

set_option maxRecDepth 100000 in
set_option maxHeartbeats 2000000 in
theorem same_raw {w : World} {ao : Option Addr} {cap : Nat} {ep : Int} {f : Nat → Int} {ps : List Pa} (h : Pv w ao ps) (hps : ps = pcs f 256) :
    Calls Try.prog 14 #[.agg #[.int .i64 ep, .slice ao ps.length cap], .agg (mcs ep f).toArray] w fun e w' => e = .returned (.bool true) ∧ Kept (fun _ => True) w w' := by
  have hl : ps.length ≤ 256 := by rw [hps]; exact pcs_most _ _
  have HV : Hid (Pv w ao ps) := h
  have cp := fun W => rpcs_any (w := W) ep f
  rw [← hps] at cp
  clear h hps
  have kX : Kept (fun _ => True) w (w.alloc (.cells #[.int .i64 ep, .slice ao ps.length cap] 24)) := (Kept.refl _ _).alloc _
  have hX := heap_alloc_new w (.cells #[.int .i64 ep, .slice ao ps.length cap] 24)
  have KX : Hid _ := kX
  have HX : Hid _ := hX
  clear kX hX
  go_enter Try.func14, Try.ntmps14
  go_wp2_with (first
    | ((with_reducible refine w_box_m (d := some 3) (ep := ep) (f := f) ?hx ?_); (case hx => rfl); intro w2 h2 k2 s2; rw [show (w.alloc (.cells #[.int .i64 ep, .slice ao ps.length cap] 24)).heap.size = w.heap.size + 1 by simp] at h2; have H2 : Hid (Rm _ _ _ _) := h2; have hX2 := (k2.block _ (lt_of_block HX.out) trivial).trans HX.out; have K2 : Hid _ := KX.out.trans k2; have HX2 : Hid _ := hX2; clear k2 s2 hX2)
    | ((with_reducible refine w_load_m ?hx h2 ?_); (case hx => rfl); clear h2)
    | (go_at_call 39; refine Calls.mono (cp _) ?_; rintro e w3 ⟨ao3, cap3, rfl, ho3, k3⟩; have hX3 := (k3.block _ (lt_of_block HX2.out) trivial).trans HX2.out; have HR3 : Hid (Rm _ _ _ _) := H2.out.all k3; have c0 := (mtwo_cell hX3).1; have c1 := (mtwo_cell hX3).2; have c2 := HR3.out.cep; have HO3 : Hid (Po _ _ _ _ _) := ho3; have K3 : Hid _ := K2.out.trans k3; have HX3 : Hid _ := hX3; clear ho3 k3 hX3))
  clear cp
  have HV3 : Hid (Pv w3 ao ps) := HV.out.all K3.out
  have HV4 : Hid (Pv w3 ao3 ps) := HO3.out.view
  go_loopw [6] (fun t wr => ∃ (i m : Nat), i ≤ ps.length ∧ t = .int .i64 i ∧ wr = w3.drewN m) (fun t _ => ps.length - (intOf t).toNat)
  case atStart => exact ⟨0, 0, Nat.zero_le _, rfl, rfl⟩
  case round =>
    obtain ⟨i, m, hi, rfl, rfl⟩ := hrel
    by_cases hlt : i < ps.length
    · obtain ⟨b, off, rfl, hb, hc⟩ := HV3.out.row (by omega)
      obtain ⟨b', off', rfl, hb', hc'⟩ := HV4.out.row (by omega)
      obtain ⟨d0, d1, d2⟩ := hc i hlt
      obtain ⟨e0, e1, e2⟩ := hc' i hlt
      clear hc hc'
      generalize ps[i] = p at *
      obtain ⟨plo, phi, pg⟩ := p
      simp only at d0 d1 d2 e0 e1 e2
      have i0 : (0 : Int) ≤ (i : Int) := by omega
      have i1 : (i : Int) < (ps.length : Int) := by omega
      go_wp2
      go_quiet (fail)
      go_wp2
      go_roundw
      case rel => exact ⟨i + 1, _, by omega, by go_num, rfl⟩
      case measure => simp [intOf]; omega
    · have hie : i = ps.length := by omega
      subst hie
      go_wp2
      go_ret
      exact ⟨rfl, K3.out.drewN m⟩

theorem same_any {w : World} {ao : Option Addr} {cap n : Nat} {ep : Int} {f : Nat → Int} {ps : List Pa} (h : Pv w ao ps) (hn : n = ps.length) (hps : ps = pcs f 256) :
    Calls Try.prog 14 #[.agg #[.int .i64 ep, .slice ao n cap], .agg (mcs ep f).toArray] w fun e w' => e = .returned (.bool true) ∧ Kept (fun _ => True) w w' := by
  subst hn
  exact same_raw h hps

end Go.Proofs.Ytclgdgdponoomaa
