/-
  Owner: the program's.
-/
import Derived.Test.YtebpkhemkdgbjaaM2
import Derived.Test.YtebpkhemkdgbjaaSHash
namespace Go.Proofs.Ytebpkhemkdgbjaa
open Go.RowKit

set_option maxRecDepth 100000 in
set_option maxHeartbeats 1000000 in
theorem owner_any {w : World} {ao : Option Addr} {cap : Nat} {ps : List Pa} (h : Pv w ao ps) (hl : ps.length ≤ 140737488355328) (x : List UInt8) (hx : (x.length : Int) ≤ 140737488355328) :
    Calls Try.prog 63 #[.slice ao ps.length cap, .string ⟨x.toArray⟩] w fun e w' => e = .returned (.int .i64 (ownH ps (hashOf x))) ∧ Kept (fun _ => True) w w' := by
  have ch := fun W => hash_any (w := W) x hx
  generalize hashOf x = z at *
  have HV : Hid (Pv w ao ps) := h
  clear h
  generalize hE : ownH ps z = E at *
  have HE : Hid (ownH (ps.drop 0) z = E) := by
    show _ = _
    rw [List.drop_zero]; exact hE
  clear hE
  go_enter Try.func63, Try.ntmps63
  go_wp2_with (go_at_call 70; refine Calls.mono (ch _) ?_; rintro e w1 ⟨rfl, k1⟩; have K1 : Hid _ := k1; clear k1)
  go_loopw [12] (fun t wr => ∃ (i : Nat), i ≤ ps.length ∧ t = .int .i64 i ∧ ownH (ps.drop i) z = E ∧ Kept (fun _ => True) w wr) (fun t _ => ps.length - (intOf t).toNat)
  case atStart => exact ⟨0, Nat.zero_le _, rfl, HE.out, K1.out⟩
  case round =>
    obtain ⟨i, hi, rfl, hE, hk⟩ := hrel
    have HK : Hid (Kept (fun _ => True) w wr) := hk
    clear hk HE K1
    by_cases hlt : i < ps.length
    · obtain ⟨b, off, rfl, hb, hc⟩ := (HV.out.all HK.out).row (by omega)
      obtain ⟨c0, c1, c2⟩ := hc i hlt
      rw [List.drop_eq_getElem_cons hlt] at hE
      have HE : Hid (ownH (ps[i] :: ps.drop (i + 1)) z = E) := hE
      clear hc hE
      generalize ps[i] = p at *
      obtain ⟨plo, phi, pg⟩ := p
      simp only at c0 c1 c2
      have i0 : (0 : Int) ≤ (i : Int) := by omega
      have i1 : (i : Int) < (ps.length : Int) := by omega
      have kV : Kept (fun _ => True) wr (wr.alloc (.cells #[.int .i64 plo, .int .i64 phi, .int .i64 pg] 79)) := (Kept.refl _ _).alloc _
      have HK2 : Hid (Kept (fun _ => True) w (wr.alloc (.cells #[.int .i64 plo, .int .i64 phi, .int .i64 pg] 79))) := HK.out.trans kV
      clear kV HK
      by_cases q : (z : Int) < phi
      · have HN : Hid (E = pg) := by
          show _ = _
          rw [← HE.out]; simp [ownH, q]
        clear HE
        go_wp2
        go_ret
        exact ⟨by rw [HN.out]; rfl, HK2.out⟩
      · have HN : Hid (ownH (ps.drop (i + 1)) z = E) := by
          show _ = _
          rw [← HE.out]; simp [ownH, q]
        clear HE
        go_wp2
        go_roundw
        case rel => exact ⟨i + 1, by omega, by go_num, HN.out, HK2.out⟩
        case measure => simp [intOf]; omega
    · have hie : i = ps.length := by omega
      subst hie
      rw [List.drop_length] at hE
      have HN : Hid (E = 0) := by
        show _ = _
        rw [← hE]; rfl
      clear hE
      go_wp2
      go_ret
      exact ⟨by rw [HN.out]; rfl, HK.out⟩

end Go.Proofs.Ytebpkhemkdgbjaa
