/-
  Save: the program's.
-/
import Derived.Test.YtclgdgdponoomaaM2
import Derived.Test.YtclgdgdponoomaaXWr4
import Derived.Test.YtclgdgdponoomaaXNew
namespace Go.Proofs.Ytclgdgdponoomaa
open Go.RowKit

def encPa (p : Pa) : List UInt8 := enc (u64 p.lo) 8 ++ enc (u64 p.hi) 8 ++ enc (u64 p.g) 8
def headM (ep : Int) (n : Nat) : List UInt8 := enc (u64 ep) 8 ++ enc (u64 n) 4
def savedM (ep : Int) (ps : List Pa) : List UInt8 := headM ep ps.length ++ ps.flatMap encPa
theorem encPa_length (p : Pa) : (encPa p).length = 24 := by simp [encPa, enc_length]
theorem headM_length (ep : Int) (n : Nat) : (headM ep n).length = 12 := by simp [headM, enc_length]
theorem encPas_length (ps : List Pa) : (ps.flatMap encPa).length = 24 * ps.length := by
  induction ps with
  | nil => rfl
  | cons p ps ih => rw [List.flatMap_cons, List.length_append, encPa_length, ih, List.length_cons]; omega
theorem savedM_length (ep : Int) (ps : List Pa) : (savedM ep ps).length = 12 + 24 * ps.length := by rw [savedM, List.length_append, headM_length, encPas_length]
theorem savedM_take {ps : List Pa} {i : Nat} (hi : i < ps.length) : (ps.take (i + 1)).flatMap encPa = (ps.take i).flatMap encPa ++ encPa ps[i] := by
  rw [List.take_succ_eq_append_getElem hi, List.flatMap_append, List.flatMap_singleton]

set_option maxRecDepth 100000 in
set_option maxHeartbeats 1000000 in
theorem save_any {w : World} {ao : Option Addr} {cap : Nat} {ep : Int} {ps : List Pa} (h : Pv w ao ps) (hl : ps.length ≤ 1000) :
    Calls Try.prog 13 #[.agg #[.int .i64 ep, .slice ao ps.length cap]] w fun e w' => ∃ D, e = .returned (.slice (some ⟨D, 0, none⟩) (savedM ep ps).length (savedM ep ps).length) ∧ w'.heap[D]? = some (.cells (cells (savedM ep ps)).toArray 5 (0, 0)) ∧ Kept (fun _ => True) w w' ∧ w.heap.size ≤ D := by
  have HA : Hid (Pv w ao ps) := h
  have HS : Hid (savedM ep ps = headM ep ps.length ++ (ps.take ps.length).flatMap encPa) := by
    show _ = _
    rw [List.take_length]; rfl
  have hlen := savedM_length ep ps
  generalize savedM ep ps = sv at *
  have kX : Kept (fun _ => True) w (w.alloc (.cells #[.int .i64 ep, .slice ao ps.length cap] 24)) := (Kept.refl _ _).alloc _
  have hX := heap_alloc_new w (.cells #[.int .i64 ep, .slice ao ps.length cap] 24)
  have HX : Hid _ := hX
  have KX : Hid _ := kX
  clear h hX kX
  go_enter Try.func13, Try.ntmps13
  go_wp2_with fail
  refine Calls.mono newWriter_any ?_
  rintro e w2 ⟨rfl, h2, k2, l2⟩
  have hX2 := (k2.block _ (lt_of_block HX.out) trivial).trans HX.out
  have hB0 : w.heap.size < (w.alloc (.cells #[.int .i64 ep, .slice ao ps.length cap] 24)).heap.size := lt_of_block HX.out
  have K2 : Hid (Kept (fun x => x < w.heap.size) w w2) := (KX.out.trans k2).mono (fun _ _ _ => trivial)
  generalize (w.alloc (.cells #[.int .i64 ep, .slice ao ps.length cap] 24)).heap.size = B at h2 hB0 ⊢
  have HB0 : Hid (w.heap.size < B) := hB0
  obtain ⟨c0, c1⟩ := mtwo_cell hX2
  have HX2 : Hid _ := hX2
  have c3 := weight_any ep h2 (by simp)
  clear h2 k2 l2 hX2 hB0 HX KX
  go_wp2_with fail
  refine Calls.mono c3 ?_
  rintro e w3 ⟨rfl, G3, v3, h3, k3, n3⟩
  have hX3 := (k3.block _ (lt_of_block HX2.out) ⟨Nat.ne_of_lt HB0.out, by simp⟩).trans HX2.out
  have K3 : Hid (Kept (fun x => x < w.heap.size) w w3) := K2.out.then k3 (fun i hi _ => ⟨by have := HB0.out; omega, by simp⟩)
  have N3 : Hid (∀ x, G3 = some x → w.heap.size < x) := fun x hx => by
    rcases n3 x hx with h | h
    · cases h
    · exact Nat.lt_of_lt_of_le (lt_of_block HX2.out) h
  obtain ⟨d0, d1⟩ := mtwo_cell hX3
  have HX3 : Hid _ := hX3
  have c4 := wfour_any ps.length h3 (by simp [enc_length])
  clear h3 k3 n3 hX3 HX2 K2 c3 c0 c1
  go_wp2_with fail
  refine Calls.mono c4 ?_
  rintro e w4 ⟨rfl, G4, v4, h4, k4, n4⟩
  have hX4 := (k4.block _ (lt_of_block HX3.out) ⟨Nat.ne_of_lt HB0.out, fun e => Nat.lt_irrefl _ (N3.out _ e)⟩).trans HX3.out
  have K4 : Hid (Kept (fun x => x < w.heap.size) w w4) := K3.out.then k4 (fun i hi _ => ⟨by have := HB0.out; omega, fun e => by have := N3.out i e; omega⟩)
  have N4 : Hid (∀ x, G4 = some x → w.heap.size < x) := fun x hx => by
    rcases n4 x hx with h | h
    · exact N3.out x h
    · exact Nat.lt_of_lt_of_le (lt_of_block HX3.out) h
  have H4 : Hid (Wr w4 B G4 v4 (headM ep ps.length)) := by
    show Wr _ _ _ _ _
    have e : ([] ++ enc (u64 ep) 8) ++ enc (u64 ps.length) 4 = headM ep ps.length := rfl
    rw [← e]
    exact h4
  obtain ⟨e0, e1⟩ := mtwo_cell hX4
  clear h4 k4 n4 K3 N3 c4 d0 d1 hX4 HX3
  go_wp2_with fail
  go_loopw [19] (fun t wr => ∃ (i : Nat) (G : Option Nat) (u : Value), i ≤ ps.length ∧ t = .int .i64 i ∧ Wr wr B G u (headM ep ps.length ++ (ps.take i).flatMap encPa) ∧ Kept (fun x => x < w.heap.size) w wr ∧ (∀ x, G = some x → w.heap.size < x)) (fun t _ => ps.length - (intOf t).toNat)
  case atStart => exact ⟨0, G4, v4, Nat.zero_le _, rfl, by simpa using H4.out, K4.out, N4.out⟩
  case round =>
    obtain ⟨i, G, u, hi, rfl, hw, hk, hn⟩ := hrel
    have HW : Hid (Wr wr B G u (headM ep ps.length ++ (ps.take i).flatMap encPa)) := hw
    have HK : Hid (Kept (fun x => x < w.heap.size) w wr) := hk
    have HN : Hid (∀ x, G = some x → w.heap.size < x) := hn
    clear hw hk hn H4 K4 N4 e0 e1
    by_cases hlt : i < ps.length
    · obtain ⟨b, off, rfl, hb, hc⟩ := (HA.out.kept HK.out (fun _ h => h)).row (by omega)
      obtain ⟨z0, z1, z2⟩ := hc i hlt
      have hcl : (headM ep ps.length ++ (ps.take i).flatMap encPa).length = 12 + 24 * i := by
        rw [List.length_append, headM_length, encPas_length, List.length_take]; omega
      have HT : Hid (headM ep ps.length ++ (ps.take (i + 1)).flatMap encPa = headM ep ps.length ++ (ps.take i).flatMap encPa ++ encPa ps[i]) := by
        show _ = _
        rw [savedM_take hlt, List.append_assoc]
      clear hc
      generalize hnx : (headM ep ps.length ++ (ps.take (i + 1)).flatMap encPa) = nxt at *
      generalize (headM ep ps.length ++ (ps.take i).flatMap encPa) = cur at *
      generalize ps[i] = p at *
      obtain ⟨plo, phi, pg⟩ := p
      simp only at z0 z1 z2
      have i1 : (i : Int) < (ps.length : Int) := by omega
      have i0 : (0 : Int) ≤ (i : Int) := by omega
      have kV : Kept (fun _ => True) wr (wr.alloc (.cells #[.int .i64 plo, .int .i64 phi, .int .i64 pg] 30)) := (Kept.refl _ _).alloc _
      have hV := heap_alloc_new wr (.cells #[.int .i64 plo, .int .i64 phi, .int .i64 pg] 30)
      go_wp2_with fail
      have W5 := HW.out.kept kV trivial (fun _ _ => trivial)
      have hVB : wr.heap.size ≠ B ∧ G ≠ some wr.heap.size := ⟨Ne.symm (Nat.ne_of_lt HW.out.lt), fun e => Nat.lt_irrefl _ (HW.out.rowlt _ e)⟩
      have HK5 : Hid (Kept (fun x => x < w.heap.size) w (wr.alloc (.cells #[.int .i64 plo, .int .i64 phi, .int .i64 pg] 30))) := HK.out.trans (kV.mono (fun _ _ _ => trivial))
      clear kV z0 z1 z2 HK
      generalize hw5 : wr.alloc (.cells #[.int .i64 plo, .int .i64 phi, .int .i64 pg] 30) = w5 at *
      generalize wr.heap.size = V0 at hV hVB ⊢
      have hV5 := lt_of_block hV
      have hB5 := W5.lt
      clear hw5 HW
      refine Calls.mono (weight_any plo W5 (by omega)) ?_
      rintro e w6 ⟨rfl, G6, v6, h6, k6, n6⟩
      have hV6 := (k6.block V0 hV5 hVB).trans hV
      have l6 := lt_of_block hV6
      have hVB6 : V0 ≠ B ∧ G6 ≠ some V0 := ⟨hVB.1, fun e => by
        rcases n6 V0 e with h | h
        · exact hVB.2 h
        · omega⟩
      obtain ⟨a0, a1, a2⟩ := mthree_cell hV6
      have c7 := weight_any phi h6 (by simp [enc_length]; omega)
      clear hV W5 h6
      go_wp2_with fail
      refine Calls.mono c7 ?_
      rintro e w7 ⟨rfl, G7, v7, h7, k7, n7⟩
      have hV7 := (k7.block V0 l6 hVB6).trans hV6
      obtain ⟨b0, b1, b2⟩ := mthree_cell hV7
      have c8 := weight_any pg h7 (by simp [enc_length]; omega)
      obtain ⟨k67, n67⟩ := grow_trans k6 n6 k7 n7
      clear a0 a1 a2 hV6 h7 k6 n6 k7 n7 c7
      go_wp2_with fail
      refine Calls.mono c8 ?_
      rintro e w8 ⟨rfl, G8, v8, h8, k8, n8⟩
      obtain ⟨k9, n9⟩ := grow_trans k67 n67 k8 n8
      have H8 : Hid (Wr w8 B G8 v8 nxt) := by
        show Wr _ _ _ _ _
        rw [HT.out]
        simpa [encPa, List.append_assoc] using h8
      have K8 : Hid (Kept (fun x => x < w.heap.size) w w8) := HK5.out.then k9 (fun i hi _ => ⟨by have := HB0.out; omega, fun e => by have := HN.out i e; omega⟩)
      have N8 : Hid (∀ x, G8 = some x → w.heap.size < x) := fun x hx => by
        rcases n9 x hx with h | h
        · exact HN.out x h
        · have := HB0.out; omega
      clear h8 k8 n8 k9 n9 k67 n67 c8 hV7 b0 b1 b2
      go_wp2_with fail
      go_roundw
      case rel => exact ⟨i + 1, G8, v8, by omega, by go_num, by rw [hnx]; exact H8.out, K8.out, N8.out⟩
      case measure => simp [intOf]; omega
    · have hie : i = ps.length := by omega
      subst hie
      have HW' : Hid (Wr wr B G u sv) := by
        show Wr _ _ _ _ _
        rw [HS.out]
        exact HW.out
      clear HW
      have cd := done_any HW'.out (by omega)
      clear hlen
      go_wp2_with fail
      refine Calls.mono cd ?_
      rintro e w9 ⟨D, rfl, hD, kD, lD⟩
      go_wp2
      go_ret
      have k9 : Kept (fun _ => True) w wr := HK.out.mono (fun i hi _ => hi)
      exact ⟨D, rfl, hD, k9.trans kD, Nat.le_trans k9.size lD⟩

end Go.Proofs.Ytclgdgdponoomaa
