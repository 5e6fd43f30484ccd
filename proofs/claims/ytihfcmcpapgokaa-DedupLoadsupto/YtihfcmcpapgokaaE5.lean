/-
  Save.
-/
import Derived.Test.YtihfcmcpapgokaaE4
import Derived.Test.YtihfcmcpapgokaaXWr4
import Derived.Test.YtihfcmcpapgokaaXWr3
namespace Go.Proofs.Ytihfcmcpapgokaa
open Go.RowKit

def encText (s : List UInt8) : List UInt8 := enc (u64 s.length) 4 ++ s
def encLast (x : La) : List UInt8 := encText x.c ++ enc (u64 x.i) 8 ++ encText x.r
/-- A table as bytes. -/
def savedHead (m : Int) (n : Nat) : List UInt8 := enc (u64 m) 4 ++ enc (u64 n) 4
def saved (m : Int) (xs : List La) : List UInt8 := savedHead m xs.length ++ xs.flatMap encLast

theorem encText_length (s : List UInt8) : (encText s).length = 4 + s.length := by simp [encText, enc_length]
theorem encLast_length (x : La) : (encLast x).length = 16 + x.c.length + x.r.length := by
  unfold encLast
  rw [List.length_append, List.length_append, encText_length, encText_length, enc_length]
  omega
theorem savedHead_length (m : Int) (n : Nat) : (savedHead m n).length = 8 := by simp [savedHead, enc_length]
theorem saved_take {xs : List La} {i : Nat} (hi : i < xs.length) : (xs.take (i + 1)).flatMap encLast = (xs.take i).flatMap encLast ++ encLast xs[i] := by
  rw [List.take_succ_eq_append_getElem hi, List.flatMap_append, List.flatMap_singleton]
theorem saved_most {xs : List La} {i : Nat} (hi : i < xs.length) : ((xs.take i).flatMap encLast).length + (16 + xs[i].c.length + xs[i].r.length) ≤ (xs.flatMap encLast).length := by
  have e : xs.flatMap encLast = (xs.take (i + 1)).flatMap encLast ++ (xs.drop (i + 1)).flatMap encLast := by
    rw [← List.flatMap_append, List.take_append_drop]
  rw [e, saved_take hi]
  simp [encLast_length]

theorem wtext_l {w : World} {B : Nat} {G : Option Nat} {v : Value} {bs : List UInt8} (s : List UInt8) (h : Wr w B G v bs) (hb : (bs.length : Int) + 4 + s.length ≤ 140737488355328) :
    Calls Try.prog 28 #[.pointer (some ⟨B, 0, none⟩), .string ⟨s.toArray⟩] w fun e w' => e = .returned (.tuple #[]) ∧ ∃ G' v', Wr w' B G' v' (bs ++ encText s) ∧
      Kept (fun x => x ≠ B ∧ G ≠ some x) w w' ∧ (∀ x, G' = some x → G = some x ∨ w.heap.size ≤ x) := by
  have hs : (⟨s.toArray⟩ : ByteArray).size = s.length := by simp [ByteArray.size]
  have := wtext_any ⟨s.toArray⟩ h (by rw [hs]; exact hb)
  rw [hs] at this
  simpa [encText] using this

set_option maxRecDepth 100000 in
set_option maxHeartbeats 1000000 in
theorem save_any {w : World} {B0 : Nat} {v : Value} {m : Int} {xs : List La} (h : Pt w B0 v m xs) (hb : (saved m xs).length ≤ 140737488355328) :
    Calls Try.prog 12 #[.pointer (some ⟨B0, 0, none⟩)] w fun e w' => ∃ D, e = .returned (.slice (some ⟨D, 0, none⟩) (saved m xs).length (saved m xs).length) ∧ w'.heap[D]? = some (.cells (cells (saved m xs)).toArray 5 (0, 0)) ∧ Kept (fun _ => True) w w' ∧ w.heap.size ≤ D := by
  have HA : Hid (Pt w B0 v m xs) := h
  obtain ⟨ao, cap, rfl, -, -, hg⟩ := h.shape
  have GX : Hid (0 < xs.length → ∃ g, ao = some ⟨g, 0, none⟩) := hg
  have hX := h.most
  have hl : (saved m xs).length = 8 + (xs.flatMap encLast).length := by simp [saved, savedHead_length]
  rw [hl] at hb
  have HS : Hid (saved m xs = savedHead m xs.length ++ xs.flatMap encLast) := rfl
  generalize hsv : saved m xs = sv at *
  clear hsv h hg
  go_enter Try.func12, Try.ntmps12
  go_wp2_with fail
  refine Calls.mono newWriter_any ?_
  rintro e w2 ⟨rfl, h2, k2, l2⟩
  obtain ⟨c0, c1, f0, f1⟩ := two_cell (HA.out.all k2).self
  have HB : Hid (w.heap.size ≤ w.heap.size) := Nat.le_refl _
  generalize hBe : w.heap.size = B at h2 HB ⊢
  have hB0 : Hid (w.heap.size ≤ B) := Nat.le_of_eq hBe
  clear hBe HB
  have K2 : Hid (Kept (fun x => x < w.heap.size) w w2) := k2.mono (fun _ _ _ => trivial)
  have c3 := wfour_any m h2 (by simp)
  clear h2 k2 l2
  go_wp2_with fail
  refine Calls.mono c3 ?_
  rintro e w3 ⟨rfl, G3, v3, h3, k3, n3⟩
  have K3 : Hid (Kept (fun x => x < w.heap.size) w w3) := K2.out.then k3 (fun i hi _ => ⟨by have := hB0.out; omega, by simp⟩)
  have N3 : Hid (∀ x, G3 = some x → w.heap.size ≤ x) := fun x hx => by
    rcases n3 x hx with h | h
    · cases h
    · exact Nat.le_trans K2.out.size h
  have c4 := wfour_any xs.length h3 (by simp [enc_length])
  have P3 := HA.out.kept K3.out HA.out.lt HA.out.rowlt
  obtain ⟨d0, d1, -, -⟩ := two_cell P3.self
  have lt3 := P3.lt
  clear h3 k3 n3 K2 c3 c0 c1 f0 f1 P3
  go_wp2_with fail
  refine Calls.mono c4 ?_
  rintro e w4 ⟨rfl, G4, v4, h4, k4, n4⟩
  have K4 : Hid (Kept (fun x => x < w.heap.size) w w4) := K3.out.then k4 (fun i hi _ => ⟨by have := hB0.out; omega, fun e => by have := N3.out i e; omega⟩)
  have N4 : Hid (∀ x, G4 = some x → w.heap.size ≤ x) := fun x hx => by
    rcases n4 x hx with h | h
    · exact N3.out x h
    · exact Nat.le_trans K3.out.size h
  have H4 : Hid (Wr w4 B G4 v4 (savedHead m xs.length)) := by
    show Wr _ _ _ _ _
    have e : ([] ++ enc (u64 m) 4) ++ enc (u64 xs.length) 4 = savedHead m xs.length := rfl
    rw [← e]
    exact h4
  have P4 := HA.out.kept K4.out HA.out.lt HA.out.rowlt
  obtain ⟨e0, e1, -, -⟩ := two_cell P4.self
  have lt4 := P4.lt
  clear h4 k4 n4 K3 N3 c4 d0 d1 lt3 P4
  go_wp2_with fail
  go_loopw [25] (fun t wr => ∃ (i : Nat) (G : Option Nat) (u : Value), i ≤ xs.length ∧ t = .int .i64 i ∧ Wr wr B G u (savedHead m xs.length ++ (xs.take i).flatMap encLast) ∧ Kept (fun x => x < w.heap.size) w wr ∧ (∀ x, G = some x → w.heap.size ≤ x)) (fun t _ => xs.length - (intOf t).toNat)
  case atStart => exact ⟨0, G4, v4, Nat.zero_le _, rfl, by simpa using H4.out, K4.out, N4.out⟩
  case round =>
    obtain ⟨i, G, u, hi, rfl, hw, hk, hn⟩ := hrel
    have HW : Hid (Wr wr B G u (savedHead m xs.length ++ (xs.take i).flatMap encLast)) := hw
    have HK : Hid (Kept (fun x => x < w.heap.size) w wr) := hk
    have HN : Hid (∀ x, G = some x → w.heap.size ≤ x) := hn
    clear hw hk hn H4 K4 N4 e0 e1 lt4
    by_cases hlt : i < xs.length
    · obtain ⟨g, rfl⟩ := GX.out (by omega)
      obtain ⟨z0, z1, z2⟩ := lay_cells (HA.out.kept HK.out HA.out.lt HA.out.rowlt).own i hlt
      have hm := saved_most hlt
      have HT : Hid (savedHead m xs.length ++ (xs.take (i + 1)).flatMap encLast = savedHead m xs.length ++ (xs.take i).flatMap encLast ++ encLast xs[i]) := by
        show _ = _
        rw [saved_take hlt, List.append_assoc]
      have hpl : (savedHead m xs.length ++ (xs.take i).flatMap encLast).length = 8 + ((xs.take i).flatMap encLast).length := by simp [savedHead_length]
      generalize hnx : (savedHead m xs.length ++ (xs.take (i + 1)).flatMap encLast) = nxt at *
      generalize (savedHead m xs.length ++ (xs.take i).flatMap encLast) = cur at *
      generalize xs[i] = x at *
      have i1 : (i : Int) < (xs.length : Int) := by omega
      have i0 : (0 : Int) ≤ (i : Int) := by omega
      obtain ⟨xc, xi, xr⟩ := x
      simp only at z0 z1 z2 hm
      go_wp2_with fail
      have kV : Kept (fun _ => True) wr (wr.alloc (.cells #[.string ⟨xc.toArray⟩, .int .i64 xi, .string ⟨xr.toArray⟩] 54)) := (Kept.refl _ _).alloc _
      have hV := heap_alloc_new wr (.cells #[.string ⟨xc.toArray⟩, .int .i64 xi, .string ⟨xr.toArray⟩] 54)
      have W5 := HW.out.kept kV trivial (fun _ _ => trivial)
      have hVB : wr.heap.size ≠ B ∧ G ≠ some wr.heap.size := ⟨Ne.symm (Nat.ne_of_lt HW.out.lt), fun e => Nat.lt_irrefl _ (HW.out.rowlt _ e)⟩
      have hs5 := kV.size
      have HK5 : Hid (Kept (fun x => x < w.heap.size) w (wr.alloc (.cells #[.string ⟨xc.toArray⟩, .int .i64 xi, .string ⟨xr.toArray⟩] 54))) := HK.out.trans (kV.mono (fun _ _ _ => trivial))
      clear kV z0 z1 z2 HK
      generalize hw5 : wr.alloc (.cells #[.string ⟨xc.toArray⟩, .int .i64 xi, .string ⟨xr.toArray⟩] 54) = w5 at *
      generalize wr.heap.size = V0 at hV hVB ⊢
      have hV5 := lt_of_block hV
      clear hw5 hs5 HW
      refine Calls.mono (wtext_l xc W5 (by omega)) ?_
      rintro e w6 ⟨rfl, G6, v6, h6, k6, n6⟩
      have hV6 := (k6.block V0 hV5 hVB).trans hV
      have l6 := lt_of_block hV6
      have hVB6 : V0 ≠ B ∧ G6 ≠ some V0 := ⟨hVB.1, fun e => by
        rcases n6 V0 e with h | h
        · exact hVB.2 h
        · omega⟩
      obtain ⟨a0, a1, a2⟩ := three_cell hV6
      have c7 := weight_any xi h6 (by simp [encText_length]; omega)
      clear hV W5 h6
      go_wp2_with fail
      refine Calls.mono c7 ?_
      rintro e w7 ⟨rfl, G7, v7, h7, k7, n7⟩
      have hV7 := (k7.block V0 l6 hVB6).trans hV6
      obtain ⟨b0, b1, b2⟩ := three_cell hV7
      have c8 := wtext_l xr h7 (by simp [encText_length, enc_length]; omega)
      obtain ⟨k67, n67⟩ := grow_trans k6 n6 k7 n7
      clear a0 a1 a2 hV6 h7 k6 n6 k7 n7 c7
      go_wp2_with fail
      refine Calls.mono c8 ?_
      rintro e w8 ⟨rfl, G8, v8, h8, k8, n8⟩
      obtain ⟨k9, n9⟩ := grow_trans k67 n67 k8 n8
      have H8 : Hid (Wr w8 B G8 v8 nxt) := by
        show Wr _ _ _ _ _
        rw [HT.out]
        simpa [encLast, List.append_assoc] using h8
      have K8 : Hid (Kept (fun x => x < w.heap.size) w w8) := HK5.out.then k9 (fun i hi _ => ⟨by have := hB0.out; omega, fun e => by have := HN.out i e; omega⟩)
      have N8 : Hid (∀ x, G8 = some x → w.heap.size ≤ x) := fun x hx => by
        rcases n9 x hx with h | h
        · exact HN.out x h
        · exact Nat.le_trans HK5.out.size h
      clear h8 k8 n8 k9 n9 k67 n67 c8 hV7 b0 b1 b2
      go_wp2_with fail
      go_roundw
      case rel => exact ⟨i + 1, G8, v8, by omega, by go_num, by rw [hnx]; exact H8.out, K8.out, N8.out⟩
      case measure => simp [intOf]; omega
    · have hie : i = xs.length := by omega
      subst hie
      have HW' : Hid (Wr wr B G u sv) := by
        show Wr _ _ _ _ _
        have := HW.out
        rw [List.take_length, ← HS.out] at this
        exact this
      clear HW
      have cd := done_any HW'.out (by omega)
      clear hl
      go_wp2_with fail
      refine Calls.mono cd ?_
      rintro e w9 ⟨D, rfl, hD, kD, lD⟩
      go_wp2
      go_ret
      have k9 : Kept (fun _ => True) w wr := HK.out.mono (fun i hi _ => hi)
      exact ⟨D, rfl, hD, k9.trans kD, Nat.le_trans k9.size lD⟩

end Go.Proofs.Ytihfcmcpapgokaa
