/-
  A transaction: Save.
-/
import Derived.Test.YtebpkhemkdgbjaaYN
import Derived.Test.YtebpkhemkdgbjaaXWr1
import Derived.Test.YtebpkhemkdgbjaaXNew
import Derived.Test.YtebpkhemkdgbjaaXRd6
import Derived.Test.YtebpkhemkdgbjaaBack
namespace Go.Proofs.Ytebpkhemkdgbjaa
open Go.RowKit

def encS (s : List UInt8) : List UInt8 := enc (u64 s.length) 4 ++ s
theorem encS_length (s : List UInt8) : (encS s).length = 4 + s.length := by simp [encS, enc_length]
def bit (b : Bool) : Int := if b then 1 else 0
def encG (s : B3) (m : Nat) : List UInt8 := (List.range m).flatMap fun g => enc (u64 (bit (s.at g))) 1
theorem encG_zero (s : B3) : encG s 0 = [] := rfl
theorem encG_succ (s : B3) (m : Nat) : encG s (m + 1) = encG s m ++ enc (u64 (bit (s.at m))) 1 := by
  unfold encG
  rw [List.range_succ, List.flatMap_append]
  simp
theorem encG_length (s : B3) : ∀ m, (encG s m).length = m
  | 0 => rfl
  | m + 1 => by rw [encG_succ, List.length_append, encG_length s m, enc_length]
def encO (ow : List Nat) : List UInt8 := ow.flatMap fun (g : Nat) => enc (u64 (g : Int)) 1
theorem encO_length (ow : List Nat) : (encO ow).length = ow.length := by
  induction ow with
  | nil => rfl
  | cons g ow ih =>
    have : encO (g :: ow) = enc (u64 (g : Int)) 1 ++ encO ow := rfl
    rw [this, List.length_append, ih, enc_length, List.length_cons]
    omega
theorem encO_snoc (ow : List Nat) (g : Nat) : encO (ow ++ [g]) = encO ow ++ enc (u64 (g : Int)) 1 := by simp [encO]
def encT (vo : B3) : List Nat → List (List UInt8) → List UInt8
  | g :: ow, t :: tx => (if vo.at g = true then encS t else []) ++ encT vo ow tx
  | _, _ => []
theorem encT_snoc (vo : B3) (g : Nat) (t : List UInt8) : ∀ (ow : List Nat) (tx : List (List UInt8)), ow.length = tx.length → encT vo (ow ++ [g]) (tx ++ [t]) = encT vo ow tx ++ (if vo.at g = true then encS t else [])
  | [], [], _ => by simp [encT]
  | [], _ :: _, h => by simp at h
  | _ :: _, [], h => by simp at h
  | o :: ow, x :: tx, h => by
    rw [List.cons_append, List.cons_append, encT, encT_snoc vo g t ow tx (by simpa using h), encT, List.append_assoc]
theorem encT_take (vo : B3) (ow : List Nat) (tx : List (List UInt8)) (h : ow.length = tx.length) (k : Nat) (h1 : k < ow.length) (h2 : k < tx.length) : encT vo (ow.take (k + 1)) (tx.take (k + 1)) = encT vo (ow.take k) (tx.take k) ++ (if vo.at ow[k] = true then encS tx[k] else []) := by
  rw [List.take_succ_eq_append_getElem h1, List.take_succ_eq_append_getElem h2, encT_snoc _ _ _ _ _ (by simp; omega)]
theorem encT_most (vo : B3) : ∀ (ow : List Nat) (tx : List (List UInt8)) (k : Nat), ow.length = tx.length → (encT vo (ow.take k) (tx.take k)).length ≤ (encT vo ow tx).length
  | [], [], k, _ => by simp [encT]
  | [], _ :: _, _, h => by simp at h
  | _ :: _, [], _, h => by simp at h
  | o :: ow, x :: tx, 0, _ => by simp [encT]
  | o :: ow, x :: tx, k + 1, h => by
    have := encT_most vo ow tx k (by simpa using h)
    simp only [List.take_succ_cons, encT, List.length_append]
    omega
def headT (z : Tn) : List UInt8 := enc (u64 z.oc) 1 ++ enc (u64 z.ow.length) 4
def savedT (z : Tn) : List UInt8 := headT z ++ encO z.ow ++ encG z.vo 3 ++ encG z.dn 3 ++ encT z.vo z.ow z.tx ++ enc (u64 z.ar) 8 ++ enc (u64 z.wy) 8
theorem headT_length (z : Tn) : (headT z).length = 5 := by simp [headT, enc_length]
theorem savedT_length (z : Tn) : (savedT z).length = 27 + z.ow.length + (encT z.vo z.ow z.tx).length := by
  simp only [savedT, List.length_append, headT_length, encO_length, encG_length, enc_length]
  omega

/-- A writer that was made behind w0, and what it has written. -/
structure Ws (w0 w : World) (B : Nat) (bs : List UInt8) : Prop where
  wr : ∃ G v, Wr w B G v bs ∧ ∀ x, G = some x → w0.heap.size ≤ x
  kept : Kept (fun x => x < w0.heap.size) w0 w
  b0 : w0.heap.size ≤ B
theorem Ws.step {w0 w w' : World} {B : Nat} {bs' : List UInt8} {G : Option Nat} (hk : Kept (fun x => x < w0.heap.size) w0 w) (hb : w0.heap.size ≤ B) (hG : ∀ x, G = some x → w0.heap.size ≤ x) (h : ∃ G' v', Wr w' B G' v' bs' ∧ Kept (fun x => x ≠ B ∧ G ≠ some x) w w' ∧ (∀ x, G' = some x → G = some x ∨ w.heap.size ≤ x)) : Ws w0 w' B bs' := by
  obtain ⟨G', v', h1, k, n⟩ := h
  refine ⟨⟨G', v', h1, fun x hx => ?_⟩, hk.then k (fun i hi _ => ⟨by omega, fun e => by have := hG i e; omega⟩), hb⟩
  rcases n x hx with q | q
  · exact hG x q
  · exact Nat.le_trans hk.size q
theorem Ws.all {w0 w w' : World} {B : Nat} {bs : List UInt8} (h : Ws w0 w B bs) (k : Kept (fun _ => True) w w') : Ws w0 w' B bs := by
  obtain ⟨G, v, h1, h2⟩ := h.wr
  exact ⟨⟨G, v, h1.kept k trivial (fun _ _ => trivial), h2⟩, h.kept.then k (fun _ _ _ => trivial), h.b0⟩
/-- What a call that writes leaves. -/
def EWs (w0 : World) (B : Nat) (bs : List UInt8) (e : Ending) (w' : World) : Prop := e = .returned (.tuple #[]) ∧ Ws w0 w' B bs
theorem Ws.byte {w0 w : World} {B : Nat} {bs : List UInt8} (h : Ws w0 w B bs) (n : Int) (hb : (bs.length : Int) + 1 ≤ 140737488355328) :
    Calls Try.prog 57 #[.pointer (some ⟨B, 0, none⟩), .int .i64 n] w fun e w' => EWs w0 B (bs ++ enc (u64 n) 1) e w' := by
  obtain ⟨G, v, h1, h2⟩ := h.wr
  exact (wbyte_any n h1 hb).mono fun e w' ⟨he, hw⟩ => ⟨he, Ws.step h.kept h.b0 h2 hw⟩
theorem Ws.four {w0 w : World} {B : Nat} {bs : List UInt8} (h : Ws w0 w B bs) (n : Int) (hb : (bs.length : Int) + 4 ≤ 140737488355328) :
    Calls Try.prog 58 #[.pointer (some ⟨B, 0, none⟩), .int .i64 n] w fun e w' => EWs w0 B (bs ++ enc (u64 n) 4) e w' := by
  obtain ⟨G, v, h1, h2⟩ := h.wr
  exact (wfour_any n h1 hb).mono fun e w' ⟨he, hw⟩ => ⟨he, Ws.step h.kept h.b0 h2 hw⟩
theorem Ws.eight {w0 w : World} {B : Nat} {bs : List UInt8} (h : Ws w0 w B bs) (n : Int) (hb : (bs.length : Int) + 8 ≤ 140737488355328) :
    Calls Try.prog 61 #[.pointer (some ⟨B, 0, none⟩), .int .i64 n] w fun e w' => EWs w0 B (bs ++ enc (u64 n) 8) e w' := by
  obtain ⟨G, v, h1, h2⟩ := h.wr
  exact (weight_any n h1 hb).mono fun e w' ⟨he, hw⟩ => ⟨he, Ws.step h.kept h.b0 h2 hw⟩
theorem Ws.text {w0 w : World} {B : Nat} {bs : List UInt8} (h : Ws w0 w B bs) (s : List UInt8) (hb : (bs.length : Int) + 4 + s.length ≤ 140737488355328) :
    Calls Try.prog 60 #[.pointer (some ⟨B, 0, none⟩), .string ⟨s.toArray⟩] w fun e w' => EWs w0 B (bs ++ encS s) e w' := by
  obtain ⟨G, v, h1, h2⟩ := h.wr
  have hs : (⟨s.toArray⟩ : ByteArray).size = s.length := by simp [ByteArray.size]
  have := wtext_any ⟨s.toArray⟩ h1 (by rw [hs]; exact hb)
  rw [hs] at this
  exact this.mono fun e w' ⟨he, hw⟩ => ⟨he, Ws.step h.kept h.b0 h2 (by simpa [encS] using hw)⟩

set_option maxRecDepth 100000 in
set_option maxHeartbeats 1000000 in
theorem Ws.groups {w0 w : World} {B : Nat} {bs : List UInt8} (h : Ws w0 w B bs) (s : B3) (hb : (bs.length : Int) + 3 ≤ 140737488355328) :
    Calls Try.prog 59 #[.pointer (some ⟨B, 0, none⟩), .agg #[.bool s.a, .bool s.b, .bool s.c]] w fun e w' => EWs w0 B (bs ++ encG s 3) e w' := by
  have hX := Ba.made w s
  have kX : Kept (fun _ => True) w (w.alloc (.cells #[.bool s.a, .bool s.b, .bool s.c] 81)) := (Kept.refl _ _).alloc _
  obtain ⟨a0, a1, a2⟩ := hX.cells3
  have H : Hid (Ws w0 (w.alloc (.cells #[.bool s.a, .bool s.b, .bool s.c] 81)) B bs) := h.all kX
  have HB : Hid ((bs.length : Int) + 3 ≤ 140737488355328) := hb
  clear hX kX h hb
  go_enter Try.func59, Try.ntmps59
  go_wp2_with fail
  generalize w.alloc (.cells #[.bool s.a, .bool s.b, .bool s.c] 81) = w1 at *
  go_loopw [7] (fun t wr => ∃ i : Nat, i ≤ 3 ∧ t = .int .i64 i ∧ Ws w0 wr B (bs ++ encG s i)) (fun t _ => 3 - (intOf t).toNat)
  case atStart => exact ⟨0, by omega, rfl, by rw [encG_zero, List.append_nil]; exact H.out⟩
  case round =>
    obtain ⟨i, hi, rfl, hw⟩ := hrel
    clear H a0 a1 a2
    by_cases hlt : i < 3
    · have hx := index_b3 s i hlt
      have hlen : (bs ++ encG s i).length = bs.length + i := by rw [List.length_append, encG_length]
      have HS : Hid (bs ++ encG s (i + 1) = bs ++ encG s i ++ enc (u64 (bit (s.at i))) 1) := by
        show _ = _
        rw [encG_succ, List.append_assoc]
      have c := hw.byte (bit (s.at i)) (by rw [hlen]; have := HB.out; omega)
      have i1 : (i : Int) < 3 := by omega
      have i0 : (0 : Int) ≤ (i : Int) := by omega
      clear hlen
      generalize s.at i = r at *
      clear hw
      cases r
      · have c : Calls Try.prog 57 #[.pointer (some ⟨B, 0, none⟩), .int .i64 0] wr _ := c
        go_wp2_with (go_at_call 57; (with_reducible refine Calls.mono c ?_); rintro e w3 ⟨rfl, h3⟩; have H3 : Hid (Ws w0 w3 B (bs ++ encG s i ++ enc (u64 (bit false)) 1)) := h3; clear h3)
        go_roundw
        case rel => exact ⟨i + 1, by omega, by go_num, by rw [HS.out]; exact H3.out⟩
        case measure => simp [intOf]; omega
      · have c : Calls Try.prog 57 #[.pointer (some ⟨B, 0, none⟩), .int .i64 1] wr _ := c
        go_wp2_with (go_at_call 57; (with_reducible refine Calls.mono c ?_); rintro e w3 ⟨rfl, h3⟩; have H3 : Hid (Ws w0 w3 B (bs ++ encG s i ++ enc (u64 (bit true)) 1)) := h3; clear h3)
        go_roundw
        case rel => exact ⟨i + 1, by omega, by go_num, by rw [HS.out]; exact H3.out⟩
        case measure => simp [intOf]; omega
    · have hie : i = 3 := by omega
      subst hie
      go_wp2_with fail
      go_end0
      exact ⟨rfl, hw⟩

end Go.Proofs.Ytebpkhemkdgbjaa

namespace Go.Proofs.Ytebpkhemkdgbjaa
open Go.RowKit

theorem Ws.done {w0 w : World} {B : Nat} {bs : List UInt8} (h : Ws w0 w B bs) (hb : (bs.length : Int) ≤ 140737488355328) :
    Calls Try.prog 62 #[.pointer (some ⟨B, 0, none⟩)] w fun e w' => ∃ D, e = .returned (.slice (some ⟨D, 0, none⟩) bs.length bs.length) ∧ w'.heap[D]? = some (.cells (cells bs).toArray 5 (0, 0)) ∧ Kept (fun _ => True) w w' ∧ w.heap.size ≤ D := by
  obtain ⟨G, v, h1, h2⟩ := h.wr
  exact done_any h1 hb

set_option maxRecDepth 100000 in
set_option maxHeartbeats 2000000 in
theorem save_txn {w : World} {b T : Nat} {ov tv : Value} {z : Tn} (h : Tm w b T ov tv z) (hb : ((savedT z).length : Int) ≤ 140737488355328) :
    Calls Try.prog 31 #[.pointer (some ⟨T, 0, none⟩)] w fun e w' => ∃ D, e = .returned (.slice (some ⟨D, 0, none⟩) (savedT z).length (savedT z).length) ∧ w'.heap[D]? = some (.cells (cells (savedT z)).toArray 5 (0, 0)) ∧ Kept (fun _ => True) w w' ∧ w.heap.size ≤ D := by
  have H : Hid (Tm w b T ov tv z) := h
  obtain ⟨oo, oc, rfl⟩ := h.ow.shape
  obtain ⟨xo, xc, rfl, -, -⟩ := h.tx.shape
  have hlen := savedT_length z
  have hf := h.few
  have HLen : Hid (z.tx.length = z.ow.length) := h.len
  have HS : Hid (savedT z = headT z ++ encO z.ow ++ encG z.vo 3 ++ encG z.dn 3 ++ encT z.vo z.ow z.tx ++ enc (u64 z.ar) 8 ++ enc (u64 z.wy) 8) := rfl
  generalize savedT z = sv at *
  clear h
  go_enter Try.func31, Try.ntmps31
  go_wp2_with (go_at_call 56; (with_reducible refine Calls.mono newWriter_any ?_); rintro e w2 ⟨rfl, h2, k2, l2⟩; have W2 : Ws w w2 w.heap.size [] := ⟨⟨none, _, h2, by simp⟩, k2.mono (fun _ _ _ => trivial), Nat.le_refl _⟩; have HW2 : Hid (Ws w w2 w.heap.size []) := W2; obtain ⟨q0, q1, q8, -⟩ := (H.out.old W2.kept).c; have c2 := W2.byte z.oc (by simp); clear W2 h2 k2 l2)
  go_wp2_with (go_at_call 57; (with_reducible refine Calls.mono c2 ?_); rintro e w3 ⟨rfl, h3⟩; have HW3 : Hid (Ws w w3 w.heap.size ([] ++ enc (u64 z.oc) 1)) := h3; obtain ⟨r0, r1, r8, -⟩ := (H.out.old h3.kept).c; have c3 := h3.four z.ow.length (by simp [enc_length]); clear h3 c2)
  go_wp2_with (go_at_call 58; (with_reducible refine Calls.mono c3 ?_); rintro e w4 ⟨rfl, h4⟩; have HW4 : Hid (Ws w w4 w.heap.size (headT z)) := h4; obtain ⟨s0, s1, s8, -⟩ := (H.out.old h4.kept).c; clear h4 c3)
  clear q0 q1 q8 r0 r1 r8 HW2 HW3
  have HB : Hid (w.heap.size = w.heap.size) := rfl
  go_loopw [27] (fun t wr => ∃ k : Nat, k ≤ z.ow.length ∧ t = .int .i64 k ∧ Ws w wr w.heap.size (headT z ++ encO (z.ow.take k))) (fun t _ => z.ow.length - (intOf t).toNat)
  case atStart => exact ⟨0, Nat.zero_le _, rfl, by simpa [encO] using HW4.out⟩
  case round =>
    obtain ⟨k, hk, rfl, hw⟩ := hrel
    have HW : Hid (Ws w wr w.heap.size (headT z ++ encO (z.ow.take k))) := hw
    clear hw HW4 s0 s1 s8
    have i0 : (0 : Int) ≤ (k : Int) := by omega
    by_cases hlt : k < z.ow.length
    · obtain ⟨gp, rfl, q1⟩ := (H.out.old HW.out.kept).ow.at k hlt
      have i1 : (k : Int) < (z.ow.length : Int) := by omega
      have HE : Hid (headT z ++ encO (z.ow.take (k + 1)) = headT z ++ encO (z.ow.take k) ++ enc (u64 (z.ow[k] : Int)) 1) := by
        show _ = _
        rw [List.take_succ_eq_append_getElem hlt, encO_snoc, List.append_assoc]
      have c := HW.out.byte (z.ow[k] : Int) (by rw [List.length_append, headT_length, encO_length, List.length_take]; omega)
      generalize z.ow[k] = y at *
      go_wp2_with (go_at_call 57; (with_reducible refine Calls.mono c ?_); rintro e w5 ⟨rfl, h5⟩; have HW5 : Hid (Ws w w5 w.heap.size (headT z ++ encO (z.ow.take k) ++ enc (u64 (y : Int)) 1)) := h5; clear h5 c)
      go_roundw
      case rel => exact ⟨k + 1, by omega, by go_num, by rw [HE.out]; exact HW5.out⟩
      case measure => simp [intOf]; omega
    · have hke : k = z.ow.length := by omega
      subst hke
      have HW6 : Hid (Ws w wr w.heap.size (headT z ++ encO z.ow)) := by
        have := HW.out
        rw [List.take_length] at this
        exact this
      obtain ⟨v2, v3, v4⟩ := (H.out.old HW6.out.kept).cv
      have c7 := HW6.out.groups z.vo (by rw [List.length_append, headT_length, encO_length]; omega)
      clear HW
      obtain ⟨wo, ewo⟩ : ∃ x, x = wr := ⟨_, rfl⟩
      subst ewo
      go_wp2_with (go_at_call 59; (with_reducible refine Calls.mono c7 ?_); rintro e w7 ⟨rfl, h7⟩; have HW7 : Hid (Ws w w7 w.heap.size (headT z ++ encO z.ow ++ encG z.vo 3)) := h7; obtain ⟨d5, d6, d7⟩ := (H.out.old h7.kept).cd; have c8 := h7.groups z.dn (by rw [List.length_append, List.length_append, headT_length, encO_length, encG_length]; omega); clear h7 c7)
      go_wp2_with (go_at_call 59; (with_reducible refine Calls.mono c8 ?_); rintro e w8 ⟨rfl, h8⟩; have HW8 : Hid (Ws w w8 w.heap.size (headT z ++ encO z.ow ++ encG z.vo 3 ++ encG z.dn 3)) := h8; obtain ⟨s0, s1, s8, -⟩ := (H.out.old h8.kept).c; clear h8 c8)
      clear d5 d6 d7 v2 v3 v4 HW6 HW7
      have hpl : (headT z ++ encO z.ow ++ encG z.vo 3 ++ encG z.dn 3).length = 11 + z.ow.length := by simp only [List.length_append, headT_length, encO_length, encG_length]; omega
      generalize hpre : headT z ++ encO z.ow ++ encG z.vo 3 ++ encG z.dn 3 = pre at *
      go_loopw [52] (fun t wr => ∃ k : Nat, k ≤ z.ow.length ∧ t = .int .i64 k ∧ Ws w wr w.heap.size (pre ++ encT z.vo (z.ow.take k) (z.tx.take k))) (fun t _ => z.ow.length - (intOf t).toNat)
      case atStart => exact ⟨0, Nat.zero_le _, rfl, by simpa [encT] using HW8.out⟩
      case round =>
      obtain ⟨k, hk, rfl, hw⟩ := hrel
      have HW : Hid (Ws w wr w.heap.size (pre ++ encT z.vo (z.ow.take k) (z.tx.take k))) := hw
      clear hw HW8 s0 s1 s8
      have i0 : (0 : Int) ≤ (k : Int) := by omega
      by_cases hlt : k < z.ow.length
      · have HTm : Hid (Tm wr b T (.slice oo z.ow.length oc) (.slice xo z.tx.length xc) z) := H.out.old HW.out.kept
        obtain ⟨gp, rfl, q1⟩ := HTm.out.ow.at k hlt
        have hkx : k < z.tx.length := by have := HLen.out; omega
        have i1 : (k : Int) < (z.ow.length : Int) := by omega
        have i2 : (k : Int) < (z.tx.length : Int) := by omega
        have g3 := HTm.out.lt3 _ (List.getElem_mem hlt)
        have HE : Hid (pre ++ encT z.vo (z.ow.take (k + 1)) (z.tx.take (k + 1)) = pre ++ encT z.vo (z.ow.take k) (z.tx.take k) ++ (if z.vo.at z.ow[k] = true then encS z.tx[k] else [])) := by
          show _ = _
          rw [encT_take _ _ _ HLen.out.symm k hlt hkx, List.append_assoc]
        have hm1 := encT_most z.vo z.ow z.tx (k + 1) HLen.out.symm
        rw [encT_take _ _ _ HLen.out.symm k hlt hkx, List.length_append] at hm1
        have hm0 : (pre ++ encT z.vo (z.ow.take k) (z.tx.take k)).length = 11 + z.ow.length + (encT z.vo (z.ow.take k) (z.tx.take k)).length := by rw [List.length_append, hpl]
        have cv := b3_cell (s := 2) HTm.out.cv g3
        have hat : ∃ tg, xo = some ⟨tg, 0, none⟩ := by
          obtain ⟨ao9, cap9, e9, -, h9⟩ := HTm.out.tx.shape
          injection e9 with e91 e92 e93
          obtain ⟨g9, h9⟩ := h9 (by omega)
          exact ⟨g9, e91.trans h9⟩
        obtain ⟨tg, rfl⟩ := hat
        have q2 := HTm.out.tx.cell k hkx
        obtain ⟨-, e1, -⟩ := HTm.out.c
        generalize z.tx[k] = x at *
        generalize z.ow[k] = y at *
        generalize z.vo.at y = r at *
        have j0 : (0 : Int) ≤ (y : Int) := by omega
        have j1 : (y : Int) < 3 := by omega
        cases r
        · have HE2 : Hid (pre ++ encT z.vo (z.ow.take (k + 1)) (z.tx.take (k + 1)) = pre ++ encT z.vo (z.ow.take k) (z.tx.take k)) := by
            show _ = _
            rw [HE.out]; simp
          clear HE hm1 hm0
          go_wp2_with fail
          go_roundw
          case rel => exact ⟨k + 1, by omega, by go_num, by rw [HE2.out]; exact HW.out⟩
          case measure => simp [intOf]; omega
        · have HE2 : Hid (pre ++ encT z.vo (z.ow.take (k + 1)) (z.tx.take (k + 1)) = pre ++ encT z.vo (z.ow.take k) (z.tx.take k) ++ encS x) := by
            show _ = _
            rw [HE.out]; simp
          simp only [if_true, encS_length] at hm1
          have c := HW.out.text x (by omega)
          clear HE hm1 hm0
          go_wp2_with (go_at_call 60; (with_reducible refine Calls.mono c ?_); rintro e w9 ⟨rfl, h9⟩; have HW9 : Hid (Ws w w9 w.heap.size (pre ++ encT z.vo (z.ow.take k) (z.tx.take k) ++ encS x)) := h9; clear h9 c)
          go_roundw
          case rel => exact ⟨k + 1, by omega, by go_num, by rw [HE2.out]; exact HW9.out⟩
          case measure => simp [intOf]; omega
      · have hke : k = z.ow.length := by omega
        subst hke
        have HW6 : Hid (Ws w wr w.heap.size (pre ++ encT z.vo z.ow z.tx)) := by
          have := HW.out
          rw [List.take_length, ← HLen.out, List.take_length] at this
          exact this
        have hm0 : (pre ++ encT z.vo z.ow z.tx).length = 11 + z.ow.length + (encT z.vo z.ow z.tx).length := by rw [List.length_append, hpl]
        obtain ⟨-, -, -, q9, q10⟩ := (H.out.old HW6.out.kept).c
        have c7 := HW6.out.eight z.ar (by omega)
        clear HW
        go_wp2_with (go_at_call 61; (with_reducible refine Calls.mono c7 ?_); rintro e w7 ⟨rfl, h7⟩; have HW7 : Hid (Ws w w7 w.heap.size (pre ++ encT z.vo z.ow z.tx ++ enc (Proofs.Ytebpkhemkdgbjaa.u64 z.ar) 8)) := h7; obtain ⟨-, -, -, r9, r10⟩ := (H.out.old h7.kept).c; have c8 := h7.eight z.wy (by rw [List.length_append, enc_length]; omega); clear h7 c7)
        go_wp2_with (go_at_call 61; (with_reducible refine Calls.mono c8 ?_); rintro e w8 ⟨rfl, h8⟩; have W8 : Ws w w8 w.heap.size sv := by { rw [HS.out]; exact h8 }; have HW8 : Hid (Ws w w8 w.heap.size sv) := W8; have c9 := W8.done hb; clear h8 c8 W8)
        clear hlen
        go_wp2_with (go_at_call 62; (with_reducible refine Calls.mono c9 ?_); rintro e w9 ⟨D, rfl, hD, kD, lD⟩)
        go_ret
        have k9 : Kept (fun _ => True) w w8 := HW8.out.kept.mono (fun i hi _ => hi)
        exact ⟨D, rfl, hD, k9.trans kD, Nat.le_trans k9.size lD⟩

end Go.Proofs.Ytebpkhemkdgbjaa

namespace Go.Proofs.Ytebpkhemkdgbjaa
open Go.RowKit

def B3.put (s : B3) (b : Bool) : Nat → B3
  | 0 => ⟨b, s.b, s.c⟩
  | 1 => ⟨s.a, b, s.c⟩
  | 2 => ⟨s.a, s.b, b⟩
  | _ => s
theorem B3.at_put (s : B3) (b : Bool) (g i : Nat) (hg : g < 3) : (s.put b g).at i = if i = g then b else s.at i := by
  have hc : g = 0 ∨ g = 1 ∨ g = 2 := by omega
  rcases hc with rfl | rfl | rfl
  · match i with
    | 0 => rfl
    | 1 => rfl
    | 2 => rfl
    | n + 3 => simp [B3.at]
  · match i with
    | 0 => rfl
    | 1 => rfl
    | 2 => rfl
    | n + 3 => simp [B3.at]
  · match i with
    | 0 => rfl
    | 1 => rfl
    | 2 => rfl
    | n + 3 => simp [B3.at]
/-- The owners that are read. -/
def rOw (bs : List UInt8) : Nat → RS → List Nat → List Nat × RS
  | 0, s, xs => (xs, s)
  | k + 1, s, xs => if 3 ≤ (s.num bs 1).1 then ([], (s.num bs 1).2.fail 12) else rOw bs k (s.num bs 1).2 (xs ++ [(s.num bs 1).1])
/-- The first m groups that are read. -/
def rGr (bs : List UInt8) (s : RS) : Nat → B3 × RS
  | 0 => (B3.none, s)
  | m + 1 => ((rGr bs s m).1.put (((rGr bs s m).2.num bs 1).1 == 1) m, if 1 < ((rGr bs s m).2.num bs 1).1 then ((rGr bs s m).2.num bs 1).2.fail 12 else ((rGr bs s m).2.num bs 1).2)
/-- The texts of those who voted. -/
def rTx (bs : List UInt8) (vo : B3) : List Nat → RS → List (List UInt8) → List (List UInt8) × RS
  | [], s, xs => (xs, s)
  | g :: ow, s, xs => if vo.at g = true then rTx bs vo ow (s.text bs (s.left bs)).2 (xs ++ [(s.text bs (s.left bs)).1]) else rTx bs vo ow s (xs ++ [[]])
def isNull (l : List Nat) : Bool := match l with | [] => true | _ => false
theorem isNull_iff {l : List Nat} : isNull l = true ↔ l = [] := by cases l <;> simp [isNull]
def reasonP (z : Tn) : Bool := z.ar != 0 || z.wy != 0
/-- Whether calls lead to z. -/
def mayBeP (z : Tn) : Bool :=
  if z.ow = [] ∨ isNull (butG z.vo (memO z.ow) 3) = false ∨ isNull (butG z.dn (memO z.ow) 3) = false then false
  else if z.oc = 0 then !B3.eqv z.vo (memO z.ow) && (B3.eqv z.dn B3.none && !reasonP z)
  else if z.oc = 1 then B3.eqv z.vo (memO z.ow) && !reasonP z
  else if z.oc = 2 then B3.eqv z.vo B3.none && !reasonP z
  else if z.oc = 3 then B3.eqv z.vo B3.none && !passesP z.wy
  else false
/-- What is read, and where the reader stands behind it. -/
def rawL (bs : List UInt8) : Tn × RS :=
  let s0 : RS := ⟨0, 0⟩
  let r1 := s0.num bs 1
  let c := r1.2.count bs 4
  let o := rOw bs c.1 c.2 []
  let v := rGr bs o.2 3
  let d := rGr bs v.2 3
  let t := rTx bs v.1 o.1 d.2 []
  let a := t.2.num bs 8
  let y := a.2.num bs 8
  (⟨o.1, t.1, v.1, d.1, r1.1, i64 (a.1 : Nat), i64 (y.1 : Nat)⟩, y.2)
def loadT (bs : List UInt8) : Option Tn := if ((rawL bs).2.end_ bs).1 = 0 ∧ mayBeP (rawL bs).1 = true then some (rawL bs).1 else none

theorem ti64_u64 {n : Int} (h : -9223372036854775808 ≤ n ∧ n ≤ 9223372036854775807) : i64 (((u64 n).toNat % 256 ^ 8 : Nat)) = n := by
  have e : (256 : Nat) ^ 8 = 18446744073709551616 := by decide
  rw [e]
  unfold u64 i64
  simp only [IntKind.wrap, IntKind.bits, IntKind.signed, wrap64]
  simp
  omega
theorem tu64_nat {n : Nat} (h : n < 4294967296) : u64 n = n := by
  unfold u64
  simp [IntKind.wrap, IntKind.bits, IntKind.signed]
  omega
theorem num1_back (pre post : List UInt8) (n : Nat) (h : n < 256) : (⟨pre.length, 0⟩ : RS).num (pre ++ enc (u64 (n : Int)) 1 ++ post) 1 = (n, ⟨pre.length + 1, 0⟩) := by
  rw [num_back, tu64_nat (by omega)]
  simp only [Int.toNat_natCast]
  rw [Nat.mod_eq_of_lt (by omega)]
theorem len_enc (l : List UInt8) (n : Int) (k : Nat) : (l ++ enc n k).length = l.length + k := by rw [List.length_append, enc_length]
theorem bit_nat (b : Bool) : bit b = ((if b then 1 else 0 : Nat) : Int) := by cases b <;> rfl
theorem rOw_back : ∀ (ys xs : List Nat) (pre post : List UInt8), (∀ g ∈ ys, g < 3) → rOw (pre ++ encO ys ++ post) ys.length ⟨pre.length, 0⟩ xs = (xs ++ ys, ⟨(pre ++ encO ys).length, 0⟩)
  | [], xs, pre, post, _ => by simp [rOw, encO]
  | y :: ys, xs, pre, post, hf => by
    have e0 : encO (y :: ys) = enc (u64 (y : Int)) 1 ++ encO ys := rfl
    have q : pre ++ encO (y :: ys) ++ post = pre ++ enc (u64 (y : Int)) 1 ++ (encO ys ++ post) := by rw [e0]; simp
    have h3 := hf y (by simp)
    have er := num1_back pre (encO ys ++ post) y (by omega)
    rw [← q] at er
    have ih := rOw_back ys (xs ++ [y]) (pre ++ enc (u64 (y : Int)) 1) post (fun x hx => hf x (by simp [hx]))
    have q2 : pre ++ enc (u64 (y : Int)) 1 ++ encO ys ++ post = pre ++ encO (y :: ys) ++ post := by rw [e0]; simp
    have q3 : pre ++ enc (u64 (y : Int)) 1 ++ encO ys = pre ++ encO (y :: ys) := by rw [e0]; simp
    have q4 : (pre ++ enc (u64 (y : Int)) 1).length = pre.length + 1 := by rw [List.length_append, enc_length]
    rw [q2, q3, q4] at ih
    rw [List.length_cons, rOw, er]
    simp only
    rw [if_neg (by omega), ih]
    simp
theorem rGr_back (pre post : List UInt8) (s : B3) : ∀ m, m ≤ 3 → (rGr (pre ++ encG s 3 ++ post) ⟨pre.length, 0⟩ m).2 = ⟨(pre ++ encG s m).length, 0⟩ ∧ ∀ i, i < m → (rGr (pre ++ encG s 3 ++ post) ⟨pre.length, 0⟩ m).1.at i = s.at i
  | 0, _ => by
    refine ⟨by simp [rGr, encG_zero], fun i hi => by omega⟩
  | m + 1, hm => by
    obtain ⟨h1, h2⟩ := rGr_back pre post s m (by omega)
    have hsplit : ∃ rest, encG s 3 = encG s m ++ enc (u64 (bit (s.at m))) 1 ++ rest := by
      have hc : m = 0 ∨ m = 1 ∨ m = 2 := by omega
      rcases hc with rfl | rfl | rfl
      · exact ⟨enc (u64 (bit (s.at 1))) 1 ++ enc (u64 (bit (s.at 2))) 1, by rw [encG_succ, encG_succ, encG_succ, encG_zero]; simp⟩
      · exact ⟨enc (u64 (bit (s.at 2))) 1, by rw [encG_succ s 2, encG_succ s 1]⟩
      · exact ⟨[], by rw [encG_succ s 2]; simp⟩
    obtain ⟨rest, hs⟩ := hsplit
    have q : pre ++ encG s 3 ++ post = (pre ++ encG s m) ++ enc (u64 (bit (s.at m))) 1 ++ (rest ++ post) := by rw [hs]; simp
    have er := num1_back (pre ++ encG s m) (rest ++ post) (if s.at m then 1 else 0) (by split <;> omega)
    rw [← bit_nat, ← q] at er
    rw [rGr, h1, er]
    simp only
    refine ⟨?_, fun i hi => ?_⟩
    · rw [if_neg (by split <;> omega), encG_succ, ← List.append_assoc, len_enc]
    · rw [B3.at_put _ _ _ _ (by omega)]
      by_cases e : i = m
      · subst e
        rw [if_pos rfl]
        cases s.at i <;> rfl
      · rw [if_neg e]
        exact h2 i (by omega)
theorem rGr_whole (pre post : List UInt8) (s : B3) : rGr (pre ++ encG s 3 ++ post) ⟨pre.length, 0⟩ 3 = (s, ⟨(pre ++ encG s 3).length, 0⟩) := by
  obtain ⟨h1, h2⟩ := rGr_back pre post s 3 (Nat.le_refl _)
  exact Prod.ext (B3.ext h2) h1
theorem text_whole (pre post t : List UInt8) (h : t.length < 4294967296) : (⟨pre.length, 0⟩ : RS).text (pre ++ encS t ++ post) ((⟨pre.length, 0⟩ : RS).left (pre ++ encS t ++ post)) = (t, ⟨(pre ++ encS t).length, 0⟩) := by
  have q : pre ++ enc (t.length : Nat) 4 ++ t ++ post = pre ++ encS t ++ post := by
    unfold encS
    rw [tu64_nat h]
    simp
  have l : (pre ++ encS t).length = pre.length + 4 + t.length := by rw [List.length_append, encS_length]; omega
  have hleft : (t.length : Int) ≤ (⟨pre.length, 0⟩ : RS).left (pre ++ encS t ++ post) := by
    unfold RS.left leftOf
    rw [if_pos rfl, List.length_append, l]
    simp only
    omega
  have e := text_back pre post t _ h hleft
  rw [q] at e
  rw [e, l]
theorem rTx_back (vo : B3) : ∀ (ow : List Nat) (tx xs : List (List UInt8)) (pre post : List UInt8), ow.length = tx.length → (∀ t ∈ tx, t.length < 4294967296) → (∀ (k : Nat) (h1 : k < ow.length) (h2 : k < tx.length), vo.at ow[k] = false → tx[k] = []) →
    rTx (pre ++ encT vo ow tx ++ post) vo ow ⟨pre.length, 0⟩ xs = (xs ++ tx, ⟨(pre ++ encT vo ow tx).length, 0⟩)
  | [], [], xs, pre, post, _, _, _ => by simp [rTx, encT]
  | [], _ :: _, _, _, _, h, _, _ => by simp at h
  | _ :: _, [], _, _, _, h, _, _ => by simp at h
  | g :: ow, t :: tx, xs, pre, post, hl, hs, he => by
    have ih := rTx_back vo ow tx
    by_cases hv : vo.at g = true
    · have e0 : encT vo (g :: ow) (t :: tx) = encS t ++ encT vo ow tx := by rw [encT, if_pos hv]
      have q : pre ++ encT vo (g :: ow) (t :: tx) ++ post = pre ++ encS t ++ (encT vo ow tx ++ post) := by rw [e0]; simp
      have er := text_whole pre (encT vo ow tx ++ post) t (hs t (by simp))
      rw [← q] at er
      have ih := ih (xs ++ [t]) (pre ++ encS t) post (by simpa using hl) (fun x hx => hs x (by simp [hx])) (fun k h1 h2 h => by
        have := he (k + 1) (by simp; omega) (by simp; omega) (by simpa using h)
        simpa using this)
      have q2 : pre ++ encS t ++ encT vo ow tx ++ post = pre ++ encT vo (g :: ow) (t :: tx) ++ post := by rw [e0]; simp
      have q3 : pre ++ encS t ++ encT vo ow tx = pre ++ encT vo (g :: ow) (t :: tx) := by rw [e0]; simp
      rw [q2, q3] at ih
      rw [rTx, if_pos hv, er]
      simp only
      rw [ih]
      simp
    · have e0 : encT vo (g :: ow) (t :: tx) = encT vo ow tx := by rw [encT, if_neg hv]; simp
      have ht := he 0 (by simp) (by simp) (by simpa using hv)
      simp only [List.getElem_cons_zero] at ht
      subst ht
      have ih := ih (xs ++ [[]]) pre post (by simpa using hl) (fun x hx => hs x (by simp [hx])) (fun k h1 h2 h => by
        have := he (k + 1) (by simp; omega) (by simp; omega) (by simpa using h)
        simpa using this)
      rw [rTx, if_neg hv, e0, ih]
      simp

/-- A transaction that calls lead to, and that can be saved. -/
structure OkT (z : Tn) : Prop where
  len : z.tx.length = z.ow.length
  lt3 : ∀ g ∈ z.ow, g < 3
  few : z.ow.length ≤ 4
  may : mayBeP z = true
  none_ : ∀ (k : Nat) (h1 : k < z.ow.length) (h2 : k < z.tx.length), z.vo.at z.ow[k] = false → z.tx[k] = []
  ar : -9223372036854775808 ≤ z.ar ∧ z.ar ≤ 9223372036854775807
  wy : -9223372036854775808 ≤ z.wy ∧ z.wy ≤ 9223372036854775807
theorem mayBe_oc {z : Tn} (h : mayBeP z = true) : z.oc = 0 ∨ z.oc = 1 ∨ z.oc = 2 ∨ z.oc = 3 := by
  unfold mayBeP at h
  split at h
  · cases h
  · split at h
    · exact .inl (by assumption)
    · split at h
      · exact .inr (.inl (by assumption))
      · split at h
        · exact .inr (.inr (.inl (by assumption)))
        · split at h
          · exact .inr (.inr (.inr (by assumption)))
          · cases h
theorem load_savedT {z : Tn} (h : OkT z) (hs : ∀ t ∈ z.tx, t.length < 4294967296) : loadT (savedT z) = some z := by
  have hoc := mayBe_oc h.may
  obtain ⟨oc, eoc, hoc4⟩ : ∃ oc : Nat, z.oc = (oc : Int) ∧ oc < 256 := ⟨z.oc.toNat, by omega, by omega⟩
  have hn : z.ow.length < 4294967296 := by have := h.few; omega
  have e1 := num1_back [] (enc (u64 z.ow.length) 4 ++ (encO z.ow ++ encG z.vo 3 ++ encG z.dn 3 ++ encT z.vo z.ow z.tx ++ enc (u64 z.ar) 8 ++ enc (u64 z.wy) 8)) oc hoc4
  have q1 : [] ++ enc (u64 (oc : Int)) 1 ++ (enc (u64 z.ow.length) 4 ++ (encO z.ow ++ encG z.vo 3 ++ encG z.dn 3 ++ encT z.vo z.ow z.tx ++ enc (u64 z.ar) 8 ++ enc (u64 z.wy) 8)) = savedT z := by
    rw [savedT, headT, eoc]; simp
  rw [q1] at e1
  have e2 := count_back (enc (u64 z.oc) 1) (encO z.ow ++ encG z.vo 3 ++ encG z.dn 3 ++ encT z.vo z.ow z.tx ++ enc (u64 z.ar) 8 ++ enc (u64 z.wy) 8) z.ow.length 4 hn (by have := h.few; omega)
  have q2 : enc (u64 z.oc) 1 ++ enc (z.ow.length : Nat) 4 ++ (encO z.ow ++ encG z.vo 3 ++ encG z.dn 3 ++ encT z.vo z.ow z.tx ++ enc (u64 z.ar) 8 ++ enc (u64 z.wy) 8) = savedT z := by
    rw [savedT, headT, tu64_nat hn]; simp
  rw [q2, enc_length] at e2
  have e3 := rOw_back z.ow [] (headT z) (encG z.vo 3 ++ encG z.dn 3 ++ encT z.vo z.ow z.tx ++ enc (u64 z.ar) 8 ++ enc (u64 z.wy) 8) h.lt3
  have q3 : headT z ++ encO z.ow ++ (encG z.vo 3 ++ encG z.dn 3 ++ encT z.vo z.ow z.tx ++ enc (u64 z.ar) 8 ++ enc (u64 z.wy) 8) = savedT z := by
    rw [savedT]; simp
  rw [q3, headT_length, List.nil_append] at e3
  have e4 := rGr_whole (headT z ++ encO z.ow) (encG z.dn 3 ++ encT z.vo z.ow z.tx ++ enc (u64 z.ar) 8 ++ enc (u64 z.wy) 8) z.vo
  have q4 : headT z ++ encO z.ow ++ encG z.vo 3 ++ (encG z.dn 3 ++ encT z.vo z.ow z.tx ++ enc (u64 z.ar) 8 ++ enc (u64 z.wy) 8) = savedT z := by
    rw [savedT]; simp
  rw [q4] at e4
  have e5 := rGr_whole (headT z ++ encO z.ow ++ encG z.vo 3) (encT z.vo z.ow z.tx ++ enc (u64 z.ar) 8 ++ enc (u64 z.wy) 8) z.dn
  have q5 : headT z ++ encO z.ow ++ encG z.vo 3 ++ encG z.dn 3 ++ (encT z.vo z.ow z.tx ++ enc (u64 z.ar) 8 ++ enc (u64 z.wy) 8) = savedT z := by
    rw [savedT]; simp
  rw [q5] at e5
  have e6 := rTx_back z.vo z.ow z.tx [] (headT z ++ encO z.ow ++ encG z.vo 3 ++ encG z.dn 3) (enc (u64 z.ar) 8 ++ enc (u64 z.wy) 8) h.len.symm hs h.none_
  have q6 : headT z ++ encO z.ow ++ encG z.vo 3 ++ encG z.dn 3 ++ encT z.vo z.ow z.tx ++ (enc (u64 z.ar) 8 ++ enc (u64 z.wy) 8) = savedT z := by
    rw [savedT]; simp
  rw [q6, List.nil_append] at e6
  have e7 := num_back (headT z ++ encO z.ow ++ encG z.vo 3 ++ encG z.dn 3 ++ encT z.vo z.ow z.tx) (enc (u64 z.wy) 8) (u64 z.ar) 8
  have q7 : headT z ++ encO z.ow ++ encG z.vo 3 ++ encG z.dn 3 ++ encT z.vo z.ow z.tx ++ enc (u64 z.ar) 8 ++ enc (u64 z.wy) 8 = savedT z := rfl
  rw [q7] at e7
  have e8 := num_back (headT z ++ encO z.ow ++ encG z.vo 3 ++ encG z.dn 3 ++ encT z.vo z.ow z.tx ++ enc (u64 z.ar) 8) [] (u64 z.wy) 8
  rw [List.append_nil, q7, len_enc] at e8
  have hlen : (savedT z).length = (headT z ++ encO z.ow ++ encG z.vo 3 ++ encG z.dn 3 ++ encT z.vo z.ow z.tx).length + 8 + 8 := by
    rw [← q7, len_enc, len_enc]
  have hraw : rawL (savedT z) = (z, ⟨(savedT z).length, 0⟩) := by
    unfold rawL
    simp only [List.length_nil, Nat.zero_add] at e1
    simp only [e1, e2, e3, e4, e5, e6, e7, e8, hlen, ti64_u64 h.ar, ti64_u64 h.wy, ← eoc]
  unfold loadT
  rw [hraw, if_pos ⟨by simp [RS.end_], h.may⟩]

end Go.Proofs.Ytebpkhemkdgbjaa
