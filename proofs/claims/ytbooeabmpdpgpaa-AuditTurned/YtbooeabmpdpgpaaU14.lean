/-
  audit's Text.
-/
import Derived.Test.YtbooeabmpdpgpaaU1
import Derived.Test.YtbooeabmpdpgpaaXWr1
import Derived.Test.YtbooeabmpdpgpaaXNew
import Derived.Deep.CutRange
namespace Go.Proofs.Ytbooeabmpdpgpaa
open Go.RowKit

/-- A record of any numbers. -/
structure Ui where
  k : Int
  tx : List UInt8
  gs : List Int
  bd : List UInt8
def encGi (gs : List Int) : List UInt8 := gs.flatMap fun g => enc (u64 g) 1
theorem encGi_snoc (gs : List Int) (g : Int) : encGi (gs ++ [g]) = encGi gs ++ enc (u64 g) 1 := by simp [encGi]
theorem encGi_len (gs : List Int) : (encGi gs).length = gs.length := by
  induction gs with
  | nil => rfl
  | cons g gs ih =>
    show (enc (u64 g) 1 ++ encGi gs).length = _
    rw [List.length_append, ih, enc_length, List.length_cons]
    omega
def encU (r : Ui) : List UInt8 := enc (u64 r.k) 1 ++ enc (u64 r.tx.length) 4 ++ r.tx ++ enc (u64 r.gs.length) 1 ++ encGi r.gs ++ enc (u64 r.bd.length) 4 ++ r.bd
def Ui.val (r : Ui) (a : Option Addr) (c : Nat) : Value := .agg #[.int .i64 r.k, .string ⟨r.tx.toArray⟩, .slice a r.gs.length c, .string ⟨r.bd.toArray⟩]
/-- Numbers that are looked at. -/
def Gi (w : World) (a : Option Addr) (gs : List Int) : Prop :=
  0 < gs.length → ∃ b off, a = some ⟨b, off, none⟩ ∧ b < w.heap.size ∧ ∀ i (h : i < gs.length), w.cell? ⟨b, off + i, none⟩ = some (.int .i64 gs[i])
theorem Gi.all {w w' : World} {a : Option Addr} {gs : List Int} (h : Gi w a gs) (k : Kept (fun _ => True) w w') : Gi w' a gs := fun h0 => by
  obtain ⟨b, off, e, hb, hc⟩ := h h0
  exact ⟨b, off, e, Nat.lt_of_lt_of_le hb k.size, fun i hi => (kept_cell k hb trivial).trans (hc i hi)⟩
/-- A writer that was made behind w0. -/
def WS (w0 w : World) (B : Nat) (bs : List UInt8) : Prop := ∃ G v, Wr w B G v bs ∧ w0.heap.size ≤ B ∧ (∀ x, G = some x → w0.heap.size ≤ x) ∧ Kept (fun _ => True) w0 w
theorem WS.kept {w0 w : World} {B : Nat} {bs : List UInt8} (h : WS w0 w B bs) : Kept (fun _ => True) w0 w := by obtain ⟨_, _, _, _, _, k⟩ := h; exact k
theorem WS.next {w0 w w' : World} {B : Nat} {cs : List UInt8} {G G' : Option Nat} {v' : Value} (hB : w0.heap.size ≤ B) (hG : ∀ x, G = some x → w0.heap.size ≤ x) (hk : Kept (fun _ => True) w0 w) (h : Wr w' B G' v' cs) (k : Kept (fun x => x ≠ B ∧ G ≠ some x) w w') (hG' : ∀ x, G' = some x → G = some x ∨ w.heap.size ≤ x) : WS w0 w' B cs :=
  ⟨G', v', h, hB, fun x hx => by
    rcases hG' x hx with q | q
    · exact hG x q
    · exact Nat.le_trans hk.size q, hk.then k (fun i hi _ => ⟨by omega, fun e => by have := hG i e; omega⟩)⟩
theorem ws_byte {w0 w : World} {B : Nat} {bs : List UInt8} (n : Int) (h : WS w0 w B bs) (hb : (bs.length : Int) + 1 ≤ 140737488355328) :
    Calls Try.prog 52 #[.pointer (some ⟨B, 0, none⟩), .int .i64 n] w fun e w' => e = .returned (.tuple #[]) ∧ WS w0 w' B (bs ++ enc (u64 n) 1) := by
  obtain ⟨G, v, hw, hB, hG, hk⟩ := h
  refine (wbyte_any n hw hb).mono ?_
  rintro e w' ⟨he, G', v', h1, h2, h3⟩
  exact ⟨he, WS.next hB hG hk h1 h2 h3⟩
theorem ws_text {w0 w : World} {B : Nat} {bs : List UInt8} (s : List UInt8) (h : WS w0 w B bs) (hb : (bs.length : Int) + 4 + s.length ≤ 140737488355328) :
    Calls Try.prog 53 #[.pointer (some ⟨B, 0, none⟩), .string ⟨s.toArray⟩] w fun e w' => e = .returned (.tuple #[]) ∧ WS w0 w' B (bs ++ enc (u64 s.length) 4 ++ s) := by
  obtain ⟨G, v, hw, hB, hG, hk⟩ := h
  have hs : (⟨s.toArray⟩ : ByteArray).size = s.length := by simp [ByteArray.size]
  have := wtext_any ⟨s.toArray⟩ hw (by rw [hs]; exact hb)
  rw [hs] at this
  refine this.mono ?_
  rintro e w' ⟨he, G', v', h1, h2, h3⟩
  exact ⟨he, WS.next hB hG hk (by simpa using h1) h2 h3⟩
theorem ws_done {w0 w : World} {B : Nat} {bs : List UInt8} (h : WS w0 w B bs) (hb : (bs.length : Int) ≤ 140737488355328) :
    Calls Try.prog 54 #[.pointer (some ⟨B, 0, none⟩)] w fun e w' => ∃ D, e = .returned (.slice (some ⟨D, 0, none⟩) bs.length bs.length) ∧ w'.heap[D]? = some (.cells (cells bs).toArray 5 (0, 0)) ∧ Kept (fun _ => True) w0 w' := by
  obtain ⟨G, v, hw, hB, hG, hk⟩ := h
  refine (done_any hw hb).mono ?_
  rintro e w' ⟨D, he, h1, h2, _⟩
  exact ⟨D, he, h1, hk.trans h2⟩

set_option maxRecDepth 100000 in
set_option maxHeartbeats 4000000 in
theorem textA_any {w : World} {r : Ui} {ao : Option Addr} {cap : Nat} (h : Gi w ao r.gs) (hn : r.gs.length ≤ 1000000) (h1 : (r.tx.length : Int) ≤ 70368744177664) (h2 : (r.bd.length : Int) ≤ 35184372088832) :
    Calls Try.prog 21 #[r.val ao cap] w fun e w' => e = .returned (.string ⟨(encU r).toArray⟩) ∧ Kept (fun _ => True) w w' := by
  have HR : Hid (encU r = enc (u64 r.k) 1 ++ enc (u64 r.tx.length) 4 ++ r.tx ++ enc (u64 r.gs.length) 1 ++ encGi r.gs ++ enc (u64 r.bd.length) 4 ++ r.bd) := rfl
  generalize encU r = R at *
  obtain ⟨k, tx, gs, bd⟩ := r
  unfold Ui.val
  simp only at *
  obtain ⟨w0, hw0⟩ : ∃ x, x = w.alloc (.cells #[.int .i64 k, .string ⟨tx.toArray⟩, .slice ao gs.length cap, .string ⟨bd.toArray⟩] 24) := ⟨_, rfl⟩
  have k0 : Kept (fun _ => True) w w0 := by rw [hw0]; exact (Kept.refl _ _).alloc _
  have F0 : w0.heap[w.heap.size]? = some (.cells #[.int .i64 k, .string ⟨tx.toArray⟩, .slice ao gs.length cap, .string ⟨bd.toArray⟩] 24 (0, 0)) := by rw [hw0]; exact heap_alloc_new w _
  have HX : Hid (w.heap.size < w0.heap.size) := lt_of_block F0
  have HC : Hid (w0.cell? ⟨w.heap.size, 0, none⟩ = some (.int .i64 k) ∧ w0.cell? ⟨w.heap.size, 1, none⟩ = some (.string ⟨tx.toArray⟩) ∧ w0.cell? ⟨w.heap.size, 2, none⟩ = some (.slice ao gs.length cap) ∧ w0.cell? ⟨w.heap.size, 3, none⟩ = some (.string ⟨bd.toArray⟩)) := ⟨cell_of_row _ _ 0 _ _ _ F0, cell_of_row _ _ 1 _ _ _ F0, cell_of_row _ _ 2 _ _ _ F0, cell_of_row _ _ 3 _ _ _ F0⟩
  have HGi : Hid (Gi w0 ao gs) := h.all k0
  have K0 : Hid (Kept (fun _ => True) w w0) := k0
  clear F0 k0 h
  go_enter Try.func21, Try.ntmps21
  go_upto_region 1 with fail
  rw [← hw0]
  clear hw0
  generalize w.heap.size = X at *
  go_upto_region 2 with (go_at_call 51; (with_reducible refine Calls.mono newWriter_any ?_); rintro e w1 ⟨rfl, hw1, k1, l1⟩; have S1 : WS w0 w1 w0.heap.size [] := ⟨none, _, hw1, Nat.le_refl _, (fun x hx => by cases hx), k1⟩; clear hw1 l1)
  obtain ⟨B, hB⟩ : ∃ B, B = w0.heap.size := ⟨_, rfl⟩
  rw [← hB] at S1 ⊢
  clear hB
  have x0 := (kept_cell k1 HX.out trivial).trans HC.out.1
  have c2 := ws_byte k S1 (by simp)
  clear k1 S1
  go_upto_region 3 with (go_at_call 52; (with_reducible refine Calls.mono c2 ?_); rintro e w2 ⟨rfl, S2⟩; rw [List.nil_append] at S2)
  clear c2 x0
  have x1 := (kept_cell S2.kept HX.out trivial).trans HC.out.2.1
  have c3 := ws_text tx S2 (by rw [enc_length]; omega)
  go_upto_region 4 with (go_at_call 53; (with_reducible refine Calls.mono c3 ?_); rintro e w3 ⟨rfl, S3⟩)
  clear c3 x1 S2
  have x2 := (kept_cell S3.kept HX.out trivial).trans HC.out.2.2.1
  have c4 := ws_byte (gs.length : Int) S3 (by simp only [List.length_append, enc_length]; omega)
  go_upto_region 5 with (go_at_call 52; (with_reducible refine Calls.mono c4 ?_); rintro e w4 ⟨rfl, S4⟩)
  clear c4 x2 S3
  have x2 := (kept_cell S4.kept HX.out trivial).trans HC.out.2.2.1
  have HS4 : Hid (WS w0 w4 B (enc (u64 k) 1 ++ enc (u64 tx.length) 4 ++ tx ++ enc (u64 gs.length) 1)) := S4
  have HP : Hid ((enc (u64 k) 1 ++ enc (u64 tx.length) 4 ++ tx ++ enc (u64 gs.length) 1).length = tx.length + 6) := by show _ = _; simp only [List.length_append, enc_length]; omega
  clear S4
  generalize hpre : enc (u64 k) 1 ++ enc (u64 tx.length) 4 ++ tx ++ enc (u64 gs.length) 1 = P at *
  clear hpre
  go_wp2_with fail
  go_loopw [23] (fun t wr => ∃ i : Nat, i ≤ gs.length ∧ t = .int .i64 i ∧ WS w0 wr B (P ++ encGi (gs.take i))) (fun t _ => gs.length - (intOf t).toNat)
  case atStart => exact ⟨0, Nat.zero_le _, rfl, by simpa [encGi] using HS4.out⟩
  case round =>
    obtain ⟨i, hi, rfl, hS⟩ := hrel
    have HS : Hid (WS w0 wr B (P ++ encGi (gs.take i))) := hS
    clear hS HS4 x2
    by_cases hlt : i < gs.length
    · obtain ⟨b, off, rfl, hb, hc⟩ := HGi.out (by omega)
      have c0 := (kept_cell HS.out.kept hb trivial).trans (hc i hlt)
      have HTK : Hid (gs.take (i + 1) = gs.take i ++ [gs[i]]) := List.take_succ_eq_append_getElem hlt
      have hl : (P ++ encGi (gs.take i)).length ≤ tx.length + 6 + gs.length := by
        rw [List.length_append, HP.out, encGi_len, List.length_take]; omega
      have cb := ws_byte gs[i] HS.out (by omega)
      have HI : Hid (i < gs.length) := hlt
      have i0 : (0 : Int) ≤ (i : Int) := by omega
      have i1 : (i : Int) < (gs.length : Int) := by omega
      clear hc hl
      generalize gs[i] = g at *
      clear hlt
      go_wp2_with (go_at_call 52; (with_reducible refine Calls.mono cb ?_); rintro e w5 ⟨rfl, S5⟩; have HS5 : Hid (WS w0 w5 B (P ++ encGi (gs.take (i + 1)))) := (by show WS _ _ _ _; rw [HTK.out, encGi_snoc, ← List.append_assoc]; exact S5); clear S5)
      go_roundw
      case rel => exact ⟨i + 1, by have := HI.out; omega, by go_num, HS5.out⟩
      case measure => have := HI.out; simp [intOf]; omega
    · obtain rfl : i = gs.length := by omega
      have i1 : ¬ ((gs.length : Nat) : Int) < (gs.length : Int) := by omega
      have S6 : WS w0 wr B (P ++ encGi gs) := by have := HS.out; rwa [List.take_length] at this
      have x3 := (kept_cell S6.kept HX.out trivial).trans HC.out.2.2.2
      have hl : (P ++ encGi gs).length = tx.length + 6 + gs.length := by rw [List.length_append, HP.out, encGi_len]
      have c6 := ws_text bd S6 (by omega)
      have HL2 : Hid ((P ++ encGi gs ++ enc (u64 bd.length) 4 ++ bd).length = tx.length + 6 + gs.length + 4 + bd.length) := by show _ = _; rw [List.length_append, List.length_append, hl, enc_length]
      obtain ⟨Q, hQ⟩ : ∃ Q, Q = P ++ encGi gs ++ enc (u64 bd.length) 4 ++ bd := ⟨_, rfl⟩
      rw [← hQ] at c6 HL2
      have HR2 : Hid (R = Q) := by show _ = _; rw [hQ]; exact HR.out
      clear hl S6 HS hlt hi hQ
      go_wp2_with (first
        | (go_at_call 53; (with_reducible refine Calls.mono c6 ?_); rintro e w7 ⟨rfl, S7⟩; have c7 := ws_done S7 (by rw [HL2.out]; omega); clear S7 c6)
        | (go_at_call 54; (with_reducible refine Calls.mono c7 ?_); rintro e w8 ⟨D, rfl, hD, k8⟩; have hcv := conv_row (cap := Q.length) hD; have K8 : Hid (Kept (fun _ => True) w0 w8) := k8; clear hD k8 c7))
      go_ret
      exact ⟨by rw [HR2.out]; rfl, K0.out.trans K8.out⟩

end Go.Proofs.Ytbooeabmpdpgpaa
