/-
  readHead and Decode: the program's.
-/
import Derived.Test.YtflleblcliobdaaZ3
import Derived.Test.YtflleblcliobdaaZ5
import Derived.Test.YtflleblcliobdaaKApp
namespace Go.Proofs.Ytflleblcliobdaa
open Go.RowKit

/-- Bytes that are read one by one: as many as there are. -/
def rdB (bs : List UInt8) (s : RS) : Nat → List UInt8 × RS
  | 0 => ([], s)
  | n + 1 => ((rdB bs s n).1 ++ [UInt8.ofNat ((rdB bs s n).2.num bs 1).1], ((rdB bs s n).2.num bs 1).2)
theorem rdB_len (bs : List UInt8) (s : RS) (n : Nat) : (rdB bs s n).1.length = n := by
  induction n with
  | zero => rfl
  | succ n ih => rw [rdB, List.length_append, ih]; rfl
theorem num1_yes (bs : List UInt8) (p : Nat) (h : p < bs.length) : (⟨p, 0⟩ : RS).num bs 1 = ((bs[p]).toNat, ⟨p + 1, 0⟩) := by
  unfold RS.num
  rw [if_pos rfl, if_pos (by simp only; omega)]
  have e : (bs.drop p).take 1 = [bs[p]] := by
    rw [List.drop_eq_getElem_cons h]
    rfl
  simp [e, be]
theorem rdB_no (bs : List UInt8) (s : RS) (h : s.why ≠ 0) (n : Nat) : (rdB bs s n).2 = s := by
  induction n with
  | zero => rfl
  | succ n ih =>
    rw [rdB, ih]
    simp only [RS.num, if_neg h]
theorem rdB_yes (bs : List UInt8) (p n : Nat) (h : p + n ≤ bs.length) : rdB bs ⟨p, 0⟩ n = ((bs.drop p).take n, ⟨p + n, 0⟩) := by
  induction n with
  | zero => simp [rdB]
  | succ n ih =>
    rw [rdB, ih (by omega)]
    simp only
    rw [num1_yes bs (p + n) (by omega)]
    simp only
    rw [take_drop_snoc bs p n (by omega)]
    congr 2
    simp
theorem rdB_short (bs : List UInt8) (p : Nat) (hp : p ≤ bs.length) : ∀ n, bs.length < p + n → (rdB bs ⟨p, 0⟩ n).2 = ⟨bs.length, 10⟩
  | 0, h => by omega
  | n + 1, h => by
    by_cases h2 : bs.length < p + n
    · rw [rdB, rdB_short bs p hp n h2]
      simp [RS.num]
    · rw [rdB, rdB_yes bs p n (by omega)]
      simp only [RS.num]
      rw [if_pos trivial, if_neg (by omega)]
theorem rdB_raw (bs : List UInt8) (s : RS) (hp : s.pos ≤ bs.length) (n : Nat) : (rdB bs s n).2 = (s.raw bs n).2 ∧ ((s.raw bs n).2.why = 0 → (rdB bs s n).1 = (s.raw bs n).1) := by
  obtain ⟨p, y⟩ := s
  simp only at hp
  unfold RS.raw
  by_cases hy : y = 0
  · subst hy
    by_cases hl : p + n ≤ bs.length
    · rw [if_pos rfl, if_pos (by simpa using hl), rdB_yes bs p n hl]
      exact ⟨rfl, fun _ => rfl⟩
    · rw [if_pos rfl, if_neg (by simpa using hl), rdB_short bs p hp n (by omega)]
      exact ⟨rfl, fun h => by simp at h⟩
  · rw [if_neg (by simpa using hy), rdB_no bs ⟨p, y⟩ (by simpa using hy) n]
    exact ⟨rfl, fun h => absurd h (by simpa using hy)⟩

theorem conv_byte (n : Nat) (_ : n < 256) : IntKind.u8.wrap (n : Int) = ((UInt8.ofNat n).toNat : Int) := by
  simp [IntKind.wrap, IntKind.bits, IntKind.signed, UInt8.toNat_ofNat']

/-- What readHead answers. -/
def EHead (bs : List UInt8) (s : RS) (w : World) (B R cap : Nat) (e : Ending) (w' : World) : Prop := e = .returned (.agg (cells (rdB bs s 32).1).toArray) ∧ Rs w' B R bs cap (rdB bs s 32).2 ∧ Kept (· ≠ B) w w'

set_option maxRecDepth 100000 in
set_option maxHeartbeats 2000000 in
theorem readHead_any {w : World} {B R cap : Nat} {bs : List UInt8} {s : RS} (h : Rs w B R bs cap s) :
    Calls Try.prog 32 #[.pointer (some ⟨B, 0, none⟩)] w fun e w' => EHead bs s w B R cap e w' := by
  have HR : Hid (Rs w B R bs cap s) := h
  have hBw := h.lt
  have hRw := h.rowlt
  clear h
  go_enter Try.func32, Try.ntmps32
  go_wp2_with (first
    | ((with_reducible refine w_alloc (d := some 2) arr32 ?_); intro w1 a2 k1 s1)
    | ((with_reducible refine w_alloc (d := some 3) arr32 ?_); intro w2 a3 k2 s2))
  have q1 := s1.out
  have A2 : Hid (Ar w2 w.heap.size 25 (cells zero32)) := a2.kept k2 trivial
  have A3 : Hid (Ar w2 w1.heap.size 25 (cells zero32)) := a3
  have HR2 : Hid (Rs w2 B R bs cap s) := (HR.out.kept k1 trivial trivial).kept k2 trivial trivial
  have K02 : Hid (Kept (fun _ => True) w w2) := k1.trans k2
  have d1 : w.heap.size < w1.heap.size := by omega
  clear a2 a3 k1 k2 s1 s2
  generalize w1.heap.size = C at *
  clear q1
  obtain ⟨D, hD⟩ : ∃ D, D = w.heap.size := ⟨_, rfl⟩
  rw [← hD] at A2 d1 hBw hRw ⊢
  have HD : Hid (D = w.heap.size) := hD
  clear hD HR
  go_loopw [5] (fun t wr => ∃ k : Nat, k ≤ 32 ∧ t = .int .i64 k ∧ Ar wr C 25 (cells ((rdB bs s k).1 ++ List.replicate (32 - k) 0)) ∧ Ar wr D 25 (cells zero32) ∧ Rs wr B R bs cap (rdB bs s k).2 ∧ Kept (· ≠ B) w wr) (fun t _ => 32 - (intOf t).toNat)
  case atStart => exact ⟨0, by omega, rfl, A3.out, A2.out, HR2.out, K02.out.mono (fun _ _ _ => trivial)⟩
  case round =>
    obtain ⟨k, hk, rfl, a3, a2, hr, kr⟩ := hrel
    by_cases hlt : k < 32
    · have i0 : (0 : Int) ≤ (k : Int) := by omega
      have i1 : (k : Int) < 32 := by omega
      have cb := byte_any hr
      have hl1 := (rdB bs s k).2.num_lt1 bs
      have hw := conv_byte _ hl1
      have lk := rdB_len bs s k
      have HN : Hid (rdB bs s (k + 1) = ((rdB bs s k).1 ++ [UInt8.ofNat ((rdB bs s k).2.num bs 1).1], ((rdB bs s k).2.num bs 1).2)) := rfl
      have AC : Hid (Ar wr C 25 (cells ((rdB bs s k).1 ++ List.replicate (32 - k) 0))) := a3
      have AD : Hid (Ar wr D 25 (cells zero32)) := a2
      have KR : Hid (Kept (· ≠ B) w wr) := kr
      clear hr a3 a2 kr
      generalize hq : (rdB bs s k).2.num bs 1 = q at *
      generalize (rdB bs s k).1 = acc at *
      obtain ⟨n, s2⟩ := q
      simp only at cb hl1 hw HN
      clear hq
      generalize hb : UInt8.ofNat n = b at *
      have cz : ∀ w0, Kept (· ≠ B) wr w0 → w0.cell? ⟨C, k, none⟩ = some (.int .u8 0) ∧ w0.frozen? ⟨C, k, none⟩ = false := fun w0 k0 => by
        have h1 := AC.out.kept k0 (by omega)
        refine ⟨?_, h1.free k⟩
        rw [h1.cell k, cells_getElem _ k (by simp [lk]; omega), List.getElem_append_right (by omega)]
        simp
      clear hb
      go_wp2_with (go_at_call 53; (with_reducible refine Calls.mono cb ?_); rintro e w5 ⟨rfl, h5, k5⟩; obtain ⟨cz5, cf5⟩ := cz _ k5)
      go_roundw
      case rel =>
        refine ⟨k + 1, by omega, by go_num, ?_, ?_, ?_, ?_⟩
        · have h1 := (AC.out.kept k5 (by omega)).set k (.int .u8 b.toNat)
          rw [cells_set, List.set_append_right _ _ (by omega), lk, Nat.sub_self, show 32 - k = (32 - (k + 1)) + 1 by omega, List.replicate_succ, List.set_cons_zero] at h1
          rw [HN.out]
          simpa using h1
        · exact (AD.out.kept k5 (by omega)).kept ((Kept.refl (· ≠ C) _).setCell (by simp) _) (by omega)
        · rw [HN.out]
          exact h5.kept ((Kept.refl (· ≠ C) _).setCell (by simp) _) (by omega) (by omega)
        · have hd := HD.out
          exact (KR.out.trans k5).then ((Kept.refl (· ≠ C) _).setCell (by simp) _) (fun i hi _ => by omega)
      case measure => simp [intOf]; omega
    · have hke : k = 32 := by omega
      subst hke
      have i1 : ¬ ((32 : Nat) : Int) < 32 := by omega
      have l32 : (cells (rdB bs s 32).1).length = 32 := by rw [cells_length, rdB_len]
      rw [Nat.sub_self, List.replicate_zero, List.append_nil] at a3
      obtain ⟨q, hq⟩ : ∃ q, rdB bs s 32 = q := ⟨_, rfl⟩
      rw [hq] at a3 hr l32
      have HQ : Hid (rdB bs s 32 = q) := hq
      clear hq
      obtain ⟨acc, st⟩ := q
      simp only at a3 hr l32
      have o32 := cells_one acc
      go_wp2_with (first
        | ((with_reducible apply w_loadH (d := some 14) (b := C) (o := 0) (cs := cells acc)); (case hx => rfl); (case hr => exact a3.range); (case hl => exact l32))
        | ((with_reducible apply w_store (x := .tmp 2) (b := D) (xs := cells acc) (old := cells zero32) arr32); (case hx => rfl); (case hy => rfl); (case ha => exact a2); (case ho => rfl); (case hl => exact l32); (case h1 => exact o32); intro w6 a6 k6 s6))
      refine bodyPost_ret (results_ar (p := 2) arr32 rfl _ _ rfl a6 l32) rfl ?_
      unfold EHead
      rw [HQ.out]
      refine ⟨rfl, hr.kept k6 (by omega) (by omega), ?_⟩
      have hd := HD.out
      exact kr.then k6 (fun i hi _ => by omega)

end Go.Proofs.Ytflleblcliobdaa
