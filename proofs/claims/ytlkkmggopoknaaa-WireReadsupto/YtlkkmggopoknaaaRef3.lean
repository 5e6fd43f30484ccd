/-
  The statements' own helper 'written': the document's own bytes of some Parts.
-/
import Derived.Test.YtlkkmggopoknaaaRef2
import Derived.Test.YtlkkmggopoknaaaParts
namespace Go.Proofs.Ytlkkmggopoknaaa
open Go.RowKit

/-- The document's bytes of a Part. -/
def PartV.enc (p : PartV) : List UInt8 :=
  if p.kind = 1 then Proofs.Ytlkkmggopoknaaa.enc (u64 p.n) 1 else if p.kind = 2 then Proofs.Ytlkkmggopoknaaa.enc (u64 p.n) 4 else if p.kind = 3 then Proofs.Ytlkkmggopoknaaa.enc (u64 p.wide) 8 else if p.kind = 4 then Proofs.Ytlkkmggopoknaaa.enc (u64 p.s.size) 4 ++ p.s.data.toList else []
/-- The bytes of the first k. -/
def encTo (ps : List PartV) (k : Nat) : List UInt8 := (ps.take k).flatMap PartV.enc
theorem encTo_succ (ps : List PartV) (k : Nat) (p : PartV) (h : ps[k]? = some p) : encTo ps (k + 1) = encTo ps k ++ p.enc := by
  unfold encTo
  rw [List.take_add_one, h]
  simp
/-- At most so many bytes. -/
def weigh (ps : List PartV) : Nat := (ps.map fun p => p.s.size + 8).sum
theorem enc_le (p : PartV) : p.enc.length ≤ p.s.size + 8 := by
  unfold PartV.enc
  have : p.s.data.toList.length = p.s.size := rfl
  split
  · simp [enc_length]
  · split
    · simp [enc_length] <;> omega
    · split
      · simp [enc_length]
      · split
        · rw [List.length_append, enc_length, this]; omega
        · simp
theorem flat_le (ps : List PartV) : (ps.flatMap PartV.enc).length ≤ weigh ps := by
  induction ps with
  | nil => simp [weigh]
  | cons p ps ih =>
    have := enc_le p
    simp only [List.flatMap_cons, List.length_append, weigh, List.map_cons, List.sum_cons] at *
    omega
theorem weigh_take (ps : List PartV) (k : Nat) : weigh (ps.take k) ≤ weigh ps := by
  induction ps generalizing k with
  | nil => simp [weigh]
  | cons p ps ih =>
    cases k with
    | zero => simp [weigh]
    | succ k =>
      have := ih k
      simp only [List.take_succ_cons, weigh, List.map_cons, List.sum_cons] at *
      omega
theorem encTo_le (ps : List PartV) (k : Nat) : (encTo ps k).length ≤ weigh ps := Nat.le_trans (flat_le _) (weigh_take ps k)
theorem part_weigh (ps : List PartV) (k : Nat) (p : PartV) (h : ps[k]? = some p) : (encTo ps k).length + (p.s.size + 8) ≤ weigh ps := by
  induction ps generalizing k with
  | nil => simp at h
  | cons q ps ih =>
    cases k with
    | zero =>
      simp at h
      subst h
      simp [encTo, weigh]
    | succ k =>
      have h1 := ih k (by simpa using h)
      have h2 := enc_le q
      simp only [encTo, List.take_succ_cons, List.flatMap_cons, List.length_append, weigh, List.map_cons, List.sum_cons] at *
      omega

theorem own_mono {w : World} {b b' : Nat} {v : Value} {n : Nat} {xs : List Value} (h : w.ownsRow b 5 1 v n xs) (hb : b' ≤ b) : w.ownsRow b' 5 1 v n xs := h.mono hb

set_option maxRecDepth 100000 in
set_option maxHeartbeats 2000000 in
theorem written_any {w : World} {pa : Option Addr} {plen pcap : Nat} {ps : List PartV} (hp : IsParts w pa plen ps) (hpl : plen ≤ maxLen) (hwt : weigh ps ≤ 100000000) :
    Calls Try.prog 21 #[.slice pa plen pcap] w fun e w' => ∃ r, e = .returned r ∧ w'.ownsRow w.heap.size 5 1 r (encTo ps 40).length (cells (encTo ps 40)) ∧ Kept (fun _ => True) w w' := by
  unfold maxLen at hpl
  have hpl' : (plen : Int) ≤ 9223372036854775807 := by omega
  have HP : Hid (IsParts w pa plen ps) := hp
  clear hp hpl
  go_enter Try.func21, Try.ntmps21
  go_wp2
  go_loopw [3, 4] (fun r t wr => ∃ k : Nat, k ≤ plen ∧ k ≤ 40 ∧ t = .int .i64 k ∧ wr.ownsRow w.heap.size 5 1 r (encTo ps k).length (cells (encTo ps k)) ∧ Kept (fun _ => True) w wr) (fun _ t _ => plen - (intOf t).toNat)
  case atStart => exact ⟨0, Nat.zero_le _, by omega, rfl, World.ownsRow_nil _ _ _ _, Kept.refl _ _⟩
  case round =>
    obtain ⟨k, hk, hk40, rfl, ho, kr⟩ := hrel
    by_cases hlt : k < plen ∧ k < 40
    · obtain ⟨h1, h2⟩ := hlt
      obtain ⟨b, off, rfl, hbl, p, hfit, ⟨c0, c1, c2, c3⟩, hget⟩ := parts_cell HP.out k h1
      have d0 := (kr.cell (o := off + k * 4) hbl trivial).trans c0
      have d1 := (kr.cell (o := off + k * 4 + 1) hbl trivial).trans c1
      have d2 := (kr.cell (o := off + k * 4 + 2) hbl trivial).trans c2
      have d3 := (kr.cell (o := off + k * 4 + 3) hbl trivial).trans c3
      have hk1 : (k : Int) < (plen : Int) := by omega
      have hk2 : (k : Int) < 40 := by omega
      have hpw := part_weigh ps k p hget
      have HS : Hid (encTo ps (k + 1) = encTo ps k ++ p.enc) := encTo_succ ps k p hget
      have hsl := own_sl ho
      have hsz := kr.size
      generalize encTo ps k = cur at *
      have fin : ∀ (wn : World) (r : Value) (l : List UInt8), p.enc = l → wn.ownsRow wr.heap.size 5 1 r (cur ++ l).length (cells (cur ++ l)) → Kept (fun _ => True) wr wn → wn.ownsRow w.heap.size 5 1 r (encTo ps (k + 1)).length (cells (encTo ps (k + 1))) ∧ Kept (fun _ => True) w wn := by
        intro wn r l e h1 h2
        rw [HS.out, e]
        exact ⟨h1.mono hsz, kr.trans h2⟩
      have FIN : Hid (∀ (wn : World) (r : Value) (l : List UInt8), p.enc = l → wn.ownsRow wr.heap.size 5 1 r (cur ++ l).length (cells (cur ++ l)) → Kept (fun _ => True) wr wn → wn.ownsRow w.heap.size 5 1 r (encTo ps (k + 1)).length (cells (encTo ps (k + 1))) ∧ Kept (fun _ => True) w wn) := fin
      have SL : Hid (Sl wr _ cur) := hsl
      clear c0 c1 c2 c3 fin hsl
      by_cases e1 : p.kind = 1
      · have q1 : (p.kind == 1) = true := by simp [e1]
        have E : Hid (p.enc = enc (u64 p.n) 1) := by show _ = _; simp [PartV.enc, e1]
        clear e1
        go_wp2_with fail
        refine Calls.mono (rbyte_any p.n SL.out (by omega)) ?_
        rintro e wn ⟨r, rfl, g1, g2⟩
        go_wp2
        go_roundw
        case rel => exact ⟨k + 1, by omega, by omega, by go_num, FIN.out _ _ _ E.out g1 g2⟩
        case measure => simp [intOf]; omega
      by_cases e2 : p.kind = 2
      · have q1 : (p.kind == 1) = false := by simp [e1]
        have q2 : (p.kind == 2) = true := by simp [e2]
        have E : Hid (p.enc = enc (u64 p.n) 4) := by show _ = _; simp [PartV.enc, e2]
        clear e1 e2
        go_wp2_with fail
        refine Calls.mono (rfour_any p.n SL.out (by omega)) ?_
        rintro e wn ⟨r, rfl, g1, g2⟩
        go_wp2
        go_roundw
        case rel => exact ⟨k + 1, by omega, by omega, by go_num, FIN.out _ _ _ E.out g1 g2⟩
        case measure => simp [intOf]; omega
      by_cases e3 : p.kind = 3
      · have q1 : (p.kind == 1) = false := by simp [e1]
        have q2 : (p.kind == 2) = false := by simp [e2]
        have q3 : (p.kind == 3) = true := by simp [e3]
        have E : Hid (p.enc = enc (u64 p.wide) 8) := by show _ = _; simp [PartV.enc, e3]
        clear e1 e2 e3
        go_wp2_with fail
        refine Calls.mono (reight_any p.wide SL.out (by omega)) ?_
        rintro e wn ⟨r, rfl, g1, g2⟩
        go_wp2
        go_roundw
        case rel => exact ⟨k + 1, by omega, by omega, by go_num, FIN.out _ _ _ E.out g1 g2⟩
        case measure => simp [intOf]; omega
      by_cases e4 : p.kind = 4
      · have q1 : (p.kind == 1) = false := by simp [e1]
        have q2 : (p.kind == 2) = false := by simp [e2]
        have q3 : (p.kind == 3) = false := by simp [e3]
        have q4 : (p.kind == 4) = true := by simp [e4]
        have E : Hid (p.enc = enc (u64 p.s.size) 4 ++ p.s.data.toList) := by show _ = _; simp [PartV.enc, e4]
        clear e1 e2 e3 e4
        go_wp2_with fail
        refine Calls.mono (rtext_any p.s SL.out (by omega)) ?_
        rintro e wn ⟨r, rfl, g1, g2⟩
        go_wp2
        go_roundw
        case rel => exact ⟨k + 1, by omega, by omega, by go_num, FIN.out _ _ _ E.out (by rw [← List.append_assoc]; exact g1) g2⟩
        case measure => simp [intOf]; omega
      · have q1 : (p.kind == 1) = false := by simp [e1]
        have q2 : (p.kind == 2) = false := by simp [e2]
        have q3 : (p.kind == 3) = false := by simp [e3]
        have q4 : (p.kind == 4) = false := by simp [e4]
        have E : Hid (p.enc = []) := by show _ = _; simp [PartV.enc, e1, e2, e3, e4]
        have ho' : Hid (encTo ps (k + 1) = cur) := by show _ = _; rw [HS.out, E.out, List.append_nil]
        clear e1 e2 e3 e4
        go_wp2
        go_roundw
        case rel => exact ⟨k + 1, by omega, by omega, by go_num, by rw [ho'.out]; exact ho, kr⟩
        case measure => simp [intOf]; omega
    · have hg : (decide ((k : Int) < (plen : Int)) && decide ((k : Int) < 40)) = false := by simp; omega
      have hend : Hid (encTo ps 40 = encTo ps k) := by
        show _ = _
        unfold encTo
        by_cases h40 : k = 40
        · rw [h40]
        · have hkl : ps.length ≤ k := by rw [HP.out.1]; omega
          rw [List.take_of_length_le hkl, List.take_of_length_le (by omega)]
      go_wp2
      all_goals
        go_ret
        exact ⟨_, rfl, by rw [hend.out]; exact ho, kr⟩

end Go.Proofs.Ytlkkmggopoknaaa
