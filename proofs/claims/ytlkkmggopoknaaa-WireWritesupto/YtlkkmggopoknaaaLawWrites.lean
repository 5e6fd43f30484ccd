/-
  The walk of WireWrites: for Parts of some weight it answers true, and turns nothing that was there.
-/
import Derived.Test.YtlkkmggopoknaaaRef3
import Derived.Test.YtlkkmggopoknaaaWr4
import Derived.Test.YtlkkmggopoknaaaSl
namespace Go.Proofs.Ytlkkmggopoknaaa
open Go.RowKit

attribute [local go_sem ↓] Go.wp_at_zero Go.wp_at_succ

set_option maxRecDepth 100000 in
set_option maxHeartbeats 8000000 in
theorem writes_any {w : World} {pa : Option Addr} {plen pcap : Nat} {ps : List PartV} (hp : IsParts w pa plen ps) (hpl : plen ≤ maxLen) (hwt : weigh ps ≤ 100000000) :
    Calls Try.prog 4 #[.slice pa plen pcap] w fun e w' => e = .returned (.bool true) ∧ Kept (fun _ => True) w w' := by
  have HPL : Hid (plen ≤ maxLen) := hpl
  unfold maxLen at hpl
  have hpl' : (plen : Int) ≤ 9223372036854775807 := by omega
  have HP : Hid (IsParts w pa plen ps) := hp
  clear hp hpl
  go_enter Try.func4, Try.ntmps4
  go_wp2_with fail
  refine Calls.mono newWriter_any ?_
  rintro e w1 ⟨rfl, hw, k1, s1⟩
  go_wp2
  go_loopw [4] (fun t wr => ∃ (k : Nat) (G : Option Nat) (v : Value), k ≤ plen ∧ k ≤ 40 ∧ t = .int .i64 k ∧ Wr wr w.heap.size G v (encTo ps k) ∧ (∀ x, G = some x → w.heap.size ≤ x) ∧ Kept (fun _ => True) w wr) (fun t _ => plen - (intOf t).toNat)
  case atStart => exact ⟨0, none, _, Nat.zero_le _, by omega, rfl, hw, by simp, k1⟩
  case round =>
    obtain ⟨k, G, v, hk, hk40, rfl, hw, hG, kr⟩ := hrel
    by_cases hlt : k < plen ∧ k < 40
    · obtain ⟨h1, h2⟩ := hlt
      obtain ⟨b, off, rfl, hbl, p, hfit, ⟨c0, c1, c2, c3⟩, hget⟩ := parts_cell HP.out k h1
      have d0 := (kr.cell (o := off + k * 4) hbl trivial).trans c0
      have d1 := (kr.cell (o := off + k * 4 + 1) hbl trivial).trans c1
      have d2 := (kr.cell (o := off + k * 4 + 2) hbl trivial).trans c2
      have d3 := (kr.cell (o := off + k * 4 + 3) hbl trivial).trans c3
      have hk1 : (k : Int) < (plen : Int) := by omega
      have hk2 : (k : Int) < 40 := by omega
      have hpw := part_weigh ps k p hget
      have HS : Hid (encTo ps (k + 1) = encTo ps k ++ p.enc) := encTo_succ ps k p hget
      generalize encTo ps k = cur at *
      have FIN : Hid (∀ (wn : World) (G' : Option Nat) (v' : Value) (l : List UInt8), p.enc = l → Wr wn w.heap.size G' v' (cur ++ l) → Kept (fun x => x ≠ w.heap.size ∧ G ≠ some x) wr wn → (∀ x, G' = some x → G = some x ∨ wr.heap.size ≤ x) → Wr wn w.heap.size G' v' (encTo ps (k + 1)) ∧ (∀ x, G' = some x → w.heap.size ≤ x) ∧ Kept (fun _ => True) w wn) := by
        intro wn G' v' l e g1 g2 g3
        rw [HS.out, e]
        refine ⟨g1, fun x hx => ?_, kr.then g2 (fun i hi _ => ⟨by omega, fun h => by have := hG i h; omega⟩)⟩
        rcases g3 x hx with h | h
        · exact hG x h
        · have := kr.size; omega
      have HW : Hid (Wr wr w.heap.size G v cur) := hw
      clear c0 c1 c2 c3 hw hG
      by_cases e1 : p.kind = 1
      · have q1 : (p.kind == 1) = true := by simp [e1]
        have E : Hid (p.enc = enc (u64 p.n) 1) := by show _ = _; simp [PartV.enc, e1]
        clear e1
        go_wp2_with fail
        refine Calls.mono (wbyte_any p.n HW.out (by omega)) ?_
        rintro e wn ⟨rfl, G', v', g1, g2, g3⟩
        go_wp2
        go_roundw
        case rel => exact ⟨k + 1, G', v', by omega, by omega, by go_num, FIN.out wn G' v' _ E.out g1 g2 g3⟩
        case measure => simp [intOf]; omega
      by_cases e2 : p.kind = 2
      · have q1 : (p.kind == 1) = false := by simp [e1]
        have q2 : (p.kind == 2) = true := by simp [e2]
        have E : Hid (p.enc = enc (u64 p.n) 4) := by show _ = _; simp [PartV.enc, e2]
        clear e1 e2
        go_wp2_with fail
        refine Calls.mono (wfour_any p.n HW.out (by omega)) ?_
        rintro e wn ⟨rfl, G', v', g1, g2, g3⟩
        go_wp2
        go_roundw
        case rel => exact ⟨k + 1, G', v', by omega, by omega, by go_num, FIN.out wn G' v' _ E.out g1 g2 g3⟩
        case measure => simp [intOf]; omega
      by_cases e3 : p.kind = 3
      · have q1 : (p.kind == 1) = false := by simp [e1]
        have q2 : (p.kind == 2) = false := by simp [e2]
        have q3 : (p.kind == 3) = true := by simp [e3]
        have E : Hid (p.enc = enc (u64 p.wide) 8) := by show _ = _; simp [PartV.enc, e3]
        clear e1 e2 e3
        go_wp2_with fail
        refine Calls.mono (weight_any p.wide HW.out (by omega)) ?_
        rintro e wn ⟨rfl, G', v', g1, g2, g3⟩
        go_wp2
        go_roundw
        case rel => exact ⟨k + 1, G', v', by omega, by omega, by go_num, FIN.out wn G' v' _ E.out g1 g2 g3⟩
        case measure => simp [intOf]; omega
      by_cases e4 : p.kind = 4
      · have q1 : (p.kind == 1) = false := by simp [e1]
        have q2 : (p.kind == 2) = false := by simp [e2]
        have q3 : (p.kind == 3) = false := by simp [e3]
        have q4 : (p.kind == 4) = true := by simp [e4]
        have E : Hid (p.enc = enc (u64 p.s.size) 4 ++ p.s.data.toList) := by show _ = _; simp [PartV.enc, e4]
        clear e1 e2 e3 e4
        go_wp2_with fail
        refine Calls.mono (wtext_any p.s HW.out (by omega)) ?_
        rintro e wn ⟨rfl, G', v', g1, g2, g3⟩
        go_wp2
        go_roundw
        case rel => exact ⟨k + 1, G', v', by omega, by omega, by go_num, FIN.out wn G' v' _ E.out (by rw [← List.append_assoc]; exact g1) g2 g3⟩
        case measure => simp [intOf]; omega
      · have q1 : (p.kind == 1) = false := by simp [e1]
        have q2 : (p.kind == 2) = false := by simp [e2]
        have q3 : (p.kind == 3) = false := by simp [e3]
        have q4 : (p.kind == 4) = false := by simp [e4]
        have E : Hid (p.enc = []) := by show _ = _; simp [PartV.enc, e1, e2, e3, e4]
        clear e1 e2 e3 e4
        go_wp2
        go_roundw
        case rel => exact ⟨k + 1, G, v, by omega, by omega, by go_num, FIN.out wr G v [] E.out (by rw [List.append_nil]; exact HW.out) (Kept.refl _ _) (fun x hx => .inl hx)⟩
        case measure => simp [intOf]; omega
    · have hg : (decide ((k : Int) < (plen : Int)) && decide ((k : Int) < 40)) = false := by simp; omega
      have hend : encTo ps k = encTo ps 40 := by
        unfold encTo
        by_cases h40 : k = 40
        · rw [h40]
        · have hkl : ps.length ≤ k := by rw [HP.out.1]; omega
          rw [List.take_of_length_le hkl, List.take_of_length_le (by omega)]
      rw [hend] at hw
      have hle := encTo_le ps 40
      clear hend
      generalize hE : encTo ps 40 = E at *
      have HE : Hid (encTo ps 40 = E) := hE
      clear hE
      have HW : Hid (∀ W, Kept (fun _ => True) wr W → Wr W w.heap.size G v E) := fun W hW => hw.kept hW trivial (fun _ _ => trivial)
      have HQ : Hid (∀ W, Kept (fun _ => True) wr W → IsParts W pa plen ps) := fun W hW => HP.out.kept ((kr.trans hW).mono (fun _ _ _ => trivial))
      have HEl : Hid ((E.length : Int) ≤ 140737488355328) := by show _ ≤ _; omega
      clear hw hle
      go_wp2
      all_goals
        go_region_with (first
            | (go_at_call 17; refine Calls.mono (done_any (HW.out _ (by first | exact (Kept.refl _ _).drew | assumption)) HEl.out) ?_; rintro e w2 ⟨D, rfl, hD, j2, _⟩; have hcv := conv_row (cap := E.length) hD; have q2 : Kept (fun _ => True) wr w2 := Kept.trans (by first | assumption | exact (Kept.refl _ _).drew) j2)
            | (go_at_call 21; refine Calls.mono (written_any (HQ.out _ (by assumption)) HPL.out hwt) ?_; rintro e w3 ⟨r, rfl, hr, j3⟩; rw [HE.out] at hr; have hcv3 := conv_own hr; have q3 : Kept (fun _ => True) wr w3 := Kept.trans (by assumption) j3; have hcvk := conv_row (cap := E.length) ((j3.block D (lt_of_block hD) trivial).trans hD))
            | (go_at_call 18; refine Calls.mono (known_any _) ?_; rintro e w4 ⟨rfl, j4⟩; have q4 : Kept (fun _ => True) wr w4 := Kept.trans (by assumption) j4))
        all_goals
          go_wp2
          go_ret
          exact ⟨rfl, kr.trans (by assumption)⟩

end Go.Proofs.Ytlkkmggopoknaaa
