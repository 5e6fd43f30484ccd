/-
  The walk of WireStops: it answers true, and turns nothing that was there.
-/
import Derived.Test.YtlkkmggopoknaabKnown
import Derived.Test.YtlkkmggopoknaabRd6
import Derived.Test.YtlkkmggopoknaabParts
namespace Go.Proofs.Ytlkkmggopoknaab
open Go.RowKit

def st0 : RS := ⟨0, 37⟩
theorem stop_num (bs : List UInt8) (k : Nat) : st0.num bs k = (0, st0) := by simp [RS.num, st0]
theorem stop_count (bs : List UInt8) (m : Int) : st0.count bs m = (0, st0) := by
  unfold RS.count; rw [stop_num]; rw [if_neg]; simp; omega
theorem stop_text (bs : List UInt8) (m : Int) : st0.text bs m = ([], st0) := by
  unfold RS.text; rw [stop_count]; simp [RS.left, leftOf, st0]
theorem stop_left (bs : List UInt8) : st0.left bs = 0 := by simp [RS.left, leftOf, st0]
theorem stop_fail (y : Int) : st0.fail y = st0 := by simp [RS.fail, st0]
theorem stop_end (bs : List UInt8) : st0.end_ bs = (37, 0) := by simp [RS.end_, st0]
theorem start_fail : (⟨0, 0⟩ : RS).fail 37 = st0 := by simp [RS.fail, st0]

theorem parts_cell {w : World} {a : Option Addr} {len : Nat} {ps : List PartV} (h : IsParts w a len ps) (k : Nat) (hk : k < len) : ∃ b off, a = some ⟨b, off, none⟩ ∧ b < w.heap.size ∧ ∃ p : PartV, p.fits ∧ PartAt w b (off + k * 4) p ∧ ps[k]? = some p := by
  obtain ⟨b, off, e, hlt, hp⟩ := h.2.2 (by omega)
  have hk' : k < ps.length := by rw [h.1]; exact hk
  exact ⟨b, off, e, hlt, ps[k], h.2.1 _ (List.getElem_mem _), hp k hk', List.getElem?_eq_getElem hk'⟩

theorem Kept.cell {p : Nat → Prop} {w w' : World} (h : Kept p w w') {b o : Nat} (hlt : b < w.heap.size) (hp : p b) : w'.cell? ⟨b, o, none⟩ = w.cell? ⟨b, o, none⟩ := World.cell?_of_block (w := w) (h.block b hlt hp)

set_option maxRecDepth 100000 in
set_option maxHeartbeats 2000000 in
theorem stops_any {w : World} {bs : List UInt8} {ao pa : Option Addr} {cap plen pcap : Nat} {ps : List PartV} (hb : (bs.length : Int) ≤ 140737488355328) (hc : Has w ao bs) (hp : IsParts w pa plen ps) (hpl : plen ≤ maxLen) :
    Calls Try.prog 3 #[.slice ao bs.length cap, .slice pa plen pcap] w fun e w' => e = .returned (.bool true) ∧ Kept (fun _ => True) w w' := by
  unfold maxLen at hpl
  have hpl' : (plen : Int) ≤ 9223372036854775807 := by omega
  have HC : Hid (Has w ao bs) := hc
  have HP : Hid (IsParts w pa plen ps) := hp
  clear hc hp hpl
  go_enter Try.func3, Try.ntmps3
  go_wp2_with fail
  refine Calls.mono (newReader_any hb HC.out) ?_
  rintro e w1 ⟨B, R, rfl, hr, k1, hB, hR⟩
  go_wp2_with fail
  refine Calls.mono (fail_any 37 hr) ?_
  rw [start_fail]
  rintro e w2 ⟨rfl, hr2, k2⟩
  have k02 : Kept (fun _ => True) w w2 := k1.then k2 (fun i hi _ => by omega)
  clear hr k1 k2
  go_wp2
  go_loopw [6] (fun t wr => ∃ k : Nat, k ≤ plen ∧ t = .int .i64 k ∧ Rs wr B R bs bs.length st0 ∧ Kept (fun _ => True) w wr) (fun t _ => plen - (intOf t).toNat)
  case atStart => exact ⟨0, Nat.zero_le _, rfl, hr2, k02⟩
  case round =>
    obtain ⟨k, hk, rfl, hr, kr⟩ := hrel
    by_cases hlt : k < plen ∧ k < 20
    · obtain ⟨h1, h2⟩ := hlt
      obtain ⟨b, off, rfl, hbl, p, hfit, ⟨_, c1, _, _⟩, _⟩ := parts_cell HP.out k h1
      have hbB : b ≠ B := by omega
      have hk1 : (k : Int) < (plen : Int) := by omega
      have hk2 : (k : Int) < 20 := by omega
      go_wp2_with fail
      refine Calls.mono (byte_any hr) ?_
      rw [stop_num]
      rintro e u1 ⟨rfl, hr1, j1⟩
      have q1 : Kept (fun _ => True) w u1 := kr.then j1 (fun i hi _ => by omega)
      clear hr kr j1
      go_wp2_with fail
      refine Calls.mono (four_any hr1) ?_
      rw [stop_num]
      rintro e u2 ⟨rfl, hr2', j2⟩
      have q2 : Kept (fun _ => True) w u2 := q1.then j2 (fun i hi _ => by omega)
      clear hr1 q1 j2
      go_wp2_with fail
      refine Calls.mono (eight_any hr2') ?_
      rw [stop_num, show i64 ((0 : Nat) : Int) = 0 from by simp [i64, wrap64]]
      rintro e u3 ⟨rfl, hr3, j3⟩
      have q3 : Kept (fun _ => True) w u3 := q2.then j3 (fun i hi _ => by omega)
      have c13 : u3.cell? ⟨b, off + k * 4 + 1, none⟩ = some (.int .i64 p.n) := (q3.cell hbl trivial).trans c1
      clear hr2' q2 j3
      go_wp2_with fail
      refine Calls.mono (text_any p.n hr3) ?_
      rw [stop_text]
      rintro e u4 ⟨rfl, hr4, j4⟩
      have q4 : Kept (fun _ => True) w u4 := q3.then j4 (fun i hi _ => by omega)
      have c14 : u4.cell? ⟨b, off + k * 4 + 1, none⟩ = some (.int .i64 p.n) := (q4.cell hbl trivial).trans c1
      clear hr3 q3 j4
      go_wp2_with fail
      refine Calls.mono (count_any p.n hr4) ?_
      rw [stop_count]
      rintro e u5 ⟨rfl, hr5, j5⟩
      have q5 : Kept (fun _ => True) w u5 := q4.then j5 (fun i hi _ => by omega)
      clear hr4 q4 j5
      go_wp2_with fail
      refine Calls.mono (left_is hr5) ?_
      rw [stop_left]
      rintro e _ ⟨rfl, n6, rfl⟩
      have hr6 := hr5.kept ((Kept.refl (fun _ => True) u5).drewN n6) trivial trivial
      have q6 := q5.drewN n6
      clear hr5 q5
      go_wp2_with fail
      refine Calls.mono (fail_any 35 hr6) ?_
      rw [stop_fail]
      rintro e u7 ⟨rfl, hr7, j7⟩
      have q7 : Kept (fun _ => True) w u7 := q6.then j7 (fun i hi _ => by omega)
      clear hr6 q6 j7
      go_wp2
      go_roundw
      case rel => exact ⟨k + 1, by omega, by go_num, hr7, q7⟩
      case measure => simp [intOf]; omega
    · have hg : (decide ((k : Int) < (plen : Int)) && decide ((k : Int) < 20)) = false := by simp; omega
      go_wp2_with fail
      all_goals
        refine Calls.mono (end_any hr) ?_
        rw [stop_end]
        rintro e _ ⟨rfl, n8, rfl⟩
        have q8 := kr.drewN n8
        go_wp2_with fail
        refine Calls.mono (known_any _) ?_
        rintro e u9 ⟨rfl, j9⟩
        go_wp2
        go_ret
        exact ⟨rfl, q8.trans j9⟩

end Go.Proofs.Ytlkkmggopoknaab
