/-
  The books' own Same and Intact, over bytes that are as they were.
-/
import Derived.Test.YtlkkmggopoknaaaBook
namespace Go.Proofs.Ytlkkmggopoknaaa
open Go.RowKit

theorem has_plain {w : World} {ao : Option Addr} {bs : List UInt8} (h : Has w ao bs) (h0 : 0 < bs.length) : ∃ b off, ao = some ⟨b, off, none⟩ ∧ ∀ j (hj : j < bs.length), w.cell? ⟨b, off + j, none⟩ = some (.int .u8 (bs[j]).toNat) := by
  obtain ⟨⟨b, off, spot⟩, rfl, hc⟩ := h h0
  have hs : spot = none := by simpa [Addr.add] using World.cell?_spot (hc 0 h0)
  subst hs
  exact ⟨b, off, rfl, fun j hj => by rw [← WideShapes.add_plain]; exact hc j hj⟩

theorem full_get (bs : List UInt8) (k : Nat) (hk : k < 80) : (full bs)[bs.length + k]? = some 165 := by
  unfold full
  rw [List.getElem?_append_right (by omega), Nat.add_sub_cancel_left, List.getElem?_replicate, if_pos hk]

set_option maxHeartbeats 1000000 in
theorem same_any {w : World} {a b : Option Addr} {c d : Nat} {bs : List UInt8} (ha : Has w a bs) (hb : Has w b bs) (hl : (bs.length : Int) ≤ 140737488355328) :
    Calls Try.prog 47 #[.slice a bs.length c, .slice b bs.length d] w fun e w' => e = .returned (.bool true) ∧ ∃ n, w' = w.drewN n := by
  have HA : Hid (Has w a bs) := ha
  have HB : Hid (Has w b bs) := hb
  clear ha hb
  go_enter Try.func47, Try.ntmps47
  go_wp2
  go_loopw [5] (fun t wr => ∃ k m : Nat, k ≤ bs.length ∧ t = .int .i64 k ∧ wr = w.drewN m) (fun t _ => bs.length - (intOf t).toNat)
  case atStart => exact ⟨0, 0, Nat.zero_le _, rfl, rfl⟩
  case round =>
    obtain ⟨k, m, hk, rfl, rfl⟩ := hrel
    by_cases hlt : k < bs.length
    · obtain ⟨b1, o1, rfl, h1⟩ := has_plain HA.out (by omega)
      obtain ⟨b2, o2, rfl, h2⟩ := has_plain HB.out (by omega)
      have c1 := h1 k hlt
      have c2 := h2 k hlt
      have hkl : (k : Int) < (bs.length : Int) := by omega
      have hk0 : (0 : Int) ≤ (k : Int) := by omega
      generalize (bs[k]).toNat = y at *
      clear h1 h2
      go_wp2
      go_quiet (fail)
      go_wp2
      go_roundw
      case rel => exact ⟨k + 1, _, by omega, by go_num, rfl⟩
      case measure => simp [intOf]; omega
    · have hkl : ¬ ((k : Int) < (bs.length : Int)) := by omega
      go_wp2
      go_ret
      exact ⟨rfl, m, rfl⟩

set_option maxHeartbeats 1000000 in
theorem intact_any {w : World} {D base : Nat} {b : Option Addr} {d : Nat} {bs : List UInt8} (ho : w.ownsRow base 5 1 (.slice (some ⟨D, 0, none⟩) (bs.length + 80) (bs.length + 80)) (bs.length + 80) (cells (full bs))) (hb : Has w b bs) (hl : (bs.length : Int) ≤ 100000000000) :
    Calls Try.prog 35 #[.slice (some ⟨D, 0, none⟩) (bs.length + 80) (bs.length + 80), .slice b bs.length d, .int .u8 165] w fun e w' => e = .returned (.bool true) ∧ ∃ n, w' = w.drewN n := by
  have hcell : ∀ j (hj : j < (full bs).length), w.cell? ⟨D, j, none⟩ = some (.int .u8 ((full bs)[j]).toNat) := fun j hj => by
    rw [full_length] at hj
    rw [ho.cellAt j (by omega), cells_getElem (full bs) j (by rw [full_length]; exact hj)]
  have ha : Has w (some ⟨D, 0, none⟩) bs := by
    intro h0
    refine ⟨_, rfl, fun j hj => ?_⟩
    rw [WideShapes.add_plain, Nat.zero_add, hcell j (by rw [full_length]; omega)]
    congr 3
    simp [full, List.getElem_append_left hj]
  have htail : ∀ k, k < 80 → w.cell? ⟨D, bs.length + k, none⟩ = some (.int .u8 165) := fun k hk => by
    have hj : bs.length + k < (full bs).length := by rw [full_length]; omega
    have e : (full bs)[bs.length + k] = 165 := (List.getElem?_eq_some_iff.1 (full_get bs k hk)).2
    rw [hcell (bs.length + k) hj, e]
    rfl
  have hsl : ∀ w0, (Instr.slice 26 (.slice (some ⟨D, 0, none⟩) (bs.length + 80) (bs.length + 80)) none (some (.int .i64 (bs.length : Int))) none).run Try.prog w0 = .ok (.slice (some ⟨D, 0, none⟩) bs.length (bs.length + 80)) w0 := fun w0 => by
    rw [run_slice_h (P := Try.prog) w0 26 (some ⟨D, 0, none⟩) (bs.length + 80) (bs.length + 80) Try.underlying26 .i64 bs.length (by omega) (by omega), size_u8]
    simp [Result.andThen, sliced, Addr.add]
  have c := same_any (c := bs.length + 80) (d := d) ha hb (by omega)
  have HT : Hid (∀ k, k < 80 → w.cell? ⟨D, bs.length + k, none⟩ = some (.int .u8 165)) := htail
  clear ho hcell ha htail hb
  go_enter Try.func35, Try.ntmps35
  go_wp2_with fail
  refine Calls.mono c ?_
  rintro e _ ⟨rfl, m0, rfl⟩
  clear c
  go_wp2
  go_loopw [7] (fun t wr => ∃ k m : Nat, k ≤ 80 ∧ t = .int .i64 ((bs.length + k : Nat) : Int) ∧ wr = w.drewN m) (fun t _ => bs.length + 80 - (intOf t).toNat)
  case atStart => exact ⟨0, m0, by omega, rfl, rfl⟩
  case round =>
    obtain ⟨k, m, hk, rfl, rfl⟩ := hrel
    by_cases hlt : k < 80
    · have c1 := HT.out k hlt
      have hkl : (bs.length : Int) + (k : Int) < (bs.length : Int) + 80 := by omega
      go_wp2
      go_roundw
      case rel => exact ⟨k + 1, _, by omega, by go_num, rfl⟩
      case measure => simp [intOf]; omega
    · have hkl : ¬ ((bs.length : Int) + (k : Int) < (bs.length : Int) + 80) := by omega
      go_wp2
      go_ret
      exact ⟨rfl, m, rfl⟩

end Go.Proofs.Ytlkkmggopoknaaa
