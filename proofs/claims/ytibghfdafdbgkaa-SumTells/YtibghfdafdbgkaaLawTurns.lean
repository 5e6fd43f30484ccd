/-
  SumTurns: it answers true for every bytes, place and bit.
-/
import Derived.Test.YtibghfdafdbgkaaSHash
import Derived.Test.YtibghfdafdbgkaaSWithin
namespace Go.Proofs.Ytibghfdafdbgkaa
open Go.RowKit

/-- The first n bytes of a slice. -/
theorem cut_front (ao : Option Addr) (len cap n : Nat) (h : n ≤ len) (hc : len ≤ cap) (w0 : World) : (Instr.slice 24 (.slice ao len cap) none (some (.int .i64 (n : Int))) none).run Try.prog w0 = .ok (.slice ao n cap) w0 := by
  rw [run_slice_h (P := Try.prog) w0 24 ao len cap Try.underlying24 .i64 n (by omega) (by omega), size_u8]
  simp [Result.andThen, sliced]
  cases ao <;> simp [Addr.add]
theorem Has.take {w : World} {ao : Option Addr} {bs : List UInt8} (h : Has w ao bs) (n : Nat) : Has w ao (bs.take n) := by
  intro h0
  have hl : (bs.take n).length ≤ bs.length := by simp; omega
  obtain ⟨ad, rfl, hc⟩ := h (by omega)
  refine ⟨ad, rfl, fun j hj => ?_⟩
  rw [hc j (by omega), List.getElem_take]

/-- A byte with one bit turned is another. -/
theorem turned_ne (y : UInt8) (t : Nat) (ht : t ≤ 7) : ∃ z : UInt8, bits BinOp.xor .u8 (y.toNat : Int) (IntKind.u8.wrap (2 ^ min (IntKind.u64.wrap (t : Int)).toNat 8)) = ((z.toNat : Nat) : Int) ∧ y ≠ z := by
  have hy := y.toNat_lt
  have hp : 2 ^ t < 256 := by
    have : 2 ^ t ≤ 2 ^ 7 := Nat.pow_le_pow_right (by decide) ht
    omega
  have hx : y.toNat ^^^ 2 ^ t < 256 := Nat.xor_lt_two_pow (n := 8) hy hp
  have e1 : (IntKind.u64.wrap (t : Int)).toNat = t := by
    simp [IntKind.wrap, IntKind.bits, IntKind.signed]; omega
  have e2 : IntKind.u8.wrap (2 ^ t) = ((2 ^ t : Nat) : Int) := by
    have : ((2 : Int) ^ t) = ((2 ^ t : Nat) : Int) := by simp
    rw [this]
    generalize 2 ^ t = q at hp
    simp [IntKind.wrap, IntKind.bits, IntKind.signed]; omega
  rw [e1, Nat.min_eq_left (by omega), e2]
  refine ⟨UInt8.ofNat (y.toNat ^^^ 2 ^ t), ?_, fun e => ?_⟩
  · rw [u8_xor_nat y.toNat (2 ^ t) hy hp, UInt8.toNat_ofNat', Nat.mod_eq_of_lt hx]
  · have h2 := congrArg UInt8.toNat e
    rw [UInt8.toNat_ofNat', Nat.mod_eq_of_lt hx] at h2
    have h3 := congrArg (· ^^^ y.toNat) h2
    simp only [Nat.xor_self] at h3
    rw [Nat.xor_comm y.toNat, Nat.xor_assoc, Nat.xor_self, Nat.xor_zero] at h3
    have := Nat.two_pow_pos t
    omega

set_option maxRecDepth 100000 in
set_option maxHeartbeats 1000000 in
theorem sumTurns_any {w : World} {ao : Option Addr} {cap : Nat} {bs : List UInt8} (at_ bit : Int) (hh : Has w ao bs) (hn : ao = none → cap = 0) (hcap : bs.length ≤ cap) (hl : (bs.length : Int) ≤ 140737488355328) :
    Calls Try.prog 5 #[.slice ao bs.length cap, .int .i64 at_, .int .i64 bit] w fun e w' => e = .returned (.bool true) ∧ Kept (fun _ => True) w w' := by
  rcases Nat.eq_zero_or_pos bs.length with h0 | h0
  · have c := known_any w
    rw [h0]
    go_enter Try.func5, Try.ntmps5
    go_wp2_with fail
    refine Calls.mono c ?_
    rintro e w1 ⟨rfl, k1⟩
    go_wp2
    go_ret
    exact ⟨rfl, k1⟩
  obtain ⟨B, hB0, hB, hHB, hsB⟩ : ∃ B : List UInt8, 0 < B.length ∧ B.length ≤ 2000 ∧ Has w ao B ∧ (((2000 : Int) < (bs.length : Int) ∧ ∀ w0, (Instr.slice 24 (.slice ao bs.length cap) none (some (.int .i64 2000)) none).run Try.prog w0 = .ok (.slice ao B.length cap) w0) ∨ (¬ (2000 : Int) < (bs.length : Int) ∧ B = bs)) := by
    by_cases h : (2000 : Int) < (bs.length : Int)
    · have e : (bs.take 2000).length = 2000 := by simp; omega
      exact ⟨bs.take 2000, by omega, by omega, hh.take 2000, .inl ⟨h, by rw [e]; exact cut_front ao bs.length cap 2000 (by omega) hcap⟩⟩
    · exact ⟨bs, h0, by omega, hh, .inr ⟨h, rfl⟩⟩
  have hz : ((bs.length : Int) == 0) = false := beq_eq_false_iff_ne.2 (by omega)
  have hz2 : ¬ ((bs.length : Int) = 0) := by omega
  have HN : Hid (ao = none → cap = 0) := hn
  have HH : Hid (Has w ao B) := hHB
  clear hh hHB hn
  have hB1 : (B.length : Int) ≤ 2000 := by omega
  have hB2 : 1 ≤ (B.length : Int) := by omega
  rcases hsB with ⟨ga, hsB⟩ | ⟨ga, rfl⟩
  all_goals
    go_enter Try.func5, Try.ntmps5
    go_wp2_with (at_builtin; refine wpList_append_has rfl (.tmp 18) (.tmp 19) rfl w.heap.size (.slice (some ⟨w.heap.size, 0, none⟩) 0 0) 0 [] rfl (own_new w _ (Nat.le_refl _)) (by simp) ao B.length cap rfl B rfl HN.out (HH.out.kept ((Kept.refl (fun _ => True) w).alloc _) (fun _ _ => trivial)) (by omega) ?_; intro a1 c1 w1 ho1 hg1 hl1; simp only [Nat.zero_add, List.nil_append] at ho1 hl1)
    obtain ⟨D, rfl, hD⟩ : ∃ D, a1 = some ⟨D, 0, none⟩ ∧ w.heap.size ≤ D := by
      rcases ho1.2 with ⟨_, h⟩ | ⟨g, cap', cur, hv, hg, _⟩
      · omega
      · injection hv with e1 e2 e3
        exact ⟨g, e1, hg⟩
    have k1 : Kept (fun _ => True) w w1 := fresh_one hg1
    have cw : Calls Try.prog 19 #[.int .i64 at_, .int .i64 0, .int .i64 ((B.length : Int) - 1)] w1 fun e w' => (∃ k : Nat, k ≤ B.length - 1 ∧ e = .returned (.int .i64 k)) ∧ w' = w1 := by
      have := within_any (w := w1) at_ (B.length - 1) (by omega)
      rwa [show ((B.length - 1 : Nat) : Int) = (B.length : Int) - 1 by omega] at this
    clear hg1 hl1
    refine Calls.mono cw ?_
    rintro e w1 ⟨⟨k, hk, rfl⟩, rfl⟩
    clear cw
    have hkl : k < B.length := by omega
    have hkl' : (k : Int) < (B.length : Int) := by omega
    have hk0 : (0 : Int) ≤ (k : Int) := by omega
    have ck : w1.cell? ⟨D, k, none⟩ = some (.int .u8 (B[k]).toNat) := by
      rw [ho1.cellAt k (by omega), cells_getElem B k hkl]
    have fk : w1.frozen? ⟨D, k, none⟩ = false := ho1.frozenAt k
    have HO : Hid (w1.ownsRow w.heap.size 5 1 (.slice (some ⟨D, 0, none⟩) B.length c1) B.length (cells B)) := ho1
    have hT := turned_ne B[k]
    obtain ⟨y, hy⟩ : ∃ y : UInt8, B[k] = y := ⟨_, rfl⟩
    rw [hy] at ck hT
    have HY : Hid (B[k] = y) := hy
    clear ho1 hy
    go_wp2
    go_region_with (go_at_call 19; refine Calls.mono (within_any bit 7 (by decide)) ?_; rintro e _ ⟨⟨t, ht, rfl⟩, rfl⟩; obtain ⟨z, hz, hne⟩ := hT t ht)
    all_goals
      have ho2 : (w1.setCell ⟨D, k, none⟩ (.int .u8 z.toNat)).drew.ownsRow w.heap.size 5 1 (.slice (some ⟨D, 0, none⟩) B.length c1) (B.set k z).length (cells (B.set k z)) := by
        have := (HO.out.stored k (.int .u8 z.toNat)).1.drew
        rw [List.length_set]
        rw [show cells (B.set k z) = (cells B).set k (.int .u8 z.toNat) by simp [cells, List.map_set]]
        exact this
      have k2 : Kept (fun _ => True) w (w1.setCell ⟨D, k, none⟩ (.int .u8 z.toNat)).drew := by
        refine Kept.drew ⟨k1.os, k1.tape, k1.output, by have := k1.size; simpa using this, fun b hb _ => ?_⟩
        rw [Below.heap_setCell _ _ _ _ (by simp; omega)]
        exact k1.block b hb trivial
      have hb2 : Has (w1.setCell ⟨D, k, none⟩ (.int .u8 z.toNat)).drew ao B := HH.out.kept k2 (fun _ _ => trivial)
      have hc2 := own_has ho2
      have n1 : ¬ ((crcOf B : Nat) : Int) = ((crcOf (B.set k z) : Nat) : Int) := by
        have := crcOf_set B k z hkl (by rw [HY.out]; exact hne)
        omega
      have n2 : ¬ hexOf B = hexOf (B.set k z) := fun e => by
        have e1 := hexOf_inj _ _ e
        have e2 : B[k] = (B.set k z)[k]'(by simpa using hkl) := by
          congr 1
        rw [List.getElem_set_self, HY.out] at e2
        exact hne e2
      have lC : (B.set k z).length = B.length := by simp
      have lX := hexOf_length B
      generalize (w1.setCell ⟨D, k, none⟩ (.int .u8 z.toNat)).drew = w2 at *
      generalize B.set k z = C at *
      have cb := crc_any (cap := cap) hb2 (by omega)
      have cc := crc_any (cap := c1) hc2 (by omega)
      have xb := hex_any (cap := cap) hb2 (by omega)
      rw [lC] at cc
      have HC : Hid (Has w2 (some ⟨D, 0, none⟩) C) := hc2
      have HB : Hid (Has w2 ao B) := hb2
      clear hz hT ck fk ho2 HO k1 HY hb2 hc2 hne
      generalize crcOf B = s1 at *
      generalize crcOf C = s2 at *
      have q1 : ((s1 : Int) != (s2 : Int)) = true := by simpa using n1
      have q2 : (hexOf B == hexOf C) = false := by simpa using n2
      clear n1 n2
      go_wp2_with fail
      refine Calls.mono cb ?_
      rintro e w2 ⟨rfl, rfl⟩
      go_wp2_with fail
      refine Calls.mono cc ?_
      rintro e w2 ⟨rfl, rfl⟩
      clear cb cc
      go_wp2_with fail
      refine Calls.mono xb ?_
      rintro e w3 ⟨rfl, k3⟩
      clear xb
      have xc := hex_any (cap := c1) (HC.out.kept k3 (fun _ _ => trivial)) (by omega)
      rw [lC] at xc
      go_wp2_with fail
      refine Calls.mono xc ?_
      rintro e w4 ⟨rfl, k4⟩
      clear xc
      have xb := hex_any (cap := cap) (HB.out.kept (k3.trans k4) (fun _ _ => trivial)) (by omega)
      have lI : ((hexOf B).length : Int) = 2 * (B.length : Int) := by omega
      go_wp2_with fail
      refine Calls.mono xb ?_
      rintro e w5 ⟨rfl, k5⟩
      clear xb
      have ck := known_any w5
      go_wp2_with fail
      refine Calls.mono ck ?_
      rintro e w6 ⟨rfl, k6⟩
      go_wp2
      go_ret
      exact ⟨rfl, (((k2.trans k3).trans k4).trans k5).trans k6⟩

end Go.Proofs.Ytibghfdafdbgkaa
