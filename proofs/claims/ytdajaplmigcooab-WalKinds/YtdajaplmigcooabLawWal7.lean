/-
  WalKinds: whatever the byte, the texts and the numbers: true, and nothing old is written.
-/
import Derived.Test.YtdajaplmigcooabWRef
import Derived.Test.YtdajaplmigcooabWZeros
import Derived.Test.YtdajaplmigcooabSWithin
namespace Go.Proofs.Ytdajaplmigcooab
open Go.RowKit

theorem tcut_to (s : List UInt8) (m : Nat) : ∃ R : List UInt8, R.length ≤ m ∧ (((m : Int) < (s.length : Int) ∧ ∀ w0, (Instr.slice 9 (.string ⟨s.toArray⟩) none (some (.int .i64 (m : Int))) none).run Try.prog w0 = .ok (.string ⟨R.toArray⟩) w0) ∨ (¬ (m : Int) < (s.length : Int) ∧ R = s)) := by
  by_cases h : m < s.length
  · exact ⟨s.take m, by rw [List.length_take]; omega, .inl ⟨by omega, tcut s m (by omega)⟩⟩
  · exact ⟨s, by omega, .inr ⟨by omega, rfl⟩⟩
theorem rframe_at {w : World} (first : Bool) (r : List UInt8) (hs : r.length ≤ 1099511627776) :
    Calls Try.prog 6 #[.bool first, .string ⟨r.toArray⟩] w fun e w' => ∃ a c, e = .returned (.slice a (9 + r.length) c) ∧ Body w w' a (9 + r.length) c (frameOf first r) := by
  refine (rframe_any first ⟨r.toArray⟩ (by simpa [ByteArray.size] using hs)).mono ?_
  rintro e w' ⟨v, rfl, ho, hk⟩
  rw [show (⟨r.toArray⟩ : ByteArray).data.toList = r from rfl, frameOf_length] at ho
  obtain ⟨a, c, rfl⟩ := own_shape ho
  exact ⟨a, c, rfl, ho, frameOf_length _ _, hk⟩

theorem xor_some (x y : Int) : ∃ C : Nat, C < 4294967296 ∧ bits BinOp.xor .u32 x y = (C : Int) := by
  obtain ⟨z, hz⟩ : ∃ z : Int, bits BinOp.xor .u32 x y = IntKind.u32.wrap z := ⟨_, rfl⟩
  rw [hz]
  refine ⟨(IntKind.u32.wrap z).toNat, ?_, ?_⟩
  · simp [IntKind.wrap, IntKind.bits, IntKind.signed]; omega
  · simp [IntKind.wrap, IntKind.bits, IntKind.signed]; omega

set_option maxRecDepth 100000 in
set_option maxHeartbeats 2000000 in
theorem walKinds_any {w : World} (kind : Int) (hkd : 0 ≤ kind ∧ kind < 256) (rec : List UInt8) (more near : Int) (ahead : List UInt8) :
    Calls Try.prog 3 #[.int .u8 kind, .string ⟨rec.toArray⟩, .int .i64 more, .int .i64 near, .string ⟨ahead.toArray⟩] w fun e w' => e = .returned (.bool true) ∧ Kept (fun _ => True) w w' := by
  obtain ⟨kb, rfl⟩ : ∃ kb : UInt8, kind = (kb.toNat : Int) := ⟨UInt8.ofNat kind.toNat, by rw [UInt8.toNat_ofNat', Nat.mod_eq_of_lt (by omega)]; omega⟩
  clear hkd
  obtain ⟨R, hR, hsR⟩ := tcut_to rec 60
  replace hsR : ((60 : Int) < (rec.length : Int) ∧ ∀ w0, (Instr.slice 9 (.string ⟨rec.toArray⟩) none (some (.int .i64 60)) none).run Try.prog w0 = .ok (.string ⟨R.toArray⟩) w0) ∨ (¬ (60 : Int) < (rec.length : Int) ∧ R = rec) := hsR
  go_enter Try.func3, Try.ntmps3
  go_upto_if 23 with fail
  go_cut [1] from 21 to 25 (fun t wx => t = .string ⟨R.toArray⟩ ∧ w = wx)
  case first =>
    rcases hsR with ⟨g, hs⟩ | ⟨g, rfl⟩
    all_goals (go_wp2_with fail; go_meet; exact ⟨rfl, rfl⟩)
  case rest =>
  obtain ⟨rfl, hwc⟩ := hcut
  subst hwc
  clear hsR
  have hsz : (⟨R.toArray⟩ : ByteArray).size = R.length := by simp [ByteArray.size]
  rw [← hsz] at hR
  generalize (⟨R.toArray⟩ : ByteArray) = s at *
  clear hsz
  have hw1 : IntKind.i64.wrap (4000 - (s.size : Int)) = 4000 - (s.size : Int) := wrap_small _ (by omega) (by omega)
  have hw2 : IntKind.i64.wrap (4000 - (s.size : Int) - 1) = 4000 - (s.size : Int) - 1 := wrap_small _ (by omega) (by omega)
  have hw3 : IntKind.i64.wrap (4000 - (s.size : Int) + 1) = 4000 - (s.size : Int) + 1 := wrap_small _ (by omega) (by omega)
  go_upto_region 3 with fail
  go_cut [11] from 26 to 41 (fun t wx => ∃ N : Nat, N ≤ 4001 ∧ t = .int .i64 N ∧ Kept (fun _ => True) w wx)
  case first =>
    go_wp2_with fail
    refine Calls.mono (within_any more 5 (by decide)) ?_
    rintro e wk ⟨⟨k, hk, rfl⟩, rfl⟩
    rcases (by omega : k = 0 ∨ k = 1 ∨ k = 2 ∨ k = 3 ∨ k = 4 ∨ k = 5) with rfl | rfl | rfl | rfl | rfl | rfl
    all_goals
      go_wp2_with fail
      go_meet
      first
        | exact ⟨0, by omega, rfl, (Kept.refl _ _).alloc _⟩
        | exact ⟨4000 - s.size - 1, by omega, by congr 1; omega, (Kept.refl _ _).alloc _⟩
        | exact ⟨4000 - s.size, by omega, by congr 1; omega, (Kept.refl _ _).alloc _⟩
        | exact ⟨4000 - s.size + 1, by omega, by congr 1; omega, (Kept.refl _ _).alloc _⟩
  case rest =>
  obtain ⟨N, hN, rfl, kc⟩ := hcut
  have KC : Hid (Kept (fun _ => True) w wc) := kc
  clear kc hw1 hw2 hw3
  go_wp2_with (first
    | (at_builtin; refine wpList_append_str rfl (.tmp 43) (.tmp 44) rfl (.slice (some ⟨wc.heap.size, 0, none⟩) 1 1) 1 (cells [kb]) rfl (own_block (bs := [kb]) (heap_alloc_new wc _) (Nat.zero_le _) (by simp)) s rfl (by omega) ?_; intro a1 c1 w1 ho1 hg1 hat1; have B1 : Hid (Body wc w1 a1 (1 + s.size) c1 (kb :: s.data.toList)) := Body.mk1 (w := wc) (own_block (bs := [kb]) (heap_alloc_new wc _) (Nat.le_refl _) (by simp)) ((Kept.refl _ _).alloc _) ho1 hg1 hat1; clear ho1 hg1 hat1)
    | (at_builtin; refine wpList_append_zeros rfl (.tmp 45) (.tmp 46) rfl wc.heap.size (.slice a1 (1 + s.size) c1) (1 + s.size) _ rfl B1.out.own (by omega) B1.out.kept.size N rfl (by omega) ?_; intro a2 c2 w2 ho2 hg2))
  have hYl : ((kb :: s.data.toList) ++ List.replicate N (0 : UInt8)).length = 1 + s.size + N := by rw [List.length_append, B1.out.len, List.length_replicate]
  have ez : List.replicate N (Value.int .u8 0) = cells (List.replicate N 0) := by simp [cells]
  rw [ez, ← cells_append] at ho2
  have k2 : Kept (fun _ => True) wc w2 := B1.out.kept.grown hg2 (fun k hk e => by have := (B1.out.own.lt k e).1; omega)
  have hM : 1 + s.size + N ≤ 4100 ∧ 1 ≤ 1 + s.size + N := by omega
  clear hg2 ez B1
  generalize (kb :: s.data.toList) ++ List.replicate N (0 : UInt8) = Y at *
  generalize 1 + s.size + N = M at *
  obtain ⟨hM1, hM2⟩ := hM
  have B2 : Hid (Body wc w2 a2 M c2 Y) := ⟨ho2, hYl, k2⟩
  clear ho2 hYl k2
  refine Calls.mono (crc_at B2.out.has B2.out.len (by omega)) ?_
  rintro e w2 ⟨rfl, rfl⟩
  have hC := crcOf_lt Y
  generalize crcOf Y = C at *
  go_upto_if 52 with fail
  go_cut [13] from 50 to 59 (fun t wx => ∃ C' : Nat, C' < 4294967296 ∧ t = .int .u32 C' ∧ w2 = wx)
  case first =>
    by_cases hm : near.tmod 4 = 0
    · have hm' : (near.tmod 4 == 0) = true := by simp [hm]
      clear hm
      go_wp2_with fail
      refine Calls.mono (within_any _ 31 (by decide)) ?_
      rintro e wk ⟨⟨k, hk, rfl⟩, rfl⟩
      go_wp2_with fail
      go_meet
      obtain ⟨C2, h2, e2⟩ := xor_some (C : Int) (2 ^ k % 4294967296)
      exact ⟨C2, h2, by rw [← e2], rfl⟩
    · have hm' : (near.tmod 4 == 0) = false := by simp [hm]
      clear hm
      go_wp2_with fail
      go_meet
      exact ⟨C, hC, rfl, rfl⟩
  case rest =>
  obtain ⟨C', hC', rfl, hwc⟩ := hcut
  subst hwc
  have hwM : IntKind.i64.wrap ((M : Int) - 1) = (M : Int) - 1 := wrap_small _ (by omega) (by omega)
  have p0 := byte0 ((M : Int) - 1)
  have p1 := byte1 ((M : Int) - 1)
  have p2 := byte2 ((M : Int) - 1)
  have p3 := byte3 ((M : Int) - 1)
  have q0 := byte0 (C' : Int)
  have q1 := byte1 (C' : Int)
  have q2 := byte2 (C' : Int)
  have q3 := byte3 (C' : Int)
  generalize byteAt (u64 ((M : Int) - 1)) 0 = x0 at *
  generalize byteAt (u64 ((M : Int) - 1)) 1 = x1 at *
  generalize byteAt (u64 ((M : Int) - 1)) 2 = x2 at *
  generalize byteAt (u64 ((M : Int) - 1)) 3 = x3 at *
  generalize byteAt (u64 (C' : Int)) 0 = z0 at *
  generalize byteAt (u64 (C' : Int)) 1 = z1 at *
  generalize byteAt (u64 (C' : Int)) 2 = z2 at *
  generalize byteAt (u64 (C' : Int)) 3 = z3 at *
  go_wp2_with (at_builtin; refine wpList_append_has rfl (.tmp 85) (.tmp 86) rfl wc.heap.size (.slice (some ⟨w2.heap.size, 0, none⟩) 8 8) 8 _ rfl (own_block (bs := [x3, x2, x1, x0, z3, z2, z1, z0]) (heap_alloc_new w2 _) B2.out.kept.size (by simp)) (Nat.le_trans B2.out.kept.size (by simp)) a2 M c2 rfl Y B2.out.len B2.out.nil (B2.out.has.kept ((Kept.refl (fun _ => True) w2).alloc _) (fun _ _ => trivial)) (by omega) ?_; intro a3 c3 w3 ho3 hg3 hl3)
  rw [← cells_append] at ho3
  have B3 : Hid (Body wc w3 a3 (8 + M) c3 ([x3, x2, x1, x0, z3, z2, z1, z0] ++ Y)) := ⟨ho3, by rw [List.length_append, B2.out.len]; rfl, (B2.out.kept.alloc _).grown hg3 (fun k hk e => by have e' : w2.heap.size = k := (by simpa [Value.ownBlock] using e); have := B2.out.kept.size; omega)⟩
  clear ho3 hg3 hl3 B2 p0 p1 p2 p3 q0 q1 q2 q3 hwM
  generalize [x3, x2, x1, x0, z3, z2, z1, z0] ++ Y = Z at *
  refine Calls.mono (few_any ahead) ?_
  rintro e w3 ⟨rfl, rfl⟩
  have hr100 : (ahead.take 100).length ≤ 100 := by rw [List.length_take]; omega
  generalize ahead.take 100 = r at *
  go_wp2_with fail
  refine Calls.mono (rframe_at false r (by omega)) ?_
  rintro e w4 ⟨a4, c4, rfl, b4⟩
  have B4 : Hid (Body w3 w4 a4 (9 + r.length) c4 (frameOf false r)) := b4
  have B3' : Hid (Body wc w4 a3 (8 + M) c3 Z) := B3.out.next b4.kept (fun _ _ => trivial) (fun _ _ => trivial)
  have hs34 := B3.out.kept.size
  clear b4 B3
  go_wp2_with (at_builtin; refine wpList_append_has rfl (.tmp 90) (.tmp 91) rfl w3.heap.size (.slice a4 (9 + r.length) c4) (9 + r.length) _ rfl B4.out.own B4.out.kept.size a3 (8 + M) c3 rfl Z B3'.out.len B3'.out.nil B3'.out.has (by omega) ?_; intro a5 c5 w5 ho5 hg5 hl5)
  rw [← cells_append] at ho5
  have k5 : Kept (fun _ => True) wc w5 := B3'.out.kept.grown hg5 (fun k hk e => by have := (B4.out.own.lt k e).1; omega)
  have hl5' : (frameOf false r ++ Z).length = 9 + r.length + (8 + M) := by rw [List.length_append, B3'.out.len, frameOf_length]
  clear B4 B3' hg5 hl5
  generalize frameOf false r ++ Z = X5 at *
  have hM5 : 9 + r.length + (8 + M) ≤ 4300 := by omega
  have hM50 : 1 ≤ 9 + r.length + (8 + M) := by omega
  generalize 9 + r.length + (8 + M) = M5 at *
  refine Calls.mono (rframe_at false [98, 101, 104, 105, 110, 100] (by simp)) ?_
  rintro e w6 ⟨a6, c6, rfl, b6⟩
  have B6 : Hid (Body w5 w6 a6 (9 + 6) c6 (frameOf false [98, 101, 104, 105, 110, 100])) := b6
  have HO6 : Hid (w6.ownsRow w3.heap.size 5 1 (.slice a5 M5 c5) M5 (cells X5)) := own_kept ho5 b6.kept (fun _ _ => trivial)
  have K6 : Hid (Kept (fun _ => True) wc w6) := k5.trans b6.kept
  have hs6 : Hid (w3.heap.size ≤ w6.heap.size) := by
    rcases ho5.2 with ⟨_, h0⟩ | ⟨g, _, _, hv, hg, hh, _⟩
    · exact absurd h0 (by omega)
    · exact Nat.le_trans (Nat.le_trans hg (Nat.le_of_lt (lt_of_block hh))) b6.kept.size
  clear b6 ho5 k5
  go_wp2_with (at_builtin; refine wpList_append_has rfl (.tmp 92) (.tmp 93) rfl w3.heap.size (.slice a5 M5 c5) M5 _ rfl HO6.out hs6.out a6 15 c6 rfl _ B6.out.len B6.out.nil B6.out.has (by omega) ?_; intro a7 c7 w7 ho7 hg7 hl7)
  rw [← cells_append] at ho7
  have k7 : Kept (fun _ => True) w w7 := (KC.out.trans K6.out).grown hg7 (fun k hk e => by have := (HO6.out.lt k e).1; have := KC.out.size; omega)
  have vx : View w7 a7 (M5 + 15) c7 (X5 ++ frameOf false [98, 101, 104, 105, 110, 100]) := View.own ho7 (by rw [List.length_append, hl5', frameOf_length]; rfl)
  clear ho7 hg7 hl7 B6 HO6 K6 hs6
  generalize X5 ++ frameOf false [98, 101, 104, 105, 110, 100] = X7 at *
  refine Calls.mono (scan_any vx (by omega)) ?_
  rintro e w9 ⟨p9, rfl, h9, k9⟩
  obtain ⟨a9, c9, rfl, -, -⟩ := h9.shape
  go_wp2_with fail
  refine Calls.mono (rscan_any (vx.kept k9) (by omega)) ?_
  rintro e wa ⟨pa, rfl, ha, ka⟩
  obtain ⟨aa, ca, rfl, -, -⟩ := ha.shape
  have hsf := Nat.le_trans (scanOf_few X7) (scanOf_le X7)
  rw [vx.len] at hsf
  have H9 : Hid (Txs wa _ _ (scanOf X7).1) := h9.kept ka (fun _ _ => trivial)
  have HA : Hid (Txs wa _ _ (scanOf X7).1) := ha
  have Ka : Hid (Kept (fun _ => True) w wa) := k7.trans (k9.trans ka)
  clear h9 ha k9 ka vx k7
  generalize (scanOf X7).1.length = sl at *
  generalize (scanOf X7).2 = sn at *
  go_wp2_with fail
  refine Calls.mono (texts_any H9.out HA.out (by omega)) ?_
  rintro e wb ⟨rfl, nb, rfl⟩
  rw [decide_eq_true rfl]
  go_wp2_with fail
  refine Calls.mono known_any ?_
  rintro e we ⟨rfl, ke⟩
  go_wp2
  go_ret
  exact ⟨rfl, (Ka.out.drewN _).trans ke⟩

end Go.Proofs.Ytdajaplmigcooab
