/-
  WalFrames: whatever the bytes, the texts and the cuts: true, and nothing old is written.
-/
import Derived.Test.YtdajaplmigcooaaWStrs
import Derived.Test.YtdajaplmigcooaaWRef
import Derived.Test.YtdajaplmigcooaaDBook
import Derived.Test.YtdajaplmigcooaaSWithin
import Derived.Deep.RegionHeld
namespace Go.Proofs.Ytdajaplmigcooaa
open Go.RowKit

/-- A slice of truths. -/
def IsBools (w : World) (a : Option Addr) (n : Nat) (B : Nat → Bool) : Prop := 0 < n → ∃ b off, a = some ⟨b, off, none⟩ ∧ b < w.heap.size ∧ ∀ i, i < n → w.cell? ⟨b, off + i, none⟩ = some (.bool (B i))
theorem IsBools.kept {w w' : World} {a : Option Addr} {n : Nat} {B : Nat → Bool} (h : IsBools w a n B) (k : Kept (fun _ => True) w w') : IsBools w' a n B := by
  intro h0
  obtain ⟨b, off, e, hb, hc⟩ := h h0
  exact ⟨b, off, e, Nat.lt_of_lt_of_le hb k.size, fun i hi => (kept_cell k hb trivial).trans (hc i hi)⟩
theorem tcut_to (s : List UInt8) (m : Nat) : ∃ R : List UInt8, R.length ≤ m ∧ (((m : Int) < (s.length : Int) ∧ ∀ w0, (Instr.slice 9 (.string ⟨s.toArray⟩) none (some (.int .i64 (m : Int))) none).run Try.prog w0 = .ok (.string ⟨R.toArray⟩) w0) ∨ (¬ (m : Int) < (s.length : Int) ∧ R = s)) := by
  by_cases h : m < s.length
  · exact ⟨s.take m, by rw [List.length_take]; omega, .inl ⟨by omega, tcut s m (by omega)⟩⟩
  · exact ⟨s, by omega, .inr ⟨by omega, rfl⟩⟩
/-- Some bytes in a row of one's own. -/
structure Some1 (w wr : World) (ao : Option Addr) (n c : Nat) (X : List UInt8) : Prop where
  own : wr.ownsRow w.heap.size 5 1 (.slice ao n c) n (cells X)
  len : X.length = n
  kept : Kept (fun _ => True) w wr

theorem row_at1 {w : World} {base n : Nat} {ao : Option Addr} {cap : Nat} {zs : List UInt8} (h : w.ownsRow base 5 1 (.slice ao n cap) n (cells zs)) (hn : 0 < n) : ∃ G, ao = some ⟨G, 0, none⟩ ∧ base ≤ G := by
  rcases h.2 with ⟨_, h0⟩ | ⟨g, cap', cur, hv, hg, _⟩
  · omega
  · injection hv with e1 e2 e3
    exact ⟨g, e1, hg⟩
theorem xored (z : UInt8) (t : Int) (ht : 0 ≤ t ∧ t < 256) : ∃ y : UInt8, bits BinOp.xor .u8 (z.toNat : Int) t = (y.toNat : Int) := by
  obtain ⟨T, rfl⟩ := Int.eq_ofNat_of_zero_le ht.1
  have hz := z.toNat_lt
  refine ⟨UInt8.ofNat (z.toNat ^^^ T), ?_⟩
  have hx : z.toNat ^^^ T < 2 ^ 8 := Nat.xor_lt_two_pow (by omega) (by omega)
  rw [u8_xor_nat z.toNat T (by omega) (by omega)]
  rw [UInt8.toNat_ofNat', Nat.mod_eq_of_lt hx]
theorem Some1.set {w wr : World} {G n c : Nat} {X : List UInt8} (h : Some1 w wr (some ⟨G, 0, none⟩) n c X) (hG : w.heap.size ≤ G) (k : Nat) (y : UInt8) : Some1 w (wr.setCell ⟨G, k, none⟩ (.int .u8 y.toNat)) (some ⟨G, 0, none⟩) n c (X.set k y) := by
  refine ⟨?_, by rw [List.length_set]; exact h.len, h.kept.then (q := (· ≠ G)) ((Kept.refl _ _).setCell (by simp) _) (fun i hi _ => by omega)⟩
  rw [show cells (X.set k y) = (cells X).set k (.int .u8 y.toNat) by simp [cells, List.map_set]]
  exact (h.own.stored k (.int .u8 y.toNat)).1
theorem View.self {w : World} {ao : Option Addr} {n cap : Nat} {b : List UInt8} (h : View w ao n cap b) : View w ao b.length cap b := by
  have := h.len
  subst this
  exact h
theorem rframe_at {w : World} (first : Bool) (r : List UInt8) (hs : r.length ≤ 1099511627776) :
    Calls Try.prog 21 #[.bool first, .string ⟨r.toArray⟩] w fun e w' => ∃ a c, e = .returned (.slice a (9 + r.length) c) ∧ Body w w' a (9 + r.length) c (frameOf first r) := by
  refine (rframe_any first ⟨r.toArray⟩ (by simpa [ByteArray.size] using hs)).mono ?_
  rintro e w' ⟨v, rfl, ho, hk⟩
  rw [show (⟨r.toArray⟩ : ByteArray).data.toList = r from rfl, frameOf_length] at ho
  obtain ⟨a, c, rfl⟩ := own_shape ho
  exact ⟨a, c, rfl, ho, frameOf_length _ _, hk⟩

set_option maxRecDepth 100000 in
set_option maxHeartbeats 2000000 in
theorem walFrames_any {w : World} {a0 : Option Addr} {cap0 : Nat} {bs : List UInt8} (h0 : Has w a0 bs) (n0 : a0 = none → cap0 = 0) (l0 : bs.length ≤ cap0) {a1 : Option Addr} {cap1 : Nat} {ss : List (List UInt8)} (h1 : IsStrs w a1 ss) {a2 : Option Addr} {len2 cap2 : Nat} {Bf : Nat → Bool} (h2 : IsBools w a2 len2 Bf) (at_ : Int) (turn : Int) (ht : 0 ≤ turn ∧ turn < 256) (cut : Int) :
    Calls Try.prog 4 #[.slice a0 bs.length cap0, .slice a1 ss.length cap1, .slice a2 len2 cap2, .int .i64 at_, .int .u8 turn, .int .i64 cut] w fun e w' => e = .returned (.bool true) ∧ Kept (fun _ => True) w w' := by
  have HV : Hid (View w a0 bs.length cap0 bs) := ⟨h0, rfl, l0, n0⟩
  have HS : Hid (IsStrs w a1 ss) := h1
  have HB : Hid (IsBools w a2 len2 Bf) := h2
  clear h0 n0 l0 h1 h2
  go_enter Try.func4, Try.ntmps4
  go_wp2
  go_loopw [13, 14] (fun tx ti wr => ∃ (i n c : Nat) (ao : Option Addr) (X : List UInt8), i ≤ ss.length ∧ i ≤ 8 ∧ n ≤ 309 * i ∧ tx = .slice ao n c ∧ ti = .int .i64 i ∧ Some1 w wr ao n c X) (fun _ ti _ => 8 - (intOf ti).toNat)
  case atStart => exact ⟨0, 0, 0, none, [], Nat.zero_le _, Nat.zero_le _, Nat.le_refl _, rfl, rfl, World.ownsRow_nil _ _ _ _, rfl, Kept.refl _ _⟩
  case round =>
    obtain ⟨i, n, c, ao, X, hi, hi8, hn, rfl, rfl, hG⟩ := hrel
    have HG : Hid (Some1 w wr ao n c X) := hG
    clear hG
    by_cases hlt : i < ss.length ∧ i < 8
    · obtain ⟨hl1, hl2⟩ := hlt
      have hl1' : (i : Int) < (ss.length : Int) := by omega
      have hl2' : (i : Int) < 8 := by omega
      have hi0 : (0 : Int) ≤ (i : Int) := by omega
      obtain ⟨b, off, rfl, hb, hcell⟩ := HS.out.1 (by omega)
      have c1 : wr.cell? ⟨b, off + i, none⟩ = some (.string ⟨(ss[i]).toArray⟩) := (kept_cell HG.out.kept hb trivial).trans (hcell i hl1)
      clear hcell hb
      obtain ⟨R, hR, hsR⟩ := tcut_to (ss[i]) 300
      replace hsR : ((300 : Int) < ((ss[i]).length : Int) ∧ ∀ w0, (Instr.slice 9 (.string ⟨(ss[i]).toArray⟩) none (some (.int .i64 300)) none).run Try.prog w0 = .ok (.string ⟨R.toArray⟩) w0) ∨ (¬ (300 : Int) < ((ss[i]).length : Int) ∧ R = ss[i]) := hsR
      generalize ss[i] = x at *
      go_upto_if 39 with fail
      go_cut [15] from 37 to 41 (fun s wx => s = .string ⟨R.toArray⟩ ∧ wr = wx)
      case first =>
        rcases hsR with ⟨g, hs⟩ | ⟨g, rfl⟩
        all_goals (go_wp2_with fail; go_meet; exact ⟨rfl, rfl⟩)
      case rest =>
      obtain ⟨rfl, rfl⟩ := hcut
      clear hsR c1
      obtain ⟨F, hF⟩ : ∃ F : Bool, ((i : Int) < (len2 : Int) ∧ F = Bf i) ∨ (¬ (i : Int) < (len2 : Int) ∧ F = false) := by
        by_cases h : (i : Int) < (len2 : Int)
        · exact ⟨_, .inl ⟨h, rfl⟩⟩
        · exact ⟨_, .inr ⟨h, rfl⟩⟩
      go_upto_region 8 with fail
      go_cut [16] from 42 to 51 (fun s wx => s = .bool F ∧ wr = wx)
      case first =>
        rcases hF with ⟨g, hs⟩ | ⟨g, rfl⟩
        · obtain ⟨b3, o3, rfl, hb3, hc3⟩ := HB.out (by omega)
          have c3 : wr.cell? ⟨b3, o3 + i, none⟩ = some (.bool (Bf i)) := (kept_cell HG.out.kept hb3 trivial).trans (hc3 i (by omega))
          go_wp2_with fail
          go_meet
          exact ⟨by rw [hs], rfl⟩
        · go_wp2_with fail
          go_meet
          exact ⟨rfl, rfl⟩
      case rest =>
      obtain ⟨rfl, rfl⟩ := hcut
      clear hF
      have kd0 : Kept (fun _ => True) wr wr.drew := (Kept.refl _ _).drewN 1
      go_upto_if 60 with fail
      go_cut [60] from 52 to 59 (fun t wx => t = .bool false ∧ Kept (fun _ => True) wr wx)
      case first =>
        go_wp2_with fail
        go_region_held (fun W => Kept (fun _ => True) wr W) (assumption) (first
          | (go_at_call 20; refine Calls.mono (frame_at F R (by omega)) ?_; rintro e w1 ⟨a4, c4, rfl, b4⟩; have k4 : Kept (fun _ => True) wr w1 := ⟨b4.kept.os, b4.kept.tape, b4.kept.output, b4.kept.size, b4.kept.block⟩; have cv4 : (convert 29 9 (.slice a4 (9 + R.length) c4)).run Try.prog w1 = .ok (.string ⟨(frameOf F R).toArray⟩) w1 := (View.own b4.own b4.len).conv)
          | (go_at_call 21; refine Calls.mono (rframe_at F R (by omega)) ?_; rintro e w2 ⟨a5, c5, rfl, b5⟩; have k5 : Kept (fun _ => True) wr w2 := k4.trans ⟨b5.kept.os, b5.kept.tape, b5.kept.output, b5.kept.size, b5.kept.block⟩; have cv5 : (convert 29 9 (.slice a5 (9 + R.length) c5)).run Try.prog w2 = .ok (.string ⟨(frameOf F R).toArray⟩) w2 := (View.own b5.own b5.len).conv; have cv4' : (convert 29 9 (.slice a4 (9 + R.length) c4)).run Try.prog w2 = .ok (.string ⟨(frameOf F R).toArray⟩) w2 := ((View.own b4.own b4.len).kept ⟨b5.kept.os, b5.kept.tape, b5.kept.output, b5.kept.size, b5.kept.block⟩).conv))
        all_goals (go_wp2_with fail; go_meet; exact ⟨rfl, k5⟩)
      case rest =>
      obtain ⟨rfl, HK9⟩ := hcut
      have HGc : Hid (Some1 w wc ao n c X) := ⟨own_kept HG.out.own HK9 (fun _ _ => trivial), HG.out.len, HG.out.kept.trans HK9⟩
      clear HK9 HG
      go_wp2_with fail
      refine Calls.mono (rframe_at F R (by omega)) ?_
      rintro e w5 ⟨a5, c5, rfl, b5⟩
      have B5 : Hid (Body wc w5 a5 (9 + R.length) c5 (frameOf F R)) := b5
      have G5 : Hid (Some1 w w5 ao n c X) := ⟨own_kept HGc.out.own b5.kept (fun _ _ => trivial), HGc.out.len, HGc.out.kept.trans b5.kept⟩
      clear b5 HGc
      go_wp2_with (at_builtin; refine wpList_append_has rfl (.tmp 61) (.tmp 64) rfl w.heap.size (.slice ao n c) n _ rfl G5.out.own G5.out.kept.size a5 (9 + R.length) c5 rfl _ B5.out.len B5.out.nil B5.out.has (by omega) ?_; intro a6 c6 w6 ho6 hg6 hl6)
      go_roundw
      case rel =>
        rw [← cells_append] at ho6
        exact ⟨i + 1, _, _, _, X ++ frameOf F R, by omega, by omega, by omega, rfl, by go_num, ho6, by rw [List.length_append, G5.out.len, frameOf_length], G5.out.kept.grown hg6 (fun k hk e => by have := (G5.out.own.lt k e).1; omega)⟩
      case measure => simp [intOf]; omega
    · have hex : ¬ (i : Int) < (ss.length : Int) ∨ ((i : Int) < (ss.length : Int) ∧ ¬ (i : Int) < 8) := by omega
      have hn8 : n ≤ 2472 := by omega
      clear hlt
      rcases hex with hex | ⟨hex, hex2⟩
      all_goals
        go_upto_if 68 with fail
        go_cut [13] from 66 to 92 (fun t wx => ∃ (m c' : Nat) (ao' : Option Addr) (X' : List UInt8), m ≤ 2472 ∧ t = .slice ao' m c' ∧ Some1 w wx ao' m c' X')
        case first =>
          by_cases hn0 : n = 0
          · subst hn0
            go_wp2_with fail
            go_meet
            exact ⟨_, _, _, X, by omega, rfl, HG.out⟩
          · obtain ⟨V, rfl⟩ : ∃ V, n = V + 1 := ⟨n - 1, by omega⟩
            have hV0 : (0 : Int) < (V : Int) + 1 := by omega
            have hwV : IntKind.i64.wrap (V : Int) = (V : Int) := wrap_small _ (by omega) (by omega)
            go_wp2_with fail
            refine Calls.mono (within_any at_ V (by omega)) ?_
            rintro e wr ⟨⟨k, hk, rfl⟩, rfl⟩
            obtain ⟨G, rfl, hGw⟩ := row_at1 HG.out.own (by omega)
            have hlX := HG.out.len
            have q1 : wr.cell? ⟨G, k, none⟩ = some (.int .u8 (X[k]'(by omega)).toNat) := by rw [HG.out.own.cellAt k (by omega), cells_getElem X k (by omega)]
            have q2 : wr.frozen? ⟨G, k, none⟩ = false := HG.out.own.frozenAt k
            obtain ⟨y, hy⟩ := xored (X[k]'(by omega)) turn ht
            have HX : Hid (Some1 w (wr.setCell ⟨G, k, none⟩ (.int .u8 y.toNat)) (some ⟨G, 0, none⟩) (V + 1) c (X.set k y)) := HG.out.set hGw k y
            have hk1 : (k : Int) < (V : Int) + 1 := by omega
            have hk0 : (0 : Int) ≤ (k : Int) := by omega
            generalize (X[k]'(by omega)).toNat = z at *
            generalize X.set k y = X2 at *
            by_cases hm3 : cut.tmod 3 = 0
            · have hm3' : (cut.tmod 3 == 0) = true := by simp [hm3]
              clear hm3
              go_wp2_with fail
              refine Calls.mono (within_any cut V (by omega)) ?_
              rintro e wq ⟨⟨j, hj, rfl⟩, hwq⟩
              obtain ⟨ao3, c3, e3, hc3, ho3, hsl3⟩ := own_cut (k := j) HX.out.own (by omega)
              injection e3 with e3 e4 e5
              subst e3 e5 hwq
              rw [cells_take] at ho3
              have HX3 : Hid (Some1 w (wr.setCell ⟨G, k, none⟩ (.int .u8 y.toNat)) (some ⟨G, 0, none⟩) j c (X2.take j)) := ⟨ho3, by rw [List.length_take, HX.out.len]; omega, HX.out.kept⟩
              clear ho3 e4
              go_wp2_with fail
              go_meet
              exact ⟨_, _, _, X2.take j, by omega, rfl, HX3.out⟩
            · have hm3' : (cut.tmod 3 == 0) = false := by simp [hm3]
              clear hm3
              go_wp2_with fail
              go_meet
              exact ⟨_, _, _, X2, by omega, rfl, HX.out⟩
        case rest =>
        obtain ⟨m, c', ao', X', hm, rfl, hG'⟩ := hcut
        have HG2 : Hid (Some1 w wc ao' m c' X') := hG'
        clear hG' HG
        obtain ⟨Q, hQ, hsQ⟩ : ∃ Q : List UInt8, (Q.length ≤ 500 ∧ View w a0 Q.length cap0 Q) ∧ (((500 : Int) < (bs.length : Int) ∧ ∀ w0, (Instr.slice 29 (.slice a0 bs.length cap0) none (some (.int .i64 500)) none).run Try.prog w0 = .ok (.slice a0 Q.length cap0) w0) ∨ (¬ (500 : Int) < (bs.length : Int) ∧ Q = bs)) := by
          by_cases h : 500 < bs.length
          · obtain ⟨s5, v5⟩ := HV.out.front 500 (by omega)
            exact ⟨bs.take 500, ⟨by have := v5.len; omega, v5.self⟩, .inl ⟨by omega, fun w0 => by rw [v5.len]; exact s5 w0⟩⟩
          · exact ⟨bs, ⟨by omega, HV.out⟩, .inr ⟨by omega, rfl⟩⟩
        go_upto_if 95 with fail
        go_cut [0] from 93 to 97 (fun t wx => t = .slice a0 Q.length cap0 ∧ wc = wx)
        case first =>
          rcases hsQ with ⟨g, hs⟩ | ⟨g, rfl⟩
          all_goals (go_wp2_with fail; go_meet; exact ⟨rfl, rfl⟩)
        case rest =>
        obtain ⟨rfl, hwc⟩ := hcut
        subst hwc
        obtain ⟨hQ5, hQv⟩ := hQ
        have VQ : Hid (View wc a0 Q.length cap0 Q) := hQv.kept HG2.out.kept
        clear hsQ hQv
        go_wp2_with (at_builtin; refine wpList_append_has rfl (.tmp 98) (.tmp 99) rfl w.heap.size (.slice ao' m c') m _ rfl HG2.out.own HG2.out.kept.size a0 Q.length cap0 rfl Q rfl VQ.out.nil VQ.out.has (by omega) ?_; intro a7 c7 w7 ho7 hg7 hl7)
        rw [← cells_append] at ho7
        have hl7' : (X' ++ Q).length = m + Q.length := by rw [List.length_append, HG2.out.len]
        have k7 : Kept (fun _ => True) w w7 := HG2.out.kept.grown hg7 (fun k hk e => by have := (HG2.out.own.lt k e).1; omega)
        have hM : m + Q.length ≤ 2972 := by omega
        clear HG2 VQ hg7 hl7
        generalize m + Q.length = M at *
        generalize X' ++ Q = X7 at *
        subst hl7'
        refine Calls.mono (roomy_any (own_has ho7) (by omega)) ?_
        rintro e w8 ⟨D, rfl, ho8, k8⟩
        obtain ⟨s8, v8⟩ := (View.own ho8 (full_length X7)).front X7.length (by omega)
        have ef : (full X7).take X7.length = X7 := by simp [full]
        rw [ef] at v8
        have VX : Hid (View w8 a7 X7.length c7 X7) := (View.own ho7 rfl).kept k8
        have HO8 : Hid (w8.ownsRow w7.heap.size 5 1 (.slice (some ⟨D, 0, none⟩) (X7.length + 80) (X7.length + 80)) (X7.length + 80) (cells (full X7))) := ho8
        have K8 : Hid (Kept (fun _ => True) w w8) := k7.trans k8
        have V8 : Hid (View w8 (some ⟨D, 0, none⟩) X7.length (X7.length + 80) X7) := v8
        clear ho7 ho8 v8 k7 k8 ef
        go_wp2_with fail
        refine Calls.mono (scan_any V8.out (by omega)) ?_
        rintro e w9 ⟨p9, rfl, h9, k9⟩
        obtain ⟨a9, c9, rfl, -, -⟩ := h9.shape
        go_wp2_with fail
        refine Calls.mono (rscan_any (VX.out.kept k9) (by omega)) ?_
        rintro e wa ⟨pa, rfl, ha, ka⟩
        obtain ⟨aa, ca, rfl, -, -⟩ := ha.shape
        have hsf := Nat.le_trans (scanOf_few X7) (scanOf_le X7)
        have H9 : Hid (Txs wa _ _ (scanOf X7).1) := h9.kept ka (fun _ _ => trivial)
        have HA : Hid (Txs wa _ _ (scanOf X7).1) := ha
        have HOa : Hid (wa.ownsRow w7.heap.size 5 1 (.slice (some ⟨D, 0, none⟩) (X7.length + 80) (X7.length + 80)) (X7.length + 80) (cells (full X7))) := own_kept HO8.out (k9.trans ka) (fun _ _ => trivial)
        have HXa : Hid (Has wa a7 X7) := ((VX.out.kept k9).kept ka).has
        have Ka : Hid (Kept (fun _ => True) w wa) := K8.out.trans (k9.trans ka)
        clear h9 ha k9 ka V8 VX HO8 K8
        generalize (scanOf X7).1.length = sl at *
        generalize (scanOf X7).2 = sn at *
        go_wp2_with fail
        refine Calls.mono (texts_any H9.out HA.out (by omega)) ?_
        rintro e wb ⟨rfl, nb, rfl⟩
        rw [decide_eq_true rfl]
        go_wp2_with fail
        refine Calls.mono (intact_any (own_kept HOa.out ((Kept.refl (fun _ => True) wa).drewN nb) (fun _ _ => trivial)) (HXa.out.kept ((Kept.refl (fun _ => True) wa).drewN nb) (fun _ _ => trivial)) (by omega)) ?_
        rintro e wd ⟨rfl, nd, rfl⟩
        go_wp2_with fail
        refine Calls.mono known_any ?_
        rintro e we ⟨rfl, ke⟩
        go_wp2
        go_ret
        exact ⟨rfl, (Ka.out.drewN _).trans ke⟩

end Go.Proofs.Ytdajaplmigcooaa
