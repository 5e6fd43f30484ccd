/-
  The walk of WireReads: for arguments of some weight it answers true, and turns nothing that was there.
-/
import Derived.Test.YtlkkmggopoknaaaRf3
import Derived.Test.YtlkkmggopoknaaaBook2
import Derived.Test.YtlkkmggopoknaaaRef3
namespace Go.Proofs.Ytlkkmggopoknaaa
open Go.RowKit

attribute [local go_sem ↓] Go.wp_at_zero Go.wp_at_succ

/-- What the two Readers and the room stand on in each round. -/
structure J (w wr : World) (B R D B2 : Nat) (a1 : Option Addr) (c1 : Nat) (T : List UInt8) (s : RS) : Prop where
  rs : Rs wr B R T T.length s
  rg : Rg wr B2 a1 c1 T s
  own : wr.ownsRow w.heap.size 5 1 (.slice (some ⟨D, 0, none⟩) (T.length + 80) (T.length + 80)) (T.length + 80) (cells (full T))
  kept : Kept (fun _ => True) w wr

/-- The places are apart. -/
structure Apart (w : World) (B R D B2 : Nat) (a1 : Option Addr) (T : List UInt8) : Prop where
  b : w.heap.size ≤ B
  b2 : w.heap.size ≤ B2
  bb : B ≠ B2
  rb : R ≠ B2
  db : D ≠ B
  db2 : D ≠ B2
  ab : ∀ ad, a1 = some ad → 0 < T.length → ad.block ≠ B
  ab2 : ∀ ad, a1 = some ad → 0 < T.length → ad.block ≠ B2

theorem own_block {D n m k : Nat} (h : (Value.slice (some ⟨D, 0, none⟩) n m).ownBlock = some k) : D = k := by simpa [Value.ownBlock] using h

theorem J.one {w wr u : World} {B R D B2 : Nat} {a1 : Option Addr} {c1 : Nat} {T : List UInt8} {s s' : RS} (h : J w wr B R D B2 a1 c1 T s) (ap : Apart w B R D B2 a1 T) (hr : Rs u B R T T.length s') (hk : Kept (· ≠ B) wr u) :
    Rs u B R T T.length s' ∧ Rg u B2 a1 c1 T s ∧ u.ownsRow w.heap.size 5 1 (.slice (some ⟨D, 0, none⟩) (T.length + 80) (T.length + 80)) (T.length + 80) (cells (full T)) ∧ Kept (fun _ => True) w u :=
  ⟨hr, h.rg.kept hk (Ne.symm ap.bb) ap.ab, own_kept h.own hk (fun k e => (own_block e) ▸ ap.db), h.kept.then hk (fun i hi _ => by have := ap.b; omega)⟩
theorem J.two {w u u' : World} {B R D B2 : Nat} {a1 : Option Addr} {c1 : Nat} {T : List UInt8} {s' : RS} (ap : Apart w B R D B2 a1 T) (hr : Rs u B R T T.length s') (ho : u.ownsRow w.heap.size 5 1 (.slice (some ⟨D, 0, none⟩) (T.length + 80) (T.length + 80)) (T.length + 80) (cells (full T))) (hq : Kept (fun _ => True) w u)
    (hg : Rg u' B2 a1 c1 T s') (hk : Kept (· ≠ B2) u u') : J w u' B R D B2 a1 c1 T s' :=
  ⟨hr.kept hk ap.bb ap.rb, hg, own_kept ho hk (fun k e => (own_block e) ▸ ap.db2), hq.then hk (fun i hi _ => by have := ap.b2; omega)⟩
theorem J.drew {w wr : World} {B R D B2 : Nat} {a1 : Option Addr} {c1 : Nat} {T : List UInt8} {s : RS} (h : J w wr B R D B2 a1 c1 T s) (n : Nat) : J w (wr.drewN n) B R D B2 a1 c1 T s :=
  ⟨h.rs.kept ((Kept.refl (fun _ => True) wr).drewN n) trivial trivial, h.rg.kept ((Kept.refl (fun _ => True) wr).drewN n) trivial (fun _ _ _ => trivial), own_kept h.own ((Kept.refl (fun _ => True) wr).drewN n) (fun _ _ => trivial), h.kept.drewN n⟩

set_option maxRecDepth 100000 in
set_option maxHeartbeats 8000000 in
theorem reads_any {w : World} {ao la qa : Option Addr} {cap llen lcap qlen qcap : Nat} {bs : List UInt8} {ls qs : List PartV}
    (hs : Sl w (.slice ao bs.length cap) bs) (hb : bs.length ≤ 1048576) (hl : IsParts w la llen ls) (hll : llen ≤ maxLen) (hlw : weigh ls ≤ 100000000) (hq : IsParts w qa qlen qs) (hql : qlen ≤ maxLen) :
    Calls Try.prog 5 #[.slice ao bs.length cap, .slice la llen lcap, .slice qa qlen qcap] w fun e w' => e = .returned (.bool true) ∧ Kept (fun _ => True) w w' := by
  have HN : Hid (ao = none → cap = 0) := by obtain ⟨ao', cap', e, hn, _⟩ := hs; cases e; exact hn
  have HH : Hid (∀ W, Kept (fun _ => True) w W → Has W ao bs) := fun W hW => by obtain ⟨ao', cap', e, hn, hh⟩ := hs.kept hW (fun _ _ => trivial); cases e; exact hh
  have HQ : Hid (IsParts w qa qlen qs) := hq
  unfold maxLen at hql
  have hql' : (qlen : Int) ≤ 9223372036854775807 := by omega
  have cw := written_any (pcap := lcap) hl hll hlw
  have hle := encTo_le ls 40
  generalize encTo ls 40 = E at *
  clear hs hq hl hll hql
  obtain ⟨T, hT⟩ : ∃ T, T = E ++ bs := ⟨_, rfl⟩
  have HT : Hid (E ++ bs = T) := hT.symm
  have HLT : Hid (E.length + bs.length = T.length) := by show _ = _; rw [hT, List.length_append]
  have hTl : T.length ≤ 101048576 := by rw [hT, List.length_append]; omega
  clear hT
  go_enter Try.func5, Try.ntmps5
  go_wp2_with (first
    | (go_at_call 21; refine Calls.mono cw ?_; rintro e w1 ⟨r, rfl, ho1, k1⟩; obtain ⟨ra, rc, rfl⟩ := own_shape ho1)
    | (at_builtin; refine wpList_append_has rfl (.tmp 17) (.tmp 18) rfl w.heap.size (.slice ra E.length rc) E.length (cells E) rfl ho1 (by have := k1.size; omega) ao bs.length cap rfl bs rfl HN.out (HH.out _ k1) (by omega) ?_; intro a1 c1 w2 ho2 hg2 hl2; rw [HLT.out] at ho2 hl2 ⊢; rw [← cells_append, HT.out] at ho2))
  have k02 : Kept (fun _ => True) w w2 := k1.grown hg2 (fun k hk e => by have := (ho1.lt k e).1; omega)
  have hbk : ∀ ad, a1 = some ad → w.heap.size ≤ ad.block ∧ ad.block < w2.heap.size := fun ad e => by
    have := ho2.lt ad.block (by rw [e]; rfl)
    exact this
  have hnil : a1 = none → c1 = 0 := by
    intro e
    rcases ho2.2 with ⟨h, _⟩ | ⟨g, c, cu, h, _⟩
    · injection h
    · rw [e] at h; injection h with h1; cases h1
  have hcap : T.length ≤ c1 := by
    rcases ho2.2 with ⟨h, h0⟩ | ⟨g, c, cu, h, _, _, hc, _⟩
    · omega
    · injection h with _ _ h3; omega
  have hh2 := own_has ho2
  clear k1 ho1 hg2 hl2 cw
  refine Calls.mono (roomy_any hh2 (by omega)) ?_
  rintro e w3 ⟨D, rfl, ho3, k3⟩
  have k03 := k02.trans k3
  have hh3 := hh2.kept k3 (fun _ _ => trivial)
  have hD := ho3.lt D rfl
  have s2 := k02.size
  have s3 := k3.size
  have hsl : ∀ w0, (Instr.slice 26 (.slice (some ⟨D, 0, none⟩) (T.length + 80) (T.length + 80)) none (some (.int .i64 (T.length : Int))) none).run Try.prog w0 = .ok (.slice (some ⟨D, 0, none⟩) T.length (T.length + 80)) w0 := fun w0 => by
    rw [run_slice_h (P := Try.prog) w0 26 (some ⟨D, 0, none⟩) (T.length + 80) (T.length + 80) Try.underlying26 .i64 T.length (by omega) (by omega), size_u8]
    simp [Result.andThen, sliced, Addr.add]
  have hhD : Has w3 (some ⟨D, 0, none⟩) T := by
    intro h0
    refine ⟨_, rfl, fun j hj => ?_⟩
    rw [WideShapes.add_plain, Nat.zero_add, ho3.cellAt j (by omega), cells_getElem (full T) j (by rw [full_length]; omega)]
    congr 3
    simp [full, List.getElem_append_left hj]
  have HD : Hid (Has w3 (some ⟨D, 0, none⟩) T) := hhD
  have HH3 : Hid (Has w3 a1 T) := hh3
  clear hh2 k02 k3 hhD hh3 ho2
  go_wp2_with fail
  refine Calls.mono (newReader_any (by omega) HD.out) ?_
  rintro e w4 ⟨B, R, rfl, hr, k4, hB, hR⟩
  have k04 := k03.trans k4
  have ho4 := own_kept ho3 k4 (fun _ _ => trivial)
  have s4 := k4.size
  have lB := hr.lt
  have lR := hr.rowlt
  have hh4 := HH3.out.kept k4 (fun _ _ => trivial)
  have hj : J w (w4.alloc (.cells #[.slice a1 T.length c1, .int .i64 0, .bool false, .int .i64 0, .int .i64 0] 45)) B R D w4.heap.size a1 c1 T ⟨0, 0⟩ := by
    have ka := (Kept.refl (fun _ => True) w4).alloc (.cells #[.slice a1 T.length c1, .int .i64 0, .bool false, .int .i64 0, .int .i64 0] 45)
    refine ⟨hr.kept ka trivial trivial, ⟨⟨⟨0, 0, 0, ?_, fun _ => rfl, fun h => absurd rfl h⟩, Nat.zero_le _, by omega⟩, hh4.kept ka (fun _ _ => trivial), hnil, hcap, fun ad e h0 => by have := hbk ad e; omega⟩, own_kept (own_mono ho4 s2) ka (fun _ _ => trivial), k04.alloc _⟩
    exact heap_alloc_new w4 _
  have ap : Apart w B R D w4.heap.size a1 T := ⟨by omega, by omega, by omega, by omega, by omega, by omega, fun ad e _ => by have := hbk ad e; omega, fun ad e _ => by have := hbk ad e; omega⟩
  clear hr k4 k04 ho4 hh4 hnil hcap hbk ho3 k03 HD HH3 hsl lB lR hB hR hD s2 s3 s4
  go_wp2
  go_loopw [10] (fun t wr => ∃ (k : Nat) (s : RS), k ≤ qlen ∧ k ≤ 40 ∧ t = .int .i64 k ∧ J w wr B R D w4.heap.size a1 c1 T s) (fun t _ => qlen - (intOf t).toNat)
  case atStart => exact ⟨0, _, Nat.zero_le _, by omega, rfl, hj⟩
  case round =>
    clear hj
    obtain ⟨k, s, hk, hk40, rfl, hj⟩ := hrel
    by_cases hlt : k < qlen ∧ k < 40
    · obtain ⟨h1, h2⟩ := hlt
      obtain ⟨b, off, rfl, hbl, p, hfit, ⟨c0', c1', _, _⟩, _⟩ := parts_cell HQ.out k h1
      have hk1 : (k : Int) < (qlen : Int) := by omega
      have hk2 : (k : Int) < 40 := by omega
      have hk0 : (0 : Int) ≤ (k : Int) := by omega
      have d0 := (hj.kept.cell (o := off + k * 4) hbl trivial).trans c0'
      have hcn : ∀ W, Kept (fun _ => True) w W → W.cell? ⟨b, off + k * 4 + 1, none⟩ = some (.int .i64 p.n) := fun W hW => (hW.cell hbl trivial).trans c1'
      have HJ : Hid (J w wr B R D w4.heap.size a1 c1 T s) := hj
      have HAP : Hid (Apart w B R D w4.heap.size a1 T) := ap
      clear c0' c1' hj ap
      by_cases e1 : p.kind = 1
      · have q1 : (p.kind == 1) = true := by simp [e1]
        clear e1 hcn
        go_wp2_with fail
        refine Calls.mono (byte_any HJ.out.rs) ?_
        rintro e u1 ⟨rfl, g1, g2⟩
        obtain ⟨x1, x2, x3, x4⟩ := HJ.out.one HAP.out g1 g2
        go_wp2_with fail
        refine Calls.mono (fbyte_any x2) ?_
        rintro e u2 ⟨rfl, g3, g4⟩
        have hj2 := J.two HAP.out x1 x3 x4 g3 g4
        clear d0 g1 g2 x1 x2 x3 x4 g3 g4
        generalize s.num T 1 = rr at *
        go_wp2_with fail
        refine Calls.mono (left_is hj2.rs) ?_
        rintro e _ ⟨rfl, n1, rfl⟩
        have hj3 := hj2.drew n1
        go_wp2_with fail
        refine Calls.mono (fleft_any hj3.rg.rf) ?_
        rintro e _ ⟨rfl, n2, rfl⟩
        have hj4 := hj3.drew n2
        go_wp2
        go_roundw
        case rel => exact ⟨k + 1, _, by omega, by omega, by go_num, by first | exact hj4 | (rw [drew_two] at hj4; exact hj4)⟩
        case measure => simp [intOf]; omega
      by_cases e2 : p.kind = 2
      · have q1 : (p.kind == 1) = false := by simp [e1]
        have q2 : (p.kind == 2) = true := by simp [e2]
        clear e1 e2 hcn
        go_wp2_with fail
        refine Calls.mono (four_any HJ.out.rs) ?_
        rintro e u1 ⟨rfl, g1, g2⟩
        obtain ⟨x1, x2, x3, x4⟩ := HJ.out.one HAP.out g1 g2
        go_wp2_with fail
        refine Calls.mono (ffour_any x2) ?_
        rintro e u2 ⟨rfl, g3, g4⟩
        have hj2 := J.two HAP.out x1 x3 x4 g3 g4
        clear d0 g1 g2 x1 x2 x3 x4 g3 g4
        generalize s.num T 4 = rr at *
        go_wp2_with fail
        refine Calls.mono (left_is hj2.rs) ?_
        rintro e _ ⟨rfl, n1, rfl⟩
        have hj3 := hj2.drew n1
        go_wp2_with fail
        refine Calls.mono (fleft_any hj3.rg.rf) ?_
        rintro e _ ⟨rfl, n2, rfl⟩
        have hj4 := hj3.drew n2
        go_wp2
        go_roundw
        case rel => exact ⟨k + 1, _, by omega, by omega, by go_num, by first | exact hj4 | (rw [drew_two] at hj4; exact hj4)⟩
        case measure => simp [intOf]; omega
      by_cases e3 : p.kind = 3
      · have q1 : (p.kind == 1) = false := by simp [e1]
        have q2 : (p.kind == 2) = false := by simp [e2]
        have q3 : (p.kind == 3) = true := by simp [e3]
        clear e1 e2 e3 hcn
        go_wp2_with fail
        refine Calls.mono (eight_any HJ.out.rs) ?_
        rintro e u1 ⟨rfl, g1, g2⟩
        obtain ⟨x1, x2, x3, x4⟩ := HJ.out.one HAP.out g1 g2
        go_wp2_with fail
        refine Calls.mono (feight_any x2) ?_
        rintro e u2 ⟨rfl, g3, g4⟩
        have hj2 := J.two HAP.out x1 x3 x4 g3 g4
        clear d0 g1 g2 x1 x2 x3 x4 g3 g4
        generalize s.num T 8 = rr at *
        generalize i64 (rr.1 : Nat) = ri at *
        go_wp2_with fail
        refine Calls.mono (left_is hj2.rs) ?_
        rintro e _ ⟨rfl, n1, rfl⟩
        have hj3 := hj2.drew n1
        go_wp2_with fail
        refine Calls.mono (fleft_any hj3.rg.rf) ?_
        rintro e _ ⟨rfl, n2, rfl⟩
        have hj4 := hj3.drew n2
        go_wp2
        go_roundw
        case rel => exact ⟨k + 1, _, by omega, by omega, by go_num, by first | exact hj4 | (rw [drew_two] at hj4; exact hj4)⟩
        case measure => simp [intOf]; omega
      by_cases e4 : p.kind = 4
      · have q1 : (p.kind == 1) = false := by simp [e1]
        have q2 : (p.kind == 2) = false := by simp [e2]
        have q3 : (p.kind == 3) = false := by simp [e3]
        have q4 : (p.kind == 4) = true := by simp [e4]
        clear e1 e2 e3 e4
        have HJD : Hid (J w wr.drew B R D w4.heap.size a1 c1 T s) := HJ.out.drew 1
        have kd : Kept (fun _ => True) w wr.drew := HJ.out.kept.drew
        go_wp2
        go_region_held3 (fun w' => Kept (fun _ => True) w w') (assumption)
          (first
            | (go_at_call 16; refine Calls.mono (text_any p.n HJD.out.rs) ?_; rintro e u1 ⟨rfl, g1, g2⟩; obtain ⟨x1, x2, x3, x4⟩ := HJD.out.one HAP.out g1 g2)
            | (go_at_call 27; refine Calls.mono (ftext_any p.n x2) ?_; rintro e u2 ⟨rfl, g3, g4⟩; have hj2 := J.two HAP.out x1 x3 x4 g3 g4; have q9 := hj2.kept))
        clear d0 hcn
        generalize s.text T p.n = rr at *
        go_wp2_with fail
        refine Calls.mono (left_is hj2.rs) ?_
        rintro e _ ⟨rfl, n1, rfl⟩
        have hj3 := hj2.drew n1
        go_wp2_with fail
        refine Calls.mono (fleft_any hj3.rg.rf) ?_
        rintro e _ ⟨rfl, n2, rfl⟩
        have hj4 := hj3.drew n2
        go_wp2
        go_roundw
        case rel => exact ⟨k + 1, _, by omega, by omega, by go_num, by first | exact hj4 | (rw [drew_two] at hj4; exact hj4)⟩
        case measure => simp [intOf]; omega
      by_cases e5 : p.kind = 5
      · have q1 : (p.kind == 1) = false := by simp [e1]
        have q2 : (p.kind == 2) = false := by simp [e2]
        have q3 : (p.kind == 3) = false := by simp [e3]
        have q4 : (p.kind == 4) = false := by simp [e4]
        have q5 : (p.kind == 5) = true := by simp [e5]
        clear e1 e2 e3 e4 e5
        have HJD : Hid (J w wr.drew B R D w4.heap.size a1 c1 T s) := HJ.out.drew 1
        have kd : Kept (fun _ => True) w wr.drew := HJ.out.kept.drew
        go_wp2
        go_region_held3 (fun w' => Kept (fun _ => True) w w') (assumption)
          (first
            | (go_at_call 28; refine Calls.mono (count_any p.n HJD.out.rs) ?_; rintro e u1 ⟨rfl, g1, g2⟩; obtain ⟨x1, x2, x3, x4⟩ := HJD.out.one HAP.out g1 g2)
            | (go_at_call 29; refine Calls.mono (fcount_any p.n x2) ?_; rintro e u2 ⟨rfl, g3, g4⟩; have hj2 := J.two HAP.out x1 x3 x4 g3 g4; have q9 := hj2.kept))
        clear d0 hcn
        generalize s.count T p.n = rr at *
        go_wp2_with fail
        refine Calls.mono (left_is hj2.rs) ?_
        rintro e _ ⟨rfl, n1, rfl⟩
        have hj3 := hj2.drew n1
        go_wp2_with fail
        refine Calls.mono (fleft_any hj3.rg.rf) ?_
        rintro e _ ⟨rfl, n2, rfl⟩
        have hj4 := hj3.drew n2
        go_wp2
        go_roundw
        case rel => exact ⟨k + 1, _, by omega, by omega, by go_num, by first | exact hj4 | (rw [drew_two] at hj4; exact hj4)⟩
        case measure => simp [intOf]; omega
      by_cases e6 : p.kind = 6
      · have q1 : (p.kind == 1) = false := by simp [e1]
        have q2 : (p.kind == 2) = false := by simp [e2]
        have q3 : (p.kind == 3) = false := by simp [e3]
        have q4 : (p.kind == 4) = false := by simp [e4]
        have q5 : (p.kind == 5) = false := by simp [e5]
        have q6 : (p.kind == 6) = true := by simp [e6]
        have d1 := hcn wr HJ.out.kept
        clear e1 e2 e3 e4 e5 e6
        go_wp2_with fail
        refine Calls.mono (fail_any p.n HJ.out.rs) ?_
        rintro e u1 ⟨rfl, g1, g2⟩
        obtain ⟨x1, x2, x3, x4⟩ := HJ.out.one HAP.out g1 g2
        have d2 := hcn u1 x4
        go_wp2_with fail
        refine Calls.mono (ffail_any p.n x2.rf) ?_
        rintro e u2 ⟨rfl, g3, g4⟩
        have hj2 := J.two HAP.out x1 x3 x4 (x2.mine g3 g4) g4
        clear d0 d1 d2 hcn g1 g2 x1 x2 x3 x4 g3 g4
        go_wp2_with fail
        refine Calls.mono (left_is hj2.rs) ?_
        rintro e _ ⟨rfl, n1, rfl⟩
        have hj3 := hj2.drew n1
        go_wp2_with fail
        refine Calls.mono (fleft_any hj3.rg.rf) ?_
        rintro e _ ⟨rfl, n2, rfl⟩
        have hj4 := hj3.drew n2
        go_wp2
        go_roundw
        case rel => exact ⟨k + 1, _, by omega, by omega, by go_num, by first | exact hj4 | (rw [drew_two] at hj4; exact hj4)⟩
        case measure => simp [intOf]; omega
      · have q1 : (p.kind == 1) = false := by simp [e1]
        have q2 : (p.kind == 2) = false := by simp [e2]
        have q3 : (p.kind == 3) = false := by simp [e3]
        have q4 : (p.kind == 4) = false := by simp [e4]
        have q5 : (p.kind == 5) = false := by simp [e5]
        have q6 : (p.kind == 6) = false := by simp [e6]
        have hj2 := HJ.out
        clear e1 e2 e3 e4 e5 e6 hcn
        go_wp2_with fail
        refine Calls.mono (left_is hj2.rs) ?_
        rintro e _ ⟨rfl, n1, rfl⟩
        have hj3 := hj2.drew n1
        go_wp2_with fail
        refine Calls.mono (fleft_any hj3.rg.rf) ?_
        rintro e _ ⟨rfl, n2, rfl⟩
        have hj4 := hj3.drew n2
        go_wp2
        go_roundw
        case rel => exact ⟨k + 1, _, by omega, by omega, by go_num, by first | exact hj4 | (rw [drew_two] at hj4; exact hj4)⟩
        case measure => simp [intOf]; omega
    · have hw2 : (k < qlen ∧ k = 40) ∨ (qlen ≤ k) := by omega
      clear hlt
      rcases hw2 with ⟨h1, h2⟩ | h1
      · have hk1 : (k : Int) < (qlen : Int) := by omega
        have hk2 : ¬ ((k : Int) < 40) := by omega
        go_wp2_with fail
        refine Calls.mono (end_any hj.rs) ?_
        rintro e _ ⟨rfl, n1, rfl⟩
        have hj3 := hj.drew n1
        go_wp2_with fail
        refine Calls.mono (fend_any hj3.rg.rf) ?_
        rintro e _ ⟨rfl, n2, rfl⟩
        have hj4 := hj3.drew n2
        rw [drew_two] at hj4
        go_wp2_with fail
        refine Calls.mono (intact_any hj4.own hj4.rg.has (by omega)) ?_
        rintro e _ ⟨rfl, n3, rfl⟩
        have hj5 := hj4.drew n3
        go_wp2_with fail
        refine Calls.mono (known_any _) ?_
        rintro e u7 ⟨rfl, k7⟩
        go_wp2
        go_ret
        exact ⟨rfl, (hj.kept.drewN _).trans k7⟩
      · have hk1 : ¬ ((k : Int) < (qlen : Int)) := by omega
        go_wp2_with fail
        refine Calls.mono (end_any hj.rs) ?_
        rintro e _ ⟨rfl, n1, rfl⟩
        have hj3 := hj.drew n1
        go_wp2_with fail
        refine Calls.mono (fend_any hj3.rg.rf) ?_
        rintro e _ ⟨rfl, n2, rfl⟩
        have hj4 := hj3.drew n2
        rw [drew_two] at hj4
        go_wp2_with fail
        refine Calls.mono (intact_any hj4.own hj4.rg.has (by omega)) ?_
        rintro e _ ⟨rfl, n3, rfl⟩
        have hj5 := hj4.drew n3
        go_wp2_with fail
        refine Calls.mono (known_any _) ?_
        rintro e u7 ⟨rfl, k7⟩
        go_wp2
        go_ret
        exact ⟨rfl, (hj.kept.drewN _).trans k7⟩

end Go.Proofs.Ytlkkmggopoknaaa
