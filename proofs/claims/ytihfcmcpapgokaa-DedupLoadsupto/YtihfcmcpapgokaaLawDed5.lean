/-
  DedupLoads.
-/
import Derived.Test.YtihfcmcpapgokaaE10
import Derived.Test.YtihfcmcpapgokaaEAsks
import Derived.Deep.CutRange
namespace Go.Proofs.Ytihfcmcpapgokaa
open Go.RowKit

/-- Clients and replies that are short. -/
def Small (xs : List La) : Prop := ∀ x ∈ xs, x.c.length ≤ 1048576 ∧ x.r.length ≤ 1048576
theorem Small.saved {xs : List La} (h : Small xs) (m : Int) (hl : xs.length ≤ 64) : (saved m xs).length ≤ 140000000 ∧ 8 ≤ (saved m xs).length := by
  have := flat_len (xs := xs) (k := 2097168) (fun x hx => by
    have := h x hx
    rw [encLast_length]; omega)
  have h2 : xs.length * 2097168 ≤ 64 * 2097168 := Nat.mul_le_mul_right _ hl
  unfold Proofs.Ytihfcmcpapgokaa.saved
  rw [List.length_append, savedHead_length]
  omega
theorem Small.done {xs : List La} (h : Small xs) (m : Int) {x : La} (hx : x.c.length ≤ 1048576 ∧ x.r.length ≤ 1048576) : Small (done m xs x).2 := fun y hy => by
  rcases mem_done hy with q | q
  · exact h y q
  · rw [q]; exact hx

theorem xored (z : UInt8) (t : Int) (ht : 0 ≤ t ∧ t < 256) : ∃ y : UInt8, bits BinOp.xor .u8 (z.toNat : Int) t = (y.toNat : Int) := by
  obtain ⟨T, rfl⟩ := Int.eq_ofNat_of_zero_le ht.1
  have hz := z.toNat_lt
  refine ⟨UInt8.ofNat (z.toNat ^^^ T), ?_⟩
  have hx : z.toNat ^^^ T < 2 ^ 8 := Nat.xor_lt_two_pow (by omega) (by omega)
  rw [u8_xor_nat z.toNat T (by omega) (by omega)]
  rw [UInt8.toNat_ofNat', Nat.mod_eq_of_lt hx]

/-- Bytes in a block by themselves. -/
def Blk (w : World) (D : Nat) (bs : List UInt8) : Prop := w.heap[D]? = some (.cells (cells bs).toArray 5 (0, 0))
theorem Blk.has {w : World} {D : Nat} {bs : List UInt8} (h : Blk w D bs) : Has w (some ⟨D, 0, none⟩) bs := row_has h
theorem Blk.cell {w : World} {D : Nat} {bs : List UInt8} (h : Blk w D bs) (k : Nat) (hk : k < bs.length) : w.cell? ⟨D, k, none⟩ = some (.int .u8 (bs[k]).toNat) := row_cells (w := w) (bs := bs) h (List.take_of_length_le (by simp [cells_length])) k hk
theorem Blk.kept {p : Nat → Prop} {w w' : World} {D : Nat} {bs : List UInt8} (h : Blk w D bs) (k : Kept p w w') (hp : p D) : Blk w' D bs := (k.block D (lt_of_block h) hp).trans h
theorem Blk.set {w : World} {D : Nat} {bs : List UInt8} (h : Blk w D bs) (k : Nat) (y : UInt8) : Blk (w.setCell ⟨D, k, none⟩ (.int .u8 y.toNat)) D (bs.set k y) := by
  have := set_at h k (.int .u8 y.toNat)
  unfold Blk
  rw [this]
  simp [cells, List.map_set]

set_option maxRecDepth 100000 in
set_option maxHeartbeats 2000000 in
theorem dedupLoads_any {w : World} {a0 : Option Addr} {cap0 : Nat} {bs : List UInt8} (hS : Has w a0 bs) (hb : (bs.length : Int) ≤ 140737488355328) {a : Option Addr} {ss : List (List UInt8)} {ca : Nat} (ha : IsStrs w a ss) (hs : ∀ s ∈ ss, s.length ≤ 1048576) (at_ turn : Int) (hat : Fit64 at_) (ht : 0 ≤ turn ∧ turn < 256) :
    Calls Try.prog 7 #[.slice a0 bs.length cap0, .slice a ss.length ca, .int .i64 at_, .int .u8 turn] w fun e w' => e = .returned (.bool true) ∧ Kept (fun _ => True) w w' := by
  have HS : Hid (IsStrs w a ss ∧ ∀ s ∈ ss, s.length ≤ 1048576) := ⟨ha, hs⟩
  have HB : Hid (Has w a0 bs) := hS
  have HT : Hid (0 ≤ turn ∧ turn < 256) := ht
  have HAT : Hid (Fit64 at_) := hat
  clear ha hs hS ht hat
  go_enter Try.func7, Try.ntmps7
  go_wp2_with fail
  refine Calls.mono (new_ok 4 (by decide) (by decide)) ?_
  rintro e w1 ⟨rfl, h1, k1⟩
  have H1 : Hid (TM w w1 w.heap.size (.slice none 0 0) 4 []) := ⟨h1, k1, Nat.le_refl _, fun k hk => by simp [Value.ownBlock] at hk⟩
  clear h1 k1
  generalize w.heap.size = B at *
  go_wp2_with fail
  go_loopw [11] (fun t wr => ∃ (i : Nat) (v : Value) (xs : List La), i ≤ 10 ∧ xs.length ≤ 4 ∧ t = .int .i64 i ∧ TM w wr B v 4 xs ∧ Small xs) (fun t _ => 10 - (intOf t).toNat)
  case atStart => exact ⟨0, _, [], by omega, by decide, rfl, H1.out, fun x hx => by simp at hx⟩
  case round =>
    obtain ⟨i, v, xs, hi, hl, rfl, hm, hsm⟩ := hrel
    have HM : Hid (TM w wr B v 4 xs) := hm
    have HF : Hid (Small xs) := hsm
    clear hm H1 hsm
    by_cases hlt : i < ss.length ∧ i < 10
    · obtain ⟨b, off, rfl, hx⟩ := str_at HS.out.1 hlt.1
      have g1 : (i : Int) < (ss.length : Int) := by omega
      have g2 : (i : Int) < 10 := by omega
      have g0 : (0 : Int) ≤ (i : Int) := by omega
      have y0 := hx wr HM.out.kept
      have hsl := HS.out.2 ss[i] (List.getElem_mem _)
      generalize ss[i] = s at *
      have cd := done_tb HM.out.tb (by omega) (by decide) ⟨s, i, [114]⟩
      have HF' : Hid (Small (done 4 xs ⟨s, i, [114]⟩).2) := HF.out.done 4 ⟨hsl, by simp⟩
      have HL' : Hid (((done 4 xs ⟨s, i, [114]⟩).2.length : Int) ≤ 4) := done_length _ (by omega) (by decide)
      generalize done 4 xs ⟨s, i, [114]⟩ = d at *
      clear hx hsl
      go_wp2_with fail
      refine Calls.mono cd ?_
      rintro e w2 ⟨rfl, v2, s2⟩
      have H2 : Hid (TM w w2 B v2 4 d.2) := HM.out.step s2
      clear cd s2
      go_wp2_with fail
      go_roundw
      case rel => exact ⟨i + 1, v2, d.2, by omega, by have := HL'.out; omega, by go_num, H2.out, HF'.out⟩
      case measure => simp [intOf]; omega
    · have hex : ¬ (i : Int) < (ss.length : Int) ∨ ((i : Int) < (ss.length : Int) ∧ ¬ (i : Int) < 10) := by omega
      have hsv := HF.out.saved 4 (by omega)
      have cs := save_any HM.out.tb (by omega)
      clear HS hlt HF
      generalize saved 4 xs = sv at *
      obtain ⟨L, hLe⟩ : ∃ L, sv.length = L := ⟨_, rfl⟩
      rw [hLe] at cs hsv
      have HLe : Hid (sv.length = L) := hLe
      clear hLe
      rcases hex with hex | hex
      all_goals
        go_wp2_with fail
        refine Calls.mono cs ?_
        rintro e w2 ⟨D, rfl, h2, k2, l2⟩
        have B2 : Hid (Blk w2 D sv) := h2
        have K2 : Hid (Kept (fun _ => True) w w2 ∧ w.heap.size ≤ D) := ⟨HM.out.kept.trans k2, Nat.le_trans HM.out.kept.size l2⟩
        clear h2 k2 l2 cs HM
        have n0 : (0 : Int) < (L : Int) := by omega
        have n1 : ¬ ((L : Int) = 0) := by omega
        have n2 : ((L : Int) == 0) = false := by simp; omega
        have n3 : ¬ ((L : Int) = -1) := by omega
        obtain ⟨Z, q, hZ, hq, hq8⟩ : ∃ (Z : Int) (q : Nat), Hid (Z = if at_ < 0 then -(at_ + 1) else at_) ∧ Z.tmod (L : Int) = (q : Int) ∧ q < L := by
          have hz := HAT.out
          unfold Fit64 at hz
          obtain ⟨m, hm⟩ : ∃ m : Nat, (if at_ < 0 then -(at_ + 1) else at_) = (m : Int) := by
            refine ⟨(if at_ < 0 then -(at_ + 1) else at_).toNat, ?_⟩
            split <;> omega
          exact ⟨_, m % L, rfl, by rw [hm]; exact Int.ofNat_tmod m _, Nat.mod_lt _ (by omega)⟩
        have hz := HAT.out
        unfold Fit64 at hz
        go_upto_if 50 with fail
        go_cut [2] from 48 to 53 (fun s wx => s = .int .i64 Z ∧ w2 = wx)
        case first =>
          by_cases hneg : at_ < 0
          · have w1 : IntKind.i64.wrap (at_ + 1) = at_ + 1 := by simp [IntKind.wrap, IntKind.bits, IntKind.signed]; omega
            have w2 : IntKind.i64.wrap (-(at_ + 1)) = -(at_ + 1) := by simp [IntKind.wrap, IntKind.bits, IntKind.signed]; omega
            go_wp2_with fail
            go_meet
            exact ⟨by rw [hZ.out, if_pos hneg], rfl⟩
          · go_wp2_with fail
            go_meet
            exact ⟨by rw [hZ.out, if_neg (by omega)], rfl⟩
        case rest =>
        obtain ⟨rfl, rfl⟩ := hcut
        clear hZ hz
        have wq : IntKind.i64.wrap (q : Int) = (q : Int) := by simp [IntKind.wrap, IntKind.bits, IntKind.signed]; omega
        have q0 := B2.out.cell q (by rw [HLe.out]; exact hq8)
        have qf : w2.frozen? ⟨D, q, none⟩ = false := by have := B2.out; unfold Blk at this; simp [World.frozen?, this]
        obtain ⟨y, hy⟩ := xored (sv[q]'(by rw [HLe.out]; exact hq8)) turn HT.out
        have k1 : (q : Int) < (L : Int) := by omega
        have k0 : (0 : Int) ≤ (q : Int) := by omega
        have B3 : Hid (Blk (w2.setCell ⟨D, q, none⟩ (.int .u8 y.toNat)).drew D (sv.set q y)) := (B2.out.set q y).kept ((Kept.refl (fun _ => True) _).drewN 1) trivial
        have K3 : Hid (Kept (fun _ => True) w (w2.setCell ⟨D, q, none⟩ (.int .u8 y.toNat)).drew) := (K2.out.1.setNew K2.out.2 _).drewN 1
        have hL : Hid ((sv.set q y).length = L) := by show _ = _; rw [List.length_set]; exact HLe.out
        generalize sv[q]'(by rw [HLe.out]; exact hq8) = z at *
        clear B2
        go_wp2_with fail
        go_region_with (fail)
        all_goals
          generalize (w2.setCell ⟨D, q, none⟩ (.int .u8 y.toNat)).drew = w3 at *
          generalize sv.set q y = sv' at *
          clear hy q0 qf
          have k4 : Kept (fun _ => True) w3 (w3.alloc (.cells #[.slice a0 bs.length cap0, .slice (some ⟨D, 0, none⟩) L L] 30)) := (Kept.refl _ _).alloc _
          have h4 := heap_alloc_new w3 (.cells #[.slice a0 bs.length cap0, .slice (some ⟨D, 0, none⟩) L L] 30)
          have B4 : Hid (Blk _ D sv') := B3.out.kept k4 trivial
          have K4 : Hid (Kept (fun _ => True) w _) := K3.out.trans k4
          have H4 : Hid (Has _ a0 bs) := HB.out.kept K4.out (fun _ _ => trivial)
          clear k4 B3 K3
          go_wp2_with fail
          generalize w3.alloc (.cells #[.slice a0 bs.length cap0, .slice (some ⟨D, 0, none⟩) L L] 30) = w4 at *
          generalize w3.heap.size = S0 at *
          obtain ⟨s0, s1, -, -⟩ := two_cell h4
          have C4 : Hid (w4.cell? ⟨S0, 0, none⟩ = some (.slice a0 bs.length cap0) ∧ w4.cell? ⟨S0, 1, none⟩ = some (.slice (some ⟨D, 0, none⟩) L L)) := ⟨s0, s1⟩
          clear h4 s0 s1
          go_loopw [73] (fun t wr => ∃ i : Nat, i ≤ 2 ∧ t = .int .i64 i ∧ Kept (fun _ => True) w4 wr) (fun t _ => 2 - (intOf t).toNat)
          case atStart => exact ⟨0, by omega, rfl, Kept.refl _ _⟩
          case round =>
            obtain ⟨i, hi, rfl, ki⟩ := hrel
            have s0 := cell_kept ki C4.out.1 trivial
            have s1 := cell_kept ki C4.out.2 trivial
            have c0 := load_any (cap := cap0) hb (H4.out.kept ki (fun _ _ => trivial))
            have c1 := load_any (bs := sv') (cap := L) (by have := hL.out; omega) ((B4.out.kept ki trivial).has)
            rw [hL.out] at c1
            have hcases : (i < 2 ∧ Hid (i = 0)) ∨ (i < 2 ∧ Hid (i = 1)) ∨ i = 2 := by
              have : i = 0 ∨ i = 1 ∨ i = 2 := by omega
              rcases this with h | h | h
              · exact .inl ⟨by omega, h⟩
              · exact .inr (.inl ⟨by omega, h⟩)
              · exact .inr (.inr h)
            rcases hcases with ⟨h2, h0⟩ | ⟨h2, h0⟩ | h2
            · have si : wr.cell? ⟨S0, i, none⟩ = some (.slice a0 bs.length cap0) := by rw [h0.out]; exact s0
              have i2 : (i : Int) < 2 := by omega
              have i0 : (0 : Int) ≤ (i : Int) := by omega
              clear s0 s1 c1
              go_wp2_with fail
              refine Calls.mono c0 ?_
              rintro e w5 ⟨h5, k5⟩
              clear c0
              rcases h5 with ⟨-, rfl⟩ | ⟨A5, v5, m5, x5, -, rfl, p5, l5, -⟩
              · go_wp2
                go_roundw
                case rel => exact ⟨i + 1, by omega, by go_num, ki.trans k5⟩
                case measure => simp [intOf]; omega
              · have cc := clients_any p5
                go_wp2_with fail
                refine Calls.mono cc ?_
                rintro e w6 ⟨u6, rfl, t6, k6⟩
                obtain ⟨a6, c6, rfl, -, -⟩ := t6.shape
                have l6 : ¬ ((64 : Int) < ((x5.map La.c).length : Int)) := by rw [List.length_map]; omega
                clear cc t6
                generalize (x5.map La.c).length = n6 at *
                go_wp2_with fail
                go_roundw
                case rel => exact ⟨i + 1, by omega, by go_num, ki.trans (k5.trans k6)⟩
                case measure => simp [intOf]; omega
            · have si : wr.cell? ⟨S0, i, none⟩ = some (.slice (some ⟨D, 0, none⟩) L L) := by rw [h0.out]; exact s1
              have i2 : (i : Int) < 2 := by omega
              have i0 : (0 : Int) ≤ (i : Int) := by omega
              clear s0 s1 c0
              go_wp2_with fail
              refine Calls.mono c1 ?_
              rintro e w5 ⟨h5, k5⟩
              clear c1
              rcases h5 with ⟨-, rfl⟩ | ⟨A5, v5, m5, x5, -, rfl, p5, l5, -⟩
              · go_wp2
                go_roundw
                case rel => exact ⟨i + 1, by omega, by go_num, ki.trans k5⟩
                case measure => simp [intOf]; omega
              · have cc := clients_any p5
                go_wp2_with fail
                refine Calls.mono cc ?_
                rintro e w6 ⟨u6, rfl, t6, k6⟩
                obtain ⟨a6, c6, rfl, -, -⟩ := t6.shape
                have l6 : ¬ ((64 : Int) < ((x5.map La.c).length : Int)) := by rw [List.length_map]; omega
                clear cc t6
                generalize (x5.map La.c).length = n6 at *
                go_wp2_with fail
                go_roundw
                case rel => exact ⟨i + 1, by omega, by go_num, ki.trans (k5.trans k6)⟩
                case measure => simp [intOf]; omega
            · have i2 : ¬ (i : Int) < 2 := by omega
              clear s0 s1 c0 c1
              go_wp2_with fail
              refine Calls.mono known_any ?_
              rintro e w5 ⟨rfl, k5⟩
              go_wp2
              go_ret
              exact ⟨rfl, K4.out.trans (ki.trans k5)⟩

end Go.Proofs.Ytihfcmcpapgokaa
