/-
  BallotLoads.
-/
import Derived.Test.YtnogpjhcpdngcaaLawBal6
import Derived.Test.YtnogpjhcpdngcaaB9
namespace Go.Proofs.Ytnogpjhcpdngcaa
open Go.RowKit

/-- Votes for short texts. -/
def Small (f : Vs) : Prop := ∀ s x, f s = some x → x.2.size ≤ 200
theorem Small.none : Small (fun _ => none) := fun _ _ h => by cases h
theorem Small.upd {f : Vs} (h : Small f) (s : Nat) (b : Bl) {v : ByteArray} (hv : v.size ≤ 200) : Small (upd f s b v) := by
  intro k x hx
  unfold Proofs.Ytnogpjhcpdngcaa.upd at hx
  split at hx
  · cases hx; exact hv
  · exact h k x hx
theorem votes_short : ∀ (xs : List Vo), (∀ x ∈ xs, x.v.size ≤ 200) → (xs.flatMap encVote).length ≤ xs.length * 224
  | [], _ => by simp
  | x :: xs, h => by
    have h1 := votes_short xs (fun y hy => h y (.tail _ hy))
    have h2 := h x (.head _)
    rw [List.flatMap_cons, List.length_append, encVote_length, List.length_cons]
    omega
theorem Small.saved {f : Vs} (h : Small f) (p : Bl) : (saved p (votesUp f 0 512)).length ≤ 114708 ∧ 20 ≤ (saved p (votesUp f 0 512)).length := by
  have h1 := votes_short (votesUp f 0 512) (fun x hx => by
    obtain ⟨s, _, _, e⟩ := votesUp_mem hx
    unfold voteAt at e
    cases hf : f s with
    | none => rw [hf] at e; cases e
    | some y =>
      rw [hf] at e
      simp only [Option.map_some, Option.some.injEq] at e
      rw [← e]
      exact h s y hf)
  have h2 := votesUp_len f 0 512
  unfold Proofs.Ytnogpjhcpdngcaa.saved
  rw [List.length_append, savedHead_length]
  omega

theorem xored (z : UInt8) (t : Int) (ht : 0 ≤ t ∧ t < 256) : ∃ y : UInt8, bits BinOp.xor .u8 (z.toNat : Int) t = (y.toNat : Int) := by
  obtain ⟨T, rfl⟩ := Int.eq_ofNat_of_zero_le ht.1
  have hz := z.toNat_lt
  refine ⟨UInt8.ofNat (z.toNat ^^^ T), ?_⟩
  have hx : z.toNat ^^^ T < 2 ^ 8 := Nat.xor_lt_two_pow (by omega) (by omega)
  rw [u8_xor_nat z.toNat T (by omega) (by omega)]
  rw [UInt8.toNat_ofNat', Nat.mod_eq_of_lt hx]

/-- Bytes in a block by themselves. -/
def Blk (w : World) (D : Nat) (bs : List UInt8) : Prop := w.heap[D]? = some (.cells (cells bs).toArray 5 (0, 0))
theorem Blk.has {w : World} {D : Nat} {bs : List UInt8} (h : Blk w D bs) : Has w (some ⟨D, 0, none⟩) bs := row_has h
theorem Blk.cell {w : World} {D : Nat} {bs : List UInt8} (h : Blk w D bs) (k : Nat) (hk : k < bs.length) : w.cell? ⟨D, k, none⟩ = some (.int .u8 (bs[k]).toNat) := row_cells (w := w) (bs := bs) h (List.take_of_length_le (by simp [cells_length])) k hk
theorem Blk.kept {p : Nat → Prop} {w w' : World} {D : Nat} {bs : List UInt8} (h : Blk w D bs) (k : Kept p w w') (hp : p D) : Blk w' D bs := (k.block D (lt_of_block h) hp).trans h
theorem Blk.set {w : World} {D : Nat} {bs : List UInt8} (h : Blk w D bs) (k : Nat) (y : UInt8) : Blk (w.setCell ⟨D, k, none⟩ (.int .u8 y.toNat)) D (bs.set k y) := by
  have := set_at h k (.int .u8 y.toNat)
  unfold Blk
  rw [this]
  simp [cells, List.map_set]

set_option maxRecDepth 100000 in
set_option maxHeartbeats 2000000 in
theorem ballotLoads_any {w : World} {a0 : Option Addr} {cap0 : Nat} {bs : List UInt8} (hS : Has w a0 bs) (hb : (bs.length : Int) ≤ 140737488355328) {a : Option Addr} {na ca : Nat} (ha : IsAsks w a na) (at_ turn : Int) (ht : 0 ≤ turn ∧ turn < 256) :
    Calls Try.prog 6 #[.slice a0 bs.length cap0, .slice a na ca, .int .i64 at_, .int .u8 turn] w fun e w' => e = .returned (.bool true) ∧ Kept (fun _ => True) w w' := by
  have HS : Hid (IsAsks w a na) := ha
  have HB : Hid (Has w a0 bs) := hS
  have HT : Hid (0 ≤ turn ∧ turn < 256) := ht
  clear ha hS ht
  go_enter Try.func6, Try.ntmps6
  go_wp2_with fail
  refine Calls.mono new_any ?_
  rintro e w1 ⟨A, M, rfl, h1, k1, a1, m1⟩
  have H1 : Hid (AM w w1 A M 0 ⟨0, 0⟩ (fun _ => none)) := ⟨h1, k1, a1, m1⟩
  clear h1 k1 a1 m1
  go_wp2_with fail
  go_loopw [10] (fun t wr => ∃ (i n : Nat) (p : Bl) (f : Vs), i ≤ 10 ∧ n ≤ i ∧ t = .int .i64 i ∧ AM w wr A M n p f ∧ Small f) (fun t _ => 10 - (intOf t).toNat)
  case atStart => exact ⟨0, 0, _, _, by omega, by omega, rfl, H1.out, Small.none⟩
  case round =>
    obtain ⟨i, n, p, f, hi, hn, rfl, hm, hsm⟩ := hrel
    have HM : Hid (AM w wr A M n p f) := hm
    have HF : Hid (Small f) := hsm
    clear hm H1 hsm
    by_cases hlt : i < na ∧ i < 10
    · obtain ⟨b, off, x, rfl, hbl, -, hx⟩ := ask_at HS.out hlt.1
      have g1 : (i : Int) < (na : Int) := by omega
      have g2 : (i : Int) < 10 := by omega
      have g0 : (0 : Int) ≤ (i : Int) := by omega
      have hx' : ∀ W, Kept (fun y => y < w.heap.size) wr W → W.cell? ⟨b, off + i * 5 + 1, none⟩ = some (.int .i64 x.slot) ∧ W.cell? ⟨b, off + i * 5 + 2, none⟩ = some (.int .i64 x.r) ∧ W.cell? ⟨b, off + i * 5 + 3, none⟩ = some (.int .i64 x.n) := fun W k => by
        have := hx W ((HM.out.kept.mono (fun _ _ _ => trivial)).trans k)
        exact ⟨this.2.1, this.2.2.1, this.2.2.2.1⟩
      have y1 := fun W k => (hx' W k).1
      have y2 := fun W k => (hx' W k).2.1
      have y3 := fun W k => (hx' W k).2.2
      clear hx hx'
      have kd : Kept (fun y => y < w.heap.size) wr wr.drew := (Kept.refl _ _).drew
      have Hd : Hid (AM w wr.drew A M n p f) := HM.out.ahead (Kept.refl _ _).drew
      go_wp2_with fail
      go_region_held (fun W => Kept (fun y => y < w.heap.size) wr W) (assumption) (first
        | (go_at_call 25; refine Calls.mono (within_any _ 20 (by decide)) ?_; rintro e _ ⟨⟨k, hk, rfl⟩, rfl⟩)
        | (go_at_call 10; refine Calls.mono (accept_any Hd.out.ac (by omega) ⟨x.r, x.n⟩ _ _ _ rfl) ?_; rintro e w2 ⟨rfl, h2, k2⟩; have H2 := Hd.out.step h2 k2; have kx : Kept (fun y => y < w.heap.size) wr w2 := kd.trans (k2.mono (fun y _ hy => by have := Hd.out.a0; have := Hd.out.m0; omega))))
      all_goals
        go_wp2_with fail
        go_roundw
        case rel =>
          refine ⟨i + 1, n + 1, _, _, by omega, by omega, by go_num, H2, ?_⟩
          split
          · exact HF.out
          · exact HF.out.upd _ _ (by decide)
        case measure => simp [intOf]; omega
    · have hex : ¬ (i : Int) < (na : Int) ∨ ((i : Int) < (na : Int) ∧ ¬ (i : Int) < 10) := by omega
      have hsv := HF.out.saved p
      have cs := save_any HM.out.ac (by omega)
      clear HS hlt HF
      generalize saved p (votesUp f 0 512) = sv at *
      obtain ⟨N, hN⟩ : ∃ N, sv.length = N + 1 := ⟨sv.length - 1, by omega⟩
      have HNN : Hid (sv.length = N + 1) := hN
      rcases hex with hex | hex
      all_goals
        go_wp2_with fail
        refine Calls.mono cs ?_
        rintro e w2 ⟨D, rfl, h2, k2, l2⟩
        have B2 : Hid (Blk w2 D sv) := h2
        have K2 : Hid (Kept (fun _ => True) w w2 ∧ w.heap.size ≤ D) := ⟨HM.out.kept.trans k2, Nat.le_trans HM.out.kept.size l2⟩
        clear h2 k2 l2 cs HM
        rw [hN]
        go_wp2_with fail
        refine Calls.mono (within_any at_ N (by omega)) ?_
        rintro e w2 ⟨⟨k, hk, rfl⟩, rfl⟩
        have q0 := B2.out.cell k (by omega)
        have qf : w2.frozen? ⟨D, k, none⟩ = false := by have := B2.out; unfold Blk at this; simp [World.frozen?, this]
        obtain ⟨y, hy⟩ := xored (sv[k]'(by omega)) turn HT.out
        have k1 : (k : Int) < (N : Int) + 1 := by omega
        have k0 : (0 : Int) ≤ (k : Int) := by omega
        have B3 : Hid (Blk (w2.setCell ⟨D, k, none⟩ (.int .u8 y.toNat)) D (sv.set k y)) := B2.out.set k y
        have K3 : Hid (Kept (fun _ => True) w (w2.setCell ⟨D, k, none⟩ (.int .u8 y.toNat))) := K2.out.1.setNew K2.out.2 _
        have hL : Hid ((sv.set k y).length = N + 1) := by show _ = _; rw [List.length_set]; exact hN
        generalize sv[k]'(by omega) = z at *
        have hsz : (w2.setCell ⟨D, k, none⟩ (.int .u8 y.toNat)).heap.size = w2.heap.size := by simp [World.setCell]
        clear B2
        go_wp2_with fail
        generalize w2.setCell ⟨D, k, none⟩ (.int .u8 y.toNat) = w3 at *
        generalize sv.set k y = sv' at *
        have k4 : Kept (fun _ => True) w3 (w3.alloc (.cells #[.slice a0 bs.length cap0, .slice (some ⟨D, 0, none⟩) (N + 1) (N + 1)] 32)) := (Kept.refl _ _).alloc _
        have h4 := heap_alloc_new w3 (.cells #[.slice a0 bs.length cap0, .slice (some ⟨D, 0, none⟩) (N + 1) (N + 1)] 32)
        rw [hsz] at h4
        clear hsz
        have B4 : Hid (Blk _ D sv') := B3.out.kept k4 trivial
        have K4 : Hid (Kept (fun _ => True) w _) := K3.out.trans k4
        have H4 : Hid (Has _ a0 bs) := HB.out.kept K4.out (fun _ _ => trivial)
        clear k4 B3 K3 hy q0 qf
        generalize w3.alloc (.cells #[.slice a0 bs.length cap0, .slice (some ⟨D, 0, none⟩) (N + 1) (N + 1)] 32) = w4 at *
        generalize w2.heap.size = S0 at *
        obtain ⟨s0, s1⟩ := bcell h4
        have C4 : Hid (w4.cell? ⟨S0, 0, none⟩ = some (.slice a0 bs.length cap0) ∧ w4.cell? ⟨S0, 1, none⟩ = some (.slice (some ⟨D, 0, none⟩) (N + 1) (N + 1))) := ⟨s0, s1⟩
        clear h4 s0 s1
        go_loopw [66] (fun t wr => ∃ i : Nat, i ≤ 2 ∧ t = .int .i64 i ∧ Kept (fun _ => True) w4 wr) (fun t _ => 2 - (intOf t).toNat)
        case atStart => exact ⟨0, by omega, rfl, Kept.refl _ _⟩
        case round =>
          obtain ⟨i, hi, rfl, ki⟩ := hrel
          have s0 := cell_kept ki C4.out.1 trivial
          have s1 := cell_kept ki C4.out.2 trivial
          have c0 := load_any (cap := cap0) hb (H4.out.kept ki (fun _ _ => trivial))
          have c1 := load_any (bs := sv') (cap := N + 1) (by have := hL.out; omega) ((B4.out.kept ki trivial).has)
          rw [hL.out] at c1
          have hcases : (i < 2 ∧ Hid (i = 0)) ∨ (i < 2 ∧ Hid (i = 1)) ∨ i = 2 := by
            have : i = 0 ∨ i = 1 ∨ i = 2 := by omega
            rcases this with h | h | h
            · exact .inl ⟨by omega, h⟩
            · exact .inr (.inl ⟨by omega, h⟩)
            · exact .inr (.inr h)
          rcases hcases with ⟨h2, h0⟩ | ⟨h2, h0⟩ | h2
          · have si : wr.cell? ⟨S0, i, none⟩ = some (.slice a0 bs.length cap0) := by rw [h0.out]; exact s0
            have i2 : (i : Int) < 2 := by omega
            have i0 : (0 : Int) ≤ (i : Int) := by omega
            clear s0 s1 c1
            go_wp2_with fail
            refine Calls.mono c0 ?_
            rintro e w5 ⟨h5, k5⟩
            rcases h5 with ⟨-, rfl⟩ | ⟨A5, M5, n5, p5, f5, -, rfl, -⟩
            all_goals
              go_wp2
              go_roundw
              case rel => exact ⟨i + 1, by omega, by go_num, ki.trans k5⟩
              case measure => simp [intOf]; omega
          · have si : wr.cell? ⟨S0, i, none⟩ = some (.slice (some ⟨D, 0, none⟩) (N + 1) (N + 1)) := by rw [h0.out]; exact s1
            have i2 : (i : Int) < 2 := by omega
            have i0 : (0 : Int) ≤ (i : Int) := by omega
            clear s0 s1 c0
            go_wp2_with fail
            refine Calls.mono c1 ?_
            rintro e w5 ⟨h5, k5⟩
            rcases h5 with ⟨-, rfl⟩ | ⟨A5, M5, n5, p5, f5, -, rfl, -⟩
            all_goals
              go_wp2
              go_roundw
              case rel => exact ⟨i + 1, by omega, by go_num, ki.trans k5⟩
              case measure => simp [intOf]; omega
          · have i2 : ¬ (i : Int) < 2 := by omega
            clear s0 s1 c0 c1
            go_wp2_with fail
            refine Calls.mono known_any ?_
            rintro e w5 ⟨rfl, k5⟩
            go_wp2
            go_ret
            exact ⟨rfl, K4.out.trans (ki.trans k5)⟩

end Go.Proofs.Ytnogpjhcpdngcaa
