/-
  TxnLoads.
-/
import Derived.Test.YtebpkhemkdgbjaaYB
import Derived.Test.YtebpkhemkdgbjaaYL2
import Derived.Test.YtebpkhemkdgbjaaSWithin
namespace Go.Proofs.Ytebpkhemkdgbjaa
open Go.RowKit

theorem encT_none : ∀ (ow : List Nat) (tx : List (List UInt8)), encT B3.none ow tx = []
  | [], [] => rfl
  | [], _ :: _ => rfl
  | _ :: _, [] => rfl
  | g :: ow, t :: tx => by rw [encT, if_neg (by rw [B3.at_none]; simp), encT_none ow tx]; rfl
theorem saved_raw (L : List Nat) : (savedT (rawT L)).length = 27 + L.length := by
  rw [savedT_length]
  have : encT (rawT L).vo (rawT L).ow (rawT L).tx = [] := encT_none _ _
  rw [this]
  rfl
theorem late_oc (z : Tn) : (z.late.oc == 0) = false := by
  unfold Tn.late
  by_cases h : z.oc = 0
  · rw [if_pos h]; rfl
  · rw [if_neg h, beq_eq_false_iff_ne]; exact h
theorem Ov.pair (w : World) (o p : Oz) : Ov (w.alloc (.cells #[.int .i64 o.kind, .string ⟨o.cas.toArray⟩, .string ⟨o.name.toArray⟩, .int .i64 o.n, .int .i64 p.kind, .string ⟨p.cas.toArray⟩, .string ⟨p.name.toArray⟩, .int .i64 p.n] 32)) (some ⟨w.heap.size, 0, none⟩) [o, p] := by
  have h := heap_alloc_new w (.cells #[.int .i64 o.kind, .string ⟨o.cas.toArray⟩, .string ⟨o.name.toArray⟩, .int .i64 o.n, .int .i64 p.kind, .string ⟨p.cas.toArray⟩, .string ⟨p.name.toArray⟩, .int .i64 p.n] 32)
  refine ⟨fun _ => ⟨_, 0, rfl, lt_of_block h, fun i hi => ?_⟩⟩
  match i, hi with
  | 0, _ => exact ⟨cell_of_row _ _ 0 _ _ _ h, cell_of_row _ _ 1 _ _ _ h, cell_of_row _ _ 2 _ _ _ h, cell_of_row _ _ 3 _ _ _ h⟩
  | 1, _ => exact ⟨cell_of_row _ _ 4 _ _ _ h, cell_of_row _ _ 5 _ _ _ h, cell_of_row _ _ 6 _ _ _ h, cell_of_row _ _ 7 _ _ _ h⟩

/-- Load, Late and Outcome of any bytes. -/
def ELd (w : World) (e : Ending) (w' : World) : Prop := (e = .returned (.tuple #[.pointer none, .int .i64 12]) ∨ ∃ T ov tv z, e = .returned (.tuple #[.pointer (some ⟨T, 0, none⟩), .int .i64 0]) ∧ Tm w' w.heap.size T ov tv z) ∧ Kept (fun _ => True) w w'
theorem load_eld {w : World} {bs : List UInt8} {cap : Nat} {ao : Option Addr} (hb : (bs.length : Int) ≤ 140737488355328) (hc : Has w ao bs) : Calls Try.prog 16 #[.slice ao bs.length cap] w fun e w' => ELd w e w' := by
  refine (load_txn (cap := cap) hb hc).mono ?_
  rintro e w' ⟨h, k⟩
  rcases h with ⟨_, h⟩ | ⟨T, ov, tv, z, _, h, ht⟩
  · exact ⟨.inl h, k⟩
  · exact ⟨.inr ⟨T, ov, tv, z, h, ht⟩, k⟩

set_option maxRecDepth 100000 in
set_option maxHeartbeats 4000000 in
theorem txnLoads_any {w : World} {a0 : Option Addr} {cap0 : Nat} {bs : List UInt8} (hS : Has w a0 bs) (hb : (bs.length : Int) ≤ 140737488355328) (at_ turn : Int) (ht : 0 ≤ turn ∧ turn < 256) :
    Calls Try.prog 6 #[.slice a0 bs.length cap0, .int .i64 at_, .int .u8 turn] w fun e w' => e = .returned (.bool true) ∧ Kept (fun _ => True) w w' := by
  have HB : Hid (Has w a0 bs) := hS
  have HT : Hid (0 ≤ turn ∧ turn < 256) := ht
  have cn : Calls Try.prog 8 #[.int .i64 2] w _ := new_any (w := w) 2 (by decide) (by decide)
  have hr := new_rgt (k := 1) (by decide)
  have hl := rgt_most (rgt_iff.1 hr).2.2
  simp only [Nat.reduceAdd] at hr hl
  generalize newP 2 = ps at *
  have HR : Hid (rgt 1 ps = true) := hr
  clear hS ht hr
  go_enter Try.func6, Try.ntmps6
  go_wp2_with (go_at_call 8; (with_reducible refine Calls.mono cn ?_); rintro e w1 ⟨a1, p1, rfl, hp, k1⟩; have hv := hp.view)
  have HBx : Hid (Bx (w1.alloc (.cells #[.int .i64 1, .slice a1 ps.length p1] 24)) w1.heap.size a1 p1 1 ps) := Bx.made hv
  have HK : Hid (Kept (fun _ => True) w (w1.alloc (.cells #[.int .i64 1, .slice a1 ps.length p1] 24))) := k1.alloc _
  clear hp hv k1 cn
  generalize w1.alloc (.cells #[.int .i64 1, .slice a1 ps.length p1] 24) = w2 at *
  generalize w1.heap.size = X at *
  have M0 : ∀ W, Kept (fun _ => True) w2 W → W.cell? ⟨X, 0, none⟩ = some (.int .i64 1) := fun W q => (HBx.out.all q).cells.1
  have M1 : ∀ W, Kept (fun _ => True) w2 W → W.cell? ⟨X, 1, none⟩ = some (.slice a1 ps.length p1) := fun W q => (HBx.out.all q).cells.2
  have CN : Hid (∀ W am, Kept (fun _ => True) w2 W → Ov W am [⟨5, [97], [], 0⟩, ⟨5, [98], [], 0⟩] → Calls Try.prog 9 #[.string ⟨#[116]⟩, .slice am 2 2, .agg #[.int .i64 1, .slice a1 ps.length p1]] W fun e w' => ∃ T ov tv, e = .returned (.tuple #[.pointer (some ⟨T, 0, none⟩), .int .i64 0]) ∧ Tm w' W.heap.size T ov tv (rawT (owl (hof ps [⟨5, [97], [], 0⟩, ⟨5, [98], [], 0⟩]) 2)) ∧ Kept (fun _ => True) W w') := fun W am k hm => new_txn [116] rfl (HBx.out.all k).view HR.out hm (by simp) (by decide) (by decide)
  have hsv := saved_raw (owl (hof ps [⟨5, [97], [], 0⟩, ⟨5, [98], [], 0⟩]) 2)
  rw [owl_length] at hsv
  have CS : Hid (∀ W b T ov tv, Tm W b T ov tv (rawT (owl (hof ps [⟨5, [97], [], 0⟩, ⟨5, [98], [], 0⟩]) 2)) → Calls Try.prog 31 #[.pointer (some ⟨T, 0, none⟩)] W fun e w' => ∃ D, e = .returned (.slice (some ⟨D, 0, none⟩) 29 29) ∧ w'.heap[D]? = some (.cells (cells (savedT (rawT (owl (hof ps [⟨5, [97], [], 0⟩, ⟨5, [98], [], 0⟩]) 2)))).toArray 5 (0, 0)) ∧ Kept (fun _ => True) W w' ∧ W.heap.size ≤ D) := fun W b T ov tv h => by
    have c := save_txn h (by rw [hsv]; decide)
    rw [hsv] at c
    exact c
  generalize rawT (owl (hof ps [⟨5, [97], [], 0⟩, ⟨5, [98], [], 0⟩]) 2) = z0 at *
  have HSV : Hid ((savedT z0).length = 29) := hsv
  generalize savedT z0 = sv at *
  clear hsv
  go_region_held3 (fun W => Kept (fun _ => True) w2 W) (first | assumption | (repeat (first | assumption | exact Kept.refl _ _ | refine Kept.drew ?_ | refine Kept.alloc ?_ _))) (first
    | (go_at_call 10; (with_reducible refine Calls.mono (read_any [97]) ?_); rintro e w9 ⟨rfl, k9⟩; have s9 : Kept (fun _ => True) w2 w9 := (Kept.refl _ _).drew.trans k9; clear k9)
    | (go_at_call 10; (with_reducible refine Calls.mono (read_any [98]) ?_); rintro e w10 ⟨rfl, k10⟩; have s10 : Kept (fun _ => True) w2 w10 := s9.trans k10; clear k10)
    | (go_at_call 9; (with_reducible refine Calls.mono (CN.out _ _ (Kept.alloc s10 _) (Ov.pair w10 ⟨5, [97], [], 0⟩ ⟨5, [98], [], 0⟩)) ?_); rintro e w11 ⟨T, ov, tv, rfl, h11, k11⟩; have s11 : Kept (fun _ => True) w2 w11 := (Kept.alloc s10 _).trans k11; have c12 := CS.out _ _ _ _ _ h11; clear h11 k11))
  have HK11 : Hid (Kept (fun _ => True) w w11) := HK.out.trans s11
  clear M0 M1 s9 s10 s11 CN HBx HK HR hl CS
  go_wp2_with (go_at_call 31; (with_reducible refine Calls.mono c12 ?_); rintro e w12 ⟨D, rfl, h12, k12, l12⟩; have B2 : Hid (Blm w12 D sv) := h12; have K2 : Hid (Kept (fun _ => True) w w12 ∧ w.heap.size ≤ D) := ⟨HK11.out.trans k12, Nat.le_trans HK11.out.size l12⟩; clear h12 k12 l12)
  clear c12
  have cw := within_any (w := w12) at_ 28 (by omega)
  go_wp2_with (go_at_call 22; (with_reducible refine Calls.mono cw ?_); rintro e w13 ⟨⟨q, hq, rfl⟩, hw⟩; obtain rfl : w12 = w13 := hw.symm; have q0 := B2.out.cell q (by rw [HSV.out]; omega); have qf : w12.frozen? ⟨D, q, none⟩ = false := (by have := B2.out; unfold Blm at this; simp [World.frozen?, this]); obtain ⟨y, hy⟩ := xoredm (sv[q]'(by rw [HSV.out]; omega)) turn HT.out; have qk1 : (q : Int) < 29 := (by omega); have qk0 : (0 : Int) ≤ (q : Int) := (by omega))
  have B3 : Hid (Blm (w12.setCell ⟨D, q, none⟩ (.int .u8 y.toNat)) D (sv.set q y)) := B2.out.set q y
  have K3 : Hid (Kept (fun _ => True) w (w12.setCell ⟨D, q, none⟩ (.int .u8 y.toNat))) := K2.out.1.setFresh K2.out.2 _
  have hL : Hid ((sv.set q y).length = 29) := by show _ = _; rw [List.length_set]; exact HSV.out
  generalize sv[q]'(by rw [HSV.out]; omega) = z at *
  generalize sv.set q y = sv' at *
  clear B2 HSV
  have k4 : Kept (fun _ => True) (w12.setCell ⟨D, q, none⟩ (.int .u8 y.toNat)) ((w12.setCell ⟨D, q, none⟩ (.int .u8 y.toNat)).alloc (.cells #[.slice a0 bs.length cap0, .slice (some ⟨D, 0, none⟩) 29 29] 42)) := (Kept.refl _ _).alloc _
  have h4 := heap_alloc_new (w12.setCell ⟨D, q, none⟩ (.int .u8 y.toNat)) (.cells #[.slice a0 bs.length cap0, .slice (some ⟨D, 0, none⟩) 29 29] 42)
  rw [show (w12.setCell ⟨D, q, none⟩ (.int .u8 y.toNat)).heap.size = w12.heap.size by simp [World.setCell]] at h4
  have B4 : Hid (Blm _ D sv') := B3.out.kept k4 trivial
  have K4 : Hid (Kept (fun _ => True) w _) := K3.out.trans k4
  have H4 : Hid (Has _ a0 bs) := HB.out.kept K4.out (fun _ _ => trivial)
  have H5 : Hid _ := h4
  clear k4 B3 K3 h4
  generalize (w12.setCell ⟨D, q, none⟩ (.int .u8 y.toNat)).alloc (.cells #[.slice a0 bs.length cap0, .slice (some ⟨D, 0, none⟩) 29 29] 42) = w4 at *
  obtain ⟨s0, s1⟩ := mtwo_cell H5.out
  have C4 : Hid (w4.cell? ⟨w12.heap.size, 0, none⟩ = some (.slice a0 bs.length cap0) ∧ w4.cell? ⟨w12.heap.size, 1, none⟩ = some (.slice (some ⟨D, 0, none⟩) 29 29)) := ⟨s0, s1⟩
  have l4 := lt_of_block H5.out
  clear H5 s0 s1 q0 qf hy cw
  generalize w12.heap.size = S0 at *
  have L4 : Hid (S0 < w4.heap.size) := l4
  clear l4
  go_loopw [58] (fun t wr => ∃ i : Nat, i ≤ 2 ∧ t = .int .i64 i ∧ Kept (fun _ => True) w4 wr) (fun t _ => 2 - (intOf t).toNat)
  case atStart => exact ⟨0, by omega, rfl, Kept.refl _ _⟩
  case round =>
    obtain ⟨i, hi, rfl, ki⟩ := hrel
    have KI : Hid (Kept (fun _ => True) w4 wr) := ki
    have s0 := (kept_cell ki L4.out trivial).trans C4.out.1
    have s1 := (kept_cell ki L4.out trivial).trans C4.out.2
    have c0 := load_eld (cap := cap0) hb (H4.out.kept ki (fun _ _ => trivial))
    have c1 := load_eld (bs := sv') (cap := 29) (by rw [hL.out]; decide) ((B4.out.kept ki trivial).has)
    rw [hL.out] at c1
    clear ki
    have hcases : (i < 2 ∧ Hid (i = 0)) ∨ (i < 2 ∧ Hid (i = 1)) ∨ i = 2 := by
      have : i = 0 ∨ i = 1 ∨ i = 2 := by omega
      rcases this with h | h | h
      · exact .inl ⟨by omega, h⟩
      · exact .inr (.inl ⟨by omega, h⟩)
      · exact .inr (.inr h)
    rcases hcases with ⟨h2, h0⟩ | ⟨h2, h0⟩ | h2
    · have si : wr.cell? ⟨S0, i, none⟩ = some (.slice a0 bs.length cap0) := by rw [h0.out]; exact s0
      have i2 : (i : Int) < 2 := by omega
      have i0 : (0 : Int) ≤ (i : Int) := by omega
      clear s0 s1 c1
      go_wp2_with fail
      with_reducible refine Calls.mono c0 ?_
      rintro e w5 ⟨h5, k5⟩
      rcases h5 with rfl | ⟨U, ou, uv, z, rfl, hu⟩
      · have K5 : Hid (Kept (fun _ => True) w4 w5) := KI.out.trans k5
        clear k5
        go_wp2_with fail
        go_roundw
        case rel => exact ⟨i + 1, by omega, by go_num, K5.out⟩
        case measure => simp [intOf]; omega
      · have hT : Hid (wr.heap.size ≤ U ∧ ∀ x, uv.ownBlock = some x → wr.heap.size ≤ x) := ⟨hu.tb, fun x hx => Txs.ge hu.tx hx⟩
        have K5 : Hid (Kept (fun _ => True) w4 w5) := KI.out.trans k5
        have cl := late_any hu
        have hoc := late_oc z
        have KSz : Hid (w4.heap.size ≤ wr.heap.size) := KI.out.size
        clear k5 hu
        generalize z.late = z2 at *
        go_wp2_with (first
          | (go_at_call 14; (with_reducible refine Calls.mono cl ?_); rintro e w6 ⟨rfl, h6, k6⟩; have c7 := outcome_any h6; have K6 : Hid (Kept (fun _ => True) w4 w6) := K5.out.then k6 (fun i hi _ => ⟨fun e => by have := hT.out.1; have := KSz.out; omega, fun e => by have := hT.out.2 _ e; have := KSz.out; omega⟩); clear h6 k6)
          | (go_at_call 13; (with_reducible refine Calls.mono c7 ?_); rintro e w6 ⟨rfl, rfl⟩))
        go_roundw
        case rel => exact ⟨i + 1, by omega, by go_num, K6.out⟩
        case measure => simp [intOf]; omega
    · have si : wr.cell? ⟨S0, i, none⟩ = some (.slice (some ⟨D, 0, none⟩) 29 29) := by rw [h0.out]; exact s1
      have i2 : (i : Int) < 2 := by omega
      have i0 : (0 : Int) ≤ (i : Int) := by omega
      clear s0 s1 c0
      go_wp2_with fail
      with_reducible refine Calls.mono c1 ?_
      rintro e w5 ⟨h5, k5⟩
      rcases h5 with rfl | ⟨U, ou, uv, z, rfl, hu⟩
      · have K5 : Hid (Kept (fun _ => True) w4 w5) := KI.out.trans k5
        clear k5
        go_wp2_with fail
        go_roundw
        case rel => exact ⟨i + 1, by omega, by go_num, K5.out⟩
        case measure => simp [intOf]; omega
      · have hT : Hid (wr.heap.size ≤ U ∧ ∀ x, uv.ownBlock = some x → wr.heap.size ≤ x) := ⟨hu.tb, fun x hx => Txs.ge hu.tx hx⟩
        have K5 : Hid (Kept (fun _ => True) w4 w5) := KI.out.trans k5
        have cl := late_any hu
        have hoc := late_oc z
        have KSz : Hid (w4.heap.size ≤ wr.heap.size) := KI.out.size
        clear k5 hu
        generalize z.late = z2 at *
        go_wp2_with (first
          | (go_at_call 14; (with_reducible refine Calls.mono cl ?_); rintro e w6 ⟨rfl, h6, k6⟩; have c7 := outcome_any h6; have K6 : Hid (Kept (fun _ => True) w4 w6) := K5.out.then k6 (fun i hi _ => ⟨fun e => by have := hT.out.1; have := KSz.out; omega, fun e => by have := hT.out.2 _ e; have := KSz.out; omega⟩); clear h6 k6)
          | (go_at_call 13; (with_reducible refine Calls.mono c7 ?_); rintro e w6 ⟨rfl, rfl⟩))
        go_roundw
        case rel => exact ⟨i + 1, by omega, by go_num, K6.out⟩
        case measure => simp [intOf]; omega
    · have i2 : ¬ (i : Int) < 2 := by omega
      clear s0 s1 c0 c1
      go_wp2_with (go_at_call 20; (with_reducible refine Calls.mono (known_txn _) ?_); rintro e w5 ⟨rfl, k5⟩)
      go_ret
      exact ⟨rfl, K4.out.trans (KI.out.trans k5)⟩

end Go.Proofs.Ytebpkhemkdgbjaa
