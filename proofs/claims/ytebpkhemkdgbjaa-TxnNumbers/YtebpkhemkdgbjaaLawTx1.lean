/-
  TxnNumbers.
-/
import Derived.Test.YtebpkhemkdgbjaaYB
import Derived.Test.YtebpkhemkdgbjaaYL2
import Derived.Lib.SlBytesConst
namespace Go.Proofs.Ytebpkhemkdgbjaa
open Go.RowKit

theorem conv_constt (w : World) (bs : List UInt8) (n c : Nat) : (convert 42 42 (.slice (some ⟨w.heap.size, 0, none⟩) n c)).run Try.prog (w.alloc (.cells (cells bs).toArray 5)) = .ok (.slice (some ⟨w.heap.size, 0, none⟩) n c) (w.alloc (.cells (cells bs).toArray 5 ((cells bs).toArray.size, (cells bs).toArray.size + 1))) :=
  Lib.run_convert_bytes_const (P := Try.prog) w 42 5 (cells bs).toArray n c Try.underlying42 Try.underlying5
theorem Ov.two (w : World) (o p : Oz) : Ov (w.alloc (.cells #[.int .i64 o.kind, .string ⟨o.cas.toArray⟩, .string ⟨o.name.toArray⟩, .int .i64 o.n, .int .i64 p.kind, .string ⟨p.cas.toArray⟩, .string ⟨p.name.toArray⟩, .int .i64 p.n] 32)) (some ⟨w.heap.size, 0, none⟩) [o, p] := by
  have h := heap_alloc_new w (.cells #[.int .i64 o.kind, .string ⟨o.cas.toArray⟩, .string ⟨o.name.toArray⟩, .int .i64 o.n, .int .i64 p.kind, .string ⟨p.cas.toArray⟩, .string ⟨p.name.toArray⟩, .int .i64 p.n] 32)
  refine ⟨fun _ => ⟨_, 0, rfl, lt_of_block h, fun i hi => ?_⟩⟩
  match i, hi with
  | 0, _ => exact ⟨cell_of_row _ _ 0 _ _ _ h, cell_of_row _ _ 1 _ _ _ h, cell_of_row _ _ 2 _ _ _ h, cell_of_row _ _ 3 _ _ _ h⟩
  | 1, _ => exact ⟨cell_of_row _ _ 4 _ _ _ h, cell_of_row _ _ 5 _ _ _ h, cell_of_row _ _ 6 _ _ _ h, cell_of_row _ _ 7 _ _ _ h⟩
theorem make_five (W : World) : (Instr.makeSlice 34 (.int .i64 5) (.int .i64 5)).run Try.prog W = .ok (.slice (some ⟨W.heap.size, 0, none⟩) 5 5) (W.alloc (.cells #[.int .i64 0, .string ⟨#[]⟩, .string ⟨#[]⟩, .int .i64 0, .int .i64 0, .string ⟨#[]⟩, .string ⟨#[]⟩, .int .i64 0, .int .i64 0, .string ⟨#[]⟩, .string ⟨#[]⟩, .int .i64 0, .int .i64 0, .string ⟨#[]⟩, .string ⟨#[]⟩, .int .i64 0, .int .i64 0, .string ⟨#[]⟩, .string ⟨#[]⟩, .int .i64 0] 32)) := by kernel_rfl
theorem nosave : loadT [110, 111, 32, 115, 97, 118, 101] = none := by kernel_rfl

set_option maxRecDepth 100000 in
set_option maxHeartbeats 8000000 in
theorem txnNumbers_any (w : World) : Calls Try.prog 3 #[] w fun e w' => e = .returned (.bool true) ∧ Kept (fun _ => True) w w' := by
  have cn : Calls Try.prog 8 #[.int .i64 1] w _ := new_any (w := w) 1 (by decide) (by decide)
  have hn1 : (newP 1).length = 1 := rfl
  rw [hn1] at cn
  go_enter Try.func3, Try.ntmps3
  go_wp2_with (go_at_call 8; (with_reducible refine Calls.mono cn ?_); rintro e w1 ⟨a0, p0, rfl, hp, k1⟩; have hv := hp.view)
  have HB : Hid (Bx (w1.alloc (.cells #[.int .i64 1, .slice a0 1 p0] 24)) w1.heap.size a0 p0 1 (newP 1)) := Bx.made hv
  have HK : Hid (Kept (fun _ => True) w (w1.alloc (.cells #[.int .i64 1, .slice a0 1 p0] 24))) := k1.alloc _
  clear hp hv k1 cn hn1
  generalize w1.alloc (.cells #[.int .i64 1, .slice a0 1 p0] 24) = w2 at *
  generalize w1.heap.size = X at *
  have CNo1 : Hid (∀ W am, Kept (fun _ => True) w2 W → Calls Try.prog 9 #[.string ⟨#[]⟩, .slice am 1 1, .agg #[.int .i64 1, .slice a0 1 p0]] W fun e w' => e = .returned (.tuple #[.pointer none, .int .i64 1]) ∧ Kept (fun _ => True) W w') := fun W am k => new_no [] (HB.out.all k).view (by decide) (.inl rfl) (by decide)
  have CNo2 : Hid (∀ W, Kept (fun _ => True) w2 W → Calls Try.prog 9 #[.string ⟨#[116]⟩, .slice none 0 0, .agg #[.int .i64 1, .slice a0 1 p0]] W fun e w' => e = .returned (.tuple #[.pointer none, .int .i64 1]) ∧ Kept (fun _ => True) W w') := fun W k => new_no [116] (HB.out.all k).view (by decide) (.inr (.inl rfl)) (by decide)
  have CNo3 : Hid (∀ W am, Calls Try.prog 9 #[.string ⟨#[116]⟩, .slice am 1 1, .agg #[.int .i64 0, .slice none 0 0]] W fun e w' => e = .returned (.tuple #[.pointer none, .int .i64 1]) ∧ Kept (fun _ => True) W w') := fun W am => new_no [116] (ps := []) (Pv.nil W none) (by decide) (.inr (.inr (.inr rfl))) (by decide)
  have CNo4 : Hid (∀ W am, Kept (fun _ => True) w2 W → Calls Try.prog 9 #[.string ⟨#[116]⟩, .slice am 5 5, .agg #[.int .i64 1, .slice a0 1 p0]] W fun e w' => e = .returned (.tuple #[.pointer none, .int .i64 1]) ∧ Kept (fun _ => True) W w') := fun W am k => new_no [116] (HB.out.all k).view (by decide) (.inr (.inr (.inl (by decide)))) (by decide)
  have CN : Hid (∀ W am, Kept (fun _ => True) w2 W → Ov W am [⟨5, [97], [], 0⟩, ⟨5, [98], [], 0⟩] → Calls Try.prog 9 #[.string ⟨#[116]⟩, .slice am 2 2, .agg #[.int .i64 1, .slice a0 1 p0]] W fun e w' => ∃ T ov tv, e = .returned (.tuple #[.pointer (some ⟨T, 0, none⟩), .int .i64 0]) ∧ Tm w' W.heap.size T ov tv (rawT [0, 0]) ∧ Kept (fun _ => True) W w') := fun W am k hm => newt_one [116] rfl (HB.out.all k).view hm (by simp) (by decide) (by decide)
  have M0 : ∀ W, Kept (fun _ => True) w2 W → W.cell? ⟨X, 0, none⟩ = some (.int .i64 1) := fun W q => (HB.out.all q).cells.1
  have M1 : ∀ W, Kept (fun _ => True) w2 W → W.cell? ⟨X, 1, none⟩ = some (.slice a0 1 p0) := fun W q => (HB.out.all q).cells.2
  go_region_held3 (fun W => Kept (fun _ => True) w2 W) (first | assumption | (repeat (first | assumption | exact Kept.refl _ _ | refine Kept.drew ?_ | refine Kept.alloc ?_ _))) (first
    | (go_at_call 10; (with_reducible refine Calls.mono (read_any [97]) ?_); rintro e w3 ⟨rfl, k3⟩; have s3 : Kept (fun _ => True) w2 w3 := (Kept.refl _ _).drew.trans k3; clear k3)
    | (go_at_call 9; (with_reducible refine Calls.mono (CNo1.out _ _ (Kept.alloc s3 _)) ?_); rintro e w4 ⟨rfl, k4⟩; have s4 : Kept (fun _ => True) w2 w4 := (Kept.alloc s3 _).trans k4; clear k4))
  have HS4 : Hid (Kept (fun _ => True) w2 w4) := s4
  have m0 := M0 w4 s4
  have m1 := M1 w4 s4
  clear M0 M1 s3 s4 CNo1
  go_wp2_with (first
    | (go_at_call 9; (with_reducible refine Calls.mono (CNo2.out _ HS4.out) ?_); rintro e w5 ⟨rfl, k5⟩; have HS5 : Hid (Kept (fun _ => True) w2 w5) := HS4.out.trans k5; clear k5)
    | (go_at_call 10; (with_reducible refine Calls.mono (read_any [97]) ?_); rintro e w6 ⟨rfl, k6⟩; have HS6 : Hid (Kept (fun _ => True) w2 w6) := HS5.out.trans k6; clear k6)
    | (go_at_call 9; (with_reducible refine Calls.mono (CNo3.out _ _) ?_); rintro e w7 ⟨rfl, k7⟩; have HS7 : Hid (Kept (fun _ => True) w2 w7) := (HS6.out.alloc _).trans k7; clear k7))
  clear m0 m1 HS4 HS5 HS6 CNo2 CNo3
  have M0 : ∀ W, Kept (fun _ => True) w7 W → W.cell? ⟨X, 0, none⟩ = some (.int .i64 1) := fun W q => (HB.out.all (HS7.out.trans q)).cells.1
  have M1 : ∀ W, Kept (fun _ => True) w7 W → W.cell? ⟨X, 1, none⟩ = some (.slice a0 1 p0) := fun W q => (HB.out.all (HS7.out.trans q)).cells.2
  have mk := make_five
  go_region_held3 (fun W => Kept (fun _ => True) w7 W) (first | assumption | (repeat (first | assumption | exact Kept.refl _ _ | refine Kept.drew ?_ | refine Kept.alloc ?_ _))) ((go_at_call 9; (with_reducible refine Calls.mono (CNo4.out _ _ (HS7.out.trans (by first | assumption | (repeat (first | assumption | exact Kept.refl _ _ | refine Kept.drew ?_ | refine Kept.alloc ?_ _))))) ?_); rintro e w8 ⟨rfl, k8⟩; have s8 : Kept (fun _ => True) w7 w8 := (by first | exact ((Kept.refl _ _).alloc _).drew.trans k8 | exact ((Kept.refl _ _).drew.alloc _).trans k8); clear k8))
  have HS8 : Hid (Kept (fun _ => True) w2 w8) := HS7.out.trans s8
  clear M0 M1 mk s8 HS7 CNo4
  have M0 : ∀ W, Kept (fun _ => True) w8 W → W.cell? ⟨X, 0, none⟩ = some (.int .i64 1) := fun W q => (HB.out.all (HS8.out.trans q)).cells.1
  have M1 : ∀ W, Kept (fun _ => True) w8 W → W.cell? ⟨X, 1, none⟩ = some (.slice a0 1 p0) := fun W q => (HB.out.all (HS8.out.trans q)).cells.2
  go_wp2_with fail
  go_region_held3 (fun W => Kept (fun _ => True) w8 W) (first | assumption | (repeat (first | assumption | exact Kept.refl _ _ | refine Kept.drew ?_ | refine Kept.alloc ?_ _))) (first
    | (go_at_call 10; (with_reducible refine Calls.mono (read_any [97]) ?_); rintro e w9 ⟨rfl, k9⟩; have s9 : Kept (fun _ => True) w8 w9 := (Kept.refl _ _).drew.trans k9; clear k9)
    | (go_at_call 10; (with_reducible refine Calls.mono (read_any [98]) ?_); rintro e w10 ⟨rfl, k10⟩; have s10 : Kept (fun _ => True) w8 w10 := s9.trans k10; clear k10)
    | (go_at_call 9; (with_reducible refine Calls.mono (CN.out _ _ (HS8.out.trans (Kept.alloc s10 _)) (Ov.two w10 ⟨5, [97], [], 0⟩ ⟨5, [98], [], 0⟩)) ?_); rintro e w11 ⟨T, ov, tv, rfl, h11, k11⟩; have s11 : Kept (fun _ => True) w8 w11 := (Kept.alloc s10 _).trans k11; have H11 : Hid (Tm w11 w8.heap.size T ov tv (rawT [0, 0])) := h11.low (Kept.alloc s10 _).size; clear h11 k11))
  have HS11 : Hid (Kept (fun _ => True) w w11) := HK.out.trans (HS8.out.trans s11)
  have HZ8 : Hid (w.heap.size ≤ w8.heap.size) := (HK.out.trans HS8.out).size
  clear M0 M1 s9 s10 s11 CN HB HS8 HK
  have HTb : Hid (w.heap.size ≤ w8.heap.size) := HZ8.out
  have e1 : (rawT [0, 0]).ack 0 = rawT [0, 0] := by kernel_rfl
  have e2 : (rawT [0, 0]).vote 0 true [[111, 110, 101]] 0 0 = rawT [0, 0] := by kernel_rfl
  have e3 : (rawT [0, 0]).vote 1 false [] 0 30 = rawT [0, 0] := by kernel_rfl
  have e4 : (rawT [0, 0]).vote 0 false [] 1 30 = ⟨[0, 0], [[], []], B3.none, B3.none, 3, 1, 30⟩ := by kernel_rfl
  have e5 : (⟨[0, 0], [[], []], B3.none, B3.none, 3, 1, 30⟩ : Tn).vote 0 true [[120], [121]] 0 0 = ⟨[0, 0], [[], []], B3.none, B3.none, 3, 1, 30⟩ := by kernel_rfl
  have e6 : (⟨[0, 0], [[], []], B3.none, B3.none, 3, 1, 30⟩ : Tn).late = ⟨[0, 0], [[], []], B3.none, B3.none, 3, 1, 30⟩ := by kernel_rfl
  have e7 : (⟨[0, 0], [[], []], B3.none, B3.none, 3, 1, 30⟩ : Tn).ack 0 = ⟨[0, 0], [[], []], B3.none, ⟨true, false, false⟩, 3, 1, 30⟩ := by kernel_rfl
  have HE2 : Hid ((rawT [0, 0]).vote 0 true [[111, 110, 101]] 0 0 = rawT [0, 0]) := e2
  have HE3 : Hid ((rawT [0, 0]).vote 1 false [] 0 30 = rawT [0, 0]) := e3
  have HE4 : Hid ((rawT [0, 0]).vote 0 false [] 1 30 = ⟨[0, 0], [[], []], B3.none, B3.none, 3, 1, 30⟩) := e4
  have HE5 : Hid ((⟨[0, 0], [[], []], B3.none, B3.none, 3, 1, 30⟩ : Tn).vote 0 true [[120], [121]] 0 0 = ⟨[0, 0], [[], []], B3.none, B3.none, 3, 1, 30⟩) := e5
  have HE6 : Hid ((⟨[0, 0], [[], []], B3.none, B3.none, 3, 1, 30⟩ : Tn).late = ⟨[0, 0], [[], []], B3.none, B3.none, 3, 1, 30⟩) := e6
  have HE7 : Hid ((⟨[0, 0], [[], []], B3.none, B3.none, 3, 1, 30⟩ : Tn).ack 0 = ⟨[0, 0], [[], []], B3.none, ⟨true, false, false⟩, 3, 1, 30⟩) := e7
  have HST : Hid (∀ a b, Tstep T tv a b → Kept (fun _ => True) w a → Kept (fun _ => True) w b) := fun a b k h => h.then k (fun i hi _ => ⟨fun e => by have := H11.out.tb; have := HTb.out; omega, fun e => by have := Txs.ge H11.out.tx e; have := HTb.out; omega⟩)
  have c12 := ack_any H11.out 0
  rw [e1] at c12
  clear e1 e2 e3 e4 e5 e6 e7
  go_wp2_with (go_at_call 11; (with_reducible refine Calls.mono c12 ?_); rintro e w12 ⟨rfl, z12, e12, h12, k12⟩; rw [e12] at h12; have H12 : Hid (Tm w12 w8.heap.size T ov tv (rawT [0, 0])) := h12; have K12 : Hid (Kept (fun _ => True) w w12) := HST.out _ _ k12 HS11.out; clear h12 k12)
  clear c12
  have c13 : Calls Try.prog 12 #[.pointer (some ⟨T, 0, none⟩), .int .i64 0, .bool true, .slice (some ⟨w12.heap.size, 0, none⟩) 1 1, .int .i64 0, .int .i64 0] (w12.alloc (.cells #[.string ⟨#[111, 110, 101]⟩] 9)) _ := vote_made H12.out 0 true [[111, 110, 101]] 0 0 HE2.out
  go_wp2_with (first
    | (go_at_call 12; (with_reducible refine Calls.mono c13 ?_); rintro e w13 ⟨rfl, h13, k13⟩; have H13 : Hid (Tm w13 w8.heap.size T ov tv (rawT [0, 0])) := h13; have K13 : Hid (Kept (fun _ => True) w w13) := HST.out _ _ k13 (K12.out.alloc _); have c14 : Calls Try.prog 13 #[.pointer (some ⟨T, 0, none⟩)] w13 fun e w' => e = .returned (.int .i64 0) ∧ w' = w13 := outcome_any h13; clear h13 k13)
    | (go_at_call 13; (with_reducible refine Calls.mono c14 ?_); rintro e w13 ⟨rfl, rfl⟩))
  clear c13 H12 K12
  have c15 : Calls Try.prog 12 #[.pointer (some ⟨T, 0, none⟩), .int .i64 1, .bool false, .slice none 0 0, .int .i64 0, .int .i64 30] w13 _ := vote_to H13.out 1 false (Xv.nil _ _ none 0) 0 30 HE3.out
  go_wp2_with (go_at_call 12; (with_reducible refine Calls.mono c15 ?_); rintro e w15 ⟨rfl, h15, k15⟩; have H15 : Hid (Tm w15 w8.heap.size T ov tv (rawT [0, 0])) := h15; have K15 : Hid (Kept (fun _ => True) w w15) := HST.out _ _ k15 K13.out; clear h15 k15)
  clear c15 c14 H13 K13
  have c16 : Calls Try.prog 12 #[.pointer (some ⟨T, 0, none⟩), .int .i64 0, .bool false, .slice none 0 0, .int .i64 1, .int .i64 30] w15 _ := vote_to H15.out 0 false (Xv.nil _ _ none 0) 1 30 HE4.out
  go_wp2_with (go_at_call 12; (with_reducible refine Calls.mono c16 ?_); rintro e w16 ⟨rfl, h16, k16⟩; have H16 : Hid (Tm w16 w8.heap.size T ov tv ⟨[0, 0], [[], []], B3.none, B3.none, 3, 1, 30⟩) := h16; have K16 : Hid (Kept (fun _ => True) w w16) := HST.out _ _ k16 K15.out; clear h16 k16)
  clear c16 H15 K15
  have c17 : Calls Try.prog 12 #[.pointer (some ⟨T, 0, none⟩), .int .i64 0, .bool true, .slice (some ⟨w16.heap.size, 0, none⟩) 2 2, .int .i64 0, .int .i64 0] (w16.alloc (.cells #[.string ⟨#[120]⟩, .string ⟨#[121]⟩] 9)) _ := vote_made H16.out 0 true [[120], [121]] 0 0 HE5.out
  go_wp2_with (first
    | (go_at_call 12; (with_reducible refine Calls.mono c17 ?_); rintro e w17 ⟨rfl, h17, k17⟩; have H17 : Hid (Tm w17 w8.heap.size T ov tv ⟨[0, 0], [[], []], B3.none, B3.none, 3, 1, 30⟩) := h17; have K17 : Hid (Kept (fun _ => True) w w17) := HST.out _ _ k17 (K16.out.alloc _); have c18 := late_any h17; rw [HE6.out] at c18; clear h17 k17)
    | (go_at_call 14; (with_reducible refine Calls.mono c18 ?_); rintro e w18 ⟨rfl, h18, k18⟩; have H18 : Hid (Tm w18 w8.heap.size T ov tv ⟨[0, 0], [[], []], B3.none, B3.none, 3, 1, 30⟩) := h18; have K18 : Hid (Kept (fun _ => True) w w18) := HST.out _ _ k18 K17.out; have c19 : Calls Try.prog 15 #[.pointer (some ⟨T, 0, none⟩)] w18 fun e w' => ∃ v, e = .returned v ∧ Its w' w18.heap.size v [0] ∧ Kept (fun _ => True) w18 w' := left_any_t h18; clear h18 k18)
    | (go_at_call 15; (with_reducible refine Calls.mono c19 ?_); rintro e w19 ⟨v19, rfl, hv19, k19⟩; obtain ⟨lo, lc, rfl⟩ := Its.shape hv19; have HV19 : Hid (Its w19 w18.heap.size (.slice lo 1 lc) [0]) := hv19; have H19 : Hid (Tm w19 w8.heap.size T ov tv ⟨[0, 0], [[], []], B3.none, B3.none, 3, 1, 30⟩) := H18.out.all k19; have K19 : Hid (Kept (fun _ => True) w w19) := K18.out.trans k19; have HLV : Hid (∀ x, (Value.slice lo 1 lc).ownBlock = some x → x ≠ T ∧ tv.ownBlock ≠ some x) := (fun x hx => ⟨fun e => by have := Its.ge HV19.out hx; have := H18.out.lt; omega, fun e => by have := Its.ge HV19.out hx; have := Txs.lt H18.out.tx e; omega⟩); have c20 := ack_any H19.out 0; rw [HE7.out] at c20; clear hv19 k19)
    | (go_at_call 11; (with_reducible refine Calls.mono c20 ?_); rintro e w20 ⟨rfl, z20, e20, h20, k20⟩; rw [e20] at h20; have H20 : Hid (Tm w20 w8.heap.size T ov tv ⟨[0, 0], [[], []], B3.none, ⟨true, false, false⟩, 3, 1, 30⟩) := h20; have HV20 : Hid (Its w20 w18.heap.size (.slice lo 1 lc) [0]) := Its.kept HV19.out k20 HLV.out; have K20 : Hid (Kept (fun _ => True) w w20) := HST.out _ _ k20 K19.out; clear h20 k20))
  clear c17 c18 c19 c20 H16 K16 H17 K17 H18 K18 H19 K19
  have cs21 : (convert 42 42 (.slice (some ⟨w20.heap.size, 0, none⟩) 7 7)).run Try.prog (w20.alloc (.cells #[.int .u8 110, .int .u8 111, .int .u8 32, .int .u8 115, .int .u8 97, .int .u8 118, .int .u8 101] 5)) = _ := conv_constt w20 [110, 111, 32, 115, 97, 118, 101] 7 7
  obtain ⟨W21, eW21⟩ : ∃ W21, W21 = w20.alloc (.cells (cells [110, 111, 32, 115, 97, 118, 101]).toArray 5 ((cells [110, 111, 32, 115, 97, 118, 101]).toArray.size, (cells [110, 111, 32, 115, 97, 118, 101]).toArray.size + 1)) := ⟨_, rfl⟩
  rw [← eW21] at cs21
  have k21 : Kept (fun _ => True) w20 W21 := by rw [eW21]; exact (Kept.refl _ _).alloc _
  have hh21 : Has W21 (some ⟨w20.heap.size, 0, none⟩) [110, 111, 32, 115, 97, 118, 101] := by rw [eW21]; exact has_row (heap_alloc_new w20 _)
  have c21 : Calls Try.prog 16 #[.slice (some ⟨w20.heap.size, 0, none⟩) 7 7] W21 fun e w' => e = .returned (.tuple #[.pointer none, .int .i64 12]) ∧ Kept (fun _ => True) W21 w' := by
    refine (load_txn (cap := 7) (by decide) hh21).mono ?_
    rintro e w' ⟨h, k⟩
    rcases h with ⟨_, h⟩ | ⟨_, _, _, _, h, _⟩
    · exact ⟨h, k⟩
    · rw [nosave] at h; cases h
  have HK21 : Hid (Kept (fun _ => True) w20 W21) := k21
  clear k21 hh21 eW21
  rw [cs21]
  go_wp2_with (first
    | (go_at_call 16; (with_reducible refine Calls.mono c21 ?_); rintro e w21 ⟨rfl, k21⟩; have H21 : Hid (Tm w21 w8.heap.size T ov tv ⟨[0, 0], [[], []], B3.none, ⟨true, false, false⟩, 3, 1, 30⟩) := H20.out.all (HK21.out.trans k21); have HV21 : Hid (Its w21 w18.heap.size (.slice lo 1 lc) [0]) := Its.kept HV20.out (HK21.out.trans k21) (fun _ _ => trivial); have K21 : Hid (Kept (fun _ => True) w w21) := K20.out.trans (HK21.out.trans k21); have c22 : Calls Try.prog 18 #[.pointer (some ⟨T, 0, none⟩)] w21 fun e w' => ∃ ro rc, e = .returned (.agg #[.int .i64 3, .slice ro 0 rc, .int .i64 1, .int .i64 30]) ∧ Txs w' w21.heap.size (.slice ro 0 rc) [] ∧ Kept (fun _ => True) w21 w' := reply_any H21.out; clear k21 c21)
    | (go_at_call 18; (with_reducible refine Calls.mono c22 ?_); rintro e w22 ⟨ro, rc, rfl, h22, k22⟩; have c23 : Calls Try.prog 17 #[.agg #[.int .i64 3, .slice ro 0 rc, .int .i64 1, .int .i64 30], .agg #[.int .i64 3, .slice none 0 0, .int .i64 1, .int .i64 30]] w22 _ := reply_same (xs := []) h22 (Txs.nil w22 0) (by decide); have HK22 : Hid (Kept (fun _ => True) w21 w22) := k22; clear h22 k22)
    | (go_at_call 17; (with_reducible refine Calls.mono c23 ?_); rintro e w23 ⟨rfl, k23⟩; have HK23 : Hid (Kept (fun _ => True) w21 w23) := HK22.out.trans k23; have hz24 := Its.one (heap_alloc_new w23 (.cells #[.int .i64 (0 : Nat)] 3)); have c24 : Calls Try.prog 19 #[.slice lo 1 lc, .slice (some ⟨w23.heap.size, 0, none⟩) 1 1] (w23.alloc (.cells #[.int .i64 0] 3)) _ := isame_any (Its.kept HV21.out (HK23.out.alloc _) (fun _ _ => trivial)) hz24 (by decide); clear k23 hz24)
    | (go_at_call 19; (with_reducible refine Calls.mono c24 ?_); rintro e w24 ⟨rfl, hm24⟩; have HK24 : Hid (Kept (fun _ => True) w21 w24) := (by obtain ⟨m24, e24⟩ := hm24; rw [e24]; exact (HK23.out.alloc _).drewN _); have c25 : Calls Try.prog 15 #[.pointer (some ⟨T, 0, none⟩)] w24 fun e w' => ∃ v, e = .returned v ∧ Its w' w24.heap.size v [] ∧ Kept (fun _ => True) w24 w' := left_any_t (H21.out.all HK24.out); clear hm24)
    | (go_at_call 15; (with_reducible refine Calls.mono c25 ?_); rintro e w25 ⟨v25, rfl, hv25, k25⟩; obtain ⟨lo2, lc2, rfl⟩ := Its.shape hv25; have HK25 : Hid (Kept (fun _ => True) w w25) := K21.out.trans (HK24.out.trans k25); clear hv25 k25)
    | (go_at_call 20; (with_reducible refine Calls.mono (known_txn _) ?_); rintro e w26 ⟨rfl, k26⟩; have HK26 : Hid (Kept (fun _ => True) w w26) := HK25.out.trans k26; clear k26))
  go_ret
  exact ⟨rfl, HK26.out⟩

end Go.Proofs.Ytebpkhemkdgbjaa
