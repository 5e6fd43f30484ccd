/-
  The walk of WireSizes: for a text of fewer than 2^32 bytes it answers true, and turns nothing that was there.
-/
import Derived.Test.YtlkkmggopoknaaaKnown
import Derived.Test.YtlkkmggopoknaaaWr4
import Derived.Test.YtlkkmggopoknaaaRd6
import Derived.Test.YtlkkmggopoknaaaBack
namespace Go.Proofs.Ytlkkmggopoknaaa
open Go.RowKit

theorem u64_nat (n : Nat) (h : n < 18446744073709551616) : u64 (n : Int) = (n : Int) := by
  simp [u64, IntKind.wrap, IntKind.bits, IntKind.signed]; omega

theorem done_len {w : World} {B : Nat} {G : Option Nat} {v : Value} {bs : List UInt8} (n : Nat) (hn : bs.length = n) (h : Wr w B G v bs) (hb : (n : Int) ≤ 140737488355328) :
    Calls Try.prog 17 #[.pointer (some ⟨B, 0, none⟩)] w fun e w' => ∃ D, e = .returned (.slice (some ⟨D, 0, none⟩) n n) ∧ w'.heap[D]? = some (.cells (cells bs).toArray 5 (0, 0)) ∧ Kept (fun _ => True) w w' ∧ w.heap.size ≤ D := by
  subst hn; exact done_any h hb
theorem newReader_len {w : World} {bs : List UInt8} {cap : Nat} {ao : Option Addr} (n : Nat) (hn : bs.length = n) (hb : (n : Int) ≤ 140737488355328) (hc : Has w ao bs) :
    Calls Try.prog 10 #[.slice ao n cap] w fun e w' => ∃ B R, e = .returned (.pointer (some ⟨B, 0, none⟩)) ∧ Rs w' B R bs n ⟨0, 0⟩ ∧ Kept (fun _ => True) w w' ∧ w.heap.size ≤ B ∧ w.heap.size ≤ R := by
  subst hn; exact newReader_any hb hc

set_option maxRecDepth 100000 in
set_option maxHeartbeats 2000000 in
theorem sizes_any (n wide : Int) (s : ByteArray) (hs : (s.size : Int) ≤ 1048576) (w : World) :
    Calls Try.prog 8 #[.int .i64 n, .int .i64 wide, .string s] w fun e w' => e = .returned (.bool true) ∧ Kept (fun _ => True) w w' := by
  obtain ⟨c1, hc1⟩ : ∃ c, c = [] ++ enc (u64 n) 1 := ⟨_, rfl⟩
  obtain ⟨c2, hc2⟩ : ∃ c, c = c1 ++ enc (u64 n) 4 := ⟨_, rfl⟩
  obtain ⟨c3, hc3⟩ : ∃ c, c = c2 ++ enc (u64 wide) 8 := ⟨_, rfl⟩
  obtain ⟨c4, hc4⟩ : ∃ c, c = c3 ++ enc (u64 s.size) 4 ++ s.data.toList := ⟨_, rfl⟩
  have l1 : c1.length = 1 := by rw [hc1]; simp [enc_length]
  have l2 : c2.length = 5 := by rw [hc2]; simp [enc_length, l1]
  have l3 : c3.length = 13 := by rw [hc3]; simp [enc_length, l2]
  have ls : s.data.toList.length = s.size := rfl
  have l4 : c4.length = 17 + s.size := by rw [hc4]; rw [List.length_append, List.length_append, enc_length, l3, ls]
  have R1 : Hid (∃ x, (⟨0, 0⟩ : RS).num c4 1 = (x, ⟨1, 0⟩)) := by
    have := num_back [] (enc (u64 n) 4 ++ enc (u64 wide) 8 ++ enc (u64 s.size) 4 ++ s.data.toList) (u64 n) 1
    exact ⟨_, by rw [hc4, hc3, hc2, hc1]; simpa [List.append_assoc] using this⟩
  have R2 : Hid (∃ x, (⟨1, 0⟩ : RS).num c4 4 = (x, ⟨5, 0⟩)) := by
    have := num_back c1 (enc (u64 wide) 8 ++ enc (u64 s.size) 4 ++ s.data.toList) (u64 n) 4
    rw [l1] at this
    exact ⟨_, by rw [hc4, hc3, hc2]; simpa [List.append_assoc] using this⟩
  have R3 : Hid (∃ x, (⟨5, 0⟩ : RS).num c4 8 = (x, ⟨13, 0⟩)) := by
    have := num_back c2 (enc (u64 s.size) 4 ++ s.data.toList) (u64 wide) 8
    rw [l2] at this
    exact ⟨_, by rw [hc4, hc3]; simpa [List.append_assoc] using this⟩
  have R4 : Hid ((⟨13, 0⟩ : RS).text c4 s.size = (s.data.toList, ⟨17 + s.size, 0⟩)) := by
    have := text_back c3 [] s.data.toList s.size (by rw [ls]; omega) (by rw [ls]; omega)
    rw [l3, ls, List.append_nil] at this
    show _ = _
    rw [hc4, u64_nat s.size (by omega)]
    exact this
  have L1 : Hid ((⟨1, 0⟩ : RS).left c4 = 16 + s.size) := by show _ = _; simp [RS.left, leftOf, l4]; omega
  have L2 : Hid ((⟨5, 0⟩ : RS).left c4 = 12 + s.size) := by show _ = _; simp [RS.left, leftOf, l4]; omega
  have L3 : Hid ((⟨13, 0⟩ : RS).left c4 = 4 + s.size) := by show _ = _; simp [RS.left, leftOf, l4]; omega
  have L4 : Hid ((⟨17 + s.size, 0⟩ : RS).left c4 = 0) := by show _ = _; simp [RS.left, leftOf, l4]
  have M1 : Hid (c1.length = 1) := l1
  have M2 : Hid (c2.length = 5) := l2
  have M3 : Hid (c3.length = 13) := l3
  have M4 : Hid (c4.length = 17 + s.size) := l4
  have E1 : Hid ([] ++ enc (u64 n) 1 = c1) := hc1.symm
  have E2 : Hid (c1 ++ enc (u64 n) 4 = c2) := hc2.symm
  have E3 : Hid (c2 ++ enc (u64 wide) 8 = c3) := hc3.symm
  have E4 : Hid (c3 ++ enc (u64 s.size) 4 ++ s.data.toList = c4) := hc4.symm
  clear hc1 hc2 hc3 hc4 l1 l2 l3 l4 ls
  go_enter Try.func8, Try.ntmps8
  go_wp2_with fail
  refine Calls.mono newWriter_any ?_
  rintro e w1 ⟨rfl, hw, k1, s1⟩
  go_wp2_with fail
  refine Calls.mono (wbyte_any n hw (by decide)) ?_
  rw [E1.out]
  rintro e w2 ⟨rfl, G2, v2, hw2, k2, n2⟩
  have k02 : Kept (fun _ => True) w w2 := k1.then k2 (fun i hi _ => ⟨by omega, by simp⟩)
  have g2 : ∀ x, G2 = some x → w.heap.size ≤ x := fun x hx => by rcases n2 x hx with h | h; cases h; omega
  clear hw k1 k2 n2
  go_wp2_with fail
  refine Calls.mono (done_len 1 M1.out hw2 (by decide)) ?_
  rintro e w3 ⟨D3, rfl, _, k3, _⟩
  have hw3 := hw2.kept k3 trivial (fun _ _ => trivial)
  have k03 := k02.trans k3
  clear hw2 k02 k3
  go_wp2_with fail
  refine Calls.mono (wfour_any n hw3 (by rw [M1.out]; decide)) ?_
  rw [E2.out]
  rintro e w4 ⟨rfl, G4, v4, hw4, k4, n4⟩
  have k04 : Kept (fun _ => True) w w4 := k03.then k4 (fun i hi _ => ⟨by omega, fun h => by have := g2 _ h; omega⟩)
  have g4 : ∀ x, G4 = some x → w.heap.size ≤ x := fun x hx => by rcases n4 x hx with h | h; exact g2 x h; have := k03.size; omega
  clear hw3 k03 k4 n4 g2
  go_wp2_with fail
  refine Calls.mono (done_len 5 M2.out hw4 (by decide)) ?_
  rintro e w5 ⟨D5, rfl, _, k5, _⟩
  have hw5 := hw4.kept k5 trivial (fun _ _ => trivial)
  have k05 := k04.trans k5
  clear hw4 k04 k5
  go_wp2_with fail
  refine Calls.mono (weight_any wide hw5 (by rw [M2.out]; decide)) ?_
  rw [E3.out]
  rintro e w6 ⟨rfl, G6, v6, hw6, k6, n6⟩
  have k06 : Kept (fun _ => True) w w6 := k05.then k6 (fun i hi _ => ⟨by omega, fun h => by have := g4 _ h; omega⟩)
  have g6 : ∀ x, G6 = some x → w.heap.size ≤ x := fun x hx => by rcases n6 x hx with h | h; exact g4 x h; have := k05.size; omega
  clear hw5 k05 k6 n6 g4
  go_wp2_with fail
  refine Calls.mono (done_len 13 M3.out hw6 (by decide)) ?_
  rintro e w7 ⟨D7, rfl, _, k7, _⟩
  have hw7 := hw6.kept k7 trivial (fun _ _ => trivial)
  have k07 := k06.trans k7
  clear hw6 k06 k7
  go_wp2_with fail
  refine Calls.mono (wtext_any s hw7 (by rw [M3.out]; omega)) ?_
  rw [E4.out]
  rintro e w8 ⟨rfl, G8, v8, hw8, k8, n8⟩
  have k08 : Kept (fun _ => True) w w8 := k07.then k8 (fun i hi _ => ⟨by omega, fun h => by have := g6 _ h; omega⟩)
  clear hw7 k07 k8 n8 g6
  go_wp2_with fail
  refine Calls.mono (done_len (17 + s.size) M4.out hw8 (by omega)) ?_
  rintro e w9 ⟨D9, rfl, hD9, k9, _⟩
  have k09 := k08.trans k9
  have hh : Has w9 (some ⟨D9, 0, none⟩) c4 := has_row hD9
  clear hw8 k08 k9 hD9
  go_wp2_with fail
  refine Calls.mono (newReader_len (17 + s.size) M4.out (by omega) hh) ?_
  rintro e w10 ⟨B, R, rfl, hr, k10, hB, hR⟩
  have hB' : w.heap.size ≤ B := by have := k09.size; omega
  have k010 := k09.trans k10
  clear k09 k10 hh hB
  go_wp2_with fail
  obtain ⟨x1, e1⟩ := R1.out
  refine Calls.mono (byte_any hr) ?_
  rw [e1]
  clear e1
  rintro e w11 ⟨rfl, hr, k11⟩
  have k011 : Kept (fun _ => True) w w11 := k010.then k11 (fun i hi _ => by omega)
  clear k010 k11
  go_wp2_with fail
  refine Calls.mono (left_is hr) ?_
  rw [L1.out]
  rintro e _ ⟨rfl, n12, rfl⟩
  have hr := hr.kept ((Kept.refl (fun _ => True) w11).drewN n12) trivial trivial
  have k012 := k011.drewN n12
  clear k011
  generalize w11.drewN n12 = w12 at *
  go_wp2_with fail
  obtain ⟨x2, e2⟩ := R2.out
  refine Calls.mono (four_any hr) ?_
  rw [e2]
  clear e2
  rintro e w13 ⟨rfl, hr, k13⟩
  have k013 : Kept (fun _ => True) w w13 := k012.then k13 (fun i hi _ => by omega)
  clear k012 k13
  go_wp2_with fail
  refine Calls.mono (left_is hr) ?_
  rw [L2.out]
  rintro e _ ⟨rfl, n14, rfl⟩
  have hr := hr.kept ((Kept.refl (fun _ => True) w13).drewN n14) trivial trivial
  have k014 := k013.drewN n14
  clear k013
  generalize w13.drewN n14 = w14 at *
  go_wp2_with fail
  obtain ⟨x3, e3⟩ := R3.out
  refine Calls.mono (eight_any hr) ?_
  rw [e3]
  clear e3
  rintro e w15 ⟨rfl, hr, k15⟩
  have k015 : Kept (fun _ => True) w w15 := k014.then k15 (fun i hi _ => by omega)
  clear k014 k15
  go_wp2_with fail
  refine Calls.mono (left_is hr) ?_
  rw [L3.out]
  rintro e _ ⟨rfl, n16, rfl⟩
  have hr := hr.kept ((Kept.refl (fun _ => True) w15).drewN n16) trivial trivial
  have k016 := k015.drewN n16
  clear k015
  generalize w15.drewN n16 = w16 at *
  go_wp2_with fail
  refine Calls.mono (text_any s.size hr) ?_
  rw [R4.out]
  rintro e w17 ⟨rfl, hr, k17⟩
  have k017 : Kept (fun _ => True) w w17 := k016.then k17 (fun i hi _ => by omega)
  clear k016 k17
  go_wp2_with fail
  refine Calls.mono (left_is hr) ?_
  rw [L4.out]
  rintro e _ ⟨rfl, n18, rfl⟩
  have k018 := k017.drewN n18
  clear k017 hr
  go_wp2_with fail
  refine Calls.mono (known_any _) ?_
  rintro e w19 ⟨rfl, k19⟩
  go_wp2
  go_ret
  exact ⟨rfl, k018.trans k19⟩

end Go.Proofs.Ytlkkmggopoknaaa
