/-
  The law GuardNumbers.
-/
import Derived.Test.YtpjfmgmhohpjmaaLawGua2
import Derived.Laws.Concat
namespace Go.Proofs.Ytpjfmgmhohpjmaa
open Go.RowKit

theorem text_sum (a b : List UInt8) (h : a.length + b.length ≤ 1000000) (W : World) : (Op.stringOp .add ⟨a.toArray⟩ ⟨b.toArray⟩).run Try.prog W = .ok (.string ⟨(a ++ b).toArray⟩) W := run_string_add_lists (P := Try.prog) W a b (by omega) (by omega)
theorem made_cells (n : Nat) : (madeCells (Value.int IntKind.u8 0).cells n).toList = List.replicate n (.int .u8 0) := by
  refine List.ext_getElem (by simp [madeCells, Value.cells]) fun k h1 h2 => ?_
  simp [madeCells, Value.cells, Nat.mod_one]
theorem made_text {w1 : World} {base g : Nat} {n : Nat} {xs : List Value} (h : w1.ownsRow base 5 1 (.slice (some ⟨g, 0, none⟩) n n) n xs) (hx : xs = List.replicate n (.int .u8 0)) : ∃ Z : List UInt8, Z.length = n ∧ (convert 35 9 (.slice (some ⟨g, 0, none⟩) n n)).run Try.prog w1 = .ok (.string ⟨Z.toArray⟩) w1 := by
  refine ⟨List.replicate n 0, by simp, ?_⟩
  have e : cells (List.replicate n 0) = List.replicate n (.int .u8 0) := by simp [cells]
  have hl : (List.replicate n (0 : UInt8)).length = n := by simp
  refine conv_own (b := base) ?_
  rw [hl, e, ← hx]
  exact h
/-- The texts of the run. -/
def run29 (d1 d2 : List UInt8) : List (List UInt8) := [[], [32], [97, 110, 100, 32, 49], [49, 32, 50], [102, 111, 111], [49, 50, 51, 52, 53], [45], [45, 45, 49], [65], [97, 100, 100, 32, 97, 32, 98], [115, 117, 98, 32, 97, 32, 98], [101, 113, 32, 97, 32, 51], [108, 116, 32, 98, 32, 97], [111, 114, 32, 48, 32, 48], [110, 111, 116, 32, 97], [110, 111, 116, 32, 48], [97, 110, 100, 32, 49, 32, 48], [32, 97, 32], [97, 32, 32], [97, 100, 100, 32, 32, 49, 32, 32, 32, 50], d1, d2, [97, 100, 100], [97, 116, 116, 114], [116, 121, 112, 101], [97, 97, 97, 97, 97, 97, 97, 97, 97, 97, 97, 97, 97], [49, 32, 97, 110, 100], [97, 110, 100, 32, 97, 110, 100, 32, 49, 32, 49], [45, 57, 57, 57, 57]]
theorem run29_row (d1 d2 : List UInt8) : (#[.string ⟨#[]⟩, .string ⟨#[32]⟩, .string ⟨#[97, 110, 100, 32, 49]⟩, .string ⟨#[49, 32, 50]⟩, .string ⟨#[102, 111, 111]⟩, .string ⟨#[49, 50, 51, 52, 53]⟩, .string ⟨#[45]⟩, .string ⟨#[45, 45, 49]⟩, .string ⟨#[65]⟩, .string ⟨#[97, 100, 100, 32, 97, 32, 98]⟩, .string ⟨#[115, 117, 98, 32, 97, 32, 98]⟩, .string ⟨#[101, 113, 32, 97, 32, 51]⟩, .string ⟨#[108, 116, 32, 98, 32, 97]⟩, .string ⟨#[111, 114, 32, 48, 32, 48]⟩, .string ⟨#[110, 111, 116, 32, 97]⟩, .string ⟨#[110, 111, 116, 32, 48]⟩, .string ⟨#[97, 110, 100, 32, 49, 32, 48]⟩, .string ⟨#[32, 97, 32]⟩, .string ⟨#[97, 32, 32]⟩, .string ⟨#[97, 100, 100, 32, 32, 49, 32, 32, 32, 50]⟩, .string ⟨d1.toArray⟩, .string ⟨d2.toArray⟩, .string ⟨#[97, 100, 100]⟩, .string ⟨#[97, 116, 116, 114]⟩, .string ⟨#[116, 121, 112, 101]⟩, .string ⟨#[97, 97, 97, 97, 97, 97, 97, 97, 97, 97, 97, 97, 97]⟩, .string ⟨#[49, 32, 97, 110, 100]⟩, .string ⟨#[97, 110, 100, 32, 97, 110, 100, 32, 49, 32, 49]⟩, .string ⟨#[45, 57, 57, 57, 57]⟩] : Array Value) = (srow (run29 d1 d2)).toArray := rfl
theorem run29_at (d1 d2 : List UInt8) (h1 : d1.length ≤ 300) (h2 : d2.length ≤ 300) {w : World} {g : Nat} {fr : Nat × Nat} (h : w.heap[g]? = some (.cells #[.string ⟨#[]⟩, .string ⟨#[32]⟩, .string ⟨#[97, 110, 100, 32, 49]⟩, .string ⟨#[49, 32, 50]⟩, .string ⟨#[102, 111, 111]⟩, .string ⟨#[49, 50, 51, 52, 53]⟩, .string ⟨#[45]⟩, .string ⟨#[45, 45, 49]⟩, .string ⟨#[65]⟩, .string ⟨#[97, 100, 100, 32, 97, 32, 98]⟩, .string ⟨#[115, 117, 98, 32, 97, 32, 98]⟩, .string ⟨#[101, 113, 32, 97, 32, 51]⟩, .string ⟨#[108, 116, 32, 98, 32, 97]⟩, .string ⟨#[111, 114, 32, 48, 32, 48]⟩, .string ⟨#[110, 111, 116, 32, 97]⟩, .string ⟨#[110, 111, 116, 32, 48]⟩, .string ⟨#[97, 110, 100, 32, 49, 32, 48]⟩, .string ⟨#[32, 97, 32]⟩, .string ⟨#[97, 32, 32]⟩, .string ⟨#[97, 100, 100, 32, 32, 49, 32, 32, 32, 50]⟩, .string ⟨d1.toArray⟩, .string ⟨d2.toArray⟩, .string ⟨#[97, 100, 100]⟩, .string ⟨#[97, 116, 116, 114]⟩, .string ⟨#[116, 121, 112, 101]⟩, .string ⟨#[97, 97, 97, 97, 97, 97, 97, 97, 97, 97, 97, 97, 97]⟩, .string ⟨#[49, 32, 97, 110, 100]⟩, .string ⟨#[97, 110, 100, 32, 97, 110, 100, 32, 49, 32, 49]⟩, .string ⟨#[45, 57, 57, 57, 57]⟩] 9 fr)) (k : Nat) (hk : k < 29) : ∃ x : List UInt8, x.length ≤ 300 ∧ w.cell? ⟨g, k, none⟩ = some (.string ⟨x.toArray⟩) := by
  rw [run29_row] at h
  have hf : ∀ y ∈ run29 d1 d2, y.length ≤ 300 := by simp [run29, h1, h2]
  have hl : (run29 d1 d2).length = 29 := rfl
  generalize run29 d1 d2 = l at *
  have hk' : k < l.length := by omega
  refine ⟨l[k], hf _ (List.getElem_mem _), ?_⟩
  rw [cell_of_row w g _ _ _ _ h]
  have := srow_get l k hk'
  simpa using this
theorem Vi.two {w : World} {g : Nat} {x y z : Int} (h : Vi w (.slice (some ⟨g, 0, none⟩) 3 3) [x, y, z]) : Vi w (.slice (some ⟨g, 0, none⟩) 2 3) [x, y] := by
  obtain ⟨ao, cap, e, h⟩ := h
  injection e with e1 e2 e3
  subst e1
  refine ⟨_, _, rfl, fun _ => ?_⟩
  obtain ⟨b, off, e2, hb, hc⟩ := h (by simp)
  refine ⟨b, off, e2, hb, fun i hi => ?_⟩
  have hi' : i < 2 := hi
  rw [hc i (by show i < 3; omega)]
  match i, hi' with
  | 0, _ => rfl
  | 1, _ => rfl

set_option maxRecDepth 100000 in
set_option maxHeartbeats 8000000 in
theorem guardNumbers_any {w : World} :
    Calls Try.prog 3 #[] w fun e w' => e = .returned (.bool true) ∧ Kept (fun _ => True) w w' := by
  obtain ⟨i, hi, hz0, hz1, hz2⟩ := info_parts Try.infoU8
  have HM1 : Hid (i.bytes * 121 ≤ 281474976710656) := by show _ ≤ _; rw [hz2]; omega
  have HM2 : Hid (121 ≤ maxLen) := by show _ ≤ _; unfold maxLen; omega
  have HI : Hid _ := hi
  have HI0 : Hid _ := hz0
  have HI1 : Hid _ := hz1
  have CK : Hid (∀ W, _) := fun W => known_any (w := W)
  obtain ⟨x1, x2⟩ := alloc_two w (.cells #[.string ⟨#[97]⟩, .string ⟨#[98]⟩, .string ⟨#[97]⟩] 9) (.cells #[.int .i64 3, .int .i64 (-7), .int .i64 9] 3)
  have HNS : Hid (Ns ((w.alloc (.cells #[.string ⟨#[97]⟩, .string ⟨#[98]⟩, .string ⟨#[97]⟩] 9)).alloc (.cells #[.int .i64 3, .int .i64 (-7), .int .i64 9] 3)) (.slice (some ⟨w.heap.size, 0, none⟩) 3 3) [[97], [98], [97]]) := Ns.new (ns := [[97], [98], [97]]) (cap := 3) x1 (by decide)
  have HVS : Hid (Vi ((w.alloc (.cells #[.string ⟨#[97]⟩, .string ⟨#[98]⟩, .string ⟨#[97]⟩] 9)).alloc (.cells #[.int .i64 3, .int .i64 (-7), .int .i64 9] 3)) (.slice (some ⟨w.heap.size + 1, 0, none⟩) 3 3) [3, -7, 9]) := Vi.new (xs := [3, -7, 9]) (cap := 3) x2
  have HK0 : Hid (Kept (fun _ => True) w ((w.alloc (.cells #[.string ⟨#[97]⟩, .string ⟨#[98]⟩, .string ⟨#[97]⟩] 9)).alloc (.cells #[.int .i64 3, .int .i64 (-7), .int .i64 9] 3))) := ((Kept.refl (fun _ => True) w).alloc _).alloc _
  clear x1 x2 hi hz0 hz1 hz2
  go_enter Try.func3, Try.ntmps3
  go_wp2_with fail
  generalize hB : (w.alloc (.cells #[.string ⟨#[97]⟩, .string ⟨#[98]⟩, .string ⟨#[97]⟩] 9)).alloc (.cells #[.int .i64 3, .int .i64 (-7), .int .i64 9] 3) = B at *
  clear hB
  generalize w.heap.size + 1 = G1 at *
  generalize w.heap.size = G0 at *
  go_loop [3, 4] (fun t3 t4 => ∃ (i : Nat) (d : List UInt8), i ≤ 16 ∧ t4 = .int .i64 (i : Nat) ∧ t3 = .string ⟨d.toArray⟩ ∧ d.length = 4 * i) (fun _ t4 => 16 - (intOf t4).toNat)
  case atStart => exact ⟨0, [], by omega, rfl, rfl, rfl⟩
  case round =>
    obtain ⟨j, d, hj, rfl, rfl, hd⟩ := hrel
    by_cases hlt : j < 16
    · have a1 := text_sum d [110, 111, 116, 32] (by simp; omega)
      have HL : Hid ((d ++ [110, 111, 116, 32]).length = 4 * (j + 1)) := by show _ = _; simp; omega
      generalize d ++ [110, 111, 116, 32] = d' at *
      have i1 : (j : Int) < 16 := by omega
      have i0 : (0 : Int) ≤ (j : Int) := by omega
      go_wp2_with fail
      go_round
      case rel => exact ⟨j + 1, d', by omega, by go_num, rfl, HL.out⟩
      case measure => simp [intOf]; omega
    · have i1 : ¬ (j : Int) < 16 := by omega
      have a1 := text_sum d [49] (by simp; omega)
      have a2 := text_sum d [110, 111, 116, 32, 49] (by simp; omega)
      have h1 : (d ++ [49]).length ≤ 300 := by simp; omega
      have h2 : (d ++ [110, 111, 116, 32, 49]).length ≤ 300 := by simp; omega
      generalize d ++ [49] = d1 at *
      generalize d ++ [110, 111, 116, 32, 49] = d2 at *
      have H1 : Hid _ := h1
      have H2 : Hid _ := h2
      have hrow := heap_alloc_new B (.cells #[.string ⟨#[]⟩, .string ⟨#[32]⟩, .string ⟨#[97, 110, 100, 32, 49]⟩, .string ⟨#[49, 32, 50]⟩, .string ⟨#[102, 111, 111]⟩, .string ⟨#[49, 50, 51, 52, 53]⟩, .string ⟨#[45]⟩, .string ⟨#[45, 45, 49]⟩, .string ⟨#[65]⟩, .string ⟨#[97, 100, 100, 32, 97, 32, 98]⟩, .string ⟨#[115, 117, 98, 32, 97, 32, 98]⟩, .string ⟨#[101, 113, 32, 97, 32, 51]⟩, .string ⟨#[108, 116, 32, 98, 32, 97]⟩, .string ⟨#[111, 114, 32, 48, 32, 48]⟩, .string ⟨#[110, 111, 116, 32, 97]⟩, .string ⟨#[110, 111, 116, 32, 48]⟩, .string ⟨#[97, 110, 100, 32, 49, 32, 48]⟩, .string ⟨#[32, 97, 32]⟩, .string ⟨#[97, 32, 32]⟩, .string ⟨#[97, 100, 100, 32, 32, 49, 32, 32, 32, 50]⟩, .string ⟨d1.toArray⟩, .string ⟨d2.toArray⟩, .string ⟨#[97, 100, 100]⟩, .string ⟨#[97, 116, 116, 114]⟩, .string ⟨#[116, 121, 112, 101]⟩, .string ⟨#[97, 97, 97, 97, 97, 97, 97, 97, 97, 97, 97, 97, 97]⟩, .string ⟨#[49, 32, 97, 110, 100]⟩, .string ⟨#[97, 110, 100, 32, 97, 110, 100, 32, 49, 32, 49]⟩, .string ⟨#[45, 57, 57, 57, 57]⟩] 9)
      have HR : Hid _ := hrow
      have HKB : Hid (Kept (fun _ => True) B (B.alloc (.cells #[.string ⟨#[]⟩, .string ⟨#[32]⟩, .string ⟨#[97, 110, 100, 32, 49]⟩, .string ⟨#[49, 32, 50]⟩, .string ⟨#[102, 111, 111]⟩, .string ⟨#[49, 50, 51, 52, 53]⟩, .string ⟨#[45]⟩, .string ⟨#[45, 45, 49]⟩, .string ⟨#[65]⟩, .string ⟨#[97, 100, 100, 32, 97, 32, 98]⟩, .string ⟨#[115, 117, 98, 32, 97, 32, 98]⟩, .string ⟨#[101, 113, 32, 97, 32, 51]⟩, .string ⟨#[108, 116, 32, 98, 32, 97]⟩, .string ⟨#[111, 114, 32, 48, 32, 48]⟩, .string ⟨#[110, 111, 116, 32, 97]⟩, .string ⟨#[110, 111, 116, 32, 48]⟩, .string ⟨#[97, 110, 100, 32, 49, 32, 48]⟩, .string ⟨#[32, 97, 32]⟩, .string ⟨#[97, 32, 32]⟩, .string ⟨#[97, 100, 100, 32, 32, 49, 32, 32, 32, 50]⟩, .string ⟨d1.toArray⟩, .string ⟨d2.toArray⟩, .string ⟨#[97, 100, 100]⟩, .string ⟨#[97, 116, 116, 114]⟩, .string ⟨#[116, 121, 112, 101]⟩, .string ⟨#[97, 97, 97, 97, 97, 97, 97, 97, 97, 97, 97, 97, 97]⟩, .string ⟨#[49, 32, 97, 110, 100]⟩, .string ⟨#[97, 110, 100, 32, 97, 110, 100, 32, 49, 32, 49]⟩, .string ⟨#[45, 57, 57, 57, 57]⟩] 9))) := (Kept.refl _ _).alloc _
      clear hrow h1 h2 hlt
      go_wp2_with fail
      generalize hWA : B.alloc (.cells #[.string ⟨#[]⟩, .string ⟨#[32]⟩, .string ⟨#[97, 110, 100, 32, 49]⟩, .string ⟨#[49, 32, 50]⟩, .string ⟨#[102, 111, 111]⟩, .string ⟨#[49, 50, 51, 52, 53]⟩, .string ⟨#[45]⟩, .string ⟨#[45, 45, 49]⟩, .string ⟨#[65]⟩, .string ⟨#[97, 100, 100, 32, 97, 32, 98]⟩, .string ⟨#[115, 117, 98, 32, 97, 32, 98]⟩, .string ⟨#[101, 113, 32, 97, 32, 51]⟩, .string ⟨#[108, 116, 32, 98, 32, 97]⟩, .string ⟨#[111, 114, 32, 48, 32, 48]⟩, .string ⟨#[110, 111, 116, 32, 97]⟩, .string ⟨#[110, 111, 116, 32, 48]⟩, .string ⟨#[97, 110, 100, 32, 49, 32, 48]⟩, .string ⟨#[32, 97, 32]⟩, .string ⟨#[97, 32, 32]⟩, .string ⟨#[97, 100, 100, 32, 32, 49, 32, 32, 32, 50]⟩, .string ⟨d1.toArray⟩, .string ⟨d2.toArray⟩, .string ⟨#[97, 100, 100]⟩, .string ⟨#[97, 116, 116, 114]⟩, .string ⟨#[116, 121, 112, 101]⟩, .string ⟨#[97, 97, 97, 97, 97, 97, 97, 97, 97, 97, 97, 97, 97]⟩, .string ⟨#[49, 32, 97, 110, 100]⟩, .string ⟨#[97, 110, 100, 32, 97, 110, 100, 32, 49, 32, 49]⟩, .string ⟨#[45, 57, 57, 57, 57]⟩] 9) = WA at *
      clear hWA
      obtain ⟨G, hG⟩ : ∃ G, G = B.heap.size := ⟨_, rfl⟩
      rw [← hG] at HR ⊢
      clear hG a1 a2
      go_loopw [33] (fun t33 wr => ∃ k : Nat, k ≤ 29 ∧ t33 = .int .i64 (k : Nat) ∧ Kept (fun _ => True) WA wr) (fun t33 _ => 29 - (intOf t33).toNat)
      case atStart => exact ⟨0, Nat.zero_le _, rfl, Kept.refl _ _⟩
      case round =>
        obtain ⟨k, hk, rfl, hkw⟩ := hrel
        have HKW : Hid (Kept (fun _ => True) WA wr) := hkw
        have HBW : Hid (Kept (fun _ => True) B wr) := HKB.out.trans hkw
        have hRk := (hkw.block G (lt_of_block HR.out) trivial).trans HR.out
        clear hkw
        by_cases hlt : k < 29
        · obtain ⟨s1, hs1, q1⟩ := run29_at d1 d2 H1.out H2.out hRk k hlt
          have i1 : (k : Int) < 29 := by omega
          have i0 : (0 : Int) ≤ (k : Int) := by omega
          clear hRk
          have c1 := fun W (k : Kept (fun _ => True) B W) => check_any (HNS.out.all k) (s := s1) (by omega)
          have c2 := fun W (k : Kept (fun _ => True) B W) => rcheck_any (HNS.out.all k) s1 (by omega)
          have c3 := fun W (k : Kept (fun _ => True) B W) => eval_any (HNS.out.all k) (HVS.out.all k) (s := s1) (by omega)
          have c4 := fun W (k : Kept (fun _ => True) B W) => reval_any (HNS.out.all k) (HVS.out.all k) s1 (by omega)
          have c5 := fun W => name_any (w := W) (s := s1) (by omega)
          have c6 := fun W => rname_any (w := W) s1 (by omega)
          have c7 := fun W => uses_any (w := W) (s := s1) (by omega)
          have c8 := fun W => ruses_any (w := W) s1 (by omega)
          have C1 : Hid _ := c1
          have C2 : Hid _ := c2
          have C3 : Hid _ := c3
          have C4 : Hid _ := c4
          have C5 : Hid _ := c5
          have C6 : Hid _ := c6
          have C7 : Hid _ := c7
          have C8 : Hid _ := c8
          clear c1 c2 c3 c4 c5 c6 c7 c8
          generalize (chk [[97], [98], [97]] s1).1 = x1 at *
          generalize (chk [[97], [98], [97]] s1).2 = x2 at *
          generalize (evl [[97], [98], [97]] [3, -7, 9] s1).1 = x3 at *
          generalize (evl [[97], [98], [97]] [3, -7, 9] s1).2 = x4 at *
          generalize isName s1 = nm at *
          go_wp2_with fail
          refine Calls.mono (C1.out _ HBW.out) ?_
          rintro e W1 ⟨rfl, k1⟩
          have K1 : Hid (Kept (fun _ => True) wr W1) := k1
          clear k1 C1
          go_wp2_with fail
          refine Calls.mono (C2.out _ (HBW.out.trans K1.out)) ?_
          rintro e W2 ⟨rfl, k2⟩
          have K2 : Hid (Kept (fun _ => True) wr W2) := K1.out.trans k2
          clear k2 C2
          go_wp2_with fail
          refine Calls.mono (C3.out _ (HBW.out.trans K2.out)) ?_
          rintro e W3 ⟨rfl, k3⟩
          have K3 : Hid (Kept (fun _ => True) wr W3) := K2.out.trans k3
          clear k3 C3
          go_wp2_with fail
          refine Calls.mono (C4.out _ (HBW.out.trans K3.out)) ?_
          rintro e W4 ⟨rfl, k4⟩
          have K4 : Hid (Kept (fun _ => True) wr W4) := K3.out.trans k4
          clear k4 C4
          go_wp2_with fail
          refine Calls.mono (C5.out _) ?_
          rintro e W5 ⟨rfl, k5⟩
          have K5 : Hid (Kept (fun _ => True) wr W5) := K4.out.trans k5
          clear k5 C5
          go_wp2_with fail
          refine Calls.mono (C6.out _) ?_
          rintro e W5 ⟨rfl, rfl⟩
          clear C6
          go_wp2_with fail
          refine Calls.mono (C7.out _) ?_
          rintro e W7 ⟨⟨v7, us, rfl, hu7, hT7⟩, k7⟩
          have HU : Hid (Us s1 us) := hu7
          have K7 : Hid (Kept (fun _ => True) wr W7) := K5.out.trans k7
          obtain ⟨ua, uc, rfl, -, -⟩ := hT7.shape
          have T7 : Hid (Txs W7 W5.heap.size (.slice ua us.length uc) us) := hT7
          clear k7 hu7 hT7 C7
          go_wp2_with fail
          refine Calls.mono (C8.out _) ?_
          rintro e W8 ⟨⟨v8, us8, rfl, hu8, hT8⟩, k8⟩
          have e8 := hu8.unique HU.out rfl
          subst e8
          have K8 : Hid (Kept (fun _ => True) wr W8) := K7.out.trans k8
          obtain ⟨ua8, uc8, rfl, -, -⟩ := hT8.shape
          have ct := texts_any (T7.out.kept (p := fun _ => True) k8 (fun _ _ => trivial)) hT8 (by have := uses_few hu8; omega)
          rw [decide_eq_true rfl] at ct
          have CT : Hid _ := ct
          clear k8 hu8 hT8 C8 ct
          go_wp2_with fail
          refine Calls.mono CT.out ?_
          rintro e w8 ⟨rfl, m8, rfl⟩
          clear CT
          go_wp2_with fail
          go_roundw
          case rel => exact ⟨k + 1, by omega, by go_num, HKW.out.trans (K8.out.drewN _)⟩
          case measure => simp [intOf]; omega
        · have i1 : ¬ (k : Int) < 29 := by omega
          clear hRk
          have e2 : evl [[97], [98], [97]] [3, -7] [49] = (0, 1) := by decide +kernel
          have ce := fun W (k : Kept (fun _ => True) B W) => eval_any (HNS.out.all k) (HVS.out.all k).two (s := [49]) (by decide)
          rw [e2] at ce
          have CE : Hid _ := ce
          clear e2 ce
          go_wp2_with (at_make; refine wpList_make_full _ rfl _ _ _ rfl wr.heap.size 5 i (.int .u8 0) 1 Try.underlying35 HI.out HI0.out HI1.out _ _ _ _ 121 rfl rfl rfl rfl HM1.out HM2.out (Nat.le_refl _) ?_; intro w3 ho3 hg3; obtain ⟨Z3, lZ3, cZ3⟩ := made_text ho3 (made_cells _))
          have K3 : Hid (Kept (fun _ => True) wr w3) := (Kept.refl _ _).grown hg3 (fun k _ h => by cases h)
          have c0 := check_any (Ns.nil w3) (s := Z3) (by omega)
          have e0 : chk [] Z3 = (3, 0) := by rw [chk, if_pos (by omega)]
          rw [e0] at c0
          clear ho3 hg3 cZ3 e0
          refine Calls.mono c0 ?_
          rintro e w4 ⟨rfl, k4⟩
          have K4 : Hid (Kept (fun _ => True) B w4) := HBW.out.trans (K3.out.trans k4)
          clear k4 K3 c0
          go_wp2_with fail
          refine Calls.mono (CE.out _ K4.out) ?_
          rintro e w5 ⟨rfl, k5⟩
          have K5 : Hid (Kept (fun _ => True) B w5) := K4.out.trans k5
          clear k5 CE
          go_wp2_with fail
          refine Calls.mono (CK.out _) ?_
          rintro e w9 ⟨rfl, k9⟩
          go_wp2_with fail
          go_ret
          exact ⟨rfl, (HK0.out.trans K5.out).trans k9⟩

end Go.Proofs.Ytpjfmgmhohpjmaa
