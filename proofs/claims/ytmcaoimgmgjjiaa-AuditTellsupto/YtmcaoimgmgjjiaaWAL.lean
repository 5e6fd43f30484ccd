/-
  Texts of the proofs, 38 of 52.
-/
import Derived.Test.YtmcaoimgmgjjiaaWQ
import Derived.Test.YtmcaoimgmgjjiaaWAH
import Derived.Test.YtmcaoimgmgjjiaaWAK
import Derived.Test.YtmcaoimgmgjjiaaWC
import Derived.BigQuiet
namespace Go.Proofs.Ytmcaoimgmgjjiaa
open Go.RowKit

theorem conv_strC (w : World) (bs : List UInt8) : ∃ cap w1, (convert 9 25 (.string ⟨bs.toArray⟩)).run Try.prog w = .ok (.slice (some ⟨w.heap.size, 0, none⟩) bs.length cap) w1 ∧ Has w1 (some ⟨w.heap.size, 0, none⟩) bs ∧ Kept (fun _ => True) w w1 ∧ bs.length ≤ cap ∧ w1.heap.size = w.heap.size + 1 := by
  have hc : ∀ j (hj : j < bs.length), (Lib.bytesWorld w 5 ⟨bs.toArray⟩).cell? ⟨w.heap.size, j, none⟩ = some (.int .u8 (bs[j]).toNat) := fun j hj => by
    rw [Lib.bytesWorld_cell w 5 ⟨bs.toArray⟩ j hj]
    simp [List.getD, List.getElem?_eq_getElem hj]
  refine ⟨_, _, Lib.run_convert_string_bytes (P := Try.prog) w 9 25 5 ⟨bs.toArray⟩ Try.underlying9 Try.underlying25 Try.underlying5, ?_, ?_, ?_, ?_⟩
  · intro _
    refine ⟨_, rfl, fun j hj => ?_⟩
    rw [WideShapes.add_plain, Nat.zero_add]
    exact hc j hj
  · refine ⟨rfl, rfl, rfl, ?_, fun k hk _ => Lib.bytesWorld_at_old w _ _ k hk⟩
    rw [Lib.bytesWorld_size]
    omega
  · exact grownCap_ge w _ 0 _
  · exact Lib.bytesWorld_size _ _ _

theorem num_bad {s : RS} {bs : List UInt8} {k : Nat} (h : s.why ≠ 0) : s.num bs k = (0, s) := by
  unfold RS.num
  rw [if_neg h]
theorem text_bad {s : RS} {bs : List UInt8} (h : s.why ≠ 0) : (s.text bs 4000).2.why = s.why := by
  have hc : s.count bs 4000 = (0, s) := by
    unfold RS.count
    rw [num_bad h]
    rfl
  unfold RS.text
  rw [hc]
  have hl : s.left bs = 0 := by
    unfold RS.left leftOf
    rw [if_neg h]
  simp [hl]
theorem rdG_bad {bs : List UInt8} {s : RS} {i : Nat} (h : (rdG bs s i).2.why ≠ 0) : ∀ d, (rdG bs s (i + d)).2 = (rdG bs s i).2
  | 0 => rfl
  | d + 1 => by
    show ((rdG bs s (i + d)).2.num bs 1).2 = _
    rw [rdG_bad h d, num_bad h]
theorem end_bad {s : RS} {bs : List UInt8} (h : s.why ≠ 0) : (s.end_ bs).1 ≠ 0 := by
  unfold RS.end_
  rw [if_pos h]
  exact h
theorem rec_cut {bs : List UInt8} {i : Nat} (hi : i ≤ (rdC bs).1) (h : i = (rdC bs).1 ∨ (rdG bs (rdC bs).2 i).2.why ≠ 0) : rec? bs = if (((rdG bs (rdC bs).2 i).2.text bs 4000).2.end_ bs).1 = 0 ∧ fmd ⟨(rdK bs).1, (rdX bs).1, (rdG bs (rdC bs).2 i).1, ((rdG bs (rdC bs).2 i).2.text bs 4000).1⟩ = true then some ⟨(rdK bs).1, (rdX bs).1, (rdG bs (rdC bs).2 i).1, ((rdG bs (rdC bs).2 i).2.text bs 4000).1⟩ else none := by
  rcases h with rfl | h
  · rfl
  · obtain ⟨d, hd⟩ : ∃ d, (rdC bs).1 = i + d := ⟨(rdC bs).1 - i, by omega⟩
    have h1 : (rdGs bs).2 = (rdG bs (rdC bs).2 i).2 := by
      unfold rdGs
      rw [hd]
      exact rdG_bad h d
    have h2 : ((rdD bs).2.end_ bs).1 ≠ 0 := by
      unfold rdD
      rw [h1]
      exact end_bad (by rw [text_bad h]; exact h)
    have h3 : (((rdG bs (rdC bs).2 i).2.text bs 4000).2.end_ bs).1 ≠ 0 := end_bad (by rw [text_bad h]; exact h)
    rw [if_neg (fun q => h3 q.1)]
    unfold rec?
    exact if_neg (fun q => h2 q.1)
def lastU (a : Int) (l : List Nat) : Int := match l.getLast? with
  | none => a
  | some x => (x : Int)
theorem upG_snoc (g : Nat) : ∀ (l : List Nat) (a : Int), upG a (l ++ [g]) = (upG a l && (decide (lastU a l < (g : Int)) && decide (g < 3)))
  | [], a => by
    show (decide (a < (g : Int)) && decide (g < 3) && true) = (true && (decide (a < (g : Int)) && decide (g < 3)))
    rw [Bool.true_and, Bool.and_true]
  | x :: l, a => by
    have e : lastU a (x :: l) = lastU (x : Int) l := by
      cases l with
      | nil => rfl
      | cons y l => rfl
    rw [List.cons_append, upG, upG, upG_snoc g l, e]
    simp only [Bool.and_assoc]
theorem upG_take {gs : List Nat} {i : Nat} (h : i < gs.length) : upG (-1) (gs.take (i + 1)) = (upG (-1) (gs.take i) && (decide (gs[i] < 3) && (decide (i = 0) || decide (gs[i - 1] < gs[i])))) := by
  rw [List.take_succ_eq_append_getElem h, upG_snoc]
  have e : decide (lastU (-1) (gs.take i) < ((gs[i] : Nat) : Int)) = (decide (i = 0) || decide (gs[i - 1] < gs[i])) := by
    by_cases h0 : i = 0
    · subst h0
      have : (-1 : Int) < ((gs[0] : Nat) : Int) := by omega
      simp [lastU, this]
    · have hl : (gs.take i).getLast? = some gs[i - 1] := by
        rw [List.getLast?_eq_getElem?, List.length_take, Nat.min_eq_left (by omega), List.getElem?_take, if_pos (by omega), List.getElem?_eq_getElem (by omega)]
      unfold lastU
      rw [hl]
      simp [h0]
  rw [e]
  simp only [Bool.and_comm]
theorem load_rref {w : World} {g : Nat} {t : TypeId} {a b c d : Value} (hg : Four4 w g t a b c d) : (loadVar 48 ⟨g, 0, none⟩).run Try.prog w = .ok (.agg #[a, b, c, d]) w :=
  run_loadVar_row w g t 48 #[a, b, c, d] _ _ hg Try.underlying48 rfl Try.sizeRref

set_option maxRecDepth 100000 in
set_option maxHeartbeats 4000000 in
theorem rread_any {w : World} {bs : List UInt8} (hb : (bs.length : Int) ≤ 140737488355328) :
    Calls Try.prog 18 #[.string ⟨bs.toArray⟩] w fun e w' => ERead bs w e w' := by
  obtain ⟨cb, wb, hrun, hhas, kb, hcap, hsb⟩ := conv_strC (w.alloc (.cells #[.int .i64 0, .string ⟨#[]⟩, .slice none 0 0, .string ⟨#[]⟩] 48)) bs
  rw [heap_size_alloc] at hrun hhas hsb
  have f2 : Four4 wb w.heap.size 48 (.int .i64 0) (.string ⟨#[]⟩) (.slice none 0 0) (.string ⟨#[]⟩) := Four4.kept (w := w.alloc _) (heap_alloc_new w _) kb trivial
  have kwb : Kept (fun _ => True) w wb := ((Kept.refl _ _).alloc _).trans kb
  obtain ⟨w2, hw2⟩ : ∃ x, x = wb.alloc (.cells #[.slice (some ⟨w.heap.size + 1, 0, none⟩) bs.length cb, .int .i64 0, .bool false, .int .i64 0, .int .i64 0] 97) := ⟨_, rfl⟩
  have k2 : Kept (fun _ => True) wb w2 := by rw [hw2]; exact (Kept.refl _ _).alloc _
  have RG0 : Rg w2 wb.heap.size (some ⟨w.heap.size + 1, 0, none⟩) cb bs ⟨0, 0⟩ := by
    refine ⟨⟨⟨0, 0, 0, by rw [hw2]; exact heap_alloc_new wb _, fun _ => rfl, fun h => absurd rfl h⟩, Nat.zero_le _, hb⟩, hhas.kept k2 (fun _ _ => trivial), (fun e => by cases e), hcap, fun ad e _ => ?_⟩
    cases e
    show w.heap.size + 1 ≠ wb.heap.size
    omega
  have hs2 : w2.heap.size = wb.heap.size + 1 := by rw [hw2, heap_size_alloc]
  have FZ2 : Hid (Four4 w2 w.heap.size 48 (.int .i64 0) (.string ⟨#[]⟩) (.slice none 0 0) (.string ⟨#[]⟩)) := f2.kept k2 trivial
  have KW2 : Hid (Kept (fun _ => True) w w2) := kwb.trans k2
  have RG2 : Hid (Rg w2 wb.heap.size (some ⟨w.heap.size + 1, 0, none⟩) cb bs ⟨0, 0⟩) := RG0
  have HL2 : Hid (wb.heap.size = w.heap.size + 1 + 1 ∧ w2.heap.size = w.heap.size + 1 + 1 + 1) := ⟨hsb, by omega⟩
  clear hhas kb f2 kwb k2 RG0 hs2 hcap
  go_enter Try.func18, Try.ntmps18
  go_upto_region 2 with fail
  rw [← hw2]
  clear hw2 hrun
  obtain ⟨Z, hZ⟩ : ∃ Z, Z = w.heap.size := ⟨_, rfl⟩
  obtain ⟨B, hB⟩ : ∃ B, B = wb.heap.size := ⟨_, rfl⟩
  have HN0 : Hid (Z = w.heap.size ∧ B = Z + 1 + 1 ∧ w2.heap.size = Z + 1 + 1 + 1) := ⟨hZ, by have := HL2.out; omega, by have := HL2.out; omega⟩
  rw [← hZ] at FZ2 RG2 ⊢
  rw [← hB] at RG2
  try rw [← hB]
  have hBZ : Z + 1 + 1 = B := by have := HN0.out; omega
  try rw [hBZ]
  clear hZ hB HL2 hBZ hsb
  have c3 : Calls Try.prog 46 #[.pointer (some ⟨B, 0, none⟩)] w2 fun e w' => e = .returned (.int .i64 ((rdK bs).1 : Nat)) ∧ Rg w' B (some ⟨Z + 1, 0, none⟩) cb bs (rdK bs).2 ∧ Kept (· ≠ B) w2 w' := fbyte_any RG2.out
  go_upto_region 3 with (go_at_call 46; (with_reducible refine Calls.mono c3 ?_); rintro e w3 ⟨rfl, h3, k3⟩; have RG3 : Hid (Rg w3 B (some ⟨Z + 1, 0, none⟩) cb bs (rdK bs).2) := h3; have K3 : Hid (Kept (· ≠ B) w2 w3) := k3; clear h3 k3 c3 RG2)
  obtain ⟨X, hX⟩ : ∃ X, X = w3.heap.size := ⟨_, rfl⟩
  obtain ⟨w4, hw4⟩ : ∃ x, x = w3.alloc (.cells #[.int .i64 ((rdK bs).1 : Nat), .string ⟨#[]⟩, .slice none 0 0, .string ⟨#[]⟩] 48) := ⟨_, rfl⟩
  have k4 : Kept (fun _ => True) w3 w4 := by rw [hw4]; exact (Kept.refl _ _).alloc _
  have hs4 : w4.heap.size = X + 1 := by rw [hw4, heap_size_alloc, hX]
  have hX2 : w2.heap.size ≤ X := by rw [hX]; exact K3.out.size
  have HN : Hid (Z < Z + 1 ∧ Z + 1 < B ∧ B < X ∧ w4.heap.size = X + 1 ∧ Z = w.heap.size) := by
    have := HN0.out
    show _ ∧ _
    omega
  have FX4 : Hid (Four4 w4 X 48 (.int .i64 ((rdK bs).1 : Nat)) (.string ⟨#[]⟩) (.slice none 0 0) (.string ⟨#[]⟩)) := by show Four4 _ _ _ _ _ _ _; rw [hw4, hX]; exact heap_alloc_new w3 _
  have FZ4 : Hid (Four4 w4 Z 48 (.int .i64 0) (.string ⟨#[]⟩) (.slice none 0 0) (.string ⟨#[]⟩)) := (FZ2.out.kept K3.out (by have := HN0.out; omega)).kept k4 trivial
  have RG4 : Hid (Rg w4 B (some ⟨Z + 1, 0, none⟩) cb bs (rdK bs).2) := RG3.out.kept k4 trivial (fun _ _ _ => trivial)
  have KW4 : Hid (Kept (fun _ => True) w w4) := (KW2.out.then K3.out (fun i hi _ => by have := HN0.out; omega)).trans k4
  rw [← hw4, ← hX]
  clear hw4 hX hs4 hX2 k4 K3 HN0 FZ2 RG3 KW2
  obtain ⟨x0, x1, x2, x3⟩ := FX4.out.cell
  have xf := FX4.out.free
  have c4 : Calls Try.prog 47 #[.pointer (some ⟨B, 0, none⟩), .int .i64 4000] w4 fun e w' => e = .returned (.string ⟨(rdX bs).1.toArray⟩) ∧ Rg w' B (some ⟨Z + 1, 0, none⟩) cb bs (rdX bs).2 ∧ Kept (· ≠ B) w4 w' := ftext_any 4000 RG4.out
  go_upto_region 4 with (go_at_call 47; (with_reducible refine Calls.mono c4 ?_); rintro e w5 ⟨rfl, h5, k5⟩; have F5 : Four4 w5 X 48 (.int .i64 ((rdK bs).1 : Nat)) (.string ⟨#[]⟩) (.slice none 0 0) (.string ⟨#[]⟩) := FX4.out.kept k5 (by have := HN.out; omega); obtain ⟨x0, x1, x2, x3⟩ := F5.cell; have xf := F5.free)
  have FX5 : Hid (Four4 (w5.setCell ⟨X, 1, none⟩ (.string ⟨(rdX bs).1.toArray⟩)) X 48 (.int .i64 ((rdK bs).1 : Nat)) (.string ⟨(rdX bs).1.toArray⟩) (.slice none 0 0) (.string ⟨#[]⟩)) := F5.set1 _
  have FZ5 : Hid (Four4 (w5.setCell ⟨X, 1, none⟩ (.string ⟨(rdX bs).1.toArray⟩)) Z 48 (.int .i64 0) (.string ⟨#[]⟩) (.slice none 0 0) (.string ⟨#[]⟩)) := (FZ4.out.kept k5 (by have := HN.out; omega)).kept kept_set (by have := HN.out; omega)
  have RG5 : Hid (Rg (w5.setCell ⟨X, 1, none⟩ (.string ⟨(rdX bs).1.toArray⟩)) B (some ⟨Z + 1, 0, none⟩) cb bs (rdX bs).2) := h5.kept kept_set (by have := HN.out; omega) (fun ad e _ => by cases e; show Z + 1 ≠ X; have := HN.out; omega)
  have KW5 : Hid (Kept (fun x => x ≠ B ∧ x ≠ X) w4 (w5.setCell ⟨X, 1, none⟩ (.string ⟨(rdX bs).1.toArray⟩))) := (k5.mono (fun _ _ h => h.1)).then kept_set (fun _ _ h => h.2)
  clear x0 x1 x2 x3 xf F5 h5 k5 c4 FX4 FZ4 RG4
  generalize w5.setCell ⟨X, 1, none⟩ (.string ⟨(rdX bs).1.toArray⟩) = w5 at *
  have c5 : Calls Try.prog 46 #[.pointer (some ⟨B, 0, none⟩)] w5 fun e w' => e = .returned (.int .i64 ((rdC bs).1 : Nat)) ∧ Rg w' B (some ⟨Z + 1, 0, none⟩) cb bs (rdC bs).2 ∧ Kept (· ≠ B) w5 w' := fbyte_any RG5.out
  have hC : (rdC bs).1 < 256 := RS.num_lt1 _ _
  have HC : Hid ((rdC bs).1 < 256) := hC
  clear hC
  go_wp2_with (go_at_call 46; (with_reducible refine Calls.mono c5 ?_); rintro e w6 ⟨rfl, h6, k6⟩)
  have FX6 : Hid (Four4 w6 X 48 (.int .i64 ((rdK bs).1 : Nat)) (.string ⟨(rdX bs).1.toArray⟩) (.slice none 0 0) (.string ⟨#[]⟩)) := FX5.out.kept k6 (by have := HN.out; omega)
  have FZ6 : Hid (Four4 w6 Z 48 (.int .i64 0) (.string ⟨#[]⟩) (.slice none 0 0) (.string ⟨#[]⟩)) := FZ5.out.kept k6 (by have := HN.out; omega)
  have RG6 : Hid (Rg w6 B (some ⟨Z + 1, 0, none⟩) cb bs (rdC bs).2) := h6
  have KW6 : Hid (Kept (fun x => x ≠ B ∧ x ≠ X) w4 w6) := KW5.out.trans (k6.mono (fun _ _ h => h.1))
  have L6 : Hid (w4.heap.size ≤ w6.heap.size) := KW6.out.size
  clear h6 k6 c5 FX5 FZ5 RG5 KW5
  have HCut : Hid (∀ i, i ≤ (rdC bs).1 → (i = (rdC bs).1 ∨ (rdG bs (rdC bs).2 i).2.why ≠ 0) → rec? bs = if (((rdG bs (rdC bs).2 i).2.text bs 4000).2.end_ bs).1 = 0 ∧ fmd ⟨(rdK bs).1, (rdX bs).1, (rdG bs (rdC bs).2 i).1, ((rdG bs (rdC bs).2 i).2.text bs 4000).1⟩ = true then some ⟨(rdK bs).1, (rdX bs).1, (rdG bs (rdC bs).2 i).1, ((rdG bs (rdC bs).2 i).2.text bs 4000).1⟩ else none) := fun i h1 h2 => rec_cut h1 h2
  generalize hnn : (rdC bs).1 = n at *
  clear hnn
  go_loopw [6] (fun t wr => ∃ (i : Nat) (a7 : Option Addr) (c7 : Nat), i ≤ n ∧ t = .int .i64 ((n - i : Nat) : Int) ∧ Four4 wr X 48 (.int .i64 ((rdK bs).1 : Nat)) (.string ⟨(rdX bs).1.toArray⟩) (.slice a7 i c7) (.string ⟨#[]⟩) ∧ Four4 wr Z 48 (.int .i64 0) (.string ⟨#[]⟩) (.slice none 0 0) (.string ⟨#[]⟩) ∧ Its wr w4.heap.size (.slice a7 i c7) (rdG bs (rdC bs).2 i).1 ∧ Rg wr B (some ⟨Z + 1, 0, none⟩) cb bs (rdG bs (rdC bs).2 i).2 ∧ Kept (fun x => x < w4.heap.size ∧ x ≠ B ∧ x ≠ X) w6 wr) (fun t _ => (intOf t).toNat)
  case atStart => exact ⟨0, none, 0, Nat.zero_le _, rfl, FX6.out, FZ6.out, Its.nil _ _, RG6.out, Kept.refl _ _⟩
  case round =>
    obtain ⟨i, ao, c, hi, rfl, hX, hZ, hI, hR, hK⟩ := hrel
    have FXr : Hid (Four4 wr X 48 (.int .i64 ((rdK bs).1 : Nat)) (.string ⟨(rdX bs).1.toArray⟩) (.slice ao i c) (.string ⟨#[]⟩)) := hX
    have FZr : Hid (Four4 wr Z 48 (.int .i64 0) (.string ⟨#[]⟩) (.slice none 0 0) (.string ⟨#[]⟩)) := hZ
    have ITr : Hid (Its wr w4.heap.size (.slice ao i c) (rdG bs (rdC bs).2 i).1) := hI
    have RGr : Hid (Rg wr B (some ⟨Z + 1, 0, none⟩) cb bs (rdG bs (rdC bs).2 i).2) := hR
    have KR : Hid (Kept (fun x => x < w4.heap.size ∧ x ≠ B ∧ x ≠ X) w6 wr) := hK
    have Lr : Hid (w4.heap.size ≤ wr.heap.size) := Nat.le_trans L6.out hK.size
    obtain ⟨at_, y1, z1, hh5, _, _⟩ := hR.rf.self
    obtain ⟨_, _, rc2, _, _, _⟩ := five_cell hh5
    clear hX hZ hI hR hK hh5 FX6 FZ6 RG6
    by_cases hgo : i < n ∧ (rdG bs (rdC bs).2 i).2.why = 0
    · obtain ⟨hlt, hw0⟩ := hgo
      have j0 : ((n - i : Nat) : Int) > 0 := by omega
      have j1 : (0 : Int) < ((n - i : Nat) : Int) := by omega
      have e0 : decide ((rdG bs (rdC bs).2 i).2.why ≠ 0) = false := by simp [hw0]
      rw [e0] at rc2
      have HLi : Hid ((rdG bs (rdC bs).2 i).1.length = i) := rdG_len _ _ _
      have HG1 : Hid ((rdG bs (rdC bs).2 (i + 1)).1 = (rdG bs (rdC bs).2 i).1 ++ [((rdG bs (rdC bs).2 i).2.num bs 1).1]) := rfl
      have HG2 : Hid ((rdG bs (rdC bs).2 (i + 1)).2 = ((rdG bs (rdC bs).2 i).2.num bs 1).2) := rfl
      clear e0 hw0
      generalize (rdG bs (rdC bs).2 i).1 = gi at *
      generalize (rdG bs (rdC bs).2 i).2 = si at *
      obtain ⟨b0, hb0⟩ : ∃ b0, b0 = w4.heap.size := ⟨_, rfl⟩
      rw [← hb0] at ITr KR Lr
      have HB0 : Hid (B < b0 ∧ X < b0 ∧ b0 ≤ wr.heap.size ∧ Z < b0 ∧ Z + 1 < b0) := ⟨by have := HN.out; omega, by have := HN.out; omega, Lr.out, by have := HN.out; omega, by have := HN.out; omega⟩
      have hXB : X ≠ B := by have := HN.out; omega
      have hXb : X < b0 := HB0.out.2.1
      have hXlt : X < wr.heap.size := FXr.out.lt
      obtain ⟨x0, x1, x2, x3⟩ := FXr.out.cell
      have cg := x2
      have fg := FXr.out.free 2
      have cgA : ∀ W, Kept (fun y => y ≠ B ∧ y < b0) wr W → W.cell? ⟨X, 2, none⟩ = some (.slice ao i c) := fun W hW => (kept_cell hW hXlt ⟨hXB, hXb⟩).trans cg
      have RGd : Hid (Rg wr.drew B (some ⟨Z + 1, 0, none⟩) cb bs si) := RGr.out.kept ((Kept.refl (fun _ => True) wr).drew) trivial (fun _ _ _ => trivial)
      have ITd : Hid (Its wr.drew b0 (.slice ao i c) gi) := ITr.out.kept ((Kept.refl (fun _ => True) wr).drew) (fun _ _ => trivial)
      have HI : Hid (i < n) := hlt
      have hn6 : n < 256 := HC.out
      have HBB : Hid (b0 = w4.heap.size) := hb0
      clear x0 x1 x2 x3 hi hlt hb0
      go_wp2_with fail
      refine Gz.begin (fun W => Kept (fun y => y ≠ B ∧ y < b0) wr W) (fun i => decide (i = 7)) (by kernel_rfl) ?_
      refine Gz.tkT (i := 0) (oi := ⟨some 34, .fieldAddr 48 (.tmp 5) 2, 0, _, _, none⟩) (v := ?_) rfl (by kernel_rfl) (fun _ _ _ h => h) (Or.inl ⟨by rfl, ?hy0⟩) (Kept.refl _ _).drew ?_
      case hy0 => (intro W hS; (try dsimp only at hS); go_simp; try with_reducible rfl)
      try simp only [Act.put, lyA, ly0, ly1]
      refine Gz.tkT (i := 1) (oi := ⟨some 35, .load 22 (.tmp 34), 22, _, _, none⟩) (v := ?_) rfl (by kernel_rfl) (fun _ _ _ h => h) (Or.inl ⟨by rfl, ?hy1⟩) (Kept.refl _ _).drew ?_
      case hy1 => (intro W hS; (try dsimp only at hS); go_simp; try with_reducible rfl)
      try simp only [Act.put, lyA, ly0, ly1]
      refine Gz.tkT (i := 2) (oi := ⟨some 36, .move (.tmp 4), 95, _, _, none⟩) (v := ?_) rfl (by kernel_rfl) (fun _ _ _ h => h) (Or.inl ⟨by rfl, ?hy2⟩) (Kept.refl _ _).drew ?_
      case hy2 => (intro W hS; (try dsimp only at hS); go_simp; try with_reducible rfl)
      try simp only [Act.put, lyA, ly0, ly1]
      refine Gz.one (i := 3) (o := ⟨some 37, .call { callee := .value (.func 46), args := #[.tmp 36], argTypes := #[95] }, 3, _, _, none⟩) (by kernel_rfl) rfl (fun K hK => ?_)
      go_simp
      with_reducible refine Calls.mono (fbyte_any (RGd.out)) ?_
      rintro e w6 ⟨rfl, h6, k6⟩
      have s6 : Kept (fun y => y ≠ B ∧ y < b0) wr w6 := (Kept.refl _ _).drew.trans (k6.mono (fun _ _ h => h.1))
      have RG6 : Hid (Rg w6 B (some ⟨Z + 1, 0, none⟩) cb bs _) := h6
      have IT6 : Hid (Its w6 b0 (.slice ao i c) gi) := ITd.out.kept k6 (fun x hx => by have := (World.ownsRow.lt ITd.out x hx).1; have := HB0.out.1; omega)
      clear h6
      try go_wp2_with fail
      refine hK.out _ _ (fun _ => s6) ?_
      clear hK K
      try simp only [Act.put, lyA, ly0, ly1]
      refine Gz.one (i := 4) (o := ⟨some 38, .buildSlice 22 1 #[(0, .tmp 37)], 22, _, _, none⟩) (by kernel_rfl) rfl (fun K hK => ?_)
      go_simp
      refine hK.out _ _ (fun hEarly => (s6.alloc _)) ?_
      clear hK K
      try simp only [Act.put, lyA, ly0, ly1]
      refine Gz.one (i := 5) (o := ⟨some 39, .call { callee := .builtin Builtin.append, args := #[.tmp 35, .tmp 38], argTypes := #[22, 22] }, 22, _, _, none⟩) (by kernel_rfl) rfl (fun K hK => ?_)
      refine step_append_int rfl (.tmp 35) (.tmp 38) rfl b0 (.slice ao i c) gi rfl (IT6.out.fresh _) (by have := s6.size; have := HB0.out.2.2; simp only [heap_size_alloc]; omega) w6.heap.size rfl _ _ (heap_alloc_new w6 _) (by rw [HLi.out]; omega) ?_
      intro a7 c7 w7 h7 g7
      have s7 : Kept (fun y => y ≠ B ∧ y < b0) wr w7 := (s6.alloc _).grown g7 (fun x _ e => by have := (World.ownsRow.lt IT6.out x e).1; omega)
      have r7 : Kept (fun y => y < b0) w6 w7 := ((Kept.refl _ _).alloc _).grown g7 (fun x _ e => by have := (World.ownsRow.lt IT6.out x e).1; omega)
      rw [HLi.out] at h7 ⊢
      have c27 := (kept_cell s7 hXlt ⟨hXB, hXb⟩).trans cg
      have f27 := (kept_frozen s7 hXlt ⟨hXB, hXb⟩).trans fg
      refine hK.out _ _ (fun _ => s7) ?_
      clear hK K
      try simp only [Act.put, lyA, ly0, ly1]
      refine Gz.tkT (i := 6) (oi := ⟨some 40, .fieldAddr 48 (.tmp 5) 2, 0, _, _, none⟩) (v := ?_) rfl (by kernel_rfl) (fun _ _ _ h => h) (Or.inl ⟨by rfl, ?hy6⟩) s7 ?_
      case hy6 => (intro W hS; (try dsimp only at hS); go_simp; try with_reducible rfl)
      try simp only [Act.put, lyA, ly0, ly1]
      refine Gz.one (i := 7) (o := ⟨none, .store 22 (.tmp 40) (.tmp 39), 0, _, _, none⟩) (by kernel_rfl) rfl (fun K hK => ?_)
      go_simp
      refine hK.out _ _ (fun hEarly => by cases hEarly) ?_
      clear hK K
      try simp only [Act.put, lyA, ly0, ly1]
      refine Gz.done (by kernel_rfl) ?_ _
      go_wp2_with fail
      go_roundw
      case rel =>
        rw [← HBB.out]
        refine ⟨i + 1, a7, c7, by have := HI.out; omega, by have := HI.out; go_num; try omega, (FXr.out.kept s7 ⟨hXB, hXb⟩).set2 _, (FZr.out.kept s7 ⟨by have := HN.out; omega, HB0.out.2.2.2.1⟩).kept kept_set (by have := HN.out; omega), ?_, ?_, ?_⟩
        · rw [HG1.out]
          exact h7.kept kept_set (fun x hx e => by have := (World.ownsRow.lt h7 x hx).1; omega)
        · rw [HG2.out]
          exact (RG6.out.kept r7 HB0.out.1 (fun ad e _ => by cases e; exact HB0.out.2.2.2.2)).kept kept_set (by have := HN.out; omega) (fun ad e _ => by cases e; show Z + 1 ≠ X; have := HN.out; omega)
        · exact KR.out.trans ((s7.mono (fun _ _ h => ⟨h.2.1, h.1⟩)).then kept_set (fun _ _ h => h.2.2))
      case measure => have := HI.out; simp [intOf]; omega
    · have hx : i = n ∨ (rdG bs (rdC bs).2 i).2.why ≠ 0 := by
        by_cases h : (rdG bs (rdC bs).2 i).2.why = 0
        · exact .inl (by have : ¬ i < n := fun q => hgo ⟨q, h⟩; omega)
        · exact .inr h
      have HREC : Hid (rec? bs = _) := HCut.out i hi hx
      have el : (rdG bs (rdC bs).2 i).1.length = i := rdG_len _ _ _
      clear hgo
      generalize (rdG bs (rdC bs).2 i).1 = gi at *
      generalize (rdG bs (rdC bs).2 i).2 = si at *
      have HEL : Hid (gi.length = i) := el
      have hi6 : Hid (i < 256) := by have := HC.out; show i < 256; omega
      have KWr : Hid (Kept (fun x => x < w4.heap.size ∧ x ≠ B ∧ x ≠ X) w4 wr) := ((KW6.out.then KR.out (fun i hi h => ⟨hi, h.1, h.2⟩)).mono (fun _ _ h => h.2))
      have c9 := ftext_any 4000 RGr.out
      have HRR : Hid ((∀ v, (((n - i : Nat) : Int) > 0 ∧ decide (si.why ≠ 0) = v) → v = true)) := by
        rintro v ⟨h1, rfl⟩
        rcases hx with h | h
        · omega
        · simpa using h
      clear KR KW6 HCut el
      by_cases hlt : i < n
      case pos =>
        have hw : decide (si.why ≠ 0) = true := HRR.out _ ⟨by omega, rfl⟩
        rw [hw] at rc2
        have j0 : ((n - i : Nat) : Int) > 0 := by omega
        have j1 : (0 : Int) < ((n - i : Nat) : Int) := by omega
        clear hw hx HRR hi hlt
        go_upto_region 9 with (go_at_call 47; (with_reducible refine Calls.mono c9 ?_); rintro e w9 ⟨rfl, h9, k9⟩; have F9 : Four4 w9 X 48 (.int .i64 ((rdK bs).1 : Nat)) (.string ⟨(rdX bs).1.toArray⟩) (.slice ao i c) (.string ⟨#[]⟩) := FXr.out.kept k9 (by have := HN.out; omega); obtain ⟨x0, x1, x2, x3⟩ := F9.cell; have xf := F9.free)
        have FX9 : Hid (Four4 (w9.setCell ⟨X, 3, none⟩ (.string ⟨(si.text bs 4000).1.toArray⟩)) X 48 (.int .i64 ((rdK bs).1 : Nat)) (.string ⟨(rdX bs).1.toArray⟩) (.slice ao i c) (.string ⟨(si.text bs 4000).1.toArray⟩)) := F9.set3 _
        have FZ9 : Hid (Four4 (w9.setCell ⟨X, 3, none⟩ (.string ⟨(si.text bs 4000).1.toArray⟩)) Z 48 (.int .i64 0) (.string ⟨#[]⟩) (.slice none 0 0) (.string ⟨#[]⟩)) := (FZr.out.kept k9 (by have := HN.out; omega)).kept kept_set (by have := HN.out; omega)
        have RG9 : Hid (Rg (w9.setCell ⟨X, 3, none⟩ (.string ⟨(si.text bs 4000).1.toArray⟩)) B (some ⟨Z + 1, 0, none⟩) cb bs (si.text bs 4000).2) := h9.kept kept_set (by have := HN.out; omega) (fun ad e _ => by cases e; show Z + 1 ≠ X; have := HN.out; omega)
        have IT9 : Hid (Its (w9.setCell ⟨X, 3, none⟩ (.string ⟨(si.text bs 4000).1.toArray⟩)) w4.heap.size (.slice ao i c) gi) := ((ITr.out.kept k9 (fun x hx => by have := (World.ownsRow.lt ITr.out x hx).1; have := HN.out; omega)).kept kept_set (fun x hx e => by have := (World.ownsRow.lt ITr.out x hx).1; have := HN.out; omega))
        have KW9 : Hid (Kept (fun x => x < w4.heap.size ∧ x ≠ B ∧ x ≠ X) w4 (w9.setCell ⟨X, 3, none⟩ (.string ⟨(si.text bs 4000).1.toArray⟩))) := KWr.out.trans ((k9.mono (fun _ _ h => h.2.1)).then kept_set (fun _ _ h => h.2.2))
        clear x0 x1 x2 x3 xf F9 h9 k9 c9 FXr FZr RGr ITr KWr
        generalize w9.setCell ⟨X, 3, none⟩ (.string ⟨(si.text bs 4000).1.toArray⟩) = w9 at *
        have ce := fend_any RG9.out.rf
        generalize (si.text bs 4000).1 = db at *
        generalize ((si.text bs 4000).2.end_ bs).1 = ee at *
        generalize ((si.text bs 4000).2.end_ bs).2 = ef at *
        generalize (rdK bs).1 = kk at *
        generalize (rdX bs).1 = tx at *
        have KF : Hid (Kept (fun _ => True) w w9) := KW4.out.then KW9.out (fun i hi _ => by have := HN.out; omega)
        clear KW4 KW9 RG9
        go_upto_region 10 with (go_at_call 48; (with_reducible refine Calls.mono ce ?_); rintro e w10 ⟨rfl, n10, rfl⟩)
        have F10 : Hid (Four4 (w9.drewN n10) X 48 (.int .i64 (kk : Nat)) (.string ⟨tx.toArray⟩) (.slice ao i c) (.string ⟨db.toArray⟩)) := FX9.out.kept ((Kept.refl (fun _ => True) _).drewN _) trivial
        have FZ10 : Hid (Four4 (w9.drewN n10) Z 48 (.int .i64 0) (.string ⟨#[]⟩) (.slice none 0 0) (.string ⟨#[]⟩)) := FZ9.out.kept ((Kept.refl (fun _ => True) _).drewN _) trivial
        have IT10 : Hid (Its (w9.drewN n10) w4.heap.size (.slice ao i c) gi) := IT9.out.kept ((Kept.refl (fun _ => True) _).drewN _) (fun _ _ => trivial)
        have K10 : Hid (Kept (fun _ => True) w (w9.drewN n10)) := KF.out.trans ((Kept.refl _ _).drewN _)
        clear ce FX9 FZ9 IT9 KF
        generalize w9.drewN n10 = w10 at *
        obtain ⟨x0, x1, x2, x3⟩ := F10.out.cell
        obtain ⟨ok, hok⟩ : ∃ ok : Bool, ok = (decide (ee = 0) && (if kk = 1 then decide (tx = []) else if kk = 2 ∨ kk = 3 ∨ kk = 4 then decide (tx ≠ []) else false)) := ⟨_, rfl⟩
        have HREC2 : Hid (rec? bs = if (ok && upG (-1) gi) = true then some ⟨kk, tx, gi, db⟩ else none) := by
          show _ = _
          rw [HREC.out, hok]
          unfold fmd
          simp only [Bool.and_eq_true, decide_eq_true_eq, and_assoc]
        clear HREC
        go_cut [9] from 49 to 69 (fun t9 wx => t9 = .bool ok ∧ wx = w10)
        case first =>
          by_cases he : ee = 0
          · subst he
            by_cases k1 : kk = 1
            · subst k1
              by_cases ht : tx = []
              · have hz : tx.isEmpty = true := by simp [ht]
                have : ok = true := by rw [hok]; simp [ht]
                subst this
                clear hok ht
                go_wp2_with fail
                go_meet
                exact ⟨rfl, rfl⟩
              · have hz : tx.isEmpty = false := by simp [ht]
                have : ok = false := by rw [hok]; simp [ht]
                subst this
                clear hok ht
                go_wp2_with fail
                go_meet
                exact ⟨rfl, rfl⟩
            · by_cases k4 : kk = 2 ∨ kk = 3 ∨ kk = 4
              · have g1 : (1 : Int) ≤ (kk : Int) := by omega
                have g2 : (kk : Int) ≥ 1 := by omega
                have g3 : (kk : Int) ≤ 4 := by omega
                have g4 : ((kk : Int) == 1) = false := beq_eq_false_iff_ne.2 (by omega)
                by_cases ht : tx = []
                · have hz : tx.isEmpty = true := by simp [ht]
                  have : ok = false := by rw [hok, if_neg k1, if_pos k4]; simp [ht]
                  subst this
                  clear hok ht k1 k4
                  go_wp2_with fail
                  go_meet
                  exact ⟨rfl, rfl⟩
                · have hz : tx.isEmpty = false := by simp [ht]
                  have : ok = true := by rw [hok, if_neg k1, if_pos k4]; simp [ht]
                  subst this
                  clear hok ht k1 k4
                  go_wp2_with fail
                  go_meet
                  exact ⟨rfl, rfl⟩
              · have : ok = false := by rw [hok, if_neg k1, if_neg k4]; simp
                subst this
                by_cases k0 : kk = 0
                · subst k0
                  clear hok k1 k4
                  go_wp2_with fail
                  go_meet
                  exact ⟨rfl, rfl⟩
                · have g1 : (1 : Int) ≤ (kk : Int) := by omega
                  have g2 : (kk : Int) ≥ 1 := by omega
                  have g3 : ¬ (kk : Int) ≤ 4 := by omega
                  clear hok k0 k1 k4
                  go_wp2_with fail
                  go_meet
                  exact ⟨rfl, rfl⟩
          · have he2 : (ee == 0) = false := beq_eq_false_iff_ne.2 he
            have : ok = false := by rw [hok]; simp [he]
            subst this
            clear hok he
            go_wp2_with fail
            go_meet
            exact ⟨rfl, rfl⟩
        case rest =>
        obtain ⟨rfl, hwc⟩ := hcut
        subst wc
        clear hok
        go_wp2_with fail
        go_loopw [9, 10] (fun t9 t10 wr => ∃ k : Nat, k ≤ i ∧ t10 = .int .i64 k ∧ t9 = .bool (ok && upG (-1) (gi.take k)) ∧ Kept (fun _ => True) w10 wr) (fun _ t _ => i - (intOf t).toNat)
        case atStart => exact ⟨0, Nat.zero_le _, rfl, by simp [upG], Kept.refl _ _⟩
        case round =>
          obtain ⟨k, hk, rfl, rfl, hkr⟩ := hrel
          have HKr : Hid (Kept (fun _ => True) w10 wr) := hkr
          obtain ⟨x0, x1, x2, x3⟩ := (F10.out.kept hkr trivial).cell
          have x2A : ∀ W, Kept (fun _ => True) wr W → W.cell? ⟨X, 2, none⟩ = some (.slice ao i c) := fun W q => (F10.out.kept (hkr.trans q) trivial).cell.2.2.1
          by_cases hlt : k < i
          · have hk2 : k < gi.length := by have := HEL.out; omega
            have IT12 : Hid (Its wr w4.heap.size (.slice ao i c) gi) := IT10.out.kept hkr (fun _ _ => trivial)
            obtain ⟨g, rfl, hc⟩ := IT12.out.at k hk2
            have hcA : ∀ W, Kept (fun _ => True) wr W → W.cell? ⟨g, k, none⟩ = some (.int .i64 (gi[k] : Nat)) := fun W q => (kept_cell q (World.block_lt_of_cell? wr _ hc) trivial).trans hc
            have hup := upG_take hk2
            obtain ⟨gb, hgb, HLP⟩ : ∃ gb, gb = gi[k - 1]'(by omega) ∧ Hid (0 < k → wr.cell? ⟨g, k - 1, none⟩ = some (.int .i64 (gb : Nat))) := ⟨_, rfl, fun h0 => by
              obtain ⟨g', e, h1⟩ := IT12.out.at (k - 1) (by omega)
              injection e with e
              injection e with e
              subst e
              exact h1⟩
            rw [← hgb] at hup
            have HUP : Hid (upG (-1) (gi.take (k + 1)) = _) := hup
            have i0 : (0 : Int) ≤ (k : Int) := by omega
            have i1 : (k : Int) < (i : Int) := by omega
            have HI : Hid (k < i) := hlt
            clear hgb hup
            generalize upG (-1) (gi.take k) = up at *
            generalize gi[k] = ga at *
            clear hk hk2
            obtain ⟨b, hb0⟩ : ∃ b, b = (ok && up) := ⟨_, rfl⟩
            have hi7 : i < 256 := hi6.out
            have HB : Hid ((ok && upG (-1) (gi.take (k + 1))) = (b && (decide (ga < 3) && (decide (k = 0) || decide (gb < ga))))) := by
              show _ = _
              rw [HUP.out, hb0, Bool.and_assoc]
            rw [← hb0]
            clear hb0 HUP
            cases b
            · go_wp2_with fail
              go_quiet (fail)
              go_wp2_with fail
              go_roundw
              case rel => exact ⟨k + 1, by have := HI.out; omega, by go_num, by rw [HB.out]; rfl, HKr.out.trans ((Kept.refl _ _).drewN _)⟩
              case measure => have := HI.out; simp [intOf]; omega
            · by_cases h3 : ga < 3
              · have d3 : (ga : Int) < 3 := by omega
                by_cases hk0 : k = 0
                · subst hk0
                  go_wp2_with fail
                  go_quiet (fail)
                  go_wp2_with fail
                  go_roundw
                  case rel => exact ⟨0 + 1, by have := HI.out; omega, by go_num, by rw [HB.out]; simp [h3], HKr.out.trans ((Kept.refl _ _).drewN _)⟩
                  case measure => have := HI.out; simp [intOf]; omega
                · obtain ⟨k', rfl⟩ : ∃ k', k = k' + 1 := ⟨k - 1, by omega⟩
                  have hc1 := HLP.out (by omega)
                  rw [Nat.add_sub_cancel] at hc1
                  have hc1A : ∀ W, Kept (fun _ => True) wr W → W.cell? ⟨g, k', none⟩ = some (.int .i64 (gb : Nat)) := fun W q => (kept_cell q (World.block_lt_of_cell? wr _ hc1) trivial).trans hc1
                  have hkm : ((k' + 1 : Nat) : Int) - 1 = (k' : Int) := by omega
                  have hke : (((k' + 1 : Nat) : Int) == 0) = false := beq_eq_false_iff_ne.2 (by omega)
                  have j0 : (0 : Int) ≤ (k' : Int) := by omega
                  have j1 : (k' : Int) < (i : Int) := by omega
                  have j2 : k' < i := by omega
                  have j3 : (0 : Int) ≤ (k' : Int) + 1 := by omega
                  have j4 : (k' : Int) + 1 < (i : Int) := by omega
                  have j5 : ((k' : Int) + 1 == 0) = false := beq_eq_false_iff_ne.2 (by omega)
                  have j6 : (k' : Int) + 1 - 1 = (k' : Int) := by omega
                  have j7 : IntKind.i64.wrap (k' : Int) = (k' : Int) := by rw [IntKind.wrap_i64]; omega
                  by_cases hg : gb < ga
                  · have dg : (gb : Int) < (ga : Int) := by omega
                    go_wp2_with fail
                    have kd : Kept (fun _ => True) wr wr.drew := (Kept.refl _ _).drew
                    refine Gz.begin (fun W => Kept (fun _ => True) wr W) (fun _ => false) (by kernel_rfl) ?_
                    refine Gz.tk (i := 0) (oi := ⟨some 77, .move (.tmp 9), 4, _, _, none⟩) (v := ?_) rfl (by kernel_rfl) (fun _ _ _ h => h) (Or.inl ⟨by rfl, ?hy0⟩) (Kept.refl _ _).drew ?_
                    case hy0 => (intro W hS; (try dsimp only at hS); go_simp; try with_reducible rfl)
                    try simp only [Act.put, lyA, ly0, ly1]
                    refine Gz.tk (i := 1) (oi := ⟨some 78, .move (.tmp 77), 4, _, _, none⟩) (v := ?_) rfl (by kernel_rfl) (fun _ _ _ h => h) (Or.inl ⟨by rfl, ?hy1⟩) (Kept.refl _ _).drew ?_
                    case hy1 => (intro W hS; (try dsimp only at hS); go_simp; try with_reducible rfl)
                    try simp only [Act.put, lyA, ly0, ly1]
                    refine Gz.tk (i := 2) (oi := ⟨some 79, .fieldAddr 48 (.tmp 5) 2, 0, _, _, some (1, true)⟩) (v := ?_) rfl (by kernel_rfl) (fun _ _ _ h => h) (Or.inl ⟨by rfl, ?hy2⟩) (Kept.refl _ _).drew ?_
                    case hy2 => (intro W hS; (try dsimp only at hS); go_simp; try with_reducible rfl)
                    try simp only [Act.put, lyA, ly0, ly1]
                    refine Gz.tk (i := 3) (oi := ⟨some 80, .load 22 (.tmp 79), 22, _, _, some (1, true)⟩) (v := ?_) rfl (by kernel_rfl) (fun _ _ _ h => h) (Or.inl ⟨by rfl, ?hy3⟩) (Kept.refl _ _).drew ?_
                    case hy3 => (intro W hS; (try dsimp only at hS); go_simp; try with_reducible rfl)
                    try simp only [Act.put, lyA, ly0, ly1]
                    refine Gz.tk (i := 4) (oi := ⟨some 81, .move (.tmp 10), 3, _, _, some (1, true)⟩) (v := ?_) rfl (by kernel_rfl) (fun _ _ _ h => h) (Or.inl ⟨by rfl, ?hy4⟩) (Kept.refl _ _).drew ?_
                    case hy4 => (intro W hS; (try dsimp only at hS); go_simp; try with_reducible rfl)
                    try simp only [Act.put, lyA, ly0, ly1]
                    refine Gz.tk (i := 5) (oi := ⟨some 82, .indexAddr 22 (.tmp 80) (.tmp 81), 0, _, _, some (1, true)⟩) (v := ?_) rfl (by kernel_rfl) (fun _ _ _ h => h) (Or.inl ⟨by rfl, ?hy5⟩) (Kept.refl _ _).drew ?_
                    case hy5 => (intro W hS; (try dsimp only at hS); go_simp; try with_reducible rfl)
                    try simp only [Act.put, lyA, ly0, ly1]
                    refine Gz.tk (i := 6) (oi := ⟨some 83, .load 3 (.tmp 82), 3, _, _, some (1, true)⟩) (v := ?_) rfl (by kernel_rfl) (fun _ _ _ h => h) (Or.inl ⟨by rfl, ?hy6⟩) (Kept.refl _ _).drew ?_
                    case hy6 => (intro W hS; (try dsimp only at hS); go_simp; try with_reducible rfl)
                    try simp only [Act.put, lyA, ly0, ly1]
                    refine Gz.tk (i := 7) (oi := ⟨some 84, .binOp BinOp.lss 3 (.tmp 83) (.const (Value.int IntKind.i64 3)) 3, 4, _, _, some (1, true)⟩) (v := ?_) rfl (by kernel_rfl) (fun _ _ _ h => h) (Or.inl ⟨by rfl, ?hy7⟩) (Kept.refl _ _).drew ?_
                    case hy7 => (intro W hS; (try dsimp only at hS); go_simp; try with_reducible rfl)
                    try simp only [Act.put, lyA, ly0, ly1]
                    refine Gz.tk (i := 8) (oi := ⟨some 85, .pick (.tmp 78) (.tmp 84) (.const (Value.bool false)), 4, _, _, none⟩) (v := ?_) rfl (by kernel_rfl) (fun _ _ _ h => h) (Or.inl ⟨by rfl, ?hy8⟩) (Kept.refl _ _).drew ?_
                    case hy8 => (intro W hS; (try dsimp only at hS); go_simp; try with_reducible rfl)
                    try simp only [Act.put, lyA, ly0, ly1]
                    refine Gz.tk (i := 9) (oi := ⟨some 86, .move (.tmp 85), 4, _, _, none⟩) (v := ?_) rfl (by kernel_rfl) (fun _ _ _ h => h) (Or.inl ⟨by rfl, ?hy9⟩) (Kept.refl _ _).drew ?_
                    case hy9 => (intro W hS; (try dsimp only at hS); go_simp; try with_reducible rfl)
                    try simp only [Act.put, lyA, ly0, ly1]
                    refine Gz.tk (i := 10) (oi := ⟨some 87, .move (.tmp 10), 3, _, _, some (9, true)⟩) (v := ?_) rfl (by kernel_rfl) (fun _ _ _ h => h) (Or.inl ⟨by rfl, ?hy10⟩) (Kept.refl _ _).drew ?_
                    case hy10 => (intro W hS; (try dsimp only at hS); go_simp; try with_reducible rfl)
                    try simp only [Act.put, lyA, ly0, ly1]
                    refine Gz.tk (i := 11) (oi := ⟨some 88, .binOp BinOp.eql 3 (.tmp 87) (.const (Value.int IntKind.i64 0)) 3, 4, _, _, some (9, true)⟩) (v := ?_) rfl (by kernel_rfl) (fun _ _ _ h => h) (Or.inl ⟨by rfl, ?hy11⟩) (Kept.refl _ _).drew ?_
                    case hy11 => (intro W hS; (try dsimp only at hS); go_simp; try with_reducible rfl)
                    try simp only [Act.put, lyA, ly0, ly1]
                    refine Gz.tk (i := 12) (oi := ⟨some 89, .move (.tmp 88), 4, _, _, some (9, true)⟩) (v := ?_) rfl (by kernel_rfl) (fun _ _ _ h => h) (Or.inl ⟨by rfl, ?hy12⟩) (Kept.refl _ _).drew ?_
                    case hy12 => (intro W hS; (try dsimp only at hS); go_simp; try with_reducible rfl)
                    try simp only [Act.put, lyA, ly0, ly1]
                    refine Gz.tk (i := 13) (oi := ⟨some 90, .fieldAddr 48 (.tmp 5) 2, 0, _, _, some (12, false)⟩) (v := ?_) rfl (by kernel_rfl) (fun _ _ _ h => h) (Or.inl ⟨by rfl, ?hy13⟩) (Kept.refl _ _).drew ?_
                    case hy13 => (intro W hS; (try dsimp only at hS); go_simp; try with_reducible rfl)
                    try simp only [Act.put, lyA, ly0, ly1]
                    refine Gz.tk (i := 14) (oi := ⟨some 91, .load 22 (.tmp 90), 22, _, _, some (12, false)⟩) (v := ?_) rfl (by kernel_rfl) (fun _ _ _ h => h) (Or.inl ⟨by rfl, ?hy14⟩) (Kept.refl _ _).drew ?_
                    case hy14 => (intro W hS; (try dsimp only at hS); go_simp; try with_reducible rfl)
                    try simp only [Act.put, lyA, ly0, ly1]
                    refine Gz.tk (i := 15) (oi := ⟨some 92, .move (.tmp 10), 3, _, _, some (12, false)⟩) (v := ?_) rfl (by kernel_rfl) (fun _ _ _ h => h) (Or.inl ⟨by rfl, ?hy15⟩) (Kept.refl _ _).drew ?_
                    case hy15 => (intro W hS; (try dsimp only at hS); go_simp; try with_reducible rfl)
                    try simp only [Act.put, lyA, ly0, ly1]
                    refine Gz.tk (i := 16) (oi := ⟨some 93, .binOp BinOp.sub 3 (.tmp 92) (.const (Value.int IntKind.i64 1)) 3, 3, _, _, some (12, false)⟩) (v := ?_) rfl (by kernel_rfl) (fun _ _ _ h => h) (Or.inl ⟨by rfl, ?hy16⟩) (Kept.refl _ _).drew ?_
                    case hy16 => (intro W hS; (try dsimp only at hS); go_simp; try with_reducible rfl)
                    try simp only [Act.put, lyA, ly0, ly1]
                    refine Gz.tk (i := 17) (oi := ⟨some 94, .indexAddr 22 (.tmp 91) (.tmp 93), 0, _, _, some (12, false)⟩) (v := ?_) rfl (by kernel_rfl) (fun _ _ _ h => h) (Or.inl ⟨by rfl, ?hy17⟩) (Kept.refl _ _).drew ?_
                    case hy17 => (intro W hS; (try dsimp only at hS); go_simp; try with_reducible rfl)
                    try simp only [Act.put, lyA, ly0, ly1]
                    refine Gz.tk (i := 18) (oi := ⟨some 95, .load 3 (.tmp 94), 3, _, _, some (12, false)⟩) (v := ?_) rfl (by kernel_rfl) (fun _ _ _ h => h) (Or.inl ⟨by rfl, ?hy18⟩) (Kept.refl _ _).drew ?_
                    case hy18 => (intro W hS; (try dsimp only at hS); go_simp; try with_reducible rfl)
                    try simp only [Act.put, lyA, ly0, ly1]
                    refine Gz.tk (i := 19) (oi := ⟨some 96, .fieldAddr 48 (.tmp 5) 2, 0, _, _, some (12, false)⟩) (v := ?_) rfl (by kernel_rfl) (fun _ _ _ h => h) (Or.inl ⟨by rfl, ?hy19⟩) (Kept.refl _ _).drew ?_
                    case hy19 => (intro W hS; (try dsimp only at hS); go_simp; try with_reducible rfl)
                    try simp only [Act.put, lyA, ly0, ly1]
                    refine Gz.tk (i := 20) (oi := ⟨some 97, .load 22 (.tmp 96), 22, _, _, some (12, false)⟩) (v := ?_) rfl (by kernel_rfl) (fun _ _ _ h => h) (Or.inl ⟨by rfl, ?hy20⟩) (Kept.refl _ _).drew ?_
                    case hy20 => (intro W hS; (try dsimp only at hS); go_simp; try with_reducible rfl)
                    try simp only [Act.put, lyA, ly0, ly1]
                    refine Gz.tk (i := 21) (oi := ⟨some 98, .move (.tmp 10), 3, _, _, some (12, false)⟩) (v := ?_) rfl (by kernel_rfl) (fun _ _ _ h => h) (Or.inl ⟨by rfl, ?hy21⟩) (Kept.refl _ _).drew ?_
                    case hy21 => (intro W hS; (try dsimp only at hS); go_simp; try with_reducible rfl)
                    try simp only [Act.put, lyA, ly0, ly1]
                    refine Gz.tk (i := 22) (oi := ⟨some 99, .indexAddr 22 (.tmp 97) (.tmp 98), 0, _, _, some (12, false)⟩) (v := ?_) rfl (by kernel_rfl) (fun _ _ _ h => h) (Or.inl ⟨by rfl, ?hy22⟩) (Kept.refl _ _).drew ?_
                    case hy22 => (intro W hS; (try dsimp only at hS); go_simp; try with_reducible rfl)
                    try simp only [Act.put, lyA, ly0, ly1]
                    refine Gz.tk (i := 23) (oi := ⟨some 100, .load 3 (.tmp 99), 3, _, _, some (12, false)⟩) (v := ?_) rfl (by kernel_rfl) (fun _ _ _ h => h) (Or.inl ⟨by rfl, ?hy23⟩) (Kept.refl _ _).drew ?_
                    case hy23 => (intro W hS; (try dsimp only at hS); go_simp; try with_reducible rfl)
                    try simp only [Act.put, lyA, ly0, ly1]
                    refine Gz.tk (i := 24) (oi := ⟨some 101, .binOp BinOp.lss 3 (.tmp 95) (.tmp 100) 3, 4, _, _, some (12, false)⟩) (v := ?_) rfl (by kernel_rfl) (fun _ _ _ h => h) (Or.inl ⟨by rfl, ?hy24⟩) (Kept.refl _ _).drew ?_
                    case hy24 => (intro W hS; (try dsimp only at hS); go_simp; try with_reducible rfl)
                    try simp only [Act.put, lyA, ly0, ly1]
                    refine Gz.tk (i := 25) (oi := ⟨some 102, .pick (.tmp 89) (.const (Value.bool true)) (.tmp 101), 4, _, _, some (9, true)⟩) (v := ?_) rfl (by kernel_rfl) (fun _ _ _ h => h) (Or.inl ⟨by rfl, ?hy25⟩) (Kept.refl _ _).drew ?_
                    case hy25 => (intro W hS; (try dsimp only at hS); go_simp; try with_reducible rfl)
                    try simp only [Act.put, lyA, ly0, ly1]
                    refine Gz.tk (i := 26) (oi := ⟨some 103, .pick (.tmp 86) (.tmp 102) (.const (Value.bool false)), 4, _, _, none⟩) (v := ?_) rfl (by kernel_rfl) (fun _ _ _ h => h) (Or.inl ⟨by rfl, ?hy26⟩) (Kept.refl _ _).drew ?_
                    case hy26 => (intro W hS; (try dsimp only at hS); go_simp; try with_reducible rfl)
                    try simp only [Act.put, lyA, ly0, ly1]
                    refine Gz.tk (i := 27) (oi := ⟨some 9, .assign (.tmp 103), 4, _, _, none⟩) (v := ?_) rfl (by kernel_rfl) (fun _ _ _ h => h) (Or.inl ⟨by rfl, ?hy27⟩) (Kept.refl _ _).drew ?_
                    case hy27 => (intro W hS; (try dsimp only at hS); go_simp; try with_reducible rfl)
                    try simp only [Act.put, lyA, ly0, ly1]
                    refine Gz.done (by kernel_rfl) ?_ _
                    go_wp2_with fail
                    go_roundw
                    case rel => exact ⟨k' + 1 + 1, by have := HI.out; omega, by go_num, by rw [HB.out]; simp [h3, hg], HKr.out.trans kd⟩
                    case measure => have := HI.out; simp [intOf]; omega
                  · have dg : decide ((gb : Int) < (ga : Int)) = false := decide_eq_false (by omega)
                    go_wp2_with fail
                    have kd : Kept (fun _ => True) wr wr.drew := (Kept.refl _ _).drew
                    refine Gz.begin (fun W => Kept (fun _ => True) wr W) (fun _ => false) (by kernel_rfl) ?_
                    refine Gz.tk (i := 0) (oi := ⟨some 77, .move (.tmp 9), 4, _, _, none⟩) (v := ?_) rfl (by kernel_rfl) (fun _ _ _ h => h) (Or.inl ⟨by rfl, ?hy0⟩) (Kept.refl _ _).drew ?_
                    case hy0 => (intro W hS; (try dsimp only at hS); go_simp; try with_reducible rfl)
                    try simp only [Act.put, lyA, ly0, ly1]
                    refine Gz.tk (i := 1) (oi := ⟨some 78, .move (.tmp 77), 4, _, _, none⟩) (v := ?_) rfl (by kernel_rfl) (fun _ _ _ h => h) (Or.inl ⟨by rfl, ?hy1⟩) (Kept.refl _ _).drew ?_
                    case hy1 => (intro W hS; (try dsimp only at hS); go_simp; try with_reducible rfl)
                    try simp only [Act.put, lyA, ly0, ly1]
                    refine Gz.tk (i := 2) (oi := ⟨some 79, .fieldAddr 48 (.tmp 5) 2, 0, _, _, some (1, true)⟩) (v := ?_) rfl (by kernel_rfl) (fun _ _ _ h => h) (Or.inl ⟨by rfl, ?hy2⟩) (Kept.refl _ _).drew ?_
                    case hy2 => (intro W hS; (try dsimp only at hS); go_simp; try with_reducible rfl)
                    try simp only [Act.put, lyA, ly0, ly1]
                    refine Gz.tk (i := 3) (oi := ⟨some 80, .load 22 (.tmp 79), 22, _, _, some (1, true)⟩) (v := ?_) rfl (by kernel_rfl) (fun _ _ _ h => h) (Or.inl ⟨by rfl, ?hy3⟩) (Kept.refl _ _).drew ?_
                    case hy3 => (intro W hS; (try dsimp only at hS); go_simp; try with_reducible rfl)
                    try simp only [Act.put, lyA, ly0, ly1]
                    refine Gz.tk (i := 4) (oi := ⟨some 81, .move (.tmp 10), 3, _, _, some (1, true)⟩) (v := ?_) rfl (by kernel_rfl) (fun _ _ _ h => h) (Or.inl ⟨by rfl, ?hy4⟩) (Kept.refl _ _).drew ?_
                    case hy4 => (intro W hS; (try dsimp only at hS); go_simp; try with_reducible rfl)
                    try simp only [Act.put, lyA, ly0, ly1]
                    refine Gz.tk (i := 5) (oi := ⟨some 82, .indexAddr 22 (.tmp 80) (.tmp 81), 0, _, _, some (1, true)⟩) (v := ?_) rfl (by kernel_rfl) (fun _ _ _ h => h) (Or.inl ⟨by rfl, ?hy5⟩) (Kept.refl _ _).drew ?_
                    case hy5 => (intro W hS; (try dsimp only at hS); go_simp; try with_reducible rfl)
                    try simp only [Act.put, lyA, ly0, ly1]
                    refine Gz.tk (i := 6) (oi := ⟨some 83, .load 3 (.tmp 82), 3, _, _, some (1, true)⟩) (v := ?_) rfl (by kernel_rfl) (fun _ _ _ h => h) (Or.inl ⟨by rfl, ?hy6⟩) (Kept.refl _ _).drew ?_
                    case hy6 => (intro W hS; (try dsimp only at hS); go_simp; try with_reducible rfl)
                    try simp only [Act.put, lyA, ly0, ly1]
                    refine Gz.tk (i := 7) (oi := ⟨some 84, .binOp BinOp.lss 3 (.tmp 83) (.const (Value.int IntKind.i64 3)) 3, 4, _, _, some (1, true)⟩) (v := ?_) rfl (by kernel_rfl) (fun _ _ _ h => h) (Or.inl ⟨by rfl, ?hy7⟩) (Kept.refl _ _).drew ?_
                    case hy7 => (intro W hS; (try dsimp only at hS); go_simp; try with_reducible rfl)
                    try simp only [Act.put, lyA, ly0, ly1]
                    refine Gz.tk (i := 8) (oi := ⟨some 85, .pick (.tmp 78) (.tmp 84) (.const (Value.bool false)), 4, _, _, none⟩) (v := ?_) rfl (by kernel_rfl) (fun _ _ _ h => h) (Or.inl ⟨by rfl, ?hy8⟩) (Kept.refl _ _).drew ?_
                    case hy8 => (intro W hS; (try dsimp only at hS); go_simp; try with_reducible rfl)
                    try simp only [Act.put, lyA, ly0, ly1]
                    refine Gz.tk (i := 9) (oi := ⟨some 86, .move (.tmp 85), 4, _, _, none⟩) (v := ?_) rfl (by kernel_rfl) (fun _ _ _ h => h) (Or.inl ⟨by rfl, ?hy9⟩) (Kept.refl _ _).drew ?_
                    case hy9 => (intro W hS; (try dsimp only at hS); go_simp; try with_reducible rfl)
                    try simp only [Act.put, lyA, ly0, ly1]
                    refine Gz.tk (i := 10) (oi := ⟨some 87, .move (.tmp 10), 3, _, _, some (9, true)⟩) (v := ?_) rfl (by kernel_rfl) (fun _ _ _ h => h) (Or.inl ⟨by rfl, ?hy10⟩) (Kept.refl _ _).drew ?_
                    case hy10 => (intro W hS; (try dsimp only at hS); go_simp; try with_reducible rfl)
                    try simp only [Act.put, lyA, ly0, ly1]
                    refine Gz.tk (i := 11) (oi := ⟨some 88, .binOp BinOp.eql 3 (.tmp 87) (.const (Value.int IntKind.i64 0)) 3, 4, _, _, some (9, true)⟩) (v := ?_) rfl (by kernel_rfl) (fun _ _ _ h => h) (Or.inl ⟨by rfl, ?hy11⟩) (Kept.refl _ _).drew ?_
                    case hy11 => (intro W hS; (try dsimp only at hS); go_simp; try with_reducible rfl)
                    try simp only [Act.put, lyA, ly0, ly1]
                    refine Gz.tk (i := 12) (oi := ⟨some 89, .move (.tmp 88), 4, _, _, some (9, true)⟩) (v := ?_) rfl (by kernel_rfl) (fun _ _ _ h => h) (Or.inl ⟨by rfl, ?hy12⟩) (Kept.refl _ _).drew ?_
                    case hy12 => (intro W hS; (try dsimp only at hS); go_simp; try with_reducible rfl)
                    try simp only [Act.put, lyA, ly0, ly1]
                    refine Gz.tk (i := 13) (oi := ⟨some 90, .fieldAddr 48 (.tmp 5) 2, 0, _, _, some (12, false)⟩) (v := ?_) rfl (by kernel_rfl) (fun _ _ _ h => h) (Or.inl ⟨by rfl, ?hy13⟩) (Kept.refl _ _).drew ?_
                    case hy13 => (intro W hS; (try dsimp only at hS); go_simp; try with_reducible rfl)
                    try simp only [Act.put, lyA, ly0, ly1]
                    refine Gz.tk (i := 14) (oi := ⟨some 91, .load 22 (.tmp 90), 22, _, _, some (12, false)⟩) (v := ?_) rfl (by kernel_rfl) (fun _ _ _ h => h) (Or.inl ⟨by rfl, ?hy14⟩) (Kept.refl _ _).drew ?_
                    case hy14 => (intro W hS; (try dsimp only at hS); go_simp; try with_reducible rfl)
                    try simp only [Act.put, lyA, ly0, ly1]
                    refine Gz.tk (i := 15) (oi := ⟨some 92, .move (.tmp 10), 3, _, _, some (12, false)⟩) (v := ?_) rfl (by kernel_rfl) (fun _ _ _ h => h) (Or.inl ⟨by rfl, ?hy15⟩) (Kept.refl _ _).drew ?_
                    case hy15 => (intro W hS; (try dsimp only at hS); go_simp; try with_reducible rfl)
                    try simp only [Act.put, lyA, ly0, ly1]
                    refine Gz.tk (i := 16) (oi := ⟨some 93, .binOp BinOp.sub 3 (.tmp 92) (.const (Value.int IntKind.i64 1)) 3, 3, _, _, some (12, false)⟩) (v := ?_) rfl (by kernel_rfl) (fun _ _ _ h => h) (Or.inl ⟨by rfl, ?hy16⟩) (Kept.refl _ _).drew ?_
                    case hy16 => (intro W hS; (try dsimp only at hS); go_simp; try with_reducible rfl)
                    try simp only [Act.put, lyA, ly0, ly1]
                    refine Gz.tk (i := 17) (oi := ⟨some 94, .indexAddr 22 (.tmp 91) (.tmp 93), 0, _, _, some (12, false)⟩) (v := ?_) rfl (by kernel_rfl) (fun _ _ _ h => h) (Or.inl ⟨by rfl, ?hy17⟩) (Kept.refl _ _).drew ?_
                    case hy17 => (intro W hS; (try dsimp only at hS); go_simp; try with_reducible rfl)
                    try simp only [Act.put, lyA, ly0, ly1]
                    refine Gz.tk (i := 18) (oi := ⟨some 95, .load 3 (.tmp 94), 3, _, _, some (12, false)⟩) (v := ?_) rfl (by kernel_rfl) (fun _ _ _ h => h) (Or.inl ⟨by rfl, ?hy18⟩) (Kept.refl _ _).drew ?_
                    case hy18 => (intro W hS; (try dsimp only at hS); go_simp; try with_reducible rfl)
                    try simp only [Act.put, lyA, ly0, ly1]
                    refine Gz.tk (i := 19) (oi := ⟨some 96, .fieldAddr 48 (.tmp 5) 2, 0, _, _, some (12, false)⟩) (v := ?_) rfl (by kernel_rfl) (fun _ _ _ h => h) (Or.inl ⟨by rfl, ?hy19⟩) (Kept.refl _ _).drew ?_
                    case hy19 => (intro W hS; (try dsimp only at hS); go_simp; try with_reducible rfl)
                    try simp only [Act.put, lyA, ly0, ly1]
                    refine Gz.tk (i := 20) (oi := ⟨some 97, .load 22 (.tmp 96), 22, _, _, some (12, false)⟩) (v := ?_) rfl (by kernel_rfl) (fun _ _ _ h => h) (Or.inl ⟨by rfl, ?hy20⟩) (Kept.refl _ _).drew ?_
                    case hy20 => (intro W hS; (try dsimp only at hS); go_simp; try with_reducible rfl)
                    try simp only [Act.put, lyA, ly0, ly1]
                    refine Gz.tk (i := 21) (oi := ⟨some 98, .move (.tmp 10), 3, _, _, some (12, false)⟩) (v := ?_) rfl (by kernel_rfl) (fun _ _ _ h => h) (Or.inl ⟨by rfl, ?hy21⟩) (Kept.refl _ _).drew ?_
                    case hy21 => (intro W hS; (try dsimp only at hS); go_simp; try with_reducible rfl)
                    try simp only [Act.put, lyA, ly0, ly1]
                    refine Gz.tk (i := 22) (oi := ⟨some 99, .indexAddr 22 (.tmp 97) (.tmp 98), 0, _, _, some (12, false)⟩) (v := ?_) rfl (by kernel_rfl) (fun _ _ _ h => h) (Or.inl ⟨by rfl, ?hy22⟩) (Kept.refl _ _).drew ?_
                    case hy22 => (intro W hS; (try dsimp only at hS); go_simp; try with_reducible rfl)
                    try simp only [Act.put, lyA, ly0, ly1]
                    refine Gz.tk (i := 23) (oi := ⟨some 100, .load 3 (.tmp 99), 3, _, _, some (12, false)⟩) (v := ?_) rfl (by kernel_rfl) (fun _ _ _ h => h) (Or.inl ⟨by rfl, ?hy23⟩) (Kept.refl _ _).drew ?_
                    case hy23 => (intro W hS; (try dsimp only at hS); go_simp; try with_reducible rfl)
                    try simp only [Act.put, lyA, ly0, ly1]
                    refine Gz.tk (i := 24) (oi := ⟨some 101, .binOp BinOp.lss 3 (.tmp 95) (.tmp 100) 3, 4, _, _, some (12, false)⟩) (v := ?_) rfl (by kernel_rfl) (fun _ _ _ h => h) (Or.inl ⟨by rfl, ?hy24⟩) (Kept.refl _ _).drew ?_
                    case hy24 => (intro W hS; (try dsimp only at hS); go_simp; try with_reducible rfl)
                    try simp only [Act.put, lyA, ly0, ly1]
                    refine Gz.tk (i := 25) (oi := ⟨some 102, .pick (.tmp 89) (.const (Value.bool true)) (.tmp 101), 4, _, _, some (9, true)⟩) (v := ?_) rfl (by kernel_rfl) (fun _ _ _ h => h) (Or.inl ⟨by rfl, ?hy25⟩) (Kept.refl _ _).drew ?_
                    case hy25 => (intro W hS; (try dsimp only at hS); go_simp; try with_reducible rfl)
                    try simp only [Act.put, lyA, ly0, ly1]
                    refine Gz.tk (i := 26) (oi := ⟨some 103, .pick (.tmp 86) (.tmp 102) (.const (Value.bool false)), 4, _, _, none⟩) (v := ?_) rfl (by kernel_rfl) (fun _ _ _ h => h) (Or.inl ⟨by rfl, ?hy26⟩) (Kept.refl _ _).drew ?_
                    case hy26 => (intro W hS; (try dsimp only at hS); go_simp; try with_reducible rfl)
                    try simp only [Act.put, lyA, ly0, ly1]
                    refine Gz.tk (i := 27) (oi := ⟨some 9, .assign (.tmp 103), 4, _, _, none⟩) (v := ?_) rfl (by kernel_rfl) (fun _ _ _ h => h) (Or.inl ⟨by rfl, ?hy27⟩) (Kept.refl _ _).drew ?_
                    case hy27 => (intro W hS; (try dsimp only at hS); go_simp; try with_reducible rfl)
                    try simp only [Act.put, lyA, ly0, ly1]
                    refine Gz.done (by kernel_rfl) ?_ _
                    go_wp2_with fail
                    go_roundw
                    case rel => exact ⟨k' + 1 + 1, by have := HI.out; omega, by go_num, by rw [HB.out]; simp [h3, hg], HKr.out.trans kd⟩
                    case measure => have := HI.out; simp [intOf]; omega
              · have d3 : decide ((ga : Int) < 3) = false := decide_eq_false (by omega)
                go_wp2_with fail
                have kd : Kept (fun _ => True) wr wr.drew := (Kept.refl _ _).drew
                refine Gz.begin (fun W => Kept (fun _ => True) wr W) (fun _ => false) (by kernel_rfl) ?_
                refine Gz.tk (i := 0) (oi := ⟨some 77, .move (.tmp 9), 4, _, _, none⟩) (v := ?_) rfl (by kernel_rfl) (fun _ _ _ h => h) (Or.inl ⟨by rfl, ?hy0⟩) (Kept.refl _ _).drew ?_
                case hy0 => (intro W hS; (try dsimp only at hS); go_simp; try with_reducible rfl)
                try simp only [Act.put, lyA, ly0, ly1]
                refine Gz.tk (i := 1) (oi := ⟨some 78, .move (.tmp 77), 4, _, _, none⟩) (v := ?_) rfl (by kernel_rfl) (fun _ _ _ h => h) (Or.inl ⟨by rfl, ?hy1⟩) (Kept.refl _ _).drew ?_
                case hy1 => (intro W hS; (try dsimp only at hS); go_simp; try with_reducible rfl)
                try simp only [Act.put, lyA, ly0, ly1]
                refine Gz.tk (i := 2) (oi := ⟨some 79, .fieldAddr 48 (.tmp 5) 2, 0, _, _, some (1, true)⟩) (v := ?_) rfl (by kernel_rfl) (fun _ _ _ h => h) (Or.inl ⟨by rfl, ?hy2⟩) (Kept.refl _ _).drew ?_
                case hy2 => (intro W hS; (try dsimp only at hS); go_simp; try with_reducible rfl)
                try simp only [Act.put, lyA, ly0, ly1]
                refine Gz.tk (i := 3) (oi := ⟨some 80, .load 22 (.tmp 79), 22, _, _, some (1, true)⟩) (v := ?_) rfl (by kernel_rfl) (fun _ _ _ h => h) (Or.inl ⟨by rfl, ?hy3⟩) (Kept.refl _ _).drew ?_
                case hy3 => (intro W hS; (try dsimp only at hS); go_simp; try with_reducible rfl)
                try simp only [Act.put, lyA, ly0, ly1]
                refine Gz.tk (i := 4) (oi := ⟨some 81, .move (.tmp 10), 3, _, _, some (1, true)⟩) (v := ?_) rfl (by kernel_rfl) (fun _ _ _ h => h) (Or.inl ⟨by rfl, ?hy4⟩) (Kept.refl _ _).drew ?_
                case hy4 => (intro W hS; (try dsimp only at hS); go_simp; try with_reducible rfl)
                try simp only [Act.put, lyA, ly0, ly1]
                refine Gz.tk (i := 5) (oi := ⟨some 82, .indexAddr 22 (.tmp 80) (.tmp 81), 0, _, _, some (1, true)⟩) (v := ?_) rfl (by kernel_rfl) (fun _ _ _ h => h) (Or.inl ⟨by rfl, ?hy5⟩) (Kept.refl _ _).drew ?_
                case hy5 => (intro W hS; (try dsimp only at hS); go_simp; try with_reducible rfl)
                try simp only [Act.put, lyA, ly0, ly1]
                refine Gz.tk (i := 6) (oi := ⟨some 83, .load 3 (.tmp 82), 3, _, _, some (1, true)⟩) (v := ?_) rfl (by kernel_rfl) (fun _ _ _ h => h) (Or.inl ⟨by rfl, ?hy6⟩) (Kept.refl _ _).drew ?_
                case hy6 => (intro W hS; (try dsimp only at hS); go_simp; try with_reducible rfl)
                try simp only [Act.put, lyA, ly0, ly1]
                refine Gz.tk (i := 7) (oi := ⟨some 84, .binOp BinOp.lss 3 (.tmp 83) (.const (Value.int IntKind.i64 3)) 3, 4, _, _, some (1, true)⟩) (v := ?_) rfl (by kernel_rfl) (fun _ _ _ h => h) (Or.inl ⟨by rfl, ?hy7⟩) (Kept.refl _ _).drew ?_
                case hy7 => (intro W hS; (try dsimp only at hS); go_simp; try with_reducible rfl)
                try simp only [Act.put, lyA, ly0, ly1]
                refine Gz.tk (i := 8) (oi := ⟨some 85, .pick (.tmp 78) (.tmp 84) (.const (Value.bool false)), 4, _, _, none⟩) (v := ?_) rfl (by kernel_rfl) (fun _ _ _ h => h) (Or.inl ⟨by rfl, ?hy8⟩) (Kept.refl _ _).drew ?_
                case hy8 => (intro W hS; (try dsimp only at hS); go_simp; try with_reducible rfl)
                try simp only [Act.put, lyA, ly0, ly1]
                refine Gz.tk (i := 9) (oi := ⟨some 86, .move (.tmp 85), 4, _, _, none⟩) (v := ?_) rfl (by kernel_rfl) (fun _ _ _ h => h) (Or.inl ⟨by rfl, ?hy9⟩) (Kept.refl _ _).drew ?_
                case hy9 => (intro W hS; (try dsimp only at hS); go_simp; try with_reducible rfl)
                try simp only [Act.put, lyA, ly0, ly1]
                refine Gz.tk (i := 10) (oi := ⟨some 87, .move (.tmp 10), 3, _, _, some (9, true)⟩) (v := undef) rfl (by kernel_rfl) (fun _ _ _ h => h) (Or.inr ⟨by rfl, rfl⟩) (Kept.refl _ _).drew ?_
                try simp only [Act.put, lyA, ly0, ly1]
                refine Gz.tk (i := 11) (oi := ⟨some 88, .binOp BinOp.eql 3 (.tmp 87) (.const (Value.int IntKind.i64 0)) 3, 4, _, _, some (9, true)⟩) (v := undef) rfl (by kernel_rfl) (fun _ _ _ h => h) (Or.inr ⟨by rfl, rfl⟩) (Kept.refl _ _).drew ?_
                try simp only [Act.put, lyA, ly0, ly1]
                refine Gz.tk (i := 12) (oi := ⟨some 89, .move (.tmp 88), 4, _, _, some (9, true)⟩) (v := undef) rfl (by kernel_rfl) (fun _ _ _ h => h) (Or.inr ⟨by rfl, rfl⟩) (Kept.refl _ _).drew ?_
                try simp only [Act.put, lyA, ly0, ly1]
                refine Gz.tk (i := 13) (oi := ⟨some 90, .fieldAddr 48 (.tmp 5) 2, 0, _, _, some (12, false)⟩) (v := undef) rfl (by kernel_rfl) (fun _ _ _ h => h) (Or.inr ⟨by rfl, rfl⟩) (Kept.refl _ _).drew ?_
                try simp only [Act.put, lyA, ly0, ly1]
                refine Gz.tk (i := 14) (oi := ⟨some 91, .load 22 (.tmp 90), 22, _, _, some (12, false)⟩) (v := undef) rfl (by kernel_rfl) (fun _ _ _ h => h) (Or.inr ⟨by rfl, rfl⟩) (Kept.refl _ _).drew ?_
                try simp only [Act.put, lyA, ly0, ly1]
                refine Gz.tk (i := 15) (oi := ⟨some 92, .move (.tmp 10), 3, _, _, some (12, false)⟩) (v := undef) rfl (by kernel_rfl) (fun _ _ _ h => h) (Or.inr ⟨by rfl, rfl⟩) (Kept.refl _ _).drew ?_
                try simp only [Act.put, lyA, ly0, ly1]
                refine Gz.tk (i := 16) (oi := ⟨some 93, .binOp BinOp.sub 3 (.tmp 92) (.const (Value.int IntKind.i64 1)) 3, 3, _, _, some (12, false)⟩) (v := undef) rfl (by kernel_rfl) (fun _ _ _ h => h) (Or.inr ⟨by rfl, rfl⟩) (Kept.refl _ _).drew ?_
                try simp only [Act.put, lyA, ly0, ly1]
                refine Gz.tk (i := 17) (oi := ⟨some 94, .indexAddr 22 (.tmp 91) (.tmp 93), 0, _, _, some (12, false)⟩) (v := undef) rfl (by kernel_rfl) (fun _ _ _ h => h) (Or.inr ⟨by rfl, rfl⟩) (Kept.refl _ _).drew ?_
                try simp only [Act.put, lyA, ly0, ly1]
                refine Gz.tk (i := 18) (oi := ⟨some 95, .load 3 (.tmp 94), 3, _, _, some (12, false)⟩) (v := undef) rfl (by kernel_rfl) (fun _ _ _ h => h) (Or.inr ⟨by rfl, rfl⟩) (Kept.refl _ _).drew ?_
                try simp only [Act.put, lyA, ly0, ly1]
                refine Gz.tk (i := 19) (oi := ⟨some 96, .fieldAddr 48 (.tmp 5) 2, 0, _, _, some (12, false)⟩) (v := undef) rfl (by kernel_rfl) (fun _ _ _ h => h) (Or.inr ⟨by rfl, rfl⟩) (Kept.refl _ _).drew ?_
                try simp only [Act.put, lyA, ly0, ly1]
                refine Gz.tk (i := 20) (oi := ⟨some 97, .load 22 (.tmp 96), 22, _, _, some (12, false)⟩) (v := undef) rfl (by kernel_rfl) (fun _ _ _ h => h) (Or.inr ⟨by rfl, rfl⟩) (Kept.refl _ _).drew ?_
                try simp only [Act.put, lyA, ly0, ly1]
                refine Gz.tk (i := 21) (oi := ⟨some 98, .move (.tmp 10), 3, _, _, some (12, false)⟩) (v := undef) rfl (by kernel_rfl) (fun _ _ _ h => h) (Or.inr ⟨by rfl, rfl⟩) (Kept.refl _ _).drew ?_
                try simp only [Act.put, lyA, ly0, ly1]
                refine Gz.tk (i := 22) (oi := ⟨some 99, .indexAddr 22 (.tmp 97) (.tmp 98), 0, _, _, some (12, false)⟩) (v := undef) rfl (by kernel_rfl) (fun _ _ _ h => h) (Or.inr ⟨by rfl, rfl⟩) (Kept.refl _ _).drew ?_
                try simp only [Act.put, lyA, ly0, ly1]
                refine Gz.tk (i := 23) (oi := ⟨some 100, .load 3 (.tmp 99), 3, _, _, some (12, false)⟩) (v := undef) rfl (by kernel_rfl) (fun _ _ _ h => h) (Or.inr ⟨by rfl, rfl⟩) (Kept.refl _ _).drew ?_
                try simp only [Act.put, lyA, ly0, ly1]
                refine Gz.tk (i := 24) (oi := ⟨some 101, .binOp BinOp.lss 3 (.tmp 95) (.tmp 100) 3, 4, _, _, some (12, false)⟩) (v := undef) rfl (by kernel_rfl) (fun _ _ _ h => h) (Or.inr ⟨by rfl, rfl⟩) (Kept.refl _ _).drew ?_
                try simp only [Act.put, lyA, ly0, ly1]
                refine Gz.tk (i := 25) (oi := ⟨some 102, .pick (.tmp 89) (.const (Value.bool true)) (.tmp 101), 4, _, _, some (9, true)⟩) (v := undef) rfl (by kernel_rfl) (fun _ _ _ h => h) (Or.inr ⟨by rfl, rfl⟩) (Kept.refl _ _).drew ?_
                try simp only [Act.put, lyA, ly0, ly1]
                refine Gz.tk (i := 26) (oi := ⟨some 103, .pick (.tmp 86) (.tmp 102) (.const (Value.bool false)), 4, _, _, none⟩) (v := ?_) rfl (by kernel_rfl) (fun _ _ _ h => h) (Or.inl ⟨by rfl, ?hy26⟩) (Kept.refl _ _).drew ?_
                case hy26 => (intro W hS; (try dsimp only at hS); go_simp; try with_reducible rfl)
                try simp only [Act.put, lyA, ly0, ly1]
                refine Gz.tk (i := 27) (oi := ⟨some 9, .assign (.tmp 103), 4, _, _, none⟩) (v := ?_) rfl (by kernel_rfl) (fun _ _ _ h => h) (Or.inl ⟨by rfl, ?hy27⟩) (Kept.refl _ _).drew ?_
                case hy27 => (intro W hS; (try dsimp only at hS); go_simp; try with_reducible rfl)
                try simp only [Act.put, lyA, ly0, ly1]
                refine Gz.done (by kernel_rfl) ?_ _
                go_wp2_with fail
                go_roundw
                case rel => exact ⟨k + 1, by have := HI.out; omega, by go_num, by rw [HB.out]; simp [h3], HKr.out.trans kd⟩
                case measure => have := HI.out; simp [intOf]; omega
          · obtain rfl : k = i := by omega
            have j2 : ¬ ((k : Nat) : Int) < (k : Int) := by omega
            have hall : gi.take k = gi := List.take_of_length_le (by rw [HEL.out]; exact Nat.le_refl _)
            rw [hall]
            clear hlt hk hall
            have hz : w.heap.size ≤ Z := by have := HN.out; omega
            have F11 : Hid (Four4 wr X 48 (.int .i64 (kk : Nat)) (.string ⟨tx.toArray⟩) (.slice ao k c) (.string ⟨db.toArray⟩)) := F10.out.kept HKr.out trivial
            have FZ11 : Hid (Four4 wr Z 48 (.int .i64 0) (.string ⟨#[]⟩) (.slice none 0 0) (.string ⟨#[]⟩)) := FZ10.out.kept HKr.out trivial
            have IT11 : Hid (Its wr w4.heap.size (.slice ao k c) gi) := IT10.out.kept HKr.out (fun _ _ => trivial)
            have K11 : Hid (Kept (fun _ => True) w wr) := K10.out.trans HKr.out
            clear F10 FZ10 IT10 K10 x0 x1 x2 x3 x2A
            obtain ⟨w11, hw11⟩ : ∃ x, x = wr := ⟨_, rfl⟩
            rw [← hw11] at F11 FZ11 IT11 K11 ⊢
            clear hw11
            obtain ⟨x0, x1, x2, x3⟩ := F11.out.cell
            obtain ⟨z0, z1, z2, z3⟩ := FZ11.out.cell
            have zf := FZ11.out.free
            obtain ⟨b, hb0⟩ : ∃ b, b = (ok && upG (-1) gi) := ⟨_, rfl⟩
            rw [← hb0] at HREC2 ⊢
            clear hb0
            cases b
            · have HR : Hid (rec? bs = none) := HREC2.out
              go_wp2_with fail
              refine bodyPost_ret (results_cu rfl _ _ rfl (load_rref ((((FZ11.out.set0 _).set1 _).set2 _).set3 _))) rfl ⟨.inl ⟨HR.out, rfl⟩, ?_⟩
              exact kept_fresh (kept_fresh (kept_fresh (kept_fresh K11.out hz _) hz _) hz _) hz _
            · have HR : Hid (rec? bs = some ⟨kk, tx, gi, db⟩) := HREC2.out
              go_wp2_with fail
              refine bodyPost_ret (results_cu rfl _ _ rfl (load_rref ((((FZ11.out.set0 _).set1 _).set2 _).set3 _))) rfl ⟨.inr ⟨⟨kk, tx, gi, db⟩, ao, c, HR.out, ?_, ?_⟩, ?_⟩
              · unfold Ur.val
                rw [show (⟨kk, tx, gi, db⟩ : Ur).gs.length = k from HEL.out]
                rfl
              · have hne : ∀ x, (Value.slice ao k c).ownBlock = some x → x ≠ Z := fun x hx => by have := (World.ownsRow.lt IT11.out x hx).1; have := HN.out; omega
                show Its _ _ (.slice ao gi.length c) gi
                rw [HEL.out]
                exact World.ownsRow.mono ((((IT11.out.kept kept_set hne).kept kept_set hne).kept kept_set hne).kept kept_set hne) (by have := HN.out; omega)
              · exact kept_fresh (kept_fresh (kept_fresh (kept_fresh K11.out hz _) hz _) hz _) hz _
      case neg =>
        have j0 : ¬ ((n - i : Nat) : Int) > 0 := by omega
        have j1 : ¬ (0 : Int) < ((n - i : Nat) : Int) := by omega
        clear hx HRR hi hlt rc2
        go_upto_region 9 with (go_at_call 47; (with_reducible refine Calls.mono c9 ?_); rintro e w9 ⟨rfl, h9, k9⟩; have F9 : Four4 w9 X 48 (.int .i64 ((rdK bs).1 : Nat)) (.string ⟨(rdX bs).1.toArray⟩) (.slice ao i c) (.string ⟨#[]⟩) := FXr.out.kept k9 (by have := HN.out; omega); obtain ⟨x0, x1, x2, x3⟩ := F9.cell; have xf := F9.free)
        have FX9 : Hid (Four4 (w9.setCell ⟨X, 3, none⟩ (.string ⟨(si.text bs 4000).1.toArray⟩)) X 48 (.int .i64 ((rdK bs).1 : Nat)) (.string ⟨(rdX bs).1.toArray⟩) (.slice ao i c) (.string ⟨(si.text bs 4000).1.toArray⟩)) := F9.set3 _
        have FZ9 : Hid (Four4 (w9.setCell ⟨X, 3, none⟩ (.string ⟨(si.text bs 4000).1.toArray⟩)) Z 48 (.int .i64 0) (.string ⟨#[]⟩) (.slice none 0 0) (.string ⟨#[]⟩)) := (FZr.out.kept k9 (by have := HN.out; omega)).kept kept_set (by have := HN.out; omega)
        have RG9 : Hid (Rg (w9.setCell ⟨X, 3, none⟩ (.string ⟨(si.text bs 4000).1.toArray⟩)) B (some ⟨Z + 1, 0, none⟩) cb bs (si.text bs 4000).2) := h9.kept kept_set (by have := HN.out; omega) (fun ad e _ => by cases e; show Z + 1 ≠ X; have := HN.out; omega)
        have IT9 : Hid (Its (w9.setCell ⟨X, 3, none⟩ (.string ⟨(si.text bs 4000).1.toArray⟩)) w4.heap.size (.slice ao i c) gi) := ((ITr.out.kept k9 (fun x hx => by have := (World.ownsRow.lt ITr.out x hx).1; have := HN.out; omega)).kept kept_set (fun x hx e => by have := (World.ownsRow.lt ITr.out x hx).1; have := HN.out; omega))
        have KW9 : Hid (Kept (fun x => x < w4.heap.size ∧ x ≠ B ∧ x ≠ X) w4 (w9.setCell ⟨X, 3, none⟩ (.string ⟨(si.text bs 4000).1.toArray⟩))) := KWr.out.trans ((k9.mono (fun _ _ h => h.2.1)).then kept_set (fun _ _ h => h.2.2))
        clear x0 x1 x2 x3 xf F9 h9 k9 c9 FXr FZr RGr ITr KWr
        generalize w9.setCell ⟨X, 3, none⟩ (.string ⟨(si.text bs 4000).1.toArray⟩) = w9 at *
        have ce := fend_any RG9.out.rf
        generalize (si.text bs 4000).1 = db at *
        generalize ((si.text bs 4000).2.end_ bs).1 = ee at *
        generalize ((si.text bs 4000).2.end_ bs).2 = ef at *
        generalize (rdK bs).1 = kk at *
        generalize (rdX bs).1 = tx at *
        have KF : Hid (Kept (fun _ => True) w w9) := KW4.out.then KW9.out (fun i hi _ => by have := HN.out; omega)
        clear KW4 KW9 RG9
        go_upto_region 10 with (go_at_call 48; (with_reducible refine Calls.mono ce ?_); rintro e w10 ⟨rfl, n10, rfl⟩)
        have F10 : Hid (Four4 (w9.drewN n10) X 48 (.int .i64 (kk : Nat)) (.string ⟨tx.toArray⟩) (.slice ao i c) (.string ⟨db.toArray⟩)) := FX9.out.kept ((Kept.refl (fun _ => True) _).drewN _) trivial
        have FZ10 : Hid (Four4 (w9.drewN n10) Z 48 (.int .i64 0) (.string ⟨#[]⟩) (.slice none 0 0) (.string ⟨#[]⟩)) := FZ9.out.kept ((Kept.refl (fun _ => True) _).drewN _) trivial
        have IT10 : Hid (Its (w9.drewN n10) w4.heap.size (.slice ao i c) gi) := IT9.out.kept ((Kept.refl (fun _ => True) _).drewN _) (fun _ _ => trivial)
        have K10 : Hid (Kept (fun _ => True) w (w9.drewN n10)) := KF.out.trans ((Kept.refl _ _).drewN _)
        clear ce FX9 FZ9 IT9 KF
        generalize w9.drewN n10 = w10 at *
        obtain ⟨x0, x1, x2, x3⟩ := F10.out.cell
        obtain ⟨ok, hok⟩ : ∃ ok : Bool, ok = (decide (ee = 0) && (if kk = 1 then decide (tx = []) else if kk = 2 ∨ kk = 3 ∨ kk = 4 then decide (tx ≠ []) else false)) := ⟨_, rfl⟩
        have HREC2 : Hid (rec? bs = if (ok && upG (-1) gi) = true then some ⟨kk, tx, gi, db⟩ else none) := by
          show _ = _
          rw [HREC.out, hok]
          unfold fmd
          simp only [Bool.and_eq_true, decide_eq_true_eq, and_assoc]
        clear HREC
        go_cut [9] from 49 to 69 (fun t9 wx => t9 = .bool ok ∧ wx = w10)
        case first =>
          by_cases he : ee = 0
          · subst he
            by_cases k1 : kk = 1
            · subst k1
              by_cases ht : tx = []
              · have hz : tx.isEmpty = true := by simp [ht]
                have : ok = true := by rw [hok]; simp [ht]
                subst this
                clear hok ht
                go_wp2_with fail
                go_meet
                exact ⟨rfl, rfl⟩
              · have hz : tx.isEmpty = false := by simp [ht]
                have : ok = false := by rw [hok]; simp [ht]
                subst this
                clear hok ht
                go_wp2_with fail
                go_meet
                exact ⟨rfl, rfl⟩
            · by_cases k4 : kk = 2 ∨ kk = 3 ∨ kk = 4
              · have g1 : (1 : Int) ≤ (kk : Int) := by omega
                have g2 : (kk : Int) ≥ 1 := by omega
                have g3 : (kk : Int) ≤ 4 := by omega
                have g4 : ((kk : Int) == 1) = false := beq_eq_false_iff_ne.2 (by omega)
                by_cases ht : tx = []
                · have hz : tx.isEmpty = true := by simp [ht]
                  have : ok = false := by rw [hok, if_neg k1, if_pos k4]; simp [ht]
                  subst this
                  clear hok ht k1 k4
                  go_wp2_with fail
                  go_meet
                  exact ⟨rfl, rfl⟩
                · have hz : tx.isEmpty = false := by simp [ht]
                  have : ok = true := by rw [hok, if_neg k1, if_pos k4]; simp [ht]
                  subst this
                  clear hok ht k1 k4
                  go_wp2_with fail
                  go_meet
                  exact ⟨rfl, rfl⟩
              · have : ok = false := by rw [hok, if_neg k1, if_neg k4]; simp
                subst this
                by_cases k0 : kk = 0
                · subst k0
                  clear hok k1 k4
                  go_wp2_with fail
                  go_meet
                  exact ⟨rfl, rfl⟩
                · have g1 : (1 : Int) ≤ (kk : Int) := by omega
                  have g2 : (kk : Int) ≥ 1 := by omega
                  have g3 : ¬ (kk : Int) ≤ 4 := by omega
                  clear hok k0 k1 k4
                  go_wp2_with fail
                  go_meet
                  exact ⟨rfl, rfl⟩
          · have he2 : (ee == 0) = false := beq_eq_false_iff_ne.2 he
            have : ok = false := by rw [hok]; simp [he]
            subst this
            clear hok he
            go_wp2_with fail
            go_meet
            exact ⟨rfl, rfl⟩
        case rest =>
        obtain ⟨rfl, hwc⟩ := hcut
        subst wc
        clear hok
        go_wp2_with fail
        go_loopw [9, 10] (fun t9 t10 wr => ∃ k : Nat, k ≤ i ∧ t10 = .int .i64 k ∧ t9 = .bool (ok && upG (-1) (gi.take k)) ∧ Kept (fun _ => True) w10 wr) (fun _ t _ => i - (intOf t).toNat)
        case atStart => exact ⟨0, Nat.zero_le _, rfl, by simp [upG], Kept.refl _ _⟩
        case round =>
          obtain ⟨k, hk, rfl, rfl, hkr⟩ := hrel
          have HKr : Hid (Kept (fun _ => True) w10 wr) := hkr
          obtain ⟨x0, x1, x2, x3⟩ := (F10.out.kept hkr trivial).cell
          have x2A : ∀ W, Kept (fun _ => True) wr W → W.cell? ⟨X, 2, none⟩ = some (.slice ao i c) := fun W q => (F10.out.kept (hkr.trans q) trivial).cell.2.2.1
          by_cases hlt : k < i
          · have hk2 : k < gi.length := by have := HEL.out; omega
            have IT12 : Hid (Its wr w4.heap.size (.slice ao i c) gi) := IT10.out.kept hkr (fun _ _ => trivial)
            obtain ⟨g, rfl, hc⟩ := IT12.out.at k hk2
            have hcA : ∀ W, Kept (fun _ => True) wr W → W.cell? ⟨g, k, none⟩ = some (.int .i64 (gi[k] : Nat)) := fun W q => (kept_cell q (World.block_lt_of_cell? wr _ hc) trivial).trans hc
            have hup := upG_take hk2
            obtain ⟨gb, hgb, HLP⟩ : ∃ gb, gb = gi[k - 1]'(by omega) ∧ Hid (0 < k → wr.cell? ⟨g, k - 1, none⟩ = some (.int .i64 (gb : Nat))) := ⟨_, rfl, fun h0 => by
              obtain ⟨g', e, h1⟩ := IT12.out.at (k - 1) (by omega)
              injection e with e
              injection e with e
              subst e
              exact h1⟩
            rw [← hgb] at hup
            have HUP : Hid (upG (-1) (gi.take (k + 1)) = _) := hup
            have i0 : (0 : Int) ≤ (k : Int) := by omega
            have i1 : (k : Int) < (i : Int) := by omega
            have HI : Hid (k < i) := hlt
            clear hgb hup
            generalize upG (-1) (gi.take k) = up at *
            generalize gi[k] = ga at *
            clear hk hk2
            obtain ⟨b, hb0⟩ : ∃ b, b = (ok && up) := ⟨_, rfl⟩
            have hi7 : i < 256 := hi6.out
            have HB : Hid ((ok && upG (-1) (gi.take (k + 1))) = (b && (decide (ga < 3) && (decide (k = 0) || decide (gb < ga))))) := by
              show _ = _
              rw [HUP.out, hb0, Bool.and_assoc]
            rw [← hb0]
            clear hb0 HUP
            cases b
            · go_wp2_with fail
              go_quiet (fail)
              go_wp2_with fail
              go_roundw
              case rel => exact ⟨k + 1, by have := HI.out; omega, by go_num, by rw [HB.out]; rfl, HKr.out.trans ((Kept.refl _ _).drewN _)⟩
              case measure => have := HI.out; simp [intOf]; omega
            · by_cases h3 : ga < 3
              · have d3 : (ga : Int) < 3 := by omega
                by_cases hk0 : k = 0
                · subst hk0
                  go_wp2_with fail
                  go_quiet (fail)
                  go_wp2_with fail
                  go_roundw
                  case rel => exact ⟨0 + 1, by have := HI.out; omega, by go_num, by rw [HB.out]; simp [h3], HKr.out.trans ((Kept.refl _ _).drewN _)⟩
                  case measure => have := HI.out; simp [intOf]; omega
                · obtain ⟨k', rfl⟩ : ∃ k', k = k' + 1 := ⟨k - 1, by omega⟩
                  have hc1 := HLP.out (by omega)
                  rw [Nat.add_sub_cancel] at hc1
                  have hc1A : ∀ W, Kept (fun _ => True) wr W → W.cell? ⟨g, k', none⟩ = some (.int .i64 (gb : Nat)) := fun W q => (kept_cell q (World.block_lt_of_cell? wr _ hc1) trivial).trans hc1
                  have hkm : ((k' + 1 : Nat) : Int) - 1 = (k' : Int) := by omega
                  have hke : (((k' + 1 : Nat) : Int) == 0) = false := beq_eq_false_iff_ne.2 (by omega)
                  have j0 : (0 : Int) ≤ (k' : Int) := by omega
                  have j1 : (k' : Int) < (i : Int) := by omega
                  have j2 : k' < i := by omega
                  have j3 : (0 : Int) ≤ (k' : Int) + 1 := by omega
                  have j4 : (k' : Int) + 1 < (i : Int) := by omega
                  have j5 : ((k' : Int) + 1 == 0) = false := beq_eq_false_iff_ne.2 (by omega)
                  have j6 : (k' : Int) + 1 - 1 = (k' : Int) := by omega
                  have j7 : IntKind.i64.wrap (k' : Int) = (k' : Int) := by rw [IntKind.wrap_i64]; omega
                  by_cases hg : gb < ga
                  · have dg : (gb : Int) < (ga : Int) := by omega
                    go_wp2_with fail
                    have kd : Kept (fun _ => True) wr wr.drew := (Kept.refl _ _).drew
                    refine Gz.begin (fun W => Kept (fun _ => True) wr W) (fun _ => false) (by kernel_rfl) ?_
                    refine Gz.tk (i := 0) (oi := ⟨some 77, .move (.tmp 9), 4, _, _, none⟩) (v := ?_) rfl (by kernel_rfl) (fun _ _ _ h => h) (Or.inl ⟨by rfl, ?hy0⟩) (Kept.refl _ _).drew ?_
                    case hy0 => (intro W hS; (try dsimp only at hS); go_simp; try with_reducible rfl)
                    try simp only [Act.put, lyA, ly0, ly1]
                    refine Gz.tk (i := 1) (oi := ⟨some 78, .move (.tmp 77), 4, _, _, none⟩) (v := ?_) rfl (by kernel_rfl) (fun _ _ _ h => h) (Or.inl ⟨by rfl, ?hy1⟩) (Kept.refl _ _).drew ?_
                    case hy1 => (intro W hS; (try dsimp only at hS); go_simp; try with_reducible rfl)
                    try simp only [Act.put, lyA, ly0, ly1]
                    refine Gz.tk (i := 2) (oi := ⟨some 79, .fieldAddr 48 (.tmp 5) 2, 0, _, _, some (1, true)⟩) (v := ?_) rfl (by kernel_rfl) (fun _ _ _ h => h) (Or.inl ⟨by rfl, ?hy2⟩) (Kept.refl _ _).drew ?_
                    case hy2 => (intro W hS; (try dsimp only at hS); go_simp; try with_reducible rfl)
                    try simp only [Act.put, lyA, ly0, ly1]
                    refine Gz.tk (i := 3) (oi := ⟨some 80, .load 22 (.tmp 79), 22, _, _, some (1, true)⟩) (v := ?_) rfl (by kernel_rfl) (fun _ _ _ h => h) (Or.inl ⟨by rfl, ?hy3⟩) (Kept.refl _ _).drew ?_
                    case hy3 => (intro W hS; (try dsimp only at hS); go_simp; try with_reducible rfl)
                    try simp only [Act.put, lyA, ly0, ly1]
                    refine Gz.tk (i := 4) (oi := ⟨some 81, .move (.tmp 10), 3, _, _, some (1, true)⟩) (v := ?_) rfl (by kernel_rfl) (fun _ _ _ h => h) (Or.inl ⟨by rfl, ?hy4⟩) (Kept.refl _ _).drew ?_
                    case hy4 => (intro W hS; (try dsimp only at hS); go_simp; try with_reducible rfl)
                    try simp only [Act.put, lyA, ly0, ly1]
                    refine Gz.tk (i := 5) (oi := ⟨some 82, .indexAddr 22 (.tmp 80) (.tmp 81), 0, _, _, some (1, true)⟩) (v := ?_) rfl (by kernel_rfl) (fun _ _ _ h => h) (Or.inl ⟨by rfl, ?hy5⟩) (Kept.refl _ _).drew ?_
                    case hy5 => (intro W hS; (try dsimp only at hS); go_simp; try with_reducible rfl)
                    try simp only [Act.put, lyA, ly0, ly1]
                    refine Gz.tk (i := 6) (oi := ⟨some 83, .load 3 (.tmp 82), 3, _, _, some (1, true)⟩) (v := ?_) rfl (by kernel_rfl) (fun _ _ _ h => h) (Or.inl ⟨by rfl, ?hy6⟩) (Kept.refl _ _).drew ?_
                    case hy6 => (intro W hS; (try dsimp only at hS); go_simp; try with_reducible rfl)
                    try simp only [Act.put, lyA, ly0, ly1]
                    refine Gz.tk (i := 7) (oi := ⟨some 84, .binOp BinOp.lss 3 (.tmp 83) (.const (Value.int IntKind.i64 3)) 3, 4, _, _, some (1, true)⟩) (v := ?_) rfl (by kernel_rfl) (fun _ _ _ h => h) (Or.inl ⟨by rfl, ?hy7⟩) (Kept.refl _ _).drew ?_
                    case hy7 => (intro W hS; (try dsimp only at hS); go_simp; try with_reducible rfl)
                    try simp only [Act.put, lyA, ly0, ly1]
                    refine Gz.tk (i := 8) (oi := ⟨some 85, .pick (.tmp 78) (.tmp 84) (.const (Value.bool false)), 4, _, _, none⟩) (v := ?_) rfl (by kernel_rfl) (fun _ _ _ h => h) (Or.inl ⟨by rfl, ?hy8⟩) (Kept.refl _ _).drew ?_
                    case hy8 => (intro W hS; (try dsimp only at hS); go_simp; try with_reducible rfl)
                    try simp only [Act.put, lyA, ly0, ly1]
                    refine Gz.tk (i := 9) (oi := ⟨some 86, .move (.tmp 85), 4, _, _, none⟩) (v := ?_) rfl (by kernel_rfl) (fun _ _ _ h => h) (Or.inl ⟨by rfl, ?hy9⟩) (Kept.refl _ _).drew ?_
                    case hy9 => (intro W hS; (try dsimp only at hS); go_simp; try with_reducible rfl)
                    try simp only [Act.put, lyA, ly0, ly1]
                    refine Gz.tk (i := 10) (oi := ⟨some 87, .move (.tmp 10), 3, _, _, some (9, true)⟩) (v := ?_) rfl (by kernel_rfl) (fun _ _ _ h => h) (Or.inl ⟨by rfl, ?hy10⟩) (Kept.refl _ _).drew ?_
                    case hy10 => (intro W hS; (try dsimp only at hS); go_simp; try with_reducible rfl)
                    try simp only [Act.put, lyA, ly0, ly1]
                    refine Gz.tk (i := 11) (oi := ⟨some 88, .binOp BinOp.eql 3 (.tmp 87) (.const (Value.int IntKind.i64 0)) 3, 4, _, _, some (9, true)⟩) (v := ?_) rfl (by kernel_rfl) (fun _ _ _ h => h) (Or.inl ⟨by rfl, ?hy11⟩) (Kept.refl _ _).drew ?_
                    case hy11 => (intro W hS; (try dsimp only at hS); go_simp; try with_reducible rfl)
                    try simp only [Act.put, lyA, ly0, ly1]
                    refine Gz.tk (i := 12) (oi := ⟨some 89, .move (.tmp 88), 4, _, _, some (9, true)⟩) (v := ?_) rfl (by kernel_rfl) (fun _ _ _ h => h) (Or.inl ⟨by rfl, ?hy12⟩) (Kept.refl _ _).drew ?_
                    case hy12 => (intro W hS; (try dsimp only at hS); go_simp; try with_reducible rfl)
                    try simp only [Act.put, lyA, ly0, ly1]
                    refine Gz.tk (i := 13) (oi := ⟨some 90, .fieldAddr 48 (.tmp 5) 2, 0, _, _, some (12, false)⟩) (v := ?_) rfl (by kernel_rfl) (fun _ _ _ h => h) (Or.inl ⟨by rfl, ?hy13⟩) (Kept.refl _ _).drew ?_
                    case hy13 => (intro W hS; (try dsimp only at hS); go_simp; try with_reducible rfl)
                    try simp only [Act.put, lyA, ly0, ly1]
                    refine Gz.tk (i := 14) (oi := ⟨some 91, .load 22 (.tmp 90), 22, _, _, some (12, false)⟩) (v := ?_) rfl (by kernel_rfl) (fun _ _ _ h => h) (Or.inl ⟨by rfl, ?hy14⟩) (Kept.refl _ _).drew ?_
                    case hy14 => (intro W hS; (try dsimp only at hS); go_simp; try with_reducible rfl)
                    try simp only [Act.put, lyA, ly0, ly1]
                    refine Gz.tk (i := 15) (oi := ⟨some 92, .move (.tmp 10), 3, _, _, some (12, false)⟩) (v := ?_) rfl (by kernel_rfl) (fun _ _ _ h => h) (Or.inl ⟨by rfl, ?hy15⟩) (Kept.refl _ _).drew ?_
                    case hy15 => (intro W hS; (try dsimp only at hS); go_simp; try with_reducible rfl)
                    try simp only [Act.put, lyA, ly0, ly1]
                    refine Gz.tk (i := 16) (oi := ⟨some 93, .binOp BinOp.sub 3 (.tmp 92) (.const (Value.int IntKind.i64 1)) 3, 3, _, _, some (12, false)⟩) (v := ?_) rfl (by kernel_rfl) (fun _ _ _ h => h) (Or.inl ⟨by rfl, ?hy16⟩) (Kept.refl _ _).drew ?_
                    case hy16 => (intro W hS; (try dsimp only at hS); go_simp; try with_reducible rfl)
                    try simp only [Act.put, lyA, ly0, ly1]
                    refine Gz.tk (i := 17) (oi := ⟨some 94, .indexAddr 22 (.tmp 91) (.tmp 93), 0, _, _, some (12, false)⟩) (v := ?_) rfl (by kernel_rfl) (fun _ _ _ h => h) (Or.inl ⟨by rfl, ?hy17⟩) (Kept.refl _ _).drew ?_
                    case hy17 => (intro W hS; (try dsimp only at hS); go_simp; try with_reducible rfl)
                    try simp only [Act.put, lyA, ly0, ly1]
                    refine Gz.tk (i := 18) (oi := ⟨some 95, .load 3 (.tmp 94), 3, _, _, some (12, false)⟩) (v := ?_) rfl (by kernel_rfl) (fun _ _ _ h => h) (Or.inl ⟨by rfl, ?hy18⟩) (Kept.refl _ _).drew ?_
                    case hy18 => (intro W hS; (try dsimp only at hS); go_simp; try with_reducible rfl)
                    try simp only [Act.put, lyA, ly0, ly1]
                    refine Gz.tk (i := 19) (oi := ⟨some 96, .fieldAddr 48 (.tmp 5) 2, 0, _, _, some (12, false)⟩) (v := ?_) rfl (by kernel_rfl) (fun _ _ _ h => h) (Or.inl ⟨by rfl, ?hy19⟩) (Kept.refl _ _).drew ?_
                    case hy19 => (intro W hS; (try dsimp only at hS); go_simp; try with_reducible rfl)
                    try simp only [Act.put, lyA, ly0, ly1]
                    refine Gz.tk (i := 20) (oi := ⟨some 97, .load 22 (.tmp 96), 22, _, _, some (12, false)⟩) (v := ?_) rfl (by kernel_rfl) (fun _ _ _ h => h) (Or.inl ⟨by rfl, ?hy20⟩) (Kept.refl _ _).drew ?_
                    case hy20 => (intro W hS; (try dsimp only at hS); go_simp; try with_reducible rfl)
                    try simp only [Act.put, lyA, ly0, ly1]
                    refine Gz.tk (i := 21) (oi := ⟨some 98, .move (.tmp 10), 3, _, _, some (12, false)⟩) (v := ?_) rfl (by kernel_rfl) (fun _ _ _ h => h) (Or.inl ⟨by rfl, ?hy21⟩) (Kept.refl _ _).drew ?_
                    case hy21 => (intro W hS; (try dsimp only at hS); go_simp; try with_reducible rfl)
                    try simp only [Act.put, lyA, ly0, ly1]
                    refine Gz.tk (i := 22) (oi := ⟨some 99, .indexAddr 22 (.tmp 97) (.tmp 98), 0, _, _, some (12, false)⟩) (v := ?_) rfl (by kernel_rfl) (fun _ _ _ h => h) (Or.inl ⟨by rfl, ?hy22⟩) (Kept.refl _ _).drew ?_
                    case hy22 => (intro W hS; (try dsimp only at hS); go_simp; try with_reducible rfl)
                    try simp only [Act.put, lyA, ly0, ly1]
                    refine Gz.tk (i := 23) (oi := ⟨some 100, .load 3 (.tmp 99), 3, _, _, some (12, false)⟩) (v := ?_) rfl (by kernel_rfl) (fun _ _ _ h => h) (Or.inl ⟨by rfl, ?hy23⟩) (Kept.refl _ _).drew ?_
                    case hy23 => (intro W hS; (try dsimp only at hS); go_simp; try with_reducible rfl)
                    try simp only [Act.put, lyA, ly0, ly1]
                    refine Gz.tk (i := 24) (oi := ⟨some 101, .binOp BinOp.lss 3 (.tmp 95) (.tmp 100) 3, 4, _, _, some (12, false)⟩) (v := ?_) rfl (by kernel_rfl) (fun _ _ _ h => h) (Or.inl ⟨by rfl, ?hy24⟩) (Kept.refl _ _).drew ?_
                    case hy24 => (intro W hS; (try dsimp only at hS); go_simp; try with_reducible rfl)
                    try simp only [Act.put, lyA, ly0, ly1]
                    refine Gz.tk (i := 25) (oi := ⟨some 102, .pick (.tmp 89) (.const (Value.bool true)) (.tmp 101), 4, _, _, some (9, true)⟩) (v := ?_) rfl (by kernel_rfl) (fun _ _ _ h => h) (Or.inl ⟨by rfl, ?hy25⟩) (Kept.refl _ _).drew ?_
                    case hy25 => (intro W hS; (try dsimp only at hS); go_simp; try with_reducible rfl)
                    try simp only [Act.put, lyA, ly0, ly1]
                    refine Gz.tk (i := 26) (oi := ⟨some 103, .pick (.tmp 86) (.tmp 102) (.const (Value.bool false)), 4, _, _, none⟩) (v := ?_) rfl (by kernel_rfl) (fun _ _ _ h => h) (Or.inl ⟨by rfl, ?hy26⟩) (Kept.refl _ _).drew ?_
                    case hy26 => (intro W hS; (try dsimp only at hS); go_simp; try with_reducible rfl)
                    try simp only [Act.put, lyA, ly0, ly1]
                    refine Gz.tk (i := 27) (oi := ⟨some 9, .assign (.tmp 103), 4, _, _, none⟩) (v := ?_) rfl (by kernel_rfl) (fun _ _ _ h => h) (Or.inl ⟨by rfl, ?hy27⟩) (Kept.refl _ _).drew ?_
                    case hy27 => (intro W hS; (try dsimp only at hS); go_simp; try with_reducible rfl)
                    try simp only [Act.put, lyA, ly0, ly1]
                    refine Gz.done (by kernel_rfl) ?_ _
                    go_wp2_with fail
                    go_roundw
                    case rel => exact ⟨k' + 1 + 1, by have := HI.out; omega, by go_num, by rw [HB.out]; simp [h3, hg], HKr.out.trans kd⟩
                    case measure => have := HI.out; simp [intOf]; omega
                  · have dg : decide ((gb : Int) < (ga : Int)) = false := decide_eq_false (by omega)
                    go_wp2_with fail
                    have kd : Kept (fun _ => True) wr wr.drew := (Kept.refl _ _).drew
                    refine Gz.begin (fun W => Kept (fun _ => True) wr W) (fun _ => false) (by kernel_rfl) ?_
                    refine Gz.tk (i := 0) (oi := ⟨some 77, .move (.tmp 9), 4, _, _, none⟩) (v := ?_) rfl (by kernel_rfl) (fun _ _ _ h => h) (Or.inl ⟨by rfl, ?hy0⟩) (Kept.refl _ _).drew ?_
                    case hy0 => (intro W hS; (try dsimp only at hS); go_simp; try with_reducible rfl)
                    try simp only [Act.put, lyA, ly0, ly1]
                    refine Gz.tk (i := 1) (oi := ⟨some 78, .move (.tmp 77), 4, _, _, none⟩) (v := ?_) rfl (by kernel_rfl) (fun _ _ _ h => h) (Or.inl ⟨by rfl, ?hy1⟩) (Kept.refl _ _).drew ?_
                    case hy1 => (intro W hS; (try dsimp only at hS); go_simp; try with_reducible rfl)
                    try simp only [Act.put, lyA, ly0, ly1]
                    refine Gz.tk (i := 2) (oi := ⟨some 79, .fieldAddr 48 (.tmp 5) 2, 0, _, _, some (1, true)⟩) (v := ?_) rfl (by kernel_rfl) (fun _ _ _ h => h) (Or.inl ⟨by rfl, ?hy2⟩) (Kept.refl _ _).drew ?_
                    case hy2 => (intro W hS; (try dsimp only at hS); go_simp; try with_reducible rfl)
                    try simp only [Act.put, lyA, ly0, ly1]
                    refine Gz.tk (i := 3) (oi := ⟨some 80, .load 22 (.tmp 79), 22, _, _, some (1, true)⟩) (v := ?_) rfl (by kernel_rfl) (fun _ _ _ h => h) (Or.inl ⟨by rfl, ?hy3⟩) (Kept.refl _ _).drew ?_
                    case hy3 => (intro W hS; (try dsimp only at hS); go_simp; try with_reducible rfl)
                    try simp only [Act.put, lyA, ly0, ly1]
                    refine Gz.tk (i := 4) (oi := ⟨some 81, .move (.tmp 10), 3, _, _, some (1, true)⟩) (v := ?_) rfl (by kernel_rfl) (fun _ _ _ h => h) (Or.inl ⟨by rfl, ?hy4⟩) (Kept.refl _ _).drew ?_
                    case hy4 => (intro W hS; (try dsimp only at hS); go_simp; try with_reducible rfl)
                    try simp only [Act.put, lyA, ly0, ly1]
                    refine Gz.tk (i := 5) (oi := ⟨some 82, .indexAddr 22 (.tmp 80) (.tmp 81), 0, _, _, some (1, true)⟩) (v := ?_) rfl (by kernel_rfl) (fun _ _ _ h => h) (Or.inl ⟨by rfl, ?hy5⟩) (Kept.refl _ _).drew ?_
                    case hy5 => (intro W hS; (try dsimp only at hS); go_simp; try with_reducible rfl)
                    try simp only [Act.put, lyA, ly0, ly1]
                    refine Gz.tk (i := 6) (oi := ⟨some 83, .load 3 (.tmp 82), 3, _, _, some (1, true)⟩) (v := ?_) rfl (by kernel_rfl) (fun _ _ _ h => h) (Or.inl ⟨by rfl, ?hy6⟩) (Kept.refl _ _).drew ?_
                    case hy6 => (intro W hS; (try dsimp only at hS); go_simp; try with_reducible rfl)
                    try simp only [Act.put, lyA, ly0, ly1]
                    refine Gz.tk (i := 7) (oi := ⟨some 84, .binOp BinOp.lss 3 (.tmp 83) (.const (Value.int IntKind.i64 3)) 3, 4, _, _, some (1, true)⟩) (v := ?_) rfl (by kernel_rfl) (fun _ _ _ h => h) (Or.inl ⟨by rfl, ?hy7⟩) (Kept.refl _ _).drew ?_
                    case hy7 => (intro W hS; (try dsimp only at hS); go_simp; try with_reducible rfl)
                    try simp only [Act.put, lyA, ly0, ly1]
                    refine Gz.tk (i := 8) (oi := ⟨some 85, .pick (.tmp 78) (.tmp 84) (.const (Value.bool false)), 4, _, _, none⟩) (v := ?_) rfl (by kernel_rfl) (fun _ _ _ h => h) (Or.inl ⟨by rfl, ?hy8⟩) (Kept.refl _ _).drew ?_
                    case hy8 => (intro W hS; (try dsimp only at hS); go_simp; try with_reducible rfl)
                    try simp only [Act.put, lyA, ly0, ly1]
                    refine Gz.tk (i := 9) (oi := ⟨some 86, .move (.tmp 85), 4, _, _, none⟩) (v := ?_) rfl (by kernel_rfl) (fun _ _ _ h => h) (Or.inl ⟨by rfl, ?hy9⟩) (Kept.refl _ _).drew ?_
                    case hy9 => (intro W hS; (try dsimp only at hS); go_simp; try with_reducible rfl)
                    try simp only [Act.put, lyA, ly0, ly1]
                    refine Gz.tk (i := 10) (oi := ⟨some 87, .move (.tmp 10), 3, _, _, some (9, true)⟩) (v := ?_) rfl (by kernel_rfl) (fun _ _ _ h => h) (Or.inl ⟨by rfl, ?hy10⟩) (Kept.refl _ _).drew ?_
                    case hy10 => (intro W hS; (try dsimp only at hS); go_simp; try with_reducible rfl)
                    try simp only [Act.put, lyA, ly0, ly1]
                    refine Gz.tk (i := 11) (oi := ⟨some 88, .binOp BinOp.eql 3 (.tmp 87) (.const (Value.int IntKind.i64 0)) 3, 4, _, _, some (9, true)⟩) (v := ?_) rfl (by kernel_rfl) (fun _ _ _ h => h) (Or.inl ⟨by rfl, ?hy11⟩) (Kept.refl _ _).drew ?_
                    case hy11 => (intro W hS; (try dsimp only at hS); go_simp; try with_reducible rfl)
                    try simp only [Act.put, lyA, ly0, ly1]
                    refine Gz.tk (i := 12) (oi := ⟨some 89, .move (.tmp 88), 4, _, _, some (9, true)⟩) (v := ?_) rfl (by kernel_rfl) (fun _ _ _ h => h) (Or.inl ⟨by rfl, ?hy12⟩) (Kept.refl _ _).drew ?_
                    case hy12 => (intro W hS; (try dsimp only at hS); go_simp; try with_reducible rfl)
                    try simp only [Act.put, lyA, ly0, ly1]
                    refine Gz.tk (i := 13) (oi := ⟨some 90, .fieldAddr 48 (.tmp 5) 2, 0, _, _, some (12, false)⟩) (v := ?_) rfl (by kernel_rfl) (fun _ _ _ h => h) (Or.inl ⟨by rfl, ?hy13⟩) (Kept.refl _ _).drew ?_
                    case hy13 => (intro W hS; (try dsimp only at hS); go_simp; try with_reducible rfl)
                    try simp only [Act.put, lyA, ly0, ly1]
                    refine Gz.tk (i := 14) (oi := ⟨some 91, .load 22 (.tmp 90), 22, _, _, some (12, false)⟩) (v := ?_) rfl (by kernel_rfl) (fun _ _ _ h => h) (Or.inl ⟨by rfl, ?hy14⟩) (Kept.refl _ _).drew ?_
                    case hy14 => (intro W hS; (try dsimp only at hS); go_simp; try with_reducible rfl)
                    try simp only [Act.put, lyA, ly0, ly1]
                    refine Gz.tk (i := 15) (oi := ⟨some 92, .move (.tmp 10), 3, _, _, some (12, false)⟩) (v := ?_) rfl (by kernel_rfl) (fun _ _ _ h => h) (Or.inl ⟨by rfl, ?hy15⟩) (Kept.refl _ _).drew ?_
                    case hy15 => (intro W hS; (try dsimp only at hS); go_simp; try with_reducible rfl)
                    try simp only [Act.put, lyA, ly0, ly1]
                    refine Gz.tk (i := 16) (oi := ⟨some 93, .binOp BinOp.sub 3 (.tmp 92) (.const (Value.int IntKind.i64 1)) 3, 3, _, _, some (12, false)⟩) (v := ?_) rfl (by kernel_rfl) (fun _ _ _ h => h) (Or.inl ⟨by rfl, ?hy16⟩) (Kept.refl _ _).drew ?_
                    case hy16 => (intro W hS; (try dsimp only at hS); go_simp; try with_reducible rfl)
                    try simp only [Act.put, lyA, ly0, ly1]
                    refine Gz.tk (i := 17) (oi := ⟨some 94, .indexAddr 22 (.tmp 91) (.tmp 93), 0, _, _, some (12, false)⟩) (v := ?_) rfl (by kernel_rfl) (fun _ _ _ h => h) (Or.inl ⟨by rfl, ?hy17⟩) (Kept.refl _ _).drew ?_
                    case hy17 => (intro W hS; (try dsimp only at hS); go_simp; try with_reducible rfl)
                    try simp only [Act.put, lyA, ly0, ly1]
                    refine Gz.tk (i := 18) (oi := ⟨some 95, .load 3 (.tmp 94), 3, _, _, some (12, false)⟩) (v := ?_) rfl (by kernel_rfl) (fun _ _ _ h => h) (Or.inl ⟨by rfl, ?hy18⟩) (Kept.refl _ _).drew ?_
                    case hy18 => (intro W hS; (try dsimp only at hS); go_simp; try with_reducible rfl)
                    try simp only [Act.put, lyA, ly0, ly1]
                    refine Gz.tk (i := 19) (oi := ⟨some 96, .fieldAddr 48 (.tmp 5) 2, 0, _, _, some (12, false)⟩) (v := ?_) rfl (by kernel_rfl) (fun _ _ _ h => h) (Or.inl ⟨by rfl, ?hy19⟩) (Kept.refl _ _).drew ?_
                    case hy19 => (intro W hS; (try dsimp only at hS); go_simp; try with_reducible rfl)
                    try simp only [Act.put, lyA, ly0, ly1]
                    refine Gz.tk (i := 20) (oi := ⟨some 97, .load 22 (.tmp 96), 22, _, _, some (12, false)⟩) (v := ?_) rfl (by kernel_rfl) (fun _ _ _ h => h) (Or.inl ⟨by rfl, ?hy20⟩) (Kept.refl _ _).drew ?_
                    case hy20 => (intro W hS; (try dsimp only at hS); go_simp; try with_reducible rfl)
                    try simp only [Act.put, lyA, ly0, ly1]
                    refine Gz.tk (i := 21) (oi := ⟨some 98, .move (.tmp 10), 3, _, _, some (12, false)⟩) (v := ?_) rfl (by kernel_rfl) (fun _ _ _ h => h) (Or.inl ⟨by rfl, ?hy21⟩) (Kept.refl _ _).drew ?_
                    case hy21 => (intro W hS; (try dsimp only at hS); go_simp; try with_reducible rfl)
                    try simp only [Act.put, lyA, ly0, ly1]
                    refine Gz.tk (i := 22) (oi := ⟨some 99, .indexAddr 22 (.tmp 97) (.tmp 98), 0, _, _, some (12, false)⟩) (v := ?_) rfl (by kernel_rfl) (fun _ _ _ h => h) (Or.inl ⟨by rfl, ?hy22⟩) (Kept.refl _ _).drew ?_
                    case hy22 => (intro W hS; (try dsimp only at hS); go_simp; try with_reducible rfl)
                    try simp only [Act.put, lyA, ly0, ly1]
                    refine Gz.tk (i := 23) (oi := ⟨some 100, .load 3 (.tmp 99), 3, _, _, some (12, false)⟩) (v := ?_) rfl (by kernel_rfl) (fun _ _ _ h => h) (Or.inl ⟨by rfl, ?hy23⟩) (Kept.refl _ _).drew ?_
                    case hy23 => (intro W hS; (try dsimp only at hS); go_simp; try with_reducible rfl)
                    try simp only [Act.put, lyA, ly0, ly1]
                    refine Gz.tk (i := 24) (oi := ⟨some 101, .binOp BinOp.lss 3 (.tmp 95) (.tmp 100) 3, 4, _, _, some (12, false)⟩) (v := ?_) rfl (by kernel_rfl) (fun _ _ _ h => h) (Or.inl ⟨by rfl, ?hy24⟩) (Kept.refl _ _).drew ?_
                    case hy24 => (intro W hS; (try dsimp only at hS); go_simp; try with_reducible rfl)
                    try simp only [Act.put, lyA, ly0, ly1]
                    refine Gz.tk (i := 25) (oi := ⟨some 102, .pick (.tmp 89) (.const (Value.bool true)) (.tmp 101), 4, _, _, some (9, true)⟩) (v := ?_) rfl (by kernel_rfl) (fun _ _ _ h => h) (Or.inl ⟨by rfl, ?hy25⟩) (Kept.refl _ _).drew ?_
                    case hy25 => (intro W hS; (try dsimp only at hS); go_simp; try with_reducible rfl)
                    try simp only [Act.put, lyA, ly0, ly1]
                    refine Gz.tk (i := 26) (oi := ⟨some 103, .pick (.tmp 86) (.tmp 102) (.const (Value.bool false)), 4, _, _, none⟩) (v := ?_) rfl (by kernel_rfl) (fun _ _ _ h => h) (Or.inl ⟨by rfl, ?hy26⟩) (Kept.refl _ _).drew ?_
                    case hy26 => (intro W hS; (try dsimp only at hS); go_simp; try with_reducible rfl)
                    try simp only [Act.put, lyA, ly0, ly1]
                    refine Gz.tk (i := 27) (oi := ⟨some 9, .assign (.tmp 103), 4, _, _, none⟩) (v := ?_) rfl (by kernel_rfl) (fun _ _ _ h => h) (Or.inl ⟨by rfl, ?hy27⟩) (Kept.refl _ _).drew ?_
                    case hy27 => (intro W hS; (try dsimp only at hS); go_simp; try with_reducible rfl)
                    try simp only [Act.put, lyA, ly0, ly1]
                    refine Gz.done (by kernel_rfl) ?_ _
                    go_wp2_with fail
                    go_roundw
                    case rel => exact ⟨k' + 1 + 1, by have := HI.out; omega, by go_num, by rw [HB.out]; simp [h3, hg], HKr.out.trans kd⟩
                    case measure => have := HI.out; simp [intOf]; omega
              · have d3 : decide ((ga : Int) < 3) = false := decide_eq_false (by omega)
                go_wp2_with fail
                have kd : Kept (fun _ => True) wr wr.drew := (Kept.refl _ _).drew
                refine Gz.begin (fun W => Kept (fun _ => True) wr W) (fun _ => false) (by kernel_rfl) ?_
                refine Gz.tk (i := 0) (oi := ⟨some 77, .move (.tmp 9), 4, _, _, none⟩) (v := ?_) rfl (by kernel_rfl) (fun _ _ _ h => h) (Or.inl ⟨by rfl, ?hy0⟩) (Kept.refl _ _).drew ?_
                case hy0 => (intro W hS; (try dsimp only at hS); go_simp; try with_reducible rfl)
                try simp only [Act.put, lyA, ly0, ly1]
                refine Gz.tk (i := 1) (oi := ⟨some 78, .move (.tmp 77), 4, _, _, none⟩) (v := ?_) rfl (by kernel_rfl) (fun _ _ _ h => h) (Or.inl ⟨by rfl, ?hy1⟩) (Kept.refl _ _).drew ?_
                case hy1 => (intro W hS; (try dsimp only at hS); go_simp; try with_reducible rfl)
                try simp only [Act.put, lyA, ly0, ly1]
                refine Gz.tk (i := 2) (oi := ⟨some 79, .fieldAddr 48 (.tmp 5) 2, 0, _, _, some (1, true)⟩) (v := ?_) rfl (by kernel_rfl) (fun _ _ _ h => h) (Or.inl ⟨by rfl, ?hy2⟩) (Kept.refl _ _).drew ?_
                case hy2 => (intro W hS; (try dsimp only at hS); go_simp; try with_reducible rfl)
                try simp only [Act.put, lyA, ly0, ly1]
                refine Gz.tk (i := 3) (oi := ⟨some 80, .load 22 (.tmp 79), 22, _, _, some (1, true)⟩) (v := ?_) rfl (by kernel_rfl) (fun _ _ _ h => h) (Or.inl ⟨by rfl, ?hy3⟩) (Kept.refl _ _).drew ?_
                case hy3 => (intro W hS; (try dsimp only at hS); go_simp; try with_reducible rfl)
                try simp only [Act.put, lyA, ly0, ly1]
                refine Gz.tk (i := 4) (oi := ⟨some 81, .move (.tmp 10), 3, _, _, some (1, true)⟩) (v := ?_) rfl (by kernel_rfl) (fun _ _ _ h => h) (Or.inl ⟨by rfl, ?hy4⟩) (Kept.refl _ _).drew ?_
                case hy4 => (intro W hS; (try dsimp only at hS); go_simp; try with_reducible rfl)
                try simp only [Act.put, lyA, ly0, ly1]
                refine Gz.tk (i := 5) (oi := ⟨some 82, .indexAddr 22 (.tmp 80) (.tmp 81), 0, _, _, some (1, true)⟩) (v := ?_) rfl (by kernel_rfl) (fun _ _ _ h => h) (Or.inl ⟨by rfl, ?hy5⟩) (Kept.refl _ _).drew ?_
                case hy5 => (intro W hS; (try dsimp only at hS); go_simp; try with_reducible rfl)
                try simp only [Act.put, lyA, ly0, ly1]
                refine Gz.tk (i := 6) (oi := ⟨some 83, .load 3 (.tmp 82), 3, _, _, some (1, true)⟩) (v := ?_) rfl (by kernel_rfl) (fun _ _ _ h => h) (Or.inl ⟨by rfl, ?hy6⟩) (Kept.refl _ _).drew ?_
                case hy6 => (intro W hS; (try dsimp only at hS); go_simp; try with_reducible rfl)
                try simp only [Act.put, lyA, ly0, ly1]
                refine Gz.tk (i := 7) (oi := ⟨some 84, .binOp BinOp.lss 3 (.tmp 83) (.const (Value.int IntKind.i64 3)) 3, 4, _, _, some (1, true)⟩) (v := ?_) rfl (by kernel_rfl) (fun _ _ _ h => h) (Or.inl ⟨by rfl, ?hy7⟩) (Kept.refl _ _).drew ?_
                case hy7 => (intro W hS; (try dsimp only at hS); go_simp; try with_reducible rfl)
                try simp only [Act.put, lyA, ly0, ly1]
                refine Gz.tk (i := 8) (oi := ⟨some 85, .pick (.tmp 78) (.tmp 84) (.const (Value.bool false)), 4, _, _, none⟩) (v := ?_) rfl (by kernel_rfl) (fun _ _ _ h => h) (Or.inl ⟨by rfl, ?hy8⟩) (Kept.refl _ _).drew ?_
                case hy8 => (intro W hS; (try dsimp only at hS); go_simp; try with_reducible rfl)
                try simp only [Act.put, lyA, ly0, ly1]
                refine Gz.tk (i := 9) (oi := ⟨some 86, .move (.tmp 85), 4, _, _, none⟩) (v := ?_) rfl (by kernel_rfl) (fun _ _ _ h => h) (Or.inl ⟨by rfl, ?hy9⟩) (Kept.refl _ _).drew ?_
                case hy9 => (intro W hS; (try dsimp only at hS); go_simp; try with_reducible rfl)
                try simp only [Act.put, lyA, ly0, ly1]
                refine Gz.tk (i := 10) (oi := ⟨some 87, .move (.tmp 10), 3, _, _, some (9, true)⟩) (v := undef) rfl (by kernel_rfl) (fun _ _ _ h => h) (Or.inr ⟨by rfl, rfl⟩) (Kept.refl _ _).drew ?_
                try simp only [Act.put, lyA, ly0, ly1]
                refine Gz.tk (i := 11) (oi := ⟨some 88, .binOp BinOp.eql 3 (.tmp 87) (.const (Value.int IntKind.i64 0)) 3, 4, _, _, some (9, true)⟩) (v := undef) rfl (by kernel_rfl) (fun _ _ _ h => h) (Or.inr ⟨by rfl, rfl⟩) (Kept.refl _ _).drew ?_
                try simp only [Act.put, lyA, ly0, ly1]
                refine Gz.tk (i := 12) (oi := ⟨some 89, .move (.tmp 88), 4, _, _, some (9, true)⟩) (v := undef) rfl (by kernel_rfl) (fun _ _ _ h => h) (Or.inr ⟨by rfl, rfl⟩) (Kept.refl _ _).drew ?_
                try simp only [Act.put, lyA, ly0, ly1]
                refine Gz.tk (i := 13) (oi := ⟨some 90, .fieldAddr 48 (.tmp 5) 2, 0, _, _, some (12, false)⟩) (v := undef) rfl (by kernel_rfl) (fun _ _ _ h => h) (Or.inr ⟨by rfl, rfl⟩) (Kept.refl _ _).drew ?_
                try simp only [Act.put, lyA, ly0, ly1]
                refine Gz.tk (i := 14) (oi := ⟨some 91, .load 22 (.tmp 90), 22, _, _, some (12, false)⟩) (v := undef) rfl (by kernel_rfl) (fun _ _ _ h => h) (Or.inr ⟨by rfl, rfl⟩) (Kept.refl _ _).drew ?_
                try simp only [Act.put, lyA, ly0, ly1]
                refine Gz.tk (i := 15) (oi := ⟨some 92, .move (.tmp 10), 3, _, _, some (12, false)⟩) (v := undef) rfl (by kernel_rfl) (fun _ _ _ h => h) (Or.inr ⟨by rfl, rfl⟩) (Kept.refl _ _).drew ?_
                try simp only [Act.put, lyA, ly0, ly1]
                refine Gz.tk (i := 16) (oi := ⟨some 93, .binOp BinOp.sub 3 (.tmp 92) (.const (Value.int IntKind.i64 1)) 3, 3, _, _, some (12, false)⟩) (v := undef) rfl (by kernel_rfl) (fun _ _ _ h => h) (Or.inr ⟨by rfl, rfl⟩) (Kept.refl _ _).drew ?_
                try simp only [Act.put, lyA, ly0, ly1]
                refine Gz.tk (i := 17) (oi := ⟨some 94, .indexAddr 22 (.tmp 91) (.tmp 93), 0, _, _, some (12, false)⟩) (v := undef) rfl (by kernel_rfl) (fun _ _ _ h => h) (Or.inr ⟨by rfl, rfl⟩) (Kept.refl _ _).drew ?_
                try simp only [Act.put, lyA, ly0, ly1]
                refine Gz.tk (i := 18) (oi := ⟨some 95, .load 3 (.tmp 94), 3, _, _, some (12, false)⟩) (v := undef) rfl (by kernel_rfl) (fun _ _ _ h => h) (Or.inr ⟨by rfl, rfl⟩) (Kept.refl _ _).drew ?_
                try simp only [Act.put, lyA, ly0, ly1]
                refine Gz.tk (i := 19) (oi := ⟨some 96, .fieldAddr 48 (.tmp 5) 2, 0, _, _, some (12, false)⟩) (v := undef) rfl (by kernel_rfl) (fun _ _ _ h => h) (Or.inr ⟨by rfl, rfl⟩) (Kept.refl _ _).drew ?_
                try simp only [Act.put, lyA, ly0, ly1]
                refine Gz.tk (i := 20) (oi := ⟨some 97, .load 22 (.tmp 96), 22, _, _, some (12, false)⟩) (v := undef) rfl (by kernel_rfl) (fun _ _ _ h => h) (Or.inr ⟨by rfl, rfl⟩) (Kept.refl _ _).drew ?_
                try simp only [Act.put, lyA, ly0, ly1]
                refine Gz.tk (i := 21) (oi := ⟨some 98, .move (.tmp 10), 3, _, _, some (12, false)⟩) (v := undef) rfl (by kernel_rfl) (fun _ _ _ h => h) (Or.inr ⟨by rfl, rfl⟩) (Kept.refl _ _).drew ?_
                try simp only [Act.put, lyA, ly0, ly1]
                refine Gz.tk (i := 22) (oi := ⟨some 99, .indexAddr 22 (.tmp 97) (.tmp 98), 0, _, _, some (12, false)⟩) (v := undef) rfl (by kernel_rfl) (fun _ _ _ h => h) (Or.inr ⟨by rfl, rfl⟩) (Kept.refl _ _).drew ?_
                try simp only [Act.put, lyA, ly0, ly1]
                refine Gz.tk (i := 23) (oi := ⟨some 100, .load 3 (.tmp 99), 3, _, _, some (12, false)⟩) (v := undef) rfl (by kernel_rfl) (fun _ _ _ h => h) (Or.inr ⟨by rfl, rfl⟩) (Kept.refl _ _).drew ?_
                try simp only [Act.put, lyA, ly0, ly1]
                refine Gz.tk (i := 24) (oi := ⟨some 101, .binOp BinOp.lss 3 (.tmp 95) (.tmp 100) 3, 4, _, _, some (12, false)⟩) (v := undef) rfl (by kernel_rfl) (fun _ _ _ h => h) (Or.inr ⟨by rfl, rfl⟩) (Kept.refl _ _).drew ?_
                try simp only [Act.put, lyA, ly0, ly1]
                refine Gz.tk (i := 25) (oi := ⟨some 102, .pick (.tmp 89) (.const (Value.bool true)) (.tmp 101), 4, _, _, some (9, true)⟩) (v := undef) rfl (by kernel_rfl) (fun _ _ _ h => h) (Or.inr ⟨by rfl, rfl⟩) (Kept.refl _ _).drew ?_
                try simp only [Act.put, lyA, ly0, ly1]
                refine Gz.tk (i := 26) (oi := ⟨some 103, .pick (.tmp 86) (.tmp 102) (.const (Value.bool false)), 4, _, _, none⟩) (v := ?_) rfl (by kernel_rfl) (fun _ _ _ h => h) (Or.inl ⟨by rfl, ?hy26⟩) (Kept.refl _ _).drew ?_
                case hy26 => (intro W hS; (try dsimp only at hS); go_simp; try with_reducible rfl)
                try simp only [Act.put, lyA, ly0, ly1]
                refine Gz.tk (i := 27) (oi := ⟨some 9, .assign (.tmp 103), 4, _, _, none⟩) (v := ?_) rfl (by kernel_rfl) (fun _ _ _ h => h) (Or.inl ⟨by rfl, ?hy27⟩) (Kept.refl _ _).drew ?_
                case hy27 => (intro W hS; (try dsimp only at hS); go_simp; try with_reducible rfl)
                try simp only [Act.put, lyA, ly0, ly1]
                refine Gz.done (by kernel_rfl) ?_ _
                go_wp2_with fail
                go_roundw
                case rel => exact ⟨k + 1, by have := HI.out; omega, by go_num, by rw [HB.out]; simp [h3], HKr.out.trans kd⟩
                case measure => have := HI.out; simp [intOf]; omega
          · obtain rfl : k = i := by omega
            have j2 : ¬ ((k : Nat) : Int) < (k : Int) := by omega
            have hall : gi.take k = gi := List.take_of_length_le (by rw [HEL.out]; exact Nat.le_refl _)
            rw [hall]
            clear hlt hk hall
            have hz : w.heap.size ≤ Z := by have := HN.out; omega
            have F11 : Hid (Four4 wr X 48 (.int .i64 (kk : Nat)) (.string ⟨tx.toArray⟩) (.slice ao k c) (.string ⟨db.toArray⟩)) := F10.out.kept HKr.out trivial
            have FZ11 : Hid (Four4 wr Z 48 (.int .i64 0) (.string ⟨#[]⟩) (.slice none 0 0) (.string ⟨#[]⟩)) := FZ10.out.kept HKr.out trivial
            have IT11 : Hid (Its wr w4.heap.size (.slice ao k c) gi) := IT10.out.kept HKr.out (fun _ _ => trivial)
            have K11 : Hid (Kept (fun _ => True) w wr) := K10.out.trans HKr.out
            clear F10 FZ10 IT10 K10 x0 x1 x2 x3 x2A
            obtain ⟨w11, hw11⟩ : ∃ x, x = wr := ⟨_, rfl⟩
            rw [← hw11] at F11 FZ11 IT11 K11 ⊢
            clear hw11
            obtain ⟨x0, x1, x2, x3⟩ := F11.out.cell
            obtain ⟨z0, z1, z2, z3⟩ := FZ11.out.cell
            have zf := FZ11.out.free
            obtain ⟨b, hb0⟩ : ∃ b, b = (ok && upG (-1) gi) := ⟨_, rfl⟩
            rw [← hb0] at HREC2 ⊢
            clear hb0
            cases b
            · have HR : Hid (rec? bs = none) := HREC2.out
              go_wp2_with fail
              refine bodyPost_ret (results_cu rfl _ _ rfl (load_rref ((((FZ11.out.set0 _).set1 _).set2 _).set3 _))) rfl ⟨.inl ⟨HR.out, rfl⟩, ?_⟩
              exact kept_fresh (kept_fresh (kept_fresh (kept_fresh K11.out hz _) hz _) hz _) hz _
            · have HR : Hid (rec? bs = some ⟨kk, tx, gi, db⟩) := HREC2.out
              go_wp2_with fail
              refine bodyPost_ret (results_cu rfl _ _ rfl (load_rref ((((FZ11.out.set0 _).set1 _).set2 _).set3 _))) rfl ⟨.inr ⟨⟨kk, tx, gi, db⟩, ao, c, HR.out, ?_, ?_⟩, ?_⟩
              · unfold Ur.val
                rw [show (⟨kk, tx, gi, db⟩ : Ur).gs.length = k from HEL.out]
                rfl
              · have hne : ∀ x, (Value.slice ao k c).ownBlock = some x → x ≠ Z := fun x hx => by have := (World.ownsRow.lt IT11.out x hx).1; have := HN.out; omega
                show Its _ _ (.slice ao gi.length c) gi
                rw [HEL.out]
                exact World.ownsRow.mono ((((IT11.out.kept kept_set hne).kept kept_set hne).kept kept_set hne).kept kept_set hne) (by have := HN.out; omega)
              · exact kept_fresh (kept_fresh (kept_fresh (kept_fresh K11.out hz _) hz _) hz _) hz _

end Go.Proofs.Ytmcaoimgmgjjiaa
