/-
  SumTells: it answers true for every bytes.
-/
import Derived.Test.YtibghfdafdbgkaaLawLengths
import Derived.Test.YtibghfdafdbgkaaLawTurns
import Derived.Test.YtibghfdafdbgkaaRHex
import Derived.Test.YtibghfdafdbgkaaSBook
namespace Go.Proofs.Ytibghfdafdbgkaa
open Go.RowKit

set_option maxRecDepth 100000 in
set_option maxHeartbeats 2000000 in
theorem sumTells_any {w : World} {ao : Option Addr} {cap : Nat} {bs : List UInt8} (hh : Has w ao bs) (hn : ao = none → cap = 0) (hcap : bs.length ≤ cap) (hl : (bs.length : Int) ≤ 140737488355328) :
    Calls Try.prog 4 #[.slice ao bs.length cap] w fun e w' => e = .returned (.bool true) ∧ Kept (fun _ => True) w w' := by
  obtain ⟨B, hB, hHB, hBc, hsB⟩ : ∃ B : List UInt8, B.length ≤ 400 ∧ Has w ao B ∧ B.length ≤ cap ∧ (((400 : Int) < (bs.length : Int) ∧ ∀ w0, (Instr.slice 24 (.slice ao bs.length cap) none (some (.int .i64 400)) none).run Try.prog w0 = .ok (.slice ao B.length cap) w0) ∨ (¬ (400 : Int) < (bs.length : Int) ∧ B = bs)) := by
    by_cases h : (400 : Int) < (bs.length : Int)
    · have e : (bs.take 400).length = 400 := by simp; omega
      exact ⟨bs.take 400, by omega, hh.take 400, by omega, .inl ⟨h, by rw [e]; exact cut_front ao bs.length cap 400 (by omega) hcap⟩⟩
    · exact ⟨bs, by omega, hh, hcap, .inr ⟨h, rfl⟩⟩
  have HN : Hid (ao = none → cap = 0) := hn
  have HH : Hid (Has w ao B) := hHB
  have hB1 : (B.length : Int) ≤ 400 := by omega
  have cr := roomy_any (cap := cap) hHB (by omega)
  clear hh hHB hn
  rcases hsB with ⟨ga, hsB⟩ | ⟨ga, rfl⟩
  all_goals
    go_enter Try.func4, Try.ntmps4
    go_wp2_with fail
    refine Calls.mono cr ?_
    rintro e w1 ⟨D, rfl, ho1, k1⟩
    clear cr
    have hcf := cut_front (some ⟨D, 0, none⟩) (B.length + 80) (B.length + 80) B.length (by omega) (Nat.le_refl _)
    have hx1 : Has w1 (some ⟨D, 0, none⟩) B := by
      have h1 := own_has (bs := full B) (n := B.length + 80) (cap := B.length + 80) (b := w.heap.size) (by rw [full_length]; exact ho1)
      have h2 := h1.take B.length
      rwa [show (full B).take B.length = B by unfold full; simp] at h2
    have cs := sha_any (cap := B.length + 80) hx1 (by omega) (by omega)
    obtain ⟨S, hS⟩ : ∃ S, S = shaOf B := ⟨_, rfl⟩
    have lS : S.length = 32 := by rw [hS]; exact shaOf_length B
    have he := sum_eq S lS
    have hgd := sum_guard
    have RS : ∀ w0, Has w0 ao B → Calls Try.prog 15 #[.slice ao B.length cap] w0 fun e w' => e = .returned (.agg (cells S).toArray) ∧ Kept (fun _ => True) w0 w' := fun w0 h => by rw [hS]; exact rsha_any h HN.out (by omega)
    rw [← hS] at cs
    clear hS
    obtain ⟨xs, hxs⟩ : ∃ xs, xs = cells S := ⟨_, rfl⟩
    have lx : xs.length = 32 := by rw [hxs, cells_length, lS]
    have ox : ∀ x ∈ xs, x.oneCell' = true := by rw [hxs]; exact cells_one S
    rw [← hxs] at cs he RS
    clear hxs lS
    go_wp2_with (first
      | (go_at_call 8; refine Calls.mono cs ?_; rintro e w2 ⟨rfl, k2⟩)
      | ((with_reducible refine w_alloc (d := some 5) arr32 ?_); intro w3 a5 k3 s3)
      | ((with_reducible apply w_store (x := .tmp 5) (b := w2.heap.size) (xs := xs) (old := List.replicate 32 (.int .u8 0)) arr32); (case hx => rfl); (case hy => rfl); (case ha => exact a5); (case ho => simp); (case hl => exact lx); (case h1 => exact ox); intro w4 a5' k4 s4))
    have z1 := k1.size
    have z2 := k2.size
    have z3 := s3.out
    have hDl : D < w1.heap.size := by
      rcases ho1.2 with ⟨hv, _⟩ | ⟨g, cap', cur, hv, _, hh, _⟩
      · cases hv
      · injection hv with e1 e2 e3
        cases e1
        exact lt_of_block hh
    have K14 : Kept (· ≠ w2.heap.size) w1 w4 := ((k2.trans k3).mono (fun _ _ _ => trivial)).trans k4
    have K04 : Kept (fun _ => True) w w4 := k1.then K14 (fun i hi _ => by omega)
    have hb4 : Has w4 ao B := HH.out.kept K04 (fun _ _ => trivial)
    have hx4 : Has w4 (some ⟨D, 0, none⟩) B := hx1.kept K14 (fun ad e => by cases e; show D ≠ _; omega)
    have ho4 := own_kept ho1 K14 (fun k e => by
      have : k = D := by simpa [Value.ownBlock] using e.symm
      omega)
    have A5 : Ar w4 w2.heap.size 22 xs := a5'
    clear z1 z2 z3 k1 k2 k3 k4 s3 s4 a5 a5' K14 ho1 hx1 cs hDl HH
    generalize w2.heap.size = B5 at *
    have q0 : Kept (fun _ => True) w4 w4 := Kept.refl _ _
    have q1 : Kept (fun _ => True) w4 w4.drew := q0.drew
    have hrg : ∀ W, Kept (fun _ => True) w4 W → W.rangeAt B5 0 xs := fun W hk j v hv => by rw [Nat.zero_add]; exact ((A5.kept hk trivial).cell j).trans hv
    have hua : Try.prog.underlying 22 = some (.array 32 5) := Try.underlying22
    have hia : (Try.prog.info? 22).map (·.size) = some xs.length := by rw [lx]; exact arr32.size
    have hcv : ∀ W, Kept (fun _ => True) w4 W → (convert 24 9 (.slice ao B.length cap)).run Try.prog W = .ok (.string ⟨B.toArray⟩) W := fun W hk => conv_sl ⟨ao, cap, rfl, HN.out, hb4.kept hk (fun _ _ => trivial)⟩
    have C1 : ∀ W, Kept (fun _ => True) w4 W → Calls Try.prog 10 #[.slice (some ⟨D, 0, none⟩) B.length (B.length + 80)] W fun e w' => e = .returned (.int .u32 (crcOf B : Nat)) ∧ w' = W := fun W hk => crc_any (hx4.kept hk (fun _ _ => trivial)) (by omega)
    have C2 : ∀ W, Kept (fun _ => True) w4 W → Calls Try.prog 14 #[.slice ao B.length cap] W fun e w' => e = .returned (.int .u32 (crcOf B : Nat)) ∧ w' = W := fun W hk => rcrc_any (hb4.kept hk (fun _ _ => trivial)) (by omega)
    have C3 : ∀ W, Kept (fun _ => True) w4 W → Calls Try.prog 15 #[.slice ao B.length cap] W fun e w' => e = .returned (.agg xs.toArray) ∧ Kept (fun _ => True) W w' := fun W hk => RS W (hb4.kept hk (fun _ _ => trivial))
    have C4 : ∀ W, Kept (fun _ => True) w4 W → Calls Try.prog 9 #[.slice (some ⟨D, 0, none⟩) B.length (B.length + 80)] W fun e w' => e = .returned (.string ⟨(hexOf B).toArray⟩) ∧ Kept (fun _ => True) W w' := fun W hk => hex_any (hx4.kept hk (fun _ _ => trivial)) (by omega)
    have C5 : ∀ W, Kept (fun _ => True) w4 W → Calls Try.prog 16 #[.slice ao B.length cap] W fun e w' => e = .returned (.string ⟨(hexOf B).toArray⟩) ∧ ∃ n, w' = W.drewN n := fun W hk => rhex_any (hb4.kept hk (fun _ _ => trivial)) (by omega)
    have C8 : ∀ W, Kept (fun _ => True) w4 W → Calls Try.prog 18 #[.slice (some ⟨D, 0, none⟩) (B.length + 80) (B.length + 80), .slice ao B.length cap, .int .u8 165] W fun e w' => e = .returned (.bool true) ∧ ∃ n, w' = W.drewN n := fun W hk => intact_any (own_kept ho4 hk (fun _ _ => trivial)) (hb4.kept hk (fun _ _ => trivial)) (by omega)
    clear RS hb4 hx4 ho4 A5 HN
    generalize crcOf B = sc at *
    generalize hexOf B = X at *
    obtain ⟨hh8, hh8e⟩ : ∃ h, h = hashOf B := ⟨_, rfl⟩
    have C6 : ∀ W, Calls Try.prog 11 #[.string ⟨B.toArray⟩] W fun e w' => e = .returned (.int .i64 (hh8 : Nat)) ∧ Kept (fun _ => True) W w' := fun W => by rw [hh8e]; exact hash_any B (by omega)
    have C7 : ∀ W, Calls Try.prog 17 #[.string ⟨B.toArray⟩] W fun e w' => e = .returned (.int .i64 (hh8 : Nat)) ∧ Kept (fun _ => True) W w' := fun W => by rw [hh8e]; exact rhash_any B (by omega)
    clear hh8e
    go_wp2
    go_region_held3 (fun w' => Kept (fun _ => True) w4 w' ∧ w'.rangeAt B5 0 xs) (exact ⟨by assumption, hrg _ (by assumption)⟩)
      (first
        | (go_at_call 10; refine Calls.mono (C1 _ (by assumption)) ?_; rintro e _ ⟨rfl, rfl⟩)
        | (go_at_call 14; refine Calls.mono (C2 _ (by assumption)) ?_; rintro e _ ⟨rfl, rfl⟩)
        | (go_at_call 15; refine Calls.mono (C3 _ (by assumption)) ?_; rintro e u3 ⟨rfl, m3⟩; have n3 : Kept (fun _ => True) w4 u3 := q1.trans m3)
        | (go_at_call 9; refine Calls.mono (C4 _ (by assumption)) ?_; rintro e u4 ⟨rfl, m4⟩; have n4 : Kept (fun _ => True) w4 u4 := n3.trans m4)
        | (go_at_call 16; refine Calls.mono (C5 _ (by assumption)) ?_; rintro e u5 ⟨rfl, nn5, rfl⟩; have n5 : Kept (fun _ => True) w4 (u4.drewN nn5) := n4.drewN nn5)
        | (go_at_call 11; refine Calls.mono (C6 _) ?_; rintro e u6 ⟨rfl, m6⟩; have n6 : Kept (fun _ => True) w4 u6 := n5.trans m6)
        | (go_at_call 17; refine Calls.mono (C7 _) ?_; rintro e u7 ⟨rfl, m7⟩; have n7 : Kept (fun _ => True) w4 u7 := n6.trans m7)
        | (go_at_call 18; refine Calls.mono (C8 _ (by assumption)) ?_; rintro e u8 ⟨rfl, nn8, rfl⟩; have n8 : Kept (fun _ => True) w4 (u7.drewN nn8) := n7.drewN nn8)
        | (go_at_call 12; refine Calls.mono (known_any _) ?_; rintro e u9 ⟨rfl, m9⟩; have n9 : Kept (fun _ => True) w4 u9 := n8.trans m9))
    all_goals
      go_wp2
      go_ret
      exact ⟨rfl, K04.trans n9⟩

end Go.Proofs.Ytibghfdafdbgkaa
