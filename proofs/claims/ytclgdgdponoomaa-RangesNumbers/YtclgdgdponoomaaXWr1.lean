/-
  A Writer's number: the lowest bytes of n, the highest first, behind what is written.
-/
import Derived.Test.YtclgdgdponoomaaXNew
import Derived.Deep.RegionLaw
import Derived.BigRegion
namespace Go.Proofs.Ytclgdgdponoomaa
open Go.RowKit

/-- Behind an append to the Writer's bytes and the store of the new slice. -/
theorem Wr.step {wr w0 w1 : World} {B : Nat} {G : Option Nat} {v nv : Value} {bs news : List UInt8} {n : Nat} (hw : Wr wr B G v bs) (h0 : Kept (fun _ => True) wr w0) (hn : n = (bs ++ news).length)
    (hown : w1.ownsRow 0 5 1 nv n (cells bs ++ cells news)) (hgrow : w0.grownBy w1 v.ownBlock) (hat : v.ownBlock = nv.ownBlock ∨ ∃ g, nv.ownBlock = some g ∧ wr.heap.size ≤ g) :
    Wr (w1.setCell ⟨B, 0, none⟩ nv) B nv.ownBlock nv (bs ++ news) ∧
      Kept (fun x => x ≠ B ∧ G ≠ some x) wr (w1.setCell ⟨B, 0, none⟩ nv) ∧ (∀ x, nv.ownBlock = some x → G = some x ∨ wr.heap.size ≤ x) := by
  have hne : nv.ownBlock ≠ some B := by
    rcases hat with h | ⟨g, h, hg⟩
    · rw [← h, hw.row]; exact hw.ne
    · rw [h]; intro e; cases e; have := hw.lt; omega
  have hlt0 : B < w0.heap.size := Nat.lt_of_lt_of_le hw.lt h0.size
  have hs1 : w1.heap[B]? = some (.cells #[v] 98 (0, 0)) := by
    rw [hgrow.block B hlt0 (by rw [hw.row]; exact Ne.symm hw.ne), h0.block B hw.lt trivial]
    exact hw.self
  subst hn
  refine ⟨⟨one_setCell hs1, ?_, rfl⟩, ?_, ?_⟩
  · rw [cells_append]
    exact ownsRow_setCell_other hown (a := ⟨B, 0, none⟩) hne nv
  · refine ((h0.mono (fun _ _ _ => trivial)).grown hgrow (fun k _ hk hp => ?_)).setCell (by simp) _
    exact hp.2 (hw.row.symm.trans hk)
  · intro x hx
    rcases hat with h | ⟨g, h, hg⟩
    · exact .inl (hw.row.symm.trans (h.trans hx))
    · rw [h] at hx; cases hx; exact .inr hg

/-- Two steps of a Writer, one behind the other. -/
theorem grow_trans {a b c : World} {B : Nat} {G G1 G2 : Option Nat} (k1 : Kept (fun x => x ≠ B ∧ G ≠ some x) a b) (n1 : ∀ x, G1 = some x → G = some x ∨ a.heap.size ≤ x)
    (k2 : Kept (fun x => x ≠ B ∧ G1 ≠ some x) b c) (n2 : ∀ x, G2 = some x → G1 = some x ∨ b.heap.size ≤ x) :
    Kept (fun x => x ≠ B ∧ G ≠ some x) a c ∧ (∀ x, G2 = some x → G = some x ∨ a.heap.size ≤ x) := by
  refine ⟨k1.then k2 (fun i hi hp => ⟨hp.1, fun hG => ?_⟩), fun x hx => ?_⟩
  · rcases n1 i hG with h | h
    · exact hp.2 h
    · omega
  · rcases n2 x hx with h | h
    · exact n1 x h
    · exact .inr (Nat.le_trans k1.size h)

set_option maxRecDepth 100000 in
set_option maxHeartbeats 1000000 in
theorem wnumber_any {w : World} {B : Nat} {G : Option Nat} {v : Value} {bs : List UInt8} (n : Int) (k : Nat) (h : Wr w B G v bs) (hk8 : k ≤ 8) (hn0 : 0 ≤ n) (hb : (bs.length : Int) + k ≤ 140737488355328) :
    Calls Try.prog 48 #[.pointer (some ⟨B, 0, none⟩), .int .u64 n, .int .i64 k] w fun e w' => e = .returned (.tuple #[]) ∧ ∃ G' v', Wr w' B G' v' (bs ++ enc n k) ∧
      Kept (fun x => x ≠ B ∧ G ≠ some x) w w' ∧ (∀ x, G' = some x → G = some x ∨ w.heap.size ≤ x) := by
  obtain ⟨i, hi, hz0, hz1, hz2⟩ := info_parts Try.infoU8
  go_enter Try.func48, Try.ntmps48
  go_wp2
  go_loopw [6] (fun t wr => ∃ (m j : Nat) (G' : Option Nat) (v' : Value), m + j = k ∧ t = .int .i64 ((m : Int) - 1) ∧ Wr wr B G' v' (bs ++ (enc n k).take j) ∧ Kept (fun x => x ≠ B ∧ G ≠ some x) w wr ∧ (∀ x, G' = some x → G = some x ∨ w.heap.size ≤ x))
    (fun t _ => (intOf t + 1).toNat)
  case atStart => exact ⟨k, 0, G, v, by omega, rfl, by simpa using h, Kept.refl _ _, fun x hx => .inl hx⟩
  case round =>
    obtain ⟨m, j, G', v', hmj, rfl, hw, hk, hg⟩ := hrel
    by_cases hm : 1 ≤ m
    · obtain ⟨p, rfl⟩ : ∃ p, m = p + 1 := ⟨m - 1, by omega⟩
      have hc0 := cell_of_one hw.self
      have hf0 := free_of_one hw.self
      have ne1 := hw.ne
      have lb := hw.lt
      have hp8 : (p : Int) ≤ 7 := by omega
      have hp0 : (0 : Int) ≤ (p : Int) := by omega
      obtain ⟨Z, hsh, hZ⟩ := shift_byte n p hn0 (by omega)
      have hle : (bs ++ (enc n k).take j).length + 1 ≤ 140737488355328 := by simp [enc_length]; omega
      have hf1 : ∀ o, (wr.alloc o).frozen? ⟨B, 0, none⟩ = false := fun o => (World.frozen?_alloc_past _ _ _ lb).trans hf0
      have HT : Hid (bs ++ (enc n k).take (j + 1) = (bs ++ (enc n k).take j) ++ [byteAt n p]) := by
        show _ = _
        rw [enc_take n k j p hmj, List.append_assoc]
      generalize bs ++ (enc n k).take j = cur at *
      have HK : Hid (p + (j + 1) = k) := by show _ = _; omega
      rw [show (((p + 1 : Nat) : Int) - 1) = (p : Int) from by omega]
      go_wp2
      go_region_law
        ((refine step_append_lies _ (by rfl) _ _ _ (by rfl) 0 5 i _ 1 1 Try.underlying34 hi hz0 hz1 hz2 rfl (by omega) v' _ _ (by rfl) ((hw.own.alloc _).drew) ⟨wr.heap.size, 0, none⟩ 1 1 [.int .u8 (byteAt n p).toNat] (by rfl) (by rfl) (World.news_of_block (cs := #[.int .u8 (byteAt n p).toNat]) (t := 5) (fr := (0, 0)) (heap_alloc_new wr _)) (by simp [Value.oneCell']) (by omega) (by unfold maxLen; omega) (by omega) (by simp) (wr.heap.size + 1) (by simp) ?_; intro gg cap w1 hown1 hgrow hat hlt; have hc2 : w1.cell? ⟨B, 0, none⟩ = some v' := (hgrow.cell_far _ (by simp; omega) (by rw [hw.row]; exact Ne.symm ne1)).trans ((World.cell?_alloc_past _ _ _ lb).trans hc0); have hf2 : w1.frozen? ⟨B, 0, none⟩ = false := (hgrow.frozen_far _ (by simp; omega) (by rw [hw.row]; exact Ne.symm ne1)).trans (hf1 _)))
      all_goals go_wp2
      all_goals
        obtain ⟨s1, s2, s3⟩ := hw.step (news := [byteAt n p]) (((Kept.refl _ _).alloc _).drew) (by simp) hown1 hgrow (by rcases hat with h | h; exact .inl h; exact .inr ⟨gg, rfl, by omega⟩)
        obtain ⟨s4, s5⟩ := grow_trans hk hg s2 s3
        refine ⟨⟨p, j + 1, _, _, HK.out, rfl, by rw [HT.out]; exact s1, s4, s5⟩, by simp [intOf] <;> omega⟩
    · have hm0 : m = 0 := by omega
      subst hm0
      go_wp2
      go_end0
      have : (enc n k).take j = enc n k := List.take_of_length_le (by rw [enc_length]; omega)
      rw [this] at hw
      exact ⟨rfl, G', v', hw, hk, hg⟩

end Go.Proofs.Ytclgdgdponoomaa
