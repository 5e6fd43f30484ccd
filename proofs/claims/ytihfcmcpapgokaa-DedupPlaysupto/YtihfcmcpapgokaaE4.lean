/-
  The program's table: Clients.
-/
import Derived.Test.YtihfcmcpapgokaaE3
namespace Go.Proofs.Ytihfcmcpapgokaa
open Go.RowKit

theorem heap_alloc2_new (w : World) (a b : Obj) : ((w.alloc a).alloc b).heap[w.heap.size + 1]? = some b := by
  have := heap_alloc_new (w.alloc a) b
  simpa using this

set_option maxRecDepth 100000 in
set_option maxHeartbeats 1000000 in
theorem clients_any {w : World} {B : Nat} {v : Value} {m : Int} {xs : List La} (h : Pt w B v m xs) :
    Calls Try.prog 14 #[.pointer (some ⟨B, 0, none⟩)] w fun e w' => ∃ u, e = .returned u ∧ Txs w' w.heap.size u (xs.map La.c) ∧ Kept (fun _ => True) w w' := by
  have HP : Hid (Pt w B v m xs) := h
  obtain ⟨c0, c1, f0, f1⟩ := two_cell h.self
  have lt := h.lt
  have hm := h.most
  obtain ⟨ao, cap, rfl, -, -, hg⟩ := h.shape
  have HG : Hid (0 < xs.length → ∃ g, ao = some ⟨g, 0, none⟩) := hg
  clear h hg
  go_enter Try.func14, Try.ntmps14
  go_wp2_with fail
  go_loopw [3, 11] (fun t u wr => ∃ (k : Nat), k ≤ xs.length ∧ u = .int .i64 k ∧ Txs wr w.heap.size t ((xs.take k).map La.c) ∧ Kept (fun _ => True) w wr) (fun _ u _ => xs.length - (intOf u).toNat)
  case atStart => exact ⟨0, Nat.zero_le _, rfl, Txs.nil _ _, Kept.refl _ _⟩
  case round =>
    obtain ⟨k, hk, rfl, ht, kk⟩ := hrel
    have HT : Hid (Txs wr w.heap.size u3 ((xs.take k).map La.c)) := ht
    have HK : Hid (Kept (fun _ => True) w wr) := kk
    clear ht kk
    by_cases hlt : k < xs.length
    · have HS : Hid ((xs.take (k + 1)).map La.c = (xs.take k).map La.c ++ [xs[k].c]) := by
        show _ = _
        rw [List.take_succ_eq_append_getElem hlt, List.map_append]; rfl
      obtain ⟨g, rfl⟩ := HG.out (by omega)
      obtain ⟨y0, y1, y2⟩ := lay_cells (HP.out.all HK.out).own k hlt
      have hl : ((xs.take k).map La.c).length ≤ 100 := by simp; omega
      generalize (xs.take k).map La.c = ss at *
      generalize xs[k] = x at *
      have i1 : (k : Int) < (xs.length : Int) := by omega
      have i0 : (0 : Int) ≤ (k : Int) := by omega
      go_wp2_with (at_builtin; refine wpList_append_text rfl _ _ rfl _ _ ss rfl (HT.out.kept (((Kept.refl (fun _ => True) _).alloc _).alloc _) (fun _ _ => trivial)) (by have := HK.out.size; simp; omega) _ rfl x.c (0, 0) (heap_alloc2_new _ _ _) (by omega) ?_; intro ao' cap' w1 hown hgrow hat)
      go_wp2
      go_roundw
      case rel =>
        refine ⟨k + 1, by omega, by go_num, by rw [HS.out]; exact hown, (((HK.out.alloc _).alloc _).grown hgrow (fun b hb e _ => ?_))⟩
        have := (HT.out.lt b e).1
        omega
      case measure => simp [intOf]; omega
    · have i1 : ¬ ((k : Int) < (xs.length : Int)) := by omega
      go_wp2_with fail
      go_ret
      refine ⟨_, rfl, ?_, HK.out⟩
      have := HT.out
      rw [List.take_of_length_le (by omega)] at this
      exact this

end Go.Proofs.Ytihfcmcpapgokaa
