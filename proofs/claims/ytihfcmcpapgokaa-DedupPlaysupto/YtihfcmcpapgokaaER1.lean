/-
  The document's table: New, find, Ask, Clients.
-/
import Derived.Test.YtihfcmcpapgokaaE9
namespace Go.Proofs.Ytihfcmcpapgokaa
open Go.RowKit

set_option maxHeartbeats 400000 in
theorem rnew_any {w : World} (n : Int) :
    Calls Try.prog 16 #[.int .i64 n] w fun e w' => e = .returned (.pointer (some ⟨w.heap.size, 0, none⟩)) ∧ Rt w' w.heap.size (.slice none 0 0) n [] ∧ Kept (fun _ => True) w w' := by
  go_enter Try.func16, Try.ntmps16
  go_wp2
  go_ret
  exact ⟨rfl, ⟨heap_alloc_new w _, World.ownsRow_nil _ _ _ _, by decide, by simp⟩, (Kept.refl _ _).alloc _⟩

set_option maxRecDepth 100000 in
set_option maxHeartbeats 1000000 in
theorem rfind_any {w : World} {B : Nat} {v : Value} {m : Int} {xs : List La} (h : Rt w B v m xs) (c : List UInt8) :
    Calls Try.prog 31 #[.pointer (some ⟨B, 0, none⟩), .string ⟨c.toArray⟩] w fun e w' => (∃ n, e = .returned (.int .i64 n) ∧ Where xs c n) ∧ Kept (fun _ => True) w w' := by
  have HP : Hid (Rt w B v m xs) := h
  have hm := h.most
  obtain ⟨ao, cap, rfl, -, -, hg⟩ := h.shape
  have HG : Hid (0 < xs.length → ∃ g, ao = some ⟨g, 0, none⟩) := hg
  clear h hg
  go_enter Try.func31, Try.ntmps31
  go_wp2_with fail
  go_loopw [5] (fun t wr => ∃ (k : Nat), k ≤ xs.length ∧ t = .int .i64 k ∧ (∀ x ∈ xs.take k, x.c ≠ c) ∧ Kept (fun _ => True) w wr) (fun t _ => xs.length - (intOf t).toNat)
  case atStart => exact ⟨0, Nat.zero_le _, rfl, by simp, Kept.refl _ _⟩
  case round =>
    obtain ⟨k, hk, rfl, hn, kk⟩ := hrel
    have HN : Hid (∀ x ∈ xs.take k, x.c ≠ c) := hn
    have p1 := HP.out.all kk
    obtain ⟨c0, c1, f0, f1⟩ := two_cell p1.self
    have lt := p1.lt
    clear hn
    by_cases hlt : k < xs.length
    · have HS : Hid (xs.take (k + 1) = xs.take k ++ [xs[k]]) := List.take_succ_eq_append_getElem hlt
      have HSp : Hid (∀ (q : xs[k].c = c), Spot xs c k) := fun q => ⟨⟨hlt, q⟩, HN.out⟩
      obtain ⟨g, rfl⟩ := HG.out (by omega)
      obtain ⟨y0, y1, y2⟩ := lay_cells' p1.own k hlt
      generalize xs[k] = x at *
      have i1 : (k : Int) < (xs.length : Int) := by omega
      have i0 : (0 : Int) ≤ (k : Int) := by omega
      clear p1
      by_cases he : x.c = c
      · subst he
        go_wp2_with fail
        go_ret
        exact ⟨⟨_, rfl, .inr ⟨k, rfl, HSp.out trivial⟩⟩, kk⟩
      · have hne : (x.c == c) = false := beq_eq_false_iff_ne.2 he
        have HE : Hid (x.c ≠ c) := he
        clear he
        go_wp2_with fail
        go_roundw
        case rel =>
          refine ⟨k + 1, by omega, by go_num, fun y hy => ?_, kk⟩
          rw [HS.out] at hy
          rcases List.mem_append.1 hy with hy | hy
          · exact HN.out y hy
          · rw [List.mem_singleton.1 hy]; exact HE.out
        case measure => simp [intOf]; omega
    · have i1 : ¬ ((k : Int) < (xs.length : Int)) := by omega
      clear p1
      go_wp2_with fail
      go_ret
      refine ⟨⟨_, rfl, .inl ⟨rfl, fun x hx => HN.out x ?_⟩⟩, kk⟩
      rw [List.take_of_length_le (by omega)]
      exact hx

set_option maxRecDepth 100000 in
set_option maxHeartbeats 1000000 in
theorem rask_any {w : World} {B : Nat} {v : Value} {m : Int} {xs : List La} (h : Rt w B v m xs) (c : List UInt8) (id : Int) :
    Calls Try.prog 17 #[.pointer (some ⟨B, 0, none⟩), .string ⟨c.toArray⟩, .int .i64 id] w fun e w' => e = .returned (.tuple #[.int .i64 ((ask xs c id).1 : Nat), .string ⟨(ask xs c id).2.toArray⟩]) ∧ Kept (fun _ => True) w w' := by
  have HP : Hid (Rt w B v m xs) := h
  have cp := rfind_any h c
  clear h
  generalize hA : ask xs c id = a
  have HA : Hid (ask xs c id = a) := hA
  clear hA
  go_enter Try.func17, Try.ntmps17
  go_wp2_with fail
  refine Calls.mono cp ?_
  rintro e w1 ⟨⟨n, rfl, hn⟩, k1⟩
  clear cp
  rcases hn with ⟨rfl, hn⟩ | ⟨k, rfl, hs⟩
  · obtain rfl := HA.out.symm.trans (hn.ask id)
    clear hn HA
    go_wp2_with fail
    go_ret2
    exact ⟨rfl, k1⟩
  · have hlt := hs.lt
    have ea := HA.out.symm.trans (hs.ask id)
    have p1 := HP.out.all k1
    obtain ⟨ao, cap, rfl, -, -, hg⟩ := p1.shape
    obtain ⟨g, rfl⟩ := hg (by omega)
    obtain ⟨c0, c1, f0, f1⟩ := two_cell p1.self
    obtain ⟨y0, y1, y2⟩ := lay_cells' p1.own k hlt
    have hm := p1.most
    have i1 : (k : Int) < (xs.length : Int) := by omega
    have i0 : ¬ ((k : Int) < 0) := by omega
    have i2 : (0 : Int) ≤ (k : Int) := by omega
    have B1 := p1.lt
    generalize xs[k] = x at *
    clear hg p1 hs HA
    by_cases q1 : x.i < id
    · rw [if_pos q1] at ea
      subst ea
      go_wp2_with fail
      go_ret2
      exact ⟨rfl, k1⟩
    · rw [if_neg q1] at ea
      by_cases q2 : id = x.i
      · rw [if_pos q2] at ea
        subst ea q2
        go_wp2_with fail
        go_quiet (fail)
        go_wp2_with fail
        go_ret2
        exact ⟨rfl, k1.drewN _⟩
      · rw [if_neg q2] at ea
        subst ea
        have q3 : (id == x.i) = false := beq_eq_false_iff_ne.2 q2
        clear q2
        go_wp2_with fail
        go_ret2
        exact ⟨rfl, k1⟩

set_option maxRecDepth 100000 in
set_option maxHeartbeats 1000000 in
theorem rclients_any {w : World} {B : Nat} {v : Value} {m : Int} {xs : List La} (h : Rt w B v m xs) :
    Calls Try.prog 19 #[.pointer (some ⟨B, 0, none⟩)] w fun e w' => ∃ u, e = .returned u ∧ Txs w' w.heap.size u (xs.map La.c) ∧ Kept (fun _ => True) w w' := by
  have HP : Hid (Rt w B v m xs) := h
  have hm := h.most
  obtain ⟨ao, cap, rfl, -, -, hg⟩ := h.shape
  have HG : Hid (0 < xs.length → ∃ g, ao = some ⟨g, 0, none⟩) := hg
  clear h hg
  go_enter Try.func19, Try.ntmps19
  go_wp2_with fail
  go_loopw [3, 4] (fun t u wr => ∃ (k : Nat), k ≤ xs.length ∧ u = .int .i64 k ∧ Txs wr w.heap.size t ((xs.take k).map La.c) ∧ Kept (fun _ => True) w wr) (fun _ u _ => xs.length - (intOf u).toNat)
  case atStart => exact ⟨0, Nat.zero_le _, rfl, Txs.nil _ _, Kept.refl _ _⟩
  case round =>
    obtain ⟨k, hk, rfl, ht, kk⟩ := hrel
    have HT : Hid (Txs wr w.heap.size u3 ((xs.take k).map La.c)) := ht
    have HK : Hid (Kept (fun _ => True) w wr) := kk
    have p1 := HP.out.all kk
    obtain ⟨c0, c1, f0, f1⟩ := two_cell p1.self
    have lt := p1.lt
    clear ht kk
    by_cases hlt : k < xs.length
    · have HS : Hid ((xs.take (k + 1)).map La.c = (xs.take k).map La.c ++ [xs[k].c]) := by
        show _ = _
        rw [List.take_succ_eq_append_getElem hlt, List.map_append]; rfl
      obtain ⟨g, rfl⟩ := HG.out (by omega)
      obtain ⟨y0, y1, y2⟩ := lay_cells' p1.own k hlt
      have hl : ((xs.take k).map La.c).length ≤ 100 := by simp; omega
      generalize (xs.take k).map La.c = ss at *
      generalize xs[k] = x at *
      have i1 : (k : Int) < (xs.length : Int) := by omega
      have i0 : (0 : Int) ≤ (k : Int) := by omega
      clear p1
      go_wp2_with (at_builtin; refine wpList_append_text rfl _ _ rfl _ _ ss rfl (HT.out.kept ((Kept.refl (fun _ => True) _).alloc _) (fun _ _ => trivial)) (by have := HK.out.size; simp; omega) _ rfl x.c (0, 0) (heap_alloc_new _ _) (by omega) ?_; intro ao' cap' w1 hown hgrow hat)
      go_wp2
      go_roundw
      case rel =>
        refine ⟨k + 1, by omega, by go_num, by rw [HS.out]; exact hown, ((HK.out.alloc _).grown hgrow (fun b hb e _ => ?_))⟩
        have := (HT.out.lt b e).1
        omega
      case measure => simp [intOf]; omega
    · have i1 : ¬ ((k : Int) < (xs.length : Int)) := by omega
      clear p1
      go_wp2_with fail
      go_ret
      refine ⟨_, rfl, ?_, HK.out⟩
      have := HT.out
      rw [List.take_of_length_le (by omega)] at this
      exact this

end Go.Proofs.Ytihfcmcpapgokaa
