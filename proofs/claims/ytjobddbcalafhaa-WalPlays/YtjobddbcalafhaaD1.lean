/-
  The program's disk: New, Sync, Safe, Bytes, Append and Cut.
-/
import Derived.Test.YtjobddbcalafhaaDB
namespace Go.Proofs.Ytjobddbcalafhaa
open Go.RowKit

set_option maxHeartbeats 400000 in
theorem new_any {w : World} :
    Calls Try.prog 4 #[] w fun e w' => e = .returned (.pointer (some ⟨w.heap.size, 0, none⟩)) ∧ Dk 44 w' w.heap.size (.slice none 0 0) [] 0 ∧ Kept (fun _ => True) w w' := by
  go_enter Try.func4, Try.ntmps4
  go_wp2
  go_ret
  exact ⟨rfl, ⟨heap_alloc_new w _, World.ownsRow_nil _ _ _ _, by decide, by simp, by simp⟩, (Kept.refl _ _).alloc _⟩

/-- The number of safe bytes is written. -/
theorem Dk.mark {t : TypeId} {w : World} {B : Nat} {v : Value} {bs : List UInt8} {s : Nat} (h : Dk t w B v bs s) (s' : Nat) (hs : s' ≤ bs.length) : Step t w (w.setCell ⟨B, 1, none⟩ (.int .i64 s')) B v v bs s' :=
  ⟨⟨(two_set h.self _).2, ownsRow_setCell_other h.own (a := ⟨B, 1, none⟩) h.ne _, h.ty, hs, h.most⟩, (Kept.refl _ _).setCell (by simp) _, fun _ hx => .inl hx⟩

/-- The slice is cut, and the number of safe bytes is brought below. -/
theorem Dk.short {t : TypeId} {w : World} {B : Nat} {ao : Option Addr} {n cap : Nat} {bs : List UInt8} {s k : Nat} (h : Dk t w B (.slice ao n cap) bs s) (ho : w.ownsRow 0 5 1 (.slice ao k cap) k ((cells bs).take k)) (hk : k ≤ bs.length) (s' : Nat) (hs : s' ≤ k) :
    Step t w ((w.setCell ⟨B, 0, none⟩ (.slice ao k cap)).setCell ⟨B, 1, none⟩ (.int .i64 s')) B (.slice ao n cap) (.slice ao k cap) (bs.take k) s' := by
  have e : (Value.slice ao k cap).ownBlock = (Value.slice ao n cap).ownBlock := by cases ao <;> rfl
  have hl : (bs.take k).length = k := by simp; omega
  refine ⟨⟨(two_set (two_set h.self _).1 _).2, ?_, h.ty, by omega, by have := h.most; omega⟩, ((Kept.refl _ _).setCell (by simp) _).setCell (by simp) _, fun x hx => .inl (by rwa [e] at hx)⟩
  rw [hl, ← cells_take]
  exact ownsRow_setCell_other (ownsRow_setCell_other ho (a := ⟨B, 0, none⟩) (by rw [e]; exact h.ne) _) (a := ⟨B, 1, none⟩) (by rw [e]; exact h.ne) _

set_option maxHeartbeats 400000 in
theorem sync_any {w : World} {B : Nat} {v : Value} {bs : List UInt8} {s : Nat} (h : Dk 44 w B v bs s) :
    Calls Try.prog 20 #[.pointer (some ⟨B, 0, none⟩)] w fun e w' => e = .returned (.tuple #[]) ∧ Step 44 w w' B v v bs bs.length := by
  obtain ⟨ao, cap, rfl, hcap, hn⟩ := h.shape
  obtain ⟨c0, c1, f0, f1⟩ := two_cell h.self
  have hm := h.mark bs.length (Nat.le_refl _)
  clear h
  go_enter Try.func20, Try.ntmps20
  go_wp2
  go_end0
  exact ⟨rfl, hm⟩

set_option maxHeartbeats 400000 in
theorem safe_any {t : TypeId} {w : World} {B : Nat} {v : Value} {bs : List UInt8} {s : Nat} (h : Dk t w B v bs s) :
    Calls Try.prog 11 #[.pointer (some ⟨B, 0, none⟩)] w fun e w' => e = .returned (.int .i64 s) ∧ w' = w := by
  obtain ⟨c0, c1, f0, f1⟩ := two_cell h.self
  clear h
  go_enter Try.func11, Try.ntmps11
  go_wp2
  go_ret
  exact ⟨rfl, rfl⟩

set_option maxHeartbeats 400000 in
theorem bytes_any {t : TypeId} {w : World} {B : Nat} {v : Value} {bs : List UInt8} {s : Nat} (h : Dk t w B v bs s) :
    Calls Try.prog 12 #[.pointer (some ⟨B, 0, none⟩)] w fun e w' => e = .returned (.slice (some ⟨w.heap.size, 0, none⟩) bs.length bs.length) ∧ w'.heap[w.heap.size]? = some (.cells (cells bs).toArray 5 (0, 0)) ∧ Kept (fun _ => True) w w' := by
  obtain ⟨i, hi, hz0, hz1, hz2⟩ := info_parts Try.infoU8
  have hm := h.most
  have hb' : i.bytes * bs.length ≤ 281474976710656 := by rw [hz2]; omega
  have hb2 : bs.length ≤ maxLen := by unfold maxLen; omega
  obtain ⟨ao, cap, rfl, hcap, hn⟩ := h.shape
  obtain ⟨hc0, -, -, -⟩ := two_cell h.self
  have hlt := h.lt
  have HH : Hid (Has w ao bs) := h.has
  clear h
  go_enter Try.func12, Try.ntmps12
  go_wp2_with (at_make; refine wpList_make_full _ rfl _ _ _ rfl w.heap.size 5 i (.int .u8 0) 1 Try.underlying36 hi hz0 hz1 _ _ _ _ bs.length rfl rfl rfl rfl hb' hb2 (Nat.le_refl _) ?_; intro w1 hown hg; obtain ⟨cur, hrow, hcs⟩ := made_row hown; have hc1 : w1.cell? ⟨B, 0, none⟩ = some (.slice ao bs.length cap) := (hg.cell_far _ hlt (by simp)).trans hc0)
  have hk1 : Kept (fun _ => True) w w1 := (Kept.refl _ _).grown hg (fun k _ h => by cases h)
  obtain ⟨w3, hrun, hrow3, hk3, hs3⟩ := copy_fill w1 w.heap.size cur bs ao cap hrow hcs (HH.out.kept hk1 (fun _ _ => trivial))
  rw [hrun]
  go_wp2
  go_ret
  exact ⟨rfl, hrow3, hk1.then hk3 (fun i hi _ => by omega)⟩

set_option maxHeartbeats 400000 in
theorem append_any {w : World} {B : Nat} {v : Value} {bs : List UInt8} {s : Nat} {ao : Option Addr} {cap : Nat} {xs : List UInt8} (h : Dk 44 w B v bs s) (hh : Has w ao xs) (hn : ao = none → cap = 0) (hl : bs.length + xs.length ≤ 4194304) :
    Calls Try.prog 24 #[.pointer (some ⟨B, 0, none⟩), .slice ao xs.length cap] w fun e w' => e = .returned (.int .i64 0) ∧ ∃ v', Step 44 w w' B v v' (bs ++ xs) s := by
  obtain ⟨bo, bcap, rfl, hcap, hbn⟩ := h.shape
  obtain ⟨c0, c1, f0, f1⟩ := two_cell h.self
  have hd : decide ((xs.length : Int) > 4194304 - (bs.length : Int)) = false := by simp; omega
  have hw : IntKind.i64.wrap (4194304 - (bs.length : Int)) = 4194304 - (bs.length : Int) := by have := h.most; simp [IntKind.wrap, IntKind.bits, IntKind.signed]; omega
  have hlt := h.lt
  have hne := h.ne
  have HD : Hid (Dk 44 w B (.slice bo bs.length bcap) bs s) := h
  have HH : Hid (Has w ao xs) := hh
  clear h hh
  go_enter Try.func24, Try.ntmps24
  go_wp2_with (at_builtin; refine wpList_append_has rfl (.tmp 18) (.tmp 19) rfl 0 (.slice bo bs.length bcap) bs.length (cells bs) rfl HD.out.own (Nat.zero_le _) ao xs.length cap rfl xs rfl hn HH.out (by omega) ?_; intro ao' cap' w2 ho hgr hat; have hc2 : w2.cell? ⟨B, 0, none⟩ = some (.slice bo bs.length bcap) := (hgr.cell_far _ hlt (Ne.symm hne)).trans c0; have hf2 : w2.frozen? ⟨B, 0, none⟩ = false := (hgr.frozen_far _ hlt (Ne.symm hne)).trans f0)
  go_ret
  exact ⟨rfl, _, HD.out.grow (news := xs) (Kept.refl _ _) (by rw [List.length_append]) hl ho hgr hat⟩

set_option maxHeartbeats 400000 in
theorem append_full {w : World} {B : Nat} {v : Value} {bs : List UInt8} {s : Nat} {ao : Option Addr} {cap n : Nat} (h : Dk 44 w B v bs s) (hl : 4194304 < bs.length + n) :
    Calls Try.prog 24 #[.pointer (some ⟨B, 0, none⟩), .slice ao n cap] w fun e w' => e = .returned (.int .i64 13) ∧ w' = w := by
  obtain ⟨bo, bcap, rfl, hcap, hbn⟩ := h.shape
  obtain ⟨c0, c1, f0, f1⟩ := two_cell h.self
  have hd : decide ((n : Int) > 4194304 - (bs.length : Int)) = true := by simp; omega
  have hw : IntKind.i64.wrap (4194304 - (bs.length : Int)) = 4194304 - (bs.length : Int) := by have := h.most; simp [IntKind.wrap, IntKind.bits, IntKind.signed]; omega
  clear h
  go_enter Try.func24, Try.ntmps24
  go_wp2
  go_ret
  exact ⟨rfl, rfl⟩

set_option maxHeartbeats 400000 in
theorem cut_bad {w : World} {B : Nat} {v : Value} {bs : List UInt8} {s : Nat} (h : Dk 44 w B v bs s) (n : Int) (hn : n < 0 ∨ (bs.length : Int) < n) :
    Calls Try.prog 18 #[.pointer (some ⟨B, 0, none⟩), .int .i64 n] w fun e w' => e = .returned (.int .i64 1) ∧ w' = w := by
  obtain ⟨bo, bcap, rfl, hcap, hbn⟩ := h.shape
  obtain ⟨c0, c1, f0, f1⟩ := two_cell h.self
  clear h
  by_cases h0 : n < 0
  · go_enter Try.func18, Try.ntmps18
    go_wp2
    go_ret
    exact ⟨rfl, rfl⟩
  · have h1 : (bs.length : Int) < n := by omega
    go_enter Try.func18, Try.ntmps18
    go_wp2
    go_ret
    exact ⟨rfl, rfl⟩

end Go.Proofs.Ytjobddbcalafhaa
