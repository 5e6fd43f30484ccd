/-
  A Log that was made behind w0; the law's known.
-/
import Derived.Test.YtjobddbcalafhaaWLog
import Derived.Test.YtjobddbcalafhaaWBook
namespace Go.Proofs.Ytjobddbcalafhaa
open Go.RowKit

variable {w0 w w' : World} {L B : Nat} {v v' tv tv' : Value} {bs bs' : List UInt8} {s s' : Nat} {ss ss' : List (List UInt8)}
/-- A Log that was made behind w0, its disk too. -/
structure LM (w0 w : World) (L B : Nat) (v tv : Value) (bs : List UInt8) (s : Nat) (ss : List (List UInt8)) : Prop where
  lg : Lg w L B v tv bs s ss
  kept : Kept (fun _ => True) w0 w
  own : ∀ x, Foot L B v tv x → w0.heap.size ≤ x
theorem LM.step (h : LM w0 w L B v tv bs s ss) (l : Lg w' L B v' tv' bs' s' ss') (m : Moved (Foot L B v tv) (Foot L B v' tv') w w') : LM w0 w' L B v' tv' bs' s' ss' :=
  ⟨l, h.kept.then m.kept (fun i hi _ hF => by have := h.own i hF; omega), fun x hx => (m.new x hx).elim (h.own x) (fun e => Nat.le_trans h.kept.size e)⟩
theorem LM.ahead (h : LM w0 w L B v tv bs s ss) (k : Kept (fun _ => True) w w') : LM w0 w' L B v tv bs s ss := ⟨h.lg.kept k (fun _ _ => trivial), h.kept.trans k, h.own⟩
theorem LM.disk (h : LM w0 w L B v tv bs s ss) : Mine 44 w0 w B v bs s := ⟨h.lg.dk, h.kept, h.own B (.inr (.inl rfl)), fun x hx => h.own x (.inr (.inr (.inl hx)))⟩
theorem Mine.log (h : Mine 44 w0 w B v bs s) (l : Lg w' L B v' tv bs' s' ss) (k : Kept (fun x => x ≠ B ∧ v.ownBlock ≠ some x) w w') (n : ∀ x, Foot L B v' tv x → x = B ∨ v.ownBlock = some x ∨ w.heap.size ≤ x) : LM w0 w' L B v' tv bs' s' ss :=
  ⟨l, h.kept.then k (fun i hi _ => ⟨fun e => by have := h.b; omega, fun e => by have := h.row i e; omega⟩), fun x hx => by
    rcases n x hx with e | e | e
    · rw [e]; exact h.b
    · exact h.row x e
    · exact Nat.le_trans h.kept.size e⟩
/-- A row of texts that was made just now. -/
theorem Txs.new (w : World) (base : Nat) (ts : List (List UInt8)) (hb : base ≤ w.heap.size) (hl : ts.length ≤ 140737488355328) : Txs (w.alloc (.cells (srow ts).toArray 9)) base (.slice (some ⟨w.heap.size, 0, none⟩) ts.length ts.length) ts := Txs.block (heap_alloc_new w _) hb hl
theorem Txs.drewN {w : World} {base : Nat} {v : Value} {ss : List (List UInt8)} (h : Txs w base v ss) (n : Nat) : Txs (w.drewN n) base v ss := h.kept (p := fun _ => True) ((Kept.refl _ _).drewN n) (fun _ _ => trivial)

theorem View.own {w : World} {b n cap : Nat} {ao : Option Addr} {bs : List UInt8} (h : w.ownsRow b 5 1 (.slice ao n cap) n (cells bs)) (hl : bs.length = n) : View w ao n cap bs := by
  subst hl
  refine ⟨own_has h, rfl, ?_, ?_⟩
  · rcases h.2 with ⟨hv, h0⟩ | ⟨g, c, cur, hv, _, _, hc, _⟩
    · omega
    · injection hv with _ _ e3
      omega
  · rcases h.2 with ⟨hv, _⟩ | ⟨g, c, cur, hv, _⟩
    · injection hv with e1 e2 e3
      intro _; exact e3
    · injection hv with e1 e2 e3
      intro e; rw [e] at e1; cases e1
theorem run_a : scanOf [] = ([], 0) := rfl
theorem run_b : scanOf (([] ++ frameOf false [97] ++ frameOf false [98]).take (left ([] ++ frameOf false [97] ++ frameOf false [98]).length ([] ++ frameOf false [97]).length 3)) = ([[97]], 10) := by kernel_rfl
theorem run_c : scanOf (frameOf false [97] ++ frameOf false [98] ++ [7]) = ([[97], [98]], 20) := by kernel_rfl

set_option maxRecDepth 100000 in
set_option maxHeartbeats 2000000 in
theorem known_any {w : World} :
    Calls Try.prog 16 #[] w fun e w' => e = .returned (.bool true) ∧ Kept (fun _ => True) w w' := by
  go_enter Try.func16, Try.ntmps16
  go_wp2_with fail
  refine Calls.mono new_any ?_
  rintro e w1 ⟨rfl, d1, k1⟩
  have m1 := Mine.new d1 k1
  generalize w.heap.size = B at m1 ⊢
  clear d1 k1
  go_wp2_with fail
  refine Calls.mono (open_any m1.now) ?_
  rintro e w2 ⟨L, v2, t2, rfl, l2, k2, n2⟩
  have m2 : LM w w2 L B v2 t2 [] 0 [] := by have := m1.log l2 k2 n2; rw [run_a] at this; exact this
  clear l2 k2 n2 m1
  go_wp2_with fail
  refine Calls.mono (lappend_any m2.lg [97] (by simp) (by simp)) ?_
  rintro e w3 ⟨rfl, v3, t3, l3, q3⟩
  have m3 := m2.step l3 q3
  clear m2 l3 q3
  go_wp2_with fail
  refine Calls.mono (lsync_any m3.lg) ?_
  rintro e w4 ⟨rfl, l4, q4⟩
  have m4 := m3.step l4 q4
  clear m3 l4 q4
  go_wp2_with fail
  refine Calls.mono (lappend_any m4.lg [98] (by simp) (by simp [frameOf_length])) ?_
  rintro e w5 ⟨rfl, v5, t5, l5, q5⟩
  have m5 := m4.step l5 q5
  clear m4 l5 q5
  go_wp2_with fail
  refine Calls.mono (crash_any m5.lg.dk 3) ?_
  rintro e w6 ⟨rfl, v6, s6⟩
  have m6 := m5.disk.step s6
  clear m5 s6
  go_wp2_with fail
  refine Calls.mono (open_any m6.now) ?_
  rintro e w7 ⟨M, v7, t7, rfl, l7, k7, n7⟩
  have m7 := m6.log l7 k7 n7
  rw [show (scanOf _).1 = [[97]] from congrArg Prod.fst run_b] at m7
  clear l7 k7 n7 m6
  go_wp2_with fail
  refine Calls.mono (frame_at false [97] (by simp)) ?_
  rintro e w8 ⟨a8, c8, rfl, b8⟩
  go_wp2_with fail
  refine Calls.mono (frame_at false [98] (by simp)) ?_
  rintro e w9 ⟨a9, c9, rfl, b9⟩
  have b8' := b8.next b9.kept (fun _ _ => trivial) (fun _ _ => trivial)
  clear b8
  have B8 : Hid (Body w7 w9 a8 (9 + 1) c8 (frameOf false [97])) := b8'
  have B9 : Hid (Body w8 w9 a9 (9 + 1) c9 (frameOf false [98])) := b9
  have M7 : Hid (LM w w7 M B v7 t7 _ _ [[97]]) := m7
  have hs8 : Hid (w7.heap.size ≤ w9.heap.size) := b8'.kept.size
  clear b8' b9 m7
  go_wp2_with (first
    | (at_builtin; refine wpList_append_has rfl (.tmp 44) (.tmp 45) rfl w7.heap.size (.slice a8 (9 + 1) c8) (9 + 1) _ rfl B8.out.own hs8.out a9 (9 + 1) c9 rfl _ B9.out.len B9.out.nil B9.out.has (by omega) ?_; intro a10 c10 w10 ho10 hg10 hl10; have hsz := hg10.size; have HO10 : Hid (w10.ownsRow w7.heap.size 5 1 (.slice a10 20 c10) 20 (cells (frameOf false [97]) ++ cells (frameOf false [98]))) := ho10; clear ho10)
    | (at_builtin; refine wpList_append_has rfl (.tmp 46) (.tmp 47) rfl w7.heap.size (.slice a10 20 c10) 20 _ rfl (HO10.out.alloc _) (by have := hs8.out; simp; omega) (some ⟨w10.heap.size, 0, none⟩) 1 1 rfl [7] rfl (by simp) (has_row (heap_alloc_new w10 _)) (by omega) ?_; intro a11 c11 w11 ho11 hg11 hl11))
  have k10 : Kept (fun _ => True) w7 w10 := B8.out.kept.grown hg10 (fun k hk e => by have := (B8.out.own.lt k e).1; omega)
  have k11 : Kept (fun _ => True) w7 w11 := (k10.alloc _).grown hg11 (fun k hk e => by have := (HO10.out.lt k e).1; omega)
  rw [← cells_append, ← cells_append] at ho11
  have vw : View w11 a11 21 c11 (frameOf false [97] ++ frameOf false [98] ++ [7]) := View.own ho11 (by simp [frameOf_length])
  have m11 := M7.out.ahead k11
  clear ho11 hg11 hl11 hg10 hl10 k10 k11 HO10
  refine Calls.mono (scan_any vw (by omega)) ?_
  rintro e w12 ⟨x12, rfl, h12, k12⟩
  rw [run_c] at h12 ⊢
  obtain ⟨x12, y12, rfl, -, -⟩ := h12.shape
  have m12 := m11.ahead k12
  clear m11 vw k12
  go_wp2_with fail
  refine Calls.mono (lall_any m12.lg) ?_
  rintro e w13 ⟨rfl, h13, k13⟩
  have h12' := h12.kept k13 (fun _ _ => trivial)
  have K13 : Hid (Kept (fun _ => True) w w13) := m12.kept.trans k13
  have H13 : Hid (Txs w13 _ _ [[97]]) := h13
  have H12 : Hid (Txs w13 _ _ [[97], [98]]) := h12'
  clear m12 h12 k13 h12' h13
  go_wp2_with fail
  refine Calls.mono (texts_any (H13.out.fresh _) (Txs.new w13 w13.heap.size [[97]] (Nat.le_refl _) (by simp)) (by simp)) ?_
  rintro e w14 ⟨rfl, n14, rfl⟩
  rw [decide_eq_true rfl]
  have K14 : Hid (Kept (fun _ => True) w ((w13.alloc (.cells #[.string ⟨#[97]⟩] 9)).drewN n14)) := (K13.out.alloc _).drewN _
  have H14 : Hid (Txs ((w13.alloc (.cells #[.string ⟨#[97]⟩] 9)).drewN n14) _ _ [[97], [98]]) := (H12.out.fresh _).drewN _
  clear K13 H13 H12
  generalize (w13.alloc (.cells #[.string ⟨#[97]⟩] 9)).drewN n14 = w14 at *
  go_wp2_with fail
  refine Calls.mono (texts_any (H14.out.fresh _) (Txs.new w14 w14.heap.size [[97], [98]] (Nat.le_refl _) (by simp)) (by simp)) ?_
  rintro e w15 ⟨rfl, n15, rfl⟩
  rw [decide_eq_true rfl]
  go_wp2
  go_ret
  exact ⟨rfl, (K14.out.alloc _).drewN _⟩

end Go.Proofs.Ytjobddbcalafhaa
