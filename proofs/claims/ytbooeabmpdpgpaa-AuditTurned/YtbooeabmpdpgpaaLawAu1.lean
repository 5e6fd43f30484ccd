/-
  AuditBack: it answers true.
-/
import Derived.Test.YtbooeabmpdpgpaaU17
import Derived.Test.YtbooeabmpdpgpaaU18
namespace Go.Proofs.Ytbooeabmpdpgpaa
open Go.RowKit

theorem Tme.ok {r : Ur} (h : Tme r) : Okt r := by
  refine ⟨h.f, ?_, ?_, ?_, ?_⟩
  · rcases h.k with ⟨_, q⟩ | ⟨_, q | q⟩ <;> rw [q] <;> decide
  · rcases h.g with q | q | q <;> rw [q] <;> decide
  · rcases h.g with q | q | q <;> rw [q] <;> decide
  · rw [h.b]; decide
/-- With a byte more, or one less, it is none. -/
theorem Tme.more {r : Ur} (h : Tme r) : rec? (encR r ++ [120]) = none := by
  obtain ⟨k, tx, gs, bd⟩ := r
  obtain ⟨hk, hg, hb⟩ := h
  simp only at *
  subst hb
  rcases hk with ⟨rfl, rfl⟩ | ⟨rfl | rfl | rfl, rfl | rfl⟩ <;> rcases hg with rfl | rfl | rfl <;> kernel_rfl
theorem Tme.less {r : Ur} (h : Tme r) : rec? ((encR r).take ((encR r).length - 1)) = none := by
  obtain ⟨k, tx, gs, bd⟩ := r
  obtain ⟨hk, hg, hb⟩ := h
  simp only at *
  subst hb
  rcases hk with ⟨rfl, rfl⟩ | ⟨rfl | rfl | rfl, rfl | rfl⟩ <;> rcases hg with rfl | rfl | rfl <;> kernel_rfl

theorem Gv.gi {w : World} {a : Option Addr} {gs : List Nat} (h : Gv w a gs) : Gi w a (gs.map fun g : Nat => (g : Int)) := fun h0 => by
  rw [List.length_map] at h0
  obtain ⟨b, off, e, hb, hc⟩ := h h0
  refine ⟨b, off, e, hb, fun i hi => ?_⟩
  rw [List.length_map] at hi
  rw [hc i hi, List.getElem_map]
theorem Tme.len {r : Ur} (h : Tme r) : (encR r).length ≤ 20 ∧ 10 ≤ (encR r).length := by
  rw [encR_len, h.b]
  have h1 : r.tx.length ≤ 1 := by rcases h.k with ⟨_, q⟩ | ⟨_, q | q⟩ <;> rw [q] <;> decide
  have h2 : r.gs.length ≤ 3 := by rcases h.g with q | q | q <;> rw [q] <;> decide
  simp only [List.length_nil]
  omega
theorem str_add (s t : List UInt8) : ((⟨s.toArray⟩ : ByteArray) ++ ⟨t.toArray⟩) = ⟨(s ++ t).toArray⟩ := by
  apply ByteArray.ext
  simp
theorem str_cut (bs : List UInt8) (k : Nat) (hk : k ≤ bs.length) (w0 : World) : (Instr.slice 9 (.string ⟨bs.toArray⟩) none (some (.int .i64 (k : Nat))) none).run Try.prog w0 = .ok (.string ⟨(bs.take k).toArray⟩) w0 := by
  have hs : ((⟨bs.toArray⟩ : ByteArray).size : Int) = (bs.length : Int) := by simp [ByteArray.size]
  rw [run_slice_string_to_if (P := Try.prog) w0 9 ⟨bs.toArray⟩ .i64 k Try.underlying9, if_pos ⟨by omega, by omega⟩]
  congr 2
  apply ByteArray.ext
  simp

set_option maxRecDepth 100000 in
set_option maxHeartbeats 4000000 in
theorem auditBack_any (w : World) (x : Rr) : Calls Try.prog 8 #[.agg (rcell x).toArray] w fun e w' => e = .returned (.bool true) ∧ Kept (fun _ => True) w w' := by
  obtain ⟨⟨k, tx, gs, bd⟩, a, c⟩ := x
  unfold rcell
  simp only
  generalize gs.length = n
  obtain ⟨w1, hw1⟩ : ∃ x, x = w.alloc (.cells #[.int .i64 k, .string ⟨tx.toArray⟩, .slice a n c, .string ⟨bd.toArray⟩] 24) := ⟨_, rfl⟩
  have k1 : Kept (fun _ => True) w w1 := by rw [hw1]; exact (Kept.refl _ _).alloc _
  have F1 : Four4 w1 w.heap.size 24 (.int .i64 k) (.string ⟨tx.toArray⟩) (.slice a n c) (.string ⟨bd.toArray⟩) := by rw [hw1]; exact heap_alloc_new w _
  have HF1 : Hid (Four4 w1 w.heap.size 24 (.int .i64 k) (.string ⟨tx.toArray⟩) (.slice a n c) (.string ⟨bd.toArray⟩)) := F1
  have K1 : Hid (Kept (fun _ => True) w w1) := k1
  obtain ⟨x0, x1, x2, x3⟩ := F1.cell
  have CT := tame_any w1 k tx bd a n c
  clear F1 k1
  go_enter Try.func8, Try.ntmps8
  go_upto_region 1 with fail
  rw [← hw1]
  clear hw1
  obtain ⟨X, hX⟩ : ∃ X, X = w.heap.size := ⟨_, rfl⟩
  have HX : Hid (X = w.heap.size) := hX
  rw [← hX] at x0 x1 x2 x3 HF1 ⊢
  clear hX
  go_upto_region 2 with (go_at_call 23; (with_reducible refine Calls.mono CT ?_); rintro e w2 ⟨r, G, hr, rfl, hi2, k2⟩; have HR : Hid (Tme r) := hr; have F2 := HF1.out.kept k2 trivial; obtain ⟨x0, x1, x2, x3⟩ := F2.cell; have xf := F2.free; have HI2 : Hid (Its w2 w1.heap.size (.slice (some ⟨G, 0, none⟩) r.gs.length r.gs.length) r.gs) := hi2; have K2 : Hid (Kept (fun _ => True) w w2) := K1.out.trans k2; clear hi2 hr k2)
  obtain ⟨rk, rtx, rgs, rbd⟩ := r
  obtain rfl : rbd = [] := HR.out.b
  simp only at xf HI2 ⊢
  obtain ⟨w3, hw3⟩ : ∃ x, x = ((((w2.setCell ⟨X, 0, none⟩ (.int .i64 (rk : Nat))).setCell ⟨X, 1, none⟩ (.string ⟨rtx.toArray⟩)).setCell ⟨X, 2, none⟩ (.slice (some ⟨G, 0, none⟩) rgs.length rgs.length)).setCell ⟨X, 3, none⟩ (.string ⟨#[]⟩)) := ⟨_, rfl⟩
  have F3 : Four4 w3 X 24 (.int .i64 (rk : Nat)) (.string ⟨rtx.toArray⟩) (.slice (some ⟨G, 0, none⟩) rgs.length rgs.length) (.string ⟨#[]⟩) := by rw [hw3]; exact (((F2.set0 _).set1 _).set2 _).set3 _
  have hzw : w.heap.size ≤ X := by rw [HX.out]; exact Nat.le_refl _
  have K3 : Hid (Kept (fun _ => True) w w3) := by show Kept _ _ _; rw [hw3]; exact kept_fresh (kept_fresh (kept_fresh (kept_fresh K2.out hzw _) hzw _) hzw _) hzw _
  have HI3 : Hid (Its w3 w1.heap.size (.slice (some ⟨G, 0, none⟩) rgs.length rgs.length) rgs) := by
    show Its _ _ _ _
    have hne : ∀ y, (Value.slice (some ⟨G, 0, none⟩) rgs.length rgs.length).ownBlock = some y → y ≠ X := fun y hy => by have := (World.ownsRow.lt HI2.out y hy).1; have := HF1.out.lt; omega
    rw [hw3]
    exact (((HI2.out.kept kept_set hne).kept kept_set hne).kept kept_set hne).kept kept_set hne
  rw [← hw3]
  clear hw3 F2 xf x0 x1 x2 x3 HI2 K2 hzw
  obtain ⟨x0, x1, x2, x3⟩ := F3.cell
  have HF3 : Hid (Four4 w3 X 24 (.int .i64 (rk : Nat)) (.string ⟨rtx.toArray⟩) (.slice (some ⟨G, 0, none⟩) rgs.length rgs.length) (.string ⟨#[]⟩)) := F3
  clear F3
  obtain ⟨S, hS⟩ : ∃ S, S = encR ⟨rk, rtx, rgs, []⟩ := ⟨_, rfl⟩
  have CX : Calls Try.prog 21 #[.agg #[.int .i64 (rk : Nat), .string ⟨rtx.toArray⟩, .slice (some ⟨G, 0, none⟩) rgs.length rgs.length, .string ⟨#[]⟩]] w3 fun e w' => e = .returned (.string ⟨S.toArray⟩) ∧ Kept (fun _ => True) w3 w' := by
    have ok := HR.out.ok
    have := textA_any (w := w3) (r := (⟨rk, rtx, rgs, []⟩ : Ur).ui) (ao := some ⟨G, 0, none⟩) (cap := rgs.length) HI3.out.gv.gi (by have := ok.n; simp only [Ur.ui, List.length_map] at *; omega) (by have := ok.t; simp only [Ur.ui] at *; omega) (by simp [Ur.ui])
    rw [encU_nat ok, ← hS] at this
    unfold Ui.val at this
    simp only [Ur.ui, List.length_map] at this
    exact this
  have hlen := HR.out.len
  have R1 : rec? S = some ⟨rk, rtx, rgs, []⟩ := by rw [hS]; exact HR.out.ok.back
  have R2 : rec? (S ++ [120]) = none := by rw [hS]; exact HR.out.more
  have R3 : rec? (S.take (S.length - 1)) = none := by rw [hS]; exact HR.out.less
  rw [← hS] at hlen
  clear hS
  have CR1 : ∀ W, Calls Try.prog 17 #[.string ⟨S.toArray⟩] W fun e w' => (∃ a c, e = .returned (.tuple #[.agg #[.int .i64 (rk : Nat), .string ⟨rtx.toArray⟩, .slice a rgs.length c, .string ⟨#[]⟩], .int .i64 0]) ∧ Its w' W.heap.size (.slice a rgs.length c) rgs) ∧ Kept (fun _ => True) W w' := fun W => by
    refine (readA_any (w := W) (bs := S) (by omega)).mono ?_
    rintro e w' ⟨⟨h, _⟩ | ⟨r, a, c, h, he, hi⟩, k⟩
    · rw [R1] at h; cases h
    · rw [R1] at h
      cases h
      exact ⟨⟨a, c, he, hi⟩, k⟩
  have CR2 : ∀ W, Calls Try.prog 17 #[.string ⟨(S ++ [120]).toArray⟩] W fun e w' => e = .returned (.tuple #[.agg #[.int .i64 0, .string ⟨#[]⟩, .slice none 0 0, .string ⟨#[]⟩], .int .i64 12]) ∧ Kept (fun _ => True) W w' := fun W => by
    refine (readA_any (w := W) (bs := S ++ [120]) (by rw [List.length_append]; simp only [List.length_cons, List.length_nil]; omega)).mono ?_
    rintro e w' ⟨⟨h, he⟩ | ⟨r, a, c, h, he, hi⟩, k⟩
    · exact ⟨he, k⟩
    · rw [R2] at h; cases h
  have CR3 : ∀ W, Calls Try.prog 17 #[.string ⟨(S.take (S.length - 1)).toArray⟩] W fun e w' => e = .returned (.tuple #[.agg #[.int .i64 0, .string ⟨#[]⟩, .slice none 0 0, .string ⟨#[]⟩], .int .i64 12]) ∧ Kept (fun _ => True) W w' := fun W => by
    refine (readA_any (w := W) (bs := S.take (S.length - 1)) (by rw [List.length_take]; omega)).mono ?_
    rintro e w' ⟨⟨h, he⟩ | ⟨r, a, c, h, he, hi⟩, k⟩
    · exact ⟨he, k⟩
    · rw [R3] at h; cases h
  have hcut := fun W : World => str_cut S (S.length - 1) (by omega) W
  have hn1 : ((S.length - 1 : Nat) : Int) = (S.length : Int) - 1 := by omega
  have hl0 : ((S.length : Int) == 0) = false := beq_eq_false_iff_ne.2 (by omega)
  rw [hn1] at hcut
  have hsp : ((⟨S.toArray⟩ : ByteArray) ++ ⟨#[120]⟩) = ⟨(S ++ [120]).toArray⟩ := str_add S [120]
  rw [← hsp] at CR2
  clear hsp
  generalize S.take (S.length - 1) = S3 at *
  clear R1 R2 R3 hn1
  go_upto_region 3 with (go_at_call 21; (with_reducible refine Calls.mono CX ?_); rintro e w4 ⟨rfl, k4⟩)
  obtain ⟨x0, x1, x2, x3⟩ := (HF3.out.kept k4 trivial).cell
  go_upto_region 4 with (go_at_call 17; (with_reducible refine Calls.mono (CR1 _) ?_); rintro e w5 ⟨⟨a5, c5, rfl, hi5⟩, k5⟩)
  obtain ⟨w6, hw6⟩ : ∃ x, x = w5.alloc (.cells #[.int .i64 (rk : Nat), .string ⟨rtx.toArray⟩, .slice a5 rgs.length c5, .string ⟨#[]⟩] 24) := ⟨_, rfl⟩
  have k6 : Kept (fun _ => True) w5 w6 := by rw [hw6]; exact (Kept.refl _ _).alloc _
  have F6 : Hid (Four4 w6 w5.heap.size 24 (.int .i64 (rk : Nat)) (.string ⟨rtx.toArray⟩) (.slice a5 rgs.length c5) (.string ⟨#[]⟩)) := by show Four4 _ _ _ _ _ _ _; rw [hw6]; exact heap_alloc_new w5 _
  have HI6 : Hid (Its w6 w4.heap.size (.slice a5 rgs.length c5) rgs) := hi5.kept k6 (fun _ _ => trivial)
  have K36 : Hid (Kept (fun _ => True) w3 w6) := (k4.trans k5).trans k6
  rw [← hw6]
  clear hw6 k4 k5 k6 hi5 CR1 CX x0 x1 x2 x3
  generalize w5.heap.size = Y at *
  go_upto_region 5 with (go_at_call 17; (with_reducible refine Calls.mono (CR2 _) ?_); rintro e w7 ⟨rfl, k7⟩)
  have K67 : Hid (Kept (fun _ => True) w6 (w7.alloc (.cells #[.int .i64 0, .string ⟨#[]⟩, .slice none 0 0, .string ⟨#[]⟩] 24))) := k7.alloc _
  clear k7 CR2
  generalize w7.alloc (.cells #[.int .i64 0, .string ⟨#[]⟩, .slice none 0 0, .string ⟨#[]⟩] 24) = w8 at *
  go_upto_region 8 with (go_at_call 17; (with_reducible refine Calls.mono (CR3 _) ?_); rintro e w9 ⟨rfl, k9⟩)
  have K8 : Hid (Kept (fun _ => True) w6 (w9.alloc (.cells #[.int .i64 0, .string ⟨#[]⟩, .slice none 0 0, .string ⟨#[]⟩] 24))) := (K67.out.trans k9).alloc _
  clear k9 CR3 K67 hcut
  generalize w9.alloc (.cells #[.int .i64 0, .string ⟨#[]⟩, .slice none 0 0, .string ⟨#[]⟩] 24) = w10 at *
  obtain ⟨x0, x1, x2, x3⟩ := (HF3.out.kept (K36.out.trans K8.out) trivial).cell
  obtain ⟨y0, y1, y2, y3⟩ := (F6.out.kept K8.out trivial).cell
  have i1 := HI6.out.kept K8.out (fun _ _ => trivial)
  have i2 := HI3.out.kept (K36.out.trans K8.out) (fun _ _ => trivial)
  have CS := isame_any i1 i2 (by have := HR.out.ok.n; simp only at this; omega)
  have CK := fun W : World => known_any W
  clear i1 i2
  go_wp2_with (first
    | (go_at_call 13; (with_reducible refine Calls.mono CS ?_); rintro e w11 ⟨rfl, m11, rfl⟩)
    | (go_at_call 16; (with_reducible refine Calls.mono (CK _) ?_); rintro e w12 ⟨rfl, k12⟩))
  go_ret
  exact ⟨rfl, ((K3.out.trans K36.out).trans K8.out).trans (((Kept.refl _ _).drewN _).trans k12)⟩

end Go.Proofs.Ytbooeabmpdpgpaa
