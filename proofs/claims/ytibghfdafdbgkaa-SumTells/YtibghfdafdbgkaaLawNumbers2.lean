/-
  SumNumbers: it answers true.
-/
import Derived.Test.YtibghfdafdbgkaaSSha
import Derived.Test.YtibghfdafdbgkaaSHash
namespace Go.Proofs.Ytibghfdafdbgkaa
open Go.RowKit

theorem shaOf_length (bs : List UInt8) : (shaOf bs).length = 32 := by
  have : shaOf bs = out4 (h0.blocks (padded bs) ((bs.length + 72) / 64)).words := rfl
  rw [this, out4_length]
  rfl
/-- An array of bytes as a slice. -/
theorem Ar.whole {w : World} {b t : Nat} {bs : List UInt8} (h : Ar w b t (cells bs)) : Has w (some ⟨b, 0, none⟩) bs := by
  intro _
  refine ⟨_, rfl, fun j hj => ?_⟩
  rw [WideShapes.add_plain, Nat.zero_add, h.cell j, cells_getElem bs j hj]
/-- What make leaves reads as noughts. -/
theorem own_zeros {w : World} {base g n : Nat} (h : w.ownsRow base 5 1 (.slice (some ⟨g, 0, none⟩) n n) n (madeCells (Value.int .u8 0).cells (n * 1)).toList) : Has w (some ⟨g, 0, none⟩) (List.replicate n 0) := by
  have e : (madeCells (Value.int .u8 0).cells (n * 1)).toList = cells (List.replicate n 0) := by
    rw [Nat.mul_one]
    exact (toList_madeCells_one (Value.int .u8 0) n).trans (zeros_b n)
  rw [e] at h
  exact own_has (bs := List.replicate n 0) (n := n) (cap := n) (b := base) (by rw [List.length_replicate]; exact h)

def abc : List UInt8 := [97, 98, 99]

set_option maxRecDepth 100000 in
set_option maxHeartbeats 1000000 in
theorem sumNumbers_any (w : World) : Calls Try.prog 3 #[] w fun e w' => e = .returned (.bool true) ∧ Kept (fun _ => True) w w' := by
  obtain ⟨i, hi, hz0, hz1, hz2⟩ := info_parts Try.infoU8
  have cs : (convert 24 24 (.slice (some ⟨w.heap.size, 0, none⟩) 3 3)).run Try.prog (w.alloc (.cells #[.int .u8 97, .int .u8 98, .int .u8 99] 5)) = _ := conv_const w abc 3 3
  have h1 : Has (w.alloc (.cells (cells abc).toArray 5 ((cells abc).toArray.size, (cells abc).toArray.size + 1))) (some ⟨w.heap.size, 0, none⟩) abc := has_row (heap_alloc_new w _)
  have k1 : Kept (fun _ => True) w (w.alloc (.cells (cells abc).toArray 5 ((cells abc).toArray.size, (cells abc).toArray.size + 1))) := (Kept.refl _ _).alloc _
  generalize w.alloc (.cells (cells abc).toArray 5 ((cells abc).toArray.size, (cells abc).toArray.size + 1)) = w1 at *
  have c1 := sha_any (cap := 3) h1 (by decide) (by decide)
  obtain ⟨A, hA⟩ : ∃ A, A = shaOf abc := ⟨_, rfl⟩
  have lA : A.length = 32 := by rw [hA]; exact shaOf_length _
  have HA : Hid (hexOf A = hexOf (shaOf [97, 98, 99])) := by rw [hA]; rfl
  rw [← hA] at c1
  obtain ⟨B, hB⟩ : ∃ B, B = shaOf [] := ⟨_, rfl⟩
  have lB : B.length = 32 := by rw [hB]; exact shaOf_length _
  have HB : Hid (hexOf B = hexOf (shaOf [])) := by rw [hB]; rfl
  have cB : ∀ w0, Calls Try.prog 8 #[.slice none 0 0] w0 fun e w' => e = .returned (.agg (cells B).toArray) ∧ Kept (fun _ => True) w0 w' := fun w0 => by rw [hB]; exact sha_any (bs := []) (by intro h; simp at h) (by decide) (by decide)
  obtain ⟨C, hC⟩ : ∃ C, C = shaOf (List.replicate 64 0) := ⟨_, rfl⟩
  have lC : C.length = 32 := by rw [hC]; exact shaOf_length _
  have HC : Hid (hexOf C = hexOf (shaOf (List.replicate 64 0))) := by rw [hC]; rfl
  have cC : ∀ w0 g, Has w0 (some ⟨g, 0, none⟩) (List.replicate 64 0) → Calls Try.prog 8 #[.slice (some ⟨g, 0, none⟩) 64 64] w0 fun e w' => e = .returned (.agg (cells C).toArray) ∧ Kept (fun _ => True) w0 w' := fun w0 g h => by rw [hC]; exact sha_any (cap := 64) h (by decide) (by decide)
  clear hA hB hC h1
  have oA := cells_one A
  have oB := cells_one B
  have oC := cells_one C
  have lA' : (cells A).length = 32 := by rw [cells_length, lA]
  have lB' : (cells B).length = 32 := by rw [cells_length, lB]
  have lC' : (cells C).length = 32 := by rw [cells_length, lC]
  have b1 : i.bytes * 64 ≤ 281474976710656 := by rw [hz2]; omega
  have b2 : 64 ≤ maxLen := by unfold maxLen; omega
  go_enter Try.func3, Try.ntmps3
  go_wp2_with fail
  refine Calls.mono c1 ?_
  rintro e w2 ⟨rfl, k2⟩
  clear c1 cs
  go_wp2_with (first
    | ((with_reducible refine w_alloc (d := some 1) arr32 ?_); intro w3 a1 k3 s3)
    | ((with_reducible apply w_store (x := .tmp 1) (b := w2.heap.size) (xs := cells A) (old := List.replicate 32 (.int .u8 0)) arr32); (case hx => rfl); (case hy => rfl); (case ha => exact a1); (case ho => simp); (case hl => exact lA'); (case h1 => exact oA); intro w4 a1' k4 s4))
  refine Calls.mono (cB _) ?_
  rintro e w5 ⟨rfl, k5⟩
  clear cB
  go_wp2_with (first
    | ((with_reducible refine w_alloc (d := some 2) arr32 ?_); intro w6 a2 k6 s6)
    | ((with_reducible apply w_store (x := .tmp 2) (b := w5.heap.size) (xs := cells B) (old := List.replicate 32 (.int .u8 0)) arr32); (case hx => rfl); (case hy => rfl); (case ha => exact a2); (case ho => simp); (case hl => exact lB'); (case h1 => exact oB); intro w7 a2' k7 s7)
    | (at_make; refine wpList_make_full _ rfl _ _ 24 rfl w7.heap.size 5 i (.int .u8 0) 1 Try.underlying24 hi hz0 hz1 _ _ _ _ 64 rfl rfl (by simp) (by simp) b1 b2 (Nat.le_refl _) ?_; intro w8 hown hg))
  have h8 := own_zeros hown
  have k8 : Kept (fun _ => True) w7 w8 := (Kept.refl _ _).grown hg (fun k _ h => by cases h)
  clear hown hg
  refine Calls.mono (cC _ _ h8) ?_
  rintro e w9 ⟨rfl, k9⟩
  clear cC h8
  go_wp2_with (first
    | ((with_reducible refine w_alloc (d := some 3) arr32 ?_); intro w10 a3 k10 s10)
    | ((with_reducible apply w_store (x := .tmp 3) (b := w9.heap.size) (xs := cells C) (old := List.replicate 32 (.int .u8 0)) arr32); (case hx => rfl); (case hy => rfl); (case ha => exact a3); (case ho => simp); (case hl => exact lC'); (case h1 => exact oC); intro w11 a3' k11 s11))
  have z1 := k1.size
  have z2 := k2.size
  have z3 := s3.out
  have z4 := s4.out
  have z5 := k5.size
  have z6 := s6.out
  have z7 := s7.out
  have z8 := k8.size
  have z9 := k9.size
  have z10 := s10.out
  have K411 : Kept (fun x => x ≠ w5.heap.size ∧ x ≠ w9.heap.size) w4 w11 := (((((k5.mono (fun _ _ _ => trivial)).trans (k6.mono (fun _ _ _ => trivial))).trans (k7.mono (fun _ _ h => h.1))).trans (k8.mono (fun _ _ _ => trivial))).trans ((k9.trans k10).mono (fun _ _ _ => trivial))).trans (k11.mono (fun _ _ h => h.2))
  have K711 : Kept (fun x => x ≠ w9.heap.size) w7 w11 := ((k8.trans (k9.trans k10)).mono (fun _ _ _ => trivial)).trans k11
  have A1 := a1'.kept K411 ⟨by omega, by omega⟩
  have A2 := a2'.kept K711 (by omega)
  have K011 : Kept (fun _ => True) w w11 := (((k1.trans k2).trans k3).then k4 (fun i hi _ => by omega)).then K411 (fun i hi _ => ⟨by omega, by omega⟩)
  clear z1 z2 z3 z4 z5 z6 z7 z8 z9 z10 K411 K711 k1 k2 k3 k4 k5 k6 k7 k8 k9 k10 k11 s3 s4 s6 s7 s10 s11 a1 a1' a2 a2' a3 oA oB oC lA' lB' lC' b1 b2
  generalize w2.heap.size = B1 at *
  generalize w5.heap.size = B2 at *
  generalize w9.heap.size = B3 at *
  have x1 := hex_any (cap := 32) A1.whole (by omega)
  rw [lA, HA.out, sha_abc] at x1
  refine Calls.mono x1 ?_
  rintro e w12 ⟨rfl, k12⟩
  clear x1
  have x2 := hex_any (cap := 32) (A2.kept k12 trivial).whole (by omega)
  rw [lB, HB.out, sha_none] at x2
  go_wp2_with fail
  refine Calls.mono x2 ?_
  rintro e w13 ⟨rfl, k13⟩
  clear x2
  have x3 := hex_any (cap := 32) ((a3'.kept k12 trivial).kept k13 trivial).whole (by omega)
  rw [lC, HC.out, sha_zeros] at x3
  go_wp2_with fail
  refine Calls.mono x3 ?_
  rintro e w14 ⟨rfl, k14⟩
  clear x3
  have x4 : Calls Try.prog 10 #[.slice none 0 0] w14 fun e w' => e = .returned (.int .u32 0) ∧ w' = w14 := by
    have := crc_any (w := w14) (ao := none) (cap := 0) (bs := []) (by intro h; simp at h) (by decide)
    rw [crc_none] at this
    exact this
  go_wp2_with fail
  refine Calls.mono x4 ?_
  rintro e w14 ⟨rfl, rfl⟩
  clear x4
  have x5 : Calls Try.prog 9 #[.slice none 0 0] w14 fun e w' => e = .returned (.string ⟨#[]⟩) ∧ Kept (fun _ => True) w14 w' := hex_any (w := w14) (ao := none) (cap := 0) (bs := []) (by intro h; simp at h) (by decide)
  go_wp2_with fail
  refine Calls.mono x5 ?_
  rintro e w15 ⟨rfl, k15⟩
  clear x5
  have x6 : Calls Try.prog 11 #[.string ⟨#[49, 50, 51, 52, 53, 54, 55, 56, 57]⟩] w15 fun e w' => e = .returned (.int .i64 38) ∧ Kept (fun _ => True) w15 w' := by
    have := hash_any (w := w15) kc (by decide)
    rw [show hashOf kc = 38 by unfold hashOf; rw [show crcOf kc = 3421780262 from crc_run]] at this
    exact this
  go_wp2_with fail
  refine Calls.mono x6 ?_
  rintro e w16 ⟨rfl, k16⟩
  clear x6
  have x7 := known_any w16
  go_wp2_with fail
  refine Calls.mono x7 ?_
  rintro e w17 ⟨rfl, k17⟩
  go_wp2
  go_ret
  exact ⟨rfl, ((((((K011.trans k12).trans k13).trans k14).trans k15).trans k16).trans k17)⟩

end Go.Proofs.Ytibghfdafdbgkaa
