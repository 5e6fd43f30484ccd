/-
  SumLengths: it answers true for every number.
-/
import Derived.Test.YtibghfdafdbgkaaLawNumbers2
import Derived.Test.YtibghfdafdbgkaaSWithin
import Derived.Test.YtibghfdafdbgkaaRSha
import Derived.Stop.BytesEq
namespace Go.Proofs.Ytibghfdafdbgkaa
open Go.RowKit

/-- Two arrays of the same bytes are equal. -/
theorem sum_eq (bs : List UInt8) (h : bs.length = 32) (w0 : World) : (Op.equalIn 10000 22 (.agg (cells bs).toArray) (.agg (cells bs).toArray)).run Try.prog w0 = .ok true w0 := by
  have hz : ∀ w, (sizeOf 5).run Try.prog w = .ok 1 w := fun w => by have := size_u8 w; rwa [Try.elemBytes] at this
  have := run_equalIn_bytes (P := Try.prog) w0 9998 22 5 32 Try.underlying22 Try.underlying5 hz bs bs h h
  rw [beq_self_eq_true] at this
  exact this
theorem sum_guard : Try.prog.eqGuardType Try.prog.depth 22 = false := by kernel_rfl

set_option maxRecDepth 100000 in
set_option maxHeartbeats 1000000 in
theorem sumLengths_any (w : World) (n : Int) : Calls Try.prog 6 #[.int .i64 n] w fun e w' => e = .returned (.bool true) ∧ Kept (fun _ => True) w w' := by
  obtain ⟨i, hi, hz0, hz1, hz2⟩ := info_parts Try.infoU8
  have cw : Calls Try.prog 19 #[.int .i64 n, .int .i64 0, .int .i64 200] w fun e w' => (∃ k : Nat, k ≤ 200 ∧ e = .returned (.int .i64 k)) ∧ w' = w := within_any n 200 (by decide)
  go_enter Try.func6, Try.ntmps6
  go_wp2_with fail
  refine Calls.mono cw ?_
  rintro e w ⟨⟨k, hk, rfl⟩, rfl⟩
  clear cw
  have b1 : i.bytes * k ≤ 281474976710656 := by rw [hz2]; omega
  have b2 : k ≤ maxLen := by unfold maxLen; omega
  have hk0 : (0 : Int) ≤ (k : Int) := by omega
  have hk2 : (k : Int) ≤ 200 := by omega
  go_wp2_with (at_make; refine wpList_make_full _ rfl _ _ 24 rfl w.heap.size 5 i (.int .u8 0) 1 Try.underlying24 hi hz0 hz1 _ _ _ _ k rfl rfl rfl rfl b1 b2 (Nat.le_refl _) ?_; intro w1 hown hg)
  have h1 := own_zeros hown
  have k1 : Kept (fun _ => True) w w1 := (Kept.refl _ _).grown hg (fun k _ h => by cases h)
  obtain ⟨Z, hZ⟩ : ∃ Z : List UInt8, Z = List.replicate k 0 := ⟨_, rfl⟩
  have lZ : Z.length = k := by rw [hZ, List.length_replicate]
  rw [← hZ] at h1
  clear hown hg hZ
  subst lZ
  have c1 := sha_any (cap := Z.length) h1 (Nat.le_refl _) (by omega)
  have he := sum_eq (shaOf Z) (shaOf_length Z)
  have hg := sum_guard
  obtain ⟨xs, hxs⟩ : ∃ xs, xs = cells (shaOf Z) := ⟨_, rfl⟩
  rw [← hxs] at he
  rw [← hxs] at c1
  refine Calls.mono c1 ?_
  rintro e w2 ⟨rfl, k2⟩
  clear c1
  have c2 := rsha_any (cap := Z.length) (h1.kept k2 (fun _ _ => trivial)) (by intro h; cases h) (by omega)
  rw [← hxs] at c2
  clear hxs
  go_wp2_with fail
  refine Calls.mono c2 ?_
  rintro e w3 ⟨rfl, k3⟩
  clear c2
  have c3 := crc_any (cap := Z.length) ((h1.kept k2 (fun _ _ => trivial)).kept k3 (fun _ _ => trivial)) (by omega)
  have c4 := rcrc_any (cap := Z.length) ((h1.kept k2 (fun _ _ => trivial)).kept k3 (fun _ _ => trivial)) (by omega)
  clear h1
  generalize crcOf Z = s at *
  go_wp2_with fail
  refine Calls.mono c3 ?_
  rintro e w3 ⟨rfl, rfl⟩
  go_wp2_with fail
  refine Calls.mono c4 ?_
  rintro e w3 ⟨rfl, rfl⟩
  have c5 := known_any w3
  go_wp2_with fail
  refine Calls.mono c5 ?_
  rintro e w4 ⟨rfl, k4⟩
  go_wp2
  go_ret
  exact ⟨rfl, ((k1.trans k2).trans k3).trans k4⟩

end Go.Proofs.Ytibghfdafdbgkaa
