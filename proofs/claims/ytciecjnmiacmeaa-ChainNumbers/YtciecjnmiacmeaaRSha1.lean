/-
  The document's own turn and constants (conclaveref2), and what its Sha is made of.
-/
import Derived.Test.YtciecjnmiacmeaaSSha
namespace Go.Proofs.Ytciecjnmiacmeaa
open Go.RowKit

theorem rturn_eq (x n : Nat) (hx : x < 4294967296) : bits BinOp.or .u32 ((x : Int) / 2 ^ n) ((x : Int) * 2 ^ (32 - n) % 4294967296) = ((rotr x n : Nat) : Int) := by
  have e1 : (x : Int) / 2 ^ n = ((x / 2 ^ n : Nat) : Int) := by simp
  have e2 : (x : Int) * 2 ^ (32 - n) % 4294967296 = ((x * 2 ^ (32 - n) % 4294967296 : Nat) : Int) := by simp
  rw [e1, e2, u32_or_nat _ _ (div_lt32 _ hx) (Nat.mod_lt _ (by decide))]
  rfl

set_option maxHeartbeats 1000000 in
theorem rturn_any {w : World} (x n : Nat) (hx : x < 4294967296) (h0 : 0 < n) (h1 : n < 32) :
    Calls Try.prog 56 #[.int .u32 x, .int .u64 n] w fun e w' => e = .returned (.int .u32 (rotr x n : Nat)) ∧ w' = w := by
  have hr := rturn_eq x n hx
  go_enter Try.func56, Try.ntmps56
  go_wp2
  go_ret
  exact ⟨rfl, rfl⟩

set_option maxRecDepth 100000 in
set_option maxHeartbeats 400000 in
theorem rconst_any {w : World} : Calls Try.prog 55 #[] w fun e w' => e = .returned (.agg (wcells kOf).toArray) ∧ Kept (fun _ => True) w w' := by
  obtain ⟨ks, HK, lk, lk', ok, bk⟩ := ks_any
  have e : kOf = ks := HK.out.symm
  rw [e]
  clear e bk
  go_enter Try.func55, Try.ntmps55
  go_wp2_with (first
    | ((with_reducible refine w_alloc (d := some 0) arr64 ?_); intro w3 a5 k3 s3)
    | (with_reducible refine w_build ks lk (by rw [HK.out]; kernel_rfl) ?_)
    | ((with_reducible apply w_store (x := .tmp 0) (b := w.heap.size) (xs := wcells ks) (old := List.replicate 64 (.int .u32 0)) arr64); (case hx => rfl); (case hy => rfl); (case ha => exact a5); (case ho => simp); (case hl => exact lk'); (case h1 => exact ok); intro w4 a6 k4 s4))
  refine bodyPost_ret (results_ar (p := 0) arr64 rfl _ _ rfl a6 lk') rfl ⟨rfl, k3.then k4 (fun i hi _ => by omega)⟩

end Go.Proofs.Ytciecjnmiacmeaa
