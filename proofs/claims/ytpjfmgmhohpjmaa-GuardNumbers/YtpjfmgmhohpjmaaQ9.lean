/-
  Slices of texts and of numbers that were made just now; the law's known.
-/
import Derived.Test.YtpjfmgmhohpjmaaQ8
import Derived.Test.YtpjfmgmhohpjmaaWStr
namespace Go.Proofs.Ytpjfmgmhohpjmaa
open Go.RowKit

/-- A frame without block P, for what was there ahead of it. -/
theorem Kept.fresh {P : Nat} {a b c : World} (h : Kept (fun _ => True) a b) (k : Kept (· ≠ P) b c) (hP : a.heap.size ≤ P) : Kept (fun _ => True) a c :=
  h.then k (fun i hi _ => by omega)
/-- Numbers as cells. -/
def nrow (xs : List Int) : List Value := xs.map fun n => .int .i64 n
theorem Ns.new {w : World} {g cap : Nat} {ns : List (List UInt8)} {fr : Nat × Nat} (h : w.heap[g]? = some (.cells (srow ns).toArray 9 fr)) (hl : ns.length ≤ 1000000) : Ns w (.slice (some ⟨g, 0, none⟩) ns.length cap) ns := by
  refine ⟨_, _, rfl, hl, fun _ => ⟨g, 0, rfl, lt_of_block h, fun i hi => ?_⟩⟩
  rw [cell_of_row w g _ _ _ _ h, Nat.zero_add]
  have := srow_get ns i hi
  simpa using this
theorem Vi.new {w : World} {g cap : Nat} {xs : List Int} {fr : Nat × Nat} (h : w.heap[g]? = some (.cells (nrow xs).toArray 3 fr)) : Vi w (.slice (some ⟨g, 0, none⟩) xs.length cap) xs := by
  refine ⟨_, _, rfl, fun _ => ⟨g, 0, rfl, lt_of_block h, fun i hi => ?_⟩⟩
  rw [cell_of_row w g _ _ _ _ h, Nat.zero_add]
  simp [nrow, hi]
theorem Ns.nil (w : World) : Ns w (.slice none 0 0) [] := ⟨none, 0, rfl, by simp, fun h => by simp at h⟩
theorem Txs.ns {w : World} {base : Nat} {v : Value} {ss : List (List UInt8)} (h : Txs w base v ss) (hl : ss.length ≤ 1000000) : Ns w v ss := by
  obtain ⟨ao, cap, rfl, hc, hg⟩ := h.shape
  refine ⟨ao, cap, rfl, hl, fun h0 => ?_⟩
  obtain ⟨g, rfl⟩ := hg h0
  refine ⟨g, 0, rfl, ?_, fun i hi => by rw [Nat.zero_add]; exact h.cell i hi⟩
  exact World.block_lt_of_cell? w _ (h.cell 0 h0)

set_option maxRecDepth 100000 in
set_option maxHeartbeats 1000000 in
theorem known_any {w : World} : Calls Try.prog 18 #[] w fun e w' => e = .returned (.bool true) ∧ Kept (fun _ => True) w w' := by
  obtain ⟨x1, x2⟩ := alloc_two w (.cells #[.string ⟨#[97]⟩, .string ⟨#[98]⟩] 9) (.cells #[.int .i64 3, .int .i64 0] 3)
  have ce := eval_any (Ns.new (ns := [[97], [98]]) (cap := 2) x1 (by decide)) (Vi.new (xs := [3, 0]) (cap := 2) x2) (s := [97, 110, 100, 32, 108, 116, 32, 97, 32, 53, 32, 110, 111, 116, 32, 98]) (by decide)
  have e1 : evl [[97], [98]] [3, 0] [97, 110, 100, 32, 108, 116, 32, 97, 32, 53, 32, 110, 111, 116, 32, 98] = (1, 0) := by decide +kernel
  rw [e1] at ce
  have cc := fun W => check_any (Ns.nil W) (s := [49, 32, 50]) (by decide)
  have e2 : chk [] [49, 32, 50] = (11, 2) := by decide +kernel
  rw [e2] at cc
  have HK : Hid _ := ((Kept.refl (fun _ => True) w).alloc (.cells #[.string ⟨#[97]⟩, .string ⟨#[98]⟩] 9)).alloc (.cells #[.int .i64 3, .int .i64 0] 3)
  clear x1 x2 e1 e2
  go_enter Try.func18, Try.ntmps18
  go_wp2_with fail
  refine Calls.mono ce ?_
  rintro e w1 ⟨rfl, k1⟩
  clear ce
  have HK1 : Hid _ := HK.out.trans k1
  clear k1 HK
  go_wp2_with fail
  refine Calls.mono (cc _) ?_
  rintro e w2 ⟨rfl, k2⟩
  clear cc
  go_wp2_with fail
  go_ret
  exact ⟨rfl, HK1.out.trans k2⟩

end Go.Proofs.Ytpjfmgmhohpjmaa
