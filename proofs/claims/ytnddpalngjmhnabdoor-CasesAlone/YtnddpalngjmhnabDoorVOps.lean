/-
  Operations that are asked most; many one behind the other, plainly.
-/
import Derived.Test.YtnddpalngjmhnabDoorV12
import Derived.Test.YtnddpalngjmhnabDoorSArgs
namespace Go.Proofs.YtnddpalngjmhnabDoor
open Go.RowKit

set_option maxRecDepth 100000 in
set_option maxHeartbeats 1000000 in
theorem setOp_any {w : World} (x y : List UInt8) (n : Int) :
    Calls Tryd.prog 9 #[.string ⟨x.toArray⟩, .string ⟨y.toArray⟩, .int .i64 n] w fun e w' => e = .returned (opV ⟨2, x, y, n⟩) ∧ Kept (fun _ => True) w w' := by
  have K0 : Hid (Kept (fun _ => True) w (w.alloc (.cells #[.int .i64 2, .string ⟨x.toArray⟩, .string ⟨y.toArray⟩, .int .i64 n] 38))) := (Kept.refl _ _).alloc _
  go_enter Tryd.func9, Tryd.ntmps9
  go_wp2_with fail
  refine bodyPost_ret (results_op rfl _ _ rfl (heap_alloc_new _ _) rfl) rfl ⟨rfl, K0.out⟩

set_option maxRecDepth 100000 in
set_option maxHeartbeats 1000000 in
theorem addOp_any {w : World} (x y : List UInt8) (n : Int) :
    Calls Tryd.prog 8 #[.string ⟨x.toArray⟩, .string ⟨y.toArray⟩, .int .i64 n] w fun e w' => e = .returned (opV ⟨3, x, y, n⟩) ∧ Kept (fun _ => True) w w' := by
  have K0 : Hid (Kept (fun _ => True) w (w.alloc (.cells #[.int .i64 3, .string ⟨x.toArray⟩, .string ⟨y.toArray⟩, .int .i64 n] 38))) := (Kept.refl _ _).alloc _
  go_enter Tryd.func8, Tryd.ntmps8
  go_wp2_with fail
  refine bodyPost_ret (results_op rfl _ _ rfl (heap_alloc_new _ _) rfl) rfl ⟨rfl, K0.out⟩

/-- One operation: what is refused leaves it. -/
def oneP (t : Ty) (s : Sa) (o : Oq) : Sa := if (applyP t s o).2.2 = 0 then (applyP t s o).1 else s
def runs (t : Ty) : List Oq → Sa → Sa
  | [], s => s
  | o :: l, s => runs t l (oneP t s o)
theorem runs_append (t : Ty) : ∀ (l m : List Oq) (s : Sa), runs t (l ++ m) s = runs t m (runs t l s)
  | [], _, _ => rfl
  | o :: l, m, s => runs_append t l m (oneP t s o)
theorem runs_step (t : Ty) (os : List Oq) (i : Nat) (h : i < os.length) (s : Sa) : runs t (os.take (i + 1)) s = oneP t (runs t (os.take i) s) os[i] := by
  rw [List.take_succ_eq_append_getElem h, runs_append]
  rfl
theorem Fit.one {t : Ty} {s : Sa} (h : Fit t s) (o : Oq) : Fit t (oneP t s o) := by
  unfold oneP
  split
  · rename_i h0; exact h.apply o h0
  · exact h
theorem Fit.runs {t : Ty} : ∀ (l : List Oq) {s : Sa}, Fit t s → Fit t (runs t l s)
  | [], _, h => h
  | o :: l, _, h => Fit.runs l (h.one o)
/-- Operations that lie in a block. -/
def orow : List Oq → List Value
  | [] => []
  | o :: l => .int .i64 o.kind :: .string ⟨o.cas.toArray⟩ :: .string ⟨o.name.toArray⟩ :: .int .i64 o.n :: orow l
theorem orow_at : ∀ (l : List Oq) (i : Nat) (h : i < l.length), (orow l)[i * 4]? = some (.int .i64 (l[i]).kind) ∧ (orow l)[i * 4 + 1]? = some (.string ⟨(l[i]).cas.toArray⟩) ∧ (orow l)[i * 4 + 2]? = some (.string ⟨(l[i]).name.toArray⟩) ∧ (orow l)[i * 4 + 3]? = some (.int .i64 (l[i]).n)
  | [], i, h => by simp at h
  | o :: l, 0, _ => ⟨rfl, rfl, rfl, rfl⟩
  | o :: l, i + 1, h => by
    have := orow_at l i (by simpa using h)
    rw [show (i + 1) * 4 = i * 4 + 1 + 1 + 1 + 1 by omega]
    exact this
theorem Ov.block {w : World} {G : Nat} {os : List Oq} {cs : Array Value} {fr : Nat × Nat} (h : w.heap[G]? = some (.cells cs 38 fr)) (e : cs.toList = orow os) (hl : os.length ≤ 1000) (c : Nat) : Ov w (.slice (some ⟨G, 0, none⟩) os.length c) os := by
  refine ⟨_, _, rfl, by omega, fun _ => ⟨G, 0, rfl, lt_of_block h, fun i hi => ?_⟩⟩
  have key : ∀ k, w.cell? ⟨G, k, none⟩ = (orow os)[k]? := fun k => by
    rw [cell_of_row w G _ _ _ _ h, ← e]
    simp
  simp only [Nat.zero_add, key]
  exact orow_at os i hi

end Go.Proofs.YtnddpalngjmhnabDoor
