/-
  What the rows' closing steps ask of this program alone.
-/
import Derived.Test.YtllopkebamlgeaaSB
import Derived.SizedLaws
import Derived.ProofKit
import Derived.OpenShut
import Derived.ChangeMaps5
import Derived.Below
namespace Go.Proofs.Ytllopkebamlgeaa
open Go.ChangeShapes Go.WideShapes Go.ChangeAt Go.RowKit

theorem own : ownKnob Try.prog.godebug = none := by kernel_rfl
theorem laidOut : laidOutB Try.prog = true := by kernel_rfl
theorem cellsU8 : Try.prog.cellsOf 5 = 1 := by kernel_rfl

theorem reach_bytes {H : Type} {n : Nat} {d : DataW H} {bs : List UInt8} (h : (d = .nil ∧ n = 0) ∨ ∃ elems spare, d = .slice elems spare ∧ elems = bs.map (fun b => (.lit (.int .u8 b.toNat) : DataW H))) (hn : bs.length = n)
    (hr : ∀ elems spare, d = .slice elems spare → (elems.length + spare.length) * Try.prog.bytesOf 5 ≤ reachBytes) : (bs.length : Int) ≤ 140737488355328 := by
  rcases h with ⟨_, h0⟩ | ⟨elems, spare, rfl, rfl⟩
  · omega
  · have := hr _ _ rfl
    rw [Try.bytesU8] at this
    simp [reachBytes] at this
    omega

end Go.Proofs.Ytllopkebamlgeaa
