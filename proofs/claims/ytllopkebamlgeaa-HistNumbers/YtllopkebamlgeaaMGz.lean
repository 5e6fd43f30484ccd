/-
  What is held may grow within a region.
-/
import Derived.Test.YtllopkebamlgeaaVOrd
namespace Go.Proofs.Ytllopkebamlgeaa
open Go

theorem Gz.to {P : Program} {md : Region.Mode} {ops : Array Oper} {Q : Exit → Act → World → Prop} {S S' : World → Prop} {late : Nat → Bool} (h : ∀ w, S' w → S w) : ∀ (n : Nat) (done : Array Bool) (a : Act) (w : World), Gz P md ops Q S' late n done a w → Gz P md ops Q S late n done a w
  | 0, _, _, _, k => k
  | n + 1, _, _, _, k => ⟨k.1, fun i hi => wpOp_mono (fun a' w' q => ⟨fun e => h _ (q.1 e), Gz.to h n _ a' w' q.2⟩) (k.2 i hi)⟩

end Go.Proofs.Ytllopkebamlgeaa
