/-
  No cell of these rows narrows 'for every input' (looked for: loops, veiled, ifaces, maps, wideKeys, modest, calm, conditions, laid).
  DERIVED. THE GIVEN ROWS OF THIS SEAT. 6 by the template 'for every input the law returns true; each argument reads behind the call as it read before'; 0 by the template 'total and deterministic' (their statements: YtpjfmgmhohpjmaaTotals.lean).
  GIVEN WITH THE SEED: the statements are not yours to turn. If you find one false, say at which input.
  Laid BY PROGRAM, IN A SANDBOX (cutbox-rows.mjs): the forced cells as the released guide's own fill.sh prints them over the translation c67c5a94f91a8f19… (all of the seat's roots in one cut). By AI agents, Wed Nov 11 2026. No macro, syntax, notation, axiom, sorry.
-/
import Derived.Test.YtpjfmgmhohpjmaaChecked
import GoSem.Claim
import GoSem.ClaimJoined
import GoSem.ClaimMapViews
import Derived.JoinedTies
import Derived.KernelRfl
namespace Go.Proofs.Ytpjfmgmhohpjmaa
/- THE CELL 'sum', in the pinned program and in every row, IS THE sha256 OF THE DUMP (.gsa) THAT YtpjfmgmhohpjmaaProg.lean LOADS. Nothing in Lean hashes anything: it is a label: what it is worth is what the hold of that sum in a sandbox is worth. -/
noncomputable def Try.pinned : Pinned := { name := "ytpjfmgmhohpjmaa", sum := "c67c5a94f91a8f196380782581de94f5b1d80219156ffeafcba12cc6617adcc6", checked := Try.checked }
namespace Rows
def none {H : Type} : Left H := { results := [], args := [] }

/-- 'conclavelaw12.GuardNumbers': WHATEVER THE INPUT: true; the input reads as it did. -/
def guardNumbersSpec : ChangeSpec := { name := "guardNumbers", fn := fun _ => fun
  | [] => { results := [.lit (.bool true)], args := [] }
  | _ => none }
def guardNumbersRow : OpenClaim := { program := "ytpjfmgmhohpjmaa", sum := "c67c5a94f91a8f196380782581de94f5b1d80219156ffeafcba12cc6617adcc6", func := "conclave/conclavelaw12.GuardNumbers", spec := "guardNumbers", unfollowed := true, recurses := true, apart := false }
def GuardNumbersSaid : Prop := guardNumbersRow.holds Try.pinned (OpenSpec.ofChange guardNumbersSpec)

/-- ITS FALSE NEIGHBOUR: 'it returns false'. Refute it at one input. -/
def guardNumbersWrong : ChangeSpec := { name := "guardNumbers", fn := fun _ => fun
  | [] => { results := [.lit (.bool false)], args := [] }
  | _ => none }
def GuardNumbersWrongFalsely : Prop := guardNumbersRow.holds Try.pinned (OpenSpec.ofChange guardNumbersWrong)

/-- 'conclavelaw12.GuardTells': WHATEVER THE INPUT: true; the input reads as it did. -/
def guardTellsSpec : ChangeSpec := { name := "guardTells", fn := fun _ => fun
  | [d1, d2, d3] => { results := [.lit (.bool true)], args := [d1, d2, d3] }
  | _ => none }
def guardTellsRow : OpenClaim := { program := "ytpjfmgmhohpjmaa", sum := "c67c5a94f91a8f196380782581de94f5b1d80219156ffeafcba12cc6617adcc6", func := "conclave/conclavelaw12.GuardTells", spec := "guardTells", unfollowed := true, recurses := true, apart := false }
def GuardTellsSaid : Prop := guardTellsRow.holds Try.pinned (OpenSpec.ofChange guardTellsSpec)

/-- ITS FALSE NEIGHBOUR: 'it returns false'. Refute it at one input. -/
def guardTellsWrong : ChangeSpec := { name := "guardTells", fn := fun _ => fun
  | [d1, d2, d3] => { results := [.lit (.bool false)], args := [d1, d2, d3] }
  | _ => none }
def GuardTellsWrongFalsely : Prop := guardTellsRow.holds Try.pinned (OpenSpec.ofChange guardTellsWrong)

/-- 'conclavelaw12.GuardRules': WHATEVER THE INPUT: true; the input reads as it did. -/
def guardRulesSpec : ChangeSpec := { name := "guardRules", fn := fun _ => fun
  | [d1, d2, d3] => { results := [.lit (.bool true)], args := [d1, d2, d3] }
  | _ => none }
def guardRulesRow : OpenClaim := { program := "ytpjfmgmhohpjmaa", sum := "c67c5a94f91a8f196380782581de94f5b1d80219156ffeafcba12cc6617adcc6", func := "conclave/conclavelaw12.GuardRules", spec := "guardRules", recurses := true, apart := false }
def GuardRulesSaid : Prop := guardRulesRow.holds Try.pinned (OpenSpec.ofChange guardRulesSpec)

/-- ITS FALSE NEIGHBOUR: 'it returns false'. Refute it at one input. -/
def guardRulesWrong : ChangeSpec := { name := "guardRules", fn := fun _ => fun
  | [d1, d2, d3] => { results := [.lit (.bool false)], args := [d1, d2, d3] }
  | _ => none }
def GuardRulesWrongFalsely : Prop := guardRulesRow.holds Try.pinned (OpenSpec.ofChange guardRulesWrong)

/-- 'conclavelaw12.GuardUses': WHATEVER THE INPUT: true; the input reads as it did. -/
def guardUsesSpec : ChangeSpec := { name := "guardUses", fn := fun _ => fun
  | [d1, d2, d3, d4] => { results := [.lit (.bool true)], args := [d1, d2, d3, d4] }
  | _ => none }
def guardUsesRow : OpenClaim := { program := "ytpjfmgmhohpjmaa", sum := "c67c5a94f91a8f196380782581de94f5b1d80219156ffeafcba12cc6617adcc6", func := "conclave/conclavelaw12.GuardUses", spec := "guardUses", unfollowed := true, recurses := true, apart := false }
def GuardUsesSaid : Prop := guardUsesRow.holds Try.pinned (OpenSpec.ofChange guardUsesSpec)

/-- ITS FALSE NEIGHBOUR: 'it returns false'. Refute it at one input. -/
def guardUsesWrong : ChangeSpec := { name := "guardUses", fn := fun _ => fun
  | [d1, d2, d3, d4] => { results := [.lit (.bool false)], args := [d1, d2, d3, d4] }
  | _ => none }
def GuardUsesWrongFalsely : Prop := guardUsesRow.holds Try.pinned (OpenSpec.ofChange guardUsesWrong)

/-- 'conclavelaw12.GuardBlanks': WHATEVER THE INPUT: true; the input reads as it did. -/
def guardBlanksSpec : ChangeSpec := { name := "guardBlanks", fn := fun _ => fun
  | [d1, d2, d3] => { results := [.lit (.bool true)], args := [d1, d2, d3] }
  | _ => none }
def guardBlanksRow : OpenClaim := { program := "ytpjfmgmhohpjmaa", sum := "c67c5a94f91a8f196380782581de94f5b1d80219156ffeafcba12cc6617adcc6", func := "conclave/conclavelaw12.GuardBlanks", spec := "guardBlanks", unfollowed := true, recurses := true, apart := false }
def GuardBlanksSaid : Prop := guardBlanksRow.holds Try.pinned (OpenSpec.ofChange guardBlanksSpec)

/-- ITS FALSE NEIGHBOUR: 'it returns false'. Refute it at one input. -/
def guardBlanksWrong : ChangeSpec := { name := "guardBlanks", fn := fun _ => fun
  | [d1, d2, d3] => { results := [.lit (.bool false)], args := [d1, d2, d3] }
  | _ => none }
def GuardBlanksWrongFalsely : Prop := guardBlanksRow.holds Try.pinned (OpenSpec.ofChange guardBlanksWrong)

/-- 'conclavelaw12.GuardNames': WHATEVER THE INPUT: true; the input reads as it did. -/
def guardNamesSpec : ChangeSpec := { name := "guardNames", fn := fun _ => fun
  | [d1, d2] => { results := [.lit (.bool true)], args := [d1, d2] }
  | _ => none }
def guardNamesRow : OpenClaim := { program := "ytpjfmgmhohpjmaa", sum := "c67c5a94f91a8f196380782581de94f5b1d80219156ffeafcba12cc6617adcc6", func := "conclave/conclavelaw12.GuardNames", spec := "guardNames", unfollowed := true, recurses := true, apart := false }
def GuardNamesSaid : Prop := guardNamesRow.holds Try.pinned (OpenSpec.ofChange guardNamesSpec)

/-- ITS FALSE NEIGHBOUR: 'it returns false'. Refute it at one input. -/
def guardNamesWrong : ChangeSpec := { name := "guardNames", fn := fun _ => fun
  | [d1, d2] => { results := [.lit (.bool false)], args := [d1, d2] }
  | _ => none }
def GuardNamesWrongFalsely : Prop := guardNamesRow.holds Try.pinned (OpenSpec.ofChange guardNamesWrong)

/- THE SECOND FORM. 'bulk': how many values and letters a reading holds, each counted each time it is reached (what is shared counts as often as it is met; a slice's spare places count too). A statement '..UptoSaid' is the law's where the arguments, and the package variables that the reading takes, are together of bulk at most 1048576: NARROWER than '..Said'. Prove '..Said' where nothing that the law and all that it calls make is longer than what came in: it says more and counts as full. Else prove '..UptoSaid'. A law counts once. -/
mutual
def uptoBulk {H : Type} : DataW H → Nat
  | .lit (.string bytes) => bytes.length + 1
  | .lit _ => 1
  | .nil => 1
  | .ptr d => uptoBulk d + 1
  | .slice elems spare => uptoBulkAll elems + uptoBulkAll spare + 1
  | .agg parts => uptoBulkAll parts + 1
  | .iface _ d => uptoBulk d + 1
  | .map entries => uptoBulkEntries entries + 1
  | .held _ => 1
def uptoBulkAll {H : Type} : List (DataW H) → Nat
  | [] => 0
  | d :: r => uptoBulk d + uptoBulkAll r
def uptoBulkEntries {H : Type} : List (Lit × DataW H) → Nat
  | [] => 0
  | x :: r => uptoBulkEntry x + uptoBulkEntries r
def uptoBulkEntry {H : Type} : Lit × DataW H → Nat
  | (.string bytes, d) => bytes.length + uptoBulk d + 1
  | (_, d) => uptoBulk d + 1
 end
def uptoSmall : (H : Type) → List (DataW H) → Bool := fun _ ds => decide (uptoBulkAll ds ≤ 1048576)
def OpenSpec.upto (s : _root_.Go.ChangeSpec) : _root_.Go.OpenSpec := { _root_.Go.OpenSpec.ofChange s with cond := some uptoSmall }

/-- 'conclavelaw12.GuardNumbers', WHERE WHAT IT READS IS OF BULK AT MOST 1048576: true; the input reads as it did. -/
def guardNumbersUptoRow : OpenClaim := { program := "ytpjfmgmhohpjmaa", sum := "c67c5a94f91a8f196380782581de94f5b1d80219156ffeafcba12cc6617adcc6", func := "conclave/conclavelaw12.GuardNumbers", spec := "guardNumbers", unfollowed := true, recurses := true, apart := false, narrowed := true }
def GuardNumbersUptoSaid : Prop := guardNumbersUptoRow.holds Try.pinned (OpenSpec.upto guardNumbersSpec)

/-- 'conclavelaw12.GuardTells', WHERE WHAT IT READS IS OF BULK AT MOST 1048576: true; the input reads as it did. -/
def guardTellsUptoRow : OpenClaim := { program := "ytpjfmgmhohpjmaa", sum := "c67c5a94f91a8f196380782581de94f5b1d80219156ffeafcba12cc6617adcc6", func := "conclave/conclavelaw12.GuardTells", spec := "guardTells", unfollowed := true, recurses := true, apart := false, narrowed := true }
def GuardTellsUptoSaid : Prop := guardTellsUptoRow.holds Try.pinned (OpenSpec.upto guardTellsSpec)

/-- 'conclavelaw12.GuardRules', WHERE WHAT IT READS IS OF BULK AT MOST 1048576: true; the input reads as it did. -/
def guardRulesUptoRow : OpenClaim := { program := "ytpjfmgmhohpjmaa", sum := "c67c5a94f91a8f196380782581de94f5b1d80219156ffeafcba12cc6617adcc6", func := "conclave/conclavelaw12.GuardRules", spec := "guardRules", recurses := true, apart := false, narrowed := true }
def GuardRulesUptoSaid : Prop := guardRulesUptoRow.holds Try.pinned (OpenSpec.upto guardRulesSpec)

/-- 'conclavelaw12.GuardUses', WHERE WHAT IT READS IS OF BULK AT MOST 1048576: true; the input reads as it did. -/
def guardUsesUptoRow : OpenClaim := { program := "ytpjfmgmhohpjmaa", sum := "c67c5a94f91a8f196380782581de94f5b1d80219156ffeafcba12cc6617adcc6", func := "conclave/conclavelaw12.GuardUses", spec := "guardUses", unfollowed := true, recurses := true, apart := false, narrowed := true }
def GuardUsesUptoSaid : Prop := guardUsesUptoRow.holds Try.pinned (OpenSpec.upto guardUsesSpec)

/-- 'conclavelaw12.GuardBlanks', WHERE WHAT IT READS IS OF BULK AT MOST 1048576: true; the input reads as it did. -/
def guardBlanksUptoRow : OpenClaim := { program := "ytpjfmgmhohpjmaa", sum := "c67c5a94f91a8f196380782581de94f5b1d80219156ffeafcba12cc6617adcc6", func := "conclave/conclavelaw12.GuardBlanks", spec := "guardBlanks", unfollowed := true, recurses := true, apart := false, narrowed := true }
def GuardBlanksUptoSaid : Prop := guardBlanksUptoRow.holds Try.pinned (OpenSpec.upto guardBlanksSpec)

/-- 'conclavelaw12.GuardNames', WHERE WHAT IT READS IS OF BULK AT MOST 1048576: true; the input reads as it did. -/
def guardNamesUptoRow : OpenClaim := { program := "ytpjfmgmhohpjmaa", sum := "c67c5a94f91a8f196380782581de94f5b1d80219156ffeafcba12cc6617adcc6", func := "conclave/conclavelaw12.GuardNames", spec := "guardNames", unfollowed := true, recurses := true, apart := false, narrowed := true }
def GuardNamesUptoSaid : Prop := guardNamesUptoRow.holds Try.pinned (OpenSpec.upto guardNamesSpec)

end Rows
end Go.Proofs.Ytpjfmgmhohpjmaa
