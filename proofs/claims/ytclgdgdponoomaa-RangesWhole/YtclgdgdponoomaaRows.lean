/-
  No cell of these rows narrows 'for every input' (looked for: loops, veiled, ifaces, maps, wideKeys, modest, calm, conditions, laid).
  DERIVED. THE GIVEN ROWS OF THIS SEAT. 6 by the template 'for every input the law returns true; each argument reads behind the call as it read before'; 0 by the template 'total and deterministic' (their statements: YtclgdgdponoomaaTotals.lean).
  GIVEN WITH THE SEED: the statements are not yours to turn. If you find one false, say at which input.
  Laid BY PROGRAM, IN A SANDBOX (cutbox-rows.mjs): the forced cells as the released guide's own fill.sh prints them over the translation e27afe21e2c0382c… (all of the seat's roots in one cut). By AI agents, Wed Nov 11 2026. No macro, syntax, notation, axiom, sorry.
-/
import Derived.Test.YtclgdgdponoomaaChecked
import GoSem.Claim
import GoSem.ClaimJoined
import GoSem.ClaimMapViews
import Derived.JoinedTies
import Derived.KernelRfl
namespace Go.Proofs.Ytclgdgdponoomaa
/- THE CELL 'sum', in the pinned program and in every row, IS THE sha256 OF THE DUMP (.gsa) THAT YtclgdgdponoomaaProg.lean LOADS. Nothing in Lean hashes anything: it is a label: what it is worth is what the hold of that sum in a sandbox is worth. -/
noncomputable def Try.pinned : Pinned := { name := "ytclgdgdponoomaa", sum := "e27afe21e2c0382c4c7bf4cc63886ce3881eb91ac9c34c9c23c7ec5a7334b1f7", checked := Try.checked }
namespace Rows
def none {H : Type} : Left H := { results := [], args := [] }

/-- 'conclavelaw17.RangesNumbers': WHATEVER THE INPUT: true; the input reads as it did. -/
def rangesNumbersSpec : ChangeSpec := { name := "rangesNumbers", fn := fun _ => fun
  | [] => { results := [.lit (.bool true)], args := [] }
  | _ => none }
def rangesNumbersRow : OpenClaim := { program := "ytclgdgdponoomaa", sum := "e27afe21e2c0382c4c7bf4cc63886ce3881eb91ac9c34c9c23c7ec5a7334b1f7", func := "conclave/conclavelaw17.RangesNumbers", spec := "rangesNumbers", apart := false }
def RangesNumbersSaid : Prop := rangesNumbersRow.holds Try.pinned (OpenSpec.ofChange rangesNumbersSpec)

/-- ITS FALSE NEIGHBOUR: 'it returns false'. Refute it at one input. -/
def rangesNumbersWrong : ChangeSpec := { name := "rangesNumbers", fn := fun _ => fun
  | [] => { results := [.lit (.bool false)], args := [] }
  | _ => none }
def RangesNumbersWrongFalsely : Prop := rangesNumbersRow.holds Try.pinned (OpenSpec.ofChange rangesNumbersWrong)

/-- 'conclavelaw17.RangesPlays': WHATEVER THE INPUT: true; the input reads as it did. -/
def rangesPlaysSpec : ChangeSpec := { name := "rangesPlays", fn := fun _ => fun
  | [d1, d2, d3, d4] => { results := [.lit (.bool true)], args := [d1, d2, d3, d4] }
  | _ => none }
def rangesPlaysRow : OpenClaim := { program := "ytclgdgdponoomaa", sum := "e27afe21e2c0382c4c7bf4cc63886ce3881eb91ac9c34c9c23c7ec5a7334b1f7", func := "conclave/conclavelaw17.RangesPlays", spec := "rangesPlays", apart := false }
def RangesPlaysSaid : Prop := rangesPlaysRow.holds Try.pinned (OpenSpec.ofChange rangesPlaysSpec)

/-- ITS FALSE NEIGHBOUR: 'it returns false'. Refute it at one input. -/
def rangesPlaysWrong : ChangeSpec := { name := "rangesPlays", fn := fun _ => fun
  | [d1, d2, d3, d4] => { results := [.lit (.bool false)], args := [d1, d2, d3, d4] }
  | _ => none }
def RangesPlaysWrongFalsely : Prop := rangesPlaysRow.holds Try.pinned (OpenSpec.ofChange rangesPlaysWrong)

/-- 'conclavelaw17.RangesMoves': WHATEVER THE INPUT: true; the input reads as it did. -/
def rangesMovesSpec : ChangeSpec := { name := "rangesMoves", fn := fun _ => fun
  | [d1, d2, d3, d4, d5] => { results := [.lit (.bool true)], args := [d1, d2, d3, d4, d5] }
  | _ => none }
def rangesMovesRow : OpenClaim := { program := "ytclgdgdponoomaa", sum := "e27afe21e2c0382c4c7bf4cc63886ce3881eb91ac9c34c9c23c7ec5a7334b1f7", func := "conclave/conclavelaw17.RangesMoves", spec := "rangesMoves", apart := false }
def RangesMovesSaid : Prop := rangesMovesRow.holds Try.pinned (OpenSpec.ofChange rangesMovesSpec)

/-- ITS FALSE NEIGHBOUR: 'it returns false'. Refute it at one input. -/
def rangesMovesWrong : ChangeSpec := { name := "rangesMoves", fn := fun _ => fun
  | [d1, d2, d3, d4, d5] => { results := [.lit (.bool false)], args := [d1, d2, d3, d4, d5] }
  | _ => none }
def RangesMovesWrongFalsely : Prop := rangesMovesRow.holds Try.pinned (OpenSpec.ofChange rangesMovesWrong)

/-- 'conclavelaw17.RangesLoads': WHATEVER THE INPUT: true; the input reads as it did. -/
def rangesLoadsSpec : ChangeSpec := { name := "rangesLoads", fn := fun _ => fun
  | [d1, d2, d3, d4] => { results := [.lit (.bool true)], args := [d1, d2, d3, d4] }
  | _ => none }
def rangesLoadsRow : OpenClaim := { program := "ytclgdgdponoomaa", sum := "e27afe21e2c0382c4c7bf4cc63886ce3881eb91ac9c34c9c23c7ec5a7334b1f7", func := "conclave/conclavelaw17.RangesLoads", spec := "rangesLoads", apart := false }
def RangesLoadsSaid : Prop := rangesLoadsRow.holds Try.pinned (OpenSpec.ofChange rangesLoadsSpec)

/-- ITS FALSE NEIGHBOUR: 'it returns false'. Refute it at one input. -/
def rangesLoadsWrong : ChangeSpec := { name := "rangesLoads", fn := fun _ => fun
  | [d1, d2, d3, d4] => { results := [.lit (.bool false)], args := [d1, d2, d3, d4] }
  | _ => none }
def RangesLoadsWrongFalsely : Prop := rangesLoadsRow.holds Try.pinned (OpenSpec.ofChange rangesLoadsWrong)

/-- 'conclavelaw17.RangesWhole': WHATEVER THE INPUT: true; the input reads as it did. -/
def rangesWholeSpec : ChangeSpec := { name := "rangesWhole", fn := fun _ => fun
  | [d1, d2, d3] => { results := [.lit (.bool true)], args := [d1, d2, d3] }
  | _ => none }
def rangesWholeRow : OpenClaim := { program := "ytclgdgdponoomaa", sum := "e27afe21e2c0382c4c7bf4cc63886ce3881eb91ac9c34c9c23c7ec5a7334b1f7", func := "conclave/conclavelaw17.RangesWhole", spec := "rangesWhole", apart := false }
def RangesWholeSaid : Prop := rangesWholeRow.holds Try.pinned (OpenSpec.ofChange rangesWholeSpec)

/-- ITS FALSE NEIGHBOUR: 'it returns false'. Refute it at one input. -/
def rangesWholeWrong : ChangeSpec := { name := "rangesWhole", fn := fun _ => fun
  | [d1, d2, d3] => { results := [.lit (.bool false)], args := [d1, d2, d3] }
  | _ => none }
def RangesWholeWrongFalsely : Prop := rangesWholeRow.holds Try.pinned (OpenSpec.ofChange rangesWholeWrong)

/-- 'conclavelaw17.RangesSaves': WHATEVER THE INPUT: true; the input reads as it did. -/
def rangesSavesSpec : ChangeSpec := { name := "rangesSaves", fn := fun _ => fun
  | [d1, d2, d3] => { results := [.lit (.bool true)], args := [d1, d2, d3] }
  | _ => none }
def rangesSavesRow : OpenClaim := { program := "ytclgdgdponoomaa", sum := "e27afe21e2c0382c4c7bf4cc63886ce3881eb91ac9c34c9c23c7ec5a7334b1f7", func := "conclave/conclavelaw17.RangesSaves", spec := "rangesSaves", apart := false }
def RangesSavesSaid : Prop := rangesSavesRow.holds Try.pinned (OpenSpec.ofChange rangesSavesSpec)

/-- ITS FALSE NEIGHBOUR: 'it returns false'. Refute it at one input. -/
def rangesSavesWrong : ChangeSpec := { name := "rangesSaves", fn := fun _ => fun
  | [d1, d2, d3] => { results := [.lit (.bool false)], args := [d1, d2, d3] }
  | _ => none }
def RangesSavesWrongFalsely : Prop := rangesSavesRow.holds Try.pinned (OpenSpec.ofChange rangesSavesWrong)

/- THE SECOND FORM. 'bulk': how many values and letters a reading holds, each counted each time it is reached (what is shared counts as often as it is met; a slice's spare places count too). A statement '..UptoSaid' is the law's where the arguments, and the package variables that the reading takes, are together of bulk at most 1048576: NARROWER than '..Said'. Prove '..Said' where nothing that the law and all that it calls make is longer than what came in: it says more and counts as full. Else prove '..UptoSaid'. A law counts once. -/
mutual
def uptoBulk {H : Type} : DataW H → Nat
  | .lit (.string bytes) => bytes.length + 1
  | .lit _ => 1
  | .nil => 1
  | .ptr d => uptoBulk d + 1
  | .slice elems spare => uptoBulkAll elems + uptoBulkAll spare + 1
  | .agg parts => uptoBulkAll parts + 1
  | .iface _ d => uptoBulk d + 1
  | .map entries => uptoBulkEntries entries + 1
  | .held _ => 1
def uptoBulkAll {H : Type} : List (DataW H) → Nat
  | [] => 0
  | d :: r => uptoBulk d + uptoBulkAll r
def uptoBulkEntries {H : Type} : List (Lit × DataW H) → Nat
  | [] => 0
  | x :: r => uptoBulkEntry x + uptoBulkEntries r
def uptoBulkEntry {H : Type} : Lit × DataW H → Nat
  | (.string bytes, d) => bytes.length + uptoBulk d + 1
  | (_, d) => uptoBulk d + 1
 end
def uptoSmall : (H : Type) → List (DataW H) → Bool := fun _ ds => decide (uptoBulkAll ds ≤ 1048576)
def OpenSpec.upto (s : _root_.Go.ChangeSpec) : _root_.Go.OpenSpec := { _root_.Go.OpenSpec.ofChange s with cond := some uptoSmall }

/-- 'conclavelaw17.RangesNumbers', WHERE WHAT IT READS IS OF BULK AT MOST 1048576: true; the input reads as it did. -/
def rangesNumbersUptoRow : OpenClaim := { program := "ytclgdgdponoomaa", sum := "e27afe21e2c0382c4c7bf4cc63886ce3881eb91ac9c34c9c23c7ec5a7334b1f7", func := "conclave/conclavelaw17.RangesNumbers", spec := "rangesNumbers", apart := false, narrowed := true }
def RangesNumbersUptoSaid : Prop := rangesNumbersUptoRow.holds Try.pinned (OpenSpec.upto rangesNumbersSpec)

/-- 'conclavelaw17.RangesPlays', WHERE WHAT IT READS IS OF BULK AT MOST 1048576: true; the input reads as it did. -/
def rangesPlaysUptoRow : OpenClaim := { program := "ytclgdgdponoomaa", sum := "e27afe21e2c0382c4c7bf4cc63886ce3881eb91ac9c34c9c23c7ec5a7334b1f7", func := "conclave/conclavelaw17.RangesPlays", spec := "rangesPlays", apart := false, narrowed := true }
def RangesPlaysUptoSaid : Prop := rangesPlaysUptoRow.holds Try.pinned (OpenSpec.upto rangesPlaysSpec)

/-- 'conclavelaw17.RangesMoves', WHERE WHAT IT READS IS OF BULK AT MOST 1048576: true; the input reads as it did. -/
def rangesMovesUptoRow : OpenClaim := { program := "ytclgdgdponoomaa", sum := "e27afe21e2c0382c4c7bf4cc63886ce3881eb91ac9c34c9c23c7ec5a7334b1f7", func := "conclave/conclavelaw17.RangesMoves", spec := "rangesMoves", apart := false, narrowed := true }
def RangesMovesUptoSaid : Prop := rangesMovesUptoRow.holds Try.pinned (OpenSpec.upto rangesMovesSpec)

/-- 'conclavelaw17.RangesLoads', WHERE WHAT IT READS IS OF BULK AT MOST 1048576: true; the input reads as it did. -/
def rangesLoadsUptoRow : OpenClaim := { program := "ytclgdgdponoomaa", sum := "e27afe21e2c0382c4c7bf4cc63886ce3881eb91ac9c34c9c23c7ec5a7334b1f7", func := "conclave/conclavelaw17.RangesLoads", spec := "rangesLoads", apart := false, narrowed := true }
def RangesLoadsUptoSaid : Prop := rangesLoadsUptoRow.holds Try.pinned (OpenSpec.upto rangesLoadsSpec)

/-- 'conclavelaw17.RangesWhole', WHERE WHAT IT READS IS OF BULK AT MOST 1048576: true; the input reads as it did. -/
def rangesWholeUptoRow : OpenClaim := { program := "ytclgdgdponoomaa", sum := "e27afe21e2c0382c4c7bf4cc63886ce3881eb91ac9c34c9c23c7ec5a7334b1f7", func := "conclave/conclavelaw17.RangesWhole", spec := "rangesWhole", apart := false, narrowed := true }
def RangesWholeUptoSaid : Prop := rangesWholeUptoRow.holds Try.pinned (OpenSpec.upto rangesWholeSpec)

/-- 'conclavelaw17.RangesSaves', WHERE WHAT IT READS IS OF BULK AT MOST 1048576: true; the input reads as it did. -/
def rangesSavesUptoRow : OpenClaim := { program := "ytclgdgdponoomaa", sum := "e27afe21e2c0382c4c7bf4cc63886ce3881eb91ac9c34c9c23c7ec5a7334b1f7", func := "conclave/conclavelaw17.RangesSaves", spec := "rangesSaves", apart := false, narrowed := true }
def RangesSavesUptoSaid : Prop := rangesSavesUptoRow.holds Try.pinned (OpenSpec.upto rangesSavesSpec)

end Rows
end Go.Proofs.Ytclgdgdponoomaa
