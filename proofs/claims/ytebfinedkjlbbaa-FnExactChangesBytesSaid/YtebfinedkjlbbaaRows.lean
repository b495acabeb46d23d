/-
  No cell of these rows narrows 'for every input' (looked for: loops, veiled, ifaces, maps, wideKeys, modest, calm, conditions, laid).
  DERIVED. THE GIVEN ROWS OF THIS SEAT. 7 by the template 'for every input the law returns true; each argument reads behind the call as it read before'; 0 by the template 'total and deterministic' (their statements: YtebfinedkjlbbaaTotals.lean).
  GIVEN WITH THE SEED: the statements are not yours to turn. If you find one false, say at which input.
  Laid BY PROGRAM, IN A SANDBOX (cutbox-rows.mjs): the forced cells as the released guide's own fill.sh prints them over the translation c601c5114c73d9ac… (all of the seat's roots in one cut). By AI agents, Wed Nov 11 2026. No macro, syntax, notation, axiom, sorry.
-/
import Derived.Test.YtebfinedkjlbbaaChecked
import GoSem.Claim
import GoSem.ClaimJoined
import GoSem.ClaimMapViews
import Derived.JoinedTies
import Derived.KernelRfl
namespace Go.Proofs.Ytebfinedkjlbbaa
/- THE CELL 'sum', in the pinned program and in every row, IS THE sha256 OF THE DUMP (.gsa) THAT YtebfinedkjlbbaaProg.lean LOADS. Nothing in Lean hashes anything: it is a label: what it is worth is what the hold of that sum in a sandbox is worth. -/
noncomputable def Try.pinned : Pinned := { name := "ytebfinedkjlbbaa", sum := "c601c5114c73d9aca27e615a7010d0210375dcd3aac40c165c82c4082f27c8e8", checked := Try.checked }
namespace Rows
def none {H : Type} : Left H := { results := [], args := [] }

/-- 'laws.FnExactNodeFrom': WHATEVER THE INPUT: true; the input reads as it did. -/
def fnExactNodeFromSpec : ChangeSpec := { name := "fnExactNodeFrom", fn := fun _ => fun
  | [d] => { results := [.lit (.bool true)], args := [d] }
  | _ => none }
def fnExactNodeFromRow : OpenClaim := { program := "ytebfinedkjlbbaa", sum := "c601c5114c73d9aca27e615a7010d0210375dcd3aac40c165c82c4082f27c8e8", func := "loop.example/g00754/laws.FnExactNodeFrom", spec := "fnExactNodeFrom", apart := false }
def FnExactNodeFromSaid : Prop := fnExactNodeFromRow.holds Try.pinned (OpenSpec.ofChange fnExactNodeFromSpec)

/-- ITS FALSE NEIGHBOUR: 'it returns false'. Refute it at one input. -/
def fnExactNodeFromWrong : ChangeSpec := { name := "fnExactNodeFrom", fn := fun _ => fun
  | [d] => { results := [.lit (.bool false)], args := [d] }
  | _ => none }
def FnExactNodeFromWrongFalsely : Prop := fnExactNodeFromRow.holds Try.pinned (OpenSpec.ofChange fnExactNodeFromWrong)

/-- 'laws.FnNodes': WHATEVER THE INPUT: true; the input reads as it did. -/
def fnNodesSpec : ChangeSpec := { name := "fnNodes", fn := fun _ => fun
  | [d] => { results := [.lit (.bool true)], args := [d] }
  | _ => none }
def fnNodesRow : OpenClaim := { program := "ytebfinedkjlbbaa", sum := "c601c5114c73d9aca27e615a7010d0210375dcd3aac40c165c82c4082f27c8e8", func := "loop.example/g00754/laws.FnNodes", spec := "fnNodes", apart := false }
def FnNodesSaid : Prop := fnNodesRow.holds Try.pinned (OpenSpec.ofChange fnNodesSpec)

/-- ITS FALSE NEIGHBOUR: 'it returns false'. Refute it at one input. -/
def fnNodesWrong : ChangeSpec := { name := "fnNodes", fn := fun _ => fun
  | [d] => { results := [.lit (.bool false)], args := [d] }
  | _ => none }
def FnNodesWrongFalsely : Prop := fnNodesRow.holds Try.pinned (OpenSpec.ofChange fnNodesWrong)

/-- 'laws.FnExactChangeOk': WHATEVER THE INPUT: true; the input reads as it did. -/
def fnExactChangeOkSpec : ChangeSpec := { name := "fnExactChangeOk", fn := fun _ => fun
  | [d] => { results := [.lit (.bool true)], args := [d] }
  | _ => none }
def fnExactChangeOkRow : OpenClaim := { program := "ytebfinedkjlbbaa", sum := "c601c5114c73d9aca27e615a7010d0210375dcd3aac40c165c82c4082f27c8e8", func := "loop.example/g00754/laws.FnExactChangeOk", spec := "fnExactChangeOk", unfollowed := true, recurses := true, apart := false }
def FnExactChangeOkSaid : Prop := fnExactChangeOkRow.holds Try.pinned (OpenSpec.ofChange fnExactChangeOkSpec)

/-- ITS FALSE NEIGHBOUR: 'it returns false'. Refute it at one input. -/
def fnExactChangeOkWrong : ChangeSpec := { name := "fnExactChangeOk", fn := fun _ => fun
  | [d] => { results := [.lit (.bool false)], args := [d] }
  | _ => none }
def FnExactChangeOkWrongFalsely : Prop := fnExactChangeOkRow.holds Try.pinned (OpenSpec.ofChange fnExactChangeOkWrong)

/-- 'laws.FnExactChangesBytes': WHATEVER THE INPUT: true; the input reads as it did. -/
def fnExactChangesBytesSpec : ChangeSpec := { name := "fnExactChangesBytes", fn := fun _ => fun
  | [d] => { results := [.lit (.bool true)], args := [d] }
  | _ => none }
def fnExactChangesBytesRow : OpenClaim := { program := "ytebfinedkjlbbaa", sum := "c601c5114c73d9aca27e615a7010d0210375dcd3aac40c165c82c4082f27c8e8", func := "loop.example/g00754/laws.FnExactChangesBytes", spec := "fnExactChangesBytes", unfollowed := true, recurses := true, apart := false }
def FnExactChangesBytesSaid : Prop := fnExactChangesBytesRow.holds Try.pinned (OpenSpec.ofChange fnExactChangesBytesSpec)

/-- ITS FALSE NEIGHBOUR: 'it returns false'. Refute it at one input. -/
def fnExactChangesBytesWrong : ChangeSpec := { name := "fnExactChangesBytes", fn := fun _ => fun
  | [d] => { results := [.lit (.bool false)], args := [d] }
  | _ => none }
def FnExactChangesBytesWrongFalsely : Prop := fnExactChangesBytesRow.holds Try.pinned (OpenSpec.ofChange fnExactChangesBytesWrong)

/-- 'laws.FnExactChangesFrom': WHATEVER THE INPUT: true; the input reads as it did. -/
def fnExactChangesFromSpec : ChangeSpec := { name := "fnExactChangesFrom", fn := fun _ => fun
  | [d] => { results := [.lit (.bool true)], args := [d] }
  | _ => none }
def fnExactChangesFromRow : OpenClaim := { program := "ytebfinedkjlbbaa", sum := "c601c5114c73d9aca27e615a7010d0210375dcd3aac40c165c82c4082f27c8e8", func := "loop.example/g00754/laws.FnExactChangesFrom", spec := "fnExactChangesFrom", unfollowed := true, recurses := true, apart := false }
def FnExactChangesFromSaid : Prop := fnExactChangesFromRow.holds Try.pinned (OpenSpec.ofChange fnExactChangesFromSpec)

/-- ITS FALSE NEIGHBOUR: 'it returns false'. Refute it at one input. -/
def fnExactChangesFromWrong : ChangeSpec := { name := "fnExactChangesFrom", fn := fun _ => fun
  | [d] => { results := [.lit (.bool false)], args := [d] }
  | _ => none }
def FnExactChangesFromWrongFalsely : Prop := fnExactChangesFromRow.holds Try.pinned (OpenSpec.ofChange fnExactChangesFromWrong)

/-- 'laws.FnChanges': WHATEVER THE INPUT: true; the input reads as it did. -/
def fnChangesSpec : ChangeSpec := { name := "fnChanges", fn := fun _ => fun
  | [d] => { results := [.lit (.bool true)], args := [d] }
  | _ => none }
def fnChangesRow : OpenClaim := { program := "ytebfinedkjlbbaa", sum := "c601c5114c73d9aca27e615a7010d0210375dcd3aac40c165c82c4082f27c8e8", func := "loop.example/g00754/laws.FnChanges", spec := "fnChanges", unfollowed := true, recurses := true, apart := false }
def FnChangesSaid : Prop := fnChangesRow.holds Try.pinned (OpenSpec.ofChange fnChangesSpec)

/-- ITS FALSE NEIGHBOUR: 'it returns false'. Refute it at one input. -/
def fnChangesWrong : ChangeSpec := { name := "fnChanges", fn := fun _ => fun
  | [d] => { results := [.lit (.bool false)], args := [d] }
  | _ => none }
def FnChangesWrongFalsely : Prop := fnChangesRow.holds Try.pinned (OpenSpec.ofChange fnChangesWrong)

/-- 'laws.FnExactWithNode': WHATEVER THE INPUT: true; the input reads as it did. -/
def fnExactWithNodeSpec : ChangeSpec := { name := "fnExactWithNode", fn := fun _ => fun
  | [d1, d2] => { results := [.lit (.bool true)], args := [d1, d2] }
  | _ => none }
def fnExactWithNodeRow : OpenClaim := { program := "ytebfinedkjlbbaa", sum := "c601c5114c73d9aca27e615a7010d0210375dcd3aac40c165c82c4082f27c8e8", func := "loop.example/g00754/laws.FnExactWithNode", spec := "fnExactWithNode", inPlace := ["slices.overlaps[int64]", "slices.overlaps[loop.example/g00754/impl.Node]"], unfollowed := true, recurses := true, apart := false }
def FnExactWithNodeSaid : Prop := fnExactWithNodeRow.holds Try.pinned (OpenSpec.ofChange fnExactWithNodeSpec)

/-- ITS FALSE NEIGHBOUR: 'it returns false'. Refute it at one input. -/
def fnExactWithNodeWrong : ChangeSpec := { name := "fnExactWithNode", fn := fun _ => fun
  | [d1, d2] => { results := [.lit (.bool false)], args := [d1, d2] }
  | _ => none }
def FnExactWithNodeWrongFalsely : Prop := fnExactWithNodeRow.holds Try.pinned (OpenSpec.ofChange fnExactWithNodeWrong)

/- THE SECOND FORM. 'bulk': how many values and letters a reading holds, each counted each time it is reached (what is shared counts as often as it is met; a slice's spare places count too). A statement '..UptoSaid' is the law's where the arguments, and the package variables that the reading takes, are together of bulk at most 1048576: NARROWER than '..Said'. Prove '..Said' where nothing that the law and all that it calls make is longer than what came in: it says more and counts as full. Else prove '..UptoSaid'. A law counts once. -/
mutual
def uptoBulk {H : Type} : DataW H → Nat
  | .lit (.string bytes) => bytes.length + 1
  | .lit _ => 1
  | .nil => 1
  | .ptr d => uptoBulk d + 1
  | .slice elems spare => uptoBulkAll elems + uptoBulkAll spare + 1
  | .agg parts => uptoBulkAll parts + 1
  | .iface _ d => uptoBulk d + 1
  | .map entries => uptoBulkEntries entries + 1
  | .held _ => 1
def uptoBulkAll {H : Type} : List (DataW H) → Nat
  | [] => 0
  | d :: r => uptoBulk d + uptoBulkAll r
def uptoBulkEntries {H : Type} : List (Lit × DataW H) → Nat
  | [] => 0
  | x :: r => uptoBulkEntry x + uptoBulkEntries r
def uptoBulkEntry {H : Type} : Lit × DataW H → Nat
  | (.string bytes, d) => bytes.length + uptoBulk d + 1
  | (_, d) => uptoBulk d + 1
 end
def uptoSmall : (H : Type) → List (DataW H) → Bool := fun _ ds => decide (uptoBulkAll ds ≤ 1048576)
def OpenSpec.upto (s : _root_.Go.ChangeSpec) : _root_.Go.OpenSpec := { _root_.Go.OpenSpec.ofChange s with cond := some uptoSmall }

/-- 'laws.FnExactNodeFrom', WHERE WHAT IT READS IS OF BULK AT MOST 1048576: true; the input reads as it did. -/
def fnExactNodeFromUptoRow : OpenClaim := { program := "ytebfinedkjlbbaa", sum := "c601c5114c73d9aca27e615a7010d0210375dcd3aac40c165c82c4082f27c8e8", func := "loop.example/g00754/laws.FnExactNodeFrom", spec := "fnExactNodeFrom", apart := false, narrowed := true }
def FnExactNodeFromUptoSaid : Prop := fnExactNodeFromUptoRow.holds Try.pinned (OpenSpec.upto fnExactNodeFromSpec)

/-- 'laws.FnNodes', WHERE WHAT IT READS IS OF BULK AT MOST 1048576: true; the input reads as it did. -/
def fnNodesUptoRow : OpenClaim := { program := "ytebfinedkjlbbaa", sum := "c601c5114c73d9aca27e615a7010d0210375dcd3aac40c165c82c4082f27c8e8", func := "loop.example/g00754/laws.FnNodes", spec := "fnNodes", apart := false, narrowed := true }
def FnNodesUptoSaid : Prop := fnNodesUptoRow.holds Try.pinned (OpenSpec.upto fnNodesSpec)

/-- 'laws.FnExactChangeOk', WHERE WHAT IT READS IS OF BULK AT MOST 1048576: true; the input reads as it did. -/
def fnExactChangeOkUptoRow : OpenClaim := { program := "ytebfinedkjlbbaa", sum := "c601c5114c73d9aca27e615a7010d0210375dcd3aac40c165c82c4082f27c8e8", func := "loop.example/g00754/laws.FnExactChangeOk", spec := "fnExactChangeOk", unfollowed := true, recurses := true, apart := false, narrowed := true }
def FnExactChangeOkUptoSaid : Prop := fnExactChangeOkUptoRow.holds Try.pinned (OpenSpec.upto fnExactChangeOkSpec)

/-- 'laws.FnExactChangesBytes', WHERE WHAT IT READS IS OF BULK AT MOST 1048576: true; the input reads as it did. -/
def fnExactChangesBytesUptoRow : OpenClaim := { program := "ytebfinedkjlbbaa", sum := "c601c5114c73d9aca27e615a7010d0210375dcd3aac40c165c82c4082f27c8e8", func := "loop.example/g00754/laws.FnExactChangesBytes", spec := "fnExactChangesBytes", unfollowed := true, recurses := true, apart := false, narrowed := true }
def FnExactChangesBytesUptoSaid : Prop := fnExactChangesBytesUptoRow.holds Try.pinned (OpenSpec.upto fnExactChangesBytesSpec)

/-- 'laws.FnExactChangesFrom', WHERE WHAT IT READS IS OF BULK AT MOST 1048576: true; the input reads as it did. -/
def fnExactChangesFromUptoRow : OpenClaim := { program := "ytebfinedkjlbbaa", sum := "c601c5114c73d9aca27e615a7010d0210375dcd3aac40c165c82c4082f27c8e8", func := "loop.example/g00754/laws.FnExactChangesFrom", spec := "fnExactChangesFrom", unfollowed := true, recurses := true, apart := false, narrowed := true }
def FnExactChangesFromUptoSaid : Prop := fnExactChangesFromUptoRow.holds Try.pinned (OpenSpec.upto fnExactChangesFromSpec)

/-- 'laws.FnChanges', WHERE WHAT IT READS IS OF BULK AT MOST 1048576: true; the input reads as it did. -/
def fnChangesUptoRow : OpenClaim := { program := "ytebfinedkjlbbaa", sum := "c601c5114c73d9aca27e615a7010d0210375dcd3aac40c165c82c4082f27c8e8", func := "loop.example/g00754/laws.FnChanges", spec := "fnChanges", unfollowed := true, recurses := true, apart := false, narrowed := true }
def FnChangesUptoSaid : Prop := fnChangesUptoRow.holds Try.pinned (OpenSpec.upto fnChangesSpec)

/-- 'laws.FnExactWithNode', WHERE WHAT IT READS IS OF BULK AT MOST 1048576: true; the input reads as it did. -/
def fnExactWithNodeUptoRow : OpenClaim := { program := "ytebfinedkjlbbaa", sum := "c601c5114c73d9aca27e615a7010d0210375dcd3aac40c165c82c4082f27c8e8", func := "loop.example/g00754/laws.FnExactWithNode", spec := "fnExactWithNode", inPlace := ["slices.overlaps[int64]", "slices.overlaps[loop.example/g00754/impl.Node]"], unfollowed := true, recurses := true, apart := false, narrowed := true }
def FnExactWithNodeUptoSaid : Prop := fnExactWithNodeUptoRow.holds Try.pinned (OpenSpec.upto fnExactWithNodeSpec)

end Rows
end Go.Proofs.Ytebfinedkjlbbaa
