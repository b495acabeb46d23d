/-
  No cell of these rows narrows 'for every input' (looked for: loops, veiled, ifaces, maps, wideKeys, modest, calm, conditions, laid).
  DERIVED. THE GIVEN ROWS OF THIS SEAT. 7 by the template 'for every input the law returns true; each argument reads behind the call as it read before'; 0 by the template 'total and deterministic' (their statements: YtpgmiokdlloinaaTotals.lean).
  GIVEN WITH THE SEED: the statements are not yours to turn. If you find one false, say at which input.
  Laid BY PROGRAM, IN A SANDBOX (cutbox-rows.mjs): the forced cells as the released guide's own fill.sh prints them over the translation b4bca2d51cc5bbda… (all of the seat's roots in one cut). By AI agents, Wed Nov 11 2026. No macro, syntax, notation, axiom, sorry.
-/
import Derived.Test.YtpgmiokdlloinaaChecked
import GoSem.Claim
import GoSem.ClaimJoined
import GoSem.ClaimMapViews
import Derived.JoinedTies
import Derived.KernelRfl
namespace Go.Proofs.Ytpgmiokdlloinaa
/- THE CELL 'sum', in the pinned program and in every row, IS THE sha256 OF THE DUMP (.gsa) THAT YtpgmiokdlloinaaProg.lean LOADS. Nothing in Lean hashes anything: it is a label: what it is worth is what the hold of that sum in a sandbox is worth. -/
noncomputable def Try.pinned : Pinned := { name := "ytpgmiokdlloinaa", sum := "b4bca2d51cc5bbdab2c947a6866c6756ab86bef1b913ebc975aea10763e4bd5e", checked := Try.checked }
namespace Rows
def none {H : Type} : Left H := { results := [], args := [] }

/-- 'laws.FnExactCellsOk': WHATEVER THE INPUT: true; the input reads as it did. -/
def fnExactCellsOkSpec : ChangeSpec := { name := "fnExactCellsOk", fn := fun _ => fun
  | [d] => { results := [.lit (.bool true)], args := [d] }
  | _ => none }
def fnExactCellsOkRow : OpenClaim := { program := "ytpgmiokdlloinaa", sum := "b4bca2d51cc5bbdab2c947a6866c6756ab86bef1b913ebc975aea10763e4bd5e", func := "loop.example/g00754/laws.FnExactCellsOk", spec := "fnExactCellsOk", inPlace := ["slices.overlaps[int64]", "slices.overlaps[loop.example/g00754/impl.Node]"], apart := false }
def FnExactCellsOkSaid : Prop := fnExactCellsOkRow.holds Try.pinned (OpenSpec.ofChange fnExactCellsOkSpec)

/-- ITS FALSE NEIGHBOUR: 'it returns false'. Refute it at one input. -/
def fnExactCellsOkWrong : ChangeSpec := { name := "fnExactCellsOk", fn := fun _ => fun
  | [d] => { results := [.lit (.bool false)], args := [d] }
  | _ => none }
def FnExactCellsOkWrongFalsely : Prop := fnExactCellsOkRow.holds Try.pinned (OpenSpec.ofChange fnExactCellsOkWrong)

/-- 'laws.FnExactNodeAt': WHATEVER THE INPUT: true; the input reads as it did. -/
def fnExactNodeAtSpec : ChangeSpec := { name := "fnExactNodeAt", fn := fun _ => fun
  | [d1, d2] => { results := [.lit (.bool true)], args := [d1, d2] }
  | _ => none }
def fnExactNodeAtRow : OpenClaim := { program := "ytpgmiokdlloinaa", sum := "b4bca2d51cc5bbdab2c947a6866c6756ab86bef1b913ebc975aea10763e4bd5e", func := "loop.example/g00754/laws.FnExactNodeAt", spec := "fnExactNodeAt", inPlace := ["slices.overlaps[int64]", "slices.overlaps[loop.example/g00754/impl.Node]"], apart := false }
def FnExactNodeAtSaid : Prop := fnExactNodeAtRow.holds Try.pinned (OpenSpec.ofChange fnExactNodeAtSpec)

/-- ITS FALSE NEIGHBOUR: 'it returns false'. Refute it at one input. -/
def fnExactNodeAtWrong : ChangeSpec := { name := "fnExactNodeAt", fn := fun _ => fun
  | [d1, d2] => { results := [.lit (.bool false)], args := [d1, d2] }
  | _ => none }
def FnExactNodeAtWrongFalsely : Prop := fnExactNodeAtRow.holds Try.pinned (OpenSpec.ofChange fnExactNodeAtWrong)

/-- 'laws.FnExactWithNode': WHATEVER THE INPUT: true; the input reads as it did. -/
def fnExactWithNodeSpec : ChangeSpec := { name := "fnExactWithNode", fn := fun _ => fun
  | [d1, d2] => { results := [.lit (.bool true)], args := [d1, d2] }
  | _ => none }
def fnExactWithNodeRow : OpenClaim := { program := "ytpgmiokdlloinaa", sum := "b4bca2d51cc5bbdab2c947a6866c6756ab86bef1b913ebc975aea10763e4bd5e", func := "loop.example/g00754/laws.FnExactWithNode", spec := "fnExactWithNode", inPlace := ["slices.overlaps[int64]", "slices.overlaps[loop.example/g00754/impl.Node]"], unfollowed := true, recurses := true, apart := false }
def FnExactWithNodeSaid : Prop := fnExactWithNodeRow.holds Try.pinned (OpenSpec.ofChange fnExactWithNodeSpec)

/-- ITS FALSE NEIGHBOUR: 'it returns false'. Refute it at one input. -/
def fnExactWithNodeWrong : ChangeSpec := { name := "fnExactWithNode", fn := fun _ => fun
  | [d1, d2] => { results := [.lit (.bool false)], args := [d1, d2] }
  | _ => none }
def FnExactWithNodeWrongFalsely : Prop := fnExactWithNodeRow.holds Try.pinned (OpenSpec.ofChange fnExactWithNodeWrong)

/-- 'laws.FnExactWithout': WHATEVER THE INPUT: true; the input reads as it did. -/
def fnExactWithoutSpec : ChangeSpec := { name := "fnExactWithout", fn := fun _ => fun
  | [d1, d2] => { results := [.lit (.bool true)], args := [d1, d2] }
  | _ => none }
def fnExactWithoutRow : OpenClaim := { program := "ytpgmiokdlloinaa", sum := "b4bca2d51cc5bbdab2c947a6866c6756ab86bef1b913ebc975aea10763e4bd5e", func := "loop.example/g00754/laws.FnExactWithout", spec := "fnExactWithout", inPlace := ["slices.overlaps[int64]", "slices.overlaps[loop.example/g00754/impl.Node]"], unfollowed := true, recurses := true, apart := false }
def FnExactWithoutSaid : Prop := fnExactWithoutRow.holds Try.pinned (OpenSpec.ofChange fnExactWithoutSpec)

/-- ITS FALSE NEIGHBOUR: 'it returns false'. Refute it at one input. -/
def fnExactWithoutWrong : ChangeSpec := { name := "fnExactWithout", fn := fun _ => fun
  | [d1, d2] => { results := [.lit (.bool false)], args := [d1, d2] }
  | _ => none }
def FnExactWithoutWrongFalsely : Prop := fnExactWithoutRow.holds Try.pinned (OpenSpec.ofChange fnExactWithoutWrong)

/-- 'laws.FnExactReachOf': WHATEVER THE INPUT: true; the input reads as it did. -/
def fnExactReachOfSpec : ChangeSpec := { name := "fnExactReachOf", fn := fun _ => fun
  | [d1, d2] => { results := [.lit (.bool true)], args := [d1, d2] }
  | _ => none }
def fnExactReachOfRow : OpenClaim := { program := "ytpgmiokdlloinaa", sum := "b4bca2d51cc5bbdab2c947a6866c6756ab86bef1b913ebc975aea10763e4bd5e", func := "loop.example/g00754/laws.FnExactReachOf", spec := "fnExactReachOf", inPlace := ["slices.overlaps[int64]", "slices.overlaps[loop.example/g00754/impl.Node]", "slices.overlaps[bool]"], unfollowed := true, recurses := true, apart := false }
def FnExactReachOfSaid : Prop := fnExactReachOfRow.holds Try.pinned (OpenSpec.ofChange fnExactReachOfSpec)

/-- ITS FALSE NEIGHBOUR: 'it returns false'. Refute it at one input. -/
def fnExactReachOfWrong : ChangeSpec := { name := "fnExactReachOf", fn := fun _ => fun
  | [d1, d2] => { results := [.lit (.bool false)], args := [d1, d2] }
  | _ => none }
def FnExactReachOfWrongFalsely : Prop := fnExactReachOfRow.holds Try.pinned (OpenSpec.ofChange fnExactReachOfWrong)

/-- 'laws.FnExactFound': WHATEVER THE INPUT: true; the input reads as it did. -/
def fnExactFoundSpec : ChangeSpec := { name := "fnExactFound", fn := fun _ => fun
  | [d1, d2, d3] => { results := [.lit (.bool true)], args := [d1, d2, d3] }
  | _ => none }
def fnExactFoundRow : OpenClaim := { program := "ytpgmiokdlloinaa", sum := "b4bca2d51cc5bbdab2c947a6866c6756ab86bef1b913ebc975aea10763e4bd5e", func := "loop.example/g00754/laws.FnExactFound", spec := "fnExactFound", inPlace := ["slices.overlaps[int64]", "slices.overlaps[loop.example/g00754/impl.Node]"], unfollowed := true, recurses := true, apart := false }
def FnExactFoundSaid : Prop := fnExactFoundRow.holds Try.pinned (OpenSpec.ofChange fnExactFoundSpec)

/-- ITS FALSE NEIGHBOUR: 'it returns false'. Refute it at one input. -/
def fnExactFoundWrong : ChangeSpec := { name := "fnExactFound", fn := fun _ => fun
  | [d1, d2, d3] => { results := [.lit (.bool false)], args := [d1, d2, d3] }
  | _ => none }
def FnExactFoundWrongFalsely : Prop := fnExactFoundRow.holds Try.pinned (OpenSpec.ofChange fnExactFoundWrong)

/-- 'laws.FnExactProofOf': WHATEVER THE INPUT: true; the input reads as it did. -/
def fnExactProofOfSpec : ChangeSpec := { name := "fnExactProofOf", fn := fun _ => fun
  | [d1, d2, d3] => { results := [.lit (.bool true)], args := [d1, d2, d3] }
  | _ => none }
def fnExactProofOfRow : OpenClaim := { program := "ytpgmiokdlloinaa", sum := "b4bca2d51cc5bbdab2c947a6866c6756ab86bef1b913ebc975aea10763e4bd5e", func := "loop.example/g00754/laws.FnExactProofOf", spec := "fnExactProofOf", inPlace := ["slices.overlaps[int64]", "slices.overlaps[loop.example/g00754/impl.Node]"], unfollowed := true, recurses := true, apart := false }
def FnExactProofOfSaid : Prop := fnExactProofOfRow.holds Try.pinned (OpenSpec.ofChange fnExactProofOfSpec)

/-- ITS FALSE NEIGHBOUR: 'it returns false'. Refute it at one input. -/
def fnExactProofOfWrong : ChangeSpec := { name := "fnExactProofOf", fn := fun _ => fun
  | [d1, d2, d3] => { results := [.lit (.bool false)], args := [d1, d2, d3] }
  | _ => none }
def FnExactProofOfWrongFalsely : Prop := fnExactProofOfRow.holds Try.pinned (OpenSpec.ofChange fnExactProofOfWrong)

/- THE SECOND FORM. 'bulk': how many values and letters a reading holds, each counted each time it is reached (what is shared counts as often as it is met; a slice's spare places count too). A statement '..UptoSaid' is the law's where the arguments, and the package variables that the reading takes, are together of bulk at most 1048576: NARROWER than '..Said'. Prove '..Said' where nothing that the law and all that it calls make is longer than what came in: it says more and counts as full. Else prove '..UptoSaid'. A law counts once. -/
mutual
def uptoBulk {H : Type} : DataW H → Nat
  | .lit (.string bytes) => bytes.length + 1
  | .lit _ => 1
  | .nil => 1
  | .ptr d => uptoBulk d + 1
  | .slice elems spare => uptoBulkAll elems + uptoBulkAll spare + 1
  | .agg parts => uptoBulkAll parts + 1
  | .iface _ d => uptoBulk d + 1
  | .map entries => uptoBulkEntries entries + 1
  | .held _ => 1
def uptoBulkAll {H : Type} : List (DataW H) → Nat
  | [] => 0
  | d :: r => uptoBulk d + uptoBulkAll r
def uptoBulkEntries {H : Type} : List (Lit × DataW H) → Nat
  | [] => 0
  | x :: r => uptoBulkEntry x + uptoBulkEntries r
def uptoBulkEntry {H : Type} : Lit × DataW H → Nat
  | (.string bytes, d) => bytes.length + uptoBulk d + 1
  | (_, d) => uptoBulk d + 1
 end
def uptoSmall : (H : Type) → List (DataW H) → Bool := fun _ ds => decide (uptoBulkAll ds ≤ 1048576)
def OpenSpec.upto (s : _root_.Go.ChangeSpec) : _root_.Go.OpenSpec := { _root_.Go.OpenSpec.ofChange s with cond := some uptoSmall }

/-- 'laws.FnExactCellsOk', WHERE WHAT IT READS IS OF BULK AT MOST 1048576: true; the input reads as it did. -/
def fnExactCellsOkUptoRow : OpenClaim := { program := "ytpgmiokdlloinaa", sum := "b4bca2d51cc5bbdab2c947a6866c6756ab86bef1b913ebc975aea10763e4bd5e", func := "loop.example/g00754/laws.FnExactCellsOk", spec := "fnExactCellsOk", inPlace := ["slices.overlaps[int64]", "slices.overlaps[loop.example/g00754/impl.Node]"], apart := false, narrowed := true }
def FnExactCellsOkUptoSaid : Prop := fnExactCellsOkUptoRow.holds Try.pinned (OpenSpec.upto fnExactCellsOkSpec)

/-- 'laws.FnExactNodeAt', WHERE WHAT IT READS IS OF BULK AT MOST 1048576: true; the input reads as it did. -/
def fnExactNodeAtUptoRow : OpenClaim := { program := "ytpgmiokdlloinaa", sum := "b4bca2d51cc5bbdab2c947a6866c6756ab86bef1b913ebc975aea10763e4bd5e", func := "loop.example/g00754/laws.FnExactNodeAt", spec := "fnExactNodeAt", inPlace := ["slices.overlaps[int64]", "slices.overlaps[loop.example/g00754/impl.Node]"], apart := false, narrowed := true }
def FnExactNodeAtUptoSaid : Prop := fnExactNodeAtUptoRow.holds Try.pinned (OpenSpec.upto fnExactNodeAtSpec)

/-- 'laws.FnExactWithNode', WHERE WHAT IT READS IS OF BULK AT MOST 1048576: true; the input reads as it did. -/
def fnExactWithNodeUptoRow : OpenClaim := { program := "ytpgmiokdlloinaa", sum := "b4bca2d51cc5bbdab2c947a6866c6756ab86bef1b913ebc975aea10763e4bd5e", func := "loop.example/g00754/laws.FnExactWithNode", spec := "fnExactWithNode", inPlace := ["slices.overlaps[int64]", "slices.overlaps[loop.example/g00754/impl.Node]"], unfollowed := true, recurses := true, apart := false, narrowed := true }
def FnExactWithNodeUptoSaid : Prop := fnExactWithNodeUptoRow.holds Try.pinned (OpenSpec.upto fnExactWithNodeSpec)

/-- 'laws.FnExactWithout', WHERE WHAT IT READS IS OF BULK AT MOST 1048576: true; the input reads as it did. -/
def fnExactWithoutUptoRow : OpenClaim := { program := "ytpgmiokdlloinaa", sum := "b4bca2d51cc5bbdab2c947a6866c6756ab86bef1b913ebc975aea10763e4bd5e", func := "loop.example/g00754/laws.FnExactWithout", spec := "fnExactWithout", inPlace := ["slices.overlaps[int64]", "slices.overlaps[loop.example/g00754/impl.Node]"], unfollowed := true, recurses := true, apart := false, narrowed := true }
def FnExactWithoutUptoSaid : Prop := fnExactWithoutUptoRow.holds Try.pinned (OpenSpec.upto fnExactWithoutSpec)

/-- 'laws.FnExactReachOf', WHERE WHAT IT READS IS OF BULK AT MOST 1048576: true; the input reads as it did. -/
def fnExactReachOfUptoRow : OpenClaim := { program := "ytpgmiokdlloinaa", sum := "b4bca2d51cc5bbdab2c947a6866c6756ab86bef1b913ebc975aea10763e4bd5e", func := "loop.example/g00754/laws.FnExactReachOf", spec := "fnExactReachOf", inPlace := ["slices.overlaps[int64]", "slices.overlaps[loop.example/g00754/impl.Node]", "slices.overlaps[bool]"], unfollowed := true, recurses := true, apart := false, narrowed := true }
def FnExactReachOfUptoSaid : Prop := fnExactReachOfUptoRow.holds Try.pinned (OpenSpec.upto fnExactReachOfSpec)

/-- 'laws.FnExactFound', WHERE WHAT IT READS IS OF BULK AT MOST 1048576: true; the input reads as it did. -/
def fnExactFoundUptoRow : OpenClaim := { program := "ytpgmiokdlloinaa", sum := "b4bca2d51cc5bbdab2c947a6866c6756ab86bef1b913ebc975aea10763e4bd5e", func := "loop.example/g00754/laws.FnExactFound", spec := "fnExactFound", inPlace := ["slices.overlaps[int64]", "slices.overlaps[loop.example/g00754/impl.Node]"], unfollowed := true, recurses := true, apart := false, narrowed := true }
def FnExactFoundUptoSaid : Prop := fnExactFoundUptoRow.holds Try.pinned (OpenSpec.upto fnExactFoundSpec)

/-- 'laws.FnExactProofOf', WHERE WHAT IT READS IS OF BULK AT MOST 1048576: true; the input reads as it did. -/
def fnExactProofOfUptoRow : OpenClaim := { program := "ytpgmiokdlloinaa", sum := "b4bca2d51cc5bbdab2c947a6866c6756ab86bef1b913ebc975aea10763e4bd5e", func := "loop.example/g00754/laws.FnExactProofOf", spec := "fnExactProofOf", inPlace := ["slices.overlaps[int64]", "slices.overlaps[loop.example/g00754/impl.Node]"], unfollowed := true, recurses := true, apart := false, narrowed := true }
def FnExactProofOfUptoSaid : Prop := fnExactProofOfUptoRow.holds Try.pinned (OpenSpec.upto fnExactProofOfSpec)

end Rows
end Go.Proofs.Ytpgmiokdlloinaa
