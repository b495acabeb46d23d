/-
  No cell of these rows narrows 'for every input' (looked for: loops, veiled, ifaces, maps, wideKeys, modest, calm, conditions, laid).
  DERIVED. THE GIVEN ROWS OF THIS SEAT. 4 by the template 'for every input the law returns true; each argument reads behind the call as it read before'; 0 by the template 'total and deterministic' (their statements: YtigdcmfmaehjfaaGreatTotals.lean).
  GIVEN WITH THE SEED: the statements are not yours to turn. If you find one false, say at which input.
  Laid BY PROGRAM, IN A SANDBOX (cutbox-rows.mjs): the forced cells as the released guide's own fill.sh prints them over the translation cdf09c795ea9d438… (all of the seat's roots in one cut). By AI agents, Wed Nov 11 2026. No macro, syntax, notation, axiom, sorry.
-/
import Derived.Test.YtigdcmfmaehjfaaGreatChecked
import GoSem.Claim
import GoSem.ClaimJoined
import GoSem.ClaimMapViews
import Derived.JoinedTies
import Derived.KernelRfl
namespace Go.Proofs.YtigdcmfmaehjfaaGreat
/- THE CELL 'sum', in the pinned program and in every row, IS THE sha256 OF THE DUMP (.gsa) THAT YtigdcmfmaehjfaaGreatProg.lean LOADS. Nothing in Lean hashes anything: it is a label: what it is worth is what the hold of that sum in a sandbox is worth. -/
noncomputable def Tryz.pinned : Pinned := { name := "ytigdcmfmaehjfaagreat", sum := "cdf09c795ea9d438351b75ed128b196f77b9228f485fdf7d32b8d41147ef87dc", checked := Tryz.checked }
namespace Rows
def none {H : Type} : Left H := { results := [], args := [] }

/-- 'laws.FnExactBaseOk': WHATEVER THE INPUT: true; the input reads as it did. -/
def fnExactBaseOkSpec : ChangeSpec := { name := "fnExactBaseOk", fn := fun _ => fun
  | [d] => { results := [.lit (.bool true)], args := [d] }
  | _ => none }
def fnExactBaseOkRow : OpenClaim := { program := "ytigdcmfmaehjfaagreat", sum := "cdf09c795ea9d438351b75ed128b196f77b9228f485fdf7d32b8d41147ef87dc", func := "loop.example/g00754/laws.FnExactBaseOk", spec := "fnExactBaseOk", inPlace := ["slices.overlaps[int64]", "slices.overlaps[loop.example/g00754/impl.Node]", "slices.overlaps[bool]"], unfollowed := true, recurses := true, apart := false }
def FnExactBaseOkSaid : Prop := fnExactBaseOkRow.holds Tryz.pinned (OpenSpec.ofChange fnExactBaseOkSpec)

/-- ITS FALSE NEIGHBOUR: 'it returns false'. Refute it at one input. -/
def fnExactBaseOkWrong : ChangeSpec := { name := "fnExactBaseOk", fn := fun _ => fun
  | [d] => { results := [.lit (.bool false)], args := [d] }
  | _ => none }
def FnExactBaseOkWrongFalsely : Prop := fnExactBaseOkRow.holds Tryz.pinned (OpenSpec.ofChange fnExactBaseOkWrong)

/-- 'laws.FnExactKeptBy': WHATEVER THE INPUT: true; the input reads as it did. -/
def fnExactKeptBySpec : ChangeSpec := { name := "fnExactKeptBy", fn := fun _ => fun
  | [d] => { results := [.lit (.bool true)], args := [d] }
  | _ => none }
def fnExactKeptByRow : OpenClaim := { program := "ytigdcmfmaehjfaagreat", sum := "cdf09c795ea9d438351b75ed128b196f77b9228f485fdf7d32b8d41147ef87dc", func := "loop.example/g00754/laws.FnExactKeptBy", spec := "fnExactKeptBy", inPlace := ["slices.overlaps[int64]", "slices.overlaps[loop.example/g00754/impl.Node]", "slices.overlaps[bool]"], unfollowed := true, recurses := true, apart := false }
def FnExactKeptBySaid : Prop := fnExactKeptByRow.holds Tryz.pinned (OpenSpec.ofChange fnExactKeptBySpec)

/-- ITS FALSE NEIGHBOUR: 'it returns false'. Refute it at one input. -/
def fnExactKeptByWrong : ChangeSpec := { name := "fnExactKeptBy", fn := fun _ => fun
  | [d] => { results := [.lit (.bool false)], args := [d] }
  | _ => none }
def FnExactKeptByWrongFalsely : Prop := fnExactKeptByRow.holds Tryz.pinned (OpenSpec.ofChange fnExactKeptByWrong)

/-- 'laws.FnExactChangedAll': WHATEVER THE INPUT: true; the input reads as it did. -/
def fnExactChangedAllSpec : ChangeSpec := { name := "fnExactChangedAll", fn := fun _ => fun
  | [d1, d2] => { results := [.lit (.bool true)], args := [d1, d2] }
  | _ => none }
def fnExactChangedAllRow : OpenClaim := { program := "ytigdcmfmaehjfaagreat", sum := "cdf09c795ea9d438351b75ed128b196f77b9228f485fdf7d32b8d41147ef87dc", func := "loop.example/g00754/laws.FnExactChangedAll", spec := "fnExactChangedAll", inPlace := ["slices.overlaps[int64]", "slices.overlaps[loop.example/g00754/impl.Node]", "slices.overlaps[bool]"], unfollowed := true, recurses := true, apart := false }
def FnExactChangedAllSaid : Prop := fnExactChangedAllRow.holds Tryz.pinned (OpenSpec.ofChange fnExactChangedAllSpec)

/-- ITS FALSE NEIGHBOUR: 'it returns false'. Refute it at one input. -/
def fnExactChangedAllWrong : ChangeSpec := { name := "fnExactChangedAll", fn := fun _ => fun
  | [d1, d2] => { results := [.lit (.bool false)], args := [d1, d2] }
  | _ => none }
def FnExactChangedAllWrongFalsely : Prop := fnExactChangedAllRow.holds Tryz.pinned (OpenSpec.ofChange fnExactChangedAllWrong)

/-- 'laws.FnBases': WHATEVER THE INPUT: true; the input reads as it did. -/
def fnBasesSpec : ChangeSpec := { name := "fnBases", fn := fun _ => fun
  | [d] => { results := [.lit (.bool true)], args := [d] }
  | _ => none }
def fnBasesRow : OpenClaim := { program := "ytigdcmfmaehjfaagreat", sum := "cdf09c795ea9d438351b75ed128b196f77b9228f485fdf7d32b8d41147ef87dc", func := "loop.example/g00754/laws.FnBases", spec := "fnBases", inPlace := ["slices.overlaps[int64]", "slices.overlaps[loop.example/g00754/impl.Node]", "slices.overlaps[bool]"], unfollowed := true, recurses := true, apart := false }
def FnBasesSaid : Prop := fnBasesRow.holds Tryz.pinned (OpenSpec.ofChange fnBasesSpec)

/-- ITS FALSE NEIGHBOUR: 'it returns false'. Refute it at one input. -/
def fnBasesWrong : ChangeSpec := { name := "fnBases", fn := fun _ => fun
  | [d] => { results := [.lit (.bool false)], args := [d] }
  | _ => none }
def FnBasesWrongFalsely : Prop := fnBasesRow.holds Tryz.pinned (OpenSpec.ofChange fnBasesWrong)

/- THE SECOND FORM. 'bulk': how many values and letters a reading holds, each counted each time it is reached (what is shared counts as often as it is met; a slice's spare places count too). A statement '..UptoSaid' is the law's where the arguments, and the package variables that the reading takes, are together of bulk at most 1048576: NARROWER than '..Said'. Prove '..Said' where nothing that the law and all that it calls make is longer than what came in: it says more and counts as full. Else prove '..UptoSaid'. A law counts once. -/
mutual
def uptoBulk {H : Type} : DataW H → Nat
  | .lit (.string bytes) => bytes.length + 1
  | .lit _ => 1
  | .nil => 1
  | .ptr d => uptoBulk d + 1
  | .slice elems spare => uptoBulkAll elems + uptoBulkAll spare + 1
  | .agg parts => uptoBulkAll parts + 1
  | .iface _ d => uptoBulk d + 1
  | .map entries => uptoBulkEntries entries + 1
  | .held _ => 1
def uptoBulkAll {H : Type} : List (DataW H) → Nat
  | [] => 0
  | d :: r => uptoBulk d + uptoBulkAll r
def uptoBulkEntries {H : Type} : List (Lit × DataW H) → Nat
  | [] => 0
  | x :: r => uptoBulkEntry x + uptoBulkEntries r
def uptoBulkEntry {H : Type} : Lit × DataW H → Nat
  | (.string bytes, d) => bytes.length + uptoBulk d + 1
  | (_, d) => uptoBulk d + 1
 end
def uptoSmall : (H : Type) → List (DataW H) → Bool := fun _ ds => decide (uptoBulkAll ds ≤ 1048576)
def OpenSpec.upto (s : _root_.Go.ChangeSpec) : _root_.Go.OpenSpec := { _root_.Go.OpenSpec.ofChange s with cond := some uptoSmall }

/-- 'laws.FnExactBaseOk', WHERE WHAT IT READS IS OF BULK AT MOST 1048576: true; the input reads as it did. -/
def fnExactBaseOkUptoRow : OpenClaim := { program := "ytigdcmfmaehjfaagreat", sum := "cdf09c795ea9d438351b75ed128b196f77b9228f485fdf7d32b8d41147ef87dc", func := "loop.example/g00754/laws.FnExactBaseOk", spec := "fnExactBaseOk", inPlace := ["slices.overlaps[int64]", "slices.overlaps[loop.example/g00754/impl.Node]", "slices.overlaps[bool]"], unfollowed := true, recurses := true, apart := false, narrowed := true }
def FnExactBaseOkUptoSaid : Prop := fnExactBaseOkUptoRow.holds Tryz.pinned (OpenSpec.upto fnExactBaseOkSpec)

/-- 'laws.FnExactKeptBy', WHERE WHAT IT READS IS OF BULK AT MOST 1048576: true; the input reads as it did. -/
def fnExactKeptByUptoRow : OpenClaim := { program := "ytigdcmfmaehjfaagreat", sum := "cdf09c795ea9d438351b75ed128b196f77b9228f485fdf7d32b8d41147ef87dc", func := "loop.example/g00754/laws.FnExactKeptBy", spec := "fnExactKeptBy", inPlace := ["slices.overlaps[int64]", "slices.overlaps[loop.example/g00754/impl.Node]", "slices.overlaps[bool]"], unfollowed := true, recurses := true, apart := false, narrowed := true }
def FnExactKeptByUptoSaid : Prop := fnExactKeptByUptoRow.holds Tryz.pinned (OpenSpec.upto fnExactKeptBySpec)

/-- 'laws.FnExactChangedAll', WHERE WHAT IT READS IS OF BULK AT MOST 1048576: true; the input reads as it did. -/
def fnExactChangedAllUptoRow : OpenClaim := { program := "ytigdcmfmaehjfaagreat", sum := "cdf09c795ea9d438351b75ed128b196f77b9228f485fdf7d32b8d41147ef87dc", func := "loop.example/g00754/laws.FnExactChangedAll", spec := "fnExactChangedAll", inPlace := ["slices.overlaps[int64]", "slices.overlaps[loop.example/g00754/impl.Node]", "slices.overlaps[bool]"], unfollowed := true, recurses := true, apart := false, narrowed := true }
def FnExactChangedAllUptoSaid : Prop := fnExactChangedAllUptoRow.holds Tryz.pinned (OpenSpec.upto fnExactChangedAllSpec)

/-- 'laws.FnBases', WHERE WHAT IT READS IS OF BULK AT MOST 1048576: true; the input reads as it did. -/
def fnBasesUptoRow : OpenClaim := { program := "ytigdcmfmaehjfaagreat", sum := "cdf09c795ea9d438351b75ed128b196f77b9228f485fdf7d32b8d41147ef87dc", func := "loop.example/g00754/laws.FnBases", spec := "fnBases", inPlace := ["slices.overlaps[int64]", "slices.overlaps[loop.example/g00754/impl.Node]", "slices.overlaps[bool]"], unfollowed := true, recurses := true, apart := false, narrowed := true }
def FnBasesUptoSaid : Prop := fnBasesUptoRow.holds Tryz.pinned (OpenSpec.upto fnBasesSpec)

end Rows
end Go.Proofs.YtigdcmfmaehjfaaGreat
