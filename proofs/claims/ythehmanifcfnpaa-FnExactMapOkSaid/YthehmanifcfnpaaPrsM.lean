/- Plain facts on maps and on pairs that are put one behind the other. No statement of the program is proved here. -/
import Derived.Test.YthehmanifcfnpaaPrs
namespace Go.Proofs.Ythehmanifcfnpaa
set_option maxRecDepth 20000
set_option linter.unusedVariables false
set_option linter.unusedSimpArgs false
open Go.RowKit

/-- text a is not behind text b. -/
def sle (a b : ByteArray) : Bool := Op.bytesLess a.toList b.toList || a.toList == b.toList
/-- the i-th pair is as it should be. -/
def pairOk (ps : List (ByteArray × ByteArray)) (i : Nat) : Prop := isKey (sb (pe ps i).1) = true ∧ valOk (sb (pe ps i).2) = true ∧ (0 < i → sle (pe ps i).1 (pe ps (i - 1)).1 = false)
/-- the pairs are a map. -/
def MapIs (ps : List (ByteArray × ByteArray)) : Prop := (∀ i, i < ps.length → pairOk ps i) ∧ ps.length ≤ 26
end Go.Proofs.Ythehmanifcfnpaa
