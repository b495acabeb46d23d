/- The eight bytes of a name, as the program and as the model write them: a row of the call's own. -/
import Derived.Test.YthehmanifcfnpaaMine
namespace Go.Proofs.Ythehmanifcfnpaa
set_option maxRecDepth 20000
open Go.RowKit

/-- the first k of the bytes of x, the lowest one first. -/
def nb (x : Int) (k : Nat) : List Int := (List.range k).map fun (i : Nat) => x / 2 ^ (8 * i) % 256
def nameBytes (x : Int) : List Int := if x < 0 then [] else nb x 8
theorem nb_len (x : Int) (k : Nat) : (nb x k).length = k := by simp [nb]
theorem nb_at (x : Int) (n k : Nat) (h : k < n) : (nb x n)[k]?.getD 0 = x / 2 ^ (8 * k) % 256 := by simp [nb, h]
theorem nb_bd (x : Int) (k : Nat) : ∀ z ∈ nb x k, 0 ≤ z ∧ z ≤ 255 := by
  intro z hz
  simp only [nb, List.mem_map] at hz
  obtain ⟨i, _, rfl⟩ := hz
  omega
theorem nb_step (x : Int) (k : Nat) : nb x (k + 1) = nb x k ++ [x / 2 ^ (8 * k) % 256] := by simp [nb, List.range_succ]
theorem nameBytes_no (x : Int) (h : x < 0) : nameBytes x = [] := if_pos h
theorem nameBytes_yes (x : Int) (h : ¬ x < 0) : nameBytes x = nb x 8 := if_neg h

end Go.Proofs.Ythehmanifcfnpaa
