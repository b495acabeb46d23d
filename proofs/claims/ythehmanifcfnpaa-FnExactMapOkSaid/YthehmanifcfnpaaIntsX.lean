/- What the helpers of the exact laws do at slices of int64: a copy is a new row of the same numbers; two that read alike are told alike; what marking and holding leave. -/
import Derived.Test.YthehmanifcfnpaaInts
namespace Go.Proofs.Ythehmanifcfnpaa
set_option maxRecDepth 20000
open Go.RowKit

/-- the marks from k0 on. -/
def marksI (k0 : Int) (n : Nat) : List Int := (List.range n).map fun (i : Nat) => k0 + (i : Int)
theorem marksI_len (k0 : Int) (n : Nat) : (marksI k0 n).length = n := by simp [marksI]
theorem marksI_at (k0 : Int) (n k : Nat) (h : k < n) : (marksI k0 n)[k]?.getD 0 = k0 + (k : Int) := by simp [marksI, h]
def markedI (k0 : Int) (n k : Nat) (xs : List Int) : List Int := (marksI k0 n).take k ++ xs.drop k
theorem markedI_set (k0 : Int) (n k : Nat) (xs : List Int) (hx : xs.length = n) (hk : k < n) : (markedI k0 n k xs).set k (k0 + (k : Int)) = markedI k0 n (k + 1) xs := by
  unfold markedI
  have hl : min k (marksI k0 n).length = k := by have := marksI_len k0 n; omega
  rw [take_step (marksI k0 n) k (by have := marksI_len k0 n; omega), marksI_at k0 n k hk]
  have hd : xs.drop k = xs[k] :: xs.drop (k + 1) := List.drop_eq_getElem_cons (by omega)
  have hs : (xs.drop k).set 0 (k0 + (k : Int)) = (k0 + (k : Int)) :: xs.drop (k + 1) := by rw [hd]; rfl
  simp [hl, hs]

end Go.Proofs.Ythehmanifcfnpaa
