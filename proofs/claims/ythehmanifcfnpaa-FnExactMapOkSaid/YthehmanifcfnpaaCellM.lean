/- Plain facts on lists of cells: right ones; where a name stands. No statement of the program is proved here. -/
import Derived.Test.YthehmanifcfnpaaCells
import Derived.Test.YthehmanifcfnpaaNodeI
namespace Go.Proofs.Ythehmanifcfnpaa
set_option maxRecDepth 20000
set_option linter.unusedVariables false
set_option linter.unusedSimpArgs false
open Go.RowKit

/-- bytes of a node. -/
def IsNode (bs : List Int) : Prop := ∃ nd, NodeRead bs nd true
theorem IsNode.of {bs : List Int} {nd : MNode} {b : Bool} (h : NodeRead bs nd b) : b = true ↔ IsNode bs :=
  ⟨fun e => ⟨nd, e ▸ h⟩, fun ⟨_, h'⟩ => (h.one h').2⟩
def CellAt (cs : List (Int × List Int)) (i : Nat) : Prop := IsNode (cel cs i).2 ∧ nameOf (cel cs i).2 = (cel cs i).1 ∧ (0 < i → (cel cs (i - 1)).1 < (cel cs i).1)
/-- cells as the document has them. -/
def Right (cs : List (Int × List Int)) : Prop := cs.length ≤ 80 ∧ ∀ i, i < cs.length → CellAt cs i
theorem Right.rise {cs : List (Int × List Int)} (h : Right cs) (i j : Nat) (hij : i < j) (hj : j < cs.length) : (cel cs i).1 < (cel cs j).1 := by
  induction j with
  | zero => omega
  | succ j ih =>
    have h1 := (h.2 (j + 1) hj).2.2 (by omega)
    rw [Nat.add_sub_cancel] at h1
    by_cases e : i = j
    · subst e; exact h1
    · have := ih (by omega) (by omega); omega
theorem Right.pos {cs : List (Int × List Int)} (h : Right cs) (i : Nat) (hi : i < cs.length) : 1 ≤ (cel cs i).1 ∧ (cel cs i).1 ≤ 9223372036854775807 := by
  have h1 := (h.2 i hi).2.1
  have h2 := nameOf_bd (cel cs i).2
  omega
/-- where a name stands first; behind them where it does not. -/
def findC (cs : List (Int × List Int)) (m : Int) : Nat := cs.findIdx fun c => c.1 == m
theorem findC_le (cs : List (Int × List Int)) (m : Int) : findC cs m ≤ cs.length := List.findIdx_le_length
theorem findC_is (cs : List (Int × List Int)) (m : Int) (h : findC cs m < cs.length) : (cel cs (findC cs m)).1 = m := by
  have h1 := List.findIdx_getElem (w := h)
  have h1 : cs[List.findIdx (fun c => c.1 == m) cs].1 = m := by simpa using h1
  unfold cel
  rw [List.getElem?_eq_getElem h]
  exact h1
theorem findC_not (cs : List (Int × List Int)) (m : Int) (i : Nat) (h : i < findC cs m) : (cel cs i).1 ≠ m := by
  have hl := findC_le cs m
  have h1 := List.not_of_lt_findIdx (show i < cs.findIdx fun c => c.1 == m from h)
  unfold cel
  rw [List.getElem?_eq_getElem (by omega)]
  simpa using h1
theorem findC_at (cs : List (Int × List Int)) (m : Int) (k : Nat) (hk : k < cs.length) (hm : (cel cs k).1 = m) (h : ∀ j, j < k → (cel cs j).1 ≠ m) : findC cs m = k := by
  rcases Nat.lt_trichotomy (findC cs m) k with h1 | h1 | h1
  · exact absurd (findC_is cs m (by omega)) (h _ h1)
  · exact h1
  · exact absurd hm (findC_not cs m k h1)
theorem findC_none (cs : List (Int × List Int)) (m : Int) (h : ∀ j, j < cs.length → (cel cs j).1 ≠ m) : findC cs m = cs.length := by
  have := findC_le cs m
  rcases Nat.lt_or_ge (findC cs m) cs.length with h1 | h1
  · exact absurd (findC_is cs m h1) (h _ h1)
  · omega
theorem Right.find {cs : List (Int × List Int)} (h : Right cs) (k : Nat) (hk : k < cs.length) : findC cs (cel cs k).1 = k :=
  findC_at cs _ k hk rfl fun j hj => by have := h.rise j k hj hk; omega
/-- what stands under a name: its node, and true; the zero node and false where there is none. -/
def HitIs (cs : List (Int × List Int)) (m : Int) (nd : MNode) (b : Bool) : Prop :=
  (findC cs m < cs.length ∧ NodeRead (cel cs (findC cs m)).2 nd b) ∨ (¬ findC cs m < cs.length ∧ nd = node0 ∧ b = false)
theorem HitIs.one {cs : List (Int × List Int)} {m : Int} {nd nd' : MNode} {b b' : Bool} (h : HitIs cs m nd b) (h' : HitIs cs m nd' b') : nd = nd' ∧ b = b' := by
  rcases h with ⟨h1, h2⟩ | ⟨h1, rfl, rfl⟩ <;> rcases h' with ⟨k1, k2⟩ | ⟨k1, rfl, rfl⟩
  · exact h2.one k2
  · exact absurd h1 k1
  · exact absurd k1 h1
  · exact ⟨rfl, rfl⟩
def NodeAtIs (cs : List (Int × List Int)) (m : Int) (nd : MNode) (b : Bool) : Prop := (Right cs ∧ HitIs cs m nd b) ∨ (¬ Right cs ∧ nd = node0 ∧ b = false)
theorem NodeAtIs.one {cs : List (Int × List Int)} {m : Int} {nd nd' : MNode} {b b' : Bool} (h : NodeAtIs cs m nd b) (h' : NodeAtIs cs m nd' b') : nd = nd' ∧ b = b' := by
  rcases h with ⟨h1, h2⟩ | ⟨h1, rfl, rfl⟩ <;> rcases h' with ⟨k1, k2⟩ | ⟨k1, rfl, rfl⟩
  · exact h2.one k2
  · exact absurd h1 k1
  · exact absurd k1 h1
  · exact ⟨rfl, rfl⟩
end Go.Proofs.Ythehmanifcfnpaa
