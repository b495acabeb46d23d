/- Plain facts on nodes: what a node is, when it is one, its bytes. -/
import Derived.Test.YthehmanifcfnpaaPathM
import Derived.Test.YthehmanifcfnpaaKids
namespace Go.Proofs.Ythehmanifcfnpaa
set_option maxRecDepth 20000
open Go.RowKit

/-- a node. -/
structure MNode where
  kind : Int
  path : List Int
  kids : List (Int × Int)
  val : ByteArray

def okLetter (c : Int) : Bool := decide ((97 ≤ c ∧ c ≤ 122) ∨ (48 ≤ c ∧ c ≤ 57))
def valOk (zs : List Int) : Bool := decide (1 ≤ zs.length ∧ zs.length ≤ 12) && zs.all okLetter
/-- the kid at i is right, seen from the one ahead of it. -/
def KidAt (ks : List (Int × Int)) (i : Nat) : Prop :=
  (0 ≤ (ks[i]?.getD (0, 0)).1 ∧ (ks[i]?.getD (0, 0)).1 ≤ 15) ∧ 1 ≤ (ks[i]?.getD (0, 0)).2 ∧ (0 < i → (ks[i - 1]?.getD (0, 0)).1 < (ks[i]?.getD (0, 0)).1)
instance (ks : List (Int × Int)) (i : Nat) : Decidable (KidAt ks i) := by unfold KidAt; infer_instance
def kidsOk (ks : List (Int × Int)) : Bool := decide (∀ i, i < ks.length → KidAt ks i)
def hasVal (n : MNode) : Bool := !n.val.toList.isEmpty
/-- where the first kid stands. -/
def at0 (ks : List (Int × Int)) : Int := (ks[0]?.getD (0, 0)).1
def kindOk (n : MNode) : Bool :=
  if n.kind = 1 then decide (n.kids.length = 0) && hasVal n
  else if n.kind = 2 then decide (0 < n.path.length) && !hasVal n && decide (n.kids.length = 1) && decide (at0 n.kids = 0)
  else if n.kind = 3 then decide (n.path.length = 0) && decide (2 ≤ n.kids.length + (if hasVal n then 1 else 0))
  else false
def nodeOk (n : MNode) : Bool := isPath n.path && kidsOk n.kids && (!hasVal n || valOk (sb n.val)) && kindOk n

theorem valOk_bad (zs : List Int) (k : Nat) (hk : k < zs.length) (h : okLetter (zs[k]?.getD 0) = false) : valOk zs = false := by
  unfold valOk
  rw [Bool.and_eq_false_iff]
  right
  rw [List.all_eq_false]
  exact ⟨zs[k]?.getD 0, by rw [List.getElem?_eq_getElem hk]; exact List.getElem_mem hk, by rw [h]; decide⟩
theorem valOk_good (zs : List Int) (h : ∀ z ∈ zs, okLetter z = true) : valOk zs = decide (1 ≤ zs.length ∧ zs.length ≤ 12) := by
  unfold valOk
  rw [show zs.all okLetter = true by rw [List.all_eq_true]; exact h, Bool.and_true]
theorem letters_step (zs : List Int) (k : Nat) (hk : k < zs.length) (h : ∀ z ∈ zs.take k, okLetter z = true) (h1 : okLetter (zs[k]?.getD 0) = true) : ∀ z ∈ zs.take (k + 1), okLetter z = true := by
  rw [take_step zs k hk]
  intro z hz
  simp only [List.mem_append, List.mem_singleton] at hz
  rcases hz with hz | rfl
  · exact h z hz
  · exact h1
theorem kidsOk_bad (ks : List (Int × Int)) (k : Nat) (hk : k < ks.length) (h : ¬ KidAt ks k) : kidsOk ks = false := by
  unfold kidsOk
  rw [decide_eq_false_iff_not]
  exact fun e => h (e k hk)
theorem kidsOk_good (ks : List (Int × Int)) (h : ∀ i, i < ks.length → KidAt ks i) : kidsOk ks = true := by
  unfold kidsOk
  exact decide_eq_true h
theorem isPath_long (ps : List Int) (h : 8 < ps.length) : isPath ps = false := by
  rw [Bool.eq_false_iff]; intro e; have := ((isPath_iff ps).1 e).1; omega
end Go.Proofs.Ythehmanifcfnpaa
