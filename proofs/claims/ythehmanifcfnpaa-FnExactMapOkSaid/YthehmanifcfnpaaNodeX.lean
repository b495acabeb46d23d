/- What the helpers of the exact laws do at nodes. -/
import Derived.Test.YthehmanifcfnpaaTouch
import Derived.Test.YthehmanifcfnpaaNodeK
import Derived.Test.YthehmanifcfnpaaKidsX
import Derived.Test.YthehmanifcfnpaaIntsX
namespace Go.Proofs.Ythehmanifcfnpaa
set_option maxRecDepth 20000
open Go.RowKit

/-- what is left behind a node's size. -/
def leftOf (left m : Nat) : Int := if m ≤ left then ((left - m : Nat) : Int) else -1
/-- the value v is a node of the call's own: its lists lie in blocks of their own, from base on. -/
def OwnN (w : World) (base : Nat) (v : Value) (nd : MNode) : Prop :=
  ∃ Ap np cp Ak nk ck, v = .agg #[.int .i64 nd.kind, .slice Ap np cp, .slice Ak nk ck, .string nd.val] ∧ np ≤ 1048576 ∧ nk ≤ 1048576 ∧ nd.val.size ≤ 1048576 ∧ OwnI w base Ap np cp nd.path ∧ OwnK w base Ak nk ck nd.kids ∧
    ∀ g, (Value.slice Ap np cp).ownBlock = some g → (Value.slice Ak nk ck).ownBlock ≠ some g
theorem OwnN.node {w : World} {base : Nat} {v : Value} {nd : MNode} (h : OwnN w base v nd) : NodeIn w w.heap.size v nd := by
  obtain ⟨Ap, np, cp, Ak, nk, ck, rfl, h1, h2, h3, h4, h5, _⟩ := h
  exact ⟨Ap, np, cp, Ak, nk, ck, rfl, h1, h2, h3, h4.ints, h5.kids⟩
theorem OwnN.below {w w' : World} {base : Nat} {v : Value} {nd : MNode} (h : OwnN w base v nd) (hb : Below w.heap.size w w') : OwnN w' base v nd := by
  obtain ⟨Ap, np, cp, Ak, nk, ck, rfl, h1, h2, h3, h4, h5, h6⟩ := h
  exact ⟨Ap, np, cp, Ak, nk, ck, rfl, h1, h2, h3, h4.below hb, h5.below hb, h6⟩
/-- block g holds one of the lists of the node v. -/
def NodeBlk (v : Value) (g : Nat) : Prop := ∃ k Ap np cp Ak nk ck s, v = .agg #[k, .slice Ap np cp, .slice Ak nk ck, s] ∧ ((Value.slice Ap np cp).ownBlock = some g ∨ (Value.slice Ak nk ck).ownBlock = some g)
theorem OwnN.blk {w : World} {base : Nat} {v : Value} {nd : MNode} (h : OwnN w base v nd) {g : Nat} (hg : NodeBlk v g) : base ≤ g ∧ g < w.heap.size := by
  obtain ⟨Ap, np, cp, Ak, nk, ck, rfl, _, _, _, h4, h5, _⟩ := h
  obtain ⟨k, Ap', np', cp', Ak', nk', ck', s, e, hg⟩ := hg
  cases e
  rcases hg with hg | hg
  · exact World.ownsRow.lt h4 g hg
  · exact World.ownsRow.lt h5 g hg
theorem OwnN.touch {S : Nat → Prop} {w w' : World} {base : Nat} {v : Value} {nd : MNode} (h : OwnN w base v nd) (t : Touch S w w') (hn : ∀ g, NodeBlk v g → ¬ S g) : OwnN w' base v nd := by
  obtain ⟨Ap, np, cp, Ak, nk, ck, rfl, h1, h2, h3, h4, h5, h6⟩ := h
  exact ⟨Ap, np, cp, Ak, nk, ck, rfl, h1, h2, h3, h4.touch t (fun g hg => hn g ⟨_, _, _, _, _, _, _, _, rfl, .inl hg⟩), h5.touch t (fun g hg => hn g ⟨_, _, _, _, _, _, _, _, rfl, .inr hg⟩), h6⟩
theorem OwnN.base {w : World} {base base' : Nat} {v : Value} {nd : MNode} (h : OwnN w base v nd) (hb : base' ≤ base) : OwnN w base' v nd := by
  obtain ⟨Ap, np, cp, Ak, nk, ck, rfl, h1, h2, h3, h4, h5, h6⟩ := h
  exact ⟨Ap, np, cp, Ak, nk, ck, rfl, h1, h2, h3, h4.base hb, h5.base hb, h6⟩
end Go.Proofs.Ythehmanifcfnpaa
