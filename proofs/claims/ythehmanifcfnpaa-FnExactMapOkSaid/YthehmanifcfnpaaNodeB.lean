/- The bytes of a node, as the model writes them: a row of the call's own. -/
import Derived.Test.YthehmanifcfnpaaTouch
import Derived.Test.YthehmanifcfnpaaNodeK
import Derived.Test.YthehmanifcfnpaaNameB
import Derived.Laws.IdiomStrings
namespace Go.Proofs.Ythehmanifcfnpaa
set_option maxRecDepth 20000
open Go.RowKit

/-- the bytes that are written of a node, each number in one byte. -/
def kidBytes (k : Int × Int) : List Int := k.1 % 256 :: nameBytes k.2
def rawBytes (nd : MNode) : List Int :=
  [nd.kind % 256, (nd.path.length : Int) % 256] ++ nd.path.map (· % 256) ++ [(nd.val.size : Int) % 256] ++ sb nd.val ++ [(nd.kids.length : Int) % 256] ++ nd.kids.flatMap kidBytes
theorem nameBytes_len8 (x : Int) : (nameBytes x).length ≤ 8 := by
  unfold nameBytes
  split <;> simp [nb]
theorem kidBytes_len (ks : List (Int × Int)) : (ks.flatMap kidBytes).length ≤ ks.length * 9 := by
  induction ks with
  | nil => simp
  | cons k r ih =>
    have := nameBytes_len8 k.2
    simp [kidBytes] at ih ⊢
    omega
theorem Mine.app {w1 w2 : World} {base g n c g' c' m : Nat} {xs ys : List Int} (hm : Mine w1 base (some ⟨g, 0, none⟩) n c xs) (hys : ∀ z ∈ ys, 0 ≤ z ∧ z ≤ 255)
    (hown' : w2.ownsRow base 5 1 (.slice (some ⟨g', 0, none⟩) m c') m (xs.map (Value.int .u8) ++ ys.map (Value.int .u8))) : Mine w2 base (some ⟨g', 0, none⟩) m c' (xs ++ ys) := by
  refine ⟨by rw [List.map_append]; exact hown', fun z hz => ?_⟩
  rcases List.mem_append.1 hz with hz | hz
  · exact hm.2 z hz
  · exact hys z hz
/-- a text turned into bytes: a new row of just these. -/
theorem conv_str (s : ByteArray) (w : World) : ∃ cap w', (convert 9 47 (.string s)).run Try.prog w = .ok (.slice (some ⟨w.heap.size, 0, none⟩) s.size cap) w' ∧ Below w.heap.size w w' ∧ w'.heap.size = w.heap.size + 1 ∧
    ∀ j u, ((sb s).map (Value.int .u8))[j]? = some u → w'.cell? ((⟨w.heap.size, 0, none⟩ : Addr).add j) = some u := by
  refine ⟨_, _, run_bytes_of_string w _ _ _ s Try.underlying9 Try.underlying47 Try.underlying5, ?_, by simp, ?_⟩
  · exact (Below.refl w.heap.size w).drew.alloc (Nat.le_refl _) _
  · intro j u hj
    have hadd : (⟨w.heap.size, 0, none⟩ : Addr).add j = ⟨w.heap.size, j, none⟩ := by unfold Addr.add; split <;> simp_all
    rw [hadd]
    have hjl : j < (sb s).length := by
      rcases Nat.lt_or_ge j (sb s).length with h | h
      · exact h
      · rw [List.getElem?_eq_none (by simpa using h)] at hj; cases hj
    have hj2 : j < s.data.size := by rw [sb_len] at hjl; exact hjl
    have h := World.cell?_alloc_mark w.drew (bytesRow s (grownCap w s.size 0 5)) 5 ((bytesRow s (grownCap w s.size 0 5)).size, (bytesRow s (grownCap w s.size 0 5)).size + 1) j
    have h' : (w.drew.alloc (.cells (bytesRow s (grownCap w s.size 0 5)) 5 ((bytesRow s (grownCap w s.size 0 5)).size, (bytesRow s (grownCap w s.size 0 5)).size + 1))).cell? ⟨w.heap.size, j, none⟩ = _ := h
    rw [h', bytesRow_at s _ j hj2]
    have e := sb_at s j hj2
    simp [hjl] at hj e
    rw [← hj, e]
    rfl

/-- the bytes of a node; none where it is no right node. -/
def nodeBytes (nd : MNode) : List Int := if nodeOk nd then rawBytes nd else []
theorem nodeBytes_len (nd : MNode) : (nodeBytes nd).length ≤ 4 + nd.path.length + nd.val.size + nd.kids.length * 9 := by
  unfold nodeBytes
  split
  · unfold rawBytes
    have h1 := kidBytes_len nd.kids
    have h2 := sb_len nd.val
    simp only [List.length_append, List.length_map, List.length_cons, List.length_nil]
    omega
  · simp
end Go.Proofs.Ythehmanifcfnpaa
