/- Plain facts on the bytes of nodes: two right nodes that write the same bytes are one; what a reading of bytes says. -/
import Derived.Test.YthehmanifcfnpaaNodeB
import Derived.Test.YthehmanifcfnpaaNameF
import Derived.Test.YthehmanifcfnpaaNameM
namespace Go.Proofs.Ythehmanifcfnpaa
set_option maxRecDepth 20000
open Go.RowKit

/-- the names of its kids are numbers of 64 bits. -/
def NodeWf (nd : MNode) : Prop := ∀ k ∈ nd.kids, k.2 ≤ 9223372036854775807
theorem map_mod (ps : List Int) (h : ∀ z ∈ ps, 0 ≤ z ∧ z ≤ 15) : ps.map (· % 256) = ps := by
  conv => rhs; rw [← List.map_id ps]
  apply List.map_congr_left
  intro z hz
  have := h z hz
  simp; omega
theorem nodeOk_parts (nd : MNode) (h : nodeOk nd = true) : isPath nd.path = true ∧ kidsOk nd.kids = true ∧ (hasVal nd = true → valOk (sb nd.val) = true) ∧ kindOk nd = true := by
  unfold nodeOk at h
  simp only [Bool.and_eq_true, Bool.or_eq_true, Bool.not_eq_true'] at h
  refine ⟨h.1.1.1, h.1.1.2, fun hv => ?_, h.2⟩
  rcases h.1.2 with h | h
  · rw [hv] at h; cases h
  · exact h
theorem nodeOk_kind (nd : MNode) (h : nodeOk nd = true) : 1 ≤ nd.kind ∧ nd.kind ≤ 3 := by
  have hk := (nodeOk_parts nd h).2.2.2
  unfold kindOk at hk
  split at hk
  · omega
  · split at hk
    · omega
    · split at hk
      · omega
      · cases hk
theorem nodeOk_val (nd : MNode) (h : nodeOk nd = true) : nd.val.size ≤ 12 := by
  by_cases hv : hasVal nd = true
  · have h1 := (nodeOk_parts nd h).2.2.1 hv
    unfold valOk at h1
    simp at h1
    have := sb_len nd.val
    omega
  · have h1 : nd.val.toList = [] := by
      unfold hasVal at hv
      simpa using hv
    rw [empty_str nd.val h1]; decide
theorem kidsOk_at (ks : List (Int × Int)) (h : kidsOk ks = true) (i : Nat) (hi : i < ks.length) : KidAt ks i := by
  unfold kidsOk at h
  exact of_decide_eq_true h i hi
theorem kidsOk_ge (ks : List (Int × Int)) (h : kidsOk ks = true) (i : Nat) (hi : i < ks.length) : (i : Int) ≤ (ks[i]?.getD (0, 0)).1 := by
  induction i with
  | zero => exact (kidsOk_at ks h 0 hi).1.1
  | succ i ih =>
    have h1 := ih (by omega)
    have h2 := (kidsOk_at ks h (i + 1) hi).2.2 (by omega)
    rw [Nat.add_sub_cancel] at h2
    omega
theorem kidsOk_len (ks : List (Int × Int)) (h : kidsOk ks = true) : ks.length ≤ 16 := by
  rcases Nat.lt_or_ge 16 ks.length with hl | hl
  · have h1 := kidsOk_ge ks h 16 hl
    have h2 := (kidsOk_at ks h 16 hl).1.2
    omega
  · exact hl
theorem kidsOk_mem (ks : List (Int × Int)) (h : kidsOk ks = true) (k : Int × Int) (hk : k ∈ ks) : (0 ≤ k.1 ∧ k.1 ≤ 15) ∧ 1 ≤ k.2 := by
  obtain ⟨i, hi, rfl⟩ := List.getElem_of_mem hk
  have := kidsOk_at ks h i hi
  unfold KidAt at this
  rw [List.getElem?_eq_getElem hi] at this
  exact ⟨this.1, this.2.1⟩
theorem nb_inj (x y : Int) (hx : 0 ≤ x ∧ x ≤ 9223372036854775807) (hy : 0 ≤ y ∧ y ≤ 9223372036854775807) (h : nameBytes x = nameBytes y) : x = y := by
  rw [nameBytes_yes x (by omega), nameBytes_yes y (by omega)] at h
  have e : ∀ k, k < 8 → x / 2 ^ (8 * k) % 256 = y / 2 ^ (8 * k) % 256 := by
    intro k hk
    rw [← nb_at x 8 k hk, ← nb_at y 8 k hk, h]
  have e0 := e 0 (by omega); have e1 := e 1 (by omega); have e2 := e 2 (by omega); have e3 := e 3 (by omega)
  have e4 := e 4 (by omega); have e5 := e 5 (by omega); have e6 := e 6 (by omega); have e7 := e 7 (by omega)
  simp at e0 e1 e2 e3 e4 e5 e6 e7
  omega
theorem kidBytes_inj (a b : List (Int × Int)) (hl : a.length = b.length) (ha : ∀ k ∈ a, ((0 ≤ k.1 ∧ k.1 ≤ 15) ∧ 1 ≤ k.2) ∧ k.2 ≤ 9223372036854775807) (hb : ∀ k ∈ b, ((0 ≤ k.1 ∧ k.1 ≤ 15) ∧ 1 ≤ k.2) ∧ k.2 ≤ 9223372036854775807) (h : a.flatMap kidBytes = b.flatMap kidBytes) : a = b := by
  induction a generalizing b with
  | nil => cases b with
    | nil => rfl
    | cons y q => simp at hl
  | cons x r ih =>
    cases b with
    | nil => simp at hl
    | cons y q =>
      have hx := ha x (by simp)
      have hy := hb y (by simp)
      rw [List.flatMap_cons, List.flatMap_cons] at h
      have lx : (kidBytes x).length = 9 := by unfold kidBytes; rw [nameBytes_yes x.2 (by omega)]; simp [nb]
      have ly : (kidBytes y).length = 9 := by unfold kidBytes; rw [nameBytes_yes y.2 (by omega)]; simp [nb]
      obtain ⟨h1, h2⟩ := List.append_inj h (by omega)
      have h3 := ih q (by simpa using hl) (fun k hk => ha k (by simp [hk])) (fun k hk => hb k (by simp [hk])) h2
      unfold kidBytes at h1
      injection h1 with h4 h5
      have h6 := nb_inj x.2 y.2 (by omega) (by omega) h5
      have h7 : x = y := by
        obtain ⟨x1, x2⟩ := x
        obtain ⟨y1, y2⟩ := y
        simp at h6 h4 hx hy ⊢
        omega
      rw [h7, h3]
theorem str_inj (s t : ByteArray) (h : sb s = sb t) : s = t := by rw [← str_sb s, h, str_sb t]
/-- two right nodes that write the same bytes are one. -/
theorem nodeBytes_inj (a b : MNode) (ha : nodeOk a = true) (hb : nodeOk b = true) (wa : NodeWf a) (wb : NodeWf b) (h : nodeBytes a = nodeBytes b) : a = b := by
  unfold nodeBytes at h
  rw [if_pos ha, if_pos hb] at h
  have pa := (isPath_iff _).1 (nodeOk_parts a ha).1
  have pb := (isPath_iff _).1 (nodeOk_parts b hb).1
  have ka := nodeOk_kind a ha; have kb := nodeOk_kind b hb
  have va := nodeOk_val a ha; have vb := nodeOk_val b hb
  have ca := (nodeOk_parts a ha).2.1; have cb := (nodeOk_parts b hb).2.1
  have na := kidsOk_len _ ca; have nb' := kidsOk_len _ cb
  unfold rawBytes at h
  rw [map_mod a.path pa.2, map_mod b.path pb.2] at h
  simp only [List.append_assoc, List.cons_append, List.nil_append] at h
  injection h with h1 h
  injection h with h2 h
  obtain ⟨h3, h⟩ := List.append_inj h (by omega)
  injection h with h4 h
  obtain ⟨h5, h⟩ := List.append_inj h (by rw [sb_len, sb_len]; omega)
  injection h with h6 h7
  have h8 := kidBytes_inj a.kids b.kids (by omega) (fun k hk => ⟨kidsOk_mem _ ca k hk, wa k hk⟩) (fun k hk => ⟨kidsOk_mem _ cb k hk, wb k hk⟩) h7
  have h9 := str_inj _ _ h5
  obtain ⟨ak, ap, ai, av⟩ := a
  obtain ⟨bk, bp, bi, bv⟩ := b
  simp at h1 h3 h8 h9 ka kb ⊢
  exact ⟨by omega, h3, h8, h9⟩

/-- the node that is none. -/
def node0 : MNode := ⟨0, [], [], { data := #[] }⟩
/-- what the reading of some bytes says: a right node whose bytes they are; or none, and there is none. -/
def NodeRead (bs : List Int) (nd : MNode) (b : Bool) : Prop :=
  (b = true ∧ nodeOk nd = true ∧ NodeWf nd ∧ nodeBytes nd = bs) ∨ (b = false ∧ nd = node0 ∧ ∀ n : MNode, nodeOk n = true → NodeWf n → nodeBytes n ≠ bs)
theorem NodeRead.one {bs : List Int} {nd nd' : MNode} {b b' : Bool} (h : NodeRead bs nd b) (h' : NodeRead bs nd' b') : nd = nd' ∧ b = b' := by
  rcases h with ⟨rfl, h1, h2, h3⟩ | ⟨rfl, rfl, h1⟩ <;> rcases h' with ⟨rfl, k1, k2, k3⟩ | ⟨rfl, rfl, k1⟩
  · exact ⟨nodeBytes_inj _ _ h1 k1 h2 k2 (h3.trans k3.symm), rfl⟩
  · exact absurd h3 (k1 _ h1 h2)
  · exact absurd k3 (h1 _ k1 k2)
  · exact ⟨rfl, rfl⟩
end Go.Proofs.Ythehmanifcfnpaa
