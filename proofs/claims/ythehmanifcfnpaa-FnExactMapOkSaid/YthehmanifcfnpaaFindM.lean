/- Plain facts on the way down a path. No statement of the program is proved here. -/
import Derived.Test.YthehmanifcfnpaaReachM
import Derived.Test.YthehmanifcfnpaaPathM
namespace Go.Proofs.Ythehmanifcfnpaa
set_option maxRecDepth 20000
set_option linter.unusedVariables false
set_option linter.unusedSimpArgs false
open Go.RowKit

theorem com_le (a b : List Int) : com a b ≤ a.length ∧ com a b ≤ b.length := by
  induction a generalizing b with
  | nil => cases b <;> simp [com]
  | cons x r ih =>
    cases b with
    | nil => simp [com]
    | cons y s =>
      have := ih s
      simp only [com]
      split
      · simp; omega
      · simp
/-- the empty text. -/
def noStr : ByteArray := { data := #[] }
/-- the name of the kid at a number; 0 where there is none. -/
def kidAt (ks : List (Int × Int)) (a : Int) : Int := match ks.find? (fun k => k.1 == a) with
  | some k => k.2
  | none => 0
theorem kidAt_at (ks : List (Int × Int)) (a : Int) (k : Nat) (hk : k < ks.length) (he : (ks[k]?.getD (0, 0)).1 = a) (h : ∀ j, j < k → (ks[j]?.getD (0, 0)).1 ≠ a) : kidAt ks a = (ks[k]?.getD (0, 0)).2 := by
  induction ks generalizing k with
  | nil => simp at hk
  | cons x r ih =>
    unfold kidAt
    rw [List.find?_cons]
    cases k with
    | zero => simp at he; simp [he]
    | succ k =>
      have h0 := h 0 (by omega)
      simp at h0
      have hx : (x.1 == a) = false := by simpa using h0
      rw [hx]
      have := ih k (by simpa using hk) (by simpa using he) (fun j hj => by have := h (j + 1) (by omega); simpa using this)
      unfold kidAt at this
      simpa using this
theorem kidAt_none (ks : List (Int × Int)) (a : Int) (h : ∀ j, j < ks.length → (ks[j]?.getD (0, 0)).1 ≠ a) : kidAt ks a = 0 := by
  unfold kidAt
  have : ks.find? (fun k => k.1 == a) = none := by
    rw [List.find?_eq_none]
    intro x hx
    obtain ⟨i, hi, rfl⟩ := List.mem_iff_getElem.1 hx
    have := h i hi
    rw [List.getElem?_eq_getElem hi] at this
    simpa using this
  rw [this]
/-- what a node on the way says: the value and the code, or where to go on. -/
def stepAt (nd : MNode) (path : List Int) : (ByteArray × Int) ⊕ (Int × List Int) :=
  if com nd.path path < nd.path.length ∨ (nd.kind = 1 ∧ com nd.path path < path.length) then .inl (noStr, 1)
  else if nd.kind = 1 then .inl (nd.val, 0)
  else if nd.kind = 2 then .inr ((nd.kids[0]?.getD (0, 0)).2, path.drop (com nd.path path))
  else match path.drop (com nd.path path) with
    | [] => if hasVal nd then .inl (nd.val, 0) else .inl (noStr, 1)
    | a :: r => .inr (kidAt nd.kids a, r)
/-- down a path: the value, the code, and the names of the nodes on the way. -/
def DownIs (cs : List (Int × List Int)) : Nat → Int → List Int → ByteArray → Int → List Int → Prop
  | 0, _, _, _, _, _ => False
  | f + 1, root, path, v, k, way =>
    (root = 0 ∧ v = noStr ∧ k = 1 ∧ way = []) ∨
    (root ≠ 0 ∧ ∃ nd b, HitIs cs root nd b ∧
      ((b = false ∧ v = noStr ∧ k = 2 ∧ way = []) ∨
       (b = true ∧ ∃ way', way = root :: way' ∧
         ((∃ r, stepAt nd path = .inl r ∧ v = r.1 ∧ k = r.2 ∧ way' = []) ∨ (∃ r, stepAt nd path = .inr r ∧ DownIs cs f r.1 r.2 v k way')))))
theorem DownIs.one {cs : List (Int × List Int)} (f f' : Nat) {root : Int} {path : List Int} {v v' : ByteArray} {k k' : Int} {way way' : List Int} (h : DownIs cs f root path v k way) (h' : DownIs cs f' root path v' k' way') : v = v' ∧ k = k' ∧ way = way' := by
  induction f generalizing f' root path way way' with
  | zero => exact h.elim
  | succ f ih =>
    cases f' with
    | zero => exact h'.elim
    | succ f' =>
      unfold DownIs at h h'
      rcases h with ⟨h0, rfl, rfl, rfl⟩ | ⟨h0, nd, b, hit, h⟩ <;> rcases h' with ⟨h0', rfl, rfl, rfl⟩ | ⟨h0', nd', b', hit', h'⟩
      · exact ⟨rfl, rfl, rfl⟩
      · exact absurd h0 h0'
      · exact absurd h0' h0
      · obtain ⟨rfl, rfl⟩ := hit.one hit'
        rcases h with ⟨hb, rfl, rfl, rfl⟩ | ⟨hb, w1, rfl, h⟩ <;> rcases h' with ⟨hb', rfl, rfl, rfl⟩ | ⟨hb', w1', rfl, h'⟩
        · exact ⟨rfl, rfl, rfl⟩
        · rw [hb] at hb'; cases hb'
        · rw [hb] at hb'; cases hb'
        · rcases h with ⟨r, e, rfl, rfl, rfl⟩ | ⟨r, e, h⟩ <;> rcases h' with ⟨r', e', rfl, rfl, rfl⟩ | ⟨r', e', h'⟩
          · rw [e] at e'; cases e'; exact ⟨rfl, rfl, rfl⟩
          · rw [e] at e'; cases e'
          · rw [e] at e'; cases e'
          · rw [e] at e'; cases e'
            obtain ⟨a, b, c⟩ := ih f' h h'
            exact ⟨a, b, by rw [c]⟩
/-- the answer of Found. -/
def FoundIs (cs : List (Int × List Int)) (root : Int) (key : ByteArray) (v : ByteArray) (k : Int) : Prop :=
  (¬ (Right cs ∧ isKey (sb key) = true ∧ 0 ≤ root) ∧ v = noStr ∧ k = 3) ∨ ((Right cs ∧ isKey (sb key) = true ∧ 0 ≤ root) ∧ ∃ f way, DownIs cs f root (pathOf (sb key)) v k way)
theorem FoundIs.one {cs : List (Int × List Int)} {root : Int} {key v v' : ByteArray} {k k' : Int} (h : FoundIs cs root key v k) (h' : FoundIs cs root key v' k') : v = v' ∧ k = k' := by
  rcases h with ⟨a, rfl, rfl⟩ | ⟨a, f, way, h⟩ <;> rcases h' with ⟨a', rfl, rfl⟩ | ⟨a', f', way', h'⟩
  · exact ⟨rfl, rfl⟩
  · exact absurd a' a
  · exact absurd a a'
  · have := h.one f f' h'
    exact ⟨this.1, this.2.1⟩
end Go.Proofs.Ythehmanifcfnpaa
