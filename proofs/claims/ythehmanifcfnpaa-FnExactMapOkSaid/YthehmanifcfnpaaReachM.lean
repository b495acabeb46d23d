/- Plain facts on what is reached among cells. No statement of the program is proved here. -/
import Derived.Test.YthehmanifcfnpaaCellM
namespace Go.Proofs.Ythehmanifcfnpaa
set_option maxRecDepth 20000
set_option linter.unusedVariables false
set_option linter.unusedSimpArgs false
open Go.RowKit

/-- a list of numbers that rises. -/
def RiseI (l : List Int) : Prop := l.Pairwise (· < ·)
theorem riseI_at (l : List Int) (h : RiseI l) (i j : Nat) (hij : i < j) (hj : j < l.length) : l[i]?.getD 0 < l[j]?.getD 0 := by
  rw [List.getElem?_eq_getElem (show i < l.length by omega), List.getElem?_eq_getElem hj]
  exact List.pairwise_iff_getElem.1 h i j (by omega) hj hij
theorem riseI_one (a b : List Int) (ha : RiseI a) (hb : RiseI b) (h : ∀ x, x ∈ a ↔ x ∈ b) : a = b := by
  induction a generalizing b with
  | nil =>
    cases b with
    | nil => rfl
    | cons y b => exact absurd ((h y).2 (by simp)) (by simp)
  | cons x a ih =>
    cases b with
    | nil => exact absurd ((h x).1 (by simp)) (by simp)
    | cons y b =>
      have ha1 := List.pairwise_cons.1 ha
      have hb1 := List.pairwise_cons.1 hb
      have hxy : x = y := by
        have h1 := (h x).1 (by simp)
        have h2 := (h y).2 (by simp)
        rcases List.mem_cons.1 h1 with e | h1
        · exact e
        · rcases List.mem_cons.1 h2 with e | h2
          · exact e.symm
          · have := hb1.1 x h1
            have := ha1.1 y h2
            omega
      subst hxy
      congr 1
      refine ih b ha1.2 hb1.2 fun z => ⟨fun hz => ?_, fun hz => ?_⟩
      · rcases List.mem_cons.1 ((h z).1 (List.mem_cons_of_mem _ hz)) with e | e
        · subst e; have := ha1.1 z hz; omega
        · exact e
      · rcases List.mem_cons.1 ((h z).2 (List.mem_cons_of_mem _ hz)) with e | e
        · subst e; have := hb1.1 z hz; omega
        · exact e
theorem riseI_len (l u : List Int) (h : RiseI l) (hs : ∀ x, x ∈ l → x ∈ u) : l.length ≤ u.length := by
  induction l generalizing u with
  | nil => simp
  | cons x l ih =>
    have h1 := List.pairwise_cons.1 h
    have hx := hs x (by simp)
    have := ih (u.erase x) h1.2 (fun y hy => by
      have hne : y ≠ x := by have := h1.1 y hy; omega
      exact (List.mem_erase_of_ne hne).2 (hs y (List.mem_cons_of_mem _ hy)))
    rw [List.length_erase_of_mem hx] at this
    have hp : 0 < u.length := List.length_pos_of_mem hx
    simp only [List.length_cons]
    omega
/-- where a number belongs. -/
def placeI (l : List Int) (m : Int) : Nat := l.findIdx fun x => decide (m < x)
theorem placeI_le (l : List Int) (m : Int) : placeI l m ≤ l.length := List.findIdx_le_length
theorem placeI_at (l : List Int) (m : Int) (k : Nat) (hk : k ≤ l.length) (h0 : ∀ j, j < k → l[j]?.getD 0 ≤ m) (h1 : k < l.length → m < l[k]?.getD 0) : placeI l m = k := by
  have hle := placeI_le l m
  have hc : ∀ i (h : i < l.length), l[i] = l[i]?.getD 0 := fun i h => by rw [List.getElem?_eq_getElem h]; rfl
  rcases Nat.lt_trichotomy (placeI l m) k with h | h | h
  · have h2 := List.findIdx_getElem (w := show l.findIdx (fun x => decide (m < x)) < l.length from by unfold placeI at h; omega)
    have h3 := h0 _ h
    rw [hc] at h2
    have h2 : m < l[placeI l m]?.getD 0 := of_decide_eq_true h2
    omega
  · exact h
  · have h2 := List.not_of_lt_findIdx (show k < l.findIdx fun x => decide (m < x) from h)
    have hkl : k < l.length := by omega
    rw [hc k hkl] at h2
    have h2 : l[k]?.getD 0 ≤ m := by simpa using h2
    have := h1 hkl
    omega
def insI (l : List Int) (m : Int) : List Int := l.take (placeI l m) ++ m :: l.drop (placeI l m)
theorem insI_len (l : List Int) (m : Int) : (insI l m).length = l.length + 1 := by
  have := placeI_le l m
  unfold insI; simp; omega
theorem insI_mem (l : List Int) (m x : Int) : x ∈ insI l m ↔ x = m ∨ x ∈ l := by
  unfold insI
  conv => rhs; rw [← List.take_append_drop (placeI l m) l]
  simp only [List.mem_append, List.mem_cons]
  constructor
  · rintro (h | h | h)
    · exact .inr (.inl h)
    · exact .inl h
    · exact .inr (.inr h)
  · rintro (h | h | h)
    · exact .inr (.inl h)
    · exact .inl h
    · exact .inr (.inr h)
theorem insI_rise (l : List Int) (m : Int) (h : RiseI l) (hm : m ∉ l) : RiseI (insI l m) := by
  have hle := placeI_le l m
  have hc : ∀ i (h : i < l.length), l[i] = l[i]?.getD 0 := fun i h => by rw [List.getElem?_eq_getElem h]; rfl
  have hlo : ∀ x, x ∈ l.take (placeI l m) → x < m := by
    intro x hx
    obtain ⟨i, hi, rfl⟩ := List.mem_iff_getElem.1 hx
    have hi2 : i < placeI l m := by simp at hi; omega
    have h2 := List.not_of_lt_findIdx (show i < l.findIdx fun x => decide (m < x) from hi2)
    have h3 : l[i]'(by omega) ≤ m := by simpa using h2
    rw [List.getElem_take]
    rcases Int.lt_or_eq_of_le h3 with h | h
    · exact h
    · exact absurd (h ▸ List.getElem_mem _) hm
  have hhi : ∀ x, x ∈ l.drop (placeI l m) → m < x := by
    intro x hx
    obtain ⟨i, hi, rfl⟩ := List.mem_iff_getElem.1 hx
    have hi2 : placeI l m + i < l.length := by simp at hi; omega
    rw [List.getElem_drop]
    have h0 : m < l[placeI l m]'(by omega) := by
      have h2 := List.findIdx_getElem (w := show l.findIdx (fun x => decide (m < x)) < l.length from by unfold placeI at hi2; omega)
      exact of_decide_eq_true h2
    rcases Nat.eq_zero_or_pos i with e | e
    · subst e; exact h0
    · have := List.pairwise_iff_getElem.1 h (placeI l m) (placeI l m + i) (by omega) hi2 (by omega)
      omega
  unfold RiseI insI
  rw [List.pairwise_append]
  refine ⟨h.sublist (List.take_sublist _ _), List.pairwise_cons.2 ⟨fun x hx => hhi x hx, h.sublist (List.drop_sublist _ _)⟩, fun a ha b hb => ?_⟩
  rcases List.mem_cons.1 hb with e | hb
  · rw [e]; exact hlo a ha
  · have := hlo a ha; have := hhi b hb; omega

/-- k is the name of a kid of what stands under x. -/
def KidOf (cs : List (Int × List Int)) (x k : Int) : Prop := ∃ nd a, HitIs cs x nd true ∧ (a, k) ∈ nd.kids
/-- x is reached from these roots. -/
def Reached (cs : List (Int × List Int)) (roots : List Int) (x : Int) : Prop := ∀ S : Int → Prop, (∀ r, r ∈ roots → r ≠ 0 → S r) → (∀ y k, S y → KidOf cs y k → S k) → S x
theorem Reached.root {cs : List (Int × List Int)} {roots : List Int} {x : Int} (h : x ∈ roots) (h0 : x ≠ 0) : Reached cs roots x := fun S h1 _ => h1 x h h0
theorem Reached.kid {cs : List (Int × List Int)} {roots : List Int} {x k : Int} (h : Reached cs roots x) (hk : KidOf cs x k) : Reached cs roots k := fun S h1 h2 => h2 x k (h S h1 h2) hk
theorem hit_ok {cs : List (Int × List Int)} {x : Int} {nd : MNode} (h : HitIs cs x nd true) : nodeOk nd = true := by
  rcases h with ⟨_, ⟨_, h, _⟩ | ⟨h, _⟩⟩ | ⟨_, _, h⟩
  · exact h
  · cases h
  · cases h
theorem kidOf_pos {cs : List (Int × List Int)} {x k : Int} (h : KidOf cs x k) : k ≠ 0 := by
  obtain ⟨nd, a, h1, h2⟩ := h
  obtain ⟨i, hi, e⟩ := List.mem_iff_getElem.1 h2
  have h3 := kidsOk_at nd.kids (nodeOk_parts nd (hit_ok h1)).2.1 i hi
  unfold KidAt at h3
  rw [List.getElem?_eq_getElem hi, e] at h3
  have := h3.2.1
  simp at this
  omega
theorem hit_found {cs : List (Int × List Int)} {x : Int} {nd : MNode} {b : Bool} (hR : Right cs) (h : HitIs cs x nd b) : b = true ↔ findC cs x < cs.length := by
  rcases h with ⟨h1, h2⟩ | ⟨h1, _, rfl⟩
  · exact ⟨fun _ => h1, fun _ => (IsNode.of h2).2 (hR.2 _ h1).1⟩
  · exact ⟨fun h => absurd h (by simp), fun h => absurd h h1⟩
/-- there is a short list of all that can be reached. -/
theorem reach_bound (cs : List (Int × List Int)) (roots : List Int) : ∃ u : List Int, u.length ≤ roots.length + 16 * cs.length ∧ ∀ x, Reached cs roots x → x ∈ u := by
  have hk : ∀ k, k ≤ cs.length → ∃ u : List Int, u.length ≤ 16 * k ∧ ∀ i, i < k → ∀ nd, NodeRead (cel cs i).2 nd true → ∀ p, p ∈ nd.kids → p.2 ∈ u := by
    intro k
    induction k with
    | zero => exact fun _ => ⟨[], by simp, fun i hi => by omega⟩
    | succ k ih =>
      intro hk
      obtain ⟨u, hu, h⟩ := ih (by omega)
      by_cases hn : IsNode (cel cs k).2
      · obtain ⟨nd, hnd⟩ := hn
        refine ⟨u ++ nd.kids.map (·.2), ?_, fun i hi nd' h' p hp => ?_⟩
        · have hok : nodeOk nd = true := by
            rcases hnd with ⟨_, h, _⟩ | ⟨h, _⟩
            · exact h
            · cases h
          have := kidsOk_len nd.kids (nodeOk_parts nd hok).2.1
          simp; omega
        · rcases Nat.lt_or_ge i k with hik | hik
          · exact List.mem_append_left _ (h i hik nd' h' p hp)
          · obtain rfl : i = k := by omega
            have := (hnd.one h').1
            subst this
            exact List.mem_append_right _ (List.mem_map_of_mem hp)
      · refine ⟨u, by omega, fun i hi nd' h' p hp => ?_⟩
        rcases Nat.lt_or_ge i k with hik | hik
        · exact h i hik nd' h' p hp
        · obtain rfl : i = k := by omega
          exact absurd ⟨nd', h'⟩ hn
  obtain ⟨u, hu, h⟩ := hk cs.length (Nat.le_refl _)
  refine ⟨roots ++ u, by simp; omega, fun x hx => ?_⟩
  refine hx (fun y => y ∈ roots ++ u) (fun r hr _ => List.mem_append_left _ hr) (fun y k _ hk => ?_)
  obtain ⟨nd, a, h1, h2⟩ := hk
  rcases h1 with ⟨h3, h4⟩ | ⟨_, _, h4⟩
  · exact List.mem_append_right _ (h _ h3 nd h4 (a, k) h2)
  · cases h4
/-- what is told of the names that are reached. -/
def ReachIs (cs : List (Int × List Int)) (roots l : List Int) (b : Bool) : Prop :=
  (¬ (Right cs ∧ roots.length ≤ 80) ∧ l = [] ∧ b = false) ∨ ((Right cs ∧ roots.length ≤ 80) ∧ RiseI l ∧ (∀ x, x ∈ l ↔ Reached cs roots x) ∧ (b = true ↔ ∀ x, x ∈ l → findC cs x < cs.length))
theorem ReachIs.one {cs : List (Int × List Int)} {roots l l' : List Int} {b b' : Bool} (h : ReachIs cs roots l b) (h' : ReachIs cs roots l' b') : l = l' ∧ b = b' := by
  rcases h with ⟨a, rfl, rfl⟩ | ⟨a, h1, h2, h3⟩ <;> rcases h' with ⟨a', rfl, rfl⟩ | ⟨a', k1, k2, k3⟩
  · exact ⟨rfl, rfl⟩
  · exact absurd a' a
  · exact absurd a a'
  · have e := riseI_one l l' h1 k1 (fun x => (h2 x).trans (k2 x).symm)
    subst e
    refine ⟨rfl, ?_⟩
    cases b <;> cases b'
    · rfl
    · exact absurd (h3.2 (k3.1 rfl)) (by simp)
    · exact absurd (k3.2 (h3.1 rfl)) (by simp)
    · rfl
end Go.Proofs.Ythehmanifcfnpaa
