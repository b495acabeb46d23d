/- Several texts in one, in build order: CellM, ReachM, Part, NodeR, KidsX, IntsX, NodeX, Conv, NodeF, Sums, CellS, CellN, ReachS. -/
import Derived.Test.YtdhnhgppapkikaaGreatDoorPkB
import Derived.StillTailTactics
import Derived.Laws.BytesArg
import Derived.Deep.RegionLaw
import Derived.Deep.AppendLies
import Derived.BigRegion
import Derived.Deep.RegionHeld3
import Derived.Test.YtdhnhgppapkikaaGreatDoorRows
import Derived.LoopTactic
import Derived.Outline
-- CellM: Plain facts on lists of cells: right ones; where a name stands. No statement of the program is proved here.
namespace Go.Proofs.YtdhnhgppapkikaaGreatDoor
set_option maxRecDepth 20000
set_option linter.unusedVariables false
set_option linter.unusedSimpArgs false
open Go.RowKit

/-- bytes of a node. -/
def IsNode (bs : List Int) : Prop := ∃ nd, NodeRead bs nd true
theorem IsNode.of {bs : List Int} {nd : MNode} {b : Bool} (h : NodeRead bs nd b) : b = true ↔ IsNode bs :=
  ⟨fun e => ⟨nd, e ▸ h⟩, fun ⟨_, h'⟩ => (h.one h').2⟩
def CellAt (cs : List (Int × List Int)) (i : Nat) : Prop := IsNode (cel cs i).2 ∧ nameOf (cel cs i).2 = (cel cs i).1 ∧ (0 < i → (cel cs (i - 1)).1 < (cel cs i).1)
/-- cells as the document has them. -/
def Right (cs : List (Int × List Int)) : Prop := cs.length ≤ 80 ∧ ∀ i, i < cs.length → CellAt cs i
theorem Right.rise {cs : List (Int × List Int)} (h : Right cs) (i j : Nat) (hij : i < j) (hj : j < cs.length) : (cel cs i).1 < (cel cs j).1 := by
  induction j with
  | zero => omega
  | succ j ih =>
    have h1 := (h.2 (j + 1) hj).2.2 (by omega)
    rw [Nat.add_sub_cancel] at h1
    by_cases e : i = j
    · subst e; exact h1
    · have := ih (by omega) (by omega); omega
theorem Right.pos {cs : List (Int × List Int)} (h : Right cs) (i : Nat) (hi : i < cs.length) : 1 ≤ (cel cs i).1 ∧ (cel cs i).1 ≤ 9223372036854775807 := by
  have h1 := (h.2 i hi).2.1
  have h2 := nameOf_bd (cel cs i).2
  omega
/-- where a name stands first; behind them where it does not. -/
def findC (cs : List (Int × List Int)) (m : Int) : Nat := cs.findIdx fun c => c.1 == m
theorem findC_le (cs : List (Int × List Int)) (m : Int) : findC cs m ≤ cs.length := List.findIdx_le_length
theorem findC_is (cs : List (Int × List Int)) (m : Int) (h : findC cs m < cs.length) : (cel cs (findC cs m)).1 = m := by
  have h1 := List.findIdx_getElem (w := h)
  have h1 : cs[List.findIdx (fun c => c.1 == m) cs].1 = m := by simpa using h1
  unfold cel
  rw [List.getElem?_eq_getElem h]
  exact h1
theorem findC_not (cs : List (Int × List Int)) (m : Int) (i : Nat) (h : i < findC cs m) : (cel cs i).1 ≠ m := by
  have hl := findC_le cs m
  have h1 := List.not_of_lt_findIdx (show i < cs.findIdx fun c => c.1 == m from h)
  unfold cel
  rw [List.getElem?_eq_getElem (by omega)]
  simpa using h1
theorem findC_at (cs : List (Int × List Int)) (m : Int) (k : Nat) (hk : k < cs.length) (hm : (cel cs k).1 = m) (h : ∀ j, j < k → (cel cs j).1 ≠ m) : findC cs m = k := by
  rcases Nat.lt_trichotomy (findC cs m) k with h1 | h1 | h1
  · exact absurd (findC_is cs m (by omega)) (h _ h1)
  · exact h1
  · exact absurd hm (findC_not cs m k h1)
theorem findC_none (cs : List (Int × List Int)) (m : Int) (h : ∀ j, j < cs.length → (cel cs j).1 ≠ m) : findC cs m = cs.length := by
  have := findC_le cs m
  rcases Nat.lt_or_ge (findC cs m) cs.length with h1 | h1
  · exact absurd (findC_is cs m h1) (h _ h1)
  · omega
theorem Right.find {cs : List (Int × List Int)} (h : Right cs) (k : Nat) (hk : k < cs.length) : findC cs (cel cs k).1 = k :=
  findC_at cs _ k hk rfl fun j hj => by have := h.rise j k hj hk; omega
/-- what stands under a name: its node, and true; the zero node and false where there is none. -/
def HitIs (cs : List (Int × List Int)) (m : Int) (nd : MNode) (b : Bool) : Prop :=
  (findC cs m < cs.length ∧ NodeRead (cel cs (findC cs m)).2 nd b) ∨ (¬ findC cs m < cs.length ∧ nd = node0 ∧ b = false)
theorem HitIs.one {cs : List (Int × List Int)} {m : Int} {nd nd' : MNode} {b b' : Bool} (h : HitIs cs m nd b) (h' : HitIs cs m nd' b') : nd = nd' ∧ b = b' := by
  rcases h with ⟨h1, h2⟩ | ⟨h1, rfl, rfl⟩ <;> rcases h' with ⟨k1, k2⟩ | ⟨k1, rfl, rfl⟩
  · exact h2.one k2
  · exact absurd h1 k1
  · exact absurd k1 h1
  · exact ⟨rfl, rfl⟩
def NodeAtIs (cs : List (Int × List Int)) (m : Int) (nd : MNode) (b : Bool) : Prop := (Right cs ∧ HitIs cs m nd b) ∨ (¬ Right cs ∧ nd = node0 ∧ b = false)
theorem NodeAtIs.one {cs : List (Int × List Int)} {m : Int} {nd nd' : MNode} {b b' : Bool} (h : NodeAtIs cs m nd b) (h' : NodeAtIs cs m nd' b') : nd = nd' ∧ b = b' := by
  rcases h with ⟨h1, h2⟩ | ⟨h1, rfl, rfl⟩ <;> rcases h' with ⟨k1, k2⟩ | ⟨k1, rfl, rfl⟩
  · exact h2.one k2
  · exact absurd h1 k1
  · exact absurd k1 h1
  · exact ⟨rfl, rfl⟩
end Go.Proofs.YtdhnhgppapkikaaGreatDoor

-- ReachM: Plain facts on what is reached among cells. No statement of the program is proved here.
namespace Go.Proofs.YtdhnhgppapkikaaGreatDoor
set_option maxRecDepth 20000
set_option linter.unusedVariables false
set_option linter.unusedSimpArgs false
open Go.RowKit

/-- a list of numbers that rises. -/
def RiseI (l : List Int) : Prop := l.Pairwise (· < ·)
theorem riseI_at (l : List Int) (h : RiseI l) (i j : Nat) (hij : i < j) (hj : j < l.length) : l[i]?.getD 0 < l[j]?.getD 0 := by
  rw [List.getElem?_eq_getElem (show i < l.length by omega), List.getElem?_eq_getElem hj]
  exact List.pairwise_iff_getElem.1 h i j (by omega) hj hij
theorem riseI_one (a b : List Int) (ha : RiseI a) (hb : RiseI b) (h : ∀ x, x ∈ a ↔ x ∈ b) : a = b := by
  induction a generalizing b with
  | nil =>
    cases b with
    | nil => rfl
    | cons y b => exact absurd ((h y).2 (by simp)) (by simp)
  | cons x a ih =>
    cases b with
    | nil => exact absurd ((h x).1 (by simp)) (by simp)
    | cons y b =>
      have ha1 := List.pairwise_cons.1 ha
      have hb1 := List.pairwise_cons.1 hb
      have hxy : x = y := by
        have h1 := (h x).1 (by simp)
        have h2 := (h y).2 (by simp)
        rcases List.mem_cons.1 h1 with e | h1
        · exact e
        · rcases List.mem_cons.1 h2 with e | h2
          · exact e.symm
          · have := hb1.1 x h1
            have := ha1.1 y h2
            omega
      subst hxy
      congr 1
      refine ih b ha1.2 hb1.2 fun z => ⟨fun hz => ?_, fun hz => ?_⟩
      · rcases List.mem_cons.1 ((h z).1 (List.mem_cons_of_mem _ hz)) with e | e
        · subst e; have := ha1.1 z hz; omega
        · exact e
      · rcases List.mem_cons.1 ((h z).2 (List.mem_cons_of_mem _ hz)) with e | e
        · subst e; have := hb1.1 z hz; omega
        · exact e
theorem riseI_len (l u : List Int) (h : RiseI l) (hs : ∀ x, x ∈ l → x ∈ u) : l.length ≤ u.length := by
  induction l generalizing u with
  | nil => simp
  | cons x l ih =>
    have h1 := List.pairwise_cons.1 h
    have hx := hs x (by simp)
    have := ih (u.erase x) h1.2 (fun y hy => by
      have hne : y ≠ x := by have := h1.1 y hy; omega
      exact (List.mem_erase_of_ne hne).2 (hs y (List.mem_cons_of_mem _ hy)))
    rw [List.length_erase_of_mem hx] at this
    have hp : 0 < u.length := List.length_pos_of_mem hx
    simp only [List.length_cons]
    omega
/-- where a number belongs. -/
def placeI (l : List Int) (m : Int) : Nat := l.findIdx fun x => decide (m < x)
theorem placeI_le (l : List Int) (m : Int) : placeI l m ≤ l.length := List.findIdx_le_length
theorem placeI_at (l : List Int) (m : Int) (k : Nat) (hk : k ≤ l.length) (h0 : ∀ j, j < k → l[j]?.getD 0 ≤ m) (h1 : k < l.length → m < l[k]?.getD 0) : placeI l m = k := by
  have hle := placeI_le l m
  have hc : ∀ i (h : i < l.length), l[i] = l[i]?.getD 0 := fun i h => by rw [List.getElem?_eq_getElem h]; rfl
  rcases Nat.lt_trichotomy (placeI l m) k with h | h | h
  · have h2 := List.findIdx_getElem (w := show l.findIdx (fun x => decide (m < x)) < l.length from by unfold placeI at h; omega)
    have h3 := h0 _ h
    rw [hc] at h2
    have h2 : m < l[placeI l m]?.getD 0 := of_decide_eq_true h2
    omega
  · exact h
  · have h2 := List.not_of_lt_findIdx (show k < l.findIdx fun x => decide (m < x) from h)
    have hkl : k < l.length := by omega
    rw [hc k hkl] at h2
    have h2 : l[k]?.getD 0 ≤ m := by simpa using h2
    have := h1 hkl
    omega
def insI (l : List Int) (m : Int) : List Int := l.take (placeI l m) ++ m :: l.drop (placeI l m)
theorem insI_len (l : List Int) (m : Int) : (insI l m).length = l.length + 1 := by
  have := placeI_le l m
  unfold insI; simp; omega
theorem insI_mem (l : List Int) (m x : Int) : x ∈ insI l m ↔ x = m ∨ x ∈ l := by
  unfold insI
  conv => rhs; rw [← List.take_append_drop (placeI l m) l]
  simp only [List.mem_append, List.mem_cons]
  constructor
  · rintro (h | h | h)
    · exact .inr (.inl h)
    · exact .inl h
    · exact .inr (.inr h)
  · rintro (h | h | h)
    · exact .inr (.inl h)
    · exact .inl h
    · exact .inr (.inr h)
theorem insI_rise (l : List Int) (m : Int) (h : RiseI l) (hm : m ∉ l) : RiseI (insI l m) := by
  have hle := placeI_le l m
  have hc : ∀ i (h : i < l.length), l[i] = l[i]?.getD 0 := fun i h => by rw [List.getElem?_eq_getElem h]; rfl
  have hlo : ∀ x, x ∈ l.take (placeI l m) → x < m := by
    intro x hx
    obtain ⟨i, hi, rfl⟩ := List.mem_iff_getElem.1 hx
    have hi2 : i < placeI l m := by simp at hi; omega
    have h2 := List.not_of_lt_findIdx (show i < l.findIdx fun x => decide (m < x) from hi2)
    have h3 : l[i]'(by omega) ≤ m := by simpa using h2
    rw [List.getElem_take]
    rcases Int.lt_or_eq_of_le h3 with h | h
    · exact h
    · exact absurd (h ▸ List.getElem_mem _) hm
  have hhi : ∀ x, x ∈ l.drop (placeI l m) → m < x := by
    intro x hx
    obtain ⟨i, hi, rfl⟩ := List.mem_iff_getElem.1 hx
    have hi2 : placeI l m + i < l.length := by simp at hi; omega
    rw [List.getElem_drop]
    have h0 : m < l[placeI l m]'(by omega) := by
      have h2 := List.findIdx_getElem (w := show l.findIdx (fun x => decide (m < x)) < l.length from by unfold placeI at hi2; omega)
      exact of_decide_eq_true h2
    rcases Nat.eq_zero_or_pos i with e | e
    · subst e; exact h0
    · have := List.pairwise_iff_getElem.1 h (placeI l m) (placeI l m + i) (by omega) hi2 (by omega)
      omega
  unfold RiseI insI
  rw [List.pairwise_append]
  refine ⟨h.sublist (List.take_sublist _ _), List.pairwise_cons.2 ⟨fun x hx => hhi x hx, h.sublist (List.drop_sublist _ _)⟩, fun a ha b hb => ?_⟩
  rcases List.mem_cons.1 hb with e | hb
  · rw [e]; exact hlo a ha
  · have := hlo a ha; have := hhi b hb; omega

/-- k is the name of a kid of what stands under x. -/
def KidOf (cs : List (Int × List Int)) (x k : Int) : Prop := ∃ nd a, HitIs cs x nd true ∧ (a, k) ∈ nd.kids
/-- x is reached from these roots. -/
def Reached (cs : List (Int × List Int)) (roots : List Int) (x : Int) : Prop := ∀ S : Int → Prop, (∀ r, r ∈ roots → r ≠ 0 → S r) → (∀ y k, S y → KidOf cs y k → S k) → S x
theorem Reached.root {cs : List (Int × List Int)} {roots : List Int} {x : Int} (h : x ∈ roots) (h0 : x ≠ 0) : Reached cs roots x := fun S h1 _ => h1 x h h0
theorem Reached.kid {cs : List (Int × List Int)} {roots : List Int} {x k : Int} (h : Reached cs roots x) (hk : KidOf cs x k) : Reached cs roots k := fun S h1 h2 => h2 x k (h S h1 h2) hk
theorem hit_ok {cs : List (Int × List Int)} {x : Int} {nd : MNode} (h : HitIs cs x nd true) : nodeOk nd = true := by
  rcases h with ⟨_, ⟨_, h, _⟩ | ⟨h, _⟩⟩ | ⟨_, _, h⟩
  · exact h
  · cases h
  · cases h
theorem kidOf_pos {cs : List (Int × List Int)} {x k : Int} (h : KidOf cs x k) : k ≠ 0 := by
  obtain ⟨nd, a, h1, h2⟩ := h
  obtain ⟨i, hi, e⟩ := List.mem_iff_getElem.1 h2
  have h3 := kidsOk_at nd.kids (nodeOk_parts nd (hit_ok h1)).2.1 i hi
  unfold KidAt at h3
  rw [List.getElem?_eq_getElem hi, e] at h3
  have := h3.2.1
  simp at this
  omega
theorem hit_found {cs : List (Int × List Int)} {x : Int} {nd : MNode} {b : Bool} (hR : Right cs) (h : HitIs cs x nd b) : b = true ↔ findC cs x < cs.length := by
  rcases h with ⟨h1, h2⟩ | ⟨h1, _, rfl⟩
  · exact ⟨fun _ => h1, fun _ => (IsNode.of h2).2 (hR.2 _ h1).1⟩
  · exact ⟨fun h => absurd h (by simp), fun h => absurd h h1⟩
/-- there is a short list of all that can be reached. -/
theorem reach_bound (cs : List (Int × List Int)) (roots : List Int) : ∃ u : List Int, u.length ≤ roots.length + 16 * cs.length ∧ ∀ x, Reached cs roots x → x ∈ u := by
  have hk : ∀ k, k ≤ cs.length → ∃ u : List Int, u.length ≤ 16 * k ∧ ∀ i, i < k → ∀ nd, NodeRead (cel cs i).2 nd true → ∀ p, p ∈ nd.kids → p.2 ∈ u := by
    intro k
    induction k with
    | zero => exact fun _ => ⟨[], by simp, fun i hi => by omega⟩
    | succ k ih =>
      intro hk
      obtain ⟨u, hu, h⟩ := ih (by omega)
      by_cases hn : IsNode (cel cs k).2
      · obtain ⟨nd, hnd⟩ := hn
        refine ⟨u ++ nd.kids.map (·.2), ?_, fun i hi nd' h' p hp => ?_⟩
        · have hok : nodeOk nd = true := by
            rcases hnd with ⟨_, h, _⟩ | ⟨h, _⟩
            · exact h
            · cases h
          have := kidsOk_len nd.kids (nodeOk_parts nd hok).2.1
          simp; omega
        · rcases Nat.lt_or_ge i k with hik | hik
          · exact List.mem_append_left _ (h i hik nd' h' p hp)
          · obtain rfl : i = k := by omega
            have := (hnd.one h').1
            subst this
            exact List.mem_append_right _ (List.mem_map_of_mem hp)
      · refine ⟨u, by omega, fun i hi nd' h' p hp => ?_⟩
        rcases Nat.lt_or_ge i k with hik | hik
        · exact h i hik nd' h' p hp
        · obtain rfl : i = k := by omega
          exact absurd ⟨nd', h'⟩ hn
  obtain ⟨u, hu, h⟩ := hk cs.length (Nat.le_refl _)
  refine ⟨roots ++ u, by simp; omega, fun x hx => ?_⟩
  refine hx (fun y => y ∈ roots ++ u) (fun r hr _ => List.mem_append_left _ hr) (fun y k _ hk => ?_)
  obtain ⟨nd, a, h1, h2⟩ := hk
  rcases h1 with ⟨h3, h4⟩ | ⟨_, _, h4⟩
  · exact List.mem_append_right _ (h _ h3 nd h4 (a, k) h2)
  · cases h4
/-- what is told of the names that are reached. -/
def ReachIs (cs : List (Int × List Int)) (roots l : List Int) (b : Bool) : Prop :=
  (¬ (Right cs ∧ roots.length ≤ 80) ∧ l = [] ∧ b = false) ∨ ((Right cs ∧ roots.length ≤ 80) ∧ RiseI l ∧ (∀ x, x ∈ l ↔ Reached cs roots x) ∧ (b = true ↔ ∀ x, x ∈ l → findC cs x < cs.length))
theorem ReachIs.one {cs : List (Int × List Int)} {roots l l' : List Int} {b b' : Bool} (h : ReachIs cs roots l b) (h' : ReachIs cs roots l' b') : l = l' ∧ b = b' := by
  rcases h with ⟨a, rfl, rfl⟩ | ⟨a, h1, h2, h3⟩ <;> rcases h' with ⟨a', rfl, rfl⟩ | ⟨a', k1, k2, k3⟩
  · exact ⟨rfl, rfl⟩
  · exact absurd a' a
  · exact absurd a a'
  · have e := riseI_one l l' h1 k1 (fun x => (h2 x).trans (k2 x).symm)
    subst e
    refine ⟨rfl, ?_⟩
    cases b <;> cases b'
    · rfl
    · exact absurd (h3.2 (k3.1 rfl)) (by simp)
    · exact absurd (k3.2 (h3.1 rfl)) (by simp)
    · rfl
end Go.Proofs.YtdhnhgppapkikaaGreatDoor

-- Part: A part of some bytes behind its count: the model's l3Part.
namespace Go.Proofs.YtdhnhgppapkikaaGreatDoor
set_option maxRecDepth 20000
open Go.RowKit

/-- what stands behind the count at 'at', 'each' bytes a piece; where it ends. -/
def part (bs : List Int) (at_ : Int) (each : Nat) : List Int × Int :=
  if at_ < 0 ∨ (bs.length : Int) ≤ at_ then ([], -1)
  else if (bs.length : Int) < at_ + 1 + each * (bs[at_.toNat]?.getD 0) then ([], -1)
  else ((bs.drop (at_.toNat + 1)).take (each * (bs[at_.toNat]?.getD 0).toNat), at_ + 1 + each * (bs[at_.toNat]?.getD 0))
theorem Byts.part {w : World} {B n b off : Nat} {bs : List Int} (h : Byts w B (some ⟨b, off, none⟩) n bs) (lo len : Nat) (hl : lo + len ≤ n) : Byts w B (some ⟨b, off + lo, none⟩) len ((bs.drop lo).take len) := by
  refine ⟨?_, fun z hz => h.2.1 z (List.mem_of_mem_drop (List.mem_of_mem_take hz)), fun hp => ?_⟩
  · have := h.1
    simp; omega
  · obtain ⟨b', off', e, hb, hc⟩ := h.2.2 (by omega)
    cases e
    refine ⟨b, off + lo, rfl, hb, fun i hi => ?_⟩
    have := hc (lo + i) (by omega)
    rw [Nat.add_assoc, this]
    simp [hi]
theorem Byts.empty_at {w : World} {B : Nat} {A : Option Addr} : Byts w B A 0 [] := ⟨rfl, by simp, fun h => absurd h (by omega)⟩

theorem l3Part_any (A : Option Addr) (n c : Nat) (bs : List Int) (at_ : Int) (each : Nat) (B : Nat) (w : World) (hn : n ≤ 1048576) (hc : n ≤ c) (h1 : -1 ≤ at_) (h2 : at_ ≤ 1048576) (he : each ≤ 9) (hb : Byts w B A n bs) :
    Calls Tryz.prog 119 #[.slice A n c, .int .i64 at_, .int .i64 each] w fun e w' => ∃ A' n' c', e = .returned (.tuple #[.slice A' n' c', .int .i64 (part bs at_ each).2]) ∧ n' ≤ c' ∧ Byts w' B A' n' (part bs at_ each).1 ∧ Below w.heap.size w w' := by
  have HB := Lib.hid hb
  have hlen : bs.length = n := hb.1
  clear hb
  by_cases hneg : at_ < 0
  · have hp := Lib.hid (show part bs at_ each = ([], -1) from if_pos (Or.inl hneg))
    go_enter Tryz.func119, Tryz.ntmps119
    go_wp2
    go_ret2
    rw [hp.out]
    exact ⟨_, 0, 0, rfl, Nat.le_refl _, Byts.empty_at, (Below.refl _ _).alloc (Nat.le_refl _) _⟩
  obtain ⟨k, rfl⟩ : ∃ k : Nat, at_ = k := ⟨at_.toNat, by omega⟩
  by_cases hge : n ≤ k
  · have hp := Lib.hid (show part bs k each = ([], -1) from if_pos (Or.inr (by omega)))
    go_enter Tryz.func119, Tryz.ntmps119
    go_wp2
    go_ret2
    rw [hp.out]
    exact ⟨_, 0, 0, rfl, Nat.le_refl _, Byts.empty_at, (Below.refl _ _).alloc (Nat.le_refl _) _⟩
  obtain ⟨b, off, rfl, hbB, hcell⟩ := HB.out.at_ (k := k) (by omega)
  have hr := HB.out.range k
  have hx : bs[k]?.getD 0 = bs[((k : Nat) : Int).toNat]?.getD 0 := by simp
  obtain ⟨x, hxx⟩ : ∃ x : Nat, bs[k]?.getD 0 = x := ⟨(bs[k]?.getD 0).toNat, by omega⟩
  rw [hxx] at hcell hr
  have hmul : (each : Int) * (x : Int) ≤ 2295 := by
    have h1 : each * x ≤ 9 * 255 := Nat.mul_le_mul he (by omega)
    have h2 : each * x ≤ 2295 := h1
    rw [← Int.natCast_mul]
    omega
  have hmul0 : (0 : Int) ≤ (each : Int) * (x : Int) := by rw [← Int.natCast_mul]; omega
  by_cases hbig : (n : Int) < (k : Int) + 1 + each * x
  · have hp : part bs k each = ([], -1) := by
      unfold part
      rw [if_neg (by omega), ← hx, hxx, if_pos (by omega)]
    have HPP := Lib.hid hp
    have hd : decide ((n : Int) < (k : Int) + 1 + each * x) = true := decide_eq_true hbig
    clear hp hx hbig
    go_enter Tryz.func119, Tryz.ntmps119
    go_wp2
    go_ret2
    rw [HPP.out]
    exact ⟨_, 0, 0, rfl, Nat.le_refl _, Byts.empty_at, (Below.refl _ _).alloc (Nat.le_refl _) _⟩
  · have hp : part bs k each = ((bs.drop (k + 1)).take (each * x), (k : Int) + 1 + each * x) := by
      unfold part
      rw [if_neg (by omega), ← hx, hxx, if_neg (by omega)]
      simp
    have HPP := Lib.hid hp
    clear hp hx
    have hle : k + 1 + each * x ≤ n := by
      have : ((k + 1 + each * x : Nat) : Int) ≤ n := by push_cast; omega
      omega
    have hlo : (0 : Int) ≤ (k : Int) + 1 := by omega
    have hhi : (k : Int) + 1 ≤ (k : Int) + 1 + each * x := by omega
    have hcap : (k : Int) + 1 + each * x ≤ (c : Int) := by omega
    go_enter Tryz.func119, Tryz.ntmps119
    go_wp2
    · go_ret2
      rw [HPP.out]
      have hz : each * x = 0 := by omega
      exact ⟨_, _, _, rfl, by omega, by rw [hz, List.take_zero]; exact Byts.empty_at, Below.refl _ _⟩
    · go_ret2
      rw [HPP.out]
      exact ⟨_, _, _, rfl, by omega, (HB.out.part (k + 1) (each * x) hle).more (by omega), Below.refl _ _⟩
end Go.Proofs.YtdhnhgppapkikaaGreatDoor

-- NodeR: Plain facts on the reading of a node: its parts, one behind the other; the kids, nine bytes each.
namespace Go.Proofs.YtdhnhgppapkikaaGreatDoor
set_option maxRecDepth 20000
open Go.RowKit

/-- a part that is there: the count, the piece, what stands behind it. -/
theorem part_drop (bs ys : List Int) (at_ : Nat) (e : Int) (each : Nat) (hr : ∀ z ∈ bs, 0 ≤ z ∧ z ≤ 255) (h : part bs at_ each = (ys, e)) (he : 0 ≤ e) :
    at_ < bs.length ∧ bs.drop at_ = bs[at_]?.getD 0 :: ys ++ bs.drop e.toNat ∧ (ys.length : Int) = each * (bs[at_]?.getD 0) ∧ e = at_ + 1 + ys.length ∧ e ≤ bs.length := by
  unfold part at h
  split at h
  · cases h; omega
  · rename_i h0
    simp only [Int.toNat_natCast] at h
    have hat : at_ < bs.length := by omega
    have hx : 0 ≤ bs[at_]?.getD 0 ∧ bs[at_]?.getD 0 ≤ 255 := by rw [List.getElem?_eq_getElem hat]; exact hr _ (List.getElem_mem hat)
    split at h
    · cases h; omega
    · rename_i h1
      obtain ⟨x, hxx⟩ : ∃ x : Nat, bs[at_]?.getD 0 = x := ⟨(bs[at_]?.getD 0).toNat, by omega⟩
      rw [hxx] at h h1 ⊢
      simp only [Int.toNat_natCast, Prod.mk.injEq] at h
      obtain ⟨h2, h3⟩ := h
      have hle : at_ + 1 + each * x ≤ bs.length := by
        have : ((at_ + 1 + each * x : Nat) : Int) ≤ bs.length := by push_cast; omega
        omega
      have hyl : ys.length = each * x := by rw [← h2]; simp; omega
      have hce : ((each * x : Nat) : Int) = (each : Int) * (x : Int) := by push_cast; rfl
      refine ⟨hat, ?_, by rw [hyl, hce], by rw [← h3, hyl, hce], by omega⟩
      have he' : e.toNat = at_ + 1 + each * x := by omega
      rw [he', List.drop_eq_getElem_cons hat, ← h2]
      have hg : bs[at_] = (x : Int) := by rw [← hxx, List.getElem?_eq_getElem hat]; rfl
      rw [hg, List.cons_append]
      congr 1
      conv => lhs; rw [← List.take_append_drop (each * x) (bs.drop (at_ + 1))]
      rw [List.drop_drop]
/-- a part that stands there is read. -/
theorem part_of (bs ys rest : List Int) (at_ each : Nat) (x : Nat) (hat : at_ < bs.length) (h : bs.drop at_ = (x : Int) :: (ys ++ rest)) (hl : ys.length = each * x) : part bs at_ each = (ys, ((at_ + 1 + each * x : Nat) : Int)) := by
  have hlen : (bs.drop at_).length = 1 + ys.length + rest.length := by rw [h]; simp; omega
  rw [List.length_drop] at hlen
  have hx : bs[at_]?.getD 0 = x := by
    have h1 : (bs.drop at_)[0]? = some (x : Int) := by rw [h]; rfl
    rw [List.getElem?_drop, Nat.add_zero] at h1
    rw [h1]; rfl
  have hce : ((each * x : Nat) : Int) = (each : Int) * (x : Int) := by push_cast; rfl
  unfold part
  simp only [Int.toNat_natCast]
  rw [if_neg (by omega), hx, if_neg (by omega)]
  have hd : bs.drop (at_ + 1) = ys ++ rest := by
    have h1 : (bs.drop at_).drop 1 = ys ++ rest := by rw [h]; rfl
    rwa [List.drop_drop] at h1
  rw [hd]
  simp only [Int.toNat_natCast]
  rw [List.take_left' hl]
  simp only [Prod.mk.injEq, true_and]
  push_cast
  rfl
theorem part_end (bs : List Int) (at_ : Int) (each : Nat) : (part bs at_ each).2 = -1 ∨ at_ + 1 ≤ (part bs at_ each).2 ∧ 0 ≤ at_ ∨ (part bs at_ each).2 < at_ + 1 := by
  rcases Int.lt_or_le (part bs at_ each).2 (at_ + 1) with h | h
  · exact .inr (.inr h)
  · unfold part at h ⊢
    split
    · exact .inl rfl
    · split
      · exact .inl rfl
      · rename_i h0 h1
        rw [if_neg h0, if_neg h1] at h
        exact .inr (.inl ⟨h, by omega⟩)
theorem part_neg (bs : List Int) (each : Nat) : part bs (-1) each = ([], -1) := if_pos (Or.inl (by omega))
theorem part_range (bs : List Int) (hr : ∀ z ∈ bs, 0 ≤ z ∧ z ≤ 255) (at_ : Int) (each : Nat) : -1 ≤ (part bs at_ each).2 ∧ (part bs at_ each).2 ≤ bs.length := by
  unfold part
  split
  · simp
  · split
    · simp
    · rename_i h0 h1
      refine ⟨?_, by omega⟩
      have hat : at_.toNat < bs.length := by omega
      have hx : 0 ≤ bs[at_.toNat]?.getD 0 := by rw [List.getElem?_eq_getElem hat]; exact (hr _ (List.getElem_mem hat)).1
      have := Int.mul_nonneg (Int.natCast_nonneg each) hx
      show -1 ≤ at_ + 1 + _
      omega
theorem part_le (bs : List Int) (at_ : Int) (each : Nat) : (part bs at_ each).1.length ≤ bs.length := by
  unfold part
  split
  · simp
  · split
    · simp
    · simp only [List.length_take, List.length_drop]; omega

/-- the i-th kid that is written. -/
def kidOf (kb : List Int) (i : Nat) : Int × Int := (kb[9 * i]?.getD 0, leVal ((kb.drop (9 * i + 1)).take 8))
def kidsTo (kb : List Int) (q : Nat) : List (Int × Int) := (List.range q).map (kidOf kb)
def chunkOk (kb : List Int) (i : Nat) : Prop := kb[9 * i + 8]?.getD 0 ≤ (127 : Int)
theorem kidsTo_len (kb : List Int) (q : Nat) : (kidsTo kb q).length = q := by simp [kidsTo]
theorem kidsTo_step (kb : List Int) (q : Nat) : kidsTo kb (q + 1) = kidsTo kb q ++ [kidOf kb q] := by simp [kidsTo, List.range_succ]
theorem kidOf_drop (kb : List Int) (i : Nat) : kidOf kb (i + 1) = kidOf (kb.drop 9) i := by
  unfold kidOf
  rw [List.getElem?_drop, List.drop_drop, show 9 * (i + 1) = 9 + 9 * i by omega, show 9 + 9 * i + 1 = 9 + (9 * i + 1) by omega]
theorem kidsTo_drop (kb : List Int) (q : Nat) : kidsTo kb (q + 1) = kidOf kb 0 :: kidsTo (kb.drop 9) q := by
  unfold kidsTo
  rw [List.range_succ_eq_map, List.map_cons, List.map_map]
  congr 1
  apply List.map_congr_left
  intro i _
  exact kidOf_drop kb i
/-- the kids that are read are written as they were. -/
theorem kidsTo_back (q : Nat) (kb : List Int) (hr : ∀ z ∈ kb, 0 ≤ z ∧ z ≤ 255) (hl : kb.length = 9 * q) (hc : ∀ i, i < q → chunkOk kb i) : (kidsTo kb q).flatMap kidBytes = kb ∧ ∀ k ∈ kidsTo kb q, 0 ≤ k.2 ∧ k.2 ≤ 9223372036854775807 := by
  induction q generalizing kb with
  | zero =>
    have e : kb = [] := List.eq_nil_of_length_eq_zero (by omega)
    subst e
    exact ⟨rfl, by simp [kidsTo]⟩
  | succ q ih =>
    have h0 := hc 0 (by omega)
    obtain ⟨h1, h2⟩ := ih (kb.drop 9) (fun z hz => hr z (List.mem_of_mem_drop hz)) (by simp; omega) (fun i hi => by
      have := hc (i + 1) (by omega)
      unfold chunkOk at this ⊢
      rw [List.getElem?_drop, show 9 + (9 * i + 8) = 9 * (i + 1) + 8 by omega]
      exact this)
    rw [kidsTo_drop]
    have hcl : ((kb.drop 1).take 8).length = 8 := by simp; omega
    have hcr : ∀ z ∈ (kb.drop 1).take 8, 0 ≤ z ∧ z ≤ 255 := fun z hz => hr z (List.mem_of_mem_drop (List.mem_of_mem_take hz))
    have h7 : ((kb.drop 1).take 8)[7]?.getD 0 ≤ (127 : Int) := by
      unfold chunkOk at h0
      rw [List.getElem?_take_of_lt (by omega), List.getElem?_drop]
      exact h0
    have hb := bytes_of_back _ hcr hcl h7
    have hw := leW_yes _ hcr hcl h7
    refine ⟨?_, ?_⟩
    · rw [List.flatMap_cons, h1]
      have hk : kidBytes (kidOf kb 0) = kb.take 9 := by
        unfold kidBytes kidOf
        show kb[0]?.getD 0 % 256 :: nameBytes (leVal ((kb.drop 1).take 8)) = _
        rw [hb]
        have hkb : 0 < kb.length := by omega
        have hz := hr kb[0] (List.getElem_mem hkb)
        rw [List.getElem?_eq_getElem hkb]
        rcases kb with _ | ⟨z, r⟩
        · simp at hkb
        · simp at hz ⊢
          omega
      rw [hk, List.take_append_drop]
    · intro k hk
      rcases List.mem_cons.1 hk with rfl | hk
      · exact hw.2
      · exact h2 k hk
/-- what is written of kids is read as they. -/
theorem kidsTo_of (ks : List (Int × Int)) (h : ∀ k ∈ ks, ((0 ≤ k.1 ∧ k.1 ≤ 15) ∧ 1 ≤ k.2) ∧ k.2 ≤ 9223372036854775807) : (ks.flatMap kidBytes).length = 9 * ks.length ∧ kidsTo (ks.flatMap kidBytes) ks.length = ks ∧ ∀ i, i < ks.length → chunkOk (ks.flatMap kidBytes) i := by
  induction ks with
  | nil => exact ⟨rfl, rfl, fun i hi => by simp at hi⟩
  | cons x r ih =>
    have hx := h x (by simp)
    obtain ⟨h1, h2, h3⟩ := ih fun k hk => h k (by simp [hk])
    obtain ⟨hb1, hb2, hb3⟩ := back_of_bytes x.2 (by omega)
    have lx : (kidBytes x).length = 9 := by unfold kidBytes; simp [hb2]
    have hd : ((x :: r).flatMap kidBytes).drop 9 = r.flatMap kidBytes := by rw [List.flatMap_cons, List.drop_left' lx]
    refine ⟨by rw [List.flatMap_cons, List.length_append, lx, h1]; simp; omega, ?_, ?_⟩
    · rw [List.length_cons, kidsTo_drop, hd, h2]
      congr 1
      unfold kidOf
      rw [List.flatMap_cons]
      unfold kidBytes
      have e1 : (((x.1 % 256 :: nameBytes x.2) ++ r.flatMap kidBytes).drop (9 * 0 + 1)).take 8 = nameBytes x.2 := by
        show (nameBytes x.2 ++ r.flatMap kidBytes).take 8 = _
        exact List.take_left' hb2
      have e2 : x.1 % 256 = x.1 := by omega
      show (x.1 % 256, _) = x
      have e1' : leVal ((((x.1 % 256 :: nameBytes x.2) ++ r.flatMap (fun k => k.1 % 256 :: nameBytes k.2)).drop (9 * 0 + 1)).take 8) = x.2 := by
        have : (((x.1 % 256 :: nameBytes x.2) ++ r.flatMap (fun k => k.1 % 256 :: nameBytes k.2)).drop (9 * 0 + 1)).take 8 = nameBytes x.2 := by
          show (nameBytes x.2 ++ _).take 8 = _
          exact List.take_left' hb2
        rw [this, hb1]
      rw [e1', e2]
    · intro i hi
      rcases i with _ | i
      · unfold chunkOk
        rw [List.flatMap_cons, List.getElem?_append_left (by omega)]
        unfold kidBytes
        show (nameBytes x.2)[7]?.getD 0 ≤ 127
        exact hb3
      · have := h3 i (by simpa using hi)
        unfold chunkOk at this ⊢
        rw [← hd, List.getElem?_drop] at this
        rw [show 9 * (i + 1) + 8 = 9 + (9 * i + 8) by omega]
        exact this

theorem part_some (bs ys : List Int) (at_ e : Int) (each : Nat) (h : part bs at_ each = (ys, e)) (he : 0 ≤ e) : 0 ≤ at_ := by
  rcases Int.lt_or_le at_ 0 with h0 | h0
  · have : part bs at_ each = ([], -1) := if_pos (Or.inl h0)
    rw [this] at h
    cases h
    omega
  · exact h0
/-- all parts are there, up to the end. -/
theorem parts_all (bs r1 r2 r3 : List Int) (e1 e2 : Int) (hr : ∀ z ∈ bs, 0 ≤ z ∧ z ≤ 255) (h1 : part bs ((1 : Nat) : Int) 1 = (r1, e1)) (h2 : part bs e1 1 = (r2, e2)) (h3 : part bs e2 9 = (r3, (bs.length : Int))) (hl : 0 < bs.length) :
    ∃ q : Nat, bs = bs[0]?.getD 0 :: (r1.length : Int) :: (r1 ++ ((r2.length : Int) :: (r2 ++ ((q : Int) :: r3)))) ∧ r3.length = 9 * q := by
  have p2 := part_some _ _ _ _ _ h3 (by omega)
  have p1 := part_some _ _ _ _ _ h2 p2
  obtain ⟨k1, rfl⟩ : ∃ k : Nat, e1 = k := ⟨e1.toNat, by omega⟩
  obtain ⟨k2, rfl⟩ : ∃ k : Nat, e2 = k := ⟨e2.toNat, by omega⟩
  obtain ⟨a1, a2, a3, a4, a5⟩ := part_drop bs r1 1 k1 1 hr h1 (by omega)
  obtain ⟨b1, b2, b3, b4, b5⟩ := part_drop bs r2 k1 k2 1 hr h2 (by omega)
  obtain ⟨c1, c2, c3, c4, c5⟩ := part_drop bs r3 k2 bs.length 9 hr h3 (by omega)
  simp only [Int.toNat_natCast] at a2 b2 c2
  rw [List.drop_length, List.append_nil] at c2
  have hx : ∀ k : Nat, (0 : Int) ≤ bs[k]?.getD 0 := fun k => (mem_at bs hr k).1
  have h0 : bs = bs[0]?.getD 0 :: bs.drop 1 := by
    rcases bs with _ | ⟨z, r⟩
    · simp at hl
    · rfl
  refine ⟨(bs[k2]?.getD 0).toNat, ?_, by have := hx k2; omega⟩
  have e1 : (r1.length : Int) = bs[1]?.getD 0 := by omega
  have e2 : (r2.length : Int) = bs[k1]?.getD 0 := by omega
  have e3 : ((bs[k2]?.getD 0).toNat : Int) = bs[k2]?.getD 0 := by have := hx k2; omega
  rw [e1, e2, e3]
  conv => lhs; rw [h0, a2, b2, c2]
  simp
/-- the node that is read of the parts. -/
def nodeOf (bs r1 r2 r3 : List Int) (q : Nat) : MNode := ⟨bs[0]?.getD 0, r1, kidsTo r3 q, strOfNums r2⟩
theorem read_back (bs r1 r2 r3 : List Int) (q : Nat) (hr : ∀ z ∈ bs, 0 ≤ z ∧ z ≤ 255) (h : bs = bs[0]?.getD 0 :: (r1.length : Int) :: (r1 ++ ((r2.length : Int) :: (r2 ++ ((q : Int) :: r3))))) (h3 : r3.length = 9 * q) (hc : ∀ i, i < q → chunkOk r3 i) :
    rawBytes (nodeOf bs r1 r2 r3 q) = bs ∧ NodeWf (nodeOf bs r1 r2 r3 q) := by
  have m : ∀ z, z ∈ (bs[0]?.getD 0 :: (r1.length : Int) :: (r1 ++ ((r2.length : Int) :: (r2 ++ ((q : Int) :: r3))))) → 0 ≤ z ∧ z ≤ 255 := fun z hz => hr z (by rw [h]; exact hz)
  have b0 := m (bs[0]?.getD 0) (by simp)
  have b1 := m (r1.length : Int) (by simp)
  have b2 := m (r2.length : Int) (by simp)
  have bq := m (q : Int) (by simp)
  have c1 : ∀ z ∈ r1, 0 ≤ z ∧ z ≤ 255 := fun z hz => m z (by simp [hz])
  have c2 : ∀ z ∈ r2, 0 ≤ z ∧ z ≤ 255 := fun z hz => m z (by simp [hz])
  have c3 : ∀ z ∈ r3, 0 ≤ z ∧ z ≤ 255 := fun z hz => m z (by simp [hz])
  obtain ⟨k1, k2⟩ := kidsTo_back q r3 c3 h3 hc
  have e1 : r1.map (· % 256) = r1 := by
    conv => rhs; rw [← List.map_id r1]
    apply List.map_congr_left
    intro z hz
    have := c1 z hz
    simp; omega
  refine ⟨?_, fun k hk => (k2 k hk).2⟩
  unfold rawBytes nodeOf
  simp only [kidsTo_len, sb_str r2 c2, strOfNums_size, k1, e1]
  conv => rhs; rw [h]
  have d0 : bs[0]?.getD 0 % 256 = bs[0]?.getD 0 := by omega
  have d1 : (r1.length : Int) % 256 = r1.length := by omega
  have d2 : (r2.length : Int) % 256 = r2.length := by omega
  have d3 : (q : Int) % 256 = q := by omega
  rw [d0, d1, d2, d3]
  simp
/-- what a right node writes is read part by part. -/
theorem read_of (nd : MNode) (bs : List Int) (h : nodeOk nd = true) (hw : NodeWf nd) (he : nodeBytes nd = bs) :
    ∃ e1 e2 r3, part bs ((1 : Nat) : Int) 1 = (nd.path, e1) ∧ part bs e1 1 = (sb nd.val, e2) ∧ part bs e2 9 = (r3, (bs.length : Int)) ∧ bs ≠ [] ∧ bs[0]?.getD 0 = nd.kind ∧ r3.length = 9 * nd.kids.length ∧ kidsTo r3 nd.kids.length = nd.kids ∧ ∀ i, i < nd.kids.length → chunkOk r3 i := by
  have pa := (isPath_iff _).1 (nodeOk_parts nd h).1
  have ka := nodeOk_kind nd h
  have va := nodeOk_val nd h
  have ca := (nodeOk_parts nd h).2.1
  have na := kidsOk_len _ ca
  obtain ⟨k1, k2, k3⟩ := kidsTo_of nd.kids (fun k hk => ⟨kidsOk_mem _ ca k hk, hw k hk⟩)
  have hsb := sb_len nd.val
  have hbs : bs = nd.kind :: (nd.path.length : Int) :: (nd.path ++ ((nd.val.size : Int) :: (sb nd.val ++ ((nd.kids.length : Int) :: nd.kids.flatMap kidBytes)))) := by
    rw [← he]
    unfold nodeBytes
    rw [if_pos h]
    unfold rawBytes
    rw [map_mod nd.path pa.2]
    have d0 : nd.kind % 256 = nd.kind := by omega
    have d1 : (nd.path.length : Int) % 256 = nd.path.length := by omega
    have d2 : (nd.val.size : Int) % 256 = nd.val.size := by omega
    have d3 : (nd.kids.length : Int) % 256 = nd.kids.length := by omega
    rw [d0, d1, d2, d3]
    simp
  have hl : bs.length = 4 + nd.path.length + nd.val.size + 9 * nd.kids.length := by rw [hbs]; simp [hsb, k1]; omega
  have D1 : bs.drop 1 = (nd.path.length : Int) :: (nd.path ++ ((nd.val.size : Int) :: (sb nd.val ++ ((nd.kids.length : Int) :: nd.kids.flatMap kidBytes)))) := by rw [hbs]; rfl
  have D2 : bs.drop (2 + nd.path.length) = (nd.val.size : Int) :: (sb nd.val ++ ((nd.kids.length : Int) :: nd.kids.flatMap kidBytes)) := by
    rw [show 2 + nd.path.length = 1 + (1 + nd.path.length) by omega, ← List.drop_drop, D1, show 1 + nd.path.length = nd.path.length + 1 by omega, List.drop_succ_cons, List.drop_left]
  have D3 : bs.drop (3 + nd.path.length + nd.val.size) = (nd.kids.length : Int) :: (nd.kids.flatMap kidBytes ++ []) := by
    rw [show 3 + nd.path.length + nd.val.size = (2 + nd.path.length) + (nd.val.size + 1) by omega, ← List.drop_drop, D2, List.drop_succ_cons, ← hsb, List.drop_left, List.append_nil]
  have q1 := part_of bs _ _ 1 1 nd.path.length (by omega) D1 (by omega)
  have q2 := part_of bs _ _ (2 + nd.path.length) 1 nd.val.size (by omega) D2 (by omega)
  have q3 := part_of bs _ _ (3 + nd.path.length + nd.val.size) 9 nd.kids.length (by omega) D3 (by omega)
  have t1 : 1 + 1 + 1 * nd.path.length = 2 + nd.path.length := by omega
  have t2 : 2 + nd.path.length + 1 + 1 * nd.val.size = 3 + nd.path.length + nd.val.size := by omega
  have t3 : 3 + nd.path.length + nd.val.size + 1 + 9 * nd.kids.length = bs.length := by omega
  rw [t1] at q1
  rw [t2] at q2
  rw [t3] at q3
  exact ⟨_, _, _, q1, q2, q3, by rw [hbs]; simp, by rw [hbs]; rfl, k1, k2, k3⟩
/-- what the parts say of a reading. -/
theorem none_empty (bs : List Int) (hl : bs.length = 0) : NodeRead bs node0 false := .inr ⟨rfl, rfl, fun nd h1 h2 h3 => by
  obtain ⟨_, _, _, _, _, _, h, _⟩ := read_of nd bs h1 h2 h3
  exact h (List.eq_nil_of_length_eq_zero hl)⟩
section
variable {bs r1 r2 r3 : List Int} {e1 e2 e3 : Int} {q : Nat}
theorem none_end (p1 : part bs ((1 : Nat) : Int) 1 = (r1, e1)) (p2 : part bs e1 1 = (r2, e2)) (p3 : part bs e2 9 = (r3, e3)) (he : e3 ≠ bs.length) : NodeRead bs node0 false := .inr ⟨rfl, rfl, fun nd h1 h2 h3 => by
  obtain ⟨f1, f2, r, q1, q2, q3, _⟩ := read_of nd bs h1 h2 h3
  rw [p1] at q1
  cases q1
  rw [p2] at q2
  cases q2
  rw [p3] at q3
  cases q3
  exact he rfl⟩
theorem parts_are (p1 : part bs ((1 : Nat) : Int) 1 = (r1, e1)) (p2 : part bs e1 1 = (r2, e2)) (p3 : part bs e2 9 = (r3, (bs.length : Int))) (hl : r3.length = 9 * q) (nd : MNode) (h1 : nodeOk nd = true) (h2 : NodeWf nd) (h3 : nodeBytes nd = bs) :
    nodeOf bs r1 r2 r3 q = nd ∧ ∀ i, i < q → chunkOk r3 i := by
  obtain ⟨f1, f2, r, q1, q2, q3, _, k0, kl, kk, kc⟩ := read_of nd bs h1 h2 h3
  rw [p1] at q1
  cases q1
  rw [p2] at q2
  cases q2
  rw [p3] at q3
  cases q3
  obtain rfl : q = nd.kids.length := by omega
  refine ⟨?_, kc⟩
  unfold nodeOf
  rw [k0, kk, str_sb]
theorem none_chunk (p1 : part bs ((1 : Nat) : Int) 1 = (r1, e1)) (p2 : part bs e1 1 = (r2, e2)) (p3 : part bs e2 9 = (r3, (bs.length : Int))) (hl : r3.length = 9 * q) (i : Nat) (hi : i < q) (hc : ¬ chunkOk r3 i) : NodeRead bs node0 false :=
  .inr ⟨rfl, rfl, fun nd h1 h2 h3 => hc ((parts_are p1 p2 p3 hl nd h1 h2 h3).2 i hi)⟩
theorem none_bad (p1 : part bs ((1 : Nat) : Int) 1 = (r1, e1)) (p2 : part bs e1 1 = (r2, e2)) (p3 : part bs e2 9 = (r3, (bs.length : Int))) (hl : r3.length = 9 * q) (hb : nodeOk (nodeOf bs r1 r2 r3 q) = false) : NodeRead bs node0 false :=
  .inr ⟨rfl, rfl, fun nd h1 h2 h3 => by rw [(parts_are p1 p2 p3 hl nd h1 h2 h3).1, h1] at hb; cases hb⟩
end
theorem yes_read (bs r1 r2 r3 : List Int) (q : Nat) (hr : ∀ z ∈ bs, 0 ≤ z ∧ z ≤ 255) (h : bs = bs[0]?.getD 0 :: (r1.length : Int) :: (r1 ++ ((r2.length : Int) :: (r2 ++ ((q : Int) :: r3))))) (h3 : r3.length = 9 * q) (hc : ∀ i, i < q → chunkOk r3 i) (ok : nodeOk (nodeOf bs r1 r2 r3 q) = true) :
    NodeRead bs (nodeOf bs r1 r2 r3 q) true := by
  obtain ⟨k1, k2⟩ := read_back bs r1 r2 r3 q hr h h3 hc
  exact .inl ⟨rfl, ok, k2, by unfold nodeBytes; rw [if_pos ok]; exact k1⟩
end Go.Proofs.YtdhnhgppapkikaaGreatDoor

-- KidsX: What the helpers of the exact laws do at slices of kids.
namespace Go.Proofs.YtdhnhgppapkikaaGreatDoor
set_option maxRecDepth 20000
open Go.RowKit

/-- the kids as far as they are filled. -/
def filledK (ks : List (Int × Int)) (n k : Nat) : List (Int × Int) := ks.take k ++ List.replicate (n - k) (0, 0)
theorem filledK_len (ks : List (Int × Int)) (n k : Nat) (hk : ks.length = n) (h : k ≤ n) : (filledK ks n k).length = n := by simp [filledK]; omega
theorem filledK_set (ks : List (Int × Int)) (n k : Nat) (hz : ks.length = n) (hk : k < n) : (filledK ks n k).set k (ks[k]?.getD (0, 0)) = filledK ks n (k + 1) := by
  unfold filledK
  obtain ⟨m, hm⟩ : ∃ m, n - k = m + 1 := ⟨n - k - 1, by omega⟩
  have hm' : n - (k + 1) = m := by omega
  rw [hm, hm', List.getElem?_eq_getElem (by omega)]
  have hl : min k ks.length = k := by omega
  have e : ks.take (k + 1) = ks.take k ++ [ks[k]] := List.take_succ_eq_append_getElem (by omega)
  simp [List.replicate_succ, hl]
  rw [e, List.append_assoc]; rfl
theorem filledK_all (ks : List (Int × Int)) (n : Nat) (hz : ks.length = n) : filledK ks n n = ks := by
  unfold filledK
  rw [List.take_of_length_le (by omega)]; simp
theorem kv_rep (n : Nat) : kv (List.replicate n (0, 0)) = List.replicate (n * 2) 0 := by
  induction n with
  | zero => rfl
  | succ n ih => rw [List.replicate_succ, kv_cons, ih, show (n + 1) * 2 = n * 2 + 1 + 1 by omega]; rfl
theorem make_kids (n : Nat) (hn : n ≤ 8796093022208) (W : World) :
    (Instr.makeSlice 132 (.int .i64 (n : Int)) (.int .i64 (n : Int))).run Tryz.prog W = .ok (.slice (some ⟨W.heap.size, 0, none⟩) n n) (W.alloc (.cells (i64s (kv (List.replicate n (0, 0)))) 140)) := by
  obtain ⟨i0, hi, hz0, hz1, hz2⟩ := info_parts Tryz.infoK
  have hr := run_make (P := Tryz.prog) W 132 140 i0 (.agg #[.int .i64 0, .int .i64 0]) Tryz.underlying132 hi hz0 .i64 .i64 n n (by omega) (by omega) (by rw [hz2]; omega) (by omega)
  simp only [Int.toNat_natCast] at hr
  rw [hr, hz1, kv_rep]
  have e : madeCells (Value.agg #[.int .i64 0, .int .i64 0]).cells (n * 2) = i64s (List.replicate (n * 2) 0) := by
    apply Array.ext
    · simp [madeCells, i64s]
    · intro i h1 h2
      simp [madeCells, i64s, Value.cells]
      rcases Nat.mod_two_eq_zero_or_one i with h | h <;> simp [h]
  rw [e]
theorem OwnK.put {w : World} {base g n c : Nat} {ks : List (Int × Int)} (h : OwnK w base (some ⟨g, 0, none⟩) n c ks) (k : Nat) (a m : Int) :
    OwnK ((w.setCell ⟨g, k * 2, none⟩ (.int .i64 a)).setCell ⟨g, k * 2 + 1, none⟩ (.int .i64 m)) base (some ⟨g, 0, none⟩) n c (ks.set k (a, m)) ∧ w.grownBy ((w.setCell ⟨g, k * 2, none⟩ (.int .i64 a)).setCell ⟨g, k * 2 + 1, none⟩ (.int .i64 m)) (some g) := by
  obtain ⟨h1, g1⟩ := h.set0 k a
  obtain ⟨h2, g2⟩ := h1.set1 k m
  refine ⟨?_, g1.trans g2⟩
  have e : (ks.set k (a, (ks[k]?.getD (0, 0)).2)).set k (((ks.set k (a, (ks[k]?.getD (0, 0)).2))[k]?.getD (0, 0)).1, m) = ks.set k (a, m) := by
    rw [List.set_set]
    by_cases hk : k < ks.length
    · rw [List.getElem?_set_self (by omega)]; rfl
    · rw [List.set_eq_of_length_le (by omega), List.set_eq_of_length_le (by omega)]
  rw [e] at h2
  exact h2

/-- the marks of kids from k0 on. -/
def marksK (k0 : Int) (n : Nat) : List (Int × Int) := (List.range n).map fun (i : Nat) => (k0 + 2 * (i : Int), k0 + 2 * (i : Int) + 1)
theorem marksK_len (k0 : Int) (n : Nat) : (marksK k0 n).length = n := by simp [marksK]
theorem marksK_at (k0 : Int) (n k : Nat) (h : k < n) : (marksK k0 n)[k]?.getD (0, 0) = (k0 + 2 * (k : Int), k0 + 2 * (k : Int) + 1) := by simp [marksK, h]
def markedK (k0 : Int) (n k : Nat) (ks : List (Int × Int)) : List (Int × Int) := (marksK k0 n).take k ++ ks.drop k
theorem markedK_set (k0 : Int) (n k : Nat) (ks : List (Int × Int)) (hx : ks.length = n) (hk : k < n) : (markedK k0 n k ks).set k (k0 + 2 * (k : Int), k0 + 2 * (k : Int) + 1) = markedK k0 n (k + 1) ks := by
  unfold markedK
  have hl : min k (marksK k0 n).length = k := by have := marksK_len k0 n; omega
  have e : (marksK k0 n).take (k + 1) = (marksK k0 n).take k ++ [(k0 + 2 * (k : Int), k0 + 2 * (k : Int) + 1)] := by
    rw [List.take_succ_eq_append_getElem (by rw [marksK_len]; omega)]
    simp [marksK]
  rw [e]
  have hd : ks.drop k = ks[k] :: ks.drop (k + 1) := List.drop_eq_getElem_cons (by omega)
  have hs : (ks.drop k).set 0 (k0 + 2 * (k : Int), k0 + 2 * (k : Int) + 1) = (k0 + 2 * (k : Int), k0 + 2 * (k : Int) + 1) :: ks.drop (k + 1) := by rw [hd]; rfl
  simp [hl, hs]

end Go.Proofs.YtdhnhgppapkikaaGreatDoor

-- IntsX: What the helpers of the exact laws do at slices of int64: a copy is a new row of the same numbers; two that read alike are told alike; what marking and holding leave.
namespace Go.Proofs.YtdhnhgppapkikaaGreatDoor
set_option maxRecDepth 20000
open Go.RowKit

theorem copyI_any (A : Option Addr) (n c : Nat) (zs : List Int) (B : Nat) (w : World) (hn : n ≤ 17592186044416) (hB : B ≤ w.heap.size) (hb : Ints w B A n zs) :
    Calls Tryz.prog 40 #[.slice A n c] w (GaveI w zs) := by
  have hlen : zs.length = n := hb.1
  have HL := Lib.hid hlen
  have HB := Lib.hid hb
  clear hb hlen
  have HM := Lib.hid (make_ints zs n hn)
  go_enter Tryz.func40, Tryz.ntmps40
  have hmk := HM.out
  go_wp2
  clear hmk
  go_loopw [4] (fun i wr => ∃ k : Nat, k ≤ n ∧ i = .int .i64 k ∧ wr = w.alloc (.cells (filledI zs n k) 2)) (fun i _ => n - (intOf i).toNat)
  case atStart => exact ⟨0, Nat.zero_le _, rfl, rfl⟩
  case round =>
    obtain ⟨k, hk, rfl, rfl⟩ := hrel
    by_cases hlt : k < n
    · obtain ⟨b, off, rfl, hbB, hc⟩ := HB.out.at_ hlt
      have hbw : b < w.heap.size := by omega
      have hg : (filledI zs n k)[k]? = some (.int .i64 0) := filledI_at zs n k HL.out hlt
      have hst := Lib.hid (filledI_set zs n k HL.out hlt)
      go_wp2
      go_roundw
      case rel => exact ⟨k + 1, by omega, by go_num, by rw [hst.out]⟩
      case measure => simp [intOf]; omega
    · go_wp2
      go_ret
      exact ⟨_, n, n, rfl, by rw [show k = n by omega, filledI_all zs n HL.out]; exact OwnI.of_alloc w _ zs n (Nat.le_refl _) HL.out (by unfold maxLen; omega), (Below.refl _ _).alloc (Nat.le_refl _) _⟩

theorem likeI_yes (A A' : Option Addr) (n c c' : Nat) (zs : List Int) (B B' : Nat) (w : World) (hn : n ≤ 9223372036854775807) (hb : Ints w B A n zs) (hb' : Ints w B' A' n zs) :
    Calls Tryz.prog 43 #[.slice A n c, .slice A' n c'] w fun e w' => e = .returned (.bool true) ∧ ∃ m, w' = w.drewN m := by
  have HB := Lib.hid hb
  have HB' := Lib.hid hb'
  clear hb hb'
  go_enter Tryz.func43, Tryz.ntmps43
  go_wp2
  go_loopw [5] (fun i wr => ∃ k m : Nat, k ≤ n ∧ i = .int .i64 k ∧ wr = w.drewN m) (fun i _ => n - (intOf i).toNat)
  case atStart => exact ⟨0, 0, Nat.zero_le _, rfl, rfl⟩
  case round =>
    obtain ⟨k, m, hk, rfl, rfl⟩ := hrel
    by_cases hlt : k < n
    · obtain ⟨b, off, rfl, hbB, hc⟩ := HB.out.at_ hlt
      obtain ⟨b', off', rfl, hbB', hc'⟩ := HB'.out.at_ hlt
      go_wp2
      go_quiet (fail)
      go_wp2
      go_roundw
      case rel => exact ⟨k + 1, _, by omega, by go_num, rfl⟩
      case measure => simp [intOf]; omega
    · go_wp2
      go_ret
      exact ⟨rfl, m, rfl⟩

/-- the marks from k0 on. -/
def marksI (k0 : Int) (n : Nat) : List Int := (List.range n).map fun (i : Nat) => k0 + (i : Int)
theorem marksI_len (k0 : Int) (n : Nat) : (marksI k0 n).length = n := by simp [marksI]
theorem marksI_at (k0 : Int) (n k : Nat) (h : k < n) : (marksI k0 n)[k]?.getD 0 = k0 + (k : Int) := by simp [marksI, h]
def markedI (k0 : Int) (n k : Nat) (xs : List Int) : List Int := (marksI k0 n).take k ++ xs.drop k
theorem markedI_set (k0 : Int) (n k : Nat) (xs : List Int) (hx : xs.length = n) (hk : k < n) : (markedI k0 n k xs).set k (k0 + (k : Int)) = markedI k0 n (k + 1) xs := by
  unfold markedI
  have hl : min k (marksI k0 n).length = k := by have := marksI_len k0 n; omega
  rw [take_step (marksI k0 n) k (by have := marksI_len k0 n; omega), marksI_at k0 n k hk]
  have hd : xs.drop k = xs[k] :: xs.drop (k + 1) := List.drop_eq_getElem_cons (by omega)
  have hs : (xs.drop k).set 0 (k0 + (k : Int)) = (k0 + (k : Int)) :: xs.drop (k + 1) := by rw [hd]; rfl
  simp [hl, hs]

theorem markI_any (A : Option Addr) (n c base : Nat) (xs : List Int) (k0 : Int) (w : World) (h0 : 0 ≤ k0) (h1 : k0 + n ≤ 4611686018427387904) (hm : OwnI w base A n c xs) :
    Calls Tryz.prog 45 #[.slice A n c, .int .i64 k0] w fun e w' => e = .returned (.int .i64 (k0 + n)) ∧ OwnI w' base A n c (marksI k0 n) ∧ w.grownBy w' (Value.slice A n c).ownBlock := by
  have hx := Lib.hid hm.len
  have HM := Lib.hid hm
  clear hm
  go_enter Tryz.func45, Tryz.ntmps45
  go_wp2
  go_loopw [1, 5] (fun q i wr => ∃ k : Nat, k ≤ n ∧ i = .int .i64 k ∧ q = .int .i64 (k0 + k) ∧ OwnI wr base A n c (markedI k0 n k xs) ∧ w.grownBy wr (Value.slice A n c).ownBlock) (fun _ i _ => n - (intOf i).toNat)
  case atStart => exact ⟨0, Nat.zero_le _, rfl, by simp, HM.out, World.grownBy.refl _ _⟩
  case round =>
    obtain ⟨k, hk, rfl, rfl, hmr, hgr⟩ := hrel
    by_cases hlt : k < n
    · obtain ⟨g, rfl, hbg, hlt'⟩ := hmr.form (by omega)
      have hc := hmr.cell hlt
      have hf := hmr.free k
      have hs := hmr.set_ k (k0 + (k : Int))
      rw [markedI_set k0 n k xs hx.out hlt] at hs
      have HS := Lib.hid hs
      have HG := Lib.hid hgr
      clear hs hmr hgr
      go_wp2
      go_roundw
      case rel => exact ⟨k + 1, by omega, by go_num, by go_num, HS.out.1, HG.out.trans HS.out.2⟩
      case measure => simp [intOf]; omega
    · go_wp2
      go_ret
      have e : k = n := by omega
      subst e
      refine ⟨rfl, ?_, hgr⟩
      have hd : markedI k0 k k xs = marksI k0 k := by
        unfold markedI
        rw [List.take_of_length_le (by have := marksI_len k0 k; omega), List.drop_eq_nil_of_le (by have := hx.out; omega)]; simp
      rw [hd] at hmr
      exact hmr

end Go.Proofs.YtdhnhgppapkikaaGreatDoor

-- NodeX: What the helpers of the exact laws do at nodes.
namespace Go.Proofs.YtdhnhgppapkikaaGreatDoor
set_option maxRecDepth 20000
open Go.RowKit

theorem szInt64S_any (A : Option Addr) (n c left : Nat) (w : World) (hn : n ≤ maxLen) (hl : left ≤ 1048576) :
    Calls Tryz.prog 38 #[.slice A n c, .int .i64 left] w fun e w' => e = .returned (.int .i64 (if n ≤ left then ((left - n : Nat) : Int) else -1)) ∧ w = w' := by
  unfold maxLen at hn
  by_cases h : n ≤ left
  · rw [if_pos h]
    go_enter Tryz.func38, Tryz.ntmps38
    go_wp2
    go_ret
    exact ⟨ret_i64 (by omega), rfl⟩
  · rw [if_neg h]
    go_enter Tryz.func38, Tryz.ntmps38
    go_wp2
    go_ret
    exact ⟨rfl, rfl⟩
/-- what is left behind a node's size. -/
def leftOf (left m : Nat) : Int := if m ≤ left then ((left - m : Nat) : Int) else -1
/-- the value v is a node of the call's own: its lists lie in blocks of their own, from base on. -/
def OwnN (w : World) (base : Nat) (v : Value) (nd : MNode) : Prop :=
  ∃ Ap np cp Ak nk ck, v = .agg #[.int .i64 nd.kind, .slice Ap np cp, .slice Ak nk ck, .string nd.val] ∧ np ≤ 1048576 ∧ nk ≤ 1048576 ∧ nd.val.size ≤ 1048576 ∧ OwnI w base Ap np cp nd.path ∧ OwnK w base Ak nk ck nd.kids ∧
    ∀ g, (Value.slice Ap np cp).ownBlock = some g → (Value.slice Ak nk ck).ownBlock ≠ some g
theorem OwnN.node {w : World} {base : Nat} {v : Value} {nd : MNode} (h : OwnN w base v nd) : NodeIn w w.heap.size v nd := by
  obtain ⟨Ap, np, cp, Ak, nk, ck, rfl, h1, h2, h3, h4, h5, _⟩ := h
  exact ⟨Ap, np, cp, Ak, nk, ck, rfl, h1, h2, h3, h4.ints, h5.kids⟩
theorem OwnN.below {w w' : World} {base : Nat} {v : Value} {nd : MNode} (h : OwnN w base v nd) (hb : Below w.heap.size w w') : OwnN w' base v nd := by
  obtain ⟨Ap, np, cp, Ak, nk, ck, rfl, h1, h2, h3, h4, h5, h6⟩ := h
  exact ⟨Ap, np, cp, Ak, nk, ck, rfl, h1, h2, h3, h4.below hb, h5.below hb, h6⟩
/-- block g holds one of the lists of the node v. -/
def NodeBlk (v : Value) (g : Nat) : Prop := ∃ k Ap np cp Ak nk ck s, v = .agg #[k, .slice Ap np cp, .slice Ak nk ck, s] ∧ ((Value.slice Ap np cp).ownBlock = some g ∨ (Value.slice Ak nk ck).ownBlock = some g)
theorem OwnN.blk {w : World} {base : Nat} {v : Value} {nd : MNode} (h : OwnN w base v nd) {g : Nat} (hg : NodeBlk v g) : base ≤ g ∧ g < w.heap.size := by
  obtain ⟨Ap, np, cp, Ak, nk, ck, rfl, _, _, _, h4, h5, _⟩ := h
  obtain ⟨k, Ap', np', cp', Ak', nk', ck', s, e, hg⟩ := hg
  cases e
  rcases hg with hg | hg
  · exact World.ownsRow.lt h4 g hg
  · exact World.ownsRow.lt h5 g hg
theorem OwnN.touch {S : Nat → Prop} {w w' : World} {base : Nat} {v : Value} {nd : MNode} (h : OwnN w base v nd) (t : Touch S w w') (hn : ∀ g, NodeBlk v g → ¬ S g) : OwnN w' base v nd := by
  obtain ⟨Ap, np, cp, Ak, nk, ck, rfl, h1, h2, h3, h4, h5, h6⟩ := h
  exact ⟨Ap, np, cp, Ak, nk, ck, rfl, h1, h2, h3, h4.touch t (fun g hg => hn g ⟨_, _, _, _, _, _, _, _, rfl, .inl hg⟩), h5.touch t (fun g hg => hn g ⟨_, _, _, _, _, _, _, _, rfl, .inr hg⟩), h6⟩
theorem OwnN.base {w : World} {base base' : Nat} {v : Value} {nd : MNode} (h : OwnN w base v nd) (hb : base' ≤ base) : OwnN w base' v nd := by
  obtain ⟨Ap, np, cp, Ak, nk, ck, rfl, h1, h2, h3, h4, h5, h6⟩ := h
  exact ⟨Ap, np, cp, Ak, nk, ck, rfl, h1, h2, h3, h4.base hb, h5.base hb, h6⟩
end Go.Proofs.YtdhnhgppapkikaaGreatDoor

-- Conv: A slice of bytes turned into a text: the text of just these bytes.
namespace Go.Proofs.YtdhnhgppapkikaaGreatDoor
set_option maxRecDepth 20000
open Go.RowKit

theorem conv_bytes (A : Option Addr) (n c : Nat) (zs : List Int) (B : Nat) (w : World) (hb : Byts w B A n zs) :
    (convert 22 9 (.slice A n c)).run Tryz.prog w = .ok (.string (strOfNums zs)) w := by
  rcases Nat.eq_zero_or_pos n with h0 | hp
  · subst h0
    have hz : zs = [] := List.eq_nil_of_length_eq_zero hb.1
    subst hz
    rcases A with _ | a
    · exact run_convert_bytes_nil w _ _ Tryz.underlying22 Tryz.underlying5 0 c _ Tryz.underlying9
    · rw [run_convert_bytes_string w _ _ _ (some a) 0 c Tryz.underlying22 Tryz.underlying5 Tryz.underlying9]
      have hl : (loadCells a 0).run Tryz.prog w = .ok ([].map (Value.int .u8)).toArray w := by
        have := run_loadCells_list (P := Tryz.prog) w a [] (fun j v hj => by simp at hj)
        simpa using this
      rw [run_bytesToString w a 0 c [] hl]
      rfl
  · obtain ⟨b, off, rfl, _, hc⟩ := hb.2.2 hp
    exact run_convert_bytes_arg w _ _ Tryz.underlying22 Tryz.underlying5 b off n c zs hb.1 hc _ Tryz.underlying9

end Go.Proofs.YtdhnhgppapkikaaGreatDoor

-- NodeF: What the model's NodeFrom reads of some bytes.
namespace Go.Proofs.YtdhnhgppapkikaaGreatDoor
set_option maxRecDepth 20000
open Go.RowKit

/-- the node that is none, as a value. -/
def node0V : Value := .agg #[.int .i64 0, .slice none 0 0, .slice none 0 0, .string { data := #[] }]
theorem node0_own (w : World) (base : Nat) : OwnN w base node0V node0 :=
  ⟨none, 0, 0, none, 0, 0, rfl, by omega, by omega, by decide, OwnI.nil _ _, OwnK.nil _ _, fun g hg => by simp [Value.ownBlock] at hg⟩
set_option maxHeartbeats 1600000 in
theorem specNodeFrom_any (A : Option Addr) (n c : Nat) (bs : List Int) (B : Nat) (w : World) (hn : n ≤ 1048576) (hc : n ≤ c) (hB : B ≤ w.heap.size) (hb : Byts w B A n bs) :
    Calls Tryz.prog 85 #[.slice A n c] w fun e w' => ∃ v nd b, e = .returned (.tuple #[v, .bool b]) ∧ OwnN w' w.heap.size v nd ∧ NodeRead bs nd b ∧ Below w.heap.size w w' := by
  have HB := Lib.hid (hb.more hB)
  have hlen : bs.length = n := hb.1
  have hr := hb.2.1
  clear hb
  obtain ⟨w1, hw1⟩ : ∃ w1, w.alloc (.cells #[.int .i64 0, .slice none 0 0, .slice none 0 0, .string { data := #[] }] 134) = w1 := ⟨_, rfl⟩
  have x1 : Box w1 w.heap.size _ _ := hw1 ▸ heap_alloc_new _ _
  have s1 : w1.heap.size = w.heap.size + 1 := hw1 ▸ by simp
  have b1 : Below w.heap.size w w1 := hw1 ▸ (Below.refl _ _).alloc (Nat.le_refl _) _
  have X1 := Lib.hid x1
  have B1 := Lib.hid b1
  have HW := Lib.hid hw1
  clear x1 b1 hw1
  by_cases h0 : n = 0
  · have q10 := X1.out.cell 0
    have q11 := X1.out.cell 1
    have q12 := X1.out.cell 2
    have q13 := X1.out.cell 3
    have f1 := X1.out.free
    simp at q10 q11 q12 q13
    subst h0
    go_enter Tryz.func85, Tryz.ntmps85
    go_wp2_with fail
    rw [HW.out]
    refine bodyPost_ret (v := .tuple #[node0V, .bool false]) (results_box2 Tryz.results85 _ _ w.heap.size _ _ _ _ rfl rfl X1.out Tryz.underlying134 rfl (by kernel_rfl)) rfl ?_
    exact ⟨_, node0, false, rfl, node0_own _ _, none_empty bs hlen, B1.out⟩
  obtain ⟨r1, e1, hp1⟩ : ∃ r1 e1, part bs ((1 : Nat) : Int) 1 = (r1, e1) := ⟨_, _, rfl⟩
  have g1 := part_range bs hr ((1 : Nat) : Int) 1
  obtain ⟨r2, e2, hp2⟩ : ∃ r2 e2, part bs e1 1 = (r2, e2) := ⟨_, _, rfl⟩
  have g2 := part_range bs hr e1 1
  obtain ⟨r3, e3, hp3⟩ : ∃ r3 e3, part bs e2 9 = (r3, e3) := ⟨_, _, rfl⟩
  have g3 := part_range bs hr e2 9
  rw [hp1] at g1
  rw [hp2] at g2
  rw [hp3] at g3
  have P1 := Lib.hid hp1
  have P2 := Lib.hid hp2
  have P3 := Lib.hid hp3
  have hd0 : decide ((n : Int) = 0) = false := decide_eq_false (by omega)
  simp only [hlen] at g1 g2 g3
  clear hp1 hp2 hp3
  go_enter Tryz.func85, Tryz.ntmps85
  go_wp2_with fail
  rw [HW.out]
  refine (l3Part_any A n c bs ((1 : Nat) : Int) 1 _ w1 hn hc (by omega) (by omega) (by omega) (HB.out.below B1.out)).mono ?_
  rintro e w2 ⟨A2, n2, c2, rfl, hc2, y2, b2⟩
  rw [P1.out] at y2 ⊢
  have Y2 := Lib.hid y2
  have X1 := Lib.hid (X1.out.below b2 (by omega))
  have B2 := Lib.hid (B1.out.trans (b2.mono (by omega)))
  have s2 := b2.size
  clear b2 y2
  go_wp2_with fail
  refine (l3Part_any A n c bs e1 1 _ w2 hn hc (by omega) (by omega) (by omega) (HB.out.below B2.out)).mono ?_
  rintro e w3 ⟨A3, n3, c3, rfl, hc3, y3, b3⟩
  rw [P2.out] at y3 ⊢
  have Y3 := Lib.hid y3
  have Y2 := Lib.hid (Y2.out.below (b3.mono (by omega)))
  have X1 := Lib.hid (X1.out.below b3 (by omega))
  have B3 := Lib.hid (B2.out.trans (b3.mono (by omega)))
  have s3 := b3.size
  clear b3 y3
  go_wp2_with fail
  refine (l3Part_any A n c bs e2 9 _ w3 hn hc (by omega) (by omega) (by omega) (HB.out.below B3.out)).mono ?_
  rintro e w4 ⟨A4, n4, c4, rfl, hc4, y4, b4⟩
  rw [P3.out] at y4 ⊢
  have Y4 := Lib.hid y4
  have Y3 := Lib.hid (Y3.out.below (b4.mono (by omega)))
  have Y2 := Lib.hid (Y2.out.below (b4.mono (by omega)))
  have X1 := Lib.hid (X1.out.below b4 (by omega))
  have B4 := Lib.hid (B3.out.trans (b4.mono (by omega)))
  have s4 := b4.size
  clear b4 y4
  by_cases hk : e3 = n
  · subst hk
    obtain ⟨bk, off, rfl, hbB, hc0⟩ := (HB.out.below B4.out).at_ (k := 0) (by omega)
    have hr0 := (HB.out.below B4.out).range 0
    rw [Nat.add_zero] at hc0
    have hcv : ∀ W, Below w4.heap.size w4 W → (convert 22 9 (.slice A3 n3 c3)).run Tryz.prog W = .ok (.string (strOfNums r2)) W := fun W hW => conv_bytes A3 n3 c3 r2 _ W (Y3.out.below (hW.mono (by omega)))
    generalize hb0 : bs[0]?.getD 0 = z0 at hc0 hr0
    have Z0 := Lib.hid hb0
    clear hb0
    have hc0' : ∀ W, Below w4.heap.size w4 W → W.cell? ⟨bk, off, none⟩ = some (.int .u8 z0) := fun W hW => (hW.cell (p := ⟨bk, off, none⟩) (by show bk < w4.heap.size; omega)).trans hc0
    clear hc0
    have hpos : (0 : Int) < (n : Int) := by omega
    have hia : ∀ W : World, (Instr.indexAt 22 (.slice (some ⟨bk, off, none⟩) n c) (.int .i64 0)).run Tryz.prog W = .ok (.pointer (some ⟨bk, off, none⟩)) W := fun W => by go_simp
    have hwz : IntKind.i64.wrap z0 = z0 := by rw [IntKind.wrap_i64]; omega
    go_wp2
    go_region_held3 (fun W => Below w4.heap.size w4 W) (first | exact (Below.refl _ _).drew | exact ((Below.refl _ _).alloc (Nat.le_refl _) _).drew | assumption)
      (first | (fail))
    clear hcv hc0' hia
    have x5 : Box (w4.alloc (.cells #[.int .i64 z0, .slice none 0 0, .slice none 0 0, .string (strOfNums r2)] 134)).drew w4.heap.size _ _ := heap_alloc_new _ _
    have b5 : Below w4.heap.size w4 (w4.alloc (.cells #[.int .i64 z0, .slice none 0 0, .slice none 0 0, .string (strOfNums r2)] 134)).drew := ((Below.refl _ _).alloc (Nat.le_refl _) _).drew
    have s5 : (w4.alloc (.cells #[.int .i64 z0, .slice none 0 0, .slice none 0 0, .string (strOfNums r2)] 134)).drew.heap.size = w4.heap.size + 1 := by simp
    generalize (w4.alloc (.cells #[.int .i64 z0, .slice none 0 0, .slice none 0 0, .string (strOfNums r2)] 134)).drew = w5 at x5 b5 s5
    have X5 := Lib.hid x5
    have B5 := Lib.hid b5
    clear x5 b5
    obtain ⟨i0, hi, hz0, hz1, hz2⟩ := info_parts Tryz.infoI
    obtain ⟨iK, hki, hk0, hk1, hk2⟩ := info_parts Tryz.infoK
    have HK := Lib.hid hki
    have HK0 := Lib.hid hk0
    have HK1 := Lib.hid hk1
    have HK2 := Lib.hid hk2
    clear hki hk0 hk1 hk2
    have HI := Lib.hid hi
    have HZ0 := Lib.hid hz0
    have HZ1 := Lib.hid hz1
    have HZ2 := Lib.hid hz2
    clear hi hz0 hz1 hz2
    have L2 : Hid (r1.length = n2) := Y2.out.1
    have L3 : Hid (r3.length = n4) := Y4.out.1
    have hn4 : n4 ≤ 1048576 := by have := part_le bs e2 9; rw [P3.out, hlen] at this; have := L3.out; simp only at *; omega
    have L4 : Hid (r2.length = n3) := Y3.out.1
    have hn3 : r2.length ≤ 1048576 := by have := part_le bs e1 1; rw [P2.out, hlen] at this; simp only at *; omega
    have hn2 : n2 ≤ 1048576 := by have := part_le bs ((1 : Nat) : Int) 1; rw [P1.out, hlen] at this; have := L2.out; simp only at *; omega
    go_wp2
    go_loopw [11] (fun x wr => ∃ k : Nat, ∃ Ap cp, k ≤ n2 ∧ x = .int .i64 k ∧ OwnI wr (w4.heap.size + 1) Ap k cp (r1.take k) ∧ Box wr w4.heap.size 134 #[.int .i64 z0, .slice Ap k cp, .slice none 0 0, .string (strOfNums r2)] ∧ Below w4.heap.size w4 wr) (fun x _ => n2 - (intOf x).toNat)
    case atStart => exact ⟨0, none, 0, Nat.zero_le _, rfl, OwnI.nil _ _, X5.out, B5.out⟩
    case round =>
      obtain ⟨k, Ap, cp, hk2, rfl, hown, hbox, hbr⟩ := hrel
      have MR := Lib.hid hown
      have XR := Lib.hid hbox
      have BR := Lib.hid hbr
      clear hown hbox hbr
      by_cases hlt : k < n2
      · obtain ⟨b, o, rfl, hbb, hc0⟩ := (Y2.out.below (BR.out.mono (by omega))).at_ hlt
        have hrr := (Y2.out.below (BR.out.mono (by omega))).range k
        have hst := take_step r1 k (by rw [L2.out]; exact hlt)
        generalize r1[k]?.getD 0 = z at hc0 hrr hst
        have HST := Lib.hid hst
        clear hst
        have q1 := XR.out.cell 1
        have f1 := XR.out.free 1
        simp at q1
        have hwz2 : IntKind.i64.wrap z = z := by rw [IntKind.wrap_i64]; omega
        go_wp2
        have HO : Hid (∀ W, Below wr.heap.size wr W → OwnI W (w4.heap.size + 1) Ap k cp (r1.take k)) := fun W hb => MR.out.below hb
        have lx := XR.out.lt
        have hk := L2.out
        go_region_law (first
          | (refine step_append_lies _ rfl _ _ 25 rfl (w4.heap.size + 1) 2 i0 (.int .i64 0) 1 8 Tryz.underlying25 HI.out HZ0.out HZ1.out HZ2.out rfl (by decide) (.slice Ap k cp) k ((r1.take k).map (Value.int .i64)) (by simp [Act.eval]) (HO.out _ (((Below.refl _ _).alloc (Nat.le_refl _) _).drew)) ⟨wr.heap.size, 0, none⟩ 1 1 ([z].map (Value.int .i64)) (by simp [Act.eval]) rfl (by
              intro j u hj
              match j, hj with
              | 0, hj => simp at hj; subst hj; simp [Addr.add]) (by intro u hu; simp at hu; subst hu; rfl) (by omega) (by unfold maxLen; omega) (by omega) (by simp; omega) _ rfl ?_
             intro g6 c6 w6 hown6 hgrow6 _ _
             have x6 : Box w6 w4.heap.size _ _ := ((hgrow6.block w4.heap.size (by simp; omega) (fun e => by have := (World.ownsRow.lt MR.out _ e.symm).1; omega)).trans (heap_alloc_old _ _ lx)).trans XR.out
             have q6 := x6.cell 1
             have f6 := x6.free 1
             simp at q6))
        all_goals
          have b6 : Below w4.heap.size w4 w6 := ((BR.out.alloc (by omega) _).drew).grown hgrow6 (by simp; omega) (fun g hg => by have := (World.ownsRow.lt MR.out g hg).1; omega)
          go_wp2
          go_roundw
          case rel =>
            refine ⟨k + 1, some ⟨g6, 0, none⟩, c6, by omega, by go_num, ?_, by simpa using x6.set_ 1 _, b6.trans (grown_below (grown_set w6 _ 1 _) b6.size (Nat.le_refl _))⟩
            rw [HST.out]
            unfold OwnI
            rw [List.map_append]
            exact own_touch hown6 (touch_set (S := fun x => x = w4.heap.size) w6 _ 1 _ rfl) (fun g hg e => by have := (World.ownsRow.lt hown6 g hg).1; omega)
          case measure => simp [intOf]; omega
      · obtain rfl : k = n2 := by omega
        have hst : r1.take k = r1 := List.take_of_length_le (by rw [L2.out]; exact Nat.le_refl _)
        have MP : Hid (OwnI wr (w4.heap.size + 1) Ap k cp r1) := by rw [← hst]; exact MR.out
        clear MR hst
        have hp3 := P3.out
        rw [← hlen] at hp3
        have hl4 := L3.out
        obtain ⟨q0, hq, hq3⟩ := parts_all bs r1 r2 r3 e1 e2 hr P1.out P2.out hp3 (by omega)
        have HQ := Lib.hid hq
        clear hq hp3
        go_wp2
        go_loopw [12] (fun x wr => ∃ q m : Nat, ∃ Ak ck, q ≤ q0 ∧ m = 9 * q ∧ x = .int .i64 m ∧ OwnK wr (w4.heap.size + 1) Ak q ck (kidsTo r3 q) ∧ OwnI wr (w4.heap.size + 1) Ap k cp r1 ∧ (∀ g, (Value.slice Ap k cp).ownBlock = some g → (Value.slice Ak q ck).ownBlock ≠ some g) ∧
          Box wr w4.heap.size 134 #[.int .i64 z0, .slice Ap k cp, .slice Ak q ck, .string (strOfNums r2)] ∧ Below w4.heap.size w4 wr ∧ ∀ i, i < q → chunkOk r3 i) (fun x _ => n4 - (intOf x).toNat)
        case atStart => exact ⟨0, 0, none, 0, Nat.zero_le _, rfl, rfl, OwnK.nil _ _, MP.out, by simp [Value.ownBlock], XR.out, BR.out, fun i hi => absurd hi (by omega)⟩
        case round =>
          obtain ⟨q, m, Ak, ck, hqq, hm, rfl, hown, howp, hdis, hbox, hbr, hchk⟩ := hrel
          have MK := Lib.hid hown
          have MP := Lib.hid howp
          have HD := Lib.hid hdis
          have XR := Lib.hid hbox
          have BR := Lib.hid hbr
          have HC := Lib.hid hchk
          clear hown howp hdis hbox hbr hchk
          have hmm : q < q0 → m + 9 ≤ n4 := fun h => by omega
          have hmm' : ¬ q < q0 → m = n4 := fun h => by omega
          have HM := Lib.hid hm
          clear hm
          by_cases hlt : q < q0
          · have hm9 := hmm hlt
            obtain ⟨b, o, rfl, hbb, hc0⟩ := (Y4.out.below (BR.out.mono (by omega))).at_ (k := m) (by omega)
            have hrr := Y4.out.range m
            have hlo : (0 : Int) ≤ (m : Int) + 1 := by omega
            have hhi : (m : Int) + 1 ≤ (m : Int) + 9 := by omega
            have hcap : (m : Int) + 9 ≤ (c4 : Int) := by omega
            have yb := (Y4.out.below (BR.out.mono (by omega))).part (m + 1) 8 (by omega)
            have h8 : ((r3.drop (m + 1)).take 8)[7]?.getD 0 = r3[m + 8]?.getD 0 := by rw [List.getElem?_take_of_lt (by omega), List.getElem?_drop]
            clear hmm hmm'
            by_cases h7 : r3[m + 8]?.getD 0 ≤ (127 : Int)
            · have hko : kidsTo r3 (q + 1) = kidsTo r3 q ++ [(r3[m]?.getD 0, leVal ((r3.drop (m + 1)).take 8))] := by rw [kidsTo_step]; unfold kidOf; rw [HM.out]
              have hco : chunkOk r3 q := by unfold chunkOk; rw [← HM.out]; exact h7
              generalize r3[m]?.getD 0 = z at hc0 hrr hko
              have hwz2 : IntKind.i64.wrap z = z := by rw [IntKind.wrap_i64]; omega
              go_wp2_with fail
              refine (specFrom_yes _ _ _ w.heap.size wr yb (by rw [h8]; exact h7)).mono ?_
              rintro e _ ⟨rfl, rfl⟩
              generalize leVal ((r3.drop (m + 1)).take 8) = nm at hko
              have HKO := Lib.hid hko
              have HCO := Lib.hid hco
              clear hko hco yb h8
              have q1 := XR.out.cell 2
              have f1 := XR.out.free 2
              simp at q1
              go_wp2_with fail
              have HO : Hid (∀ W, Below wr.heap.size wr W → OwnK W (w4.heap.size + 1) Ak q ck (kidsTo r3 q)) := fun W hb => MK.out.below hb
              have lx := XR.out.lt
              go_region_law (first
                | (refine step_append_lies _ rfl _ _ 132 rfl (w4.heap.size + 1) 140 iK (.agg #[.int .i64 0, .int .i64 0]) 2 16 Tryz.underlying132 HK.out HK0.out HK1.out HK2.out rfl (by decide) (.slice Ak q ck) q ((kv (kidsTo r3 q)).map (Value.int .i64)) (by simp [Act.eval]) (HO.out _ (((Below.refl _ _).alloc (Nat.le_refl _) _).drew)) ⟨wr.heap.size, 0, none⟩ 1 1 ([z, nm].map (Value.int .i64)) (by simp [Act.eval]) rfl (by
                    intro j u hj
                    match j, hj with
                    | 0, hj => simp at hj; subst hj; simp [Addr.add]
                    | 1, hj => simp at hj; subst hj; simp [Addr.add]) (by intro u hu; simp at hu; rcases hu with rfl | rfl <;> rfl) (by omega) (by unfold maxLen; omega) (by omega) (by simp; omega) _ rfl ?_
                   intro g6 c6 w6 hown6 hgrow6 hwh6 _
                   have x6 : Box w6 w4.heap.size _ _ := ((hgrow6.block w4.heap.size (by simp; omega) (fun e => by have := (World.ownsRow.lt MK.out _ e.symm).1; omega)).trans (heap_alloc_old _ _ lx)).trans XR.out
                   have q6 := x6.cell 2
                   have f6 := x6.free 2
                   simp at q6))
              all_goals
                have b6 : Below w4.heap.size w4 w6 := ((BR.out.alloc (by omega) _).drew).grown hgrow6 (by simp; omega) (fun g hg => by have := (World.ownsRow.lt MK.out g hg).1; omega)
                have m6 : OwnI w6 (w4.heap.size + 1) Ap k cp r1 := OwnI.touch (OwnI.touch MP.out (Touch.of_below ((Below.refl _ _).alloc (Nat.le_refl _) _).drew : Touch (fun _ => False) wr _) (fun _ _ h => h)) (Touch.of_grown hgrow6) (fun g hg e => HD.out g hg e.symm)
                go_wp2
                go_roundw
                case rel =>
                  refine ⟨q + 1, m + 9, some ⟨g6, 0, none⟩, c6, by omega, by have := HM.out; omega, by go_num, ?_, ?_, ?_, by simpa using x6.set_ 2 _, b6.trans (grown_below (grown_set w6 _ 2 _) b6.size (Nat.le_refl _)), fun i hi => ?_⟩
                  · rw [HKO.out]
                    unfold OwnK
                    rw [kv_append, List.map_append]
                    exact own_touch hown6 (touch_set (S := fun x => x = w4.heap.size) w6 _ 2 _ rfl) (fun g hg e => by have := (World.ownsRow.lt hown6 g hg).1; omega)
                  · exact m6.touch (touch_set (S := fun x => x = w4.heap.size) w6 _ 2 _ rfl) (fun g hg e => by have := (World.ownsRow.lt m6 g hg).1; omega)
                  · intro g hg h
                    have hgg := own_eq h.symm
                    subst hgg
                    rcases hwh6 with h1 | h1
                    · exact HD.out _ hg h1
                    · have := (World.ownsRow.lt MP.out _ hg).2
                      simp at h1
                      omega
                  · rcases Nat.lt_or_ge i q with h | h
                    · exact HC.out i h
                    · rw [show i = q by omega]; exact HCO.out
                case measure => simp [intOf]; omega
            · have hno := none_chunk P1.out P2.out (by rw [hlen]; exact P3.out) hq3 q hlt (by unfold chunkOk; rw [← HM.out]; exact h7)
              have HNO := Lib.hid hno
              clear hno
              have X1 := Lib.hid (X1.out.below (BR.out.mono (by omega : w.heap.size + 1 ≤ w4.heap.size)) (by omega))
              have q10 := X1.out.cell 0
              have q11 := X1.out.cell 1
              have q12 := X1.out.cell 2
              have q13 := X1.out.cell 3
              have f1 := X1.out.free
              simp at q10 q11 q12 q13
              go_wp2_with fail
              refine (specFrom_high _ _ _ w.heap.size wr yb (by rw [h8]; omega)).mono ?_
              rintro e _ ⟨rfl, rfl⟩
              go_wp2_with fail
              obtain ⟨hX, hb⟩ := set4 X1.out (.int .i64 0) (.slice none 0 0) (.slice none 0 0) (.string { data := #[] })
              refine bodyPost_ret (v := .tuple #[node0V, .bool false]) (results_box2 Tryz.results85 _ _ w.heap.size _ _ _ _ rfl rfl hX Tryz.underlying134 rfl (by kernel_rfl)) rfl ?_
              have b7 := B4.out.trans (BR.out.mono (by omega))
              exact ⟨_, node0, false, rfl, node0_own _ _, HNO.out, b7.trans (hb.below b7.size (fun k hk h => by omega))⟩
          · have hme := hmm' hlt
            obtain rfl : q = q0 := by omega
            have hv : Hid (OwnN wr (w4.heap.size + 1) (.agg #[.int .i64 z0, .slice Ap k cp, .slice Ak q ck, .string (strOfNums r2)]) (nodeOf bs r1 r2 r3 q)) :=
              ⟨Ap, k, cp, Ak, q, ck, by unfold nodeOf; rw [Z0.out], hn2, by omega, by unfold nodeOf; rw [strOfNums_size]; omega, MP.out, MK.out, HD.out⟩
            have X1 := Lib.hid (X1.out.below (BR.out.mono (by omega : w.heap.size + 1 ≤ w4.heap.size)) (by omega))
            have q20 := XR.out.cell 0
            have q21 := XR.out.cell 1
            have q22 := XR.out.cell 2
            have q23 := XR.out.cell 3
            have lx := XR.out.lt
            have l1 := X1.out.lt
            simp at q20 q21 q22 q23
            go_wp2_with fail
            refine (specNodeOk_any _ _ wr.heap.size wr (Nat.le_refl _) hv.out.node).mono ?_
            rintro e w7 ⟨rfl, b7⟩
            have V := Lib.hid (hv.out.below b7)
            have X1 := Lib.hid (X1.out.below b7 l1)
            have XR := Lib.hid (XR.out.below b7 lx)
            have B7 := Lib.hid ((B4.out.trans (BR.out.mono (by omega))).trans (b7.mono (by omega)))
            clear b7 q20 q21 q22 q23
            have q10 := X1.out.cell 0
            have q11 := X1.out.cell 1
            have q12 := X1.out.cell 2
            have q13 := X1.out.cell 3
            have f1 := X1.out.free
            have q20 := XR.out.cell 0
            have q21 := XR.out.cell 1
            have q22 := XR.out.cell 2
            have q23 := XR.out.cell 3
            simp at q10 q11 q12 q13 q20 q21 q22 q23
            by_cases hok : nodeOk (nodeOf bs r1 r2 r3 q) = true
            · rw [hok]
              go_wp2_with fail
              obtain ⟨hX, hb⟩ := set4 X1.out (.int .i64 z0) (.slice Ap k cp) (.slice Ak q ck) (.string (strOfNums r2))
              refine bodyPost_ret (v := .tuple #[.agg #[.int .i64 z0, .slice Ap k cp, .slice Ak q ck, .string (strOfNums r2)], .bool true]) (results_box2 Tryz.results85 _ _ w.heap.size _ _ _ _ rfl rfl hX Tryz.underlying134 rfl (by kernel_rfl)) rfl ?_
              exact ⟨_, nodeOf bs r1 r2 r3 q, true, rfl, (V.out.touch hb (fun g hg h => by have := (V.out.blk hg).1; omega)).base (by omega), yes_read bs r1 r2 r3 q hr HQ.out hq3 HC.out hok, B7.out.trans (hb.below B7.out.size (fun k hk h => by omega))⟩
            · have hok' : nodeOk (nodeOf bs r1 r2 r3 q) = false := by simpa using hok
              rw [hok']
              go_wp2_with fail
              obtain ⟨hX, hb⟩ := set4 X1.out (.int .i64 0) (.slice none 0 0) (.slice none 0 0) (.string { data := #[] })
              refine bodyPost_ret (v := .tuple #[node0V, .bool false]) (results_box2 Tryz.results85 _ _ w.heap.size _ _ _ _ rfl rfl hX Tryz.underlying134 rfl (by kernel_rfl)) rfl ?_
              exact ⟨_, node0, false, rfl, node0_own _ _, none_bad P1.out P2.out (by rw [hlen]; exact P3.out) hq3 hok', B7.out.trans (hb.below B7.out.size (fun k hk h => by omega))⟩
  · have q10 := X1.out.cell 0
    have q11 := X1.out.cell 1
    have q12 := X1.out.cell 2
    have q13 := X1.out.cell 3
    have f1 := X1.out.free
    simp at q10 q11 q12 q13
    go_wp2
    obtain ⟨hX, hb⟩ := set4 X1.out (.int .i64 0) (.slice none 0 0) (.slice none 0 0) (.string { data := #[] })
    refine bodyPost_ret (v := .tuple #[node0V, .bool false]) (results_box2 Tryz.results85 _ _ w.heap.size _ _ _ _ rfl rfl hX Tryz.underlying134 rfl (by kernel_rfl)) rfl ?_
    exact ⟨_, node0, false, rfl, node0_own _ _, none_end P1.out P2.out P3.out (by rw [hlen]; exact hk), B4.out.trans (hb.below B4.out.size (fun k hk h => by omega))⟩
end Go.Proofs.YtdhnhgppapkikaaGreatDoor

-- Sums: The two sums of a name and the name of bytes, as the program and as the model reckon them: what each call returns, the world left as it was.
namespace Go.Proofs.YtdhnhgppapkikaaGreatDoor
set_option maxRecDepth 20000
open Go.RowKit

theorem up_any (A : Option Addr) (n c : Nat) (zs : List Int) (B : Nat) (w : World) (hn : n ≤ 9223372036854775807) (hb : Byts w B A n zs) :
    Calls Tryz.prog 167 #[.slice A n c, .int .i64 7, .int .i64 131, .int .i64 2147483647] w fun e w' => e = .returned (.int .i64 (upSum zs)) ∧ w = w' := by
  have HB := Lib.hid hb
  have hlen : zs.length = n := hb.1
  have HL := Lib.hid hlen
  clear hb hlen
  go_enter Tryz.func167, Tryz.ntmps167
  go_wp2
  go_loop [9, 15] (fun s i => ∃ k : Nat, k ≤ n ∧ i = .int .i64 k ∧ s = .int .i64 (upSum (zs.take k))) (fun _ i => n - (intOf i).toNat)
  case atStart => exact ⟨0, Nat.zero_le _, rfl, rfl⟩
  case round =>
    obtain ⟨k, hk, rfl, rfl⟩ := hrel
    have hs := upSum_bd (zs.take k)
    by_cases hlt : k < n
    · obtain ⟨b, off, rfl, _, hc⟩ := HB.out.at_ hlt
      have hr := HB.out.range k
      have HS := Lib.hid (upSum_step zs k (by have := HL.out; omega))
      go_wp2
      go_round
      case rel => exact ⟨k + 1, by omega, by go_num, by rw [HS.out]⟩
      case measure => simp [intOf]; omega
    · go_wp2
      go_ret
      exact ⟨ret_i64 (by rw [List.take_of_length_le (by have := HL.out; omega)]), rfl⟩
theorem lo_any (A : Option Addr) (n c : Nat) (zs : List Int) (B : Nat) (w : World) (hn : n ≤ 9223372036854775807) (hb : Byts w B A n zs) :
    Calls Tryz.prog 168 #[.slice A n c, .int .i64 11, .int .i64 137, .int .i64 2147483629] w fun e w' => e = .returned (.int .i64 (loSum zs)) ∧ w = w' := by
  have HB := Lib.hid hb
  have hlen : zs.length = n := hb.1
  have HL := Lib.hid hlen
  clear hb hlen
  go_enter Tryz.func168, Tryz.ntmps168
  go_wp2
  go_loop [9, 15] (fun s i => ∃ k : Nat, k ≤ n ∧ i = .int .i64 k ∧ s = .int .i64 (loSum (zs.take k))) (fun _ i => n - (intOf i).toNat)
  case atStart => exact ⟨0, Nat.zero_le _, rfl, rfl⟩
  case round =>
    obtain ⟨k, hk, rfl, rfl⟩ := hrel
    have hs := loSum_bd (zs.take k)
    by_cases hlt : k < n
    · obtain ⟨b, off, rfl, _, hc⟩ := HB.out.at_ hlt
      have hr := HB.out.range k
      have HS := Lib.hid (loSum_step zs k (by have := HL.out; omega))
      go_wp2
      go_round
      case rel => exact ⟨k + 1, by omega, by go_num, by rw [HS.out]⟩
      case measure => simp [intOf]; omega
    · go_wp2
      go_ret
      exact ⟨ret_i64 (by rw [List.take_of_length_le (by have := HL.out; omega)]), rfl⟩
theorem name_any (A : Option Addr) (n c : Nat) (zs : List Int) (B : Nat) (w : World) (hn : n ≤ 9223372036854775807) (hb : Byts w B A n zs) :
    Calls Tryz.prog 123 #[.slice A n c] w fun e w' => e = .returned (.int .i64 (nameOf zs)) ∧ w = w' := by
  have h1 := upSum_bd zs
  have h2 := loSum_bd zs
  have HB := Lib.hid hb
  clear hb
  go_enter Tryz.func123, Tryz.ntmps123
  go_wp2_with (first
    | (go_at_call 167; refine (up_any _ _ _ zs _ _ (by omega) HB.out).mono ?_; rintro e w' ⟨rfl, rfl⟩)
    | (go_at_call 168; refine (lo_any _ _ _ zs _ _ (by omega) HB.out).mono ?_; rintro e w' ⟨rfl, rfl⟩))
  go_ret
  exact ⟨ret_i64 (by unfold nameOf; omega), rfl⟩

theorem specName_any (A : Option Addr) (n c : Nat) (zs : List Int) (B : Nat) (w : World) (hn : n ≤ 9223372036854775807) (hb : Byts w B A n zs) :
    Calls Tryz.prog 86 #[.slice A n c] w fun e w' => e = .returned (.int .i64 (nameOf zs)) ∧ w = w' := by
  have HB := Lib.hid hb
  have hlen : zs.length = n := hb.1
  have HL := Lib.hid hlen
  clear hb hlen
  go_enter Tryz.func86, Tryz.ntmps86
  go_wp2
  go_loop [3, 4, 5] (fun s t i => ∃ k : Nat, k ≤ n ∧ i = .int .i64 k ∧ s = .int .i64 (upSum (zs.take k)) ∧ t = .int .i64 (loSum (zs.take k))) (fun _ _ i => n - (intOf i).toNat)
  case atStart => exact ⟨0, Nat.zero_le _, rfl, rfl, rfl⟩
  case round =>
    obtain ⟨k, hk, rfl, rfl, rfl⟩ := hrel
    have hs := upSum_bd (zs.take k)
    have ht := loSum_bd (zs.take k)
    by_cases hlt : k < n
    · obtain ⟨b, off, rfl, _, hc⟩ := HB.out.at_ hlt
      have hr := HB.out.range k
      have HS := Lib.hid (upSum_step zs k (by have := HL.out; omega))
      have HT := Lib.hid (loSum_step zs k (by have := HL.out; omega))
      go_wp2
      go_round
      case rel => exact ⟨k + 1, by omega, by go_num, by rw [HS.out], by rw [HT.out]⟩
      case measure => simp [intOf]; omega
    · go_wp2
      go_ret
      exact ⟨ret_i64 (by rw [List.take_of_length_le (by have := HL.out; omega)]; rfl), rfl⟩
end Go.Proofs.YtdhnhgppapkikaaGreatDoor

-- CellS: The model's CellsOk, and where it finds a name.
namespace Go.Proofs.YtdhnhgppapkikaaGreatDoor
set_option maxRecDepth 20000
set_option linter.unusedVariables false
set_option linter.unusedSimpArgs false
open Go.RowKit

theorem index_cell (b off n c j : Nat) (h : j < n) (W : World) : (Instr.indexAt 24 (.slice (some ⟨b, off, none⟩) n c) (.int .i64 (j : Int))).run Tryz.prog W = .ok (.pointer (some ⟨b, off + j * 2, none⟩)) W := by
  go_simp
theorem index_cell_pred (b off n c k : Nat) (h0 : 0 < k) (h : k - 1 < n) (W : World) : (Instr.indexAt 24 (.slice (some ⟨b, off, none⟩) n c) (.int .i64 ((k : Int) - 1))).run Tryz.prog W = .ok (.pointer (some ⟨b, off + (k - 1) * 2, none⟩)) W := by
  obtain ⟨j, hj⟩ : ∃ j, k - 1 = j := ⟨_, rfl⟩
  have e : (k : Int) - 1 = (j : Int) := by omega
  rw [e, hj]
  exact index_cell b off n c j (by omega) W

theorem l4Find_any (A : Option Addr) (n c : Nat) (cs : List (Int × List Int)) (m : Int) (B : Nat) (w : World) (hn : n ≤ 1048576) (hb : Cells w B A n cs) :
    Calls Tryz.prog 122 #[.slice A n c, .int .i64 m] w fun e w' => e = .returned (.int .i64 (if findC cs m < n then (findC cs m : Int) else -1)) ∧ w = w' := by
  have HB := Lib.hid hb
  have hlen := hb.1
  clear hb
  obtain ⟨R, hR⟩ : ∃ R : Int, (if findC cs m < n then (findC cs m : Int) else -1) = R := ⟨_, rfl⟩
  rw [hR]
  have HR := Lib.hid hR
  clear hR
  go_enter Tryz.func122, Tryz.ntmps122
  go_wp2
  go_loop [5] (fun i => ∃ k : Nat, k ≤ n ∧ i = .int .i64 k ∧ ∀ j, j < k → (cel cs j).1 ≠ m) (fun i => n - (intOf i).toNat)
  case atStart => exact ⟨0, Nat.zero_le _, rfl, fun j hj => absurd hj (by omega)⟩
  case round =>
    obtain ⟨k, hk, rfl, hno⟩ := hrel
    by_cases hlt : k < n
    · obtain ⟨b, off, Ai, ni, ci, rfl, hbB, h0, h1, _, _, hy⟩ := HB.out.at_ hlt
      have hx : ∃ x, (cel cs k).1 = x := ⟨_, rfl⟩
      obtain ⟨x, hx⟩ := hx
      rw [hx] at h0
      clear h1
      by_cases he : x = m
      · subst he
        have hf := Lib.hid (findC_at cs x k (by omega) hx hno)
        have hr : (k : Int) = R := by rw [← HR.out, hf.out, if_pos hlt]
        subst hr
        go_wp2
        go_ret
        exact ⟨rfl, rfl⟩
      · have hb0 : (x == m) = false := by simpa using he
        go_wp2
        go_round
        case rel =>
          refine ⟨k + 1, by omega, by go_num, fun j hj => ?_⟩
          rcases Nat.lt_or_ge j k with h | h
          · exact hno j h
          · rw [show j = k by omega, hx]; exact he
        case measure => simp [intOf]; omega
    · have hr : -1 = R := by rw [← HR.out, findC_none cs m (fun j hj => hno j (by omega)), if_neg (by omega)]
      subst hr
      clear HR
      go_wp2
      go_ret
      exact ⟨rfl, rfl⟩

theorem specCellsOk_any (A : Option Addr) (n c : Nat) (cs : List (Int × List Int)) (B : Nat) (w : World) (hn : n ≤ 1048576) (hm : ∀ i, (cel cs i).2.length ≤ 1048576) (hB : B ≤ w.heap.size) (hb : Cells w B A n cs) :
    Calls Tryz.prog 56 #[.slice A n c] w fun e w' => ∃ b, e = .returned (.bool b) ∧ (b = true ↔ Right cs) ∧ Below w.heap.size w w' := by
  have HB := Lib.hid (hb.more hB)
  have hlen := hb.1
  clear hb
  go_enter Tryz.func56, Tryz.ntmps56
  go_wp2
  go_loopw [3] (fun i wr => ∃ k : Nat, k ≤ n ∧ i = .int .i64 k ∧ (∀ j, j < k → CellAt cs j) ∧ Below w.heap.size w wr) (fun i _ => n - (intOf i).toNat)
  case atStart => exact ⟨0, Nat.zero_le _, rfl, fun j hj => absurd hj (by omega), Below.refl _ _⟩
  case round =>
    obtain ⟨k, hk, rfl, hgood, hbel⟩ := hrel
    have HK := Lib.hid (HB.out.below hbel)
    by_cases hlt : k < n
    · obtain ⟨b, off, Ai, ni, ci, rfl, hbB, h0, h1, hc, hA, hy⟩ := HK.out.at_ hlt
      obtain ⟨x, hx⟩ : ∃ x, cel cs k = x := ⟨_, rfl⟩
      have hnm := hm k
      have hni := hy.1
      have hs0 := hbel.size
      rw [hx] at h0 hy hni hnm
      have Y := Lib.hid hy
      have BR := Lib.hid hbel
      clear hy hbel
      have hle : ni ≤ 1048576 := by omega
      go_wp2_with fail
      refine (specNodeFrom_any Ai ni ci x.2 w.heap.size _ hle hc hs0 Y.out).mono ?_
      rintro e w1 ⟨v, nd, r, rfl, own, rd, b1⟩
      have hr := Lib.hid (IsNode.of rd)
      have HK1 := Lib.hid (HK.out.below (b1.mono hs0))
      have B1 := Lib.hid (BR.out.trans (b1.mono hs0))
      obtain ⟨Ap, np, cp, Ak, nk, ck, rfl, _⟩ := own
      clear rd h0 h1 b1
      obtain ⟨w2, hw2⟩ : ∃ w2, w1.alloc (.cells #[.int .i64 0, .slice none 0 0, .slice none 0 0, .string { data := #[] }] 134) = w2 := ⟨_, rfl⟩
      have x2 : Box w2 w1.heap.size _ _ := hw2 ▸ heap_alloc_new _ _
      have b2 : Below w1.heap.size w1 w2 := hw2 ▸ (Below.refl _ _).alloc (Nat.le_refl _) _
      have X2 := Lib.hid x2
      obtain ⟨w3, hw3⟩ : ∃ w3, (((w2.setCell ⟨w1.heap.size, 0, none⟩ (.int .i64 nd.kind)).setCell ⟨w1.heap.size, 1, none⟩ (.slice Ap np cp)).setCell ⟨w1.heap.size, 2, none⟩ (.slice Ak nk ck)).setCell ⟨w1.heap.size, 3, none⟩ (.string nd.val) = w3 := ⟨_, rfl⟩
      have t3 : Touch (fun b => b = w1.heap.size) w2 w3 := hw3 ▸ (set4 x2 _ _ _ _).2
      have hs1 := B1.out.size
      have b3 : Below w1.heap.size w1 w3 := b2.trans (t3.below b2.size (fun b hb e => by omega))
      have HK3 := Lib.hid (HK1.out.below (b3.mono hs1))
      have B3 := Lib.hid (B1.out.trans (b3.mono hs1))
      have q20 := X2.out.cell 0
      have q21 := X2.out.cell 1
      have q22 := X2.out.cell 2
      have q23 := X2.out.cell 3
      have f2 := X2.out.free
      simp at q20 q21 q22 q23
      clear b2 b3 t3 x2
      obtain ⟨_, _, Aj, nj, cj, e1, _, h0, h1, _, _, hy3⟩ := HK3.out.at_ hlt
      cases e1
      rw [hx] at h0 hy3
      have hnj := hy3.1
      have Y3 := Lib.hid hy3
      have hle2 : nj ≤ 9223372036854775807 := by omega
      clear hy3
      cases r with
      | false =>
        go_wp2
        go_quiet (fail)
        go_wp2
        go_ret
        exact ⟨false, rfl, iff_of_false (by simp) (fun hR => by
          have := (hR.2 k (by omega)).1
          rw [hx] at this
          exact absurd (hr.out.2 this) (by simp)), below_drewN B3.out _⟩
      | true =>
        have hNM : ∀ q, Calls Tryz.prog 86 #[.slice Aj nj cj] (w3.drewN q) fun e w' => e = .returned (.int .i64 (nameOf x.2)) ∧ w' = w3.drewN q :=
          fun q => (specName_any Aj nj cj x.2 w.heap.size (w3.drewN q) hle2 (Y3.out.drewN q)).mono fun e w' h => ⟨h.1, h.2.symm⟩
        have NM := Lib.hid hNM
        clear hNM
        by_cases hN : nameOf x.2 = x.1
        · have hb1 : (nameOf x.2 != x.1) = false := by simp [hN]
          by_cases hk0 : 0 < k
          · obtain ⟨_, _, _, _, _, e1, _, p0, _⟩ := HK3.out.at_ (k := k - 1) (by omega)
            cases e1
            obtain ⟨y, hy⟩ : ∃ y, cel cs (k - 1) = y := ⟨_, rfl⟩
            rw [hy] at p0
            have hia := index_cell_pred b off n c k hk0 (by omega)
            have hwk : IntKind.i64.wrap ((k : Int) - 1) = (k : Int) - 1 := by rw [IntKind.wrap_i64]; omega
            have hd : decide ((0 : Int) < (k : Int)) = true := decide_eq_true (by omega)
            by_cases hR : x.1 ≤ y.1
            · have hdR : decide (x.1 ≤ y.1) = true := decide_eq_true hR
              go_wp2
              go_quiet (first | (go_at_call 86; exact Calls.quiet_of_same (NM.out _)))
              go_wp2
              go_ret
              exact ⟨false, rfl, iff_of_false (by simp) (fun hR' => by
                have := (hR'.2 k (by omega)).2.2 hk0
                rw [hx, hy] at this
                omega), below_drewN B3.out _⟩
            · have hdR : decide (x.1 ≤ y.1) = false := decide_eq_false hR
              go_wp2
              go_quiet (first | (go_at_call 86; exact Calls.quiet_of_same (NM.out _)))
              go_wp2
              go_roundw
              case rel =>
                refine ⟨k + 1, by omega, by go_num, fun j hj => ?_, below_drewN B3.out _⟩
                rcases Nat.lt_or_ge j k with h | h
                · exact hgood j h
                · rw [show j = k by omega]
                  exact ⟨by rw [hx]; exact hr.out.1 (by trivial), by rw [hx]; exact hN, fun _ => by rw [hx, hy]; omega⟩
              case measure => simp [intOf]; omega
          · obtain rfl : k = 0 := by omega
            rw [Nat.zero_mul, Nat.add_zero] at h0 h1
            go_wp2
            go_quiet (first | (go_at_call 86; exact Calls.quiet_of_same (NM.out _)))
            go_wp2
            go_roundw
            case rel =>
              refine ⟨1, by omega, by go_num, fun j hj => ?_, below_drewN B3.out _⟩
              rw [show j = 0 by omega]
              exact ⟨by rw [hx]; exact hr.out.1 (by trivial), by rw [hx]; exact hN, fun h => absurd h (by omega)⟩
            case measure => simp [intOf]; omega
        · have hb1 : (nameOf x.2 != x.1) = true := by simp [hN]
          go_wp2
          go_quiet (first | (go_at_call 86; exact Calls.quiet_of_same (NM.out _)))
          go_wp2
          go_ret
          exact ⟨false, rfl, iff_of_false (by simp) (fun hR => by
            have := (hR.2 k (by omega)).2.1
            rw [hx] at this
            exact hN this), below_drewN B3.out _⟩
    · obtain rfl : k = n := by omega
      go_wp2
      go_ret
      refine ⟨_, rfl, ?_, hbel⟩
      constructor
      · intro h
        exact ⟨by have := of_decide_eq_true h; omega, fun i hi => hgood i (by omega)⟩
      · intro h
        have := h.1
        exact decide_eq_true (by omega)
end Go.Proofs.YtdhnhgppapkikaaGreatDoor

-- CellN: The model's node under a name, and NodeAt.
namespace Go.Proofs.YtdhnhgppapkikaaGreatDoor
set_option maxRecDepth 20000
set_option linter.unusedVariables false
set_option linter.unusedSimpArgs false
open Go.RowKit

theorem l4Node_any (A : Option Addr) (n c : Nat) (cs : List (Int × List Int)) (m : Int) (B : Nat) (w : World) (hn : n ≤ 1048576) (hm : ∀ i, (cel cs i).2.length ≤ 1048576) (hB : B ≤ w.heap.size) (hb : Cells w B A n cs) :
    Calls Tryz.prog 87 #[.slice A n c, .int .i64 m] w fun e w' => ∃ v nd b, e = .returned (.tuple #[v, .bool b]) ∧ OwnN w' w.heap.size v nd ∧ HitIs cs m nd b ∧ Below w.heap.size w w' := by
  have HB := Lib.hid (hb.more hB)
  have hlen := hb.1
  clear hb
  obtain ⟨w1, hw1⟩ : ∃ w1, w.alloc (.cells #[.int .i64 0, .slice none 0 0, .slice none 0 0, .string { data := #[] }] 134) = w1 := ⟨_, rfl⟩
  have x1 : Box w1 w.heap.size _ _ := hw1 ▸ heap_alloc_new _ _
  have s1 : w1.heap.size = w.heap.size + 1 := hw1 ▸ by simp
  have b1 : Below w.heap.size w w1 := hw1 ▸ (Below.refl _ _).alloc (Nat.le_refl _) _
  have X1 := Lib.hid x1
  have B1 := Lib.hid b1
  have HW := Lib.hid hw1
  clear x1 b1 hw1
  go_enter Tryz.func87, Tryz.ntmps87
  go_wp2_with fail
  rw [HW.out]
  refine (l4Find_any A n c cs m _ w1 hn (HB.out.below B1.out)).mono ?_
  rintro e w' ⟨rfl, rfl⟩
  by_cases hf : findC cs m < n
  · rw [if_pos hf]
    have hd : decide (((findC cs m : Nat) : Int) < 0) = false := decide_eq_false (by omega)
    obtain ⟨k, hk⟩ : ∃ k, findC cs m = k := ⟨_, rfl⟩
    have HF := Lib.hid hk
    rw [hk] at hd hf ⊢
    clear hk
    obtain ⟨b, off, Ai, ni, ci, rfl, hbB, h0, h1, hc, hA, hy⟩ := (HB.out.below B1.out).at_ hf
    have hni := hy.1
    have hnm := hm k
    have Y := Lib.hid hy
    clear hy h0
    go_wp2_with fail
    refine (specNodeFrom_any Ai ni ci (cel cs k).2 w.heap.size w1 (by omega) hc (by omega) Y.out).mono ?_
    rintro e w2 ⟨v, nd, r, rfl, own, rd, b2⟩
    have X2 := Lib.hid (X1.out.below b2 (by omega))
    have B2 := Lib.hid (B1.out.trans (b2.mono (by omega)))
    have O2 := Lib.hid own
    have RD := Lib.hid rd
    obtain ⟨Ap, np, cp, Ak, nk, ck, rfl, _⟩ := own
    have q20 := X2.out.cell 0
    have q21 := X2.out.cell 1
    have q22 := X2.out.cell 2
    have q23 := X2.out.cell 3
    have f2 := X2.out.free
    simp at q20 q21 q22 q23
    have s4 := set4 X2.out (.int .i64 nd.kind) (.slice Ap np cp) (.slice Ak nk ck) (.string nd.val)
    have S4 := Lib.hid s4
    clear rd h1 b2 s4
    go_wp2
    refine bodyPost_ret (v := .tuple #[.agg #[.int .i64 nd.kind, .slice Ap np cp, .slice Ak nk ck, .string nd.val], .bool r]) (results_box2 Tryz.results87 _ _ w.heap.size _ _ _ _ rfl rfl S4.out.1 Tryz.underlying134 rfl (by kernel_rfl)) rfl ?_
    have hs2 := B2.out.size
    refine ⟨_, nd, r, rfl, (O2.out.touch S4.out.2 (fun g hg e => ?_)).base (by omega), .inl ⟨by rw [HF.out]; omega, by rw [HF.out]; exact RD.out⟩, B2.out.trans (S4.out.2.below hs2 (fun k hk e => by omega))⟩
    have := (O2.out.blk hg).1
    omega
  · rw [if_neg hf]
    have q20 := X1.out.cell 0
    have q21 := X1.out.cell 1
    have q22 := X1.out.cell 2
    have q23 := X1.out.cell 3
    have f2 := X1.out.free
    simp at q20 q21 q22 q23
    have s4 := set4 X1.out (.int .i64 0) (.slice none 0 0) (.slice none 0 0) (.string { data := #[] })
    have S4 := Lib.hid s4
    clear s4
    go_wp2
    refine bodyPost_ret (v := .tuple #[node0V, .bool false]) (results_box2 Tryz.results87 _ _ w.heap.size _ _ _ _ rfl rfl S4.out.1 Tryz.underlying134 rfl (by kernel_rfl)) rfl ?_
    exact ⟨_, node0, false, rfl, node0_own _ _, .inr ⟨by omega, rfl, rfl⟩, B1.out.trans (S4.out.2.below (by omega) (fun k hk e => by omega))⟩

end Go.Proofs.YtdhnhgppapkikaaGreatDoor

-- ReachS: The model's ReachOf.
namespace Go.Proofs.YtdhnhgppapkikaaGreatDoor
set_option maxRecDepth 20000
set_option linter.unusedVariables false
set_option linter.unusedSimpArgs false
open Go.RowKit

theorem l4In_any (A : Option Addr) (n c : Nat) (xs : List Int) (m : Int) (B : Nat) (w : World) (hn : n ≤ 1048576) (hb : Ints w B A n xs) :
    Calls Tryz.prog 61 #[.slice A n c, .int .i64 m] w fun e w' => e = .returned (.bool (decide (m ∈ xs))) ∧ w = w' := by
  have HB := Lib.hid hb
  have hlen := hb.1
  clear hb
  obtain ⟨R, hR⟩ : ∃ R : Bool, decide (m ∈ xs) = R := ⟨_, rfl⟩
  rw [hR]
  have HR := Lib.hid hR
  clear hR
  go_enter Tryz.func61, Tryz.ntmps61
  go_wp2
  go_loop [5] (fun i => ∃ k : Nat, k ≤ n ∧ i = .int .i64 k ∧ ∀ j, j < k → xs[j]?.getD 0 ≠ m) (fun i => n - (intOf i).toNat)
  case atStart => exact ⟨0, Nat.zero_le _, rfl, fun j hj => absurd hj (by omega)⟩
  case round =>
    obtain ⟨k, hk, rfl, hno⟩ := hrel
    by_cases hlt : k < n
    · obtain ⟨b, off, rfl, hbB, h0⟩ := HB.out.at_ hlt
      have hx : ∃ x, xs[k]?.getD 0 = x := ⟨_, rfl⟩
      obtain ⟨x, hx⟩ := hx
      rw [hx] at h0
      by_cases he : x = m
      · subst he
        have hr : true = R := by
          rw [← HR.out]
          refine (decide_eq_true ?_).symm
          rw [List.getElem?_eq_getElem (by omega)] at hx
          simp at hx
          rw [← hx]
          exact List.getElem_mem _
        subst hr
        clear HR
        go_wp2
        go_ret
        exact ⟨rfl, rfl⟩
      · have hb0 : (x == m) = false := by simpa using he
        go_wp2
        go_round
        case rel =>
          refine ⟨k + 1, by omega, by go_num, fun j hj => ?_⟩
          rcases Nat.lt_or_ge j k with h | h
          · exact hno j h
          · rw [show j = k by omega, hx]; exact he
        case measure => simp [intOf]; omega
    · have hr : false = R := by
        rw [← HR.out]
        refine (decide_eq_false fun h => ?_).symm
        obtain ⟨i, hi, e⟩ := List.mem_iff_getElem.1 h
        have := hno i (by omega)
        rw [List.getElem?_eq_getElem hi, e] at this
        exact this rfl
      subst hr
      clear HR
      go_wp2
      go_ret
      exact ⟨rfl, rfl⟩
theorem Ints.row {w : World} {B n : Nat} {A : Option Addr} {zs : List Int} (h : Ints w B A n zs) (hn : 0 < n) :
    ∃ b off, A = some ⟨b, off, none⟩ ∧ b < B ∧ ∀ j u, (zs.map (Value.int .i64))[j]? = some u → w.cell? ((⟨b, off, none⟩ : Addr).add j) = some u := by
  obtain ⟨b, off, rfl, hb, hc⟩ := h.2 hn
  refine ⟨b, off, rfl, hb, fun j u hj => ?_⟩
  have hadd : (⟨b, off, none⟩ : Addr).add j = ⟨b, off + j, none⟩ := by unfold Addr.add; split <;> simp_all
  have hjl : j < zs.length := by
    rcases Nat.lt_or_ge j zs.length with h | h
    · exact h
    · rw [List.getElem?_eq_none (by simpa using h)] at hj; cases hj
  have hl := h.1
  rw [hadd, hc j (by omega)]
  rw [List.getElem?_map, List.getElem?_eq_getElem hjl] at hj
  simp only [Option.map_some, Option.some.injEq] at hj
  rw [← hj]
  simp [List.getElem?_eq_getElem hjl]
theorem Ints.takes {w : World} {B n : Nat} {A : Option Addr} {zs : List Int} (h : Ints w B A n zs) (k : Nat) (hk : k ≤ n) : Ints w B A k (zs.take k) := by
  have hl := h.1
  refine ⟨by simp; omega, fun hp => ?_⟩
  obtain ⟨b, off, e, hb, hc⟩ := h.2 (by omega)
  refine ⟨b, off, e, hb, fun i hi => ?_⟩
  have h1 := hc i (by omega)
  rw [h1]
  simp [hi]
theorem l1Copy_any (A : Option Addr) (n c : Nat) (xs : List Int) (B : Nat) (w : World) (hn : n ≤ 1048576) (hB : B ≤ w.heap.size) (hA : A = none → c = 0) (hb : Ints w B A n xs) :
    Calls Tryz.prog 77 #[.slice A n c] w fun e w' => ∃ g c', e = .returned (.slice (some ⟨g, 0, none⟩) n c') ∧ OwnI w' w.heap.size (some ⟨g, 0, none⟩) n c' xs ∧ Below w.heap.size w w' := by
  have hlen := hb.1
  obtain ⟨i0, hi, hz0, hz1, hz2⟩ := info_parts Tryz.infoI
  have HI := Lib.hid hi
  have HZ0 := Lib.hid hz0
  have HZ1 := Lib.hid hz1
  have HZ2 := Lib.hid hz2
  have E0 := Lib.hid (OwnI.empty w w.heap.size (Nat.le_refl _))
  have B0 := Lib.hid ((Below.refl w.heap.size w).alloc (Nat.le_refl _) (.cells #[] 2))
  clear hi hz0 hz1 hz2
  cases A with
  | none =>
    obtain rfl : c = 0 := hA rfl
    obtain rfl : n = 0 := by
      rcases Nat.eq_zero_or_pos n with h | h
      · exact h
      · obtain ⟨b, off, e, _⟩ := hb.2 h; cases e
    obtain rfl : xs = [] := List.eq_nil_of_length_eq_zero hlen
    go_enter Tryz.func77, Tryz.ntmps77
    go_wp2
    go_ret
    exact ⟨_, _, rfl, E0.out, B0.out⟩
  | some a =>
    have hrow : ∀ j u, (xs.map (Value.int .i64))[j]? = some u → (w.alloc (.cells #[] 2)).cell? (a.add j) = some u := by
      intro j u hj
      have h0 : 0 < n := by
        rcases Nat.eq_zero_or_pos n with h | h
        · rw [List.getElem?_eq_none (by simp; omega)] at hj; cases hj
        · exact h
      obtain ⟨b, off, e, hbB, hrow⟩ := (hb.alloc hB (.cells #[] 2)).row h0
      cases e
      exact hrow j u hj
    have HROW := Lib.hid hrow
    clear hrow hb hA
    go_enter Tryz.func77, Tryz.ntmps77
    go_wp2_with (at_builtin; refine wpList_append_own _ rfl _ _ 25 rfl w.heap.size 2 i0 (.int .i64 0) 1 8 Tryz.underlying25 HI.out HZ0.out HZ1.out HZ2.out rfl (by decide) _ _ _ rfl E0.out a n _ (xs.map (Value.int .i64)) rfl ?c0 ?c1 ?c2 ?c3 ?c4 ?c5 ?_)
    case c0 => rw [List.length_map, Nat.mul_one]; exact hlen
    case c1 => exact HROW.out
    case c2 => intro u hu; obtain ⟨z, _, rfl⟩ := List.mem_map.1 hu; rfl
    case c3 => unfold maxLen; omega
    case c4 => omega
    case c5 => simp
    intro v1 w1 hown1 hgrow1 hnil1
    obtain ⟨g1, c1, rfl⟩ : ∃ g c, v1 = .slice (some ⟨g, 0, none⟩) n c := by
      rcases hown1.2 with ⟨e, _⟩ | ⟨g, cap, cur, e, _⟩
      · exact absurd e hnil1
      · exact ⟨g, cap, e⟩
    have hb1 : Below w.heap.size w w1 := B0.out.grown hgrow1 (by simp) (fun g hg => (World.ownsRow.lt E0.out g hg).1)
    have O1 := Lib.hid hown1
    have B1 := Lib.hid hb1
    clear hown1 hb1 hgrow1 hnil1
    go_wp2
    go_ret
    exact ⟨_, _, rfl, by simpa [OwnI] using O1.out, B1.out⟩

theorem l4Into_any (g n c : Nat) (xs : List Int) (m : Int) (B : Nat) (w : World) (hn : n ≤ 1048000) (hc : n ≤ c) (hB : B ≤ w.heap.size) (hb : Ints w B (some ⟨g, 0, none⟩) n xs) (hR : RiseI xs) :
    Calls Tryz.prog 78 #[.slice (some ⟨g, 0, none⟩) n c, .int .i64 m] w fun e w' => Below w.heap.size w w' ∧
      ((m ∈ xs ∧ e = .returned (.slice (some ⟨g, 0, none⟩) n c)) ∨ (m ∉ xs ∧ ∃ g' c', e = .returned (.slice (some ⟨g', 0, none⟩) (n + 1) c') ∧ OwnI w' w.heap.size (some ⟨g', 0, none⟩) (n + 1) c' (insI xs m))) := by
  have hlen := hb.1
  have HB := Lib.hid (hb.more hB)
  have HR := Lib.hid hR
  clear hb hR
  obtain ⟨i0, hi, hz0, hz1, hz2⟩ := info_parts Tryz.infoI
  have HI := Lib.hid hi
  have HZ0 := Lib.hid hz0
  have HZ1 := Lib.hid hz1
  have HZ2 := Lib.hid hz2
  clear hi hz0 hz1 hz2
  go_enter Tryz.func78, Tryz.ntmps78
  go_wp2_with fail
  refine (l4In_any _ n c xs m _ w (by omega) HB.out).mono ?_
  rintro e w' ⟨rfl, rfl⟩
  by_cases hin : m ∈ xs
  · rw [decide_eq_true hin]
    have HIN := Lib.hid hin
    clear hin
    go_wp2
    go_ret
    exact ⟨Below.refl _ _, .inl ⟨HIN.out, rfl⟩⟩
  · rw [decide_eq_false hin]
    have HIN := Lib.hid hin
    clear hin
    go_wp2
    go_loopw [5] (fun i wr => ∃ k : Nat, k ≤ n ∧ i = .int .i64 k ∧ (∀ j, k ≤ j → j < n → m < xs[j]?.getD 0) ∧ Below w.heap.size w wr) (fun i _ => (intOf i).toNat)
    case atStart => exact ⟨n, Nat.le_refl _, rfl, fun j h1 h2 => by omega, Below.refl _ _⟩
    case round =>
      obtain ⟨k, hk, rfl, hgt, hbr⟩ := hrel
      have BR := Lib.hid hbr
      have GT := Lib.hid hgt
      have HK := Lib.hid (HB.out.below hbr)
      have hsr : w.heap.size ≤ wr.heap.size := hbr.size
      clear hbr hgt
      by_cases hrun : 0 < k ∧ m < xs[k - 1]?.getD 0
      · obtain ⟨hk0, hlt⟩ := hrun
        have hwk : IntKind.i64.wrap ((k : Int) - 1) = (k : Int) - 1 := by rw [IntKind.wrap_i64]; omega
        have hd : decide ((0 : Int) < (k : Int)) = true := decide_eq_true (by omega)
        obtain ⟨b, off, e, hbB, p0⟩ := HK.out.at_ (k := k - 1) (by omega)
        cases e
        obtain ⟨y, hy⟩ : ∃ y, xs[k - 1]?.getD 0 = y := ⟨_, rfl⟩
        rw [hy] at p0 hlt
        rw [Nat.zero_add] at p0
        have hdR : decide (m < y) = true := decide_eq_true hlt
        go_wp2
        go_roundw
        case rel =>
          refine ⟨k - 1, by omega, by go_num, fun j h1 h2 => ?_, BR.out⟩
          rcases Nat.lt_or_ge j k with h | h
          · rw [show j = k - 1 by omega, hy]; exact hlt
          · exact GT.out j h h2
        case measure => simp [intOf]; omega
      · have hpl := placeI_at xs m k (by omega) (fun j hj => by
          rcases Nat.lt_or_ge j (k - 1) with h | h
          · have := riseI_at xs HR.out j (k - 1) h (by omega); omega
          · rw [show j = k - 1 by omega]; omega) (fun h => GT.out k (Nat.le_refl _) (by omega))
        have PL := Lib.hid hpl
        have NR := Lib.hid hrun
        clear hpl hrun
        by_cases hk0 : 0 < k
        · have hwk : IntKind.i64.wrap ((k : Int) - 1) = (k : Int) - 1 := by rw [IntKind.wrap_i64]; omega
          have hd : decide ((0 : Int) < (k : Int)) = true := decide_eq_true (by omega)
          obtain ⟨b, off, e, hbB, p0⟩ := HK.out.at_ (k := k - 1) (by omega)
          cases e
          obtain ⟨y, hy⟩ : ∃ y, xs[k - 1]?.getD 0 = y := ⟨_, rfl⟩
          have hlt := NR.out
          rw [hy] at p0 hlt
          rw [Nat.zero_add] at p0
          have hdR : decide (m < y) = false := decide_eq_false (by omega)
          clear hlt
          have B2 := Lib.hid BR.out
          have K2 := Lib.hid HK.out
          have hs2 : w.heap.size ≤ wr.heap.size := B2.out.size
          obtain ⟨w2, rfl⟩ : ∃ w2, w2 = wr := ⟨_, rfl⟩
          go_wp2_with fail
          refine (l1Copy_any (some ⟨g, 0, none⟩) k c (xs.take k) w.heap.size w2 (by omega) hs2 (fun h => by cases h) (Ints.takes K2.out k hk)).mono ?_
          rintro e w3 ⟨g3, c3, rfl, o3, b3⟩
          have B3 := Lib.hid b3
          have O3 := Lib.hid o3
          have hs3 : w2.heap.size ≤ w3.heap.size := b3.size
          clear o3 b3
          go_wp2_with (at_builtin; refine wpList_append_lies _ rfl _ _ 25 rfl w2.heap.size 2 i0 (.int .i64 0) 1 8 Tryz.underlying25 HI.out HZ0.out HZ1.out HZ2.out rfl (by decide) _ _ _ rfl (own_touch (S := fun _ => False) O3.out (Touch.of_below ((Below.refl _ _).alloc (Nat.le_refl _) _)) (fun _ _ h => h)) ⟨w3.heap.size, 0, none⟩ 1 1 [.int .i64 m] rfl ?bq0 ?bq1 ?bq2 (by omega) ?bq3 ?bq4 ?bq5 _ rfl ?_)
          case bq0 => rfl
          case bq1 =>
            intro j u hj
            match j, hj with
            | 0, hj => simp at hj; subst hj; simp [Addr.add]
          case bq2 => intro u hu; simp at hu; subst hu; rfl
          case bq3 => unfold maxLen; omega
          case bq4 => omega
          case bq5 => simp; omega
          intro g4 c4 w4 hown4 hgrow4 _ _
          have b4 : Below w2.heap.size w2 w4 := (B3.out.trans (((Below.refl w3.heap.size w3).alloc (Nat.le_refl _) _).mono hs3)).grown hgrow4 (by simp; omega) (fun b hb => (World.ownsRow.lt O3.out b hb).1)
          have hs4 : w2.heap.size ≤ w4.heap.size := b4.size
          have OW4 := Lib.hid hown4
          have B4 := Lib.hid b4
          have K4 := Lib.hid (K2.out.below (b4.mono hs2))
          clear hown4 hgrow4 b4
          obtain ⟨off, hoff, hofk⟩ : ∃ off, (if c = k then (some ⟨g, 0, none⟩ : Option Addr) else some ⟨g, k, none⟩) = some ⟨g, off, none⟩ ∧ (k < n → off = k) := by
            by_cases h : c = k
            · exact ⟨0, if_pos h, fun h2 => by omega⟩
            · exact ⟨k, if_neg h, fun _ => rfl⟩
          go_wp2_with (at_builtin; refine wpList_append_own _ rfl _ _ 25 rfl w2.heap.size 2 i0 (.int .i64 0) 1 8 Tryz.underlying25 HI.out HZ0.out HZ1.out HZ2.out rfl (by decide) _ _ _ rfl OW4.out ⟨g, off, none⟩ (n - k) _ ((xs.drop k).map (Value.int .i64)) rfl ?br0 ?br1 ?br2 ?br3 ?br4 ?br5 ?_)
          case br0 => rw [List.length_map, List.length_drop]; omega
          case br1 =>
            intro j u hj
            have hadd : (⟨g, off, none⟩ : Addr).add j = ⟨g, off + j, none⟩ := by unfold Addr.add; split <;> simp_all
            have hjl : j < n - k := by
              rcases Nat.lt_or_ge j (n - k) with h | h
              · exact h
              · rw [List.getElem?_eq_none (by rw [List.length_map, List.length_drop]; omega)] at hj; cases hj
            obtain ⟨b, o, e, hbB, p0⟩ := K4.out.at_ (k := k + j) (by omega)
            cases e
            rw [hadd, hofk (by omega)]
            rw [Nat.zero_add] at p0
            rw [p0, ← hj, List.getElem?_map, List.getElem?_drop, List.getElem?_eq_getElem (by omega)]
            rfl
          case br2 => intro u hu; obtain ⟨z, _, rfl⟩ := List.mem_map.1 hu; rfl
          case br3 => unfold maxLen; omega
          case br4 => omega
          case br5 => omega
          intro v5 w5 hown5 hgrow5 hnil5
          obtain ⟨g5, c5, rfl⟩ : ∃ g5 c5, v5 = .slice (some ⟨g5, 0, none⟩) (k + 1 + (n - k)) c5 := by
            rcases hown5.2 with ⟨e, _⟩ | ⟨g, cap, cur, e, _⟩
            · exact absurd e hnil5
            · exact ⟨g, cap, e⟩
          have b5 : Below w2.heap.size w2 w5 := B4.out.grown hgrow5 (by omega) (fun b hb => (OW4.out.lt b hb).1)
          have B5 := Lib.hid b5
          have OW5 := Lib.hid hown5
          clear hown5 hgrow5 hnil5 b5
          rw [show k + 1 + (n - k) = n + 1 by omega] at OW5 ⊢
          go_wp2
          go_ret
          refine ⟨B2.out.trans (B5.out.mono hs2), .inr ⟨HIN.out, g5, c5, rfl, OwnI.base ?_ hs2⟩⟩
          unfold OwnI insI
          rw [PL.out]
          simpa using OW5.out
        · have hd : decide ((0 : Int) < (k : Int)) = false := decide_eq_false (by omega)
          have B2 := Lib.hid BR.out
          have K2 := Lib.hid HK.out
          have hs2 : w.heap.size ≤ wr.heap.size := B2.out.size
          obtain ⟨w2, rfl⟩ : ∃ w2, w2 = wr := ⟨_, rfl⟩
          go_wp2_with fail
          refine (l1Copy_any (some ⟨g, 0, none⟩) k c (xs.take k) w.heap.size w2 (by omega) hs2 (fun h => by cases h) (Ints.takes K2.out k hk)).mono ?_
          rintro e w3 ⟨g3, c3, rfl, o3, b3⟩
          have B3 := Lib.hid b3
          have O3 := Lib.hid o3
          have hs3 : w2.heap.size ≤ w3.heap.size := b3.size
          clear o3 b3
          go_wp2_with (at_builtin; refine wpList_append_lies _ rfl _ _ 25 rfl w2.heap.size 2 i0 (.int .i64 0) 1 8 Tryz.underlying25 HI.out HZ0.out HZ1.out HZ2.out rfl (by decide) _ _ _ rfl (own_touch (S := fun _ => False) O3.out (Touch.of_below ((Below.refl _ _).alloc (Nat.le_refl _) _)) (fun _ _ h => h)) ⟨w3.heap.size, 0, none⟩ 1 1 [.int .i64 m] rfl ?cq0 ?cq1 ?cq2 (by omega) ?cq3 ?cq4 ?cq5 _ rfl ?_)
          case cq0 => rfl
          case cq1 =>
            intro j u hj
            match j, hj with
            | 0, hj => simp at hj; subst hj; simp [Addr.add]
          case cq2 => intro u hu; simp at hu; subst hu; rfl
          case cq3 => unfold maxLen; omega
          case cq4 => omega
          case cq5 => simp; omega
          intro g4 c4 w4 hown4 hgrow4 _ _
          have b4 : Below w2.heap.size w2 w4 := (B3.out.trans (((Below.refl w3.heap.size w3).alloc (Nat.le_refl _) _).mono hs3)).grown hgrow4 (by simp; omega) (fun b hb => (World.ownsRow.lt O3.out b hb).1)
          have hs4 : w2.heap.size ≤ w4.heap.size := b4.size
          have OW4 := Lib.hid hown4
          have B4 := Lib.hid b4
          have K4 := Lib.hid (K2.out.below (b4.mono hs2))
          clear hown4 hgrow4 b4
          obtain ⟨off, hoff, hofk⟩ : ∃ off, (if c = k then (some ⟨g, 0, none⟩ : Option Addr) else some ⟨g, k, none⟩) = some ⟨g, off, none⟩ ∧ (k < n → off = k) := by
            by_cases h : c = k
            · exact ⟨0, if_pos h, fun h2 => by omega⟩
            · exact ⟨k, if_neg h, fun _ => rfl⟩
          go_wp2_with (at_builtin; refine wpList_append_own _ rfl _ _ 25 rfl w2.heap.size 2 i0 (.int .i64 0) 1 8 Tryz.underlying25 HI.out HZ0.out HZ1.out HZ2.out rfl (by decide) _ _ _ rfl OW4.out ⟨g, off, none⟩ (n - k) _ ((xs.drop k).map (Value.int .i64)) rfl ?cr0 ?cr1 ?cr2 ?cr3 ?cr4 ?cr5 ?_)
          case cr0 => rw [List.length_map, List.length_drop]; omega
          case cr1 =>
            intro j u hj
            have hadd : (⟨g, off, none⟩ : Addr).add j = ⟨g, off + j, none⟩ := by unfold Addr.add; split <;> simp_all
            have hjl : j < n - k := by
              rcases Nat.lt_or_ge j (n - k) with h | h
              · exact h
              · rw [List.getElem?_eq_none (by rw [List.length_map, List.length_drop]; omega)] at hj; cases hj
            obtain ⟨b, o, e, hbB, p0⟩ := K4.out.at_ (k := k + j) (by omega)
            cases e
            rw [hadd, hofk (by omega)]
            rw [Nat.zero_add] at p0
            rw [p0, ← hj, List.getElem?_map, List.getElem?_drop, List.getElem?_eq_getElem (by omega)]
            rfl
          case cr2 => intro u hu; obtain ⟨z, _, rfl⟩ := List.mem_map.1 hu; rfl
          case cr3 => unfold maxLen; omega
          case cr4 => omega
          case cr5 => omega
          intro v5 w5 hown5 hgrow5 hnil5
          obtain ⟨g5, c5, rfl⟩ : ∃ g5 c5, v5 = .slice (some ⟨g5, 0, none⟩) (k + 1 + (n - k)) c5 := by
            rcases hown5.2 with ⟨e, _⟩ | ⟨g, cap, cur, e, _⟩
            · exact absurd e hnil5
            · exact ⟨g, cap, e⟩
          have b5 : Below w2.heap.size w2 w5 := B4.out.grown hgrow5 (by omega) (fun b hb => (OW4.out.lt b hb).1)
          have B5 := Lib.hid b5
          have OW5 := Lib.hid hown5
          clear hown5 hgrow5 hnil5 b5
          rw [show k + 1 + (n - k) = n + 1 by omega] at OW5 ⊢
          go_wp2
          go_ret
          refine ⟨B2.out.trans (B5.out.mono hs2), .inr ⟨HIN.out, g5, c5, rfl, OwnI.base ?_ hs2⟩⟩
          unfold OwnI insI
          rw [PL.out]
          simpa using OW5.out
end Go.Proofs.YtdhnhgppapkikaaGreatDoor
