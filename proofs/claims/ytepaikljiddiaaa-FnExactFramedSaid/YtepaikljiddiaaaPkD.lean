/- Several texts in one, in build order: BssX, ReachM, FindM, ReachS, ReachL, PathS, FindS, FindO, NewRow, ProofS, ProofB, FrameL, Cur, Draw1, DrawF, Like, Big, Dice. -/
import Derived.Test.YtepaikljiddiaaaPkC
import Derived.StillTailTactics
import Derived.WalkLawsBesides
import Derived.WalkSpells
import Derived.Deep.RegionLaw
import Derived.Laws.BitsAllLaws
import Derived.Laws.BitsLemmas
import Derived.Laws.Rows
import Derived.Maps.AppendAt
import Derived.BigRegion
import Derived.RegionTactic
import Derived.ChangeAlike
-- BssX: What the helpers of the exact laws do at slices of slices of bytes: compared, marked, held against the marks.
namespace Go.Proofs.Ytepaikljiddiaaa
set_option maxRecDepth 20000
set_option linter.unusedVariables false
set_option linter.unusedSimpArgs false
open Go.RowKit

/-- how many bytes there are in all. -/
def szB : List (List Int) → Nat
  | [] => 0
  | x :: r => x.length + szB r
theorem szB_append (a b : List (List Int)) : szB (a ++ b) = szB a + szB b := by
  induction a with
  | nil => simp [szB]
  | cons x r ih => simp [szB, ih]; omega
theorem szB_take (bs : List (List Int)) (k : Nat) (h : k < bs.length) : szB (bs.take (k + 1)) = szB (bs.take k) + (be bs k).length := by
  rw [be_take bs k h, szB_append]; simp [szB]
theorem szB_take_le (bs : List (List Int)) (k : Nat) : szB (bs.take k) ≤ szB bs := by
  conv => rhs; rw [← List.take_append_drop k bs, szB_append]
  omega
/-- the rows as the marks from k0 on leave them. -/
def markB (k0 : Int) : List (List Int) → List (List Int)
  | [] => []
  | x :: r => marks k0 x.length :: markB (k0 + x.length) r
theorem markB_append (k0 : Int) (a b : List (List Int)) : markB k0 (a ++ b) = markB k0 a ++ markB (k0 + szB a) b := by
  induction a generalizing k0 with
  | nil => simp [markB, szB]
  | cons x r ih =>
    have e : k0 + (x.length : Int) + (szB r : Int) = k0 + ((x.length + szB r : Nat) : Int) := by push_cast; omega
    simp only [List.cons_append, markB, ih, szB, e]
theorem markB_len (k0 : Int) (bs : List (List Int)) : (markB k0 bs).length = bs.length := by
  induction bs generalizing k0 with
  | nil => rfl
  | cons x r ih => simp [markB, ih]
theorem markB_be (k0 : Int) (bs : List (List Int)) (k : Nat) (h : k < bs.length) : be (markB k0 bs) k = marks (k0 + szB (bs.take k)) (be bs k).length := by
  have e : bs = bs.take k ++ be bs k :: bs.drop (k + 1) := by
    conv => lhs; rw [← List.take_append_drop k bs, List.drop_eq_getElem_cons h]
    unfold be; rw [List.getElem?_eq_getElem h]; rfl
  have hl : (markB k0 (bs.take k)).length = k := by rw [markB_len]; simp; omega
  conv => lhs; unfold be; rw [e, markB_append]
  rw [List.getElem?_append_right (by omega), hl]
  simp [markB]
/-- the rows, marked as far as the k-th. -/
def markBTo (k0 : Int) (bs : List (List Int)) (k : Nat) : List (List Int) := markB k0 (bs.take k) ++ bs.drop k
theorem markBTo_len (k0 : Int) (bs : List (List Int)) (k : Nat) : (markBTo k0 bs k).length = bs.length := by
  unfold markBTo; rw [List.length_append, markB_len]; simp; omega
theorem markBTo_be (k0 : Int) (bs : List (List Int)) (k : Nat) (h : k < bs.length) : be (markBTo k0 bs k) k = be bs k := by
  unfold markBTo be
  have hl : (markB k0 (bs.take k)).length = k := by rw [markB_len]; simp; omega
  rw [List.getElem?_append_right (by omega), hl]
  simp
theorem markBTo_step (k0 : Int) (bs : List (List Int)) (k : Nat) (h : k < bs.length) : (markBTo k0 bs k).set k (marks (k0 + szB (bs.take k)) (be bs k).length) = markBTo k0 bs (k + 1) := by
  unfold markBTo
  have hl : (markB k0 (bs.take k)).length = k := by rw [markB_len]; simp; omega
  have hc : bs[k] = be bs k := by unfold be; rw [List.getElem?_eq_getElem h]; rfl
  rw [be_take bs k h, markB_append, List.set_append, if_neg (by omega), hl, List.drop_eq_getElem_cons h, Nat.sub_self, List.set_cons_zero, List.append_assoc]
  rfl
theorem markBTo_all (k0 : Int) (bs : List (List Int)) : markBTo k0 bs bs.length = markB k0 bs := by
  unfold markBTo; simp

theorem likeBs_yes (A A' : Option Addr) (n c c' : Nat) (bs : List (List Int)) (B B' : Nat) (w : World) (hn : n ≤ 1048576) (hm : ∀ i, (be bs i).length ≤ 1048576) (hB : B ≤ w.heap.size) (hB' : B' ≤ w.heap.size) (hb : Bss w B A n bs) (hb' : Bss w B' A' n bs) :
    Calls Try.prog 32 #[.slice A n c, .slice A' n c'] w fun e w' => e = .returned (.bool true) ∧ Below w.heap.size w w' := by
  have HB := Lib.hid (hb.more hB)
  have HB' := Lib.hid (hb'.more hB')
  clear hb hb'
  go_enter Try.func32, Try.ntmps32
  go_wp2
  go_loopw [5] (fun i wr => ∃ k : Nat, k ≤ n ∧ i = .int .i64 k ∧ Below w.heap.size w wr) (fun i _ => n - (intOf i).toNat)
  case atStart => exact ⟨0, Nat.zero_le _, rfl, Below.refl _ _⟩
  case round =>
    obtain ⟨k, hk, rfl, hbel⟩ := hrel
    by_cases hlt : k < n
    · obtain ⟨b, off, Ai, ni, ci, rfl, hbB, h1, _, _, hy⟩ := (HB.out.below hbel).at_ hlt
      obtain ⟨b', off', Ai', ni', ci', rfl, hbB', h1', _, _, hy'⟩ := (HB'.out.below hbel).at_ hlt
      have hnm := hm k
      have e1 : ni' = ni := hy'.1.symm.trans hy.1
      obtain rfl := e1
      have hl := hy.1
      generalize be bs k = x at hy hy' hnm hl
      have Y := Lib.hid hy
      have Y' := Lib.hid hy'
      have BR := Lib.hid hbel
      clear hbel hy hy'
      go_wp2
      go_still_tail 8, (by kernel_rfl)
      change wpList _ _ _ _ _ wr.drew
      have BD := Lib.hid BR.out.drew
      have hsz := BR.out.size
      have Y := Lib.hid (Y.out.drewN 1)
      have Y' := Lib.hid (Y'.out.drewN 1)
      have e2 : wr.drewN 1 = wr.drew := rfl
      rw [e2] at Y Y'
      have hsz2 : wr.drew.heap.size = wr.heap.size := rfl
      generalize wr.drew = w2 at BD Y Y' hsz2
      clear h1 h1' e2
      go_wp2_with fail
      refine (like_yes _ _ _ _ _ x _ _ w2 (by omega) Y.out Y'.out).mono ?_
      rintro e w3 ⟨rfl, q, hq⟩
      have b3 : Below w2.heap.size w2 w3 := by rw [hq]; exact below_drewN (Below.refl _ _) q
      have B3 := Lib.hid (BD.out.trans (b3.mono BD.out.size))
      clear b3 hq
      go_wp2
      go_roundw
      case rel => exact ⟨k + 1, by omega, by go_num, B3.out⟩
      case measure => simp [intOf]; omega
    · go_wp2
      go_ret
      exact ⟨rfl, hbel⟩

theorem markBs_any (A : Option Addr) (n c lo hi : Nat) (bs : List (List Int)) (k0 : Int) (w : World) (h0 : 0 ≤ k0) (h1 : k0 + szB bs ≤ 4611686018427387904) (hn : n ≤ 1048576) (hm : OwnBs w lo hi A n c bs) :
    Calls Try.prog 33 #[.slice A n c, .int .i64 k0] w fun e w' => e = .returned (.int .i64 (k0 + szB bs)) ∧ OwnBs w' lo hi A n c (markB k0 bs) ∧ Touch (fun b => lo ≤ b ∧ b < hi) w w' := by
  have hx := hm.len
  have HM := Lib.hid hm
  clear hm
  go_enter Try.func33, Try.ntmps33
  go_wp2
  go_loopw [1, 5] (fun q i wr => ∃ k : Nat, k ≤ n ∧ i = .int .i64 k ∧ q = .int .i64 (k0 + szB (bs.take k)) ∧ OwnBs wr lo hi A n c (markBTo k0 bs k) ∧ Touch (fun b => lo ≤ b ∧ b < hi) w wr) (fun _ i _ => n - (intOf i).toNat)
  case atStart => exact ⟨0, Nat.zero_le _, rfl, by simp [szB], by simpa [markBTo, markB] using HM.out, Touch.of_below (Below.refl _ _)⟩
  case round =>
    obtain ⟨k, hk, rfl, rfl, hmr, htr⟩ := hrel
    by_cases hlt : k < n
    · obtain ⟨g, rfl, hbg, hgh, hlt'⟩ := hmr.form (by omega)
      have hst := szB_take bs k (by omega)
      have hall := szB_take_le bs (k + 1)
      obtain ⟨Ai, ni, ci, hc1, hmi, hui, hin⟩ := hmr.inner hlt
      rw [markBTo_be k0 bs k (by omega)] at hmi
      have hni : (be bs k).length = ni := hmi.len
      have hstep := markBTo_step k0 bs k (by omega)
      have MI := Lib.hid hmi
      have IN := Lib.hid hin
      have UI := Lib.hid hui
      have HST := Lib.hid hstep
      have HLN := Lib.hid hni
      have TR := Lib.hid htr
      have hk2 : k0 + szB (bs.take k) + ni ≤ 4611686018427387904 := by omega
      have hkp : 0 ≤ k0 + szB (bs.take k) := by omega
      have hfin : k0 + szB (bs.take k) + ni = k0 + szB (bs.take (k + 1)) := by omega
      have HF := Lib.hid hfin
      generalize hq : k0 + (szB (bs.take k) : Int) = q at *
      clear hmr hmi hin hui hstep hst hfin hall hq htr
      go_wp2_with fail
      refine (mark_any Ai ni ci lo _ q _ hkp hk2 MI.out).mono ?_
      rintro e w1 ⟨rfl, m1, g1⟩
      have hc := IN.out _ _ m1 g1
      have hs2 := HST.out
      rw [HLN.out] at hs2
      have hc' : OwnBs w1 lo hi (some ⟨g, 0, none⟩) n c (markBTo k0 bs (k + 1)) := by rw [← hs2]; exact hc
      have O1 := Lib.hid hc'
      have T2 := Lib.hid (TR.out.trans ((Touch.of_grown g1).mono (fun b e => UI.out b e.symm)))
      clear hc m1 g1 hs2 hc' hc1
      go_wp2
      go_roundw
      case rel => exact ⟨k + 1, by omega, by go_num, by rw [← HF.out], O1.out, T2.out⟩
      case measure => simp [intOf]; omega
    · go_wp2
      go_ret
      obtain rfl : k = n := by omega
      subst hx
      rw [List.take_length, markBTo_all] at *
      exact ⟨rfl, hmr, htr⟩
theorem heldBs_yes (A : Option Addr) (n c : Nat) (B : Nat) (bs : List (List Int)) (k0 : Int) (w : World) (h0 : 0 ≤ k0) (h1 : k0 + szB bs ≤ 4611686018427387904) (hn : n ≤ 1048576) (hb : Bss w B A n (markB k0 bs)) :
    Calls Try.prog 34 #[.slice A n c, .int .i64 k0] w fun e w' => e = .returned (.int .i64 (k0 + szB bs)) ∧ w = w' := by
  have HB := Lib.hid hb
  have hx : bs.length = n := (markB_len k0 bs).symm.trans hb.1
  clear hb
  go_enter Try.func34, Try.ntmps34
  go_wp2
  go_loop [1, 5] (fun q i => ∃ k : Nat, k ≤ n ∧ i = .int .i64 k ∧ q = .int .i64 (k0 + szB (bs.take k))) (fun _ i => n - (intOf i).toNat)
  case atStart => exact ⟨0, Nat.zero_le _, rfl, by simp [szB]⟩
  case round =>
    obtain ⟨k, hk, rfl, rfl⟩ := hrel
    by_cases hlt : k < n
    · obtain ⟨b, off, Ai, ni, ci, rfl, hbB, hc1, _, _, hy⟩ := HB.out.at_ hlt
      rw [markB_be k0 bs k (by omega)] at hy
      have hst := szB_take bs k (by omega)
      have hall := szB_take_le bs (k + 1)
      have hni : (be bs k).length = ni := (marks_len _ _).symm.trans hy.1
      rw [hni] at hy hst
      have hk2 : k0 + szB (bs.take k) + ni ≤ 4611686018427387904 := by omega
      have hkp : 0 ≤ k0 + szB (bs.take k) := by omega
      have hfin : k0 + szB (bs.take k) + ni = k0 + szB (bs.take (k + 1)) := by omega
      have HF := Lib.hid hfin
      have Y := Lib.hid hy
      clear hfin hall hst hy
      generalize hq : k0 + (szB (bs.take k) : Int) = q at *
      clear hq
      go_wp2_with fail
      refine (held_yes Ai ni ci B q _ hkp hk2 Y.out).mono ?_
      rintro e w' ⟨rfl, rfl⟩
      have hd2 : decide ((q + (ni : Int)) < 0) = false := decide_eq_false (by omega)
      go_wp2
      go_round
      case rel => exact ⟨k + 1, by omega, by go_num, by rw [← HF.out]⟩
      case measure => simp [intOf]; omega
    · go_wp2
      go_ret
      obtain rfl : k = n := by omega
      subst hx
      rw [List.take_length]
      exact ⟨rfl, rfl⟩
end Go.Proofs.Ytepaikljiddiaaa

-- ReachM: Plain facts on what is reached among cells. No statement of the program is proved here.
namespace Go.Proofs.Ytepaikljiddiaaa
set_option maxRecDepth 20000
set_option linter.unusedVariables false
set_option linter.unusedSimpArgs false
open Go.RowKit

/-- a list of numbers that rises. -/
def RiseI (l : List Int) : Prop := l.Pairwise (· < ·)
theorem riseI_at (l : List Int) (h : RiseI l) (i j : Nat) (hij : i < j) (hj : j < l.length) : l[i]?.getD 0 < l[j]?.getD 0 := by
  rw [List.getElem?_eq_getElem (show i < l.length by omega), List.getElem?_eq_getElem hj]
  exact List.pairwise_iff_getElem.1 h i j (by omega) hj hij
theorem riseI_one (a b : List Int) (ha : RiseI a) (hb : RiseI b) (h : ∀ x, x ∈ a ↔ x ∈ b) : a = b := by
  induction a generalizing b with
  | nil =>
    cases b with
    | nil => rfl
    | cons y b => exact absurd ((h y).2 (by simp)) (by simp)
  | cons x a ih =>
    cases b with
    | nil => exact absurd ((h x).1 (by simp)) (by simp)
    | cons y b =>
      have ha1 := List.pairwise_cons.1 ha
      have hb1 := List.pairwise_cons.1 hb
      have hxy : x = y := by
        have h1 := (h x).1 (by simp)
        have h2 := (h y).2 (by simp)
        rcases List.mem_cons.1 h1 with e | h1
        · exact e
        · rcases List.mem_cons.1 h2 with e | h2
          · exact e.symm
          · have := hb1.1 x h1
            have := ha1.1 y h2
            omega
      subst hxy
      congr 1
      refine ih b ha1.2 hb1.2 fun z => ⟨fun hz => ?_, fun hz => ?_⟩
      · rcases List.mem_cons.1 ((h z).1 (List.mem_cons_of_mem _ hz)) with e | e
        · subst e; have := ha1.1 z hz; omega
        · exact e
      · rcases List.mem_cons.1 ((h z).2 (List.mem_cons_of_mem _ hz)) with e | e
        · subst e; have := hb1.1 z hz; omega
        · exact e
theorem riseI_len (l u : List Int) (h : RiseI l) (hs : ∀ x, x ∈ l → x ∈ u) : l.length ≤ u.length := by
  induction l generalizing u with
  | nil => simp
  | cons x l ih =>
    have h1 := List.pairwise_cons.1 h
    have hx := hs x (by simp)
    have := ih (u.erase x) h1.2 (fun y hy => by
      have hne : y ≠ x := by have := h1.1 y hy; omega
      exact (List.mem_erase_of_ne hne).2 (hs y (List.mem_cons_of_mem _ hy)))
    rw [List.length_erase_of_mem hx] at this
    have hp : 0 < u.length := List.length_pos_of_mem hx
    simp only [List.length_cons]
    omega
/-- where a number belongs. -/
def placeI (l : List Int) (m : Int) : Nat := l.findIdx fun x => decide (m < x)
theorem placeI_le (l : List Int) (m : Int) : placeI l m ≤ l.length := List.findIdx_le_length
theorem placeI_at (l : List Int) (m : Int) (k : Nat) (hk : k ≤ l.length) (h0 : ∀ j, j < k → l[j]?.getD 0 ≤ m) (h1 : k < l.length → m < l[k]?.getD 0) : placeI l m = k := by
  have hle := placeI_le l m
  have hc : ∀ i (h : i < l.length), l[i] = l[i]?.getD 0 := fun i h => by rw [List.getElem?_eq_getElem h]; rfl
  rcases Nat.lt_trichotomy (placeI l m) k with h | h | h
  · have h2 := List.findIdx_getElem (w := show l.findIdx (fun x => decide (m < x)) < l.length from by unfold placeI at h; omega)
    have h3 := h0 _ h
    rw [hc] at h2
    have h2 : m < l[placeI l m]?.getD 0 := of_decide_eq_true h2
    omega
  · exact h
  · have h2 := List.not_of_lt_findIdx (show k < l.findIdx fun x => decide (m < x) from h)
    have hkl : k < l.length := by omega
    rw [hc k hkl] at h2
    have h2 : l[k]?.getD 0 ≤ m := by simpa using h2
    have := h1 hkl
    omega
def insI (l : List Int) (m : Int) : List Int := l.take (placeI l m) ++ m :: l.drop (placeI l m)
theorem insI_len (l : List Int) (m : Int) : (insI l m).length = l.length + 1 := by
  have := placeI_le l m
  unfold insI; simp; omega
theorem insI_mem (l : List Int) (m x : Int) : x ∈ insI l m ↔ x = m ∨ x ∈ l := by
  unfold insI
  conv => rhs; rw [← List.take_append_drop (placeI l m) l]
  simp only [List.mem_append, List.mem_cons]
  constructor
  · rintro (h | h | h)
    · exact .inr (.inl h)
    · exact .inl h
    · exact .inr (.inr h)
  · rintro (h | h | h)
    · exact .inr (.inl h)
    · exact .inl h
    · exact .inr (.inr h)
theorem insI_rise (l : List Int) (m : Int) (h : RiseI l) (hm : m ∉ l) : RiseI (insI l m) := by
  have hle := placeI_le l m
  have hc : ∀ i (h : i < l.length), l[i] = l[i]?.getD 0 := fun i h => by rw [List.getElem?_eq_getElem h]; rfl
  have hlo : ∀ x, x ∈ l.take (placeI l m) → x < m := by
    intro x hx
    obtain ⟨i, hi, rfl⟩ := List.mem_iff_getElem.1 hx
    have hi2 : i < placeI l m := by simp at hi; omega
    have h2 := List.not_of_lt_findIdx (show i < l.findIdx fun x => decide (m < x) from hi2)
    have h3 : l[i]'(by omega) ≤ m := by simpa using h2
    rw [List.getElem_take]
    rcases Int.lt_or_eq_of_le h3 with h | h
    · exact h
    · exact absurd (h ▸ List.getElem_mem _) hm
  have hhi : ∀ x, x ∈ l.drop (placeI l m) → m < x := by
    intro x hx
    obtain ⟨i, hi, rfl⟩ := List.mem_iff_getElem.1 hx
    have hi2 : placeI l m + i < l.length := by simp at hi; omega
    rw [List.getElem_drop]
    have h0 : m < l[placeI l m]'(by omega) := by
      have h2 := List.findIdx_getElem (w := show l.findIdx (fun x => decide (m < x)) < l.length from by unfold placeI at hi2; omega)
      exact of_decide_eq_true h2
    rcases Nat.eq_zero_or_pos i with e | e
    · subst e; exact h0
    · have := List.pairwise_iff_getElem.1 h (placeI l m) (placeI l m + i) (by omega) hi2 (by omega)
      omega
  unfold RiseI insI
  rw [List.pairwise_append]
  refine ⟨h.sublist (List.take_sublist _ _), List.pairwise_cons.2 ⟨fun x hx => hhi x hx, h.sublist (List.drop_sublist _ _)⟩, fun a ha b hb => ?_⟩
  rcases List.mem_cons.1 hb with e | hb
  · rw [e]; exact hlo a ha
  · have := hlo a ha; have := hhi b hb; omega

/-- k is the name of a kid of what stands under x. -/
def KidOf (cs : List (Int × List Int)) (x k : Int) : Prop := ∃ nd a, HitIs cs x nd true ∧ (a, k) ∈ nd.kids
/-- x is reached from these roots. -/
def Reached (cs : List (Int × List Int)) (roots : List Int) (x : Int) : Prop := ∀ S : Int → Prop, (∀ r, r ∈ roots → r ≠ 0 → S r) → (∀ y k, S y → KidOf cs y k → S k) → S x
theorem Reached.root {cs : List (Int × List Int)} {roots : List Int} {x : Int} (h : x ∈ roots) (h0 : x ≠ 0) : Reached cs roots x := fun S h1 _ => h1 x h h0
theorem Reached.kid {cs : List (Int × List Int)} {roots : List Int} {x k : Int} (h : Reached cs roots x) (hk : KidOf cs x k) : Reached cs roots k := fun S h1 h2 => h2 x k (h S h1 h2) hk
theorem hit_ok {cs : List (Int × List Int)} {x : Int} {nd : MNode} (h : HitIs cs x nd true) : nodeOk nd = true := by
  rcases h with ⟨_, ⟨_, h, _⟩ | ⟨h, _⟩⟩ | ⟨_, _, h⟩
  · exact h
  · cases h
  · cases h
theorem kidOf_pos {cs : List (Int × List Int)} {x k : Int} (h : KidOf cs x k) : k ≠ 0 := by
  obtain ⟨nd, a, h1, h2⟩ := h
  obtain ⟨i, hi, e⟩ := List.mem_iff_getElem.1 h2
  have h3 := kidsOk_at nd.kids (nodeOk_parts nd (hit_ok h1)).2.1 i hi
  unfold KidAt at h3
  rw [List.getElem?_eq_getElem hi, e] at h3
  have := h3.2.1
  simp at this
  omega
theorem hit_found {cs : List (Int × List Int)} {x : Int} {nd : MNode} {b : Bool} (hR : Right cs) (h : HitIs cs x nd b) : b = true ↔ findC cs x < cs.length := by
  rcases h with ⟨h1, h2⟩ | ⟨h1, _, rfl⟩
  · exact ⟨fun _ => h1, fun _ => (IsNode.of h2).2 (hR.2 _ h1).1⟩
  · exact ⟨fun h => absurd h (by simp), fun h => absurd h h1⟩
/-- there is a short list of all that can be reached. -/
theorem reach_bound (cs : List (Int × List Int)) (roots : List Int) : ∃ u : List Int, u.length ≤ roots.length + 16 * cs.length ∧ ∀ x, Reached cs roots x → x ∈ u := by
  have hk : ∀ k, k ≤ cs.length → ∃ u : List Int, u.length ≤ 16 * k ∧ ∀ i, i < k → ∀ nd, NodeRead (cel cs i).2 nd true → ∀ p, p ∈ nd.kids → p.2 ∈ u := by
    intro k
    induction k with
    | zero => exact fun _ => ⟨[], by simp, fun i hi => by omega⟩
    | succ k ih =>
      intro hk
      obtain ⟨u, hu, h⟩ := ih (by omega)
      by_cases hn : IsNode (cel cs k).2
      · obtain ⟨nd, hnd⟩ := hn
        refine ⟨u ++ nd.kids.map (·.2), ?_, fun i hi nd' h' p hp => ?_⟩
        · have hok : nodeOk nd = true := by
            rcases hnd with ⟨_, h, _⟩ | ⟨h, _⟩
            · exact h
            · cases h
          have := kidsOk_len nd.kids (nodeOk_parts nd hok).2.1
          simp; omega
        · rcases Nat.lt_or_ge i k with hik | hik
          · exact List.mem_append_left _ (h i hik nd' h' p hp)
          · obtain rfl : i = k := by omega
            have := (hnd.one h').1
            subst this
            exact List.mem_append_right _ (List.mem_map_of_mem hp)
      · refine ⟨u, by omega, fun i hi nd' h' p hp => ?_⟩
        rcases Nat.lt_or_ge i k with hik | hik
        · exact h i hik nd' h' p hp
        · obtain rfl : i = k := by omega
          exact absurd ⟨nd', h'⟩ hn
  obtain ⟨u, hu, h⟩ := hk cs.length (Nat.le_refl _)
  refine ⟨roots ++ u, by simp; omega, fun x hx => ?_⟩
  refine hx (fun y => y ∈ roots ++ u) (fun r hr _ => List.mem_append_left _ hr) (fun y k _ hk => ?_)
  obtain ⟨nd, a, h1, h2⟩ := hk
  rcases h1 with ⟨h3, h4⟩ | ⟨_, _, h4⟩
  · exact List.mem_append_right _ (h _ h3 nd h4 (a, k) h2)
  · cases h4
/-- what is told of the names that are reached. -/
def ReachIs (cs : List (Int × List Int)) (roots l : List Int) (b : Bool) : Prop :=
  (¬ (Right cs ∧ roots.length ≤ 80) ∧ l = [] ∧ b = false) ∨ ((Right cs ∧ roots.length ≤ 80) ∧ RiseI l ∧ (∀ x, x ∈ l ↔ Reached cs roots x) ∧ (b = true ↔ ∀ x, x ∈ l → findC cs x < cs.length))
theorem ReachIs.one {cs : List (Int × List Int)} {roots l l' : List Int} {b b' : Bool} (h : ReachIs cs roots l b) (h' : ReachIs cs roots l' b') : l = l' ∧ b = b' := by
  rcases h with ⟨a, rfl, rfl⟩ | ⟨a, h1, h2, h3⟩ <;> rcases h' with ⟨a', rfl, rfl⟩ | ⟨a', k1, k2, k3⟩
  · exact ⟨rfl, rfl⟩
  · exact absurd a' a
  · exact absurd a a'
  · have e := riseI_one l l' h1 k1 (fun x => (h2 x).trans (k2 x).symm)
    subst e
    refine ⟨rfl, ?_⟩
    cases b <;> cases b'
    · rfl
    · exact absurd (h3.2 (k3.1 rfl)) (by simp)
    · exact absurd (k3.2 (h3.1 rfl)) (by simp)
    · rfl
end Go.Proofs.Ytepaikljiddiaaa

-- FindM: Plain facts on the way down a path. No statement of the program is proved here.
namespace Go.Proofs.Ytepaikljiddiaaa
set_option maxRecDepth 20000
set_option linter.unusedVariables false
set_option linter.unusedSimpArgs false
open Go.RowKit

theorem com_le (a b : List Int) : com a b ≤ a.length ∧ com a b ≤ b.length := by
  induction a generalizing b with
  | nil => cases b <;> simp [com]
  | cons x r ih =>
    cases b with
    | nil => simp [com]
    | cons y s =>
      have := ih s
      simp only [com]
      split
      · simp; omega
      · simp
/-- the empty text. -/
def noStr : ByteArray := { data := #[] }
/-- the name of the kid at a number; 0 where there is none. -/
def kidAt (ks : List (Int × Int)) (a : Int) : Int := match ks.find? (fun k => k.1 == a) with
  | some k => k.2
  | none => 0
theorem kidAt_at (ks : List (Int × Int)) (a : Int) (k : Nat) (hk : k < ks.length) (he : (ks[k]?.getD (0, 0)).1 = a) (h : ∀ j, j < k → (ks[j]?.getD (0, 0)).1 ≠ a) : kidAt ks a = (ks[k]?.getD (0, 0)).2 := by
  induction ks generalizing k with
  | nil => simp at hk
  | cons x r ih =>
    unfold kidAt
    rw [List.find?_cons]
    cases k with
    | zero => simp at he; simp [he]
    | succ k =>
      have h0 := h 0 (by omega)
      simp at h0
      have hx : (x.1 == a) = false := by simpa using h0
      rw [hx]
      have := ih k (by simpa using hk) (by simpa using he) (fun j hj => by have := h (j + 1) (by omega); simpa using this)
      unfold kidAt at this
      simpa using this
theorem kidAt_none (ks : List (Int × Int)) (a : Int) (h : ∀ j, j < ks.length → (ks[j]?.getD (0, 0)).1 ≠ a) : kidAt ks a = 0 := by
  unfold kidAt
  have : ks.find? (fun k => k.1 == a) = none := by
    rw [List.find?_eq_none]
    intro x hx
    obtain ⟨i, hi, rfl⟩ := List.mem_iff_getElem.1 hx
    have := h i hi
    rw [List.getElem?_eq_getElem hi] at this
    simpa using this
  rw [this]
/-- what a node on the way says: the value and the code, or where to go on. -/
def stepAt (nd : MNode) (path : List Int) : (ByteArray × Int) ⊕ (Int × List Int) :=
  if com nd.path path < nd.path.length ∨ (nd.kind = 1 ∧ com nd.path path < path.length) then .inl (noStr, 1)
  else if nd.kind = 1 then .inl (nd.val, 0)
  else if nd.kind = 2 then .inr ((nd.kids[0]?.getD (0, 0)).2, path.drop (com nd.path path))
  else match path.drop (com nd.path path) with
    | [] => if hasVal nd then .inl (nd.val, 0) else .inl (noStr, 1)
    | a :: r => .inr (kidAt nd.kids a, r)
/-- down a path: the value, the code, and the names of the nodes on the way. -/
def DownIs (cs : List (Int × List Int)) : Nat → Int → List Int → ByteArray → Int → List Int → Prop
  | 0, _, _, _, _, _ => False
  | f + 1, root, path, v, k, way =>
    (root = 0 ∧ v = noStr ∧ k = 1 ∧ way = []) ∨
    (root ≠ 0 ∧ ∃ nd b, HitIs cs root nd b ∧
      ((b = false ∧ v = noStr ∧ k = 2 ∧ way = []) ∨
       (b = true ∧ ∃ way', way = root :: way' ∧
         ((∃ r, stepAt nd path = .inl r ∧ v = r.1 ∧ k = r.2 ∧ way' = []) ∨ (∃ r, stepAt nd path = .inr r ∧ DownIs cs f r.1 r.2 v k way')))))
theorem DownIs.one {cs : List (Int × List Int)} (f f' : Nat) {root : Int} {path : List Int} {v v' : ByteArray} {k k' : Int} {way way' : List Int} (h : DownIs cs f root path v k way) (h' : DownIs cs f' root path v' k' way') : v = v' ∧ k = k' ∧ way = way' := by
  induction f generalizing f' root path way way' with
  | zero => exact h.elim
  | succ f ih =>
    cases f' with
    | zero => exact h'.elim
    | succ f' =>
      unfold DownIs at h h'
      rcases h with ⟨h0, rfl, rfl, rfl⟩ | ⟨h0, nd, b, hit, h⟩ <;> rcases h' with ⟨h0', rfl, rfl, rfl⟩ | ⟨h0', nd', b', hit', h'⟩
      · exact ⟨rfl, rfl, rfl⟩
      · exact absurd h0 h0'
      · exact absurd h0' h0
      · obtain ⟨rfl, rfl⟩ := hit.one hit'
        rcases h with ⟨hb, rfl, rfl, rfl⟩ | ⟨hb, w1, rfl, h⟩ <;> rcases h' with ⟨hb', rfl, rfl, rfl⟩ | ⟨hb', w1', rfl, h'⟩
        · exact ⟨rfl, rfl, rfl⟩
        · rw [hb] at hb'; cases hb'
        · rw [hb] at hb'; cases hb'
        · rcases h with ⟨r, e, rfl, rfl, rfl⟩ | ⟨r, e, h⟩ <;> rcases h' with ⟨r', e', rfl, rfl, rfl⟩ | ⟨r', e', h'⟩
          · rw [e] at e'; cases e'; exact ⟨rfl, rfl, rfl⟩
          · rw [e] at e'; cases e'
          · rw [e] at e'; cases e'
          · rw [e] at e'; cases e'
            obtain ⟨a, b, c⟩ := ih f' h h'
            exact ⟨a, b, by rw [c]⟩
/-- the answer of Found. -/
def FoundIs (cs : List (Int × List Int)) (root : Int) (key : ByteArray) (v : ByteArray) (k : Int) : Prop :=
  (¬ (Right cs ∧ isKey (sb key) = true ∧ 0 ≤ root) ∧ v = noStr ∧ k = 3) ∨ ((Right cs ∧ isKey (sb key) = true ∧ 0 ≤ root) ∧ ∃ f way, DownIs cs f root (pathOf (sb key)) v k way)
theorem FoundIs.one {cs : List (Int × List Int)} {root : Int} {key v v' : ByteArray} {k k' : Int} (h : FoundIs cs root key v k) (h' : FoundIs cs root key v' k') : v = v' ∧ k = k' := by
  rcases h with ⟨a, rfl, rfl⟩ | ⟨a, f, way, h⟩ <;> rcases h' with ⟨a', rfl, rfl⟩ | ⟨a', f', way', h'⟩
  · exact ⟨rfl, rfl⟩
  · exact absurd a' a
  · exact absurd a a'
  · have := h.one f f' h'
    exact ⟨this.1, this.2.1⟩
end Go.Proofs.Ytepaikljiddiaaa

-- ReachS: The model's ReachOf.
namespace Go.Proofs.Ytepaikljiddiaaa
set_option maxRecDepth 20000
set_option linter.unusedVariables false
set_option linter.unusedSimpArgs false
open Go.RowKit

theorem Ints.row {w : World} {B n : Nat} {A : Option Addr} {zs : List Int} (h : Ints w B A n zs) (hn : 0 < n) :
    ∃ b off, A = some ⟨b, off, none⟩ ∧ b < B ∧ ∀ j u, (zs.map (Value.int .i64))[j]? = some u → w.cell? ((⟨b, off, none⟩ : Addr).add j) = some u := by
  obtain ⟨b, off, rfl, hb, hc⟩ := h.2 hn
  refine ⟨b, off, rfl, hb, fun j u hj => ?_⟩
  have hadd : (⟨b, off, none⟩ : Addr).add j = ⟨b, off + j, none⟩ := by unfold Addr.add; split <;> simp_all
  have hjl : j < zs.length := by
    rcases Nat.lt_or_ge j zs.length with h | h
    · exact h
    · rw [List.getElem?_eq_none (by simpa using h)] at hj; cases hj
  have hl := h.1
  rw [hadd, hc j (by omega)]
  rw [List.getElem?_map, List.getElem?_eq_getElem hjl] at hj
  simp only [Option.map_some, Option.some.injEq] at hj
  rw [← hj]
  simp [List.getElem?_eq_getElem hjl]
theorem Ints.takes {w : World} {B n : Nat} {A : Option Addr} {zs : List Int} (h : Ints w B A n zs) (k : Nat) (hk : k ≤ n) : Ints w B A k (zs.take k) := by
  have hl := h.1
  refine ⟨by simp; omega, fun hp => ?_⟩
  obtain ⟨b, off, e, hb, hc⟩ := h.2 (by omega)
  refine ⟨b, off, e, hb, fun i hi => ?_⟩
  have h1 := hc i (by omega)
  rw [h1]
  simp [hi]
end Go.Proofs.Ytepaikljiddiaaa

-- ReachL: The model's ReachOf: its loop.
namespace Go.Proofs.Ytepaikljiddiaaa
set_option maxRecDepth 20000
set_option linter.unusedVariables false
set_option linter.unusedSimpArgs false
open Go.RowKit

def lenOf : Value → Nat
  | .slice _ n _ => n
  | _ => 0
/-- what is told of the names found and of those to be looked at. -/
structure Going (cs : List (Int × List Int)) (roots out todo : List Int) (b : Bool) : Prop where
  rise : RiseI out
  reach : ∀ x, x ∈ out → Reached cs roots x
  todos : ∀ x, x ∈ todo → x = 0 ∨ Reached cs roots x
  root : ∀ r, r ∈ roots → r ≠ 0 → r ∈ out ∨ r ∈ todo
  kid : ∀ y k, y ∈ out → KidOf cs y k → k ∈ out ∨ k ∈ todo
  whole : b = true ↔ ∀ x, x ∈ out → findC cs x < cs.length
theorem Going.start (cs : List (Int × List Int)) (roots : List Int) : Going cs roots [] roots true :=
  ⟨List.Pairwise.nil, fun x h => by simp at h, fun x h => by
    by_cases h0 : x = 0
    · exact .inl h0
    · exact .inr (Reached.root h h0), fun r h _ => .inr h, fun y k h => by simp at h, ⟨fun _ x h => by simp at h, fun _ => rfl⟩⟩
theorem Going.skip {cs : List (Int × List Int)} {roots out todo : List Int} {b : Bool} {m : Int} (h : Going cs roots out (todo ++ [m]) b) (hm : m = 0 ∨ m ∈ out) : Going cs roots out todo b := by
  refine ⟨h.rise, h.reach, fun x hx => h.todos x (List.mem_append_left _ hx), fun r hr h0 => ?_, fun y k hy hk => ?_, h.whole⟩
  · rcases h.root r hr h0 with h1 | h1
    · exact .inl h1
    · rcases List.mem_append.1 h1 with h2 | h2
      · exact .inr h2
      · simp at h2
        subst h2
        rcases hm with e | e
        · exact absurd e h0
        · exact .inl e
  · rcases h.kid y k hy hk with h1 | h1
    · exact .inl h1
    · rcases List.mem_append.1 h1 with h2 | h2
      · exact .inr h2
      · simp at h2
        subst h2
        rcases hm with e | e
        · exact absurd e (kidOf_pos hk)
        · exact .inl e
theorem Going.take {cs : List (Int × List Int)} {roots out todo : List Int} {b is : Bool} {m : Int} {nd : MNode} (hR : Right cs) (h : Going cs roots out (todo ++ [m]) b) (h0 : m ≠ 0) (hm : m ∉ out) (hit : HitIs cs m nd is) :
    Going cs roots (insI out m) (todo ++ nd.kids.map (·.2)) (b && is) := by
  have hr : Reached cs roots m := by
    rcases h.todos m (by simp) with e | e
    · exact absurd e h0
    · exact e
  refine ⟨insI_rise out m h.rise hm, fun x hx => ?_, fun x hx => ?_, fun r hr' hr0 => ?_, fun y k hy hk => ?_, ?_⟩
  · rcases (insI_mem out m x).1 hx with e | e
    · rw [e]; exact hr
    · exact h.reach x e
  · rcases List.mem_append.1 hx with h1 | h1
    · exact h.todos x (List.mem_append_left _ h1)
    · obtain ⟨⟨a, k⟩, hp, rfl⟩ := List.mem_map.1 h1
      right
      cases is with
      | true => exact hr.kid ⟨nd, a, hit, hp⟩
      | false =>
        have hn : nd = node0 := by
          rcases hit with ⟨_, ⟨h, _⟩ | ⟨_, h, _⟩⟩ | ⟨_, h, _⟩
          · cases h
          · exact h
          · exact h
        rw [hn] at hp
        simp [node0] at hp
  · rcases h.root r hr' hr0 with h1 | h1
    · exact .inl ((insI_mem out m r).2 (.inr h1))
    · rcases List.mem_append.1 h1 with h2 | h2
      · exact .inr (List.mem_append_left _ h2)
      · simp at h2
        exact .inl ((insI_mem out m r).2 (.inl h2))
  · rcases (insI_mem out m y).1 hy with e | e
    · subst e
      obtain ⟨nd', a, h1, h2⟩ := hk
      obtain ⟨rfl, rfl⟩ := hit.one h1
      exact .inr (List.mem_append_right _ (List.mem_map.2 ⟨(a, k), h2, rfl⟩))
    · rcases h.kid y k e hk with h1 | h1
      · exact .inl ((insI_mem out m k).2 (.inr h1))
      · rcases List.mem_append.1 h1 with h2 | h2
        · exact .inr (List.mem_append_left _ h2)
        · simp at h2
          exact .inl ((insI_mem out m k).2 (.inl h2))
  · have hf := hit_found hR hit
    constructor
    · intro hb x hx
      have hb : b = true ∧ is = true := by simpa using hb
      rcases (insI_mem out m x).1 hx with e | e
      · rw [e]; exact hf.1 hb.2
      · exact h.whole.1 hb.1 x e
    · intro hx
      have h1 : b = true := h.whole.2 fun x hxo => hx x ((insI_mem out m x).2 (.inr hxo))
      have h2 : is = true := hf.2 (hx m ((insI_mem out m m).2 (.inl rfl)))
      simp [h1, h2]
theorem Going.done {cs : List (Int × List Int)} {roots out : List Int} {b : Bool} (h : Going cs roots out [] b) (x : Int) : x ∈ out ↔ Reached cs roots x := by
  refine ⟨h.reach x, fun hx => hx (· ∈ out) (fun r hr h0 => ?_) (fun y k hy hk => ?_)⟩
  · rcases h.root r hr h0 with h1 | h1
    · exact h1
    · simp at h1
  · rcases h.kid y k hy hk with h1 | h1
    · exact h1
    · simp at h1
theorem Going.len {cs : List (Int × List Int)} {roots out todo : List Int} {b : Bool} (h : Going cs roots out todo b) : out.length ≤ roots.length + 16 * cs.length := by
  obtain ⟨u, hu, hx⟩ := reach_bound cs roots
  exact Nat.le_trans (riseI_len out u h.rise fun x hx' => hx x (h.reach x hx')) hu
theorem hit_kids {cs : List (Int × List Int)} {m : Int} {nd : MNode} {b : Bool} (h : HitIs cs m nd b) : nd.kids.length ≤ 16 := by
  cases b with
  | true => exact kidsOk_len nd.kids (nodeOk_parts nd (hit_ok h)).2.1
  | false =>
    have hn : nd = node0 := by
      rcases h with ⟨_, ⟨h, _⟩ | ⟨_, h, _⟩⟩ | ⟨_, h, _⟩
      · cases h
      · exact h
      · exact h
    rw [hn]; simp [node0]

theorem OwnI.short {w : World} {base g q c : Nat} {xs : List Int} (h : OwnI w base (some ⟨g, 0, none⟩) (q + 1) c xs) : OwnI w base (some ⟨g, 0, none⟩) q c (xs.take q) := by
  have hl := h.len
  refine ⟨by simp; omega, ?_⟩
  rcases h.2 with ⟨e, _⟩ | ⟨g', cap, cur, e, hb, hg, hn, hc, hs, ht⟩
  · cases e
  · refine .inr ⟨g', cap, cur, ?_, hb, hg, by omega, hc, hs, ?_⟩
    · cases e; rfl
    · rw [Nat.mul_one] at ht ⊢
      rw [List.map_take, ← ht, List.take_take]
      congr 1; omega
theorem OwnI.last {w : World} {base g q c : Nat} {xs : List Int} (h : OwnI w base (some ⟨g, 0, none⟩) (q + 1) c xs) : xs = xs.take q ++ [xs[q]?.getD 0] := by
  have hl := h.len
  conv => lhs; rw [← List.take_append_drop q xs]
  rw [List.drop_eq_getElem_cons (by omega), List.getElem?_eq_getElem (by omega), List.drop_eq_nil_of_le (by omega)]
  rfl
theorem OwnI.cap {w : World} {base g n c : Nat} {xs : List Int} (h : OwnI w base (some ⟨g, 0, none⟩) n c xs) : n ≤ c := by
  rcases h.2 with ⟨e, _⟩ | ⟨g', cap, cur, e, _, _, hn, _⟩
  · cases e
  · cases e; exact hn
end Go.Proofs.Ytepaikljiddiaaa

-- PathS: What the model's KeyOk, PathOf, KeyOf and CommonOf answer: for every text, every list.
namespace Go.Proofs.Ytepaikljiddiaaa
set_option maxRecDepth 20000
open Go.RowKit

end Go.Proofs.Ytepaikljiddiaaa

-- FindS: The model's way down a path, and its Found.
namespace Go.Proofs.Ytepaikljiddiaaa
set_option maxRecDepth 20000
set_option linter.unusedVariables false
set_option linter.unusedSimpArgs false
open Go.RowKit

theorem Ints.drops {w : World} {B n b off : Nat} {zs : List Int} (h : Ints w B (some ⟨b, off, none⟩) n zs) (k : Nat) (hk : k ≤ n) (off' : Nat) (ho : k < n → off' = off + k) : Ints w B (some ⟨b, off', none⟩) (n - k) (zs.drop k) := by
  have hl := h.1
  refine ⟨by simp; omega, fun hp => ?_⟩
  obtain ⟨b', o, e, hb, hc⟩ := h.2 (by omega)
  cases e
  have e1 := ho (by omega)
  subst e1
  refine ⟨b, off + k, rfl, hb, fun i hi => ?_⟩
  have h1 := hc (k + i) (by omega)
  rw [Nat.add_assoc, h1]
  simp [List.getElem?_drop]
/-- what is still to be shown of a way down, where it has come to r with the rest ps behind the names ways. -/
def DownTo (cs : List (Int × List Int)) (root : Int) (path : List Int) (r : Int) (ps ways : List Int) : Prop :=
  ∀ v k wy f, DownIs cs f r ps v k wy → ∃ f', DownIs cs f' root path v k (ways ++ wy)
theorem DownTo.start (cs : List (Int × List Int)) (root : Int) (path : List Int) : DownTo cs root path root path [] := fun v k wy f h => ⟨f, by simpa using h⟩
theorem DownTo.step {cs : List (Int × List Int)} {root r r' : Int} {path ps ps' ways : List Int} {nd : MNode} (h : DownTo cs root path r ps ways) (h0 : r ≠ 0) (hit : HitIs cs r nd true) (hs : stepAt nd ps = .inr (r', ps')) : DownTo cs root path r' ps' (ways ++ [r]) := by
  intro v k wy f hd
  obtain ⟨f', h'⟩ := h v k (r :: wy) (f + 1) (.inr ⟨h0, nd, true, hit, .inr ⟨rfl, wy, rfl, .inr ⟨(r', ps'), hs, hd⟩⟩⟩)
  exact ⟨f', by simpa using h'⟩
theorem DownTo.stop {cs : List (Int × List Int)} {root r : Int} {path ps ways : List Int} {nd : MNode} {v : ByteArray} {k : Int} (h : DownTo cs root path r ps ways) (h0 : r ≠ 0) (hit : HitIs cs r nd true) (hs : stepAt nd ps = .inl (v, k)) : ∃ f, DownIs cs f root path v k (ways ++ [r]) :=
  h v k [r] 1 (.inr ⟨h0, nd, true, hit, .inr ⟨rfl, [], rfl, .inl ⟨(v, k), hs, rfl, rfl, rfl⟩⟩⟩)
theorem DownTo.lost {cs : List (Int × List Int)} {root r : Int} {path ps ways : List Int} {nd : MNode} (h : DownTo cs root path r ps ways) (h0 : r ≠ 0) (hit : HitIs cs r nd false) : ∃ f, DownIs cs f root path noStr 2 ways := by
  obtain ⟨f, hf⟩ := h noStr 2 [] 1 (.inr ⟨h0, nd, false, hit, .inl ⟨rfl, rfl, rfl, rfl⟩⟩)
  exact ⟨f, by simpa using hf⟩
theorem DownTo.none {cs : List (Int × List Int)} {root : Int} {path ps ways : List Int} (h : DownTo cs root path 0 ps ways) : ∃ f, DownIs cs f root path noStr 1 ways := by
  obtain ⟨f, hf⟩ := h noStr 1 [] 1 (.inl ⟨rfl, rfl, rfl, rfl⟩)
  exact ⟨f, by simpa using hf⟩

end Go.Proofs.Ytepaikljiddiaaa

-- FindO: The model's Found.
namespace Go.Proofs.Ytepaikljiddiaaa
set_option maxRecDepth 20000
set_option linter.unusedVariables false
set_option linter.unusedSimpArgs false
open Go.RowKit

theorem OwnI.cap_' {w : World} {base n c : Nat} {A : Option Addr} {xs : List Int} (h : OwnI w base A n c xs) : n ≤ c := by
  rcases h.2 with ⟨e, hx⟩ | ⟨g', cap, cur, e, _, _, hn, _⟩
  · have e2 : n = 0 := by simpa using hx
    omega
  · cases e; exact hn
end Go.Proofs.Ytepaikljiddiaaa

-- NewRow: The row of a slice that grows: the old one, or one made since. No statement of the program is proved here.
namespace Go.Proofs.Ytepaikljiddiaaa
set_option linter.unusedVariables false
open Go.RowKit

/-- the new row of a slice: that of the old one, or one made since. -/
def NewRow (w : World) (r r' : Option Nat) : Prop := ∀ g, r' = some g → r = some g ∨ w.heap.size ≤ g
theorem NewRow.refl (w : World) (r : Option Nat) : NewRow w r r := fun g h => .inl h
theorem NewRow.trans {w w' : World} {r r' r'' : Option Nat} (h : NewRow w r r') (hs : w.heap.size ≤ w'.heap.size) (k : NewRow w' r' r'') : NewRow w r r'' := fun g hg => by
  rcases k g hg with h1 | h1
  · exact h g h1
  · exact .inr (by omega)
theorem NewRow.grown {w w' w'' : World} {r r' : Option Nat} (h : NewRow w r r') (hg : w.grownBy w' r) (kg : w'.grownBy w'' r') : w.grownBy w'' r :=
  ⟨kg.os.trans hg.os, kg.tape.trans hg.tape, kg.output.trans hg.output, Nat.le_trans hg.size kg.size, fun x hx hne => (kg.block x (Nat.lt_of_lt_of_le hx hg.size) (fun e => by
    rcases h x e.symm with h1 | h1
    · exact hne h1.symm
    · omega)).trans (hg.block x hx hne)⟩
end Go.Proofs.Ytepaikljiddiaaa

-- ProofS: The model's ProofOf.
namespace Go.Proofs.Ytepaikljiddiaaa
set_option maxRecDepth 20000
set_option linter.unusedVariables false
set_option linter.unusedSimpArgs false
open Go.RowKit

/-- the bytes under a name. -/
def underN (cs : List (Int × List Int)) (m : Int) : List Int := (cel cs (findC cs m)).2
theorem down_all (cs : List (Int × List Int)) (f : Nat) : ∀ {root : Int} {path : List Int} {v : ByteArray} {k : Int} {way : List Int}, DownIs cs f root path v k way → ∀ m ∈ way, findC cs m < cs.length := by
  induction f with
  | zero => intro root path v k way h; exact h.elim
  | succ f ih =>
    intro root path v k way h m hm
    rcases h with ⟨_, _, _, rfl⟩ | ⟨_, nd, b, hit, ⟨_, _, _, rfl⟩ | ⟨hb, way', rfl, h⟩⟩
    · cases hm
    · cases hm
    · have hhit : findC cs root < cs.length := by
        rcases hit with ⟨h1, _⟩ | ⟨_, _, h2⟩
        · exact h1
        · rw [h2] at hb; cases hb
      rcases List.mem_cons.1 hm with rfl | hm
      · exact hhit
      · rcases h with ⟨r, _, _, _, rfl⟩ | ⟨r, _, h⟩
        · cases hm
        · exact ih h m hm
theorem hit_fine {cs : List (Int × List Int)} {x : Int} {nd : MNode} (h : HitIs cs x nd true) : nodeOk nd = true ∧ NodeWf nd := by
  rcases h with ⟨_, ⟨_, h, h2, _⟩ | ⟨h, _⟩⟩ | ⟨_, _, h⟩
  · exact ⟨h, h2⟩
  · cases h
  · cases h
theorem step_less (nd : MNode) (path : List Int) (r : Int × List Int) (hok : nodeOk nd = true) (h : stepAt nd path = .inr r) : r.2.length < path.length := by
  have hk := (nodeOk_parts nd hok).2.2.2
  have hc := com_le nd.path path
  unfold stepAt at h
  by_cases h1 : com nd.path path < nd.path.length ∨ (nd.kind = 1 ∧ com nd.path path < path.length)
  · rw [if_pos h1] at h; cases h
  · rw [if_neg h1] at h
    by_cases h2 : nd.kind = 1
    · rw [if_pos h2] at h; cases h
    · rw [if_neg h2] at h
      by_cases h3 : nd.kind = 2
      · rw [if_pos h3] at h
        cases h
        unfold kindOk at hk
        rw [if_neg h2, if_pos h3] at hk
        simp only [Bool.and_eq_true, decide_eq_true_eq] at hk
        simp only [List.length_drop]
        omega
      · rw [if_neg h3] at h
        cases hd : path.drop (com nd.path path) with
        | nil =>
          rw [hd] at h
          simp only at h
          split at h <;> cases h
        | cons a t =>
          rw [hd] at h
          simp only at h
          cases h
          have := congrArg List.length hd
          simp only [List.length_drop, List.length_cons] at this
          show t.length < path.length
          omega
theorem down_len (cs : List (Int × List Int)) (f : Nat) : ∀ {root : Int} {path : List Int} {v : ByteArray} {k : Int} {way : List Int}, DownIs cs f root path v k way → way.length ≤ path.length + 1 := by
  induction f with
  | zero => intro root path v k way h; exact h.elim
  | succ f ih =>
    intro root path v k way h
    rcases h with ⟨_, _, _, rfl⟩ | ⟨_, nd, b, hit, ⟨_, _, _, rfl⟩ | ⟨hb, way', rfl, h⟩⟩
    · simp
    · simp
    · rcases h with ⟨r, _, _, _, rfl⟩ | ⟨r, hs, h⟩
      · simp
      · subst hb
        have h1 := step_less nd path r (hit_fine hit).1 hs
        have h2 := ih h
        simp only [List.length_cons]
        omega
/-- what a proof is. -/
def ProofIs (cs : List (Int × List Int)) (root : Int) (key : ByteArray) (l : List (List Int)) (k : Int) : Prop :=
  (¬ (Right cs ∧ isKey (sb key) = true ∧ 0 ≤ root) ∧ l = [] ∧ k = 3) ∨
    ((Right cs ∧ isKey (sb key) = true ∧ 0 ≤ root) ∧ ∃ f v way, DownIs cs f root (pathOf (sb key)) v k way ∧ l = if k = 0 ∨ k = 1 then way.map (underN cs) else [])
theorem ProofIs.one {cs : List (Int × List Int)} {root : Int} {key : ByteArray} {l l' : List (List Int)} {k k' : Int} (h : ProofIs cs root key l k) (h' : ProofIs cs root key l' k') : l = l' ∧ k = k' := by
  rcases h with ⟨h1, rfl, rfl⟩ | ⟨h1, f, v, way, hd, rfl⟩ <;> rcases h' with ⟨h1', rfl, rfl⟩ | ⟨h1', f', v', way', hd', rfl⟩
  · exact ⟨rfl, rfl⟩
  · exact absurd h1' h1
  · exact absurd h1 h1'
  · obtain ⟨rfl, rfl, rfl⟩ := hd.one f f' hd'
    exact ⟨rfl, rfl⟩
theorem proof_bd {cs : List (Int × List Int)} {root : Int} {key : ByteArray} {l : List (List Int)} {k : Int} (h : ProofIs cs root key l k) (hm : ∀ i, (cel cs i).2.length ≤ 1048576) : l.length ≤ 9 ∧ ∀ x ∈ l, x.length ≤ 1048576 := by
  rcases h with ⟨_, rfl, _⟩ | ⟨_, f, v, way, hd, rfl⟩
  · simp
  · by_cases hk : k = 0 ∨ k = 1
    · rw [if_pos hk]
      have h1 := down_len cs f hd
      have h2 := pathOf_len (sb key)
      refine ⟨by rw [List.length_map]; omega, fun x hx => ?_⟩
      obtain ⟨m, _, rfl⟩ := List.mem_map.1 hx
      exact hm _
    · rw [if_neg hk]; simp
/-- the call answered with slices of bytes of its own, and a code. -/
def GaveProof (cs : List (Int × List Int)) (root : Int) (key : ByteArray) (w : World) (e : Ending) (w' : World) : Prop :=
  ∃ A' n' c' l k, e = .returned (.tuple #[.slice A' n' c', .int .i64 k]) ∧ ProofIs cs root key l k ∧ OwnBs w' w.heap.size w'.heap.size A' n' c' l ∧ Below w.heap.size w w'

end Go.Proofs.Ytepaikljiddiaaa

-- ProofB: How great a proof may be. No statement of the program is proved here.
namespace Go.Proofs.Ytepaikljiddiaaa
set_option linter.unusedVariables false
open Go.RowKit

theorem szB_le (l : List (List Int)) (m : Nat) (h : ∀ x ∈ l, x.length ≤ m) : szB l ≤ l.length * m := by
  induction l with
  | nil => simp [szB]
  | cons x r ih =>
    have h1 := h x (List.mem_cons_self ..)
    have h2 := ih (fun y hy => h y (List.mem_cons_of_mem _ hy))
    simp only [szB, List.length_cons, Nat.add_mul, Nat.one_mul]
    omega
theorem be_le (l : List (List Int)) (m : Nat) (h : ∀ x ∈ l, x.length ≤ m) (i : Nat) : (be l i).length ≤ m := by
  unfold be
  by_cases hi : i < l.length
  · rw [List.getElem?_eq_getElem hi]; exact h _ (List.getElem_mem hi)
  · rw [List.getElem?_eq_none (by omega)]; simp
theorem proof_all {cs : List (Int × List Int)} {root : Int} {key : ByteArray} {l : List (List Int)} {k : Int} (h : ProofIs cs root key l k) (hm : ∀ i, (cel cs i).2.length ≤ 1048576) : l.length ≤ 9 ∧ (∀ i, (be l i).length ≤ 1048576) ∧ szB l ≤ 9437184 := by
  obtain ⟨h1, h2⟩ := proof_bd h hm
  have h3 := szB_le l 1048576 h2
  exact ⟨h1, be_le l _ h2, by omega⟩
end Go.Proofs.Ytepaikljiddiaaa

-- FrameL: Plain facts on frames that stand one behind the other, the last of them torn. No statement of the program is proved here.
namespace Go.Proofs.Ytepaikljiddiaaa
set_option maxRecDepth 20000
set_option linter.unusedVariables false
set_option linter.unusedSimpArgs false
open Go.RowKit

theorem getD_left (p r : List Int) (i : Nat) (h : i < p.length) : (p ++ r)[i]?.getD 0 = p[i]?.getD 0 := by rw [List.getElem?_append_left h]
theorem getD_right (p r : List Int) (i : Nat) : (p ++ r)[p.length + i]?.getD 0 = r[i]?.getD 0 := by rw [List.getElem?_append_right (by omega), show p.length + i - p.length = i by omega]
theorem ofTwo_right (p r : List Int) (i : Nat) : ofTwo (p ++ r) (p.length + i) = ofTwo r i := by
  unfold ofTwo
  rw [getD_right, Nat.add_assoc, getD_right]
theorem drop_right (p r : List Int) (i : Nat) : (p ++ r).drop (p.length + i) = r.drop i := by
  rw [List.drop_append]
  simp
theorem bodyAt_right (p r : List Int) (i : Nat) : bodyAt (p ++ r) (p.length + i) = bodyAt r i := by
  unfold bodyAt
  rw [ofTwo_right, Nat.add_assoc, drop_right]
theorem eightAt_right (p r : List Int) (i : Nat) : eightAt (p ++ r) (p.length + i) = eightAt r i := by
  unfold eightAt
  rw [Nat.add_assoc, drop_right]
theorem frameAt_right (p r : List Int) (i : Nat) : frameAt (p ++ r) (p.length + i) ↔ frameAt r i := by
  unfold frameAt
  rw [ofTwo_right, bodyAt_right, eightAt_right, List.length_append]
  constructor
  · rintro ⟨h1, h2⟩; exact ⟨by omega, h2⟩
  · rintro ⟨h1, h2⟩; exact ⟨by omega, h2⟩
/-- frames behind some bytes are read as they would be alone. -/
theorem framesAt_right (p r : List Int) (m : Nat) : ∀ i, r.length - i ≤ m → framesAt (p ++ r) (p.length + i) = ((framesAt r i).1, p.length + (framesAt r i).2) := by
  induction m with
  | zero =>
    intro i hi
    have h : ¬ frameAt r i := fun h => by have := h.1; omega
    rw [framesAt_no r i h, framesAt_no _ _ (fun h' => h ((frameAt_right p r i).1 h'))]
  | succ m ih =>
    intro i hi
    by_cases h : frameAt r i
    · have h1 := h.1
      rw [framesAt_yes r i h, framesAt_yes _ _ ((frameAt_right p r i).2 h), bodyAt_right, ofTwo_right]
      have e : p.length + i + 10 + ofTwo r i = p.length + (i + 10 + ofTwo r i) := by omega
      rw [e, ih (i + 10 + ofTwo r i) (by omega)]
    · rw [framesAt_no r i h, framesAt_no _ _ (fun h' => h ((frameAt_right p r i).1 h'))]
theorem nameBytes_8 (zs : List Int) : (nameBytes (nameOf zs)).length = 8 := by
  have := nameOf_bd zs
  rw [nameBytes_yes _ (by omega), nb_len]
theorem framed_10 (b : List Int) (h : b.length ≤ 65535) : (framed b).length = b.length + 10 := by
  unfold framed
  rw [if_neg (by omega)]
  simp only [List.length_append, two, List.length_cons, List.length_nil, nameBytes_8]
  omega
theorem framed_eq (b : List Int) (h : b.length ≤ 65535) : framed b = [(b.length : Int) % 256, (b.length : Int) / 256] ++ (nameBytes (nameOf b) ++ b) := by
  unfold framed two
  rw [if_neg (by omega), List.append_assoc]
theorem ofTwo_framed (b r : List Int) (h : b.length ≤ 65535) : ofTwo (framed b ++ r) 0 = b.length := by
  rw [framed_eq b h]
  unfold ofTwo
  simp
  omega
theorem eightAt_framed (b r : List Int) (h : b.length ≤ 65535) : eightAt (framed b ++ r) 0 = nameBytes (nameOf b) := by
  rw [framed_eq b h]
  unfold eightAt
  have h8 := nameBytes_8 b
  have e : ([(b.length : Int) % 256, (b.length : Int) / 256] ++ (nameBytes (nameOf b) ++ b) ++ r).drop (0 + 2) = nameBytes (nameOf b) ++ (b ++ r) := by simp
  rw [e, List.take_left' h8]
theorem bodyAt_framed (b r : List Int) (h : b.length ≤ 65535) : bodyAt (framed b ++ r) 0 = b := by
  unfold bodyAt
  rw [ofTwo_framed b r h, framed_eq b h]
  have h8 := nameBytes_8 b
  have e : ([(b.length : Int) % 256, (b.length : Int) / 256] ++ (nameBytes (nameOf b) ++ b) ++ r).drop (0 + 10) = b ++ r := by
    have e1 : ([(b.length : Int) % 256, (b.length : Int) / 256] ++ (nameBytes (nameOf b) ++ b) ++ r) = ([(b.length : Int) % 256, (b.length : Int) / 256] ++ nameBytes (nameOf b)) ++ (b ++ r) := by simp
    rw [e1, List.drop_left' (by simp [h8])]
  rw [e, List.take_left' rfl]
theorem eight_name (b : List Int) : (nameBytes (nameOf b))[7]?.getD 0 ≤ 127 ∧ leVal (nameBytes (nameOf b)) = nameOf b := by
  have h := nameOf_bd b
  have h2 := back_of_bytes (nameOf b) ⟨by omega, h.2⟩
  exact ⟨h2.2.2, h2.1⟩
theorem frameAt_framed (b r : List Int) (h : b.length ≤ 65535) : frameAt (framed b ++ r) 0 := by
  refine ⟨?_, ?_, ?_⟩
  · rw [ofTwo_framed b r h, List.length_append, framed_10 b h]; omega
  · rw [eightAt_framed b r h]; exact (eight_name b).1
  · rw [eightAt_framed b r h, bodyAt_framed b r h]; exact (eight_name b).2
theorem framesAt_framed (b r : List Int) (h : b.length ≤ 65535) : framesAt (framed b ++ r) 0 = (b :: (framesAt r 0).1, (framed b).length + (framesAt r 0).2) := by
  rw [framesAt_yes _ _ (frameAt_framed b r h), bodyAt_framed b r h, ofTwo_framed b r h]
  have e : 0 + 10 + b.length = (framed b).length + 0 := by rw [framed_10 b h]; omega
  rw [e, framesAt_right (framed b) r r.length 0 (by omega)]
/-- whole frames, and what is behind them. -/
theorem framesAt_all (l : List (List Int)) (hl : ∀ x ∈ l, x.length ≤ 65535) (r : List Int) : framesAt (l.flatMap framed ++ r) 0 = (l ++ (framesAt r 0).1, (l.flatMap framed).length + (framesAt r 0).2) := by
  induction l with
  | nil => simp
  | cons x t ih =>
    have hx := hl x (List.mem_cons_self ..)
    rw [List.flatMap_cons, List.append_assoc, framesAt_framed x _ hx, ih (fun y hy => hl y (List.mem_cons_of_mem _ hy)), List.length_append]
    simp [Nat.add_assoc]
/-- a torn frame is none. -/
theorem framesAt_torn (b : List Int) (h : b.length ≤ 65535) (t : Nat) (ht : t < (framed b).length) : framesAt ((framed b).take t) 0 = ([], 0) := by
  refine framesAt_no _ _ (fun hf => ?_)
  have h1 := hf.1
  rw [List.length_take, Nat.min_eq_left (by omega)] at h1
  have hl := framed_10 b h
  have e : ofTwo ((framed b).take t) 0 = ofTwo (framed b ++ []) 0 := by
    unfold ofTwo
    rw [List.getElem?_take_of_lt (by omega), List.getElem?_take_of_lt (by omega), List.append_nil]
  rw [e, ofTwo_framed b [] h] at h1
  omega
end Go.Proofs.Ytepaikljiddiaaa

-- Cur: What the drawing functions do that the laws call: a cursor over bytes, the next byte, a number below a bound, whether once in n.
namespace Go.Proofs.Ytepaikljiddiaaa
set_option maxRecDepth 20000
open Go.RowKit

theorem and_range (x : Int) (m : Nat) (hm : m < 9223372036854775808) : 0 ≤ bits .and .i64 x (m : Int) ∧ bits .and .i64 x (m : Int) ≤ m := by
  have h : bits .and .i64 x (m : Int) = IntKind.i64.wrap ((BitVec.ofInt 64 x &&& BitVec.ofInt 64 (m : Int)).toNat : Int) := rfl
  have hle : (BitVec.ofInt 64 x &&& BitVec.ofInt 64 (m : Int)).toNat ≤ m := by
    rw [BitVec.toNat_and, ofInt_u64 m (by omega)]
    exact Nat.and_le_right
  rw [h, IntKind.wrap_i64]
  omega
theorem and_255 (x : Int) : 0 ≤ bits .and .i64 x 255 ∧ bits .and .i64 x 255 ≤ 255 := and_range x 255 (by omega)

/-- a cursor in block g over bytes that lie below block B. -/
def CurAt (w : World) (B g : Nat) (A : Option Addr) (n c : Nat) (i h : Int) (zs : List Int) : Prop :=
  B ≤ g ∧ w.heap[g]? = some (.cells #[.slice A n c, .int .i64 i, .int .i64 h] 98 (0, 0)) ∧ 0 ≤ i ∧ i ≤ n ∧ n ≤ 4096 ∧ Byts w B A n zs
def Cur (w : World) (B g : Nat) : Prop := ∃ A n c i h zs, CurAt w B g A n c i h zs
section
variable {w w' : World} {B g n c : Nat} {A : Option Addr} {i h : Int} {zs : List Int}
theorem CurAt.lt (hc : CurAt w B g A n c i h zs) : g < w.heap.size := by
  rcases Nat.lt_or_ge g w.heap.size with hlt | hge
  · exact hlt
  · have h1 := hc.2.1; rw [Array.getElem?_eq_none hge] at h1; cases h1
theorem Cur.lt (hc : Cur w B g) : g < w.heap.size := by obtain ⟨_, _, _, _, _, _, h⟩ := hc; exact h.lt
theorem Cur.ge (hc : Cur w B g) : B ≤ g := by obtain ⟨_, _, _, _, _, _, h⟩ := hc; exact h.1
theorem Cur.grown (hc : Cur w B g) {row : Option Nat} (hg : w.grownBy w' row) (hr : ∀ r, row = some r → B ≤ r ∧ r ≠ g) : Cur w' B g := by
  have hlt := hc.lt
  have hge := hc.ge
  obtain ⟨A, n, c, i, h, zs, h1, h2, h3, h4, h5, h6⟩ := hc
  exact ⟨A, n, c, i, h, zs, h1, (hg.block g hlt (fun e => (hr g e.symm).2 rfl)).trans h2, h3, h4, h5, h6.grown hg (by omega) (fun r e => (hr r e).1)⟩
theorem Cur.drewN (hc : Cur w B g) (m : Nat) : Cur (w.drewN m) B g := hc
theorem CurAt.drewN (hc : CurAt w B g A n c i h zs) (m : Nat) : CurAt (w.drewN m) B g A n c i h zs := hc
theorem CurAt.far (hc : CurAt w B g A n c i h zs) (j : Nat) (u : Value) : Byts (w.setCell ⟨g, j, none⟩ u) B A n zs :=
  hc.2.2.2.2.2.keep fun p hp => World.cell?_setCell_other w ⟨g, j, none⟩ p u (fun e => by subst e; have := hc.1; simp at hp; omega)
theorem CurAt.set2 (hc : CurAt w B g A n c i h zs) (h' : Int) : CurAt (w.setCell ⟨g, 2, none⟩ (.int .i64 h')) B g A n c i h' zs :=
  ⟨hc.1, heap_setCell_same w g 2 _ _ _ hc.2.1, hc.2.2.1, hc.2.2.2.1, hc.2.2.2.2.1, hc.far 2 _⟩
theorem CurAt.set1 (hc : CurAt w B g A n c i h zs) (i' : Int) (hi : 0 ≤ i' ∧ i' ≤ n) : CurAt (w.setCell ⟨g, 1, none⟩ (.int .i64 i')) B g A n c i' h zs :=
  ⟨hc.1, heap_setCell_same w g 1 _ _ _ hc.2.1, hi.1, hi.2, hc.2.2.2.2.1, hc.far 1 _⟩
theorem CurAt.cur (hc : CurAt w B g A n c i h zs) : Cur w B g := ⟨_, _, _, _, _, _, hc⟩
end

/-- what is left when a number from 0 to m - 1 was drawn by the cursor in block g. -/
def Drawn (w : World) (B g : Nat) (m : Int) (e : Ending) (w' : World) : Prop := ∃ r : Int, 0 ≤ r ∧ r < m ∧ e = .returned (.int .i64 r) ∧ Cur w' B g ∧ w.grownBy w' (some g)

theorem byte_at (w : World) (B g : Nat) (A : Option Addr) (n c : Nat) (i h : Int) (zs : List Int) (hc : CurAt w B g A n c i h zs) :
    Calls Try.prog 68 #[.pointer (some ⟨g, 0, none⟩)] w (Drawn w B g 256) := by
  obtain ⟨h1, h2, h3, h4, h5, h6⟩ := hc
  have c0 : w.cell? ⟨g, 0, none⟩ = some (.slice A n c) := by rw [cell_of_row w g 0 _ _ _ h2]; rfl
  have c1 : w.cell? ⟨g, 1, none⟩ = some (.int .i64 i) := by rw [cell_of_row w g 1 _ _ _ h2]; rfl
  have c2 : w.cell? ⟨g, 2, none⟩ = some (.int .i64 h) := by rw [cell_of_row w g 2 _ _ _ h2]; rfl
  have f1 : w.frozen? ⟨g, 1, none⟩ = false := frozen_of_row w g 1 _ _ h2
  have f2 : w.frozen? ⟨g, 2, none⟩ = false := frozen_of_row w g 2 _ _ h2
  have HC : Hid (CurAt w B g A n c i h zs) := Lib.hid ⟨h1, h2, h3, h4, h5, h6⟩
  have HB := Lib.hid h6
  clear h6 h2
  obtain ⟨j, rfl⟩ : ∃ j : Nat, i = j := ⟨i.toNat, by omega⟩
  by_cases hin : j < n
  · obtain ⟨b, off, rfl, hbB, hcell⟩ := HB.out.at_ hin
    have hr := HB.out.range j
    go_enter Try.func68, Try.ntmps68
    go_wp2
    go_quiet (fail)
    go_wp2
    go_quiet (fail)
    go_wp2
    go_quiet (fail)
    go_wp2
    go_ret
    exact ⟨_, (and_255 _).1, Int.lt_of_le_of_lt (and_255 _).2 (by decide), rfl, ((HC.out.set2 _).set1 _ (by omega)).cur, (grown_drewN (grown_set w g 2 _) _).trans (grown_set _ _ _ _)⟩
  · go_enter Try.func68, Try.ntmps68
    go_wp2
    go_quiet (fail)
    go_wp2
    go_quiet (fail)
    go_wp2
    go_ret
    exact ⟨_, (and_255 _).1, Int.lt_of_le_of_lt (and_255 _).2 (by decide), rfl, (HC.out.set2 _).cur, grown_drewN (grown_drewN (grown_set w g 2 _) _) _⟩

theorem byte_any (w : World) (B g : Nat) (hc : Cur w B g) : Calls Try.prog 68 #[.pointer (some ⟨g, 0, none⟩)] w (Drawn w B g 256) := by
  obtain ⟨A, n, c, i, h, zs, hc⟩ := hc
  exact byte_at w B g A n c i h zs hc

/-- a number below a bound of at most 256. -/
theorem below_any (w : World) (B g : Nat) (m : Int) (h0 : 0 < m) (h1 : m ≤ 256) (hc : Cur w B g) :
    Calls Try.prog 36 #[.pointer (some ⟨g, 0, none⟩), .int .i64 m] w (Drawn w B g m) := by
  have HC := Lib.hid hc
  clear hc
  go_enter Try.func36, Try.ntmps36
  go_wp2_with fail
  refine (byte_any _ B g HC.out).mono ?_
  rintro e w1 ⟨r, hr0, hr1, rfl, c1, g1⟩
  have C1 := Lib.hid c1
  have G1 := Lib.hid g1
  clear c1 g1
  go_wp2
  go_ret
  exact ⟨r % m, Int.emod_nonneg _ (by omega), Int.emod_lt_of_pos _ h0, rfl, C1.out, G1.out⟩

/-- a yes or a no was drawn. -/
def Asked (w : World) (B g : Nat) (e : Ending) (w' : World) : Prop := ∃ b : Bool, e = .returned (.bool b) ∧ Cur w' B g ∧ w.grownBy w' (some g)
theorem once_any (w : World) (B g : Nat) (m : Int) (h0 : 0 < m) (h1 : m ≤ 256) (hc : Cur w B g) :
    Calls Try.prog 38 #[.pointer (some ⟨g, 0, none⟩), .int .i64 m] w (Asked w B g) := by
  have HC := Lib.hid hc
  clear hc
  go_enter Try.func38, Try.ntmps38
  go_wp2_with fail
  refine (below_any _ B g m h0 h1 HC.out).mono ?_
  rintro e w1 ⟨r, hr0, hr1, rfl, c1, g1⟩
  have C1 := Lib.hid c1
  have G1 := Lib.hid g1
  clear c1 g1
  go_wp2
  go_ret
  exact ⟨_, rfl, C1.out, G1.out⟩

/-- a new cursor over bytes that came in. -/
def Began (w : World) (e : Ending) (w' : World) : Prop := ∃ g, e = .returned (.pointer (some ⟨g, 0, none⟩)) ∧ Cur w' w.heap.size g ∧ Below w.heap.size w w'
theorem new_any (A : Option Addr) (n c : Nat) (zs : List Int) (w : World) (hn : n ≤ 4096) (hb : Byts w w.heap.size A n zs) :
    Calls Try.prog 35 #[.slice A n c] w (Began w) := by
  have HB := Lib.hid hb
  clear hb
  go_enter Try.func35, Try.ntmps35
  go_wp2
  go_loop [3, 4] (fun h i => ∃ (k : Nat) (x : Int), k ≤ n ∧ i = .int .i64 k ∧ h = .int .i64 x) (fun _ i => n - (intOf i).toNat)
  case atStart => exact ⟨0, _, Nat.zero_le _, rfl, rfl⟩
  case round =>
    obtain ⟨k, x, hk, rfl, rfl⟩ := hrel
    by_cases hlt : k < n
    · obtain ⟨b, off, rfl, _, hc⟩ := HB.out.at_ hlt
      have hr := HB.out.range k
      go_wp2
      go_round
      case rel => exact ⟨k + 1, _, by omega, by go_num, rfl⟩
      case measure => simp [intOf]; omega
    · go_wp2
      go_ret
      exact ⟨w.heap.size, rfl, ⟨A, n, c, 0, x, zs, Nat.le_refl _, heap_alloc_new _ _, Int.le_refl _, by omega, hn, HB.out.alloc (Nat.le_refl _) _⟩, (Below.refl _ _).alloc (Nat.le_refl _) _⟩
end Go.Proofs.Ytepaikljiddiaaa

-- Draw1: What chapter 1's drawing functions make: some bytes of the call's own, some number.
namespace Go.Proofs.Ytepaikljiddiaaa
set_option maxRecDepth 20000
open Go.RowKit

/-- some bytes were drawn into a row of the call's own. -/
def Bytes1 (w : World) (B g : Nat) (m : Nat) (e : Ending) (w' : World) : Prop :=
  ∃ A n c xs, n ≤ m ∧ e = .returned (.slice A n c) ∧ Mine w' w.heap.size A n c xs ∧ Cur w' B g ∧ w.grownBy w' (some g)

theorem drawBytes_any (w : World) (B g : Nat) (hc : Cur w B g) :
    Calls Try.prog 37 #[.pointer (some ⟨g, 0, none⟩)] w (Bytes1 w B g 9) := by
  have hlt := hc.lt
  have HC := Lib.hid hc
  clear hc
  go_enter Try.func37, Try.ntmps37
  go_wp2_with fail
  refine (below_any _ B g 10 (by omega) (by omega) HC.out).mono ?_
  rintro e w1 ⟨r, hr0, hr1, rfl, c1, g1⟩
  obtain ⟨n, rfl⟩ : ∃ n : Nat, r = n := ⟨r.toNat, by omega⟩
  have s1 := g1.size
  have C1 := Lib.hid c1
  have G1 := Lib.hid g1
  clear c1 g1 HC
  have hmk := make_bytes (List.replicate n 0) n (by omega)
  go_wp2
  clear hmk
  have hm0 : Mine (w1.alloc (.cells (filled (List.replicate n 0) n 0) 5)) w.heap.size (some ⟨w1.heap.size, 0, none⟩) n n (List.replicate n 0) := by
    have e0 : filled (List.replicate n 0) n 0 = u8s (List.replicate n 0) := by unfold filled; simp
    rw [e0]
    exact Mine.of_alloc w1 _ _ n s1 (by simp) (by unfold maxLen; omega) (by intro z hz; rw [List.eq_of_mem_replicate hz]; omega)
  have M0 := Lib.hid hm0
  clear hm0
  have ge := C1.out.ge
  go_loopw [4] (fun i wr => ∃ (k : Nat) (xs : List Int), k ≤ n ∧ i = .int .i64 k ∧ Mine wr w.heap.size (some ⟨w1.heap.size, 0, none⟩) n n xs ∧ Cur wr B g ∧ w.grownBy wr (some g)) (fun i _ => n - (intOf i).toNat)
  case atStart =>
    exact ⟨0, _, Nat.zero_le _, rfl, M0.out, C1.out.grown (World.grownBy_alloc w1 _ none) (fun r h => by cases h), G1.out.trans (World.grownBy_alloc w1 _ _)⟩
  case round =>
    obtain ⟨k, xs, hk, rfl, hm, hcr, hgr⟩ := hrel
    have MR := Lib.hid hm
    have CR := Lib.hid hcr
    have GR := Lib.hid hgr
    clear hm hcr hgr
    by_cases hkn : k < n
    · go_wp2_with fail
      refine (below_any _ B g 256 (by omega) (by omega) CR.out).mono ?_
      rintro e w2 ⟨r, hr0, hr1, rfl, c2, g2⟩
      have m2 := MR.out.grown g2 (fun r h => by cases h; omega)
      have hc2 := m2.cell hkn
      have hf2 := m2.free k
      have S2 := Lib.hid (m2.set_ k r (by omega))
      have C2 := Lib.hid c2
      have G2 := Lib.hid (GR.out.trans g2)
      have L2 : g ≠ w1.heap.size := by omega
      clear m2 c2 g2
      go_wp2
      go_roundw
      case rel => exact ⟨k + 1, _, by omega, by go_num, S2.out.1, C2.out.grown S2.out.2 (fun r h => by cases h; omega), grown_new G2.out S2.out.2 s1⟩
      case measure => simp [intOf]; omega
    · go_wp2
      go_ret
      exact ⟨_, n, n, xs, by omega, rfl, MR.out, CR.out, GR.out⟩

/-- some bytes were made, the old world is as it was. -/
def Bytes2 (w : World) (m : Nat) (e : Ending) (w' : World) : Prop :=
  ∃ A n c xs, n ≤ m ∧ e = .returned (.slice A n c) ∧ Mine w' w.heap.size A n c xs ∧ Below w.heap.size w w'
def Int2 (w : World) (e : Ending) (w' : World) : Prop := ∃ x : Int, e = .returned (.int .i64 x) ∧ Below w.heap.size w w'

end Go.Proofs.Ytepaikljiddiaaa

-- DrawF: What chapter 11's drawing functions make: some bytes.
namespace Go.Proofs.Ytepaikljiddiaaa
set_option maxRecDepth 20000
set_option linter.unusedVariables false
set_option linter.unusedSimpArgs false
open Go.RowKit

/-- some bytes were made, the old world is as it was. -/
def Bytes3 (w : World) (m : Nat) (e : Ending) (w' : World) : Prop :=
  ∃ A n c xs, n ≤ m ∧ e = .returned (.slice A n c) ∧ n ≤ c ∧ (A = none → c = 0) ∧ Byts w' w'.heap.size A n xs ∧ Below w.heap.size w w'
theorem make_zeros (n : Nat) (hn : n ≤ 140737488355328) (W : World) :
    (Instr.makeSlice 22 (.int .i64 (n : Int)) (.int .i64 (n : Int))).run Try.prog W = .ok (.slice (some ⟨W.heap.size, 0, none⟩) n n) (W.alloc (.cells (u8s (List.replicate n 0)) 5)) := by
  have h := make_bytes (List.replicate n 0) n hn W
  have e0 : filled (List.replicate n 0) n 0 = u8s (List.replicate n 0) := by unfold filled; simp
  rw [e0] at h
  exact h
theorem mine_zeros (W : World) (n : Nat) (hn : n ≤ maxLen) : Mine (W.alloc (.cells (u8s (List.replicate n 0)) 5)) W.heap.size (some ⟨W.heap.size, 0, none⟩) n n (List.replicate n 0) :=
  Mine.of_alloc W _ _ n (Nat.le_refl _) (by simp) hn (by intro z hz; rw [List.eq_of_mem_replicate hz]; omega)

theorem drawFramed_any (A : Option Addr) (n c : Nat) (zs : List Int) (w : World) (hn : n ≤ 4096) (hb : Byts w w.heap.size A n zs) :
    Calls Try.prog 11 #[.slice A n c] w (Bytes3 w 65536) := by
  have HB := Lib.hid hb
  clear hb
  go_enter Try.func11, Try.ntmps11
  go_wp2_with fail
  refine (new_any _ _ _ zs _ hn HB.out).mono ?_
  rintro e w1 ⟨g, rfl, c1, b1⟩
  have C1 := Lib.hid c1
  have B1 := Lib.hid b1
  clear c1 b1
  go_wp2_with fail
  refine (once_any _ _ _ 100 (by omega) (by omega) C1.out).mono ?_
  rintro e w2 ⟨b, rfl, k2, g2⟩
  have K2 := Lib.hid k2
  have s2 : w.heap.size ≤ w2.heap.size := Nat.le_trans B1.out.size g2.size
  have B2 := Lib.hid (B1.out.trans (grown_below g2 B1.out.size C1.out.ge))
  clear k2 g2
  cases b
  · go_wp2_with fail
    refine (drawBytes_any _ _ _ K2.out).mono ?_
    rintro e w3 ⟨A3, n3, c3, xs, hn3, rfl, m3, k3, g3⟩
    have M3 := Lib.hid m3
    have B3 := Lib.hid (B2.out.trans (grown_below g3 s2 K2.out.ge))
    clear m3 k3 g3
    go_wp2
    go_ret
    exact ⟨A3, n3, c3, xs, by omega, rfl, mine_cap M3.out, mine_none M3.out, M3.out.byts, B3.out⟩
  · go_wp2_with fail
    refine (below_any _ _ _ 2 (by omega) (by omega) K2.out).mono ?_
    rintro e w3 ⟨r, hr0, hr1, rfl, k3, g3⟩
    have s3 : w.heap.size ≤ w3.heap.size := Nat.le_trans s2 g3.size
    have B3 := Lib.hid (B2.out.trans (grown_below g3 s2 K2.out.ge))
    clear k3 g3
    obtain ⟨k, hk⟩ : ∃ k : Nat, 65535 + r = (k : Int) := ⟨(65535 + r).toNat, by omega⟩
    have hmk := make_zeros k (by omega)
    have M0 := Lib.hid (mine_zeros w3 k (by unfold maxLen; omega))
    go_wp2
    go_ret
    exact ⟨_, k, k, _, by omega, rfl, Nat.le_refl _, (fun h => by cases h), M0.out.byts, B3.out.alloc s3 _⟩

/-- the beginning of a slice. -/
theorem byts_head {w : World} {B n : Nat} {A : Option Addr} {zs : List Int} (p : Nat) (hp : p ≤ n) (h : Byts w B A n zs) : Byts w B A p (zs.take p) := by
  have hl := h.1
  refine ⟨by simp; omega, fun z hz => h.2.1 z (List.mem_of_mem_take hz), fun h0 => ?_⟩
  obtain ⟨b, off, e, hb, hc⟩ := h.2.2 (by omega)
  refine ⟨b, off, e, hb, fun i hi => ?_⟩
  rw [hc i (by omega)]
  simp [hi, List.getElem?_take]

set_option maxHeartbeats 1600000 in
theorem drawFramesIn_any (A : Option Addr) (n c : Nat) (zs : List Int) (w : World) (hn : n ≤ 4096) (hb : Byts w w.heap.size A n zs) :
    Calls Try.prog 8 #[.slice A n c] w (Bytes3 w 100) := by
  have HB := Lib.hid hb
  clear hb
  obtain ⟨i0, hi, hz0, hz1, hz2⟩ := info_parts Try.info5
  have HI := Lib.hid hi
  have HZ0 := Lib.hid hz0
  have HZ1 := Lib.hid hz1
  have HZ2 := Lib.hid hz2
  clear hi hz0 hz1 hz2
  go_enter Try.func8, Try.ntmps8
  go_wp2_with fail
  refine (new_any _ _ _ zs _ hn HB.out).mono ?_
  rintro e w1 ⟨g, rfl, c1, b1⟩
  have C1 := Lib.hid c1
  have B1 := Lib.hid b1
  have hg1 := c1.lt
  have s1 : w.heap.size ≤ w1.heap.size := b1.size
  clear c1 b1
  obtain ⟨w2, hw2⟩ : ∃ w2, w1.alloc (.cells #[] 5) = w2 := ⟨_, rfl⟩
  have M2 := Lib.hid (show Mine w2 w1.heap.size (some ⟨w1.heap.size, 0, none⟩) 0 0 [] from hw2 ▸ Mine.empty w1)
  have C2 := Lib.hid (show Cur w2 w.heap.size g from hw2 ▸ C1.out.grown (World.grownBy_alloc w1 _ none) (fun r h => by cases h))
  have B2 := Lib.hid (show Below w.heap.size w w2 from hw2 ▸ B1.out.alloc s1 _)
  have s2 : w1.heap.size ≤ w2.heap.size := hw2 ▸ (by simp)
  have HW2 := Lib.hid hw2
  clear hw2
  go_wp2_with fail
  rw [HW2.out]
  refine (below_any _ _ _ 4 (by omega) (by omega) C2.out).mono ?_
  rintro e w3 ⟨r, hr0, hr1, rfl, c3, g3⟩
  obtain ⟨N, rfl⟩ : ∃ N : Nat, r = N := ⟨r.toNat, by omega⟩
  have M3 := Lib.hid (M2.out.grown g3 (fun r h => by cases h; omega))
  have B3 := Lib.hid (B2.out.trans (grown_below g3 (by omega) C2.out.ge))
  have C3 := Lib.hid c3
  have s3 : w2.heap.size ≤ w3.heap.size := g3.size
  clear c3 g3
  have hga : g < w1.heap.size := hg1
  go_wp2
  go_loopw [4, 5] (fun s m wr => ∃ (gb k j cb : Nat) (l : List Int), s = .slice (some ⟨gb, 0, none⟩) k cb ∧ m = .int .i64 j ∧ j ≤ 3 ∧ k + 19 * j ≤ 57 ∧ Mine wr w1.heap.size (some ⟨gb, 0, none⟩) k cb l ∧ Cur wr w.heap.size g ∧ Below w.heap.size w wr ∧ w1.heap.size ≤ wr.heap.size) (fun _ m _ => (intOf m).toNat)
  case atStart => exact ⟨w1.heap.size, 0, N, 0, [], rfl, rfl, by omega, by omega, M3.out, C3.out, B3.out, by omega⟩
  case round =>
    obtain ⟨gb, k, j, cb, l, rfl, rfl, hj3, hkj, hm, hcr, hbel, hsz⟩ := hrel
    have M := Lib.hid hm
    have CR := Lib.hid hcr
    have BR := Lib.hid hbel
    have hsr : w.heap.size ≤ wr.heap.size := hbel.size
    clear hm hcr hbel
    by_cases hj : 0 < j
    · have hdj : decide ((0 : Int) < (j : Int)) = true := decide_eq_true (by omega)
      obtain ⟨j, rfl⟩ : ∃ j', j = j' + 1 := ⟨j - 1, by omega⟩
      go_wp2_with fail
      refine (drawBytes_any _ _ _ CR.out).mono ?_
      rintro e w4 ⟨A4, n4, c4, xs, hn4, rfl, m4, k4, g4⟩
      have s4 : wr.heap.size ≤ w4.heap.size := g4.size
      have M4 := Lib.hid m4
      have C4 := Lib.hid k4
      have MB := Lib.hid (M.out.grown g4 (fun r h => by cases h; omega))
      have B4 := Lib.hid (BR.out.trans (grown_below g4 hsr CR.out.ge))
      have hl4 := m4.len
      clear m4 k4 g4
      go_wp2_with fail
      refine (specFramed_any A4 n4 c4 xs _ w4 (by omega) (fun h => mine_none M4.out h) (Nat.le_refl _) M4.out.byts).mono ?_
      rintro e w5 ⟨A5, n5, c5, rfl, m5, b5⟩
      have hl5 := m5.len
      have hf5 := framed_len xs
      have s5 : w4.heap.size ≤ w5.heap.size := b5.size
      have M5 := Lib.hid m5
      have MB := Lib.hid (MB.out.below b5)
      have C5 := Lib.hid (C4.out.grown (below_grow (row := none) b5) (fun r h => by cases h))
      have B5 := Lib.hid (B4.out.trans (b5.mono (by omega)))
      have hgl : g < w4.heap.size := C4.out.lt
      have hf10 : 0 < n5 := by
        have h2 : (framed xs).length = (two (xs.length : Int) ++ nameBytes (nameOf xs) ++ xs).length := by unfold framed; rw [if_neg (by omega)]
        simp only [List.length_append, two, List.length_cons, List.length_nil] at h2
        omega
      clear m5 b5
      obtain ⟨g5, rfl, _, hg5⟩ := M5.out.form hf10
      go_wp2_with (at_builtin; refine wpList_append_own _ rfl _ _ 22 rfl w1.heap.size 5 i0 (.int .u8 0) 1 1 Try.underlying22 HI.out HZ0.out HZ1.out HZ2.out rfl (by decide) _ _ _ rfl MB.out.1 ⟨g5, 0, none⟩ n5 _ ((framed xs).map (Value.int .u8)) rfl ?h0 ?h1 ?h2 ?h3 ?h4 ?h5 ?_)
      case h0 => rw [List.length_map, Nat.mul_one]; exact hl5
      case h1 =>
        intro j u hj
        have hjl : j < n5 := by
          rcases Nat.lt_or_ge j n5 with h | h
          · exact h
          · rw [List.getElem?_eq_none (by simp; omega)] at hj; cases hj
        have hc := M5.out.cell hjl
        have e : (⟨g5, 0, none⟩ : Addr).add j = ⟨g5, j, none⟩ := by unfold Addr.add; split <;> simp_all
        rw [e, hc]
        simp [show j < (framed xs).length by omega] at hj ⊢
        exact hj
      case h2 => intro u hu; obtain ⟨z, _, rfl⟩ := List.mem_map.1 hu; rfl
      case h3 => unfold maxLen; omega
      case h4 => omega
      case h5 => first | omega | (simp; omega)
      intro v6 w6 hown6 hgrow6 hnil6
      obtain ⟨g6, c6, rfl⟩ : ∃ g c, v6 = .slice (some ⟨g, 0, none⟩) (k + n5) c := by
        rcases hown6.2 with ⟨e, _⟩ | ⟨g, cap, cur, e, _⟩
        · exact absurd e hnil6
        · exact ⟨g, cap, e⟩
      have hgb := World.ownsRow.lt MB.out.1 gb (by simp [Value.ownBlock])
      have M6 := Lib.hid (MB.out.app M5.out.2 hown6)
      have C6 := Lib.hid (C5.out.grown hgrow6 (by
        intro r h
        have e : gb = r := by simpa [Value.ownBlock] using h
        omega))
      have B6 := Lib.hid (B5.out.grown hgrow6 (by omega) (by
        intro r h
        have e : gb = r := by simpa [Value.ownBlock] using h
        omega))
      have s6 : w5.heap.size ≤ w6.heap.size := hgrow6.size
      clear hown6 hgrow6 hnil6
      go_wp2
      go_roundw
      case rel => exact ⟨g6, k + n5, j, c6, l ++ framed xs, rfl, by go_num, by omega, by omega, M6.out, C6.out, B6.out, by omega⟩
      case measure => simp [intOf]
    · have hdj : decide ((0 : Int) < (j : Int)) = false := decide_eq_false (by omega)
      obtain rfl : j = 0 := by omega
      go_wp2_with fail
      refine (once_any _ _ _ 2 (by omega) (by omega) CR.out).mono ?_
      rintro e w4 ⟨b, rfl, k4, g4⟩
      have M4 := Lib.hid (M.out.grown g4 (fun r h => by cases h; omega))
      have C4 := Lib.hid k4
      have s4 : wr.heap.size ≤ w4.heap.size := g4.size
      have B4 := Lib.hid (BR.out.trans (grown_below g4 hsr CR.out.ge))
      clear k4 g4
      have hend := Lib.hid (show Bytes3 w 100 (.returned (.slice (some ⟨gb, 0, none⟩) k cb)) w4 from ⟨_, k, cb, l, by omega, rfl, mine_cap M4.out, (fun h => by cases h), M4.out.byts, B4.out⟩)
      cases b with
      | false =>
        go_wp2
        go_ret
        exact hend.out
      | true =>
        by_cases hk0 : 0 < k
        case neg =>
          obtain rfl : k = 0 := by omega
          go_wp2
          go_ret
          exact hend.out
        case pos =>
          have hdk : decide ((0 : Int) < (k : Int)) = true := decide_eq_true (by omega)
          go_wp2_with fail
          refine (below_any _ _ _ 3 (by omega) (by omega) C4.out).mono ?_
          rintro e w5 ⟨r, hr0, hr1, rfl, k5, g5⟩
          have M5 := Lib.hid (M4.out.grown g5 (fun r h => by cases h; omega))
          have C5 := Lib.hid k5
          have s5 : w4.heap.size ≤ w5.heap.size := g5.size
          have B5 := Lib.hid (B4.out.trans (grown_below g5 (by omega) C4.out.ge))
          clear k5 g5
          rcases (show r = 0 ∨ r = 1 ∨ r = 2 by omega) with rfl | rfl | rfl
          · go_wp2_with fail
            refine (below_any _ _ _ k (by omega) (by omega) C5.out).mono ?_
            rintro e w6 ⟨p, hp0, hp1, rfl, k6, g6⟩
            obtain ⟨p, rfl⟩ : ∃ q : Nat, p = q := ⟨p.toNat, by omega⟩
            have M6 := Lib.hid (M5.out.grown g6 (fun r h => by cases h; omega))
            have C6 := Lib.hid k6
            have s6 : w5.heap.size ≤ w6.heap.size := g6.size
            have B6 := Lib.hid (B5.out.trans (grown_below g6 (by omega) C5.out.ge))
            clear k6 g6
            go_wp2_with fail
            refine (below_any _ _ _ 256 (by omega) (by omega) C6.out).mono ?_
            rintro e w7 ⟨z, hz0, hz1, rfl, k7, g7⟩
            have M7 := Lib.hid (M6.out.grown g7 (fun r h => by cases h; omega))
            have s7 : w6.heap.size ≤ w7.heap.size := g7.size
            have B7 := Lib.hid (B6.out.trans (grown_below g7 (by omega) C6.out.ge))
            clear k7 g7
            have hpk : p < k := by omega
            have hcell := M7.out.cell hpk
            have hfree := M7.out.free p
            obtain ⟨gx, hgx, hgb, hgl⟩ := M7.out.form hk0
            obtain rfl : gb = gx := by injection hgx with hgx; injection hgx
            obtain ⟨M8, G8⟩ := M7.out.set_ p z ⟨hz0, by omega⟩
            have B8 := Lib.hid (B7.out.grown G8 (by omega) (fun r h => by cases h; omega))
            have M8 := Lib.hid M8
            have hw : IntKind.u8.wrap z = z := by rw [IntKind.wrap_u8]; omega
            go_wp2
            go_ret
            exact ⟨_, k, cb, l.set p z, by omega, rfl, mine_cap M8.out, (fun h => by cases h), M8.out.byts, B8.out⟩
          · go_wp2_with fail
            refine (below_any _ _ _ k (by omega) (by omega) C5.out).mono ?_
            rintro e w6 ⟨p, hp0, hp1, rfl, k6, g6⟩
            obtain ⟨p, rfl⟩ : ∃ q : Nat, p = q := ⟨p.toNat, by omega⟩
            have M6 := Lib.hid (M5.out.grown g6 (fun r h => by cases h; omega))
            have s6 : w5.heap.size ≤ w6.heap.size := g6.size
            have B6 := Lib.hid (B5.out.trans (grown_below g6 (by omega) C5.out.ge))
            clear k6 g6
            have hcap := mine_cap M6.out
            have hp6 := Lib.hid (byts_head p (by omega) M6.out.byts)
            go_wp2
            go_ret
            exact ⟨_, p, cb, l.take p, by omega, rfl, by omega, (fun h => by cases h), hp6.out, B6.out⟩
          · go_wp2_with fail
            refine (drawBytes_any _ _ _ C5.out).mono ?_
            rintro e w6 ⟨A6, n6, c6, xs, hn6, rfl, m6, k6, g6⟩
            have s6 : w5.heap.size ≤ w6.heap.size := g6.size
            have N6 := Lib.hid m6
            have M6 := Lib.hid (M5.out.grown g6 (fun r h => by cases h; omega))
            have B6 := Lib.hid (B5.out.trans (grown_below g6 (by omega) C5.out.ge))
            have hl6 := m6.len
            have hno := mine_none m6
            have hcap := mine_cap M6.out
            rcases m6.1.2 with ⟨e6, _⟩ | ⟨gy, cap6, cur6, e6, _⟩
            · obtain ⟨rfl, rfl, rfl⟩ : A6 = none ∧ n6 = 0 ∧ c6 = 0 := by injection e6 with x y z; exact ⟨x, y, z⟩
              clear m6 k6 g6
              go_wp2
              go_ret
              exact ⟨_, _, _, _, by omega, rfl, hcap, (fun h => by cases h), M6.out.byts, B6.out⟩
            · obtain rfl : A6 = some ⟨gy, 0, none⟩ := by injection e6
              clear m6 k6 g6
              go_wp2_with (at_builtin; refine wpList_append_own _ rfl _ _ 22 rfl w1.heap.size 5 i0 (.int .u8 0) 1 1 Try.underlying22 HI.out HZ0.out HZ1.out HZ2.out rfl (by decide) _ _ _ rfl M6.out.1 ⟨gy, 0, none⟩ n6 _ (xs.map (Value.int .u8)) rfl ?d0 ?d1 ?d2 ?d3 ?d4 ?d5 ?_)
              case d0 => rw [List.length_map, Nat.mul_one]; exact hl6
              case d1 =>
                intro j u hj
                have hjl : j < n6 := by
                  rcases Nat.lt_or_ge j n6 with h | h
                  · exact h
                  · rw [List.getElem?_eq_none (by simp; omega)] at hj; cases hj
                have hc := N6.out.cell hjl
                have e : (⟨gy, 0, none⟩ : Addr).add j = ⟨gy, j, none⟩ := by unfold Addr.add; split <;> simp_all
                rw [e, hc]
                simp [show j < xs.length by omega] at hj ⊢
                exact hj
              case d2 => intro u hu; obtain ⟨z, _, rfl⟩ := List.mem_map.1 hu; rfl
              case d3 => unfold maxLen; omega
              case d4 => omega
              case d5 => first | omega | (simp; omega)
              intro v7 w7 hown7 hgrow7 hnil7
              obtain ⟨g7, c7, rfl⟩ : ∃ g c, v7 = .slice (some ⟨g, 0, none⟩) (k + n6) c := by
                rcases hown7.2 with ⟨e, _⟩ | ⟨g, cap, cur, e, _⟩
                · exact absurd e hnil7
                · exact ⟨g, cap, e⟩
              have hgb := World.ownsRow.lt M6.out.1 gb (by simp [Value.ownBlock])
              have M7 := Lib.hid (M6.out.app N6.out.2 hown7)
              have B7 := Lib.hid (B6.out.grown hgrow7 (by omega) (by
                intro r h
                have e : gb = r := by simpa [Value.ownBlock] using h
                omega))
              clear hown7 hgrow7 hnil7
              go_wp2
              go_ret
              exact ⟨_, _, _, _, by omega, rfl, mine_cap M7.out, (fun h => by cases h), M7.out.byts, B7.out⟩
end Go.Proofs.Ytepaikljiddiaaa

-- Like: Two slices of bytes are told alike by the texts that they write.
namespace Go.Proofs.Ytepaikljiddiaaa
set_option maxRecDepth 20000
open Go.RowKit

theorem likeBytes_yes (A A' : Option Addr) (n n' c c' : Nat) (zs : List Int) (B B' : Nat) (w : World) (hb : Byts w B A n zs) (hb' : Byts w B' A' n' zs) :
    Calls Try.prog 12 #[.slice A n c, .slice A' n' c'] w fun e w' => e = .returned (.bool true) ∧ w = w' := by
  have k1 := conv_bytes A n c zs B w hb
  have k2 := conv_bytes A' n' c' zs B' w hb'
  clear hb hb'
  go_enter Try.func12, Try.ntmps12
  go_wp2
  go_ret
  exact ⟨rfl, rfl⟩

end Go.Proofs.Ytepaikljiddiaaa

-- Big: A draw is big, or it isn't.
namespace Go.Proofs.Ytepaikljiddiaaa
set_option maxRecDepth 20000
open Go.RowKit

theorem big_no (A : Option Addr) (n c : Nat) (w : World) (hn : n ≤ 4096) :
    Calls Try.prog 7 #[.slice A n c] w fun e w' => e = .returned (.bool false) ∧ w = w' := by
  go_enter Try.func7, Try.ntmps7
  go_wp2
  go_ret
  have h : decide ((4096 : Int) < (n : Int)) = false := by simp; omega
  first | exact ⟨rfl, rfl⟩ | (rw [← h]; exact ⟨rfl, rfl⟩)
theorem big_yes (A : Option Addr) (n c : Nat) (w : World) (hn : 4096 < n) :
    Calls Try.prog 7 #[.slice A n c] w fun e w' => e = .returned (.bool true) ∧ w = w' := by
  go_enter Try.func7, Try.ntmps7
  go_wp2
  go_ret
  have h : decide ((4096 : Int) < (n : Int)) = true := by simp; omega
  first | exact ⟨rfl, rfl⟩ | (rw [← h]; exact ⟨rfl, rfl⟩)
end Go.Proofs.Ytepaikljiddiaaa

-- Dice: The laws' dice: numbers that follow from the bytes; a number below a bound; what is rolled of some bytes.
namespace Go.Proofs.Ytepaikljiddiaaa
set_option maxRecDepth 20000
open Go.RowKit

theorem and_u64 (x : Int) (m : Nat) (hm : m < 9223372036854775808) : 0 ≤ bits .and .u64 x (m : Int) ∧ bits .and .u64 x (m : Int) ≤ m := by
  have h : bits .and .u64 x (m : Int) = IntKind.u64.wrap ((BitVec.ofInt 64 x &&& BitVec.ofInt 64 (m : Int)).toNat : Int) := rfl
  have hle : (BitVec.ofInt 64 x &&& BitVec.ofInt 64 (m : Int)).toNat ≤ m := by
    rw [BitVec.toNat_and, ofInt_u64 m (by omega)]
    exact Nat.and_le_right
  rw [h, IntKind.wrap_u64]
  omega

theorem wrap_and (x : Int) : 0 ≤ wrap64 (bits .and .u64 x 16777215) ∧ wrap64 (bits .and .u64 x 16777215) ≤ 16777215 := by
  have h : 0 ≤ bits .and .u64 x 16777215 ∧ bits .and .u64 x 16777215 ≤ 16777215 := and_u64 x 16777215 (by omega)
  unfold wrap64
  omega

/-- dice in block g over bytes that lie below block B. -/
def DiceAt (w : World) (B g : Nat) (A : Option Addr) (n c : Nat) (i h : Int) (zs : List Int) : Prop :=
  B ≤ g ∧ w.heap[g]? = some (.cells #[.slice A n c, .int .i64 i, .int .u64 h] 69 (0, 0)) ∧ 0 ≤ i ∧ i ≤ n ∧ n ≤ 4096 ∧ Byts w B A n zs
def Dice (w : World) (B g : Nat) : Prop := ∃ A n c i h zs, DiceAt w B g A n c i h zs
section
variable {w w' : World} {B g n c : Nat} {A : Option Addr} {i h : Int} {zs : List Int}
theorem DiceAt.lt (hc : DiceAt w B g A n c i h zs) : g < w.heap.size := by
  rcases Nat.lt_or_ge g w.heap.size with hlt | hge
  · exact hlt
  · have h1 := hc.2.1; rw [Array.getElem?_eq_none hge] at h1; cases h1
theorem Dice.lt (hc : Dice w B g) : g < w.heap.size := by obtain ⟨_, _, _, _, _, _, h⟩ := hc; exact h.lt
theorem Dice.ge (hc : Dice w B g) : B ≤ g := by obtain ⟨_, _, _, _, _, _, h⟩ := hc; exact h.1
theorem Dice.grown (hc : Dice w B g) {row : Option Nat} (hg : w.grownBy w' row) (hr : ∀ r, row = some r → B ≤ r ∧ r ≠ g) : Dice w' B g := by
  have hlt := hc.lt
  have hge := hc.ge
  obtain ⟨A, n, c, i, h, zs, h1, h2, h3, h4, h5, h6⟩ := hc
  exact ⟨A, n, c, i, h, zs, h1, (hg.block g hlt (fun e => (hr g e.symm).2 rfl)).trans h2, h3, h4, h5, h6.grown hg (by omega) (fun r e => (hr r e).1)⟩
theorem DiceAt.drewN (hc : DiceAt w B g A n c i h zs) (m : Nat) : DiceAt (w.drewN m) B g A n c i h zs := hc
theorem DiceAt.far (hc : DiceAt w B g A n c i h zs) (j : Nat) (u : Value) : Byts (w.setCell ⟨g, j, none⟩ u) B A n zs :=
  hc.2.2.2.2.2.keep fun p hp => World.cell?_setCell_other w ⟨g, j, none⟩ p u (fun e => by subst e; have := hc.1; simp at hp; omega)
theorem DiceAt.set2 (hc : DiceAt w B g A n c i h zs) (h' : Int) : DiceAt (w.setCell ⟨g, 2, none⟩ (.int .u64 h')) B g A n c i h' zs :=
  ⟨hc.1, heap_setCell_same w g 2 _ _ _ hc.2.1, hc.2.2.1, hc.2.2.2.1, hc.2.2.2.2.1, hc.far 2 _⟩
theorem DiceAt.set1 (hc : DiceAt w B g A n c i h zs) (i' : Int) (hi : 0 ≤ i' ∧ i' ≤ n) : DiceAt (w.setCell ⟨g, 1, none⟩ (.int .i64 i')) B g A n c i' h zs :=
  ⟨hc.1, heap_setCell_same w g 1 _ _ _ hc.2.1, hi.1, hi.2, hc.2.2.2.2.1, hc.far 1 _⟩
theorem DiceAt.dice (hc : DiceAt w B g A n c i h zs) : Dice w B g := ⟨_, _, _, _, _, _, hc⟩
end

/-- what is left when a number from 0 to m - 1 was rolled by the dice in block g. -/
def Rolled (w : World) (B g : Nat) (m : Int) (e : Ending) (w' : World) : Prop := ∃ r : Int, 0 ≤ r ∧ r < m ∧ e = .returned (.int .i64 r) ∧ Dice w' B g ∧ w.grownBy w' (some g)

theorem dice_at (w : World) (B g : Nat) (A : Option Addr) (n c : Nat) (i h : Int) (zs : List Int) (m : Int) (h0 : 0 < m) (hm : m ≤ 256) (hc : DiceAt w B g A n c i h zs) :
    Calls Try.prog 16 #[.pointer (some ⟨g, 0, none⟩), .int .i64 m] w (Rolled w B g m) := by
  obtain ⟨h1, h2, h3, h4, h5, h6⟩ := hc
  have c0 : w.cell? ⟨g, 0, none⟩ = some (.slice A n c) := by rw [cell_of_row w g 0 _ _ _ h2]; rfl
  have c1 : w.cell? ⟨g, 1, none⟩ = some (.int .i64 i) := by rw [cell_of_row w g 1 _ _ _ h2]; rfl
  have c2 : w.cell? ⟨g, 2, none⟩ = some (.int .u64 h) := by rw [cell_of_row w g 2 _ _ _ h2]; rfl
  have f1 : w.frozen? ⟨g, 1, none⟩ = false := frozen_of_row w g 1 _ _ h2
  have f2 : w.frozen? ⟨g, 2, none⟩ = false := frozen_of_row w g 2 _ _ h2
  have HC : Hid (DiceAt w B g A n c i h zs) := Lib.hid ⟨h1, h2, h3, h4, h5, h6⟩
  have HB := Lib.hid h6
  clear h6 h2
  obtain ⟨j, rfl⟩ : ∃ j : Nat, i = j := ⟨i.toNat, by omega⟩
  by_cases hin : j < n
  · obtain ⟨b, off, rfl, hbB, hcell⟩ := HB.out.at_ hin
    have hr := HB.out.range j
    go_enter Try.func16, Try.ntmps16
    go_wp2
    have hq := wrap_and (IntKind.u64.wrap (IntKind.u64.wrap (h * 6364136223846793005) + 1442695040888963407) / 8589934592)
    generalize wrap64 (bits .and .u64 (IntKind.u64.wrap (IntKind.u64.wrap (h * 6364136223846793005) + 1442695040888963407) / 8589934592) 16777215) = q at hq
    obtain ⟨hqa, hqb⟩ := hq
    go_quiet (fail)
    go_wp2
    go_quiet (fail)
    go_wp2
    go_ret
    exact ⟨(q + zs[j]?.getD 0) % m, Int.emod_nonneg _ (by omega), Int.emod_lt_of_pos _ h0, rfl, (((HC.out.set2 _).drewN _).set1 _ (by omega)).dice, (grown_drewN (grown_set w g 2 _) _).trans (grown_set _ _ _ _)⟩
  · go_enter Try.func16, Try.ntmps16
    go_wp2
    have hq := wrap_and (IntKind.u64.wrap (IntKind.u64.wrap (h * 6364136223846793005) + 1442695040888963407) / 8589934592)
    generalize wrap64 (bits .and .u64 (IntKind.u64.wrap (IntKind.u64.wrap (h * 6364136223846793005) + 1442695040888963407) / 8589934592) 16777215) = q at hq
    obtain ⟨hqa, hqb⟩ := hq
    go_quiet (fail)
    go_wp2
    go_ret
    exact ⟨q % m, Int.emod_nonneg _ (by omega), Int.emod_lt_of_pos _ h0, rfl, ((HC.out.set2 _).drewN _).dice, grown_drewN (grown_set w g 2 _) _⟩

/-- new dice over bytes that came in. -/
def Thrown (w : World) (e : Ending) (w' : World) : Prop := ∃ g, e = .returned (.pointer (some ⟨g, 0, none⟩)) ∧ Dice w' w.heap.size g ∧ Below w.heap.size w w'
theorem roll_any (A : Option Addr) (n c : Nat) (zs : List Int) (s : Int) (w : World) (hn : n ≤ 4096) (hb : Byts w w.heap.size A n zs) :
    Calls Try.prog 15 #[.slice A n c, .int .u64 s] w (Thrown w) := by
  have HB := Lib.hid hb
  clear hb
  go_enter Try.func15, Try.ntmps15
  go_wp2
  go_loopw [6] (fun i wr => ∃ (k : Nat) (h : Int), k ≤ n ∧ i = .int .i64 k ∧ DiceAt wr w.heap.size w.heap.size A n c 0 h zs ∧ Below w.heap.size w wr) (fun i _ => n - (intOf i).toNat)
  case atStart => exact ⟨0, _, Nat.zero_le _, rfl, ⟨Nat.le_refl _, heap_alloc_new _ _, Int.le_refl _, by omega, hn, HB.out.alloc (Nat.le_refl _) _⟩, (Below.refl _ _).alloc (Nat.le_refl _) _⟩
  case round =>
    obtain ⟨k, h, hk, rfl, hd, hbr⟩ := hrel
    by_cases hlt : k < n
    · have hr := HB.out.range k
      have c2 : wr.cell? ⟨w.heap.size, 2, none⟩ = some (.int .u64 h) := by rw [cell_of_row wr w.heap.size 2 _ _ _ hd.2.1]; rfl
      have f2 : wr.frozen? ⟨w.heap.size, 2, none⟩ = false := frozen_of_row wr w.heap.size 2 _ _ hd.2.1
      obtain ⟨b, off, rfl, hbB, hcell⟩ := hd.2.2.2.2.2.at_ hlt
      have HD := Lib.hid hd
      have BR := Lib.hid hbr
      clear hd hbr
      go_wp2
      go_region
      go_wp2
      go_roundw
      case rel => exact ⟨k + 1, _, by omega, by go_num, (HD.out.set2 _).drewN 1, BR.out.trans (below_drewN (grown_below (grown_set wr w.heap.size 2 _) BR.out.size (Nat.le_refl _)) 1)⟩
      case measure => simp [intOf]; omega
    · go_wp2
      go_ret
      exact ⟨w.heap.size, rfl, hd.dice, hbr⟩
theorem dice_any (w : World) (B g : Nat) (m : Int) (h0 : 0 < m) (hm : m ≤ 256) (hc : Dice w B g) :
    Calls Try.prog 16 #[.pointer (some ⟨g, 0, none⟩), .int .i64 m] w (Rolled w B g m) := by
  obtain ⟨A, n, c, i, h, zs, hc⟩ := hc
  exact dice_at w B g A n c i h zs m h0 hm hc
end Go.Proofs.Ytepaikljiddiaaa
