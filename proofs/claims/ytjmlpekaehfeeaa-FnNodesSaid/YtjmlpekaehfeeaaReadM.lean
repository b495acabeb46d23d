/- Plain facts on the reading of a node as the program does it: number by number, until there are too few. -/
import Derived.Test.YtjmlpekaehfeeaaNodeI
import Derived.Test.YtjmlpekaehfeeaaNodeR
namespace Go.Proofs.Ytjmlpekaehfeeaa
set_option maxRecDepth 20000
open Go.RowKit

/-- the next number, of what is left; none: there were too few. -/
def rNum : Option (List Int) → Int × Option (List Int)
  | some (y :: r) => (y, some r)
  | _ => (0, none)
def rByt (c : Nat) : Option (List Int) → List Int × Option (List Int)
  | some ys => if c ≤ ys.length then (ys.take c, some (ys.drop c)) else ([], none)
  | none => ([], none)
def nm8 (zs : List Int) : Int := if zs.length = 8 ∧ zs[7]?.getD 0 ≤ 127 then leVal zs else 0
def rKid (st : Option (List Int)) : (Int × Int) × Option (List Int) := (((rNum st).1, nm8 (rByt 8 (rNum st).2).1), (rByt 8 (rNum st).2).2)
def rKids : Nat → Option (List Int) → List (Int × Int) × Option (List Int)
  | 0, st => ([], st)
  | q + 1, st => ((rKids q st).1 ++ [(rKid (rKids q st).2).1], (rKid (rKids q st).2).2)
def rPart (st : Option (List Int)) : List Int × Option (List Int) := rByt (rNum st).1.toNat (rNum st).2
def rAll (st : Option (List Int)) : List (Int × Int) × Option (List Int) := rKids (rNum st).1.toNat (rNum st).2
def rNode (st : Option (List Int)) : MNode × Option (List Int) :=
  (⟨(rNum st).1, (rPart (rNum st).2).1, (rAll (rPart (rPart (rNum st).2).2).2).1, strOfNums (rPart (rPart (rNum st).2).2).1⟩, (rAll (rPart (rPart (rNum st).2).2).2).2)

/-- every number that is left is a byte. -/
def Bs (st : Option (List Int)) : Prop := ∀ ys, st = some ys → ∀ z ∈ ys, 0 ≤ z ∧ z ≤ 255
theorem rNum_bs {st} (h : Bs st) : Bs (rNum st).2 ∧ 0 ≤ (rNum st).1 ∧ (rNum st).1 ≤ 255 := by
  rcases st with _ | _ | ⟨y, r⟩
  · exact ⟨fun ys e => (by cases e), by decide, by decide⟩
  · exact ⟨fun ys e => (by cases e), by decide, by decide⟩
  · refine ⟨fun ys e z hz => ?_, h _ rfl y (by simp)⟩
    cases e
    exact h _ rfl z (by simp [hz])
theorem rByt_bs {st} (c : Nat) (h : Bs st) : Bs (rByt c st).2 ∧ ∀ z ∈ (rByt c st).1, 0 ≤ z ∧ z ≤ 255 := by
  rcases st with _ | ys
  · exact ⟨fun ys e => (by cases e), by simp [rByt]⟩
  · unfold rByt
    simp only
    split
    · refine ⟨fun r e z hz => ?_, fun z hz => h _ rfl z (List.mem_of_mem_take hz)⟩
      cases e
      exact h _ rfl z (List.mem_of_mem_drop hz)
    · exact ⟨fun ys e => (by cases e), by simp⟩
theorem rPart_bs {st} (h : Bs st) : Bs (rPart st).2 ∧ ∀ z ∈ (rPart st).1, 0 ≤ z ∧ z ≤ 255 := rByt_bs _ (rNum_bs h).1
theorem rKid_bs {st} (h : Bs st) : Bs (rKid st).2 := (rByt_bs 8 (rNum_bs h).1).1
theorem rKids_bs {st} (q : Nat) (h : Bs st) : Bs (rKids q st).2 := by
  induction q with
  | zero => exact h
  | succ q ih => exact rKid_bs ih
theorem rByt_len {st} (c : Nat) : (rByt c st).1.length ≤ c := by
  rcases st with _ | ys
  · simp [rByt]
  · unfold rByt
    simp only
    split
    · simp; omega
    · simp
theorem rPart_len {st} (h : Bs st) : (rPart st).1.length ≤ 255 := by
  have h1 := rByt_len (st := (rNum st).2) (rNum st).1.toNat
  have h2 := (rNum_bs h).2
  unfold rPart
  omega
theorem rKids_len (q : Nat) {st} : (rKids q st).1.length = q := by
  induction q with
  | zero => rfl
  | succ q ih => simp [rKids, ih]

/-! what was read stands there -/
theorem rNum_back {st a r} (h : rNum st = (a, some r)) : st = some (a :: r) := by
  rcases st with _ | _ | ⟨y, q⟩
  · cases h
  · cases h
  · cases h; rfl
theorem rByt_back {st c xs r} (h : rByt c st = (xs, some r)) : st = some (xs ++ r) ∧ xs.length = c := by
  rcases st with _ | ys
  · cases h
  · unfold rByt at h
    simp only at h
    split at h
    · cases h
      exact ⟨by rw [List.take_append_drop], by simp; omega⟩
    · cases h
theorem rPart_back {st xs r} (hb : Bs st) (h : rPart st = (xs, some r)) : st = some ((xs.length : Int) :: (xs ++ r)) := by
  obtain ⟨h1, h2⟩ := rByt_back h
  have hp := (rNum_bs hb).2
  rw [rNum_back (st := st) (a := (rNum st).1) (r := xs ++ r) (Prod.ext rfl h1)]
  rw [h2]
  congr 2
  omega
theorem rKid_back {st k r} (hb : Bs st) (h : rKid st = (k, some r)) (hk : 1 ≤ k.2) : st = some (kidBytes k ++ r) ∧ k.2 ≤ 9223372036854775807 := by
  have e1 : k = ((rNum st).1, nm8 (rByt 8 (rNum st).2).1) := (congrArg Prod.fst h).symm
  have e2 : (rByt 8 (rNum st).2).2 = some r := congrArg Prod.snd h
  obtain ⟨h1, h2⟩ := rByt_back (st := (rNum st).2) (c := 8) (xs := (rByt 8 (rNum st).2).1) (r := r) (Prod.ext rfl e2)
  have hr := (rByt_bs 8 (rNum_bs hb).1).2
  have hn := (rNum_bs hb).2
  generalize (rByt 8 (rNum st).2).1 = xs at h1 h2 hr e1
  have h3 := rNum_back (st := st) (a := (rNum st).1) (r := xs ++ r) (Prod.ext rfl h1)
  subst e1
  simp only at hk ⊢
  unfold nm8 at hk ⊢
  split at hk
  · rename_i hc
    rw [if_pos hc]
    refine ⟨?_, (leW_yes xs hr h2 hc.2).2.2⟩
    refine h3.trans ?_
    unfold kidBytes
    simp only
    rw [bytes_of_back xs hr h2 hc.2, Int.emod_eq_of_lt hn.1 (by omega)]
    rfl
  · omega
theorem rKids_back {st r} (q : Nat) (hb : Bs st) (h : (rKids q st).2 = some r) (hk : ∀ k ∈ (rKids q st).1, 1 ≤ k.2) : st = some ((rKids q st).1.flatMap kidBytes ++ r) ∧ ∀ k ∈ (rKids q st).1, k.2 ≤ 9223372036854775807 := by
  induction q generalizing r with
  | zero => exact ⟨by simpa [rKids] using h, by simp [rKids]⟩
  | succ q ih =>
    have h0 : (rKid (rKids q st).2).2 = some r := h
    obtain ⟨h1, h2⟩ := rKid_back (rKids_bs q hb) (k := (rKid (rKids q st).2).1) (r := r) (Prod.ext rfl h0) (hk _ (by simp [rKids]))
    obtain ⟨h3, h4⟩ := ih h1 (fun k hm => hk k (by simp [rKids, hm]))
    refine ⟨?_, fun k hm => ?_⟩
    · conv => lhs; rw [h3]
      simp [rKids]
    · simp only [rKids, List.mem_append, List.mem_singleton] at hm
      rcases hm with hm | rfl
      · exact h4 k hm
      · exact h2
theorem rNode_back {bs} (hb : Bs (some bs)) (h : (rNode (some bs)).2 = some []) (ok : nodeOk (rNode (some bs)).1 = true) : NodeRead bs (rNode (some bs)).1 true := by
  have b1 := (rNum_bs hb)
  have b2 := rPart_bs b1.1
  have b3 := rPart_bs b2.1
  have b4 := rNum_bs b3.1
  have hks := (nodeOk_parts _ ok).2.1
  have hk1 : ∀ k ∈ (rNode (some bs)).1.kids, 1 ≤ k.2 := fun k hk => (kidsOk_mem _ hks k hk).2
  obtain ⟨k1, k2⟩ := rKids_back (r := []) (rNum (rPart (rPart (rNum (some bs)).2).2).2).1.toNat b4.1 h hk1
  have kl := rKids_len (rNum (rPart (rPart (rNum (some bs)).2).2).2).1.toNat (st := (rNum (rPart (rPart (rNum (some bs)).2).2).2).2)
  refine .inl ⟨rfl, ok, k2, ?_⟩
  unfold nodeBytes
  rw [if_pos ok]
  unfold rNode rawBytes
  simp only
  have e3 := rNum_back (st := (rPart (rPart (rNum (some bs)).2).2).2) (Prod.ext rfl k1)
  have e2 := rPart_back (st := (rPart (rNum (some bs)).2).2) b2.1 (Prod.ext rfl e3)
  have e1 := rPart_back (st := (rNum (some bs)).2) b1.1 (Prod.ext rfl e2)
  have e0 := rNum_back (st := some bs) (Prod.ext rfl e1)
  have l1 := rPart_len b1.1
  have l2 := rPart_len b2.1
  have hm : (rPart (rNum (some bs)).2).1.map (· % 256) = (rPart (rNum (some bs)).2).1 := by
    conv => rhs; rw [← List.map_id (rPart (rNum (some bs)).2).1]
    apply List.map_congr_left
    intro z hz
    have := b2.2 z hz
    simp; omega
  injection e0 with e0
  rw [hm, sb_str _ b3.2, strOfNums_size]
  have d0 : (rNum (some bs)).1 % 256 = (rNum (some bs)).1 := by omega
  have d1 : ((rPart (rNum (some bs)).2).1.length : Int) % 256 = (rPart (rNum (some bs)).2).1.length := by omega
  have d2 : ((rPart (rPart (rNum (some bs)).2).2).1.length : Int) % 256 = (rPart (rPart (rNum (some bs)).2).2).1.length := by omega
  have d3 : ((rAll (rPart (rPart (rNum (some bs)).2).2).2).1.length : Int) % 256 = (rNum (rPart (rPart (rNum (some bs)).2).2).2).1 := by
    unfold rAll
    rw [kl]; omega
  rw [d0, d1, d2, d3]
  conv => rhs; rw [e0]
  simp [rAll]

/-! what is written is read -/
theorem rByt_of (xs r : List Int) : rByt xs.length (some (xs ++ r)) = (xs, some r) := by simp [rByt]
theorem rPart_of (xs r : List Int) : rPart (some ((xs.length : Int) :: (xs ++ r))) = (xs, some r) := by
  show rByt ((xs.length : Int)).toNat (some (xs ++ r)) = _
  rw [Int.toNat_natCast]; exact rByt_of xs r
theorem rKid_of (k : Int × Int) (r : List Int) (h0 : 0 ≤ k.1 ∧ k.1 ≤ 15) (h1 : 1 ≤ k.2 ∧ k.2 ≤ 9223372036854775807) : rKid (some (kidBytes k ++ r)) = (k, some r) := by
  obtain ⟨hb1, hb2, hb3⟩ := back_of_bytes k.2 (by omega)
  have e : rByt 8 (some (nameBytes k.2 ++ r)) = (nameBytes k.2, some r) := by
    have := rByt_of (nameBytes k.2) r
    rwa [hb2] at this
  have en : rNum (some (kidBytes k ++ r)) = (k.1, some (nameBytes k.2 ++ r)) := by
    unfold kidBytes
    show (k.1 % 256, some (nameBytes k.2 ++ r)) = _
    rw [Int.emod_eq_of_lt h0.1 (by omega)]
  unfold rKid
  rw [en]
  simp only
  rw [e]
  simp only
  have : nm8 (nameBytes k.2) = k.2 := by
    unfold nm8
    rw [if_pos ⟨hb2, hb3⟩]; exact hb1
  rw [this]
theorem rKids_of (ks : List (Int × Int)) (r : List Int) (h : ∀ k ∈ ks, (0 ≤ k.1 ∧ k.1 ≤ 15) ∧ (1 ≤ k.2 ∧ k.2 ≤ 9223372036854775807)) (m : Nat) (hm : m ≤ ks.length) :
    rKids m (some (ks.flatMap kidBytes ++ r)) = (ks.take m, some ((ks.drop m).flatMap kidBytes ++ r)) := by
  induction m with
  | zero => simp [rKids]
  | succ m ih =>
    have hlt : m < ks.length := by omega
    unfold rKids
    rw [ih (by omega)]
    simp only
    rw [List.drop_eq_getElem_cons hlt, List.flatMap_cons, List.append_assoc]
    have hx := h ks[m] (List.getElem_mem hlt)
    rw [rKid_of ks[m] _ hx.1 hx.2, List.take_succ_eq_append_getElem hlt]
theorem rNode_of (nd : MNode) (bs : List Int) (h : nodeOk nd = true) (hw : NodeWf nd) (he : nodeBytes nd = bs) : rNode (some bs) = (nd, some []) := by
  have pa := (isPath_iff _).1 (nodeOk_parts nd h).1
  have ka := nodeOk_kind nd h
  have va := nodeOk_val nd h
  have ca := (nodeOk_parts nd h).2.1
  have na := kidsOk_len _ ca
  have hsb := sb_len nd.val
  have hbs : bs = nd.kind :: (nd.path.length : Int) :: (nd.path ++ (((sb nd.val).length : Int) :: (sb nd.val ++ ((nd.kids.length : Int) :: (nd.kids.flatMap kidBytes ++ []))))) := by
    rw [← he]
    unfold nodeBytes
    rw [if_pos h]
    unfold rawBytes
    rw [map_mod nd.path pa.2]
    have d0 : nd.kind % 256 = nd.kind := by omega
    have d1 : (nd.path.length : Int) % 256 = nd.path.length := by omega
    have d2 : (nd.val.size : Int) % 256 = nd.val.size := by omega
    have d3 : (nd.kids.length : Int) % 256 = nd.kids.length := by omega
    rw [d0, d1, d2, d3, hsb]
    simp
  have e0 : rNum (some bs) = (nd.kind, some ((nd.path.length : Int) :: (nd.path ++ (((sb nd.val).length : Int) :: (sb nd.val ++ ((nd.kids.length : Int) :: (nd.kids.flatMap kidBytes ++ []))))))) := by rw [hbs]; rfl
  have e1 := rPart_of nd.path (((sb nd.val).length : Int) :: (sb nd.val ++ ((nd.kids.length : Int) :: (nd.kids.flatMap kidBytes ++ []))))
  have e2 := rPart_of (sb nd.val) ((nd.kids.length : Int) :: (nd.kids.flatMap kidBytes ++ []))
  have e3 : rAll (some ((nd.kids.length : Int) :: (nd.kids.flatMap kidBytes ++ []))) = (nd.kids, some []) := by
    show rKids ((nd.kids.length : Int)).toNat (some (nd.kids.flatMap kidBytes ++ [])) = _
    rw [Int.toNat_natCast, rKids_of nd.kids [] (fun k hk => ⟨(kidsOk_mem _ ca k hk).1, (kidsOk_mem _ ca k hk).2, hw k hk⟩) _ (Nat.le_refl _)]
    simp
  unfold rNode
  rw [e0]
  simp only
  rw [e1]
  simp only
  rw [e2]
  simp only
  rw [e3, str_sb]
theorem rNode_none {bs} (h : ¬ ((rNode (some bs)).2 = some [] ∧ nodeOk (rNode (some bs)).1 = true)) : NodeRead bs node0 false :=
  .inr ⟨rfl, rfl, fun nd h1 h2 h3 => h (by rw [rNode_of nd bs h1 h2 h3]; exact ⟨rfl, h1⟩)⟩
end Go.Proofs.Ytjmlpekaehfeeaa
