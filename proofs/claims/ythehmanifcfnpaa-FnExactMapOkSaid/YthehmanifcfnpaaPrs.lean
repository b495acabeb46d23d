/- Slices of pairs of texts: one that reads as a list of pairs, one that the call made and may write into; no statement of the program is proved here. -/
import Derived.Test.YthehmanifcfnpaaTouch
import Derived.Test.YthehmanifcfnpaaFindM
namespace Go.Proofs.Ythehmanifcfnpaa
set_option maxRecDepth 20000
set_option linter.unusedVariables false
set_option linter.unusedSimpArgs false
open Go.RowKit

/-- the i-th pair of a list. -/
def pe (ps : List (ByteArray × ByteArray)) (i : Nat) : ByteArray × ByteArray := ps[i]?.getD (noStr, noStr)
theorem pe_set (ps : List (ByteArray × ByteArray)) (k : Nat) (x : ByteArray × ByteArray) (i : Nat) (hk : k < ps.length) : pe (ps.set k x) i = if i = k then x else pe ps i := by
  unfold pe
  by_cases h : i = k
  · subst h
    rw [if_pos rfl, List.getElem?_set_self hk]; rfl
  · rw [if_neg h, List.getElem?_set_ne (by omega)]
theorem pe_append (ps : List (ByteArray × ByteArray)) (x : ByteArray × ByteArray) (i : Nat) : pe (ps ++ [x]) i = if i = ps.length then x else pe ps i := by
  unfold pe
  by_cases h : i = ps.length
  · subst h
    simp
  · rw [if_neg h]
    rcases Nat.lt_or_ge i ps.length with h1 | h1
    · rw [List.getElem?_append_left h1]
    · rw [List.getElem?_eq_none (by simp; omega), List.getElem?_eq_none (by omega)]
theorem pe_mem (ps : List (ByteArray × ByteArray)) (i : Nat) (h : i < ps.length) : pe ps i ∈ ps := by
  unfold pe
  rw [List.getElem?_eq_getElem h]; exact List.getElem_mem h
theorem pe_take (ps : List (ByteArray × ByteArray)) (k : Nat) (h : k < ps.length) : ps.take (k + 1) = ps.take k ++ [pe ps k] := by
  unfold pe
  rw [List.take_succ_eq_append_getElem h, List.getElem?_eq_getElem h]; rfl

/-- the texts of some pairs, one behind the other. -/
def sv (ps : List (ByteArray × ByteArray)) : List Value := ps.flatMap fun p => [.string p.1, .string p.2]
theorem sv_len (ps : List (ByteArray × ByteArray)) : (sv ps).length = ps.length * 2 := by
  induction ps with
  | nil => rfl
  | cons k r ih => simp [sv] at ih ⊢; omega
theorem sv_cons (k : ByteArray × ByteArray) (r : List (ByteArray × ByteArray)) : sv (k :: r) = .string k.1 :: .string k.2 :: sv r := rfl
theorem sv_append (a b : List (ByteArray × ByteArray)) : sv (a ++ b) = sv a ++ sv b := by simp [sv]
theorem sv_at0 (ps : List (ByteArray × ByteArray)) (k : Nat) (h : k < ps.length) : (sv ps)[k * 2]? = some (.string (pe ps k).1) := by
  induction ps generalizing k with
  | nil => simp at h
  | cons x r ih =>
    rcases k with _ | k
    · rfl
    · rw [sv_cons, show (k + 1) * 2 = k * 2 + 1 + 1 by omega, List.getElem?_cons_succ, List.getElem?_cons_succ, ih k (by simpa using h)]; rfl
theorem sv_at1 (ps : List (ByteArray × ByteArray)) (k : Nat) (h : k < ps.length) : (sv ps)[k * 2 + 1]? = some (.string (pe ps k).2) := by
  induction ps generalizing k with
  | nil => simp at h
  | cons x r ih =>
    rcases k with _ | k
    · rfl
    · rw [sv_cons, show (k + 1) * 2 + 1 = k * 2 + 1 + 1 + 1 by omega, List.getElem?_cons_succ, List.getElem?_cons_succ, ih k (by simpa using h)]; rfl
theorem sv_set0 (ps : List (ByteArray × ByteArray)) (k : Nat) (z : ByteArray) : (sv ps).set (k * 2) (.string z) = sv (ps.set k (z, (pe ps k).2)) := by
  induction ps generalizing k with
  | nil => simp [sv]
  | cons x r ih =>
    rcases k with _ | k
    · rfl
    · rw [sv_cons, show (k + 1) * 2 = k * 2 + 1 + 1 by omega, List.set_cons_succ, List.set_cons_succ, ih k]; rfl
theorem sv_set1 (ps : List (ByteArray × ByteArray)) (k : Nat) (z : ByteArray) : (sv ps).set (k * 2 + 1) (.string z) = sv (ps.set k ((pe ps k).1, z)) := by
  induction ps generalizing k with
  | nil => simp [sv]
  | cons x r ih =>
    rcases k with _ | k
    · rfl
    · rw [sv_cons, show (k + 1) * 2 + 1 = k * 2 + 1 + 1 + 1 by omega, List.set_cons_succ, List.set_cons_succ, ih k]; rfl

/-- the slice value '.slice A n c' of pairs reads as ps, below block B. -/
def Prs (w : World) (B : Nat) (A : Option Addr) (n : Nat) (ps : List (ByteArray × ByteArray)) : Prop :=
  ps.length = n ∧ (0 < n → ∃ b off, A = some ⟨b, off, none⟩ ∧ b < B ∧ ∀ i, i < n → w.cell? ⟨b, off + i * 2, none⟩ = some (.string (pe ps i).1) ∧ w.cell? ⟨b, off + i * 2 + 1, none⟩ = some (.string (pe ps i).2))
section
variable {w w' : World} {B B' n : Nat} {A : Option Addr} {ps : List (ByteArray × ByteArray)}
theorem Prs.none_ : Prs w B A 0 [] := ⟨rfl, fun h => absurd h (by omega)⟩
theorem Prs.at_ {k : Nat} (h : Prs w B A n ps) (hk : k < n) : ∃ b off, A = some ⟨b, off, none⟩ ∧ b < B ∧ w.cell? ⟨b, off + k * 2, none⟩ = some (.string (pe ps k).1) ∧ w.cell? ⟨b, off + k * 2 + 1, none⟩ = some (.string (pe ps k).2) := by
  obtain ⟨b, off, e, hb, hc⟩ := h.2 (by omega)
  exact ⟨b, off, e, hb, (hc k hk).1, (hc k hk).2⟩
theorem Prs.keep (h : Prs w B A n ps) (hk : ∀ p : Addr, p.block < B → w'.cell? p = w.cell? p) : Prs w' B A n ps :=
  ⟨h.1, fun hn => by
    obtain ⟨b, off, e, hb, hc⟩ := h.2 hn
    exact ⟨b, off, e, hb, fun i hi => ⟨(hk _ hb).trans (hc i hi).1, (hk _ hb).trans (hc i hi).2⟩⟩⟩
theorem Prs.more (h : Prs w B A n ps) (hB : B ≤ B') : Prs w B' A n ps :=
  ⟨h.1, fun hn => by
    obtain ⟨b, off, e, hb, hc⟩ := h.2 hn
    exact ⟨b, off, e, by omega, hc⟩⟩
theorem Prs.below (h : Prs w B A n ps) (hb : Below B w w') : Prs w' B A n ps := h.keep fun _ hp => hb.cell hp
theorem Prs.drewN (h : Prs w B A n ps) (k : Nat) : Prs (w.drewN k) B A n ps := h
theorem Prs.alloc (h : Prs w B A n ps) (hB : B ≤ w.heap.size) (o : Obj) : Prs (w.alloc o) B A n ps := h.keep fun p hp => World.cell?_alloc_lt w o p (by omega)
theorem Prs.grown (h : Prs w B A n ps) {row : Option Nat} (hg : w.grownBy w' row) (hB : B ≤ w.heap.size) (hr : ∀ g, row = some g → B ≤ g) : Prs w' B A n ps :=
  h.keep fun p hp => World.cell?_of_block (hg.block p.block (by omega) (fun e => by have := hr _ e.symm; omega))
end

theorem Try.infoP : (Try.prog.info? 43).map (fun i => (i.zero, i.size, i.bytes)) = some (some (.agg #[.string { data := #[] }, .string { data := #[] }]), 2, 32) := by kernel_rfl

/-- the slice '.slice A n c' of pairs lies in a block of the call's own, from base on, and holds ps. -/
def OwnQ (w : World) (base : Nat) (A : Option Addr) (n c : Nat) (ps : List (ByteArray × ByteArray)) : Prop :=
  w.ownsRow base 43 2 (.slice A n c) n (sv ps)
section
variable {w w' : World} {base n c : Nat} {A : Option Addr} {ps : List (ByteArray × ByteArray)}
theorem OwnQ.nil (w : World) (base : Nat) : OwnQ w base none 0 0 [] := World.ownsRow_nil _ _ _ _
theorem OwnQ.len (h : OwnQ w base A n c ps) : ps.length = n := by have := h.1; simp [sv_len] at this; omega
theorem OwnQ.form (h : OwnQ w base A n c ps) (hn : 0 < n) : ∃ g, A = some ⟨g, 0, none⟩ ∧ base ≤ g ∧ g < w.heap.size := by
  obtain ⟨g, cap, hv, h1, h2⟩ := World.ownsRow.form h hn
  injection hv with hA
  exact ⟨g, hA, h1, h2⟩
theorem OwnQ.cap (h : OwnQ w base A n c ps) : n ≤ c := by
  rcases h.2 with ⟨e, hx⟩ | ⟨g', cap, cur, e, _, _, hn, _⟩
  · have e2 : n = 0 := by simpa using hx
    omega
  · cases e; exact hn
theorem OwnQ.nilc (h : OwnQ w base A n c ps) (hA : A = none) : c = 0 := by
  rcases h.2 with ⟨e, hx⟩ | ⟨g', cap, cur, e, _, _, hn, _⟩
  · cases e; rfl
  · subst hA; cases e
theorem OwnQ.prs (h : OwnQ w base A n c ps) : Prs w w.heap.size A n ps :=
  ⟨h.len, fun hn => by
    obtain ⟨g, rfl, _, hlt⟩ := h.form (by omega)
    have hl := h.len
    refine ⟨g, 0, rfl, hlt, fun i hi => ⟨?_, ?_⟩⟩
    · rw [Nat.zero_add, World.ownsRow.cellAt h _ (by omega), sv_at0 ps i (by omega)]
    · rw [Nat.zero_add, World.ownsRow.cellAt h _ (by omega), sv_at1 ps i (by omega)]⟩
theorem OwnQ.cell0 {g : Nat} (h : OwnQ w base (some ⟨g, 0, none⟩) n c ps) {k : Nat} (hk : k < n) : w.cell? ⟨g, k * 2, none⟩ = some (.string (pe ps k).1) := by
  obtain ⟨b, off, e, _, h1, _⟩ := h.prs.at_ hk
  cases e
  rwa [Nat.zero_add] at h1
theorem OwnQ.cell1 {g : Nat} (h : OwnQ w base (some ⟨g, 0, none⟩) n c ps) {k : Nat} (hk : k < n) : w.cell? ⟨g, k * 2 + 1, none⟩ = some (.string (pe ps k).2) := by
  obtain ⟨b, off, e, _, _, h1⟩ := h.prs.at_ hk
  cases e
  rwa [Nat.zero_add] at h1
theorem OwnQ.free {g : Nat} (h : OwnQ w base (some ⟨g, 0, none⟩) n c ps) (k : Nat) : w.frozen? ⟨g, k, none⟩ = false := World.ownsRow.frozenAt h k
theorem OwnQ.touch {S : Nat → Prop} (h : OwnQ w base A n c ps) (t : Touch S w w') (hn : ∀ g, (Value.slice A n c).ownBlock = some g → ¬ S g) : OwnQ w' base A n c ps := own_touch h t hn
theorem OwnQ.below (h : OwnQ w base A n c ps) (hb : Below w.heap.size w w') : OwnQ w' base A n c ps :=
  World.ownsRow.kept h (row := none) ⟨hb.os, hb.tape, hb.output, hb.size, fun k hk _ => hb.block k hk⟩ (by cases hA : Value.ownBlock (.slice A n c) <;> simp)
theorem OwnQ.drewN (h : OwnQ w base A n c ps) (m : Nat) : OwnQ (w.drewN m) base A n c ps := h.below (below_drewN (Below.refl _ _) m)
theorem OwnQ.set0 {g : Nat} (h : OwnQ w base (some ⟨g, 0, none⟩) n c ps) (k : Nat) (z : ByteArray) :
    OwnQ (w.setCell ⟨g, k * 2, none⟩ (.string z)) base (some ⟨g, 0, none⟩) n c (ps.set k (z, (pe ps k).2)) ∧ w.grownBy (w.setCell ⟨g, k * 2, none⟩ (.string z)) (some g) := by
  obtain ⟨h1, h2⟩ := World.ownsRow.stored h (k * 2) (.string z)
  exact ⟨by unfold OwnQ; rw [← sv_set0]; exact h1, h2⟩
theorem OwnQ.set1 {g : Nat} (h : OwnQ w base (some ⟨g, 0, none⟩) n c ps) (k : Nat) (z : ByteArray) :
    OwnQ (w.setCell ⟨g, k * 2 + 1, none⟩ (.string z)) base (some ⟨g, 0, none⟩) n c (ps.set k ((pe ps k).1, z)) ∧ w.grownBy (w.setCell ⟨g, k * 2 + 1, none⟩ (.string z)) (some g) := by
  obtain ⟨h1, h2⟩ := World.ownsRow.stored h (k * 2 + 1) (.string z)
  exact ⟨by unfold OwnQ; rw [← sv_set1]; exact h1, h2⟩
theorem OwnQ.put {g : Nat} (h : OwnQ w base (some ⟨g, 0, none⟩) n c ps) (k : Nat) (a m : ByteArray) :
    OwnQ ((w.setCell ⟨g, k * 2, none⟩ (.string a)).setCell ⟨g, k * 2 + 1, none⟩ (.string m)) base (some ⟨g, 0, none⟩) n c (ps.set k (a, m)) ∧ w.grownBy ((w.setCell ⟨g, k * 2, none⟩ (.string a)).setCell ⟨g, k * 2 + 1, none⟩ (.string m)) (some g) := by
  obtain ⟨h1, g1⟩ := h.set0 k a
  obtain ⟨h2, g2⟩ := h1.set1 k m
  refine ⟨?_, g1.trans g2⟩
  have e : (ps.set k (a, (pe ps k).2)).set k ((pe (ps.set k (a, (pe ps k).2)) k).1, m) = ps.set k (a, m) := by
    rw [List.set_set]
    by_cases hk : k < ps.length
    · rw [pe_set _ _ _ _ hk, if_pos rfl]
    · rw [List.set_eq_of_length_le (by omega), List.set_eq_of_length_le (by omega)]
  rw [e] at h2
  exact h2
theorem OwnQ.of_alloc (w : World) (base : Nat) (ps : List (ByteArray × ByteArray)) (n : Nat) (hb : base ≤ w.heap.size) (hn : ps.length = n) (hm : n ≤ maxLen) :
    OwnQ (w.alloc (.cells (sv ps).toArray 43)) base (some ⟨w.heap.size, 0, none⟩) n n ps := by
  have := World.ownsRow_lit (base := base) (e := 43) (size := 2) w (sv ps).toArray n hb hm (by simp [sv_len, hn])
  simpa [OwnQ] using this
theorem OwnQ.base_ {base' : Nat} (h : OwnQ w base A n c ps) (hb : base' ≤ base) : OwnQ w base' A n c ps := by
  refine ⟨h.1, ?_⟩
  rcases h.2 with h | ⟨g, cap, cur, hv, hg, r⟩
  · exact .inl h
  · exact .inr ⟨g, cap, cur, hv, by omega, r⟩
theorem OwnQ.grown (h : OwnQ w base A n c ps) {row : Option Nat} (hg : w.grownBy w' row) (hr : ∀ r, row = some r → r < base) : OwnQ w' base A n c ps := by
  refine World.ownsRow.kept h hg ?_
  rcases hb : (Value.slice A n c).ownBlock with _ | k
  · exact .inl rfl
  · right
    intro e
    have := hr k e.symm
    have := (h.lt k hb).1
    omega
end
/-- what a call leaves that hands back pairs of its own. -/
def GaveQ (w : World) (ps : List (ByteArray × ByteArray)) (e : Ending) (w' : World) : Prop := ∃ A n c, e = .returned (.slice A n c) ∧ OwnQ w' w.heap.size A n c ps ∧ Below w.heap.size w w'
end Go.Proofs.Ythehmanifcfnpaa
