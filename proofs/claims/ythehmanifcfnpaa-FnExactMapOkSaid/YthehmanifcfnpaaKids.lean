/- Slices of kids: one that reads as a list of pairs of numbers, one that the call made and may write into; no statement of the program is proved here. -/
import Derived.Test.YthehmanifcfnpaaInts
import Derived.Deep.SlicePairs
namespace Go.Proofs.Ythehmanifcfnpaa
set_option maxRecDepth 20000
open Go.RowKit

/-- the numbers of some kids, one behind the other. -/
def kv (ks : List (Int × Int)) : List Int := ks.flatMap fun k => [k.1, k.2]
theorem kv_len (ks : List (Int × Int)) : (kv ks).length = ks.length * 2 := by
  induction ks with
  | nil => rfl
  | cons k r ih => simp [kv] at ih ⊢; omega
theorem kv_cons (k : Int × Int) (r : List (Int × Int)) : kv (k :: r) = k.1 :: k.2 :: kv r := rfl
theorem kv_append (a b : List (Int × Int)) : kv (a ++ b) = kv a ++ kv b := by simp [kv]
theorem kv_at0 (ks : List (Int × Int)) (k : Nat) : (kv ks)[k * 2]?.getD 0 = (ks[k]?.getD (0, 0)).1 := by
  induction ks generalizing k with
  | nil => simp [kv]
  | cons x r ih =>
    rcases k with _ | k
    · rfl
    · rw [kv_cons, show (k + 1) * 2 = k * 2 + 1 + 1 by omega, List.getElem?_cons_succ, List.getElem?_cons_succ, ih k]; rfl
theorem kv_at1 (ks : List (Int × Int)) (k : Nat) : (kv ks)[k * 2 + 1]?.getD 0 = (ks[k]?.getD (0, 0)).2 := by
  induction ks generalizing k with
  | nil => simp [kv]
  | cons x r ih =>
    rcases k with _ | k
    · rfl
    · rw [kv_cons, show (k + 1) * 2 + 1 = k * 2 + 1 + 1 + 1 by omega, List.getElem?_cons_succ, List.getElem?_cons_succ, ih k]; rfl

/-- the slice value '.slice A n c' of kids reads as ks, below block B. -/
def Kids (w : World) (B : Nat) (A : Option Addr) (n : Nat) (ks : List (Int × Int)) : Prop := ks.length = n ∧ Ints w B A (n * 2) (kv ks)
section
variable {w w' : World} {B B' n : Nat} {A : Option Addr} {ks : List (Int × Int)}
theorem Kids.none_ : Kids w B A 0 [] := ⟨rfl, Ints.none_⟩
theorem Kids.at_ {k : Nat} (h : Kids w B A n ks) (hk : k < n) : ∃ b off, A = some ⟨b, off, none⟩ ∧ b < B ∧ w.cell? ⟨b, off + k * 2, none⟩ = some (.int .i64 (ks[k]?.getD (0, 0)).1) ∧ w.cell? ⟨b, off + k * 2 + 1, none⟩ = some (.int .i64 (ks[k]?.getD (0, 0)).2) := by
  obtain ⟨b, off, e, hb, hc⟩ := h.2.2 (by omega)
  refine ⟨b, off, e, hb, ?_, ?_⟩
  · have := hc (k * 2) (by omega)
    rw [this, ← kv_at0]; simp
  · have := hc (k * 2 + 1) (by omega)
    rw [Nat.add_assoc, this, ← kv_at1]; simp
theorem Kids.keep (h : Kids w B A n ks) (hk : ∀ p : Addr, p.block < B → w'.cell? p = w.cell? p) : Kids w' B A n ks := ⟨h.1, h.2.keep hk⟩
theorem Kids.more (h : Kids w B A n ks) (hB : B ≤ B') : Kids w B' A n ks := ⟨h.1, h.2.more hB⟩
theorem Kids.below (h : Kids w B A n ks) (hb : Below B w w') : Kids w' B A n ks := ⟨h.1, h.2.below hb⟩
theorem Kids.drewN (h : Kids w B A n ks) (k : Nat) : Kids (w.drewN k) B A n ks := h
theorem Kids.alloc (h : Kids w B A n ks) (hB : B ≤ w.heap.size) (o : Obj) : Kids (w.alloc o) B A n ks := ⟨h.1, h.2.alloc hB o⟩
theorem Kids.grown (h : Kids w B A n ks) {row : Option Nat} (hg : w.grownBy w' row) (hB : B ≤ w.heap.size) (hr : ∀ g, row = some g → B ≤ g) : Kids w' B A n ks := ⟨h.1, h.2.grown hg hB hr⟩
end

theorem Try.infoK : (Try.prog.info? 85).map (fun i => (i.zero, i.size, i.bytes)) = some (some (.agg #[.int .i64 0, .int .i64 0]), 2, 16) := by kernel_rfl

/-- the slice '.slice A n c' of kids lies in a block of the call's own, from base on, and holds ks. -/
def OwnK (w : World) (base : Nat) (A : Option Addr) (n c : Nat) (ks : List (Int × Int)) : Prop :=
  w.ownsRow base 85 2 (.slice A n c) n ((kv ks).map (Value.int .i64))
section
variable {w w' : World} {base n c : Nat} {A : Option Addr} {ks : List (Int × Int)}
theorem OwnK.nil (w : World) (base : Nat) : OwnK w base none 0 0 [] := World.ownsRow_nil _ _ _ _
theorem OwnK.len (h : OwnK w base A n c ks) : ks.length = n := by have := h.1; simp [kv_len] at this; omega
theorem OwnK.form (h : OwnK w base A n c ks) (hn : 0 < n) : ∃ g, A = some ⟨g, 0, none⟩ ∧ base ≤ g ∧ g < w.heap.size := by
  obtain ⟨g, cap, hv, h1, h2⟩ := World.ownsRow.form h hn
  injection hv with hA
  exact ⟨g, hA, h1, h2⟩
theorem OwnK.kids (h : OwnK w base A n c ks) : Kids w w.heap.size A n ks :=
  ⟨h.len, by rw [kv_len, h.len], fun hn => by
    obtain ⟨g, rfl, _, hlt⟩ := h.form (by omega)
    refine ⟨g, 0, rfl, hlt, fun i hi => ?_⟩
    rw [Nat.zero_add, World.ownsRow.cellAt h i (by omega)]
    have := h.len
    simp [show i < (kv ks).length by rw [kv_len]; omega]⟩
theorem OwnK.cell0 {g : Nat} (h : OwnK w base (some ⟨g, 0, none⟩) n c ks) {k : Nat} (hk : k < n) : w.cell? ⟨g, k * 2, none⟩ = some (.int .i64 (ks[k]?.getD (0, 0)).1) := by
  obtain ⟨b, off, e, _, h1, _⟩ := h.kids.at_ hk
  cases e
  rwa [Nat.zero_add] at h1
theorem OwnK.cell1 {g : Nat} (h : OwnK w base (some ⟨g, 0, none⟩) n c ks) {k : Nat} (hk : k < n) : w.cell? ⟨g, k * 2 + 1, none⟩ = some (.int .i64 (ks[k]?.getD (0, 0)).2) := by
  obtain ⟨b, off, e, _, _, h1⟩ := h.kids.at_ hk
  cases e
  rwa [Nat.zero_add] at h1
theorem OwnK.free {g : Nat} (h : OwnK w base (some ⟨g, 0, none⟩) n c ks) (k : Nat) : w.frozen? ⟨g, k, none⟩ = false := World.ownsRow.frozenAt h k
theorem OwnK.below (h : OwnK w base A n c ks) (hb : Below w.heap.size w w') : OwnK w' base A n c ks :=
  World.ownsRow.kept h (row := none) ⟨hb.os, hb.tape, hb.output, hb.size, fun k hk _ => hb.block k hk⟩ (by cases hA : Value.ownBlock (.slice A n c) <;> simp)
theorem OwnK.drewN (h : OwnK w base A n c ks) (m : Nat) : OwnK (w.drewN m) base A n c ks := h.below (below_drewN (Below.refl _ _) m)
end
theorem kv_set0 (ks : List (Int × Int)) (k : Nat) (z : Int) : (kv ks).set (k * 2) z = kv (ks.set k (z, (ks[k]?.getD (0, 0)).2)) := by
  induction ks generalizing k with
  | nil => simp [kv]
  | cons x r ih =>
    rcases k with _ | k
    · rfl
    · rw [kv_cons, show (k + 1) * 2 = k * 2 + 1 + 1 by omega, List.set_cons_succ, List.set_cons_succ, ih k]; rfl
theorem kv_set1 (ks : List (Int × Int)) (k : Nat) (z : Int) : (kv ks).set (k * 2 + 1) z = kv (ks.set k ((ks[k]?.getD (0, 0)).1, z)) := by
  induction ks generalizing k with
  | nil => simp [kv]
  | cons x r ih =>
    rcases k with _ | k
    · rfl
    · rw [kv_cons, show (k + 1) * 2 + 1 = k * 2 + 1 + 1 + 1 by omega, List.set_cons_succ, List.set_cons_succ, ih k]; rfl
section
variable {w w' : World} {base n c : Nat} {ks : List (Int × Int)}
theorem OwnK.set0 {g : Nat} (h : OwnK w base (some ⟨g, 0, none⟩) n c ks) (k : Nat) (z : Int) :
    OwnK (w.setCell ⟨g, k * 2, none⟩ (.int .i64 z)) base (some ⟨g, 0, none⟩) n c (ks.set k (z, (ks[k]?.getD (0, 0)).2)) ∧ w.grownBy (w.setCell ⟨g, k * 2, none⟩ (.int .i64 z)) (some g) := by
  obtain ⟨h1, h2⟩ := World.ownsRow.stored h (k * 2) (.int .i64 z)
  exact ⟨by unfold OwnK; rw [← kv_set0, List.map_set]; exact h1, h2⟩
theorem OwnK.set1 {g : Nat} (h : OwnK w base (some ⟨g, 0, none⟩) n c ks) (k : Nat) (z : Int) :
    OwnK (w.setCell ⟨g, k * 2 + 1, none⟩ (.int .i64 z)) base (some ⟨g, 0, none⟩) n c (ks.set k ((ks[k]?.getD (0, 0)).1, z)) ∧ w.grownBy (w.setCell ⟨g, k * 2 + 1, none⟩ (.int .i64 z)) (some g) := by
  obtain ⟨h1, h2⟩ := World.ownsRow.stored h (k * 2 + 1) (.int .i64 z)
  exact ⟨by unfold OwnK; rw [← kv_set1, List.map_set]; exact h1, h2⟩
theorem OwnK.of_alloc (w : World) (base : Nat) (ks : List (Int × Int)) (n : Nat) (hb : base ≤ w.heap.size) (hn : ks.length = n) (hm : n ≤ maxLen) :
    OwnK (w.alloc (.cells (i64s (kv ks)) 85)) base (some ⟨w.heap.size, 0, none⟩) n n ks :=
  World.ownsRow_lit w (i64s (kv ks)) n hb hm (by simp [i64s, kv_len, hn])
end
theorem OwnK.base {w : World} {base base' n c : Nat} {A : Option Addr} {ks : List (Int × Int)} (h : OwnK w base A n c ks) (hb : base' ≤ base) : OwnK w base' A n c ks := by
  refine ⟨h.1, ?_⟩
  rcases h.2 with h | ⟨g, cap, cur, hv, hg, r⟩
  · exact .inl h
  · exact .inr ⟨g, cap, cur, hv, by omega, r⟩
theorem OwnK.grown {w w' : World} {base n c : Nat} {A : Option Addr} {ks : List (Int × Int)} (h : OwnK w base A n c ks) {row : Option Nat} (hg : w.grownBy w' row) (hr : ∀ r, row = some r → r < base) : OwnK w' base A n c ks := by
  refine World.ownsRow.kept h hg ?_
  rcases hb : (Value.slice A n c).ownBlock with _ | k
  · exact .inl rfl
  · right
    intro e
    have := hr k e.symm
    have := (h.lt k hb).1
    omega
theorem index_kid (b off n c j : Nat) (h : j < n) (W : World) : (Instr.indexAt 75 (.slice (some ⟨b, off, none⟩) n c) (.int .i64 (j : Int))).run Try.prog W = .ok (.pointer (some ⟨b, off + j * 2, none⟩)) W := by
  go_simp
theorem index_kid_pred (b off n c k : Nat) (h0 : 0 < k) (h : k < n) (W : World) : (Instr.indexAt 75 (.slice (some ⟨b, off, none⟩) n c) (.int .i64 ((k : Int) - 1))).run Try.prog W = .ok (.pointer (some ⟨b, off + (k - 1) * 2, none⟩)) W := by
  obtain ⟨j, hj⟩ : ∃ j, k - 1 = j := ⟨_, rfl⟩
  have e : (k : Int) - 1 = (j : Int) := by omega
  rw [e, hj]
  exact index_kid b off n c j (by omega) W
/-- what a call leaves that hands back kids of its own. -/
def GaveK (w : World) (ks : List (Int × Int)) (e : Ending) (w' : World) : Prop := ∃ A n c, e = .returned (.slice A n c) ∧ OwnK w' w.heap.size A n c ks ∧ Below w.heap.size w w'
end Go.Proofs.Ythehmanifcfnpaa
