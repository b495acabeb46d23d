/- Several texts in one, in build order: Kids, Touch, AsR, Listed, Cells, NodeM, L1In, NodeS, NodeK, OpenNode, OpenCells, Std, Mine, NameB, NodeB, NameF, NameM, NodeI. -/
import Derived.Test.YtdhnhgppapkikaaGreatDoorPkA
import Derived.Deep.SlicePairs
import Derived.LaidEql
import Derived.Stop.Asserts
import Derived.Laws.Rows
import Derived.Laws.IdiomCopy
import Derived.Test.YtdhnhgppapkikaaGreatDoorRows
import Derived.LaidLaws
import Derived.LaidHandle
import Derived.Stop.Joined
import Derived.WalkLawsBesides
import Derived.WalkSpells
import Derived.ProofKit
import Derived.OpenShut
import Derived.ShutString
import Derived.ChangeOld
import Derived.Lib.SmallJoins
import Derived.LoopTactic
import Derived.Outline
import Derived.Deep.QuietTactic
import Derived.BigQuiet
import Derived.Laws.MakeOwn
import Derived.WalkSmall
import Derived.OwnWalk
import Derived.Laws.OwnMore
import Derived.Deep.AppendLies
import Derived.Laws.IdiomStrings
import Derived.Laws.BitsAllLaws
import Derived.Laws.BitsLemmas
-- Kids: Slices of kids: one that reads as a list of pairs of numbers, one that the call made and may write into; no statement of the program is proved here.
namespace Go.Proofs.YtdhnhgppapkikaaGreatDoor
set_option maxRecDepth 20000
open Go.RowKit

/-- the numbers of some kids, one behind the other. -/
def kv (ks : List (Int × Int)) : List Int := ks.flatMap fun k => [k.1, k.2]
theorem kv_len (ks : List (Int × Int)) : (kv ks).length = ks.length * 2 := by
  induction ks with
  | nil => rfl
  | cons k r ih => simp [kv] at ih ⊢; omega
theorem kv_cons (k : Int × Int) (r : List (Int × Int)) : kv (k :: r) = k.1 :: k.2 :: kv r := rfl
theorem kv_append (a b : List (Int × Int)) : kv (a ++ b) = kv a ++ kv b := by simp [kv]
theorem kv_at0 (ks : List (Int × Int)) (k : Nat) : (kv ks)[k * 2]?.getD 0 = (ks[k]?.getD (0, 0)).1 := by
  induction ks generalizing k with
  | nil => simp [kv]
  | cons x r ih =>
    rcases k with _ | k
    · rfl
    · rw [kv_cons, show (k + 1) * 2 = k * 2 + 1 + 1 by omega, List.getElem?_cons_succ, List.getElem?_cons_succ, ih k]; rfl
theorem kv_at1 (ks : List (Int × Int)) (k : Nat) : (kv ks)[k * 2 + 1]?.getD 0 = (ks[k]?.getD (0, 0)).2 := by
  induction ks generalizing k with
  | nil => simp [kv]
  | cons x r ih =>
    rcases k with _ | k
    · rfl
    · rw [kv_cons, show (k + 1) * 2 + 1 = k * 2 + 1 + 1 + 1 by omega, List.getElem?_cons_succ, List.getElem?_cons_succ, ih k]; rfl

/-- the slice value '.slice A n c' of kids reads as ks, below block B. -/
def Kids (w : World) (B : Nat) (A : Option Addr) (n : Nat) (ks : List (Int × Int)) : Prop := ks.length = n ∧ Ints w B A (n * 2) (kv ks)
section
variable {w w' : World} {B B' n : Nat} {A : Option Addr} {ks : List (Int × Int)}
theorem Kids.none_ : Kids w B A 0 [] := ⟨rfl, Ints.none_⟩
theorem Kids.at_ {k : Nat} (h : Kids w B A n ks) (hk : k < n) : ∃ b off, A = some ⟨b, off, none⟩ ∧ b < B ∧ w.cell? ⟨b, off + k * 2, none⟩ = some (.int .i64 (ks[k]?.getD (0, 0)).1) ∧ w.cell? ⟨b, off + k * 2 + 1, none⟩ = some (.int .i64 (ks[k]?.getD (0, 0)).2) := by
  obtain ⟨b, off, e, hb, hc⟩ := h.2.2 (by omega)
  refine ⟨b, off, e, hb, ?_, ?_⟩
  · have := hc (k * 2) (by omega)
    rw [this, ← kv_at0]; simp
  · have := hc (k * 2 + 1) (by omega)
    rw [Nat.add_assoc, this, ← kv_at1]; simp
theorem Kids.keep (h : Kids w B A n ks) (hk : ∀ p : Addr, p.block < B → w'.cell? p = w.cell? p) : Kids w' B A n ks := ⟨h.1, h.2.keep hk⟩
theorem Kids.more (h : Kids w B A n ks) (hB : B ≤ B') : Kids w B' A n ks := ⟨h.1, h.2.more hB⟩
theorem Kids.below (h : Kids w B A n ks) (hb : Below B w w') : Kids w' B A n ks := ⟨h.1, h.2.below hb⟩
theorem Kids.drewN (h : Kids w B A n ks) (k : Nat) : Kids (w.drewN k) B A n ks := h
theorem Kids.alloc (h : Kids w B A n ks) (hB : B ≤ w.heap.size) (o : Obj) : Kids (w.alloc o) B A n ks := ⟨h.1, h.2.alloc hB o⟩
theorem Kids.grown (h : Kids w B A n ks) {row : Option Nat} (hg : w.grownBy w' row) (hB : B ≤ w.heap.size) (hr : ∀ g, row = some g → B ≤ g) : Kids w' B A n ks := ⟨h.1, h.2.grown hg hB hr⟩
end

theorem Tryz.infoK : (Tryz.prog.info? 140).map (fun i => (i.zero, i.size, i.bytes)) = some (some (.agg #[.int .i64 0, .int .i64 0]), 2, 16) := by kernel_rfl

/-- the slice '.slice A n c' of kids lies in a block of the call's own, from base on, and holds ks. -/
def OwnK (w : World) (base : Nat) (A : Option Addr) (n c : Nat) (ks : List (Int × Int)) : Prop :=
  w.ownsRow base 140 2 (.slice A n c) n ((kv ks).map (Value.int .i64))
section
variable {w w' : World} {base n c : Nat} {A : Option Addr} {ks : List (Int × Int)}
theorem OwnK.nil (w : World) (base : Nat) : OwnK w base none 0 0 [] := World.ownsRow_nil _ _ _ _
theorem OwnK.len (h : OwnK w base A n c ks) : ks.length = n := by have := h.1; simp [kv_len] at this; omega
theorem OwnK.form (h : OwnK w base A n c ks) (hn : 0 < n) : ∃ g, A = some ⟨g, 0, none⟩ ∧ base ≤ g ∧ g < w.heap.size := by
  obtain ⟨g, cap, hv, h1, h2⟩ := World.ownsRow.form h hn
  injection hv with hA
  exact ⟨g, hA, h1, h2⟩
theorem OwnK.kids (h : OwnK w base A n c ks) : Kids w w.heap.size A n ks :=
  ⟨h.len, by rw [kv_len, h.len], fun hn => by
    obtain ⟨g, rfl, _, hlt⟩ := h.form (by omega)
    refine ⟨g, 0, rfl, hlt, fun i hi => ?_⟩
    rw [Nat.zero_add, World.ownsRow.cellAt h i (by omega)]
    have := h.len
    simp [show i < (kv ks).length by rw [kv_len]; omega]⟩
theorem OwnK.cell0 {g : Nat} (h : OwnK w base (some ⟨g, 0, none⟩) n c ks) {k : Nat} (hk : k < n) : w.cell? ⟨g, k * 2, none⟩ = some (.int .i64 (ks[k]?.getD (0, 0)).1) := by
  obtain ⟨b, off, e, _, h1, _⟩ := h.kids.at_ hk
  cases e
  rwa [Nat.zero_add] at h1
theorem OwnK.cell1 {g : Nat} (h : OwnK w base (some ⟨g, 0, none⟩) n c ks) {k : Nat} (hk : k < n) : w.cell? ⟨g, k * 2 + 1, none⟩ = some (.int .i64 (ks[k]?.getD (0, 0)).2) := by
  obtain ⟨b, off, e, _, _, h1⟩ := h.kids.at_ hk
  cases e
  rwa [Nat.zero_add] at h1
theorem OwnK.free {g : Nat} (h : OwnK w base (some ⟨g, 0, none⟩) n c ks) (k : Nat) : w.frozen? ⟨g, k, none⟩ = false := World.ownsRow.frozenAt h k
theorem OwnK.below (h : OwnK w base A n c ks) (hb : Below w.heap.size w w') : OwnK w' base A n c ks :=
  World.ownsRow.kept h (row := none) ⟨hb.os, hb.tape, hb.output, hb.size, fun k hk _ => hb.block k hk⟩ (by cases hA : Value.ownBlock (.slice A n c) <;> simp)
theorem OwnK.drewN (h : OwnK w base A n c ks) (m : Nat) : OwnK (w.drewN m) base A n c ks := h.below (below_drewN (Below.refl _ _) m)
end
theorem kv_set0 (ks : List (Int × Int)) (k : Nat) (z : Int) : (kv ks).set (k * 2) z = kv (ks.set k (z, (ks[k]?.getD (0, 0)).2)) := by
  induction ks generalizing k with
  | nil => simp [kv]
  | cons x r ih =>
    rcases k with _ | k
    · rfl
    · rw [kv_cons, show (k + 1) * 2 = k * 2 + 1 + 1 by omega, List.set_cons_succ, List.set_cons_succ, ih k]; rfl
theorem kv_set1 (ks : List (Int × Int)) (k : Nat) (z : Int) : (kv ks).set (k * 2 + 1) z = kv (ks.set k ((ks[k]?.getD (0, 0)).1, z)) := by
  induction ks generalizing k with
  | nil => simp [kv]
  | cons x r ih =>
    rcases k with _ | k
    · rfl
    · rw [kv_cons, show (k + 1) * 2 + 1 = k * 2 + 1 + 1 + 1 by omega, List.set_cons_succ, List.set_cons_succ, ih k]; rfl
section
variable {w w' : World} {base n c : Nat} {ks : List (Int × Int)}
theorem OwnK.set0 {g : Nat} (h : OwnK w base (some ⟨g, 0, none⟩) n c ks) (k : Nat) (z : Int) :
    OwnK (w.setCell ⟨g, k * 2, none⟩ (.int .i64 z)) base (some ⟨g, 0, none⟩) n c (ks.set k (z, (ks[k]?.getD (0, 0)).2)) ∧ w.grownBy (w.setCell ⟨g, k * 2, none⟩ (.int .i64 z)) (some g) := by
  obtain ⟨h1, h2⟩ := World.ownsRow.stored h (k * 2) (.int .i64 z)
  exact ⟨by unfold OwnK; rw [← kv_set0, List.map_set]; exact h1, h2⟩
theorem OwnK.set1 {g : Nat} (h : OwnK w base (some ⟨g, 0, none⟩) n c ks) (k : Nat) (z : Int) :
    OwnK (w.setCell ⟨g, k * 2 + 1, none⟩ (.int .i64 z)) base (some ⟨g, 0, none⟩) n c (ks.set k ((ks[k]?.getD (0, 0)).1, z)) ∧ w.grownBy (w.setCell ⟨g, k * 2 + 1, none⟩ (.int .i64 z)) (some g) := by
  obtain ⟨h1, h2⟩ := World.ownsRow.stored h (k * 2 + 1) (.int .i64 z)
  exact ⟨by unfold OwnK; rw [← kv_set1, List.map_set]; exact h1, h2⟩
theorem OwnK.of_alloc (w : World) (base : Nat) (ks : List (Int × Int)) (n : Nat) (hb : base ≤ w.heap.size) (hn : ks.length = n) (hm : n ≤ maxLen) :
    OwnK (w.alloc (.cells (i64s (kv ks)) 140)) base (some ⟨w.heap.size, 0, none⟩) n n ks :=
  World.ownsRow_lit w (i64s (kv ks)) n hb hm (by simp [i64s, kv_len, hn])
end
theorem OwnK.base {w : World} {base base' n c : Nat} {A : Option Addr} {ks : List (Int × Int)} (h : OwnK w base A n c ks) (hb : base' ≤ base) : OwnK w base' A n c ks := by
  refine ⟨h.1, ?_⟩
  rcases h.2 with h | ⟨g, cap, cur, hv, hg, r⟩
  · exact .inl h
  · exact .inr ⟨g, cap, cur, hv, by omega, r⟩
theorem OwnK.grown {w w' : World} {base n c : Nat} {A : Option Addr} {ks : List (Int × Int)} (h : OwnK w base A n c ks) {row : Option Nat} (hg : w.grownBy w' row) (hr : ∀ r, row = some r → r < base) : OwnK w' base A n c ks := by
  refine World.ownsRow.kept h hg ?_
  rcases hb : (Value.slice A n c).ownBlock with _ | k
  · exact .inl rfl
  · right
    intro e
    have := hr k e.symm
    have := (h.lt k hb).1
    omega
theorem index_kid (b off n c j : Nat) (h : j < n) (W : World) : (Instr.indexAt 132 (.slice (some ⟨b, off, none⟩) n c) (.int .i64 (j : Int))).run Tryz.prog W = .ok (.pointer (some ⟨b, off + j * 2, none⟩)) W := by
  go_simp
theorem index_kid_pred (b off n c k : Nat) (h0 : 0 < k) (h : k < n) (W : World) : (Instr.indexAt 132 (.slice (some ⟨b, off, none⟩) n c) (.int .i64 ((k : Int) - 1))).run Tryz.prog W = .ok (.pointer (some ⟨b, off + (k - 1) * 2, none⟩)) W := by
  obtain ⟨j, hj⟩ : ∃ j, k - 1 = j := ⟨_, rfl⟩
  have e : (k : Int) - 1 = (j : Int) := by omega
  rw [e, hj]
  exact index_kid b off n c j (by omega) W
/-- what a call leaves that hands back kids of its own. -/
def GaveK (w : World) (ks : List (Int × Int)) (e : Ending) (w' : World) : Prop := ∃ A n c, e = .returned (.slice A n c) ∧ OwnK w' w.heap.size A n c ks ∧ Below w.heap.size w w'
end Go.Proofs.YtdhnhgppapkikaaGreatDoor

-- Touch: Which blocks a call may have touched; what is kept behind it. No statement of the program is proved here.
namespace Go.Proofs.YtdhnhgppapkikaaGreatDoor
set_option maxRecDepth 20000
open Go.RowKit

/-- of the blocks that were there, only those of which S tells may have turned. -/
structure Touch (S : Nat → Prop) (w w' : World) : Prop where
  os : w'.os = w.os
  tape : w'.tape = w.tape
  output : w'.output = w.output
  size : w.heap.size ≤ w'.heap.size
  block : ∀ k, k < w.heap.size → ¬ S k → w'.heap[k]? = w.heap[k]?
section
variable {S T : Nat → Prop} {w w' w'' : World} {B : Nat}
theorem Touch.trans (h : Touch S w w') (k : Touch S w' w'') : Touch S w w'' :=
  ⟨k.os.trans h.os, k.tape.trans h.tape, k.output.trans h.output, Nat.le_trans h.size k.size, fun i hi hs => (k.block i (Nat.lt_of_lt_of_le hi h.size) hs).trans (h.block i hi hs)⟩
theorem Touch.mono (h : Touch S w w') (hs : ∀ k, S k → T k) : Touch T w w' := ⟨h.os, h.tape, h.output, h.size, fun k hk ht => h.block k hk (fun x => ht (hs k x))⟩
theorem Touch.of_grown {row : Option Nat} (h : w.grownBy w' row) : Touch (fun k => some k = row) w w' := ⟨h.os, h.tape, h.output, h.size, fun k hk hs => h.block k hk hs⟩
theorem Touch.of_below (h : Below w.heap.size w w') : Touch S w w' := ⟨h.os, h.tape, h.output, h.size, fun k hk _ => h.block k hk⟩
theorem Touch.below (h : Touch S w w') (hB : B ≤ w.heap.size) (hs : ∀ k, k < B → ¬ S k) : Below B w w' := ⟨h.os, h.tape, h.output, h.size, fun k hk => h.block k (by omega) (hs k hk)⟩
theorem own_touch {base : Nat} {e : TypeId} {size : Nat} {v : Value} {n : Nat} {xs : List Value} (h : w.ownsRow base e size v n xs) (t : Touch S w w') (hn : ∀ g, v.ownBlock = some g → ¬ S g) : w'.ownsRow base e size v n xs := by
  have hl := h.lt
  refine ⟨h.1, ?_⟩
  rcases h.2 with h | ⟨g, cap, cur, rfl, hb, hg, r⟩
  · exact .inl h
  · exact .inr ⟨g, cap, cur, rfl, hb, (t.block g (hl g rfl).2 (hn g rfl)).trans hg, r⟩
theorem OwnI.touch {base n c : Nat} {A : Option Addr} {xs : List Int} (h : OwnI w base A n c xs) (t : Touch S w w') (hn : ∀ g, (Value.slice A n c).ownBlock = some g → ¬ S g) : OwnI w' base A n c xs := own_touch h t hn
theorem OwnK.touch {base n c : Nat} {A : Option Addr} {xs : List (Int × Int)} (h : OwnK w base A n c xs) (t : Touch S w w') (hn : ∀ g, (Value.slice A n c).ownBlock = some g → ¬ S g) : OwnK w' base A n c xs := own_touch h t hn
theorem Mine.touch {base n c : Nat} {A : Option Addr} {xs : List Int} (h : Mine w base A n c xs) (t : Touch S w w') (hn : ∀ g, (Value.slice A n c).ownBlock = some g → ¬ S g) : Mine w' base A n c xs := ⟨own_touch h.1 t hn, h.2⟩
end
theorem heap3_0 (w : World) (A B C : Obj) : (((w.alloc A).alloc B).alloc C).heap[w.heap.size]? = some A := by rw [heap_alloc_old _ _ (by simp; omega), heap_alloc_old _ _ (by simp), heap_alloc_new]
theorem heap3_1 (w : World) (A B C : Obj) : (((w.alloc A).alloc B).alloc C).heap[w.heap.size + 1]? = some B := by
  have h := heap_alloc_new (w.alloc A) B
  rw [heap_alloc_old _ _ (by simp)]
  simpa using h
theorem heap3_2 (w : World) (A B C : Obj) : (((w.alloc A).alloc B).alloc C).heap[w.heap.size + 1 + 1]? = some C := by
  have h := heap_alloc_new ((w.alloc A).alloc B) C
  simpa using h
theorem size3 (w : World) (A B C : Obj) : (((w.alloc A).alloc B).alloc C).heap.size = w.heap.size + 3 := by simp
theorem below3 (w : World) (A B C : Obj) : Below w.heap.size w (((w.alloc A).alloc B).alloc C) := (((Below.refl _ _).alloc (Nat.le_refl _) _).alloc (by simp) _).alloc (by simp; omega) _
theorem heap2_0 (w : World) (A B : Obj) : ((w.alloc A).alloc B).heap[w.heap.size]? = some A := by rw [heap_alloc_old _ _ (by simp), heap_alloc_new]
theorem heap2_1 (w : World) (A B : Obj) : ((w.alloc A).alloc B).heap[w.heap.size + 1]? = some B := by
  have h := heap_alloc_new (w.alloc A) B
  simpa using h
theorem size2 (w : World) (A B : Obj) : ((w.alloc A).alloc B).heap.size = w.heap.size + 2 := by simp
theorem below2 (w : World) (A B : Obj) : Below w.heap.size w ((w.alloc A).alloc B) := ((Below.refl _ _).alloc (Nat.le_refl _) _).alloc (by simp) _
/-- block g is a box of these cells. -/
def Box (w : World) (g : Nat) (t : TypeId) (cs : Array Value) : Prop := w.heap[g]? = some (.cells cs t (0, 0))
section
variable {w w' : World} {g g' B k : Nat} {t : TypeId} {cs : Array Value}
theorem Box.cell (h : Box w g t cs) (k : Nat) : w.cell? ⟨g, k, none⟩ = cs[k]? := cell_of_row w g k _ _ _ h
theorem Box.free (h : Box w g t cs) (k : Nat) : w.frozen? ⟨g, k, none⟩ = false := frozen_of_row w g k _ _ h
theorem Box.below (h : Box w g t cs) (hb : Below B w w') (hg : g < B) : Box w' g t cs := (hb.block g hg).trans h
theorem Box.set_ (h : Box w g t cs) (k : Nat) (u : Value) : Box (w.setCell ⟨g, k, none⟩ u) g t (cs.setIfInBounds k u) :=
  heap_setCell_same w g k _ _ _ h
theorem Box.other (h : Box w g t cs) (hne : g ≠ g') (k : Nat) (u : Value) : Box (w.setCell ⟨g', k, none⟩ u) g t cs := (heap_setCell_other w ⟨g', k, none⟩ g u hne).trans h
theorem Box.grown {row : Option Nat} (h : Box w g t cs) (hg : w.grownBy w' row) (hne : some g ≠ row) : Box w' g t cs := (hg.block g (Array.getElem?_eq_some_iff.1 h).1 hne).trans h
theorem Box.lt (h : Box w g t cs) : g < w.heap.size := (Array.getElem?_eq_some_iff.1 h).1
end
theorem touch_set {S : Nat → Prop} (w : World) (g k : Nat) (u : Value) (hs : S g) : Touch S w (w.setCell ⟨g, k, none⟩ u) := (Touch.of_grown (grown_set w g k u)).mono fun i hi => by cases hi; exact hs
theorem own_eq {g r n c : Nat} (h : some g = (Value.slice (some ⟨r, 0, none⟩) n c).ownBlock) : g = r := by simpa [Value.ownBlock] using h
theorem results_box2 {P : Program} {fn : Func} {p q : Tmp} {ty : TypeId} (h : fn.results = #[.cell p ty, .tmp q]) (tmps : Array Value) (w : World) (g : Nat) (t : TypeId) (cs : Array Value) (d : TypeDesc) (v : Value)
    (hp : tmps.getD p undef = .pointer (some ⟨g, 0, none⟩)) (hq : tmps.getD q undef = v) (hg : Box w g t cs)
    (hu : P.underlying ty = some d) (hd : (match d with | .struct _ | .array _ _ => true | _ => false) = true) (hi : (P.info? ty).map (·.size) = some cs.size) :
    (results fn tmps).run P w = .ok (.tuple #[.agg cs, v]) w := by
  have hp' : tmps[p]?.getD undef = .pointer (some ⟨g, 0, none⟩) := by simpa using hp
  have hq' : tmps[q]?.getD undef = v := by simpa using hq
  simp [results, h, hp', hq', asAddr, run_loadVar_row w g t ty cs _ d hg hu hd hi]
/-- a box of four cells, written anew. -/
theorem set4 {w : World} {g : Nat} {t : TypeId} {a b c d : Value} (h : Box w g t #[a, b, c, d]) (a' b' c' d' : Value) :
    Box ((((w.setCell ⟨g, 0, none⟩ a').setCell ⟨g, 1, none⟩ b').setCell ⟨g, 2, none⟩ c').setCell ⟨g, 3, none⟩ d') g t #[a', b', c', d'] ∧
      Touch (fun x => x = g) w ((((w.setCell ⟨g, 0, none⟩ a').setCell ⟨g, 1, none⟩ b').setCell ⟨g, 2, none⟩ c').setCell ⟨g, 3, none⟩ d') :=
  ⟨(((h.set_ 0 a').set_ 1 b').set_ 2 c').set_ 3 d', (((touch_set (S := fun x => x = g) w g 0 a' rfl).trans (touch_set _ g 1 b' rfl)).trans (touch_set _ g 2 c' rfl)).trans (touch_set _ g 3 d' rfl)⟩
theorem Touch.one {w w' : World} {r : Nat} (h : Touch (fun x => x = r) w w') : w.grownBy w' (some r) := ⟨h.os, h.tape, h.output, h.size, fun k hk hne => h.block k hk (fun e => hne (by rw [e]))⟩
theorem below_grow {w w' : World} {row : Option Nat} (b : Below w.heap.size w w') : w.grownBy w' row := ⟨b.os, b.tape, b.output, b.size, fun k hk _ => b.block k hk⟩
end Go.Proofs.YtdhnhgppapkikaaGreatDoor

-- AsR: errors.As at a refusal: Go's own text of it is walked; where the error is a refusal, it is stored where the target points. After the guide's worked example of errors.As. No statement of the program is proved here.
namespace Go.Proofs.YtdhnhgppapkikaaGreatDoor
set_option maxRecDepth 20000
set_option linter.unusedVariables false
set_option linter.unusedSimpArgs false
open Go.RowKit Go.Extern.Stop Go.Stop Go.Extern

/-- the listed variable holds the handle of the type error. -/
def Listed (w : World) : Prop := w.cell? ⟨0, 0, none⟩ = some (.iface 169 (.agg #[.pointer (some ⟨1, 50, none⟩)]))
theorem Listed.below {w w' : World} {n : Nat} (h : Listed w) (hb : Below n w w') (hn : n = w.heap.size) : Listed w' := by
  have hlt : 0 < w.heap.size := by
    rcases Nat.eq_zero_or_pos w.heap.size with h0 | h0
    · simp [Listed, World.cell?, h0] at h
    · exact h0
  unfold Listed at h ⊢
  rw [hb.cell (show (⟨0, 0, none⟩ : Addr).block < n by simp; omega)]
  exact h

theorem as_valueOfP (t : Addr) (w : World) : (ReflectliteValue.unpack (.iface 93 (.pointer (some t)))).run Tryz.prog w
    = .ok (.agg #[.pointer (some ⟨1, 93, none⟩), .pointer (some ⟨w.heap.size, 0, none⟩), .int .u64 150]) (w.alloc (.cells #[.pointer (some t)] 93)) := by kernel_rfl
theorem as_typeP (a : Addr) (w : World) : (ReflectliteValue.methodAny (ReflectliteValue.valueError "reflectlite.Value.Type" 0) (fun t _ _ _ => ReflectliteType.toType t) #[.agg #[.pointer (some ⟨1, 93, none⟩), .pointer (some a), .int .u64 150]]).run Tryz.prog w
    = .ok (.iface 169 (.agg #[.pointer (some ⟨1, 93, none⟩)])) w := by kernel_rfl
theorem as_methodKind (h : Value) (w : World) : (Go.method 442 169 (.agg #[h]) "Kind").run Tryz.prog w = .ok (268, h) w := by kernel_rfl
theorem as_kindP (w : World) : ((ReflectliteType.abiMethod fun t => (fun a : Nat => Value.int IntKind.u8 (a : Int)) <$> Rtype.kind t) #[.pointer (some ⟨1, 93, none⟩)]).run Tryz.prog w = .ok (.int .u8 22) w := by kernel_rfl
theorem as_kindR (w : World) : ((ReflectliteType.abiMethod fun t => (fun a : Nat => Value.int IntKind.u8 (a : Int)) <$> Rtype.kind t) #[.pointer (some ⟨1, 89, none⟩)]).run Tryz.prog w = .ok (.int .u8 25) w := by kernel_rfl
theorem as_rlm (z : Sem Value) (f : TypeId → Addr → Nat → Nat → Sem Value) (v : Value) :
    ReflectliteValue.method z f #[v] = (do match ← ReflectliteValue.parts v with | none => z | some (t, a, fl) => f t a fl (fl % 32)) := rfl
theorem as_partsP (a : Addr) (w : World) : (ReflectliteValue.parts (.agg #[.pointer (some ⟨1, 93, none⟩), .pointer (some a), .int .u64 150])).run Tryz.prog w = .ok (some (93, a, 150)) w := by kernel_rfl
theorem as_isNilP (a p : Addr) (W : World) (ha : W.cell? a = some (.pointer (some p))) :
    (ReflectliteValue.method (ReflectliteValue.valueError "reflectlite.Value.IsNil" 0) ReflectliteValue.isNil #[.agg #[.pointer (some ⟨1, 93, none⟩), .pointer (some a), .int .u64 150]]).run Tryz.prog W = .ok (.bool false) W := by
  rw [as_rlm]
  simp only [Sem.run_bind, as_partsP, Result.andThen]
  simp [ReflectliteValue.isNil, loadVar, isAgg, underlying, Tryz.underlying93, ha, Result.andThen]
theorem as_methodElem (h : Value) (w : World) : (Go.method 442 169 (.agg #[h]) "Elem").run Tryz.prog w = .ok (279, .agg #[h]) w := by kernel_rfl
theorem as_methodImplements (h : Value) (w : World) : (Go.method 442 169 (.agg #[h]) "Implements").run Tryz.prog w = .ok (280, .agg #[h]) w := by kernel_rfl
theorem as_methodAssignableTo (h : Value) (w : World) : (Go.method 442 169 (.agg #[h]) "AssignableTo").run Tryz.prog w = .ok (277, .agg #[h]) w := by kernel_rfl
theorem as_elemP (w : World) : (ReflectliteType.method ReflectliteType.elem #[.agg #[.pointer (some ⟨1, 93, none⟩)]]).run Tryz.prog w = .ok (.iface 169 (.agg #[.pointer (some ⟨1, 89, none⟩)])) w := by kernel_rfl
theorem as_implementsR (w : World) : (ReflectliteType.relation "Implements" ReflectliteType.implements_ #[.agg #[.pointer (some ⟨1, 89, none⟩)], .iface 169 (.agg #[.pointer (some ⟨1, 50, none⟩)])]).run Tryz.prog w = .ok (.bool true) w := by kernel_rfl
theorem as_typeOfR (v : Value) (w : World) : (ReflectliteType.typeOf #[.iface 89 v]).run Tryz.prog w = .ok (.iface 169 (.agg #[.pointer (some ⟨1, 89, none⟩)])) w := by kernel_rfl
theorem as_assignableR (w : World) : (ReflectliteType.relation "AssignableTo" ReflectliteType.assignableTo #[.agg #[.pointer (some ⟨1, 89, none⟩)], .iface 169 (.agg #[.pointer (some ⟨1, 89, none⟩)])]).run Tryz.prog w = .ok (.bool true) w := by kernel_rfl
theorem as_valueOfR (x y : Value) (w : World) : (ReflectliteValue.unpack (.iface 89 (.agg #[x, y]))).run Tryz.prog w
    = .ok (.agg #[.pointer (some ⟨1, 89, none⟩), .pointer (some ⟨w.heap.size, 0, none⟩), .int .u64 153]) (w.alloc (.cells #[x, y] 89)) := by kernel_rfl
theorem as_elemOfP (w : World) : (Rtype.elem? 93).run Tryz.prog w = .ok (some 89) w := by kernel_rfl
theorem as_mkR (p : Addr) (w : World) : (ReflectliteValue.mk 89 p ReflectliteValue.flagAddr).run Tryz.prog w = .ok (.agg #[.pointer (some ⟨1, 89, none⟩), .pointer (some p), .int .u64 409]) w := by kernel_rfl
theorem as_elemVP (a p : Addr) (W : World) (ha : W.cell? a = some (.pointer (some p))) :
    (ReflectliteValue.method (ReflectliteValue.valueError "reflectlite.Value.Elem" 0) ReflectliteValue.elem #[.agg #[.pointer (some ⟨1, 93, none⟩), .pointer (some a), .int .u64 150]]).run Tryz.prog W
      = .ok (.agg #[.pointer (some ⟨1, 89, none⟩), .pointer (some p), .int .u64 409]) W := by
  rw [as_rlm]
  simp only [Sem.run_bind, as_partsP, Result.andThen]
  simp [ReflectliteValue.elem, loadVar, isAgg, underlying, Tryz.underlying93, ha, Result.andThen, as_elemOfP, as_mkR]
theorem as_rls (v x : Value) : ReflectliteValue.set #[v, x] = (do
    let (some (dst, a, fl), some (src, b, _)) := (← ReflectliteValue.parts v, ← ReflectliteValue.parts x)
      | unsupported (.noEntry "extern/(internal/reflectlite.Value).Set.zeroValue")
    if fl / ReflectliteValue.flagAddr % 2 == 0 then unsupported (.noEntry "extern/(internal/reflectlite.Value).Set.unaddressable")
    let val ← loadVar src b
    if ← Rtype.directlyAssignable dst src then storeVar dst a val
    else if ← Rtype.implements dst src then
      if (← Rtype.kind src) == 20 then
        match val with
        | .nilIface => unsupported (.noEntry "extern/reflectlite: a nil value of one interface type handed on as a value of another")
        | _ => storeVar dst a val
      else storeVar dst a (.iface src val)
    else panicString ("reflectlite.Set: value of type " ++ (← Rtype.spelt src) ++ " is not assignable to type " ++ (← Rtype.spelt dst))
    pure (.tuple #[])) := rfl
theorem as_partsRa (a : Addr) (w : World) : (ReflectliteValue.parts (.agg #[.pointer (some ⟨1, 89, none⟩), .pointer (some a), .int .u64 409])).run Tryz.prog w = .ok (some (89, a, 409)) w := by kernel_rfl
theorem as_partsR (a : Addr) (w : World) : (ReflectliteValue.parts (.agg #[.pointer (some ⟨1, 89, none⟩), .pointer (some a), .int .u64 153])).run Tryz.prog w = .ok (some (89, a, 153)) w := by kernel_rfl
theorem as_directR (w : World) : (Rtype.directlyAssignable 89 89).run Tryz.prog w = .ok true w := by kernel_rfl
theorem as_sizeR (w : World) : (sizeOf 89).run Tryz.prog w = .ok 2 w := by kernel_rfl
/-- (Value).Set: the refusal at t gets what the Value's own variable b holds. -/
theorem as_setR (t b : Nat) (x y : Value) (W : World) (hb : W.heap[b]? = some (.cells #[x, y] 89)) (u v : Value) (ht : W.heap[t]? = some (.cells #[u, v] 89)) (hx : x.oneCell' = true) (hy : y.oneCell' = true) :
    (ReflectliteValue.set #[.agg #[.pointer (some ⟨1, 89, none⟩), .pointer (some ⟨t, 0, none⟩), .int .u64 409], .agg #[.pointer (some ⟨1, 89, none⟩), .pointer (some ⟨b, 0, none⟩), .int .u64 153]]).run Tryz.prog W
      = .ok (.tuple #[]) (W.setCells t 0 [x, y]) := by
  have hl := run_loadVar_row (P := Tryz.prog) W b 89 89 #[x, y] (0, 0) _ hb Tryz.underlying89 rfl (by kernel_rfl)
  have hs := run_storeCells_cells (P := Tryz.prog) t 0 [x, y] 0 W
    (fun j hj => by
      have : j = 0 ∨ j = 1 := by simp at hj; omega
      rcases this with rfl | rfl <;> simp [World.cell?, ht])
    (fun j hj => by
      have : j = 0 ∨ j = 1 := by simp at hj; omega
      rcases this with rfl | rfl <;> simp [World.frozen?, ht])
    (fun v hv => by simp at hv; rcases hv with rfl | rfl <;> assumption)
  rw [as_rls]
  simp only [Sem.run_bind, as_partsRa, as_partsR, Result.andThen]
  simp [ReflectliteValue.flagAddr, hl, Result.andThen, as_directR, storeVar, Value.cells, as_sizeR]
  simp at hs
  rw [hs]
end Go.Proofs.YtdhnhgppapkikaaGreatDoor

-- Listed: From a row's list to the cell of the listed variable of Go's package errors; a world in which it is laid. After the guide's worked example of errors.As. No statement of the program is proved here.
namespace Go.Proofs.YtdhnhgppapkikaaGreatDoor
set_option maxRecDepth 20000
open Go.RowKit

theorem lst_et : Tryz.prog.globalNamed "errors.errorType" = some 0 := by kernel_rfl
theorem lst_rt : (Tryz.prog.cutTypes.find? (·.1 == "internal/reflectlite.rtype")).map (·.2) = some 169 := by kernel_rfl
theorem lst_one : ((List.range 342).filter fun t => Tryz.prog.rowNamed t [101, 114, 114, 111, 114]) = [50] := by kernel_rfl
theorem lst_size : Tryz.prog.types.size = 342 := by kernel_rfl
theorem listed_of_laid {W : World} (h : laidMetH Tryz.prog [("errors.errorType", Rows.laid_errors_errorType)] W) : Listed W := by
  have h' : laidMet Tryz.prog [] W ∧ handlesMet Tryz.prog [("errors.errorType", Rows.laid_errors_errorType)] W := h
  obtain ⟨name, u, ty, e1, e2, e3, e4, e5⟩ := h'.2 _ (List.mem_singleton.2 rfl)
  have en : name = [101, 114, 114, 111, 114] := (Option.some.inj e1).symm
  subst en
  obtain rfl := Option.some.inj (lst_rt.symm.trans e2)
  have hm : ty ∈ (List.range 342).filter fun t => Tryz.prog.rowNamed t [101, 114, 114, 111, 114] := List.mem_filter.2 ⟨List.mem_range.2 (by rw [← lst_size]; exact e3), e4⟩
  rw [lst_one] at hm
  obtain rfl := List.mem_singleton.1 hm
  have hh : typeHandle Tryz.prog 50 = .pointer (some ⟨1, 50, none⟩) := by kernel_rfl
  rw [hh] at e5
  simpa [Listed] using World.var?_cell lst_et e5 0
/-- a world that meets the condition: the settled one, the variable's cell laid. -/
noncomputable def lstWorld (os : Os) : World :=
  let w0 := World.holding Tryz.prog os ⟨#[], #[], []⟩
  { w0 with heap := w0.heap.modify 0 fun
      | .cells _ t frozen => .cells #[.iface 169 (.agg #[.pointer (some ⟨1, 50, none⟩)])] t frozen
      | o => o }
theorem lstWorld_met (os : Os) (args : Array Value) : laidMetH Tryz.prog [("errors.errorType", Rows.laid_errors_errorType)] ((lstWorld os).forCall (fun _ _ => 0) ⟨#[], args, []⟩).memory :=
  laidMetH_of_parts (laidMet_nil _ _) (by kernel_rfl)
end Go.Proofs.YtdhnhgppapkikaaGreatDoor

-- Cells: Slices of cells: one that reads as a list of names and bytes; one that the call made and may write into; no statement of the program is proved here.
namespace Go.Proofs.YtdhnhgppapkikaaGreatDoor
set_option maxRecDepth 20000
set_option linter.unusedVariables false
set_option linter.unusedSimpArgs false
open Go.RowKit

/-- a slice of bytes that lies in a cell. -/
structure Sub where
  A : Option Addr
  n : Nat
  c : Nat
  bs : List Int
def Sub.v (x : Sub) : Value := .slice x.A x.n x.c
/-- the i-th cell of a list. -/
def cel (cs : List (Int × List Int)) (i : Nat) : Int × List Int := cs[i]?.getD (0, [])
theorem cel_set (cs : List (Int × List Int)) (k : Nat) (x : Int × List Int) (i : Nat) (hk : k < cs.length) : cel (cs.set k x) i = if i = k then x else cel cs i := by
  unfold cel
  by_cases h : i = k
  · subst h
    rw [if_pos rfl, List.getElem?_set_self hk]; rfl
  · rw [if_neg h, List.getElem?_set_ne (by omega)]
theorem cel_append (cs : List (Int × List Int)) (x : Int × List Int) (i : Nat) : cel (cs ++ [x]) i = if i = cs.length then x else cel cs i := by
  unfold cel
  by_cases h : i = cs.length
  · subst h
    simp
  · rw [if_neg h]
    rcases Nat.lt_or_ge i cs.length with h1 | h1
    · rw [List.getElem?_append_left h1]
    · rw [List.getElem?_eq_none (by simp; omega), List.getElem?_eq_none (by omega)]
theorem cel_mem (cs : List (Int × List Int)) (i : Nat) (h : i < cs.length) : cel cs i ∈ cs := by
  unfold cel
  rw [List.getElem?_eq_getElem h]; exact List.getElem_mem h
theorem cel_take (cs : List (Int × List Int)) (k : Nat) (h : k < cs.length) : cs.take (k + 1) = cs.take k ++ [cel cs k] := by
  unfold cel
  rw [List.take_succ_eq_append_getElem h, List.getElem?_eq_getElem h]; rfl

/-- the slice value '.slice A n c' of cells reads as cs, below block B. -/
def Cells (w : World) (B : Nat) (A : Option Addr) (n : Nat) (cs : List (Int × List Int)) : Prop :=
  cs.length = n ∧ (0 < n → ∃ b off, A = some ⟨b, off, none⟩ ∧ b < B ∧ ∀ i, i < n → w.cell? ⟨b, off + i * 2, none⟩ = some (.int .i64 (cel cs i).1) ∧
    ∃ Ai ni ci, w.cell? ⟨b, off + i * 2 + 1, none⟩ = some (.slice Ai ni ci) ∧ ni ≤ ci ∧ (Ai = none → ci = 0) ∧ Byts w B Ai ni (cel cs i).2)
section
variable {w w' : World} {B B' n : Nat} {A : Option Addr} {cs : List (Int × List Int)}
theorem Cells.none_ : Cells w B A 0 [] := ⟨rfl, fun h => absurd h (by omega)⟩
theorem Cells.at_ {k : Nat} (h : Cells w B A n cs) (hk : k < n) : ∃ b off Ai ni ci, A = some ⟨b, off, none⟩ ∧ b < B ∧ w.cell? ⟨b, off + k * 2, none⟩ = some (.int .i64 (cel cs k).1) ∧ w.cell? ⟨b, off + k * 2 + 1, none⟩ = some (.slice Ai ni ci) ∧ ni ≤ ci ∧ (Ai = none → ci = 0) ∧ Byts w B Ai ni (cel cs k).2 := by
  obtain ⟨b, off, e, hb, hc⟩ := h.2 (by omega)
  obtain ⟨h0, Ai, ni, ci, h1, h2, h3, h4⟩ := hc k hk
  exact ⟨b, off, Ai, ni, ci, e, hb, h0, h1, h2, h3, h4⟩
theorem Cells.keep (h : Cells w B A n cs) (hk : ∀ p : Addr, p.block < B → w'.cell? p = w.cell? p) : Cells w' B A n cs :=
  ⟨h.1, fun hn => by
    obtain ⟨b, off, e, hb, hc⟩ := h.2 hn
    refine ⟨b, off, e, hb, fun i hi => ?_⟩
    obtain ⟨h0, Ai, ni, ci, h1, h2, h3, h4⟩ := hc i hi
    exact ⟨(hk _ hb).trans h0, Ai, ni, ci, (hk _ hb).trans h1, h2, h3, h4.keep hk⟩⟩
theorem Cells.more (h : Cells w B A n cs) (hB : B ≤ B') : Cells w B' A n cs :=
  ⟨h.1, fun hn => by
    obtain ⟨b, off, e, hb, hc⟩ := h.2 hn
    refine ⟨b, off, e, by omega, fun i hi => ?_⟩
    obtain ⟨h0, Ai, ni, ci, h1, h2, h3, h4⟩ := hc i hi
    exact ⟨h0, Ai, ni, ci, h1, h2, h3, h4.more hB⟩⟩
theorem Cells.below (h : Cells w B A n cs) (hb : Below B w w') : Cells w' B A n cs := h.keep fun _ hp => hb.cell hp
theorem Cells.drewN (h : Cells w B A n cs) (k : Nat) : Cells (w.drewN k) B A n cs := h.below (below_drewN (Below.refl _ _) k)
theorem Cells.alloc (h : Cells w B A n cs) (hB : B ≤ w.heap.size) (o : Obj) : Cells (w.alloc o) B A n cs := h.keep fun p hp => World.cell?_alloc_lt w o p (by omega)
end

theorem Tryz.infoC : (Tryz.prog.info? 87).map (fun i => (i.zero, i.size, i.bytes)) = some (some (.agg #[.int .i64 0, .slice none 0 0]), 2, 32) := by kernel_rfl

/-- what stands in a row of cells. -/
def cf (cs : List (Int × List Int)) (sl : Nat → Sub) (j : Nat) : Value := if j % 2 = 0 then .int .i64 (cel cs (j / 2)).1 else (sl (j / 2)).v
def cvs (n : Nat) (cs : List (Int × List Int)) (sl : Nat → Sub) : List Value := (List.range (n * 2)).map (cf cs sl)
theorem cvs_at (n : Nat) (cs : List (Int × List Int)) (sl : Nat → Sub) (j : Nat) (h : j < n * 2) : (cvs n cs sl)[j]? = some (cf cs sl j) := by simp [cvs, h]
theorem cf0 (cs : List (Int × List Int)) (sl : Nat → Sub) (k : Nat) : cf cs sl (k * 2) = .int .i64 (cel cs k).1 := by unfold cf; rw [if_pos (by omega), show k * 2 / 2 = k by omega]
theorem cf1 (cs : List (Int × List Int)) (sl : Nat → Sub) (k : Nat) : cf cs sl (k * 2 + 1) = (sl k).v := by unfold cf; rw [if_neg (by omega), show (k * 2 + 1) / 2 = k by omega]
theorem cvs_set (n : Nat) (cs : List (Int × List Int)) (sl : Nat → Sub) (k : Nat) (m : Int) (x : Sub) (b : List Int) (hk : k < n) (hl : cs.length = n) :
    ((cvs n cs sl).set (k * 2) (.int .i64 m)).set (k * 2 + 1) x.v = cvs n (cs.set k (m, b)) (fun i => if i = k then x else sl i) := by
  apply List.ext_getElem?
  intro j
  by_cases hj : j < n * 2
  · rw [cvs_at _ _ _ j hj]
    by_cases h1 : j = k * 2 + 1
    · subst h1
      rw [List.getElem?_set_self (by simp [cvs]; omega), cf1, if_pos rfl]
    · rw [List.getElem?_set_ne (by omega)]
      by_cases h0 : j = k * 2
      · subst h0
        rw [List.getElem?_set_self (by simp [cvs]; omega), cf0, cel_set _ _ _ _ (by omega), if_pos rfl]
      · rw [List.getElem?_set_ne (by omega), cvs_at _ _ _ j hj]
        unfold cf
        rw [cel_set _ _ _ _ (by omega), if_neg (show ¬ j / 2 = k by omega)]
        simp only [show ¬ j / 2 = k by omega, if_false]
  · rw [List.getElem?_eq_none (by simp [cvs]; omega), List.getElem?_eq_none (by simp [cvs]; omega)]
theorem cvs_append (n : Nat) (cs : List (Int × List Int)) (sl : Nat → Sub) (x : Sub) (m : Int) (b : List Int) (hl : cs.length = n) :
    cvs n cs sl ++ [.int .i64 m, x.v] = cvs (n + 1) (cs ++ [(m, b)]) (fun i => if i = n then x else sl i) := by
  apply List.ext_getElem?
  intro j
  by_cases hj : j < n * 2
  · rw [List.getElem?_append_left (by simp [cvs]; omega), cvs_at _ _ _ j hj, cvs_at _ _ _ j (by omega)]
    unfold cf
    rw [cel_append, if_neg (show ¬ j / 2 = cs.length by omega)]
    simp only [show ¬ j / 2 = n by omega, if_false]
  · rw [List.getElem?_append_right (by simp [cvs]; omega)]
    have hl2 : (cvs n cs sl).length = n * 2 := by simp [cvs]
    rw [hl2]
    by_cases h0 : j = n * 2
    · subst h0
      rw [cvs_at _ _ _ _ (by omega), cf0, cel_append, if_pos hl.symm]; simp
    · by_cases h1 : j = n * 2 + 1
      · subst h1
        rw [cvs_at _ _ _ _ (by omega), cf1, if_pos rfl, show n * 2 + 1 - n * 2 = 1 by omega]; rfl
      · rw [List.getElem?_eq_none (by simp; omega), List.getElem?_eq_none (by simp [cvs]; omega)]

/-- the slices in a row of n cells are of the call's own, each in a block of its own, of the blocks from lo to hi, none of them g. -/
structure Subs (w : World) (lo hi : Nat) (g : Option Nat) (n : Nat) (cs : List (Int × List Int)) (sl : Nat → Sub) : Prop where
  mine : ∀ i, i < n → Mine w lo (sl i).A (sl i).n (sl i).c (cel cs i).2
  apart : ∀ i j, i < n → j < n → i ≠ j → ∀ b, (sl i).v.ownBlock = some b → (sl j).v.ownBlock ≠ some b
  other : ∀ i, i < n → ∀ b, (sl i).v.ownBlock = some b → g ≠ some b
  under : ∀ i, i < n → ∀ b, (sl i).v.ownBlock = some b → b < hi
/-- the slice '.slice A n c' of cells is of the call's own, with all that it holds, in blocks from lo to hi, and reads as cs. -/
def OwnC (w : World) (lo hi : Nat) (A : Option Addr) (n c : Nat) (cs : List (Int × List Int)) : Prop :=
  cs.length = n ∧ (∀ b, (Value.slice A n c).ownBlock = some b → b < hi) ∧ ∃ sl, w.ownsRow lo 87 2 (.slice A n c) n (cvs n cs sl) ∧ Subs w lo hi (Value.slice A n c).ownBlock n cs sl
section
variable {w w' : World} {lo hi hi' n c g : Nat} {A : Option Addr} {cs : List (Int × List Int)}
theorem mine_cap {base : Nat} {xs : List Int} (h : Mine w base A n c xs) : n ≤ c := by
  rcases h.1.2 with ⟨e, rfl⟩ | ⟨g, cap, cur, e, _, _, hc, _⟩
  · omega
  · cases e; exact hc
theorem mine_none {base : Nat} {xs : List Int} (h : Mine w base A n c xs) (hA : A = none) : c = 0 := by
  rcases h.1.2 with ⟨e, rfl⟩ | ⟨g, cap, cur, e, _, _, hc, _⟩
  · cases e; rfl
  · subst hA; cases e
theorem OwnC.nil (w : World) (lo hi : Nat) : OwnC w lo hi none 0 0 [] := ⟨rfl, fun b h => by simp [Value.ownBlock] at h, fun _ => ⟨none, 0, 0, []⟩, World.ownsRow_nil _ _ _ _, fun i h => by omega, fun i j h => by omega, fun i h => by omega, fun i h => by omega⟩
theorem OwnC.len (h : OwnC w lo hi A n c cs) : cs.length = n := h.1
theorem OwnC.touch {S : Nat → Prop} (h : OwnC w lo hi A n c cs) (t : Touch S w w') (hn : ∀ b, lo ≤ b → b < hi → ¬ S b) : OwnC w' lo hi A n c cs := by
  obtain ⟨hl, hu, sl, hr, hs⟩ := h
  exact ⟨hl, hu, sl, own_touch hr t (fun b hb => hn b (hr.lt b hb).1 (hu b hb)), fun i hi => (hs.mine i hi).touch t (fun b hb => hn b ((hs.mine i hi).1.lt b hb).1 (hs.under i hi b hb)), hs.apart, hs.other, hs.under⟩
theorem OwnC.below (h : OwnC w lo hi A n c cs) (hb : Below hi w w') : OwnC w' lo hi A n c cs :=
  h.touch (S := fun k => hi ≤ k) ⟨hb.os, hb.tape, hb.output, hb.size, fun k hk hs => hb.block k (by omega)⟩ (fun b _ h1 h2 => by omega)
theorem OwnC.more (h : OwnC w lo hi A n c cs) (hh : hi ≤ hi') : OwnC w lo hi' A n c cs := by
  obtain ⟨hl, hu, sl, hr, hs⟩ := h
  exact ⟨hl, fun b hb => Nat.lt_of_lt_of_le (hu b hb) hh, sl, hr, hs.mine, hs.apart, hs.other, fun i hi b hb => Nat.lt_of_lt_of_le (hs.under i hi b hb) hh⟩
theorem OwnC.base {lo' : Nat} (h : OwnC w lo hi A n c cs) (hh : lo' ≤ lo) : OwnC w lo' hi A n c cs := by
  obtain ⟨hl, hu, sl, hr, hs⟩ := h
  refine ⟨hl, hu, sl, ⟨hr.1, ?_⟩, fun i hi => (hs.mine i hi).base hh, hs.apart, hs.other, hs.under⟩
  rcases hr.2 with h | ⟨g, cap, cur, hv, hg, r⟩
  · exact .inl h
  · exact .inr ⟨g, cap, cur, hv, by omega, r⟩
theorem OwnC.form (h : OwnC w lo hi A n c cs) (hn : 0 < n) : ∃ g, A = some ⟨g, 0, none⟩ ∧ lo ≤ g ∧ g < hi ∧ g < w.heap.size := by
  obtain ⟨hl, hu, sl, hr, hs⟩ := h
  obtain ⟨g, cap, hv, h1, h2⟩ := World.ownsRow.form hr hn
  injection hv with hA
  subst hA
  exact ⟨g, rfl, h1, hu g (by simp [Value.ownBlock]), h2⟩
theorem OwnC.cells (h : OwnC w lo hi A n c cs) : Cells w hi A n cs := by
  refine ⟨h.1, fun hn => ?_⟩
  obtain ⟨g, rfl, _, h2, _⟩ := h.form hn
  obtain ⟨hl, hu, sl, hr, hs⟩ := h
  refine ⟨g, 0, rfl, h2, fun i hi => ?_⟩
  have m := hs.mine i hi
  refine ⟨?_, (sl i).A, (sl i).n, (sl i).c, ?_, mine_cap m, mine_none m, m.len, m.2, fun hp => ?_⟩
  · rw [Nat.zero_add, World.ownsRow.cellAt hr _ (by omega), cvs_at _ _ _ _ (by omega), cf0]
  · rw [Nat.zero_add, World.ownsRow.cellAt hr _ (by omega), cvs_at _ _ _ _ (by omega), cf1]; rfl
  · obtain ⟨b, off, e, hb, hc⟩ := m.byts.2.2 hp
    refine ⟨b, off, e, ?_, hc⟩
    obtain ⟨g', e', _⟩ := m.form hp
    rw [e] at e'
    cases e'
    exact hs.under i hi b (by unfold Sub.v; rw [e]; simp [Value.ownBlock])
theorem OwnC.free (h : OwnC w lo hi (some ⟨g, 0, none⟩) n c cs) (k : Nat) : w.frozen? ⟨g, k, none⟩ = false := by
  obtain ⟨hl, hu, sl, hr, hs⟩ := h
  exact World.ownsRow.frozenAt hr k
/-- another cell in place of the k-th: its bytes in a block that was made since. -/
theorem OwnC.put {w0 : World} {A' : Option Addr} {n' c' k : Nat} {bs : List Int} (m : Int) (h : OwnC w0 lo hi (some ⟨g, 0, none⟩) n c cs) (hh : hi ≤ w0.heap.size) (hb : Below w0.heap.size w0 w) (hx : Mine w w0.heap.size A' n' c' bs) (hk : k < n) (hh' : w.heap.size ≤ hi') (hlo : lo ≤ w0.heap.size) :
    OwnC ((w.setCell ⟨g, k * 2, none⟩ (.int .i64 m)).setCell ⟨g, k * 2 + 1, none⟩ (.slice A' n' c')) lo hi' (some ⟨g, 0, none⟩) n c (cs.set k (m, bs)) ∧
      Touch (fun b => b = g) w ((w.setCell ⟨g, k * 2, none⟩ (.int .i64 m)).setCell ⟨g, k * 2 + 1, none⟩ (.slice A' n' c')) := by
  have hs0 := hb.size
  have h := h.below (hb.mono hh)
  obtain ⟨hl, hu, sl, hr, hs⟩ := h
  have hg := hr.lt g (by simp [Value.ownBlock])
  have hgu := hu g (by simp [Value.ownBlock])
  obtain ⟨r1, t1⟩ := World.ownsRow.stored hr (k * 2) (.int .i64 m)
  obtain ⟨r2, t2⟩ := World.ownsRow.stored r1 (k * 2 + 1) (.slice A' n' c')
  have t : Touch (fun b => b = g) w ((w.setCell ⟨g, k * 2, none⟩ (.int .i64 m)).setCell ⟨g, k * 2 + 1, none⟩ (.slice A' n' c')) := (touch_set (S := fun b => b = g) w g _ _ rfl).trans (touch_set _ g _ _ rfl)
  refine ⟨⟨by simp [hl], fun b hb' => Nat.lt_of_lt_of_le (hu b hb') (by omega), fun i => if i = k then ⟨A', n', c', bs⟩ else sl i, ?_, ?_, ?_, ?_, ?_⟩, t⟩
  · rw [← cvs_set n cs sl k m ⟨A', n', c', bs⟩ bs hk hl]; exact r2
  · intro i hi1
    rw [cel_set _ _ _ _ (by omega)]
    by_cases h : i = k
    · simp only [h, if_true]
      exact (hx.base hlo).touch t (fun b hb' e => by have := (hx.1.lt b hb').1; omega)
    · simp only [h, if_false]
      exact (hs.mine i hi1).touch t (fun b hb' e => hs.other i hi1 b hb' (by rw [e]; simp [Value.ownBlock]))
  · intro i j hi1 hj hij b
    by_cases h : i = k
    · have h2 : ¬ j = k := by omega
      simp only [h, h2, if_true, if_false]
      intro e1 e2
      have := (hx.1.lt b e1).1
      have := hs.under j hj b e2
      omega
    · by_cases h2 : j = k
      · simp only [h, h2, if_true, if_false]
        intro e1 e2
        have := (hx.1.lt b e2).1
        have := hs.under i hi1 b e1
        omega
      · simp only [h, h2, if_false]
        exact hs.apart i j hi1 hj hij b
  · intro i hi1 b
    by_cases h : i = k
    · simp only [h, if_true]
      intro e1 e2
      have := (hx.1.lt b e1).1
      simp [Value.ownBlock] at e2
      omega
    · simp only [h, if_false]
      exact hs.other i hi1 b
  · intro i hi1 b
    by_cases h : i = k
    · simp only [h, if_true]
      intro e1
      have := (hx.1.lt b e1).2
      omega
    · simp only [h, if_false]
      intro e1
      have := hs.under i hi1 b e1
      omega
theorem OwnC.cell0 {k : Nat} (h : OwnC w lo hi (some ⟨g, 0, none⟩) n c cs) (hk : k < n) : w.cell? ⟨g, k * 2, none⟩ = some (.int .i64 (cel cs k).1) := by
  obtain ⟨b, off, _, _, _, e, _, h0, _⟩ := h.cells.at_ hk
  cases e
  simpa using h0
theorem OwnC.cell1 {k : Nat} (h : OwnC w lo hi (some ⟨g, 0, none⟩) n c cs) (hk : k < n) : ∃ Ai ni ci, w.cell? ⟨g, k * 2 + 1, none⟩ = some (.slice Ai ni ci) ∧ ni ≤ ci ∧ (Ai = none → ci = 0) ∧ Byts w hi Ai ni (cel cs k).2 := by
  obtain ⟨b, off, Ai, ni, ci, e, _, _, h1, h2, h3, h4⟩ := h.cells.at_ hk
  cases e
  exact ⟨Ai, ni, ci, by simpa using h1, h2, h3, h4⟩
theorem cvs_same (cs cs' : List (Int × List Int)) (sl : Nat → Sub) (h : ∀ i, i < n → (cel cs i).1 = (cel cs' i).1) : cvs n cs sl = cvs n cs' sl := by
  unfold cvs
  apply List.map_congr_left
  intro j hj
  have hj : j < n * 2 := by simpa using hj
  unfold cf
  rw [h (j / 2) (by omega)]
theorem cvs_name (cs : List (Int × List Int)) (sl : Nat → Sub) (k : Nat) (m : Int) (b : List Int) (hk : k < n) (hl : cs.length = n) : (cvs n cs sl).set (k * 2) (.int .i64 m) = cvs n (cs.set k (m, b)) sl := by
  apply List.ext_getElem?
  intro j
  by_cases hj : j < n * 2
  · rw [cvs_at _ _ _ j hj]
    by_cases h0 : j = k * 2
    · subst h0
      rw [List.getElem?_set_self (by simp [cvs]; omega), cf0, cel_set _ _ _ _ (by omega), if_pos rfl]
    · rw [List.getElem?_set_ne (by omega), cvs_at _ _ _ j hj]
      unfold cf
      rw [cel_set _ _ _ _ (by omega)]
      by_cases he : j % 2 = 0
      · rw [if_neg (show ¬ j / 2 = k by omega)]
      · rw [if_neg he, if_neg he]
  · rw [List.getElem?_eq_none (by simp [cvs]; omega), List.getElem?_eq_none (by simp [cvs]; omega)]
/-- another name in the k-th cell. -/
theorem OwnC.setName {k : Nat} (m : Int) (h : OwnC w lo hi (some ⟨g, 0, none⟩) n c cs) (hk : k < n) :
    OwnC (w.setCell ⟨g, k * 2, none⟩ (.int .i64 m)) lo hi (some ⟨g, 0, none⟩) n c (cs.set k (m, (cel cs k).2)) := by
  obtain ⟨hl, hu, sl, hr, hs⟩ := h
  have hg := hr.lt g (by simp [Value.ownBlock])
  obtain ⟨r1, t1⟩ := World.ownsRow.stored hr (k * 2) (.int .i64 m)
  have t : Touch (fun b => b = g) w (w.setCell ⟨g, k * 2, none⟩ (.int .i64 m)) := touch_set (S := fun b => b = g) w g _ _ rfl
  refine ⟨by simp [hl], hu, sl, ?_, ⟨fun i hi1 => ?_, hs.apart, hs.other, hs.under⟩⟩
  · rw [← cvs_name cs sl k m _ hk hl]; exact r1
  · have hm := (hs.mine i hi1).touch t (fun b hb' e => hs.other i hi1 b hb' (by rw [e]; simp [Value.ownBlock]))
    rw [cel_set _ _ _ _ (by omega)]
    by_cases h : i = k
    · subst h; rw [if_pos rfl]; exact hm
    · rw [if_neg h]; exact hm
/-- other bytes in the k-th cell's own slice. -/
theorem OwnC.inner {k : Nat} (h : OwnC w lo hi (some ⟨g, 0, none⟩) n c cs) (hk : k < n) :
    ∃ Ai ni ci, w.cell? ⟨g, k * 2 + 1, none⟩ = some (.slice Ai ni ci) ∧ Mine w lo Ai ni ci (cel cs k).2 ∧ (∀ b, (Value.slice Ai ni ci).ownBlock = some b → lo ≤ b ∧ b < hi) ∧
      ∀ w' bs', Mine w' lo Ai ni ci bs' → w.grownBy w' (Value.slice Ai ni ci).ownBlock → OwnC w' lo hi (some ⟨g, 0, none⟩) n c (cs.set k ((cel cs k).1, bs')) := by
  obtain ⟨hl, hu, sl, hr, hs⟩ := h
  refine ⟨(sl k).A, (sl k).n, (sl k).c, ?_, hs.mine k hk, fun b hb => ⟨((hs.mine k hk).1.lt b hb).1, hs.under k hk b hb⟩, fun w' bs' hm hg => ?_⟩
  · rw [World.ownsRow.cellAt hr _ (by omega), cvs_at _ _ _ _ (by omega), cf1]; rfl
  · have t := Touch.of_grown hg
    refine ⟨by simp [hl], hu, sl, ?_, ⟨fun i hi1 => ?_, hs.apart, hs.other, hs.under⟩⟩
    · rw [← cvs_same (n := n) cs (cs.set k ((cel cs k).1, bs')) sl (fun i hi1 => by
        rw [cel_set _ _ _ _ (by omega)]
        by_cases h : i = k
        · subst h; rw [if_pos rfl]
        · rw [if_neg h])]
      refine own_touch hr t (fun b hb e => ?_)
      have : g = b := by simpa [Value.ownBlock] using hb
      subst this
      exact hs.other k hk g e.symm (by simp [Value.ownBlock])
    · rw [cel_set _ _ _ _ (by omega)]
      by_cases h : i = k
      · subst h; rw [if_pos rfl]; exact hm
      · rw [if_neg h]
        exact (hs.mine i hi1).touch t (fun b hb e => hs.apart i k hi1 hk h b hb e.symm)
end
end Go.Proofs.YtdhnhgppapkikaaGreatDoor

-- NodeM: Plain facts on nodes: what a node is, when it is one, its bytes.
namespace Go.Proofs.YtdhnhgppapkikaaGreatDoor
set_option maxRecDepth 20000
open Go.RowKit

/-- a node. -/
structure MNode where
  kind : Int
  path : List Int
  kids : List (Int × Int)
  val : ByteArray

def okLetter (c : Int) : Bool := decide ((97 ≤ c ∧ c ≤ 122) ∨ (48 ≤ c ∧ c ≤ 57))
def valOk (zs : List Int) : Bool := decide (1 ≤ zs.length ∧ zs.length ≤ 12) && zs.all okLetter
/-- the kid at i is right, seen from the one ahead of it. -/
def KidAt (ks : List (Int × Int)) (i : Nat) : Prop :=
  (0 ≤ (ks[i]?.getD (0, 0)).1 ∧ (ks[i]?.getD (0, 0)).1 ≤ 15) ∧ 1 ≤ (ks[i]?.getD (0, 0)).2 ∧ (0 < i → (ks[i - 1]?.getD (0, 0)).1 < (ks[i]?.getD (0, 0)).1)
instance (ks : List (Int × Int)) (i : Nat) : Decidable (KidAt ks i) := by unfold KidAt; infer_instance
def kidsOk (ks : List (Int × Int)) : Bool := decide (∀ i, i < ks.length → KidAt ks i)
def hasVal (n : MNode) : Bool := !n.val.toList.isEmpty
/-- where the first kid stands. -/
def at0 (ks : List (Int × Int)) : Int := (ks[0]?.getD (0, 0)).1
def kindOk (n : MNode) : Bool :=
  if n.kind = 1 then decide (n.kids.length = 0) && hasVal n
  else if n.kind = 2 then decide (0 < n.path.length) && !hasVal n && decide (n.kids.length = 1) && decide (at0 n.kids = 0)
  else if n.kind = 3 then decide (n.path.length = 0) && decide (2 ≤ n.kids.length + (if hasVal n then 1 else 0))
  else false
def nodeOk (n : MNode) : Bool := isPath n.path && kidsOk n.kids && (!hasVal n || valOk (sb n.val)) && kindOk n

theorem valOk_bad (zs : List Int) (k : Nat) (hk : k < zs.length) (h : okLetter (zs[k]?.getD 0) = false) : valOk zs = false := by
  unfold valOk
  rw [Bool.and_eq_false_iff]
  right
  rw [List.all_eq_false]
  exact ⟨zs[k]?.getD 0, by rw [List.getElem?_eq_getElem hk]; exact List.getElem_mem hk, by rw [h]; decide⟩
theorem valOk_good (zs : List Int) (h : ∀ z ∈ zs, okLetter z = true) : valOk zs = decide (1 ≤ zs.length ∧ zs.length ≤ 12) := by
  unfold valOk
  rw [show zs.all okLetter = true by rw [List.all_eq_true]; exact h, Bool.and_true]
theorem letters_step (zs : List Int) (k : Nat) (hk : k < zs.length) (h : ∀ z ∈ zs.take k, okLetter z = true) (h1 : okLetter (zs[k]?.getD 0) = true) : ∀ z ∈ zs.take (k + 1), okLetter z = true := by
  rw [take_step zs k hk]
  intro z hz
  simp only [List.mem_append, List.mem_singleton] at hz
  rcases hz with hz | rfl
  · exact h z hz
  · exact h1
theorem kidsOk_bad (ks : List (Int × Int)) (k : Nat) (hk : k < ks.length) (h : ¬ KidAt ks k) : kidsOk ks = false := by
  unfold kidsOk
  rw [decide_eq_false_iff_not]
  exact fun e => h (e k hk)
theorem kidsOk_good (ks : List (Int × Int)) (h : ∀ i, i < ks.length → KidAt ks i) : kidsOk ks = true := by
  unfold kidsOk
  exact decide_eq_true h
theorem isPath_long (ps : List Int) (h : 8 < ps.length) : isPath ps = false := by
  rw [Bool.eq_false_iff]; intro e; have := ((isPath_iff ps).1 e).1; omega
end Go.Proofs.YtdhnhgppapkikaaGreatDoor

-- L1In: Whether a number lies from 0 to 15: the model's l1In.
namespace Go.Proofs.YtdhnhgppapkikaaGreatDoor
set_option maxRecDepth 20000
open Go.RowKit

theorem l1In_any (x : Int) (w : World) :
    Calls Tryz.prog 194 #[.int .i64 x, .int .i64 0, .int .i64 15] w fun e w' => e = .returned (.bool (decide (0 ≤ x ∧ x ≤ 15))) ∧ w = w' := by
  go_enter Tryz.func194, Tryz.ntmps194
  by_cases h : 0 ≤ x
  · go_wp2
    go_ret
    exact ⟨ret_b (decide_eq_decide.2 (by omega)), rfl⟩
  · go_wp2
    go_ret
    exact ⟨ret_b (by simp; omega), rfl⟩

theorem l1In_yes (x : Int) (w : World) (h : 0 ≤ x ∧ x ≤ 15) :
    Calls Tryz.prog 194 #[.int .i64 x, .int .i64 0, .int .i64 15] w fun e w' => e = .returned (.bool true) ∧ w' = w :=
  (l1In_any x w).mono fun e w' hh => ⟨by rw [hh.1, decide_eq_true h], hh.2.symm⟩
theorem l1In_no (x : Int) (w : World) (h : ¬ (0 ≤ x ∧ x ≤ 15)) :
    Calls Tryz.prog 194 #[.int .i64 x, .int .i64 0, .int .i64 15] w fun e w' => e = .returned (.bool false) ∧ w' = w :=
  (l1In_any x w).mono fun e w' hh => ⟨by rw [hh.1, decide_eq_false h], hh.2.symm⟩
end Go.Proofs.YtdhnhgppapkikaaGreatDoor

-- NodeS: What the model's ValueOk, l3Path, l3Kids and NodeOk answer.
namespace Go.Proofs.YtdhnhgppapkikaaGreatDoor
set_option maxRecDepth 20000
open Go.RowKit

theorem specValueOk_any (s : ByteArray) (w : World) (hs : s.size ≤ 1048576) :
    Calls Tryz.prog 166 #[.string s] w fun e w' => e = .returned (.bool (valOk (sb s))) ∧ ∃ m, w' = w.drewN m := by
  have hlen := sb_len s
  go_enter Tryz.func166, Tryz.ntmps166
  go_wp2
  go_loopw [3] (fun i wr => ∃ k q : Nat, k ≤ s.size ∧ i = .int .i64 k ∧ (∀ z ∈ (sb s).take k, okLetter z = true) ∧ wr = w.drewN q) (fun i _ => s.size - (intOf i).toNat)
  case atStart => exact ⟨0, 0, Nat.zero_le _, rfl, by simp, rfl⟩
  case round =>
    obtain ⟨k, q, hk, rfl, hgood, rfl⟩ := hrel
    by_cases hlt : k < s.size
    · have hat := sb_at s k hlt
      have hcls : (97 ≤ ((s[k]'hlt).toNat : Int) ∧ ((s[k]'hlt).toNat : Int) ≤ 122) ∨ (48 ≤ ((s[k]'hlt).toNat : Int) ∧ ((s[k]'hlt).toNat : Int) ≤ 57) ∨ ((s[k]'hlt).toNat : Int) < 48 ∨ (57 < ((s[k]'hlt).toNat : Int) ∧ ((s[k]'hlt).toNat : Int) < 97) ∨ 122 < ((s[k]'hlt).toNat : Int) := by omega
      rcases hcls with ⟨h1, h2⟩ | ⟨h1, h2⟩ | h1 | ⟨h1, h2⟩ | h1
      · go_wp2
        go_roundw
        case rel => exact ⟨k + 1, _, by omega, by go_num, letters_step (sb s) k (by omega) hgood (by rw [hat]; exact decide_eq_true (by omega)), rfl⟩
        case measure => simp [intOf]; omega
      · go_wp2
        go_roundw
        case rel => exact ⟨k + 1, _, by omega, by go_num, letters_step (sb s) k (by omega) hgood (by rw [hat]; exact decide_eq_true (by omega)), rfl⟩
        case measure => simp [intOf]; omega
      · go_wp2
        go_ret
        exact ⟨by rw [valOk_bad (sb s) k (by omega) (by rw [hat]; exact decide_eq_false (by omega))]; rfl, _, rfl⟩
      · have d1 : decide (((s[k]'hlt).toNat : Int) ≤ 57) = false := decide_eq_false (by omega)
        go_wp2
        go_ret
        exact ⟨by rw [valOk_bad (sb s) k (by omega) (by rw [hat]; exact decide_eq_false (by omega))]; rfl, _, rfl⟩
      · have d1 : decide (((s[k]'hlt).toNat : Int) ≤ 57) = false := decide_eq_false (by omega)
        have d2 : decide (((s[k]'hlt).toNat : Int) ≤ 122) = false := decide_eq_false (by omega)
        go_wp2
        go_ret
        exact ⟨by rw [valOk_bad (sb s) k (by omega) (by rw [hat]; exact decide_eq_false (by omega))]; rfl, _, rfl⟩
    · have e : (sb s).take k = sb s := List.take_of_length_le (by omega)
      rw [e] at hgood
      have HG := Lib.hid (valOk_good (sb s) hgood)
      by_cases h1 : 1 ≤ s.size
      · go_wp2
        go_ret
        exact ⟨by rw [HG.out]; exact ret_b (by rw [hlen]; exact decide_eq_decide.2 (by omega)), _, rfl⟩
      · go_wp2
        go_ret
        exact ⟨by rw [HG.out]; exact ret_b (by rw [hlen]; simp; omega), _, rfl⟩

theorem l3Path_any (A : Option Addr) (n c : Nat) (ps : List Int) (B : Nat) (w : World) (hn : n ≤ 9223372036854775807) (hp : Ints w B A n ps) :
    Calls Tryz.prog 164 #[.slice A n c] w fun e w' => e = .returned (.bool (isPath ps)) ∧ w = w' := by
  have HP := Lib.hid hp
  clear hp
  go_enter Tryz.func164, Tryz.ntmps164
  go_wp2
  go_loop [3] (fun i => ∃ k : Nat, k ≤ n ∧ i = .int .i64 k ∧ (∀ z ∈ ps.take k, 0 ≤ z ∧ z ≤ 15)) (fun i => n - (intOf i).toNat)
  case atStart => exact ⟨0, Nat.zero_le _, rfl, by simp⟩
  case round =>
    obtain ⟨k, hk, rfl, hgood⟩ := hrel
    by_cases hlt : k < n
    · obtain ⟨b, off, rfl, hbB, hc⟩ := HP.out.at_ hlt
      generalize hz : ps[k]?.getD 0 = z at hc
      by_cases hq : 0 ≤ z ∧ z ≤ 15
      · have hd : decide (0 ≤ z ∧ z ≤ 15) = true := decide_eq_true hq
        go_wp2_with fail
        refine (l1In_any _ _).mono ?_
        rintro e w' ⟨rfl, rfl⟩
        rw [hd]
        go_wp2
        go_round
        case rel => exact ⟨k + 1, by omega, by go_num, path_step ps k (by have := HP.out.1; omega) hgood (by rw [hz]; exact hq)⟩
        case measure => simp [intOf]; omega
      · have hd : decide (0 ≤ z ∧ z ≤ 15) = false := decide_eq_false hq
        go_wp2_with fail
        refine (l1In_any _ _).mono ?_
        rintro e w' ⟨rfl, rfl⟩
        rw [hd]
        go_wp2
        go_ret
        exact ⟨by rw [isPath_bad ps k (by have := HP.out.1; omega) (by rw [hz]; exact hq)]; rfl, rfl⟩
    · have e : ps.take k = ps := List.take_of_length_le (by have := HP.out.1; omega)
      rw [e] at hgood
      have hg : isPath ps = decide (n ≤ 8) := by
        unfold isPath
        rw [show (ps.all fun z => decide (0 ≤ z ∧ z ≤ 15)) = true by simpa using hgood, Bool.and_true, HP.out.1]
      have HG := Lib.hid hg
      clear hg
      go_wp2
      go_ret
      exact ⟨by rw [HG.out]; exact ret_b (decide_eq_decide.2 (by omega)), rfl⟩

set_option maxHeartbeats 400000 in      -- one walk, five ways through a region of 33 operations
theorem l3Kids_any (A : Option Addr) (n c : Nat) (ks : List (Int × Int)) (B : Nat) (w : World) (hn : n ≤ 9223372036854775807) (hb : Kids w B A n ks) :
    Calls Tryz.prog 165 #[.slice A n c] w fun e w' => e = .returned (.bool (kidsOk ks)) ∧ ∃ m, w' = w.drewN m := by
  have HB := Lib.hid hb
  have hlen := hb.1
  clear hb
  go_enter Tryz.func165, Tryz.ntmps165
  go_wp2
  go_loopw [3] (fun i wr => ∃ k q : Nat, k ≤ n ∧ i = .int .i64 k ∧ (∀ j, j < k → KidAt ks j) ∧ wr = w.drewN q) (fun i _ => n - (intOf i).toNat)
  case atStart => exact ⟨0, 0, Nat.zero_le _, rfl, fun j hj => absurd hj (by omega), rfl⟩
  case round =>
    obtain ⟨k, q, hk, rfl, hgood, hwr⟩ := hrel
    have hkr : Kids wr B A n ks := hwr ▸ HB.out.drewN q
    have HK := Lib.hid hkr
    have HW := Lib.hid hwr
    clear hwr hkr
    by_cases hlt : k < n
    · obtain ⟨b, off, rfl, hbB, h0, h1⟩ := HK.out.at_ hlt
      have hx : ∃ x, ks[k]?.getD (0, 0) = x := ⟨_, rfl⟩
      obtain ⟨x, hx⟩ := hx
      rw [hx] at h0 h1
      by_cases hA : 0 ≤ x.1 ∧ x.1 ≤ 15
      · by_cases hN : x.2 < 1
        · have hdN : decide (x.2 < 1) = true := decide_eq_true hN
          go_wp2
          go_quiet (first | (go_at_call 194; exact Calls.quiet_of_same (l1In_yes _ _ hA)))
          go_wp2
          go_ret
          exact ⟨by rw [kidsOk_bad ks k (by omega) (by unfold KidAt; rw [hx]; omega)]; rfl, _, by rw [HW.out, World.drewN_drewN]⟩
        · have hdN : decide (x.2 < 1) = false := decide_eq_false hN
          by_cases hk0 : 0 < k
          · obtain ⟨b', off', e', hbB', p0, p1⟩ := HK.out.at_ (k := k - 1) (by omega)
            cases e'
            have hy : ∃ y, ks[k - 1]?.getD (0, 0) = y := ⟨_, rfl⟩
            obtain ⟨y, hy⟩ := hy
            rw [hy] at p0 p1
            have hia := index_kid_pred b off n c k hk0 hlt
            have hwk : IntKind.i64.wrap ((k : Int) - 1) = (k : Int) - 1 := by rw [IntKind.wrap_i64]; omega
            have hd : decide ((0 : Int) < (k : Int)) = true := decide_eq_true (by omega)
            by_cases hR : x.1 ≤ y.1
            · go_wp2
              go_quiet (first | (go_at_call 194; exact Calls.quiet_of_same (l1In_yes _ _ hA)))
              go_wp2
              go_ret
              exact ⟨by rw [kidsOk_bad ks k (by omega) (by unfold KidAt; rw [hx, hy]; omega)]; rfl, _, by rw [HW.out, World.drewN_drewN]⟩
            · go_wp2
              go_quiet (first | (go_at_call 194; exact Calls.quiet_of_same (l1In_yes _ _ hA)))
              go_wp2
              go_roundw
              case rel =>
                refine ⟨k + 1, _, by omega, by go_num, fun i hi => ?_, by rw [HW.out, World.drewN_drewN]⟩
                rcases Nat.lt_or_ge i k with h | h
                · exact hgood i h
                · rw [show i = k by omega]
                  unfold KidAt
                  rw [hx, hy]
                  omega
              case measure => simp [intOf]; omega
          · obtain rfl : k = 0 := by omega
            rw [Nat.zero_mul, Nat.add_zero] at h0 h1
            go_wp2
            go_quiet (first | (go_at_call 194; exact Calls.quiet_of_same (l1In_yes _ _ hA)))
            go_wp2
            go_roundw
            case rel =>
              refine ⟨1, _, by omega, by go_num, fun j hj => ?_, by rw [HW.out, World.drewN_drewN]⟩
              rcases Nat.lt_or_ge j 0 with h | h
              · exact hgood j h
              · rw [show j = 0 by omega]
                unfold KidAt
                rw [hx]
                omega
            case measure => simp [intOf]; omega
      · go_wp2
        go_quiet (first | (go_at_call 194; exact Calls.quiet_of_same (l1In_no _ _ hA)))
        go_wp2
        go_ret
        exact ⟨by rw [kidsOk_bad ks k (by omega) (by unfold KidAt; rw [hx]; omega)]; rfl, _, by rw [HW.out, World.drewN_drewN]⟩
    · go_wp2
      go_ret
      exact ⟨by rw [kidsOk_good ks (fun i hi => hgood i (by omega))]; rfl, q, HW.out⟩
end Go.Proofs.YtdhnhgppapkikaaGreatDoor

-- NodeK: What the model's NodeOk answers: for every node.
namespace Go.Proofs.YtdhnhgppapkikaaGreatDoor
set_option maxRecDepth 20000
open Go.RowKit

/-- the value v is the node nd, its lists below block B. -/
def NodeIn (w : World) (B : Nat) (v : Value) (nd : MNode) : Prop :=
  ∃ Ap np cp Ak nk ck, v = .agg #[.int .i64 nd.kind, .slice Ap np cp, .slice Ak nk ck, .string nd.val] ∧ np ≤ 1048576 ∧ nk ≤ 1048576 ∧ nd.val.size ≤ 1048576 ∧ Ints w B Ap np nd.path ∧ Kids w B Ak nk nd.kids

theorem NodeIn.below {w w' : World} {B : Nat} {v : Value} {nd : MNode} (h : NodeIn w B v nd) (hb : Below B w w') : NodeIn w' B v nd := by
  obtain ⟨Ap, np, cp, Ak, nk, ck, rfl, h1, h2, h3, h4, h5⟩ := h
  exact ⟨Ap, np, cp, Ak, nk, ck, rfl, h1, h2, h3, h4.below hb, h5.below hb⟩
theorem NodeIn.more {w : World} {B B' : Nat} {v : Value} {nd : MNode} (h : NodeIn w B v nd) (hB : B ≤ B') : NodeIn w B' v nd := by
  obtain ⟨Ap, np, cp, Ak, nk, ck, rfl, h1, h2, h3, h4, h5⟩ := h
  exact ⟨Ap, np, cp, Ak, nk, ck, rfl, h1, h2, h3, h4.more hB, h5.more hB⟩

theorem empty_str (s : ByteArray) (h : s.toList = []) : s = { data := #[] } := by
  obtain ⟨⟨l⟩⟩ := s
  have e : (ByteArray.mk l.toArray).toList = l := ByteArray.toList_mk l
  have h' : (ByteArray.mk l.toArray).toList = [] := h
  rw [e] at h'
  rw [h']

set_option maxHeartbeats 1000000 in      -- one walk, the ways through four tests and a switch of three
theorem specNodeOk_any (v : Value) (nd : MNode) (B : Nat) (w : World) (hB : B ≤ w.heap.size) (hv : NodeIn w B v nd) :
    Calls Tryz.prog 121 #[v] w fun e w' => e = .returned (.bool (nodeOk nd)) ∧ Below w.heap.size w w' := by
  obtain ⟨Ap, np, cp, Ak, nk, ck, rfl, hnp, hnk, hsz, hp, hk⟩ := hv
  obtain ⟨kind, path, kids, val⟩ := nd
  have HP := Lib.hid (hp.more hB)
  have HK := Lib.hid (hk.more hB)
  have LP : Hid (path.length = np) := hp.1
  have LK : Hid (kids.length = nk) := hk.1
  have BW := fun m => Lib.hid (below_drewN ((Below.refl w.heap.size w).alloc (Nat.le_refl _) (.cells #[.int .i64 kind, .slice Ap np cp, .slice Ak nk ck, .string val] 134)) m)
  have SV := Lib.hid hsz
  clear hp hk hsz
  go_enter Tryz.func121, Tryz.ntmps121
  go_wp2_with fail
  refine (l3Path_any _ _ _ path _ _ (by omega) (HP.out.alloc (Nat.le_refl _) _)).mono ?_
  rintro e w' ⟨rfl, rfl⟩
  by_cases h1 : isPath path = true
  · rw [h1]
    go_wp2_with fail
    refine (l3Kids_any _ _ _ kids _ _ (by omega) (HK.out.alloc (Nat.le_refl _) _)).mono ?_
    rintro e w' ⟨rfl, m, rfl⟩
    by_cases h2 : kidsOk kids = true
    · rw [h2]
      by_cases hE : val.toList = []
      · obtain rfl := empty_str val hE
        clear hE
        by_cases hk1 : kind = 1
        · obtain rfl := hk1
          by_cases hz : nk = 0
          · obtain rfl := hz
            go_wp2
            go_ret
            exact ⟨ret_b (by simp [nodeOk, kindOk, hasVal, h1, h2, LK.out]), (BW _).out⟩
          · have hd : decide ((nk : Int) = 0) = false := decide_eq_false (by omega)
            go_wp2
            go_ret
            exact ⟨ret_b (by simp [nodeOk, kindOk, hasVal, h1, h2, LK.out, hz]), (BW _).out⟩
        · by_cases hk2 : kind = 2
          · obtain rfl := hk2
            by_cases hz : np = 0
            · obtain rfl := hz
              go_wp2
              go_ret
              exact ⟨ret_b (by simp [nodeOk, kindOk, hasVal, h1, h2, LP.out, LK.out]), (BW _).out⟩
            · have hd : decide ((0 : Int) < (np : Int)) = true := decide_eq_true (by omega)
              have hz' : 0 < np := by omega
              by_cases hz1 : nk = 1
              · obtain rfl := hz1
                obtain ⟨b, off, rfl, hbB, p0, p1⟩ := HK.out.at_ (k := 0) (by omega)
                rw [Nat.zero_mul, Nat.add_zero] at p0 p1
                have hbw : b < w.heap.size := hbB
                have hx : ∃ x, kids[0]?.getD (0, 0) = x := ⟨_, rfl⟩
                obtain ⟨x, hx⟩ := hx
                rw [hx] at p0 p1
                have HX : Hid (at0 kids = x.1) := by unfold at0; rw [hx]; rfl
                clear hx
                go_wp2
                go_ret
                exact ⟨ret_b (by simp [nodeOk, kindOk, hasVal, h1, h2, LP.out, LK.out, hz']; rw [HX.out]; rfl), (BW _).out⟩
              · have hd1 : decide ((nk : Int) = 1) = false := decide_eq_false (by omega)
                go_wp2
                go_ret
                exact ⟨ret_b (by simp [nodeOk, kindOk, hasVal, h1, h2, LP.out, LK.out, hz1, hz']), (BW _).out⟩
          · by_cases hk3 : kind = 3
            · obtain rfl := hk3
              by_cases hz : np = 0
              · obtain rfl := hz
                go_wp2
                go_ret
                exact ⟨ret_b (by simp [nodeOk, kindOk, hasVal, h1, h2, LP.out, LK.out]; omega), (BW _).out⟩
              · have hd : decide ((np : Int) = 0) = false := decide_eq_false (by omega)
                go_wp2
                go_ret
                exact ⟨ret_b (by simp [nodeOk, kindOk, hasVal, h1, h2, LP.out, LK.out, hz]), (BW _).out⟩
            · have d1 : decide (kind = 1) = false := decide_eq_false hk1
              have d2 : decide (kind = 2) = false := decide_eq_false hk2
              have d3 : decide (kind = 3) = false := decide_eq_false hk3
              go_wp2
              go_ret
              exact ⟨ret_b (by simp [nodeOk, kindOk, hasVal, h1, h2, hk1, hk2, hk3]), (BW _).out⟩
      · have hE2 : val.toList.isEmpty = false := by simpa using hE
        go_wp2_with fail
        refine (specValueOk_any val _ SV.out).mono ?_
        rintro e w' ⟨rfl, m2, rfl⟩
        by_cases h3 : valOk (sb val) = true
        · rw [h3]
          by_cases hk1 : kind = 1
          · obtain rfl := hk1
            by_cases hz : nk = 0
            · obtain rfl := hz
              go_wp2
              go_ret
              exact ⟨ret_b (by simp [nodeOk, kindOk, hasVal, h1, h2, LK.out, hE2, h3]), (BW _).out⟩
            · have hd : decide ((nk : Int) = 0) = false := decide_eq_false (by omega)
              go_wp2
              go_ret
              exact ⟨ret_b (by simp [nodeOk, kindOk, hasVal, h1, h2, LK.out, hE2, h3, hz]), (BW _).out⟩
          · by_cases hk2 : kind = 2
            · obtain rfl := hk2
              by_cases hz : np = 0
              · obtain rfl := hz
                go_wp2
                go_ret
                exact ⟨ret_b (by simp [nodeOk, kindOk, hasVal, h1, h2, LP.out, LK.out, hE2, h3]), (BW _).out⟩
              · have hd : decide ((0 : Int) < (np : Int)) = true := decide_eq_true (by omega)
                go_wp2
                go_ret
                exact ⟨ret_b (by simp [nodeOk, kindOk, hasVal, h1, h2, LP.out, LK.out, hE2, h3]), (BW _).out⟩
            · by_cases hk3 : kind = 3
              · obtain rfl := hk3
                by_cases hz : np = 0
                · obtain rfl := hz
                  go_wp2
                  go_ret
                  exact ⟨ret_b (by simp [nodeOk, kindOk, hasVal, h1, h2, LP.out, LK.out, hE2, h3]; omega), (BW _).out⟩
                · have hd : decide ((np : Int) = 0) = false := decide_eq_false (by omega)
                  go_wp2
                  go_ret
                  exact ⟨ret_b (by simp [nodeOk, kindOk, hasVal, h1, h2, LP.out, LK.out, hE2, h3, hz]), (BW _).out⟩
              · have d1 : decide (kind = 1) = false := decide_eq_false hk1
                have d2 : decide (kind = 2) = false := decide_eq_false hk2
                have d3 : decide (kind = 3) = false := decide_eq_false hk3
                go_wp2
                go_ret
                exact ⟨ret_b (by simp [nodeOk, kindOk, hasVal, h1, h2, hE2, h3, hk1, hk2, hk3]), (BW _).out⟩
        · have h3 : valOk (sb val) = false := by simpa using h3
          rw [h3]
          go_wp2
          go_ret
          exact ⟨ret_b (by simp [nodeOk, hasVal, hE2, h3]), (BW _).out⟩
    · have h2 : kidsOk kids = false := by simpa using h2
      rw [h2]
      go_wp2
      go_ret
      exact ⟨ret_b (by simp [nodeOk, h2]), (BW _).out⟩
  · have h1 : isPath path = false := by simpa using h1
    rw [h1]
    go_wp2
    go_ret
    exact ⟨ret_b (by simp [nodeOk, h1]), (BW 0).out⟩
end Go.Proofs.YtdhnhgppapkikaaGreatDoor

-- OpenNode: A node that came in as an argument: what is known of its value.
namespace Go.Proofs.YtdhnhgppapkikaaGreatDoor
set_option maxRecDepth 20000
open Go.RowKit Go.ChangeShapes Go.WideShapes Go.Joins Go.Deep

/-- the value v is a node nd that came in. -/
def NodeArg (w : World) (v : Value) (nd : MNode) : Prop :=
  ∃ Ap np cp Ak nk ck, v = .agg #[.int .i64 nd.kind, .slice Ap np cp, .slice Ak nk ck, .string nd.val] ∧ np ≤ maxLen ∧ nk ≤ maxLen ∧ nd.val.size ≤ maxLen ∧ Ints w w.heap.size Ap np nd.path ∧ Kids w w.heap.size Ak nk nd.kids

theorem row_of_trod {H : Type} {enc : TypeId × Value → H} {w : World} {k : IntKind} {t e : TypeId} {fuel : Nat} {v : Value} {x : DataW H × List MemPlace} (ht : Tryz.prog.underlying t = some (.slice e)) (he : Tryz.prog.underlying e = some (.int k)) (hc : Tryz.prog.cellsOf e = 1)
    (h : DataW.trod enc Tryz.prog w 0 (fun _ => true) true fuel t [v] = some x) : ∃ a len cap zs, v = .slice a len cap ∧ IsRow k w a len cap zs := by
  rcases open_ints ht he hc h with ⟨hcs, _⟩ | ⟨a, l, c, zs, hcs, _, hl, hm, hz, _, hcell, hwz⟩
  · simp at hcs
    exact ⟨none, 0, 0, [], hcs, .inl ⟨rfl, rfl, rfl, rfl⟩⟩
  · simp at hcs
    exact ⟨_, l, c, zs, hcs, .inr ⟨_, rfl, hl, hm, by simpa using hz, hcell, hwz⟩⟩

end Go.Proofs.YtdhnhgppapkikaaGreatDoor

-- OpenCells: Cells that came in as an argument: what is known of their value.
namespace Go.Proofs.YtdhnhgppapkikaaGreatDoor
set_option maxRecDepth 20000
set_option linter.unusedVariables false
set_option linter.unusedSimpArgs false
open Go.RowKit Go.ChangeShapes Go.WideShapes Go.Joins Go.Deep

/-- the value v is a slice of cells cs that came in. -/
def CellsArg (w : World) (v : Value) (cs : List (Int × List Int)) : Prop :=
  ∃ A n c, v = .slice A n c ∧ n ≤ maxLen ∧ Cells w w.heap.size A n cs ∧ ∀ i, (cel cs i).2.length ≤ maxLen

theorem cells_of_trod {H : Type} {enc : TypeId × Value → H} {w : World} {fuel : Nat} {v : Value} {x : DataW H × List MemPlace}
    (h : DataW.trod enc Tryz.prog w 0 (fun _ => true) true fuel 37 [v] = some x) : ∃ cs, CellsArg w v cs := by
  rcases open_slice_pairs Tryz.underlying37 Tryz.underlying106 (by kernel_rfl) rfl rfl (by kernel_rfl) (by kernel_rfl) h with ⟨hcs, _⟩ | ⟨a, l, c, m, n, V0, V1, D0, D1, P0, P1, hcs, _, hl, hm, hmm, _, hc⟩
  · simp at hcs
    exact ⟨[], none, 0, 0, hcs, by unfold maxLen; omega, Cells.none_, fun i => by simp [cel]⟩
  · simp at hcs
    have hlm : l ≤ m := by rw [hmm]; simp; exact hl
    have each : ∀ i, i < l → ∃ z : Int × List Int, w.cell? (a.add (i * 2)) = some (.int .i64 z.1) ∧ z.2.length ≤ maxLen ∧ ∃ Ai ni ci, w.cell? (a.add (i * 2 + 1)) = some (.slice Ai ni ci) ∧ ni ≤ ci ∧ (Ai = none → ci = 0) ∧ Byts w w.heap.size Ai ni z.2 := by
      intro i hi
      obtain ⟨h0, h1, t0, t1⟩ := hc i (by omega)
      obtain ⟨z0, e0, _⟩ := DataW.trod_int Tryz.underlying2 t0
      obtain ⟨Ai, ni, ci, zs, e1, hr⟩ := row_of_trod Tryz.underlying22 Tryz.underlying5 (by kernel_rfl) t1
      simp at e0
      refine ⟨(z0, zs.take ni), by rw [h0, e0], ?_, Ai, ni, ci, by rw [h1, e1], ?_, ?_, hr.byts⟩
      · rcases hr with ⟨_, rfl, _, _⟩ | ⟨_, _, h2, h3, _⟩
        · simp
        · simp; omega
      · rcases hr with ⟨_, rfl, rfl, _⟩ | ⟨_, _, h2, h3, _⟩
        · exact Nat.le_refl _
        · exact h2
      · rcases hr with ⟨_, _, rfl, _⟩ | ⟨_, e, h2, h3, _⟩
        · exact fun _ => rfl
        · intro e'; rw [e] at e'; cases e'
    obtain ⟨Z, hZ⟩ := choose_lt each
    refine ⟨(List.range l).map Z, some a, l, c, hcs, by omega, ⟨by simp, fun hp => ?_⟩, fun i => ?_⟩
    · obtain ⟨b, off, spot⟩ := a
      have h0 := (hZ 0 (by omega)).1
      have hspot : spot = none := by simpa [Addr.add] using World.cell?_spot h0
      subst hspot
      refine ⟨b, off, rfl, by simpa [Addr.add] using block_lt_of_cell h0, fun i hi => ?_⟩
      have hadd : ∀ j, (Addr.add ⟨b, off, none⟩ j) = ⟨b, off + j, none⟩ := fun j => by unfold Addr.add; split <;> simp_all
      obtain ⟨k0, _, Ai, ni, ci, k1, k2, k3, k4⟩ := hZ i hi
      rw [hadd] at k0 k1
      have e : cel ((List.range l).map Z) i = Z i := by simp [cel, hi]
      rw [e]
      exact ⟨k0, Ai, ni, ci, k1, k2, k3, k4⟩
    · by_cases hi : i < l
      · have e : cel ((List.range l).map Z) i = Z i := by simp [cel, hi]
        rw [e]
        exact (hZ i hi).2.1
      · have e : cel ((List.range l).map Z) i = (0, []) := by simp [cel, hi]
        rw [e]; simp

theorem open_cells {H : Type} {enc : TypeId × Value → H} {w : World} {r : Reach} {b0 : Nat} {v : Value} {d : DataW H} {p : List MemPlace} (_hv : Value.okWide Tryz.prog w r b0 37 v)
    (h : DataW.Trod enc Tryz.prog w 0 (fun _ => true) true 37 v d p) (hc : ∃ A n c, v = .slice A n c) : ∃ cs, CellsArg w v cs := by
  obtain ⟨A, n, c, rfl⟩ := hc
  obtain ⟨fuel, hf⟩ := h
  exact cells_of_trod (by simpa [Value.cells] using hf)
end Go.Proofs.YtdhnhgppapkikaaGreatDoor

-- Std: What the helpers of the exact laws do at slices of bytes: a copy is a new row of the same bytes; two that read alike are told alike.
namespace Go.Proofs.YtdhnhgppapkikaaGreatDoor
set_option maxRecDepth 20000
open Go.RowKit

theorem copy_any (A : Option Addr) (n c : Nat) (zs : List Int) (B : Nat) (w : World) (hn : n ≤ 140737488355328) (hB : B ≤ w.heap.size) (hb : Byts w B A n zs) :
    Calls Tryz.prog 106 #[.slice A n c] w fun e w' => e = .returned (.slice (some ⟨w.heap.size, 0, none⟩) n n) ∧ w' = w.alloc (.cells (u8s zs) 5) := by
  have hlen : zs.length = n := hb.1
  have HL := Lib.hid hlen
  have HB := Lib.hid hb
  clear hb hlen
  obtain ⟨i0, hi, hz0, hz1, hz2⟩ := info_parts Tryz.info5
  have hmk : ∀ W : World, (Instr.makeSlice 22 (.int .i64 (n : Int)) (.int .i64 (n : Int))).run Tryz.prog W = .ok (.slice (some ⟨W.heap.size, 0, none⟩) n n) (W.alloc (.cells (filled zs n 0) 5)) := by
    intro W
    have hr := run_make (P := Tryz.prog) W 22 5 i0 (.int .u8 0) Tryz.underlying22 hi hz0 .i64 .i64 n n (by omega) (by omega) (by rw [hz2]; omega) (by omega)
    simp only [Int.toNat_natCast] at hr
    rw [hr, hz1, Nat.mul_one]
    show Result.ok _ (W.alloc (.cells (madeCells #[.int .u8 0] n) _)) = _
    rw [filled_none zs n]
  have HM := Lib.hid hmk
  clear hmk hi hz0 hz1 hz2
  go_enter Tryz.func106, Tryz.ntmps106
  have hmk := HM.out
  go_wp2
  clear hmk
  go_loopw [4] (fun i wr => ∃ k : Nat, k ≤ n ∧ i = .int .i64 k ∧ wr = w.alloc (.cells (filled zs n k) 5)) (fun i _ => n - (intOf i).toNat)
  case atStart => exact ⟨0, Nat.zero_le _, rfl, rfl⟩
  case round =>
    obtain ⟨k, hk, rfl, rfl⟩ := hrel
    by_cases hlt : k < n
    · obtain ⟨b, off, rfl, hbB, hc⟩ := HB.out.at_ hlt
      have hr := HB.out.range k
      have hbw : b < w.heap.size := by omega
      have hg : (filled zs n k)[k]? = some (.int .u8 0) := filled_at zs n k HL.out hlt
      have hst := Lib.hid (filled_set zs n k HL.out hlt)
      go_wp2
      go_roundw
      case rel => exact ⟨k + 1, by omega, by go_num, by rw [hst.out]⟩
      case measure => simp [intOf]; omega
    · go_wp2
      go_ret
      exact ⟨rfl, by rw [show k = n by omega, filled_all zs n HL.out]⟩

theorem copy_own (A : Option Addr) (n c : Nat) (zs : List Int) (B : Nat) (w : World) (hn : n ≤ 140737488355328) (hB : B ≤ w.heap.size) (hb : Byts w B A n zs) :
    Calls Tryz.prog 106 #[.slice A n c] w fun e w' => ∃ g, e = .returned (.slice (some ⟨g, 0, none⟩) n n) ∧ w.heap.size ≤ g ∧ Row w' g zs ∧ Below w.heap.size w w' := by
  refine (copy_any A n c zs B w hn hB hb).mono ?_
  rintro e w' ⟨rfl, rfl⟩
  exact ⟨w.heap.size, rfl, Nat.le_refl _, ⟨heap_alloc_new _ _, hb.2.1⟩, (Below.refl _ _).alloc (Nat.le_refl _) _⟩

theorem like_yes (A A' : Option Addr) (n c c' : Nat) (zs : List Int) (B B' : Nat) (w : World) (hn : n ≤ 9223372036854775807) (hb : Byts w B A n zs) (hb' : Byts w B' A' n zs) :
    Calls Tryz.prog 70 #[.slice A n c, .slice A' n c'] w fun e w' => e = .returned (.bool true) ∧ ∃ m, w' = w.drewN m := by
  have HB := Lib.hid hb
  have HB' := Lib.hid hb'
  clear hb hb'
  go_enter Tryz.func70, Tryz.ntmps70
  go_wp2
  go_loopw [5] (fun i wr => ∃ k m : Nat, k ≤ n ∧ i = .int .i64 k ∧ wr = w.drewN m) (fun i _ => n - (intOf i).toNat)
  case atStart => exact ⟨0, 0, Nat.zero_le _, rfl, rfl⟩
  case round =>
    obtain ⟨k, m, hk, rfl, rfl⟩ := hrel
    by_cases hlt : k < n
    · obtain ⟨b, off, rfl, hbB, hc⟩ := HB.out.at_ hlt
      obtain ⟨b', off', rfl, hbB', hc'⟩ := HB'.out.at_ hlt
      have hr := HB.out.range k
      go_wp2
      go_quiet (fail)
      go_wp2
      go_roundw
      case rel => exact ⟨k + 1, _, by omega, by go_num, rfl⟩
      case measure => simp [intOf]; omega
    · go_wp2
      go_ret
      exact ⟨rfl, m, rfl⟩
end Go.Proofs.YtdhnhgppapkikaaGreatDoor

-- Mine: A slice of bytes that the call made and may write into: what marking it and holding it against its marks leave.
namespace Go.Proofs.YtdhnhgppapkikaaGreatDoor
set_option maxRecDepth 20000
open Go.RowKit

/-- the marks from k0 on. -/
def marks (k0 : Int) (n : Nat) : List Int := (List.range n).map fun (i : Nat) => (k0 + (i : Int)) % 256
theorem marks_len (k0 : Int) (n : Nat) : (marks k0 n).length = n := by simp [marks]
theorem marks_at (k0 : Int) (n k : Nat) (h : k < n) : (marks k0 n)[k]?.getD 0 = (k0 + (k : Int)) % 256 := by simp [marks, h]
theorem marks_bd (k0 : Int) (n : Nat) : ∀ z ∈ marks k0 n, 0 ≤ z ∧ z ≤ 255 := by
  intro z hz
  simp only [marks, List.mem_map] at hz
  obtain ⟨i, _, rfl⟩ := hz
  omega
def marked (k0 : Int) (n k : Nat) (xs : List Int) : List Int := (marks k0 n).take k ++ xs.drop k
theorem marked_set (k0 : Int) (n k : Nat) (xs : List Int) (hx : xs.length = n) (hk : k < n) : (marked k0 n k xs).set k ((k0 + (k : Int)) % 256) = marked k0 n (k + 1) xs := by
  unfold marked
  have hl : min k (marks k0 n).length = k := by have := marks_len k0 n; omega
  rw [take_step (marks k0 n) k (by have := marks_len k0 n; omega), marks_at k0 n k hk]
  have hd : xs.drop k = xs[k] :: xs.drop (k + 1) := List.drop_eq_getElem_cons (by omega)
  have hs : (xs.drop k).set 0 ((k0 + (k : Int)) % 256) = (k0 + (k : Int)) % 256 :: xs.drop (k + 1) := by rw [hd]; rfl
  simp [hl, hs]

theorem mark_any (A : Option Addr) (n c base : Nat) (xs : List Int) (k0 : Int) (w : World) (h0 : 0 ≤ k0) (h1 : k0 + n ≤ 4611686018427387904) (hm : Mine w base A n c xs) :
    Calls Tryz.prog 46 #[.slice A n c, .int .i64 k0] w fun e w' => e = .returned (.int .i64 (k0 + n)) ∧ Mine w' base A n c (marks k0 n) ∧ w.grownBy w' (Value.slice A n c).ownBlock := by
  have hx := Lib.hid hm.len
  have HM := Lib.hid hm
  clear hm
  go_enter Tryz.func46, Tryz.ntmps46
  go_wp2
  go_loopw [1, 5] (fun q i wr => ∃ k : Nat, k ≤ n ∧ i = .int .i64 k ∧ q = .int .i64 (k0 + k) ∧ Mine wr base A n c (marked k0 n k xs) ∧ w.grownBy wr (Value.slice A n c).ownBlock) (fun _ i _ => n - (intOf i).toNat)
  case atStart => exact ⟨0, Nat.zero_le _, rfl, by simp, HM.out, World.grownBy.refl _ _⟩
  case round =>
    obtain ⟨k, hk, rfl, rfl, hmr, hgr⟩ := hrel
    by_cases hlt : k < n
    · obtain ⟨g, rfl, hbg, hlt'⟩ := hmr.form (by omega)
      have hc := hmr.cell hlt
      have hf := hmr.free k
      have hs := hmr.set_ k ((k0 + (k : Int)) % 256) (by omega)
      rw [marked_set k0 n k xs hx.out hlt] at hs
      have HS := Lib.hid hs
      have HG := Lib.hid hgr
      clear hs hmr hgr
      go_wp2
      go_roundw
      case rel => exact ⟨k + 1, by omega, by go_num, by go_num, HS.out.1, HG.out.trans HS.out.2⟩
      case measure => simp [intOf]; omega
    · go_wp2
      go_ret
      have e : k = n := by omega
      subst e
      refine ⟨rfl, ?_, hgr⟩
      have hd : marked k0 k k xs = marks k0 k := by
        unfold marked
        rw [List.take_of_length_le (by have := marks_len k0 k; omega), List.drop_eq_nil_of_le (by have := hx.out; omega)]; simp
      rw [hd] at hmr
      exact hmr

theorem held_yes (A : Option Addr) (n c : Nat) (B : Nat) (k0 : Int) (w : World) (h0 : 0 ≤ k0) (h1 : k0 + n ≤ 4611686018427387904) (hb : Byts w B A n (marks k0 n)) :
    Calls Tryz.prog 47 #[.slice A n c, .int .i64 k0] w fun e w' => e = .returned (.int .i64 (k0 + n)) ∧ w = w' := by
  have HB := Lib.hid hb
  clear hb
  go_enter Tryz.func47, Tryz.ntmps47
  go_wp2
  go_loop [1, 5] (fun q i => ∃ k : Nat, k ≤ n ∧ i = .int .i64 k ∧ q = .int .i64 (k0 + k)) (fun _ i => n - (intOf i).toNat)
  case atStart => exact ⟨0, Nat.zero_le _, rfl, by simp⟩
  case round =>
    obtain ⟨k, hk, rfl, rfl⟩ := hrel
    by_cases hlt : k < n
    · obtain ⟨b, off, rfl, hbB, hc⟩ := HB.out.at_ hlt
      rw [marks_at k0 n k hlt] at hc
      go_wp2
      go_round
      case rel => exact ⟨k + 1, by omega, by go_num, by go_num⟩
      case measure => simp [intOf]; omega
    · go_wp2
      go_ret
      exact ⟨ret_i64 (by omega), rfl⟩
end Go.Proofs.YtdhnhgppapkikaaGreatDoor

-- NameB: The eight bytes of a name, as the program and as the model write them: a row of the call's own.
namespace Go.Proofs.YtdhnhgppapkikaaGreatDoor
set_option maxRecDepth 20000
open Go.RowKit

/-- the first k of the bytes of x, the lowest one first. -/
def nb (x : Int) (k : Nat) : List Int := (List.range k).map fun (i : Nat) => x / 2 ^ (8 * i) % 256
def nameBytes (x : Int) : List Int := if x < 0 then [] else nb x 8
theorem nb_len (x : Int) (k : Nat) : (nb x k).length = k := by simp [nb]
theorem nb_at (x : Int) (n k : Nat) (h : k < n) : (nb x n)[k]?.getD 0 = x / 2 ^ (8 * k) % 256 := by simp [nb, h]
theorem nb_bd (x : Int) (k : Nat) : ∀ z ∈ nb x k, 0 ≤ z ∧ z ≤ 255 := by
  intro z hz
  simp only [nb, List.mem_map] at hz
  obtain ⟨i, _, rfl⟩ := hz
  omega
theorem nb_step (x : Int) (k : Nat) : nb x (k + 1) = nb x k ++ [x / 2 ^ (8 * k) % 256] := by simp [nb, List.range_succ]
theorem nameBytes_no (x : Int) (h : x < 0) : nameBytes x = [] := if_pos h
theorem nameBytes_yes (x : Int) (h : ¬ x < 0) : nameBytes x = nb x 8 := if_neg h

theorem bytes_any (x : Int) (w : World) :
    Calls Tryz.prog 135 #[.int .i64 x] w fun e w' => ∃ A n c, e = .returned (.slice A n c) ∧ Mine w' w.heap.size A n c (nameBytes x) ∧ Below w.heap.size w w' := by
  by_cases hx : x < 0
  · have hr := Lib.hid (nameBytes_no x hx)
    go_enter Tryz.func135, Tryz.ntmps135
    go_wp2
    go_ret
    exact ⟨none, 0, 0, rfl, by rw [hr.out]; exact Mine.nil _ _, Below.refl _ _⟩
  · have hr := Lib.hid (nameBytes_yes x hx)
    have hmk : ∀ W : World, (Instr.makeSlice 22 (.int .i64 8) (.int .i64 8)).run Tryz.prog W = .ok (.slice (some ⟨W.heap.size, 0, none⟩) 8 8) (W.alloc (.cells (filled (nb x 8) 8 0) 5)) :=
      fun W => make_bytes (nb x 8) 8 (by omega) W
    go_enter Tryz.func135, Tryz.ntmps135
    go_wp2
    clear hmk
    go_loopw [10] (fun i wr => ∃ k : Nat, k ≤ 8 ∧ i = .int .i64 k ∧ wr = w.alloc (.cells (filled (nb x 8) 8 k) 5)) (fun i _ => 8 - (intOf i).toNat)
    case atStart => exact ⟨0, Nat.zero_le _, rfl, rfl⟩
    case round =>
      obtain ⟨k, hk, rfl, rfl⟩ := hrel
      by_cases hlt : k < 8
      · have hg : (filled (nb x 8) 8 k)[k]? = some (.int .u8 0) := filled_at _ 8 k (nb_len x 8) hlt
        have hst := filled_set (nb x 8) 8 k (nb_len x 8) hlt
        rw [nb_at x 8 k hlt] at hst
        have HS := Lib.hid hst
        clear hst
        go_wp2
        go_roundw
        case rel => exact ⟨k + 1, by omega, by go_num, by rw [HS.out]⟩
        case measure => simp [intOf]; omega
      · go_wp2
        go_ret
        exact ⟨some ⟨w.heap.size, 0, none⟩, 8, 8, rfl, by rw [hr.out, show k = 8 by omega, filled_all _ 8 (nb_len x 8)]; exact Mine.of_alloc w _ _ 8 (Nat.le_refl _) (nb_len x 8) (by unfold maxLen; omega) (nb_bd x 8), (Below.refl _ _).alloc (Nat.le_refl _) _⟩
theorem specBytes_no (x : Int) (w : World) (hx : x < 0) :
    Calls Tryz.prog 193 #[.int .i64 x] w fun e w' => ∃ g n c, e = .returned (.slice (some ⟨g, 0, none⟩) n c) ∧ Mine w' w.heap.size (some ⟨g, 0, none⟩) n c (nameBytes x) ∧ Below w.heap.size w w' := by
  have hr := Lib.hid (nameBytes_no x hx)
  have hx' : decide (0 ≤ x) = false := by simp; omega
  go_enter Tryz.func193, Tryz.ntmps193
  go_wp2
  refine wp_loop_rounds 1 ?_
  rw [rounds_succ]
  go_wp2
  go_ret
  exact ⟨w.heap.size, 0, 0, rfl, by rw [hr.out]; exact Mine.empty w, (Below.refl _ _).alloc (Nat.le_refl _) _⟩
theorem specBytes_yes (x : Int) (w : World) (hx : ¬ x < 0) :
    Calls Tryz.prog 193 #[.int .i64 x] w fun e w' => ∃ g n c, e = .returned (.slice (some ⟨g, 0, none⟩) n c) ∧ Mine w' w.heap.size (some ⟨g, 0, none⟩) n c (nameBytes x) ∧ Below w.heap.size w w' := by
  obtain ⟨i0, hi, hz0, hz1, hz2⟩ := info_parts Tryz.info5
  have HI := Lib.hid hi
  have HZ0 := Lib.hid hz0
  have HZ1 := Lib.hid hz1
  have HZ2 := Lib.hid hz2
  clear hi hz0 hz1 hz2
  have hr := Lib.hid (nameBytes_yes x hx)
  go_enter Tryz.func193, Tryz.ntmps193
  go_wp2
  go_loopw [3, 4] (fun v i wr => ∃ k : Nat, k ≤ 8 ∧ i = .int .i64 k ∧ wr.ownsRow w.heap.size 5 1 v k ((nb x k).map (Value.int .u8)) ∧ Below w.heap.size w wr) (fun _ i _ => 8 - (intOf i).toNat)
  case atStart => exact ⟨0, Nat.zero_le _, rfl, (Mine.empty w).1, (Below.refl _ _).alloc (Nat.le_refl _) _⟩
  case round =>
    obtain ⟨k, hk, rfl, hown, hbel⟩ := hrel
    by_cases hlt : k < 8
    · have hp : (0 : Int) ≤ x / 2 ^ (8 * k) := Int.ediv_nonneg (by omega) (Int.pow_nonneg (by decide))
      have hs := hbel.size
      go_wp2_with (at_builtin; refine wpList_append_own _ rfl _ _ 22 rfl w.heap.size 5 i0 (.int .u8 0) 1 1 Tryz.underlying22 HI.out HZ0.out HZ1.out HZ2.out rfl (by decide) _ _ _ rfl (hown.alloc _) ⟨wr.heap.size, 0, none⟩ 1 1 [.int .u8 (x / 2 ^ (8 * k) % 256)] rfl rfl ?c1 ?c2 ?c3 ?c4 ?c5 ?_)
      case c1 =>
        intro j u hj
        match j, hj with
        | 0, hj => simp at hj; subst hj; simp [Addr.add]
      case c2 => intro u hu; simp at hu; subst hu; rfl
      case c3 => unfold maxLen; omega
      case c4 => omega
      case c5 => simp; omega
      intro v' w1 hown' hgrow _
      have hb1 : Below w.heap.size w w1 := (hbel.alloc hs _).grown hgrow (by simp; omega) (fun g hg => (hown.lt g hg).1)
      rw [show (nb x k).map (Value.int .u8) ++ [Value.int .u8 (x / 2 ^ (8 * k) % 256)] = (nb x (k + 1)).map (Value.int .u8) by rw [nb_step]; simp] at hown'
      clear hgrow hown hbel
      go_wp2
      go_roundw
      case rel => exact ⟨k + 1, by omega, by go_num, hown', hb1⟩
      case measure => simp [intOf]; omega
    · obtain rfl : k = 8 := by omega
      have hm : ∃ g c, u3 = .slice (some ⟨g, 0, none⟩) 8 c := by
        obtain ⟨g, c, h, _⟩ := hown.form (by omega)
        exact ⟨g, c, h⟩
      obtain ⟨g, c, rfl⟩ := hm
      go_wp2
      go_ret
      exact ⟨g, 8, c, rfl, by rw [hr.out]; exact ⟨hown, nb_bd x 8⟩, hbel⟩
theorem specBytes_some (x : Int) (w : World) :
    Calls Tryz.prog 193 #[.int .i64 x] w fun e w' => ∃ g n c, e = .returned (.slice (some ⟨g, 0, none⟩) n c) ∧ Mine w' w.heap.size (some ⟨g, 0, none⟩) n c (nameBytes x) ∧ Below w.heap.size w w' := by
  by_cases hx : x < 0
  · exact specBytes_no x w hx
  · exact specBytes_yes x w hx
theorem specBytes_any (x : Int) (w : World) :
    Calls Tryz.prog 193 #[.int .i64 x] w fun e w' => ∃ A n c, e = .returned (.slice A n c) ∧ Mine w' w.heap.size A n c (nameBytes x) ∧ Below w.heap.size w w' := by
  refine (specBytes_some x w).mono ?_
  rintro e w' ⟨g, n, c, h⟩
  exact ⟨_, n, c, h⟩
end Go.Proofs.YtdhnhgppapkikaaGreatDoor

-- NodeB: The bytes of a node, as the model writes them: a row of the call's own.
namespace Go.Proofs.YtdhnhgppapkikaaGreatDoor
set_option maxRecDepth 20000
open Go.RowKit

/-- the bytes that are written of a node, each number in one byte. -/
def kidBytes (k : Int × Int) : List Int := k.1 % 256 :: nameBytes k.2
def rawBytes (nd : MNode) : List Int :=
  [nd.kind % 256, (nd.path.length : Int) % 256] ++ nd.path.map (· % 256) ++ [(nd.val.size : Int) % 256] ++ sb nd.val ++ [(nd.kids.length : Int) % 256] ++ nd.kids.flatMap kidBytes
theorem nameBytes_len8 (x : Int) : (nameBytes x).length ≤ 8 := by
  unfold nameBytes
  split <;> simp [nb]
theorem kidBytes_len (ks : List (Int × Int)) : (ks.flatMap kidBytes).length ≤ ks.length * 9 := by
  induction ks with
  | nil => simp
  | cons k r ih =>
    have := nameBytes_len8 k.2
    simp [kidBytes] at ih ⊢
    omega
theorem Mine.app {w1 w2 : World} {base g n c g' c' m : Nat} {xs ys : List Int} (hm : Mine w1 base (some ⟨g, 0, none⟩) n c xs) (hys : ∀ z ∈ ys, 0 ≤ z ∧ z ≤ 255)
    (hown' : w2.ownsRow base 5 1 (.slice (some ⟨g', 0, none⟩) m c') m (xs.map (Value.int .u8) ++ ys.map (Value.int .u8))) : Mine w2 base (some ⟨g', 0, none⟩) m c' (xs ++ ys) := by
  refine ⟨by rw [List.map_append]; exact hown', fun z hz => ?_⟩
  rcases List.mem_append.1 hz with hz | hz
  · exact hm.2 z hz
  · exact hys z hz
/-- a text turned into bytes: a new row of just these. -/
theorem conv_str (s : ByteArray) (w : World) : ∃ cap w', (convert 9 22 (.string s)).run Tryz.prog w = .ok (.slice (some ⟨w.heap.size, 0, none⟩) s.size cap) w' ∧ Below w.heap.size w w' ∧ w'.heap.size = w.heap.size + 1 ∧
    ∀ j u, ((sb s).map (Value.int .u8))[j]? = some u → w'.cell? ((⟨w.heap.size, 0, none⟩ : Addr).add j) = some u := by
  refine ⟨_, _, run_bytes_of_string w _ _ _ s Tryz.underlying9 Tryz.underlying22 Tryz.underlying5, ?_, by simp, ?_⟩
  · exact (Below.refl w.heap.size w).drew.alloc (Nat.le_refl _) _
  · intro j u hj
    have hadd : (⟨w.heap.size, 0, none⟩ : Addr).add j = ⟨w.heap.size, j, none⟩ := by unfold Addr.add; split <;> simp_all
    rw [hadd]
    have hjl : j < (sb s).length := by
      rcases Nat.lt_or_ge j (sb s).length with h | h
      · exact h
      · rw [List.getElem?_eq_none (by simpa using h)] at hj; cases hj
    have hj2 : j < s.data.size := by rw [sb_len] at hjl; exact hjl
    have h := World.cell?_alloc_mark w.drew (bytesRow s (grownCap w s.size 0 5)) 5 ((bytesRow s (grownCap w s.size 0 5)).size, (bytesRow s (grownCap w s.size 0 5)).size + 1) j
    have h' : (w.drew.alloc (.cells (bytesRow s (grownCap w s.size 0 5)) 5 ((bytesRow s (grownCap w s.size 0 5)).size, (bytesRow s (grownCap w s.size 0 5)).size + 1))).cell? ⟨w.heap.size, j, none⟩ = _ := h
    rw [h', bytesRow_at s _ j hj2]
    have e := sb_at s j hj2
    simp [hjl] at hj e
    rw [← hj, e]
    rfl

theorem l3Bytes_any (v : Value) (nd : MNode) (B : Nat) (w : World) (hB : B ≤ w.heap.size) (hv : NodeIn w B v nd) :
    Calls Tryz.prog 253 #[v] w fun e w' => ∃ g n c, e = .returned (.slice (some ⟨g, 0, none⟩) n c) ∧ Mine w' w.heap.size (some ⟨g, 0, none⟩) n c (rawBytes nd) ∧ Below w.heap.size w w' := by
  obtain ⟨Ap, np, cp, Ak, nk, ck, rfl, hnp, hnk, hsz, hp, hk⟩ := hv
  obtain ⟨kind, path, kids, val⟩ := nd
  have HP := Lib.hid (hp.more hB)
  have HK := Lib.hid (hk.more hB)
  clear hp hk
  obtain ⟨w1, hw1⟩ : ∃ w1, w.alloc (.cells #[.int .i64 kind, .slice Ap np cp, .slice Ak nk ck, .string val] 134) = w1 := ⟨_, rfl⟩
  have x1 : Box w1 w.heap.size _ _ := hw1 ▸ heap_alloc_new _ _
  have s1 : w1.heap.size = w.heap.size + 1 := hw1 ▸ by simp
  have b1 : Below w.heap.size w w1 := hw1 ▸ (Below.refl _ _).alloc (Nat.le_refl _) _
  have X1 := Lib.hid x1
  have B1 := Lib.hid b1
  have HW := Lib.hid hw1
  clear x1 b1 hw1
  go_enter Tryz.func253, Tryz.ntmps253
  go_wp2
  rw [HW.out]
  obtain ⟨i0, hi, hz0, hz1, hz2⟩ := info_parts Tryz.info5
  have HI := Lib.hid hi
  have HZ0 := Lib.hid hz0
  have HZ1 := Lib.hid hz1
  have HZ2 := Lib.hid hz2
  clear hi hz0 hz1 hz2
  have m0 := (Mine.of_alloc w1 (w.heap.size + 1) [kind % 256, (np : Int) % 256] 2 (by omega) rfl (by unfold maxLen; omega) (by intro z hz; simp at hz; omega))
  rw [s1] at m0
  have M0 := Lib.hid m0
  clear m0
  have LP : Hid (path.length = np) := HP.out.1
  have LK : Hid (kids.length = nk) := HK.out.1
  go_loopw [3, 4] (fun b i wr => ∃ k g n c : Nat, k ≤ np ∧ i = .int .i64 k ∧ b = .slice (some ⟨g, 0, none⟩) n c ∧ Mine wr (w.heap.size + 1) (some ⟨g, 0, none⟩) n c ([kind % 256, (np : Int) % 256] ++ (path.take k).map (· % 256)) ∧ Below (w.heap.size + 1) w1 wr) (fun _ i _ => np - (intOf i).toNat)
  case atStart => exact ⟨0, _, 2, 2, Nat.zero_le _, rfl, rfl, M0.out, (Below.refl _ _).alloc (by omega) _⟩
  case round =>
    obtain ⟨k, g, n, c, hk, rfl, rfl, hm, hbr⟩ := hrel
    have hlen := hm.len
    have XR := Lib.hid (X1.out.below hbr (by omega))
    have BR := Lib.hid hbr
    have BW := Lib.hid (B1.out.trans (hbr.mono (by omega)))
    have MR := Lib.hid hm
    clear hm hbr
    have sr := BR.out.size
    have q1 := XR.out.cell 1
    simp at q1
    by_cases hlt : k < np
    · have hn : n = 2 + k := by
        have := LP.out
        simp at hlen; omega
      obtain ⟨b, off, rfl, hbB, hc⟩ := (HP.out.below BW.out).at_ hlt
      have hst := map_take_step (· % 256) path k (by rw [LP.out]; exact hlt)
      generalize path[k]?.getD 0 = z at hc hst
      have HST := Lib.hid hst
      clear hst
      go_wp2_with (at_builtin; refine wpList_append_lies _ rfl _ _ 22 rfl (w.heap.size + 1) 5 i0 (.int .u8 0) 1 1 Tryz.underlying22 HI.out HZ0.out HZ1.out HZ2.out rfl (by decide) _ _ _ rfl (MR.out.1.alloc _) ⟨wr.heap.size, 0, none⟩ 1 1 ([z % 256].map (Value.int .u8)) rfl ?a0 ?a1 ?a2 (by omega) ?a3 ?a4 ?a5 _ rfl ?_)
      case a0 => first | rfl | (simp; done) | simp [sb_len]
      case a1 =>
        intro j u hj
        match j, hj with
        | 0, hj => simp at hj; subst hj; simp [Addr.add]
      case a2 => intro u hu; obtain ⟨z, _, rfl⟩ := List.mem_map.1 hu; rfl
      case a3 => unfold maxLen; omega
      case a4 => omega
      case a5 => simp; omega
      intro g2 c2 w2 hown hgrow _ _
      have hm2 := MR.out.app (ys := [z % 256]) (by intro y hy; simp at hy; omega) (by simpa using hown)
      have hb2 : Below (w.heap.size + 1) w1 w2 := (BR.out.alloc (by omega) _).grown hgrow (by simp; omega) (fun g hg => (MR.out.1.lt g hg).1)
      rw [List.append_assoc, ← HST.out] at hm2
      have M2 := Lib.hid hm2
      have B2 := Lib.hid hb2
      clear hm2 hb2 hown hgrow
      go_wp2
      go_roundw
      case rel => exact ⟨k + 1, _, _, _, by omega, by go_num, rfl, M2.out, B2.out⟩
      case measure => simp [intOf]; omega
    · have hpt : path.take k = path := List.take_of_length_le (by rw [LP.out]; omega)
      rw [hpt] at MR
      have hn : n = 2 + np := by
        have h0 := MR.out.len
        have := LP.out
        simp at h0; omega
      have q3 := XR.out.cell 3
      simp at q3
      go_wp2_with (at_builtin; refine wpList_append_lies _ rfl _ _ 22 rfl (w.heap.size + 1) 5 i0 (.int .u8 0) 1 1 Tryz.underlying22 HI.out HZ0.out HZ1.out HZ2.out rfl (by decide) _ _ _ rfl (MR.out.1.alloc _) ⟨wr.heap.size, 0, none⟩ 1 1 ([(val.size : Int) % 256].map (Value.int .u8)) rfl ?d0 ?d1 ?d2 (by omega) ?d3 ?d4 ?d5 _ rfl ?_)
      case d0 => first | rfl | (simp; done) | simp [sb_len]
      case d1 =>
        intro j u hj
        match j, hj with
        | 0, hj => simp at hj; subst hj; simp [Addr.add]
      case d2 => intro u hu; obtain ⟨z, _, rfl⟩ := List.mem_map.1 hu; rfl
      case d3 => unfold maxLen; omega
      case d4 => omega
      case d5 => simp; omega
      intro g5 c5 w5 hown5 hgrow5 _ _
      have hm5 := MR.out.app (ys := [(val.size : Int) % 256]) (by intro y hy; simp at hy; omega) (by simpa using hown5)
      have hb5 : Below (w.heap.size + 1) w1 w5 := (BR.out.alloc (by omega) _).grown hgrow5 (by simp; omega) (fun g hg => (MR.out.1.lt g hg).1)
      have M5 := Lib.hid hm5
      have B5 := Lib.hid hb5
      clear hm5 hb5 hown5 hgrow5 q1 q3
      have s5 := B5.out.size
      have X5 := Lib.hid (X1.out.below B5.out (by omega))
      have q3 := X5.out.cell 3
      simp at q3
      obtain ⟨cap6, w6, hconv, b6, s6, hcell6⟩ := conv_str val w5
      have C6 := Lib.hid hcell6
      have M6 := Lib.hid (M5.out.below b6)
      have B6 := Lib.hid (B5.out.trans (b6.mono (by omega)))
      clear hcell6 b6
      go_wp2_with (at_builtin; refine wpList_append_own _ rfl _ _ 22 rfl (w.heap.size + 1) 5 i0 (.int .u8 0) 1 1 Tryz.underlying22 HI.out HZ0.out HZ1.out HZ2.out rfl (by decide) _ _ _ rfl M6.out.1 ⟨w5.heap.size, 0, none⟩ val.size _ ((sb val).map (Value.int .u8)) rfl ?e0 ?e1 ?e2 ?e3 ?e4 ?e5 ?_)
      case e0 => rw [List.length_map, Nat.mul_one]; first | rfl | exact sb_len _ | exact M8.out.len
      case e1 => exact C6.out
      case e2 => intro u hu; obtain ⟨z, _, rfl⟩ := List.mem_map.1 hu; rfl
      case e3 => unfold maxLen; omega
      case e4 => omega
      case e5 => omega
      intro v7 w7 hown7 hgrow7 hnil7
      clear hconv
      have hv : ∃ g c, v7 = .slice (some ⟨g, 0, none⟩) (2 + np + 1 + val.size) c := by
        rcases hown7.2 with ⟨e, _⟩ | ⟨g, cap, cur, e, _⟩
        · exact absurd e hnil7
        · exact ⟨g, cap, e⟩
      obtain ⟨g7, c7, rfl⟩ := hv
      have hm7 := M6.out.app (ys := sb val) (sb_bd val) (by simpa using hown7)
      have hb7 : Below (w.heap.size + 1) w1 w7 := B6.out.grown hgrow7 (by omega) (fun g hg => (M6.out.1.lt g hg).1)
      have M7 := Lib.hid hm7
      have B7 := Lib.hid hb7
      clear hm7 hb7 hown7 hgrow7 hnil7 q3
      have s7 := B7.out.size
      have X7 := Lib.hid (X1.out.below B7.out (by omega))
      have q2 := X7.out.cell 2
      simp at q2
      go_wp2_with (at_builtin; refine wpList_append_lies _ rfl _ _ 22 rfl (w.heap.size + 1) 5 i0 (.int .u8 0) 1 1 Tryz.underlying22 HI.out HZ0.out HZ1.out HZ2.out rfl (by decide) _ _ _ rfl (M7.out.1.alloc _) ⟨w7.heap.size, 0, none⟩ 1 1 ([(nk : Int) % 256].map (Value.int .u8)) rfl ?f0 ?f1 ?f2 (by omega) ?f3 ?f4 ?f5 _ rfl ?_)
      case f0 => first | rfl | (simp; done) | simp [sb_len]
      case f1 =>
        intro j u hj
        match j, hj with
        | 0, hj => simp at hj; subst hj; simp [Addr.add]
      case f2 => intro u hu; obtain ⟨z, _, rfl⟩ := List.mem_map.1 hu; rfl
      case f3 => unfold maxLen; omega
      case f4 => omega
      case f5 => simp; omega
      intro g8 c8 w8 hown8 hgrow8 _ _
      have hm8 := M7.out.app (ys := [(nk : Int) % 256]) (by intro y hy; simp at hy; omega) (by simpa using hown8)
      have hb8 : Below (w.heap.size + 1) w1 w8 := (B7.out.alloc (by omega) _).grown hgrow8 (by simp; omega) (fun g hg => (M7.out.1.lt g hg).1)
      generalize hpre : [kind % 256, (np : Int) % 256] ++ path.map (· % 256) ++ [(val.size : Int) % 256] ++ sb val ++ [(nk : Int) % 256] = pre at hm8
      have hplen : pre.length = 2 + np + 1 + val.size + 1 := hm8.len
      have HPRE := Lib.hid hpre
      have M8 := Lib.hid hm8
      have B8 := Lib.hid hb8
      clear hm8 hb8 hown8 hgrow8 q2 hpre
      go_wp2
      go_loopw [3, 5] (fun b i wr => ∃ k g n c : Nat, k ≤ nk ∧ i = .int .i64 k ∧ b = .slice (some ⟨g, 0, none⟩) n c ∧ Mine wr (w.heap.size + 1) (some ⟨g, 0, none⟩) n c (pre ++ (kids.take k).flatMap kidBytes) ∧ Below (w.heap.size + 1) w1 wr) (fun _ i _ => nk - (intOf i).toNat)
      case atStart => exact ⟨0, _, _, _, Nat.zero_le _, rfl, rfl, by simpa using M8.out, B8.out⟩
      case round =>
        obtain ⟨k, g, n, c, hk, rfl, rfl, hm, hbr⟩ := hrel
        have hlen := hm.len
        have XR := Lib.hid (X1.out.below hbr (by omega))
        have BR := Lib.hid hbr
        have BW := Lib.hid (B1.out.trans (hbr.mono (by omega)))
        have MR := Lib.hid hm
        clear hm hbr
        have sr := BR.out.size
        have q2 := XR.out.cell 2
        simp at q2
        have hn : n ≤ 20000000 := by
          have h1 := kidBytes_len (kids.take k)
          have h2 : (kids.take k).length ≤ nk := by rw [List.length_take, LK.out]; omega
          rw [List.length_append] at hlen
          omega
        clear hlen
        by_cases hlt : k < nk
        · have hst : (kids.take (k + 1)).flatMap kidBytes = (kids.take k).flatMap kidBytes ++ kidBytes (kids[k]?.getD (0, 0)) := by
            rw [List.take_succ_eq_append_getElem (by rw [LK.out]; exact hlt), List.flatMap_append, List.getElem?_eq_getElem (by rw [LK.out]; exact hlt)]
            simp
          obtain ⟨b, off, rfl, hbB, h0, h1⟩ := (HK.out.below BW.out).at_ hlt
          generalize hx : kids[k]?.getD (0, 0) = x at h0 h1 hst
          have HX := Lib.hid hx
          clear hx
          have HST := Lib.hid hst
          clear hst
          go_wp2_with (at_builtin; refine wpList_append_lies _ rfl _ _ 22 rfl (w.heap.size + 1) 5 i0 (.int .u8 0) 1 1 Tryz.underlying22 HI.out HZ0.out HZ1.out HZ2.out rfl (by decide) _ _ _ rfl (MR.out.1.alloc _) ⟨wr.heap.size, 0, none⟩ 1 1 ([x.1 % 256].map (Value.int .u8)) rfl ?g0 ?g1 ?g2 (by omega) ?g3 ?g4 ?g5 _ rfl ?_)
          case g0 => first | rfl | (simp; done) | simp [sb_len]
          case g1 =>
            intro j u hj
            match j, hj with
            | 0, hj => simp at hj; subst hj; simp [Addr.add]
          case g2 => intro u hu; obtain ⟨z, _, rfl⟩ := List.mem_map.1 hu; rfl
          case g3 => unfold maxLen; omega
          case g4 => omega
          case g5 => simp; omega
          intro g2 c2 w2 hown hgrow _ _
          have hm2 := MR.out.app (ys := [x.1 % 256]) (by intro y hy; simp at hy; omega) (by simpa using hown)
          have hb2 : Below (w.heap.size + 1) w1 w2 := (BR.out.alloc (by omega) _).grown hgrow (by simp; omega) (fun g hg => (MR.out.1.lt g hg).1)
          have M2 := Lib.hid hm2
          have B2 := Lib.hid hb2
          clear hm2 hb2 hown hgrow q2 h0 h1
          have s2 := B2.out.size
          have XR := Lib.hid (X1.out.below B2.out (by omega))
          obtain ⟨b', off', e', hbB', h0, h1⟩ := (HK.out.below (B1.out.trans (B2.out.mono (by omega)))).at_ hlt
          cases e'
          rw [HX.out] at h0 h1
          have q2 := XR.out.cell 2
          simp at q2
          go_wp2_with fail
          refine (specBytes_some x.2 _).mono ?_
          rintro e w3 ⟨g3, n3, c3, rfl, m3, b3⟩
          have hn3 : n3 ≤ 8 := by have := nameBytes_len8 x.2; have := m3.len; omega
          have M3 := Lib.hid m3
          have M2 := Lib.hid (M2.out.below b3)
          have B3 := Lib.hid (B2.out.trans (b3.mono (by omega)))
          clear m3 b3 q2 h0 h1
          have s3 := B3.out.size
          go_wp2_with (at_builtin; refine wpList_append_own _ rfl _ _ 22 rfl (w.heap.size + 1) 5 i0 (.int .u8 0) 1 1 Tryz.underlying22 HI.out HZ0.out HZ1.out HZ2.out rfl (by decide) _ _ _ rfl M2.out.1 ⟨g3, 0, none⟩ n3 _ ((nameBytes x.2).map (Value.int .u8)) rfl ?h0 ?h1 ?h2 ?h3 ?h4 ?h5 ?_)
          case h0 => rw [List.length_map, Nat.mul_one]; first | rfl | exact sb_len _ | exact M3.out.len
          case h1 => exact World.ownsRow.cells M3.out.1 rfl
          case h2 => intro u hu; obtain ⟨z, _, rfl⟩ := List.mem_map.1 hu; rfl
          case h3 => unfold maxLen; omega
          case h4 => omega
          case h5 => omega
          intro v4 w4 hown4 hgrow4 hnil4
          have hv : ∃ g c, v4 = .slice (some ⟨g, 0, none⟩) (n + 1 + n3) c := by
            rcases hown4.2 with ⟨e, _⟩ | ⟨g, cap, cur, e, _⟩
            · exact absurd e hnil4
            · exact ⟨g, cap, e⟩
          obtain ⟨g4, c4, rfl⟩ := hv
          have hm4 := M2.out.app (ys := nameBytes x.2) M3.out.2 (by simpa using hown4)
          have hb4 : Below (w.heap.size + 1) w1 w4 := B3.out.grown hgrow4 (by omega) (fun g hg => (M2.out.1.lt g hg).1)
          have he : pre ++ (kids.take k).flatMap kidBytes ++ [x.1 % 256] ++ nameBytes x.2 = pre ++ (kids.take (k + 1)).flatMap kidBytes := by
            rw [HST.out]; simp [kidBytes]
          rw [he] at hm4
          have M4 := Lib.hid hm4
          have B4 := Lib.hid hb4
          clear hm4 hb4 hown4 hgrow4 hnil4 he
          go_wp2
          go_roundw
          case rel => exact ⟨k + 1, _, _, _, by omega, by go_num, rfl, M4.out, B4.out⟩
          case measure => simp [intOf]; omega
        · have hkt : kids.take k = kids := List.take_of_length_le (by rw [LK.out]; omega)
          rw [hkt] at MR
          go_wp2
          go_ret
          refine ⟨g, n, c, rfl, ?_, BW.out⟩
          have hr : rawBytes ⟨kind, path, kids, val⟩ = pre ++ kids.flatMap kidBytes := by
            unfold rawBytes
            rw [← HPRE.out]
            simp only [LP.out, LK.out]
          rw [hr]
          exact MR.out.base (by omega)

/-- the bytes of a node; none where it is no right node. -/
def nodeBytes (nd : MNode) : List Int := if nodeOk nd then rawBytes nd else []
theorem nodeBytes_len (nd : MNode) : (nodeBytes nd).length ≤ 4 + nd.path.length + nd.val.size + nd.kids.length * 9 := by
  unfold nodeBytes
  split
  · unfold rawBytes
    have h1 := kidBytes_len nd.kids
    have h2 := sb_len nd.val
    simp only [List.length_append, List.length_map, List.length_cons, List.length_nil]
    omega
  · simp
end Go.Proofs.YtdhnhgppapkikaaGreatDoor

-- NameF: The name of which eight bytes are the bytes, as the program and as the model read it.
namespace Go.Proofs.YtdhnhgppapkikaaGreatDoor
set_option maxRecDepth 20000
open Go.RowKit

/-- the number that these bytes write, the lowest one first. -/
def leVal : List Int → Int
  | [] => 0
  | z :: r => z + 256 * leVal r
theorem leVal_append (a : List Int) (c : Int) : leVal (a ++ [c]) = leVal a + c * 2 ^ (8 * a.length) := by
  induction a with
  | nil => simp [leVal]
  | cons z r ih =>
    simp only [List.cons_append, leVal, ih, List.length_cons]
    rw [show 8 * (r.length + 1) = 8 * r.length + 8 by omega, Int.pow_add, show (2 : Int) ^ 8 = 256 by rfl, Int.mul_add, ← Int.mul_assoc c, Int.mul_comm _ 256, ← Int.add_assoc]
theorem leVal_bd (zs : List Int) (h : ∀ z ∈ zs, 0 ≤ z ∧ z ≤ 255) : 0 ≤ leVal zs ∧ leVal zs < 2 ^ (8 * zs.length) := by
  induction zs with
  | nil => simp [leVal]
  | cons z r ih =>
    have hz := h z (by simp)
    have ir := ih fun y hy => h y (by simp [hy])
    simp only [leVal, List.length_cons]
    rw [show 8 * (r.length + 1) = 8 * r.length + 8 by omega, Int.pow_add, show (2 : Int) ^ 8 = 256 by rfl]
    omega
theorem leVal_take (zs : List Int) (k : Nat) (h : k < zs.length) : leVal (zs.take (k + 1)) = leVal (zs.take k) + zs[k]?.getD 0 * 2 ^ (8 * k) := by
  rw [take_step zs k h, leVal_append]
  rw [show (zs.take k).length = k by simp; omega]
theorem leVal_drop (zs : List Int) (k : Nat) (h : k < zs.length) : leVal (zs.drop k) = zs[k]?.getD 0 + 256 * leVal (zs.drop (k + 1)) := by
  rw [List.drop_eq_getElem_cons h, leVal, List.getElem?_eq_getElem h]; rfl
theorem leVal_drop_le (zs : List Int) (h : ∀ z ∈ zs, 0 ≤ z ∧ z ≤ 255) (k : Nat) : 0 ≤ leVal (zs.drop k) ∧ leVal (zs.drop k) ≤ leVal zs := by
  refine ⟨(leVal_bd _ fun z hz => h z (List.mem_of_mem_drop hz)).1, ?_⟩
  induction k with
  | zero => simp
  | succ k ih =>
    by_cases hk : k < zs.length
    · have h1 := leVal_drop zs k hk
      have h2 := (leVal_bd (zs.drop (k + 1)) fun z hz => h z (List.mem_of_mem_drop hz)).1
      have h3 : 0 ≤ zs[k]?.getD 0 := by rw [List.getElem?_eq_getElem hk]; exact (h _ (List.getElem_mem hk)).1
      omega
    · rw [List.drop_eq_nil_of_le (by omega)]
      rw [List.drop_eq_nil_of_le (by omega)] at ih
      exact ih
theorem mem_at (zs : List Int) (h : ∀ z ∈ zs, 0 ≤ z ∧ z ≤ 255) (k : Nat) : 0 ≤ zs[k]?.getD 0 ∧ zs[k]?.getD 0 ≤ 255 := by
  by_cases hk : k < zs.length
  · rw [List.getElem?_eq_getElem hk]; exact h _ (List.getElem_mem hk)
  · rw [List.getElem?_eq_none (by omega)]; simp
theorem leVal_8 (zs : List Int) (h : ∀ z ∈ zs, 0 ≤ z ∧ z ≤ 255) (hl : zs.length = 8) : ∃ s, 0 ≤ s ∧ s < 72057594037927936 ∧ leVal zs = s + zs[7]?.getD 0 * 72057594037927936 := by
  have h1 := leVal_take zs 7 (by omega)
  have h2 := leVal_bd (zs.take 7) fun z hz => h z (List.mem_of_mem_take hz)
  rw [List.take_of_length_le (by omega)] at h1
  rw [show (zs.take 7).length = 7 by simp; omega] at h2
  exact ⟨_, h2.1, h2.2, h1⟩
theorem or_nat (a b : Nat) (ha : a < 18446744073709551616) (hb : b < 18446744073709551616) (y : Int) (hy : y = IntKind.i64.wrap (b : Int)) : bits .or .i64 (a : Int) y = IntKind.i64.wrap ((a ||| b : Nat) : Int) := by
  subst hy
  show IntKind.i64.wrap ((BitVec.ofInt 64 (a : Int) ||| BitVec.ofInt 64 (IntKind.i64.wrap (b : Int))).toNat : Int) = _
  have h2 : BitVec.ofInt 64 (IntKind.i64.wrap (b : Int)) = BitVec.ofInt 64 (b : Int) := by
    apply BitVec.eq_of_toNat_eq
    simp only [BitVec.toNat_ofInt, IntKind.wrap_i64]
    omega
  rw [h2, BitVec.toNat_or, ofInt_u64 a ha, ofInt_u64 b hb]
/-- what is read of the first k bytes, as the sum wraps. -/
def leW (zs : List Int) (k : Nat) : Int := wrap64 (leVal (zs.take k))
theorem wrap64_eq (n : Int) : wrap64 n = IntKind.i64.wrap n := by rw [IntKind.wrap_i64, wrap64]
theorem or_step (s c : Int) (k : Nat) (hk : k ≤ 7) (hs : 0 ≤ s ∧ s < 2 ^ (8 * k)) (hc : 0 ≤ c ∧ c ≤ 255) : bits .or .i64 s (wrap64 (c * 2 ^ (8 * k))) = wrap64 (s + c * 2 ^ (8 * k)) := by
  obtain ⟨a, rfl⟩ : ∃ a : Nat, s = a := ⟨s.toNat, by omega⟩
  obtain ⟨d, rfl⟩ : ∃ d : Nat, c = d := ⟨c.toNat, by omega⟩
  have hp : ((2 : Int) ^ (8 * k)) = ((2 ^ (8 * k) : Nat) : Int) := by simp
  have ha : a < 2 ^ (8 * k) := by have := hs.2; rw [hp] at this; omega
  have hle : 2 ^ (8 * k) ≤ 2 ^ 56 := Nat.pow_le_pow_right (by omega) (by omega)
  have hb : d * 2 ^ (8 * k) ≤ 255 * 2 ^ 56 := Nat.mul_le_mul (by omega) hle
  have hm : ((d : Int) * 2 ^ (8 * k)) = ((d * 2 ^ (8 * k) : Nat) : Int) := by simp
  rw [hm, wrap64_eq ((d * 2 ^ (8 * k) : Nat) : Int), or_nat a (d * 2 ^ (8 * k)) (by omega) (by omega) _ rfl, Nat.or_comm, nat_join (8 * k) _ _ (by simp) ha]
  rw [IntKind.wrap_i64]
  unfold wrap64
  generalize d * 2 ^ (8 * k) = X
  omega
theorem leW_step (zs : List Int) (h : ∀ z ∈ zs, 0 ≤ z ∧ z ≤ 255) (k : Nat) (hk : k < zs.length) (h7 : k ≤ 7) :
    bits .or .i64 (leW zs k) (wrap64 (zs[k]?.getD 0 * 2 ^ (8 * k))) = leW zs (k + 1) := by
  have hb := leVal_bd (zs.take k) fun z hz => h z (List.mem_of_mem_take hz)
  rw [show (zs.take k).length = k by simp; omega] at hb
  have hle : (2 : Int) ^ (8 * k) ≤ 2 ^ 56 := by
    have : 2 ^ (8 * k) ≤ 2 ^ 56 := Nat.pow_le_pow_right (by omega) (by omega)
    exact_mod_cast this
  unfold leW
  rw [leVal_take zs k hk, show wrap64 (leVal (zs.take k)) = leVal (zs.take k) by unfold wrap64; omega]
  exact or_step _ _ k h7 hb (mem_at zs h k)
theorem leW_0 (zs : List Int) : leW zs 0 = 0 := by simp [leW, leVal, wrap64]
theorem leW_yes (zs : List Int) (h : ∀ z ∈ zs, 0 ≤ z ∧ z ≤ 255) (hl : zs.length = 8) (h7 : zs[7]?.getD 0 ≤ 127) : leW zs 8 = leVal zs ∧ 0 ≤ leVal zs ∧ leVal zs ≤ 9223372036854775807 := by
  obtain ⟨s, h1, h2, h3⟩ := leVal_8 zs h hl
  have hm := mem_at zs h 7
  unfold leW wrap64
  rw [List.take_of_length_le (by omega)]
  omega
theorem leW_no (zs : List Int) (h : ∀ z ∈ zs, 0 ≤ z ∧ z ≤ 255) (hl : zs.length = 8) (h7 : (127 : Int) < zs[7]?.getD 0) : leW zs 8 < 0 := by
  obtain ⟨s, h1, h2, h3⟩ := leVal_8 zs h hl
  have hm := mem_at zs h 7
  unfold leW wrap64
  rw [List.take_of_length_le (by omega)]
  omega

theorem from_no_len (A : Option Addr) (n c : Nat) (w : World) (hn : n ≠ 8) :
    Calls Tryz.prog 209 #[.slice A n c] w fun e w' => e = .returned (.tuple #[.int .i64 0, .bool false]) ∧ w = w' := by
  go_enter Tryz.func209, Tryz.ntmps209
  go_wp2
  go_ret2
  exact ⟨rfl, rfl⟩
theorem specFrom_no_len (A : Option Addr) (n c : Nat) (w : World) (hn : n ≠ 8) :
    Calls Tryz.prog 120 #[.slice A n c] w fun e w' => e = .returned (.tuple #[.int .i64 0, .bool false]) ∧ w = w' := by
  go_enter Tryz.func120, Tryz.ntmps120
  go_wp2
  go_ret2
  exact ⟨rfl, rfl⟩

theorem from_high (A : Option Addr) (c : Nat) (zs : List Int) (B : Nat) (w : World) (hb : Byts w B A 8 zs) (h7 : (127 : Int) < zs[7]?.getD 0) :
    Calls Tryz.prog 209 #[.slice A 8 c] w fun e w' => e = .returned (.tuple #[.int .i64 0, .bool false]) ∧ w = w' := by
  have HN := Lib.hid (leW_no zs hb.2.1 hb.1 h7)
  have H0 := Lib.hid (leW_0 zs)
  have HB := Lib.hid hb
  clear hb h7
  go_enter Tryz.func209, Tryz.ntmps209
  go_wp2
  go_loop [4, 12] (fun s i => ∃ k : Nat, k ≤ 8 ∧ i = .int .i64 k ∧ s = .int .i64 (leW zs k)) (fun _ i => 8 - (intOf i).toNat)
  case atStart => exact ⟨0, Nat.zero_le _, rfl, by rw [H0.out]⟩
  case round =>
    obtain ⟨k, hk, rfl, rfl⟩ := hrel
    by_cases hlt : k < 8
    · obtain ⟨b, off, rfl, _, hc⟩ := HB.out.at_ hlt
      have hr := HB.out.range k
      have HS := Lib.hid (leW_step zs HB.out.2.1 k (by have := HB.out.1; omega) (by omega))
      go_wp2
      go_round
      case rel => exact ⟨k + 1, by omega, by go_num, by rw [HS.out]⟩
      case measure => simp [intOf]; omega
    · obtain rfl : k = 8 := by omega
      have hneg := HN.out
      go_wp2
      go_ret2
      exact ⟨rfl, rfl⟩
theorem from_yes (A : Option Addr) (c : Nat) (zs : List Int) (B : Nat) (w : World) (hb : Byts w B A 8 zs) (h7 : zs[7]?.getD 0 ≤ (127 : Int)) :
    Calls Tryz.prog 209 #[.slice A 8 c] w fun e w' => e = .returned (.tuple #[.int .i64 (leVal zs), .bool true]) ∧ w = w' := by
  have HN := Lib.hid (leW_yes zs hb.2.1 hb.1 h7)
  have H0 := Lib.hid (leW_0 zs)
  have HB := Lib.hid hb
  clear hb h7
  go_enter Tryz.func209, Tryz.ntmps209
  go_wp2
  go_loop [4, 12] (fun s i => ∃ k : Nat, k ≤ 8 ∧ i = .int .i64 k ∧ s = .int .i64 (leW zs k)) (fun _ i => 8 - (intOf i).toNat)
  case atStart => exact ⟨0, Nat.zero_le _, rfl, by rw [H0.out]⟩
  case round =>
    obtain ⟨k, hk, rfl, rfl⟩ := hrel
    by_cases hlt : k < 8
    · obtain ⟨b, off, rfl, _, hc⟩ := HB.out.at_ hlt
      have hr := HB.out.range k
      have HS := Lib.hid (leW_step zs HB.out.2.1 k (by have := HB.out.1; omega) (by omega))
      go_wp2
      go_round
      case rel => exact ⟨k + 1, by omega, by go_num, by rw [HS.out]⟩
      case measure => simp [intOf]; omega
    · obtain rfl : k = 8 := by omega
      have hpos : 0 ≤ leW zs 8 := by have := HN.out; omega
      go_wp2
      go_ret2
      exact ⟨by rw [HN.out.1]; rfl, rfl⟩

theorem specFrom_high (A : Option Addr) (c : Nat) (zs : List Int) (B : Nat) (w : World) (hb : Byts w B A 8 zs) (h7 : (127 : Int) < zs[7]?.getD 0) :
    Calls Tryz.prog 120 #[.slice A 8 c] w fun e w' => e = .returned (.tuple #[.int .i64 0, .bool false]) ∧ w = w' := by
  obtain ⟨b, off, rfl, _, hc⟩ := hb.at_ (k := 7) (by omega)
  have hr := hb.range 7
  clear hb
  go_enter Tryz.func120, Tryz.ntmps120
  go_wp2
  go_ret2
  exact ⟨rfl, rfl⟩
theorem specFrom_yes (A : Option Addr) (c : Nat) (zs : List Int) (B : Nat) (w : World) (hb : Byts w B A 8 zs) (h7 : zs[7]?.getD 0 ≤ (127 : Int)) :
    Calls Tryz.prog 120 #[.slice A 8 c] w fun e w' => e = .returned (.tuple #[.int .i64 (leVal zs), .bool true]) ∧ w = w' := by
  have HN := Lib.hid (leW_yes zs hb.2.1 hb.1 h7)
  have HB := Lib.hid hb
  obtain ⟨b, off, rfl, _, hc7⟩ := hb.at_ (k := 7) (by omega)
  have hr7 := hb.range 7
  clear hb
  go_enter Tryz.func120, Tryz.ntmps120
  go_wp2
  clear hc7 hr7 h7
  go_loop [4, 5] (fun s i => ∃ m : Nat, m ≤ 8 ∧ i = .int .i64 ((m : Int) - 1) ∧ s = .int .i64 (leVal (zs.drop m))) (fun _ i => (intOf i + 1).toNat)
  case atStart => exact ⟨8, Nat.le_refl _, rfl, by rw [List.drop_eq_nil_of_le (by have := HB.out.1; omega)]; rfl⟩
  case round =>
    obtain ⟨m, hm, rfl, rfl⟩ := hrel
    rcases m with _ | k
    · go_wp2
      go_ret2
      exact ⟨rfl, rfl⟩
    · have e1 : ((k + 1 : Nat) : Int) - 1 = (k : Int) := by omega
      rw [e1]
      clear e1
      obtain ⟨b', off', hA, _, hc⟩ := HB.out.at_ (k := k) (by omega)
      injection hA with hA
      injection hA with hA1 hA2
      subst hA1 hA2
      have hr := HB.out.range k
      have hd1 := leVal_drop_le zs HB.out.2.1 (k + 1)
      have hd0 := leVal_drop_le zs HB.out.2.1 k
      have HS := Lib.hid (leVal_drop zs k (by have := HB.out.1; omega))
      have hbd : leVal (zs.drop (k + 1)) * 256 + zs[k]?.getD 0 ≤ 9223372036854775807 := by have := HN.out; have := HS.out; omega
      go_wp2
      go_round
      case rel => exact ⟨k, by omega, rfl, by rw [HS.out]; go_num⟩
      case measure => simp [intOf]
end Go.Proofs.YtdhnhgppapkikaaGreatDoor

-- NameM: Plain facts on names: a name is read as it was written, what is read is written as it was, and one other byte makes another name.
namespace Go.Proofs.YtdhnhgppapkikaaGreatDoor
set_option maxRecDepth 20000
open Go.RowKit

theorem nameOf_bd (zs : List Int) : 1 ≤ nameOf zs ∧ nameOf zs ≤ 9223372036854775807 := by
  have h1 := upSum_bd zs
  have h2 := loSum_bd zs
  unfold nameOf
  omega
theorem list8 (zs : List Int) (h : zs.length = 8) : ∃ a b c d e f g i, zs = [a, b, c, d, e, f, g, i] := by
  match zs, h with
  | [a, b, c, d, e, f, g, i], _ => exact ⟨a, b, c, d, e, f, g, i, rfl⟩
theorem nb8 (x : Int) : nb x 8 = [x % 256, x / 256 % 256, x / 65536 % 256, x / 16777216 % 256, x / 4294967296 % 256, x / 1099511627776 % 256, x / 281474976710656 % 256, x / 72057594037927936 % 256] := by
  simp [nb, List.range, List.range.loop]
theorem back_of_bytes (x : Int) (h : 0 ≤ x ∧ x ≤ 9223372036854775807) : leVal (nameBytes x) = x ∧ (nameBytes x).length = 8 ∧ (nameBytes x)[7]?.getD 0 ≤ (127 : Int) := by
  rw [nameBytes_yes x (by omega), nb8]
  refine ⟨?_, rfl, ?_⟩
  · simp only [leVal]
    omega
  · simp
    omega
theorem bytes_of_back (zs : List Int) (h : ∀ z ∈ zs, 0 ≤ z ∧ z ≤ 255) (hl : zs.length = 8) (h7 : zs[7]?.getD 0 ≤ (127 : Int)) : nameBytes (leVal zs) = zs := by
  have hp := (leW_yes zs h hl h7).2.1
  rw [nameBytes_yes _ (by omega), nb8]
  obtain ⟨z0, z1, z2, z3, z4, z5, z6, z7, rfl⟩ := list8 zs hl
  have h0 := h z0 (by simp)
  have h1 := h z1 (by simp)
  have h2 := h z2 (by simp)
  have h3 := h z3 (by simp)
  have h4 := h z4 (by simp)
  have h5 := h z5 (by simp)
  have h6 := h z6 (by simp)
  have h7 := h z7 (by simp)
  clear hp h
  simp only [leVal, List.cons.injEq, and_true]
  refine ⟨?_, ?_, ?_, ?_, ?_, ?_, ?_, ?_⟩ <;> omega

/-! one other byte, another name -/
theorem upStep_inj (s t z : Int) (hs : 0 ≤ s ∧ s < 2147483647) (ht : 0 ≤ t ∧ t < 2147483647) (h : upStep s z = upStep t z) : s = t := by
  unfold upStep at h
  omega
theorem upFold_inj (r : List Int) : ∀ (s t : Int), 0 ≤ s ∧ s < 2147483647 → 0 ≤ t ∧ t < 2147483647 → r.foldl upStep s = r.foldl upStep t → s = t := by
  induction r with
  | nil => intro s t _ _ h; exact h
  | cons z r ih =>
    intro s t hs ht h
    refine upStep_inj s t z hs ht (ih _ _ ?_ ?_ h)
    · unfold upStep; omega
    · unfold upStep; omega
theorem upStep_ne (s z z' : Int) (hz : 0 ≤ z ∧ z ≤ 255) (hz' : 0 ≤ z' ∧ z' ≤ 255) (h : upStep s z = upStep s z') : z = z' := by
  unfold upStep at h
  omega
theorem upSum_set (zs : List Int) (h : ∀ z ∈ zs, 0 ≤ z ∧ z ≤ 255) (k : Nat) (hk : k < zs.length) (z' : Int) (hz' : 0 ≤ z' ∧ z' ≤ 255) (hne : z' ≠ zs[k]?.getD 0) : upSum (zs.set k z') ≠ upSum zs := by
  intro e
  have e1 : zs = zs.take k ++ zs[k] :: zs.drop (k + 1) := by rw [← List.drop_eq_getElem_cons hk, List.take_append_drop]
  have e2 : zs.set k z' = zs.take k ++ z' :: zs.drop (k + 1) := by rw [List.set_eq_take_append_cons_drop, if_pos hk]
  rw [e2] at e
  have e3 : upSum zs = upSum (zs.take k ++ zs[k] :: zs.drop (k + 1)) := congrArg upSum e1
  rw [e3] at e
  unfold upSum at e
  rw [List.foldl_append, List.foldl_append, List.foldl_cons, List.foldl_cons] at e
  have hs := fold_bd upStep 2147483647 (fun s c => by unfold upStep; omega) (zs.take k) 7 (by omega)
  have := upFold_inj _ _ _ (by unfold upStep; omega) (by unfold upStep; omega) e
  have hz := h zs[k] (List.getElem_mem hk)
  apply hne
  rw [List.getElem?_eq_getElem hk]
  exact upStep_ne _ _ _ hz' hz this
theorem nameOf_set (zs : List Int) (h : ∀ z ∈ zs, 0 ≤ z ∧ z ≤ 255) (k : Nat) (hk : k < zs.length) : nameOf (zs.set k ((zs[k]?.getD 0 + 1) % 256)) ≠ nameOf zs := by
  have hz := mem_at zs h k
  have hu := upSum_set zs h k hk ((zs[k]?.getD 0 + 1) % 256) (by omega) (by omega)
  have a1 := loSum_bd zs
  have a2 := loSum_bd (zs.set k ((zs[k]?.getD 0 + 1) % 256))
  unfold nameOf
  omega
end Go.Proofs.YtdhnhgppapkikaaGreatDoor

-- NodeI: Plain facts on the bytes of nodes: two right nodes that write the same bytes are one; what a reading of bytes says.
namespace Go.Proofs.YtdhnhgppapkikaaGreatDoor
set_option maxRecDepth 20000
open Go.RowKit

/-- the names of its kids are numbers of 64 bits. -/
def NodeWf (nd : MNode) : Prop := ∀ k ∈ nd.kids, k.2 ≤ 9223372036854775807
theorem map_mod (ps : List Int) (h : ∀ z ∈ ps, 0 ≤ z ∧ z ≤ 15) : ps.map (· % 256) = ps := by
  conv => rhs; rw [← List.map_id ps]
  apply List.map_congr_left
  intro z hz
  have := h z hz
  simp; omega
theorem nodeOk_parts (nd : MNode) (h : nodeOk nd = true) : isPath nd.path = true ∧ kidsOk nd.kids = true ∧ (hasVal nd = true → valOk (sb nd.val) = true) ∧ kindOk nd = true := by
  unfold nodeOk at h
  simp only [Bool.and_eq_true, Bool.or_eq_true, Bool.not_eq_true'] at h
  refine ⟨h.1.1.1, h.1.1.2, fun hv => ?_, h.2⟩
  rcases h.1.2 with h | h
  · rw [hv] at h; cases h
  · exact h
theorem nodeOk_kind (nd : MNode) (h : nodeOk nd = true) : 1 ≤ nd.kind ∧ nd.kind ≤ 3 := by
  have hk := (nodeOk_parts nd h).2.2.2
  unfold kindOk at hk
  split at hk
  · omega
  · split at hk
    · omega
    · split at hk
      · omega
      · cases hk
theorem nodeOk_val (nd : MNode) (h : nodeOk nd = true) : nd.val.size ≤ 12 := by
  by_cases hv : hasVal nd = true
  · have h1 := (nodeOk_parts nd h).2.2.1 hv
    unfold valOk at h1
    simp at h1
    have := sb_len nd.val
    omega
  · have h1 : nd.val.toList = [] := by
      unfold hasVal at hv
      simpa using hv
    rw [empty_str nd.val h1]; decide
theorem kidsOk_at (ks : List (Int × Int)) (h : kidsOk ks = true) (i : Nat) (hi : i < ks.length) : KidAt ks i := by
  unfold kidsOk at h
  exact of_decide_eq_true h i hi
theorem kidsOk_ge (ks : List (Int × Int)) (h : kidsOk ks = true) (i : Nat) (hi : i < ks.length) : (i : Int) ≤ (ks[i]?.getD (0, 0)).1 := by
  induction i with
  | zero => exact (kidsOk_at ks h 0 hi).1.1
  | succ i ih =>
    have h1 := ih (by omega)
    have h2 := (kidsOk_at ks h (i + 1) hi).2.2 (by omega)
    rw [Nat.add_sub_cancel] at h2
    omega
theorem kidsOk_len (ks : List (Int × Int)) (h : kidsOk ks = true) : ks.length ≤ 16 := by
  rcases Nat.lt_or_ge 16 ks.length with hl | hl
  · have h1 := kidsOk_ge ks h 16 hl
    have h2 := (kidsOk_at ks h 16 hl).1.2
    omega
  · exact hl
theorem kidsOk_mem (ks : List (Int × Int)) (h : kidsOk ks = true) (k : Int × Int) (hk : k ∈ ks) : (0 ≤ k.1 ∧ k.1 ≤ 15) ∧ 1 ≤ k.2 := by
  obtain ⟨i, hi, rfl⟩ := List.getElem_of_mem hk
  have := kidsOk_at ks h i hi
  unfold KidAt at this
  rw [List.getElem?_eq_getElem hi] at this
  exact ⟨this.1, this.2.1⟩
theorem nb_inj (x y : Int) (hx : 0 ≤ x ∧ x ≤ 9223372036854775807) (hy : 0 ≤ y ∧ y ≤ 9223372036854775807) (h : nameBytes x = nameBytes y) : x = y := by
  rw [nameBytes_yes x (by omega), nameBytes_yes y (by omega)] at h
  have e : ∀ k, k < 8 → x / 2 ^ (8 * k) % 256 = y / 2 ^ (8 * k) % 256 := by
    intro k hk
    rw [← nb_at x 8 k hk, ← nb_at y 8 k hk, h]
  have e0 := e 0 (by omega); have e1 := e 1 (by omega); have e2 := e 2 (by omega); have e3 := e 3 (by omega)
  have e4 := e 4 (by omega); have e5 := e 5 (by omega); have e6 := e 6 (by omega); have e7 := e 7 (by omega)
  simp at e0 e1 e2 e3 e4 e5 e6 e7
  omega
theorem kidBytes_inj (a b : List (Int × Int)) (hl : a.length = b.length) (ha : ∀ k ∈ a, ((0 ≤ k.1 ∧ k.1 ≤ 15) ∧ 1 ≤ k.2) ∧ k.2 ≤ 9223372036854775807) (hb : ∀ k ∈ b, ((0 ≤ k.1 ∧ k.1 ≤ 15) ∧ 1 ≤ k.2) ∧ k.2 ≤ 9223372036854775807) (h : a.flatMap kidBytes = b.flatMap kidBytes) : a = b := by
  induction a generalizing b with
  | nil => cases b with
    | nil => rfl
    | cons y q => simp at hl
  | cons x r ih =>
    cases b with
    | nil => simp at hl
    | cons y q =>
      have hx := ha x (by simp)
      have hy := hb y (by simp)
      rw [List.flatMap_cons, List.flatMap_cons] at h
      have lx : (kidBytes x).length = 9 := by unfold kidBytes; rw [nameBytes_yes x.2 (by omega)]; simp [nb]
      have ly : (kidBytes y).length = 9 := by unfold kidBytes; rw [nameBytes_yes y.2 (by omega)]; simp [nb]
      obtain ⟨h1, h2⟩ := List.append_inj h (by omega)
      have h3 := ih q (by simpa using hl) (fun k hk => ha k (by simp [hk])) (fun k hk => hb k (by simp [hk])) h2
      unfold kidBytes at h1
      injection h1 with h4 h5
      have h6 := nb_inj x.2 y.2 (by omega) (by omega) h5
      have h7 : x = y := by
        obtain ⟨x1, x2⟩ := x
        obtain ⟨y1, y2⟩ := y
        simp at h6 h4 hx hy ⊢
        omega
      rw [h7, h3]
theorem str_inj (s t : ByteArray) (h : sb s = sb t) : s = t := by rw [← str_sb s, h, str_sb t]
/-- two right nodes that write the same bytes are one. -/
theorem nodeBytes_inj (a b : MNode) (ha : nodeOk a = true) (hb : nodeOk b = true) (wa : NodeWf a) (wb : NodeWf b) (h : nodeBytes a = nodeBytes b) : a = b := by
  unfold nodeBytes at h
  rw [if_pos ha, if_pos hb] at h
  have pa := (isPath_iff _).1 (nodeOk_parts a ha).1
  have pb := (isPath_iff _).1 (nodeOk_parts b hb).1
  have ka := nodeOk_kind a ha; have kb := nodeOk_kind b hb
  have va := nodeOk_val a ha; have vb := nodeOk_val b hb
  have ca := (nodeOk_parts a ha).2.1; have cb := (nodeOk_parts b hb).2.1
  have na := kidsOk_len _ ca; have nb' := kidsOk_len _ cb
  unfold rawBytes at h
  rw [map_mod a.path pa.2, map_mod b.path pb.2] at h
  simp only [List.append_assoc, List.cons_append, List.nil_append] at h
  injection h with h1 h
  injection h with h2 h
  obtain ⟨h3, h⟩ := List.append_inj h (by omega)
  injection h with h4 h
  obtain ⟨h5, h⟩ := List.append_inj h (by rw [sb_len, sb_len]; omega)
  injection h with h6 h7
  have h8 := kidBytes_inj a.kids b.kids (by omega) (fun k hk => ⟨kidsOk_mem _ ca k hk, wa k hk⟩) (fun k hk => ⟨kidsOk_mem _ cb k hk, wb k hk⟩) h7
  have h9 := str_inj _ _ h5
  obtain ⟨ak, ap, ai, av⟩ := a
  obtain ⟨bk, bp, bi, bv⟩ := b
  simp at h1 h3 h8 h9 ka kb ⊢
  exact ⟨by omega, h3, h8, h9⟩

/-- the node that is none. -/
def node0 : MNode := ⟨0, [], [], { data := #[] }⟩
/-- what the reading of some bytes says: a right node whose bytes they are; or none, and there is none. -/
def NodeRead (bs : List Int) (nd : MNode) (b : Bool) : Prop :=
  (b = true ∧ nodeOk nd = true ∧ NodeWf nd ∧ nodeBytes nd = bs) ∨ (b = false ∧ nd = node0 ∧ ∀ n : MNode, nodeOk n = true → NodeWf n → nodeBytes n ≠ bs)
theorem NodeRead.one {bs : List Int} {nd nd' : MNode} {b b' : Bool} (h : NodeRead bs nd b) (h' : NodeRead bs nd' b') : nd = nd' ∧ b = b' := by
  rcases h with ⟨rfl, h1, h2, h3⟩ | ⟨rfl, rfl, h1⟩ <;> rcases h' with ⟨rfl, k1, k2, k3⟩ | ⟨rfl, rfl, k1⟩
  · exact ⟨nodeBytes_inj _ _ h1 k1 h2 k2 (h3.trans k3.symm), rfl⟩
  · exact absurd h3 (k1 _ h1 h2)
  · exact absurd k3 (h1 _ k1 k2)
  · exact ⟨rfl, rfl⟩
end Go.Proofs.YtdhnhgppapkikaaGreatDoor
