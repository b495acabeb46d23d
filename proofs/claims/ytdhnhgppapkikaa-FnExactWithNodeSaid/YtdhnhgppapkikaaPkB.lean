/- Several texts in one, in build order: Kids, Touch, Cells, NodeM, L1In, NodeS, NodeK, OpenNode, OpenCells, Std, Mine, KidsX, IntsX, NodeX, CellsX. -/
import Derived.Test.YtdhnhgppapkikaaPkA
import Derived.Deep.SlicePairs
import Derived.WalkLawsBesides
import Derived.WalkSpells
import Derived.ProofKit
import Derived.OpenShut
import Derived.ShutString
import Derived.ChangeOld
import Derived.Lib.SmallJoins
import Derived.Test.YtdhnhgppapkikaaRows
import Derived.LoopTactic
import Derived.Outline
import Derived.Deep.QuietTactic
import Derived.BigQuiet
import Derived.Laws.MakeOwn
import Derived.WalkSmall
import Derived.OwnWalk
import Derived.Laws.OwnMore
import Derived.Deep.AppendLies
import Derived.StillTailTactics
-- Kids: Slices of kids: one that reads as a list of pairs of numbers, one that the call made and may write into; no statement of the program is proved here.
namespace Go.Proofs.Ytdhnhgppapkikaa
set_option maxRecDepth 20000
open Go.RowKit

/-- the numbers of some kids, one behind the other. -/
def kv (ks : List (Int × Int)) : List Int := ks.flatMap fun k => [k.1, k.2]
theorem kv_len (ks : List (Int × Int)) : (kv ks).length = ks.length * 2 := by
  induction ks with
  | nil => rfl
  | cons k r ih => simp [kv] at ih ⊢; omega
theorem kv_cons (k : Int × Int) (r : List (Int × Int)) : kv (k :: r) = k.1 :: k.2 :: kv r := rfl
theorem kv_append (a b : List (Int × Int)) : kv (a ++ b) = kv a ++ kv b := by simp [kv]
theorem kv_at0 (ks : List (Int × Int)) (k : Nat) : (kv ks)[k * 2]?.getD 0 = (ks[k]?.getD (0, 0)).1 := by
  induction ks generalizing k with
  | nil => simp [kv]
  | cons x r ih =>
    rcases k with _ | k
    · rfl
    · rw [kv_cons, show (k + 1) * 2 = k * 2 + 1 + 1 by omega, List.getElem?_cons_succ, List.getElem?_cons_succ, ih k]; rfl
theorem kv_at1 (ks : List (Int × Int)) (k : Nat) : (kv ks)[k * 2 + 1]?.getD 0 = (ks[k]?.getD (0, 0)).2 := by
  induction ks generalizing k with
  | nil => simp [kv]
  | cons x r ih =>
    rcases k with _ | k
    · rfl
    · rw [kv_cons, show (k + 1) * 2 + 1 = k * 2 + 1 + 1 + 1 by omega, List.getElem?_cons_succ, List.getElem?_cons_succ, ih k]; rfl

/-- the slice value '.slice A n c' of kids reads as ks, below block B. -/
def Kids (w : World) (B : Nat) (A : Option Addr) (n : Nat) (ks : List (Int × Int)) : Prop := ks.length = n ∧ Ints w B A (n * 2) (kv ks)
section
variable {w w' : World} {B B' n : Nat} {A : Option Addr} {ks : List (Int × Int)}
theorem Kids.none_ : Kids w B A 0 [] := ⟨rfl, Ints.none_⟩
theorem Kids.at_ {k : Nat} (h : Kids w B A n ks) (hk : k < n) : ∃ b off, A = some ⟨b, off, none⟩ ∧ b < B ∧ w.cell? ⟨b, off + k * 2, none⟩ = some (.int .i64 (ks[k]?.getD (0, 0)).1) ∧ w.cell? ⟨b, off + k * 2 + 1, none⟩ = some (.int .i64 (ks[k]?.getD (0, 0)).2) := by
  obtain ⟨b, off, e, hb, hc⟩ := h.2.2 (by omega)
  refine ⟨b, off, e, hb, ?_, ?_⟩
  · have := hc (k * 2) (by omega)
    rw [this, ← kv_at0]; simp
  · have := hc (k * 2 + 1) (by omega)
    rw [Nat.add_assoc, this, ← kv_at1]; simp
theorem Kids.keep (h : Kids w B A n ks) (hk : ∀ p : Addr, p.block < B → w'.cell? p = w.cell? p) : Kids w' B A n ks := ⟨h.1, h.2.keep hk⟩
theorem Kids.more (h : Kids w B A n ks) (hB : B ≤ B') : Kids w B' A n ks := ⟨h.1, h.2.more hB⟩
theorem Kids.below (h : Kids w B A n ks) (hb : Below B w w') : Kids w' B A n ks := ⟨h.1, h.2.below hb⟩
theorem Kids.drewN (h : Kids w B A n ks) (k : Nat) : Kids (w.drewN k) B A n ks := h
theorem Kids.alloc (h : Kids w B A n ks) (hB : B ≤ w.heap.size) (o : Obj) : Kids (w.alloc o) B A n ks := ⟨h.1, h.2.alloc hB o⟩
theorem Kids.grown (h : Kids w B A n ks) {row : Option Nat} (hg : w.grownBy w' row) (hB : B ≤ w.heap.size) (hr : ∀ g, row = some g → B ≤ g) : Kids w' B A n ks := ⟨h.1, h.2.grown hg hB hr⟩
end

theorem Try.infoK : (Try.prog.info? 79).map (fun i => (i.zero, i.size, i.bytes)) = some (some (.agg #[.int .i64 0, .int .i64 0]), 2, 16) := by kernel_rfl

/-- the slice '.slice A n c' of kids lies in a block of the call's own, from base on, and holds ks. -/
def OwnK (w : World) (base : Nat) (A : Option Addr) (n c : Nat) (ks : List (Int × Int)) : Prop :=
  w.ownsRow base 79 2 (.slice A n c) n ((kv ks).map (Value.int .i64))
section
variable {w w' : World} {base n c : Nat} {A : Option Addr} {ks : List (Int × Int)}
theorem OwnK.nil (w : World) (base : Nat) : OwnK w base none 0 0 [] := World.ownsRow_nil _ _ _ _
theorem OwnK.len (h : OwnK w base A n c ks) : ks.length = n := by have := h.1; simp [kv_len] at this; omega
theorem OwnK.form (h : OwnK w base A n c ks) (hn : 0 < n) : ∃ g, A = some ⟨g, 0, none⟩ ∧ base ≤ g ∧ g < w.heap.size := by
  obtain ⟨g, cap, hv, h1, h2⟩ := World.ownsRow.form h hn
  injection hv with hA
  exact ⟨g, hA, h1, h2⟩
theorem OwnK.kids (h : OwnK w base A n c ks) : Kids w w.heap.size A n ks :=
  ⟨h.len, by rw [kv_len, h.len], fun hn => by
    obtain ⟨g, rfl, _, hlt⟩ := h.form (by omega)
    refine ⟨g, 0, rfl, hlt, fun i hi => ?_⟩
    rw [Nat.zero_add, World.ownsRow.cellAt h i (by omega)]
    have := h.len
    simp [show i < (kv ks).length by rw [kv_len]; omega]⟩
theorem OwnK.cell0 {g : Nat} (h : OwnK w base (some ⟨g, 0, none⟩) n c ks) {k : Nat} (hk : k < n) : w.cell? ⟨g, k * 2, none⟩ = some (.int .i64 (ks[k]?.getD (0, 0)).1) := by
  obtain ⟨b, off, e, _, h1, _⟩ := h.kids.at_ hk
  cases e
  rwa [Nat.zero_add] at h1
theorem OwnK.cell1 {g : Nat} (h : OwnK w base (some ⟨g, 0, none⟩) n c ks) {k : Nat} (hk : k < n) : w.cell? ⟨g, k * 2 + 1, none⟩ = some (.int .i64 (ks[k]?.getD (0, 0)).2) := by
  obtain ⟨b, off, e, _, _, h1⟩ := h.kids.at_ hk
  cases e
  rwa [Nat.zero_add] at h1
theorem OwnK.free {g : Nat} (h : OwnK w base (some ⟨g, 0, none⟩) n c ks) (k : Nat) : w.frozen? ⟨g, k, none⟩ = false := World.ownsRow.frozenAt h k
theorem OwnK.below (h : OwnK w base A n c ks) (hb : Below w.heap.size w w') : OwnK w' base A n c ks :=
  World.ownsRow.kept h (row := none) ⟨hb.os, hb.tape, hb.output, hb.size, fun k hk _ => hb.block k hk⟩ (by cases hA : Value.ownBlock (.slice A n c) <;> simp)
theorem OwnK.drewN (h : OwnK w base A n c ks) (m : Nat) : OwnK (w.drewN m) base A n c ks := h.below (below_drewN (Below.refl _ _) m)
end
theorem kv_set0 (ks : List (Int × Int)) (k : Nat) (z : Int) : (kv ks).set (k * 2) z = kv (ks.set k (z, (ks[k]?.getD (0, 0)).2)) := by
  induction ks generalizing k with
  | nil => simp [kv]
  | cons x r ih =>
    rcases k with _ | k
    · rfl
    · rw [kv_cons, show (k + 1) * 2 = k * 2 + 1 + 1 by omega, List.set_cons_succ, List.set_cons_succ, ih k]; rfl
theorem kv_set1 (ks : List (Int × Int)) (k : Nat) (z : Int) : (kv ks).set (k * 2 + 1) z = kv (ks.set k ((ks[k]?.getD (0, 0)).1, z)) := by
  induction ks generalizing k with
  | nil => simp [kv]
  | cons x r ih =>
    rcases k with _ | k
    · rfl
    · rw [kv_cons, show (k + 1) * 2 + 1 = k * 2 + 1 + 1 + 1 by omega, List.set_cons_succ, List.set_cons_succ, ih k]; rfl
section
variable {w w' : World} {base n c : Nat} {ks : List (Int × Int)}
theorem OwnK.set0 {g : Nat} (h : OwnK w base (some ⟨g, 0, none⟩) n c ks) (k : Nat) (z : Int) :
    OwnK (w.setCell ⟨g, k * 2, none⟩ (.int .i64 z)) base (some ⟨g, 0, none⟩) n c (ks.set k (z, (ks[k]?.getD (0, 0)).2)) ∧ w.grownBy (w.setCell ⟨g, k * 2, none⟩ (.int .i64 z)) (some g) := by
  obtain ⟨h1, h2⟩ := World.ownsRow.stored h (k * 2) (.int .i64 z)
  exact ⟨by unfold OwnK; rw [← kv_set0, List.map_set]; exact h1, h2⟩
theorem OwnK.set1 {g : Nat} (h : OwnK w base (some ⟨g, 0, none⟩) n c ks) (k : Nat) (z : Int) :
    OwnK (w.setCell ⟨g, k * 2 + 1, none⟩ (.int .i64 z)) base (some ⟨g, 0, none⟩) n c (ks.set k ((ks[k]?.getD (0, 0)).1, z)) ∧ w.grownBy (w.setCell ⟨g, k * 2 + 1, none⟩ (.int .i64 z)) (some g) := by
  obtain ⟨h1, h2⟩ := World.ownsRow.stored h (k * 2 + 1) (.int .i64 z)
  exact ⟨by unfold OwnK; rw [← kv_set1, List.map_set]; exact h1, h2⟩
theorem OwnK.of_alloc (w : World) (base : Nat) (ks : List (Int × Int)) (n : Nat) (hb : base ≤ w.heap.size) (hn : ks.length = n) (hm : n ≤ maxLen) :
    OwnK (w.alloc (.cells (i64s (kv ks)) 79)) base (some ⟨w.heap.size, 0, none⟩) n n ks :=
  World.ownsRow_lit w (i64s (kv ks)) n hb hm (by simp [i64s, kv_len, hn])
end
theorem OwnK.base {w : World} {base base' n c : Nat} {A : Option Addr} {ks : List (Int × Int)} (h : OwnK w base A n c ks) (hb : base' ≤ base) : OwnK w base' A n c ks := by
  refine ⟨h.1, ?_⟩
  rcases h.2 with h | ⟨g, cap, cur, hv, hg, r⟩
  · exact .inl h
  · exact .inr ⟨g, cap, cur, hv, by omega, r⟩
theorem OwnK.grown {w w' : World} {base n c : Nat} {A : Option Addr} {ks : List (Int × Int)} (h : OwnK w base A n c ks) {row : Option Nat} (hg : w.grownBy w' row) (hr : ∀ r, row = some r → r < base) : OwnK w' base A n c ks := by
  refine World.ownsRow.kept h hg ?_
  rcases hb : (Value.slice A n c).ownBlock with _ | k
  · exact .inl rfl
  · right
    intro e
    have := hr k e.symm
    have := (h.lt k hb).1
    omega
theorem index_kid (b off n c j : Nat) (h : j < n) (W : World) : (Instr.indexAt 33 (.slice (some ⟨b, off, none⟩) n c) (.int .i64 (j : Int))).run Try.prog W = .ok (.pointer (some ⟨b, off + j * 2, none⟩)) W := by
  go_simp
theorem index_kid_pred (b off n c k : Nat) (h0 : 0 < k) (h : k < n) (W : World) : (Instr.indexAt 33 (.slice (some ⟨b, off, none⟩) n c) (.int .i64 ((k : Int) - 1))).run Try.prog W = .ok (.pointer (some ⟨b, off + (k - 1) * 2, none⟩)) W := by
  obtain ⟨j, hj⟩ : ∃ j, k - 1 = j := ⟨_, rfl⟩
  have e : (k : Int) - 1 = (j : Int) := by omega
  rw [e, hj]
  exact index_kid b off n c j (by omega) W
/-- what a call leaves that hands back kids of its own. -/
def GaveK (w : World) (ks : List (Int × Int)) (e : Ending) (w' : World) : Prop := ∃ A n c, e = .returned (.slice A n c) ∧ OwnK w' w.heap.size A n c ks ∧ Below w.heap.size w w'
end Go.Proofs.Ytdhnhgppapkikaa

-- Touch: Which blocks a call may have touched; what is kept behind it. No statement of the program is proved here.
namespace Go.Proofs.Ytdhnhgppapkikaa
set_option maxRecDepth 20000
open Go.RowKit

/-- of the blocks that were there, only those of which S tells may have turned. -/
structure Touch (S : Nat → Prop) (w w' : World) : Prop where
  os : w'.os = w.os
  tape : w'.tape = w.tape
  output : w'.output = w.output
  size : w.heap.size ≤ w'.heap.size
  block : ∀ k, k < w.heap.size → ¬ S k → w'.heap[k]? = w.heap[k]?
section
variable {S T : Nat → Prop} {w w' w'' : World} {B : Nat}
theorem Touch.trans (h : Touch S w w') (k : Touch S w' w'') : Touch S w w'' :=
  ⟨k.os.trans h.os, k.tape.trans h.tape, k.output.trans h.output, Nat.le_trans h.size k.size, fun i hi hs => (k.block i (Nat.lt_of_lt_of_le hi h.size) hs).trans (h.block i hi hs)⟩
theorem Touch.mono (h : Touch S w w') (hs : ∀ k, S k → T k) : Touch T w w' := ⟨h.os, h.tape, h.output, h.size, fun k hk ht => h.block k hk (fun x => ht (hs k x))⟩
theorem Touch.of_grown {row : Option Nat} (h : w.grownBy w' row) : Touch (fun k => some k = row) w w' := ⟨h.os, h.tape, h.output, h.size, fun k hk hs => h.block k hk hs⟩
theorem Touch.of_below (h : Below w.heap.size w w') : Touch S w w' := ⟨h.os, h.tape, h.output, h.size, fun k hk _ => h.block k hk⟩
theorem Touch.below (h : Touch S w w') (hB : B ≤ w.heap.size) (hs : ∀ k, k < B → ¬ S k) : Below B w w' := ⟨h.os, h.tape, h.output, h.size, fun k hk => h.block k (by omega) (hs k hk)⟩
theorem own_touch {base : Nat} {e : TypeId} {size : Nat} {v : Value} {n : Nat} {xs : List Value} (h : w.ownsRow base e size v n xs) (t : Touch S w w') (hn : ∀ g, v.ownBlock = some g → ¬ S g) : w'.ownsRow base e size v n xs := by
  have hl := h.lt
  refine ⟨h.1, ?_⟩
  rcases h.2 with h | ⟨g, cap, cur, rfl, hb, hg, r⟩
  · exact .inl h
  · exact .inr ⟨g, cap, cur, rfl, hb, (t.block g (hl g rfl).2 (hn g rfl)).trans hg, r⟩
theorem OwnI.touch {base n c : Nat} {A : Option Addr} {xs : List Int} (h : OwnI w base A n c xs) (t : Touch S w w') (hn : ∀ g, (Value.slice A n c).ownBlock = some g → ¬ S g) : OwnI w' base A n c xs := own_touch h t hn
theorem OwnK.touch {base n c : Nat} {A : Option Addr} {xs : List (Int × Int)} (h : OwnK w base A n c xs) (t : Touch S w w') (hn : ∀ g, (Value.slice A n c).ownBlock = some g → ¬ S g) : OwnK w' base A n c xs := own_touch h t hn
theorem Mine.touch {base n c : Nat} {A : Option Addr} {xs : List Int} (h : Mine w base A n c xs) (t : Touch S w w') (hn : ∀ g, (Value.slice A n c).ownBlock = some g → ¬ S g) : Mine w' base A n c xs := ⟨own_touch h.1 t hn, h.2⟩
end
theorem heap3_0 (w : World) (A B C : Obj) : (((w.alloc A).alloc B).alloc C).heap[w.heap.size]? = some A := by rw [heap_alloc_old _ _ (by simp; omega), heap_alloc_old _ _ (by simp), heap_alloc_new]
theorem heap3_1 (w : World) (A B C : Obj) : (((w.alloc A).alloc B).alloc C).heap[w.heap.size + 1]? = some B := by
  have h := heap_alloc_new (w.alloc A) B
  rw [heap_alloc_old _ _ (by simp)]
  simpa using h
theorem heap3_2 (w : World) (A B C : Obj) : (((w.alloc A).alloc B).alloc C).heap[w.heap.size + 1 + 1]? = some C := by
  have h := heap_alloc_new ((w.alloc A).alloc B) C
  simpa using h
theorem size3 (w : World) (A B C : Obj) : (((w.alloc A).alloc B).alloc C).heap.size = w.heap.size + 3 := by simp
theorem below3 (w : World) (A B C : Obj) : Below w.heap.size w (((w.alloc A).alloc B).alloc C) := (((Below.refl _ _).alloc (Nat.le_refl _) _).alloc (by simp) _).alloc (by simp; omega) _
theorem heap2_0 (w : World) (A B : Obj) : ((w.alloc A).alloc B).heap[w.heap.size]? = some A := by rw [heap_alloc_old _ _ (by simp), heap_alloc_new]
theorem heap2_1 (w : World) (A B : Obj) : ((w.alloc A).alloc B).heap[w.heap.size + 1]? = some B := by
  have h := heap_alloc_new (w.alloc A) B
  simpa using h
theorem size2 (w : World) (A B : Obj) : ((w.alloc A).alloc B).heap.size = w.heap.size + 2 := by simp
theorem below2 (w : World) (A B : Obj) : Below w.heap.size w ((w.alloc A).alloc B) := ((Below.refl _ _).alloc (Nat.le_refl _) _).alloc (by simp) _
/-- block g is a box of these cells. -/
def Box (w : World) (g : Nat) (t : TypeId) (cs : Array Value) : Prop := w.heap[g]? = some (.cells cs t (0, 0))
section
variable {w w' : World} {g g' B k : Nat} {t : TypeId} {cs : Array Value}
theorem Box.cell (h : Box w g t cs) (k : Nat) : w.cell? ⟨g, k, none⟩ = cs[k]? := cell_of_row w g k _ _ _ h
theorem Box.free (h : Box w g t cs) (k : Nat) : w.frozen? ⟨g, k, none⟩ = false := frozen_of_row w g k _ _ h
theorem Box.below (h : Box w g t cs) (hb : Below B w w') (hg : g < B) : Box w' g t cs := (hb.block g hg).trans h
theorem Box.set_ (h : Box w g t cs) (k : Nat) (u : Value) : Box (w.setCell ⟨g, k, none⟩ u) g t (cs.setIfInBounds k u) :=
  heap_setCell_same w g k _ _ _ h
theorem Box.other (h : Box w g t cs) (hne : g ≠ g') (k : Nat) (u : Value) : Box (w.setCell ⟨g', k, none⟩ u) g t cs := (heap_setCell_other w ⟨g', k, none⟩ g u hne).trans h
theorem Box.grown {row : Option Nat} (h : Box w g t cs) (hg : w.grownBy w' row) (hne : some g ≠ row) : Box w' g t cs := (hg.block g (Array.getElem?_eq_some_iff.1 h).1 hne).trans h
theorem Box.lt (h : Box w g t cs) : g < w.heap.size := (Array.getElem?_eq_some_iff.1 h).1
end
theorem touch_set {S : Nat → Prop} (w : World) (g k : Nat) (u : Value) (hs : S g) : Touch S w (w.setCell ⟨g, k, none⟩ u) := (Touch.of_grown (grown_set w g k u)).mono fun i hi => by cases hi; exact hs
theorem own_eq {g r n c : Nat} (h : some g = (Value.slice (some ⟨r, 0, none⟩) n c).ownBlock) : g = r := by simpa [Value.ownBlock] using h
theorem results_box2 {P : Program} {fn : Func} {p q : Tmp} {ty : TypeId} (h : fn.results = #[.cell p ty, .tmp q]) (tmps : Array Value) (w : World) (g : Nat) (t : TypeId) (cs : Array Value) (d : TypeDesc) (v : Value)
    (hp : tmps.getD p undef = .pointer (some ⟨g, 0, none⟩)) (hq : tmps.getD q undef = v) (hg : Box w g t cs)
    (hu : P.underlying ty = some d) (hd : (match d with | .struct _ | .array _ _ => true | _ => false) = true) (hi : (P.info? ty).map (·.size) = some cs.size) :
    (results fn tmps).run P w = .ok (.tuple #[.agg cs, v]) w := by
  have hp' : tmps[p]?.getD undef = .pointer (some ⟨g, 0, none⟩) := by simpa using hp
  have hq' : tmps[q]?.getD undef = v := by simpa using hq
  simp [results, h, hp', hq', asAddr, run_loadVar_row w g t ty cs _ d hg hu hd hi]
/-- a box of four cells, written anew. -/
theorem set4 {w : World} {g : Nat} {t : TypeId} {a b c d : Value} (h : Box w g t #[a, b, c, d]) (a' b' c' d' : Value) :
    Box ((((w.setCell ⟨g, 0, none⟩ a').setCell ⟨g, 1, none⟩ b').setCell ⟨g, 2, none⟩ c').setCell ⟨g, 3, none⟩ d') g t #[a', b', c', d'] ∧
      Touch (fun x => x = g) w ((((w.setCell ⟨g, 0, none⟩ a').setCell ⟨g, 1, none⟩ b').setCell ⟨g, 2, none⟩ c').setCell ⟨g, 3, none⟩ d') :=
  ⟨(((h.set_ 0 a').set_ 1 b').set_ 2 c').set_ 3 d', (((touch_set (S := fun x => x = g) w g 0 a' rfl).trans (touch_set _ g 1 b' rfl)).trans (touch_set _ g 2 c' rfl)).trans (touch_set _ g 3 d' rfl)⟩
theorem Touch.one {w w' : World} {r : Nat} (h : Touch (fun x => x = r) w w') : w.grownBy w' (some r) := ⟨h.os, h.tape, h.output, h.size, fun k hk hne => h.block k hk (fun e => hne (by rw [e]))⟩
theorem below_grow {w w' : World} {row : Option Nat} (b : Below w.heap.size w w') : w.grownBy w' row := ⟨b.os, b.tape, b.output, b.size, fun k hk _ => b.block k hk⟩
end Go.Proofs.Ytdhnhgppapkikaa

-- Cells: Slices of cells: one that reads as a list of names and bytes; one that the call made and may write into; no statement of the program is proved here.
namespace Go.Proofs.Ytdhnhgppapkikaa
set_option maxRecDepth 20000
set_option linter.unusedVariables false
set_option linter.unusedSimpArgs false
open Go.RowKit

/-- a slice of bytes that lies in a cell. -/
structure Sub where
  A : Option Addr
  n : Nat
  c : Nat
  bs : List Int
def Sub.v (x : Sub) : Value := .slice x.A x.n x.c
/-- the i-th cell of a list. -/
def cel (cs : List (Int × List Int)) (i : Nat) : Int × List Int := cs[i]?.getD (0, [])
theorem cel_set (cs : List (Int × List Int)) (k : Nat) (x : Int × List Int) (i : Nat) (hk : k < cs.length) : cel (cs.set k x) i = if i = k then x else cel cs i := by
  unfold cel
  by_cases h : i = k
  · subst h
    rw [if_pos rfl, List.getElem?_set_self hk]; rfl
  · rw [if_neg h, List.getElem?_set_ne (by omega)]
theorem cel_append (cs : List (Int × List Int)) (x : Int × List Int) (i : Nat) : cel (cs ++ [x]) i = if i = cs.length then x else cel cs i := by
  unfold cel
  by_cases h : i = cs.length
  · subst h
    simp
  · rw [if_neg h]
    rcases Nat.lt_or_ge i cs.length with h1 | h1
    · rw [List.getElem?_append_left h1]
    · rw [List.getElem?_eq_none (by simp; omega), List.getElem?_eq_none (by omega)]
theorem cel_mem (cs : List (Int × List Int)) (i : Nat) (h : i < cs.length) : cel cs i ∈ cs := by
  unfold cel
  rw [List.getElem?_eq_getElem h]; exact List.getElem_mem h
theorem cel_take (cs : List (Int × List Int)) (k : Nat) (h : k < cs.length) : cs.take (k + 1) = cs.take k ++ [cel cs k] := by
  unfold cel
  rw [List.take_succ_eq_append_getElem h, List.getElem?_eq_getElem h]; rfl

/-- the slice value '.slice A n c' of cells reads as cs, below block B. -/
def Cells (w : World) (B : Nat) (A : Option Addr) (n : Nat) (cs : List (Int × List Int)) : Prop :=
  cs.length = n ∧ (0 < n → ∃ b off, A = some ⟨b, off, none⟩ ∧ b < B ∧ ∀ i, i < n → w.cell? ⟨b, off + i * 2, none⟩ = some (.int .i64 (cel cs i).1) ∧
    ∃ Ai ni ci, w.cell? ⟨b, off + i * 2 + 1, none⟩ = some (.slice Ai ni ci) ∧ ni ≤ ci ∧ (Ai = none → ci = 0) ∧ Byts w B Ai ni (cel cs i).2)
section
variable {w w' : World} {B B' n : Nat} {A : Option Addr} {cs : List (Int × List Int)}
theorem Cells.none_ : Cells w B A 0 [] := ⟨rfl, fun h => absurd h (by omega)⟩
theorem Cells.at_ {k : Nat} (h : Cells w B A n cs) (hk : k < n) : ∃ b off Ai ni ci, A = some ⟨b, off, none⟩ ∧ b < B ∧ w.cell? ⟨b, off + k * 2, none⟩ = some (.int .i64 (cel cs k).1) ∧ w.cell? ⟨b, off + k * 2 + 1, none⟩ = some (.slice Ai ni ci) ∧ ni ≤ ci ∧ (Ai = none → ci = 0) ∧ Byts w B Ai ni (cel cs k).2 := by
  obtain ⟨b, off, e, hb, hc⟩ := h.2 (by omega)
  obtain ⟨h0, Ai, ni, ci, h1, h2, h3, h4⟩ := hc k hk
  exact ⟨b, off, Ai, ni, ci, e, hb, h0, h1, h2, h3, h4⟩
theorem Cells.keep (h : Cells w B A n cs) (hk : ∀ p : Addr, p.block < B → w'.cell? p = w.cell? p) : Cells w' B A n cs :=
  ⟨h.1, fun hn => by
    obtain ⟨b, off, e, hb, hc⟩ := h.2 hn
    refine ⟨b, off, e, hb, fun i hi => ?_⟩
    obtain ⟨h0, Ai, ni, ci, h1, h2, h3, h4⟩ := hc i hi
    exact ⟨(hk _ hb).trans h0, Ai, ni, ci, (hk _ hb).trans h1, h2, h3, h4.keep hk⟩⟩
theorem Cells.more (h : Cells w B A n cs) (hB : B ≤ B') : Cells w B' A n cs :=
  ⟨h.1, fun hn => by
    obtain ⟨b, off, e, hb, hc⟩ := h.2 hn
    refine ⟨b, off, e, by omega, fun i hi => ?_⟩
    obtain ⟨h0, Ai, ni, ci, h1, h2, h3, h4⟩ := hc i hi
    exact ⟨h0, Ai, ni, ci, h1, h2, h3, h4.more hB⟩⟩
theorem Cells.below (h : Cells w B A n cs) (hb : Below B w w') : Cells w' B A n cs := h.keep fun _ hp => hb.cell hp
theorem Cells.drewN (h : Cells w B A n cs) (k : Nat) : Cells (w.drewN k) B A n cs := h.below (below_drewN (Below.refl _ _) k)
theorem Cells.alloc (h : Cells w B A n cs) (hB : B ≤ w.heap.size) (o : Obj) : Cells (w.alloc o) B A n cs := h.keep fun p hp => World.cell?_alloc_lt w o p (by omega)
end

theorem Try.infoC : (Try.prog.info? 51).map (fun i => (i.zero, i.size, i.bytes)) = some (some (.agg #[.int .i64 0, .slice none 0 0]), 2, 32) := by kernel_rfl

/-- what stands in a row of cells. -/
def cf (cs : List (Int × List Int)) (sl : Nat → Sub) (j : Nat) : Value := if j % 2 = 0 then .int .i64 (cel cs (j / 2)).1 else (sl (j / 2)).v
def cvs (n : Nat) (cs : List (Int × List Int)) (sl : Nat → Sub) : List Value := (List.range (n * 2)).map (cf cs sl)
theorem cvs_at (n : Nat) (cs : List (Int × List Int)) (sl : Nat → Sub) (j : Nat) (h : j < n * 2) : (cvs n cs sl)[j]? = some (cf cs sl j) := by simp [cvs, h]
theorem cf0 (cs : List (Int × List Int)) (sl : Nat → Sub) (k : Nat) : cf cs sl (k * 2) = .int .i64 (cel cs k).1 := by unfold cf; rw [if_pos (by omega), show k * 2 / 2 = k by omega]
theorem cf1 (cs : List (Int × List Int)) (sl : Nat → Sub) (k : Nat) : cf cs sl (k * 2 + 1) = (sl k).v := by unfold cf; rw [if_neg (by omega), show (k * 2 + 1) / 2 = k by omega]
theorem cvs_set (n : Nat) (cs : List (Int × List Int)) (sl : Nat → Sub) (k : Nat) (m : Int) (x : Sub) (b : List Int) (hk : k < n) (hl : cs.length = n) :
    ((cvs n cs sl).set (k * 2) (.int .i64 m)).set (k * 2 + 1) x.v = cvs n (cs.set k (m, b)) (fun i => if i = k then x else sl i) := by
  apply List.ext_getElem?
  intro j
  by_cases hj : j < n * 2
  · rw [cvs_at _ _ _ j hj]
    by_cases h1 : j = k * 2 + 1
    · subst h1
      rw [List.getElem?_set_self (by simp [cvs]; omega), cf1, if_pos rfl]
    · rw [List.getElem?_set_ne (by omega)]
      by_cases h0 : j = k * 2
      · subst h0
        rw [List.getElem?_set_self (by simp [cvs]; omega), cf0, cel_set _ _ _ _ (by omega), if_pos rfl]
      · rw [List.getElem?_set_ne (by omega), cvs_at _ _ _ j hj]
        unfold cf
        rw [cel_set _ _ _ _ (by omega), if_neg (show ¬ j / 2 = k by omega)]
        simp only [show ¬ j / 2 = k by omega, if_false]
  · rw [List.getElem?_eq_none (by simp [cvs]; omega), List.getElem?_eq_none (by simp [cvs]; omega)]
theorem cvs_append (n : Nat) (cs : List (Int × List Int)) (sl : Nat → Sub) (x : Sub) (m : Int) (b : List Int) (hl : cs.length = n) :
    cvs n cs sl ++ [.int .i64 m, x.v] = cvs (n + 1) (cs ++ [(m, b)]) (fun i => if i = n then x else sl i) := by
  apply List.ext_getElem?
  intro j
  by_cases hj : j < n * 2
  · rw [List.getElem?_append_left (by simp [cvs]; omega), cvs_at _ _ _ j hj, cvs_at _ _ _ j (by omega)]
    unfold cf
    rw [cel_append, if_neg (show ¬ j / 2 = cs.length by omega)]
    simp only [show ¬ j / 2 = n by omega, if_false]
  · rw [List.getElem?_append_right (by simp [cvs]; omega)]
    have hl2 : (cvs n cs sl).length = n * 2 := by simp [cvs]
    rw [hl2]
    by_cases h0 : j = n * 2
    · subst h0
      rw [cvs_at _ _ _ _ (by omega), cf0, cel_append, if_pos hl.symm]; simp
    · by_cases h1 : j = n * 2 + 1
      · subst h1
        rw [cvs_at _ _ _ _ (by omega), cf1, if_pos rfl, show n * 2 + 1 - n * 2 = 1 by omega]; rfl
      · rw [List.getElem?_eq_none (by simp; omega), List.getElem?_eq_none (by simp [cvs]; omega)]

/-- the slices in a row of n cells are of the call's own, each in a block of its own, of the blocks from lo to hi, none of them g. -/
structure Subs (w : World) (lo hi : Nat) (g : Option Nat) (n : Nat) (cs : List (Int × List Int)) (sl : Nat → Sub) : Prop where
  mine : ∀ i, i < n → Mine w lo (sl i).A (sl i).n (sl i).c (cel cs i).2
  apart : ∀ i j, i < n → j < n → i ≠ j → ∀ b, (sl i).v.ownBlock = some b → (sl j).v.ownBlock ≠ some b
  other : ∀ i, i < n → ∀ b, (sl i).v.ownBlock = some b → g ≠ some b
  under : ∀ i, i < n → ∀ b, (sl i).v.ownBlock = some b → b < hi
/-- the slice '.slice A n c' of cells is of the call's own, with all that it holds, in blocks from lo to hi, and reads as cs. -/
def OwnC (w : World) (lo hi : Nat) (A : Option Addr) (n c : Nat) (cs : List (Int × List Int)) : Prop :=
  cs.length = n ∧ (∀ b, (Value.slice A n c).ownBlock = some b → b < hi) ∧ ∃ sl, w.ownsRow lo 51 2 (.slice A n c) n (cvs n cs sl) ∧ Subs w lo hi (Value.slice A n c).ownBlock n cs sl
section
variable {w w' : World} {lo hi hi' n c g : Nat} {A : Option Addr} {cs : List (Int × List Int)}
theorem mine_cap {base : Nat} {xs : List Int} (h : Mine w base A n c xs) : n ≤ c := by
  rcases h.1.2 with ⟨e, rfl⟩ | ⟨g, cap, cur, e, _, _, hc, _⟩
  · omega
  · cases e; exact hc
theorem mine_none {base : Nat} {xs : List Int} (h : Mine w base A n c xs) (hA : A = none) : c = 0 := by
  rcases h.1.2 with ⟨e, rfl⟩ | ⟨g, cap, cur, e, _, _, hc, _⟩
  · cases e; rfl
  · subst hA; cases e
theorem OwnC.nil (w : World) (lo hi : Nat) : OwnC w lo hi none 0 0 [] := ⟨rfl, fun b h => by simp [Value.ownBlock] at h, fun _ => ⟨none, 0, 0, []⟩, World.ownsRow_nil _ _ _ _, fun i h => by omega, fun i j h => by omega, fun i h => by omega, fun i h => by omega⟩
theorem OwnC.len (h : OwnC w lo hi A n c cs) : cs.length = n := h.1
theorem OwnC.touch {S : Nat → Prop} (h : OwnC w lo hi A n c cs) (t : Touch S w w') (hn : ∀ b, lo ≤ b → b < hi → ¬ S b) : OwnC w' lo hi A n c cs := by
  obtain ⟨hl, hu, sl, hr, hs⟩ := h
  exact ⟨hl, hu, sl, own_touch hr t (fun b hb => hn b (hr.lt b hb).1 (hu b hb)), fun i hi => (hs.mine i hi).touch t (fun b hb => hn b ((hs.mine i hi).1.lt b hb).1 (hs.under i hi b hb)), hs.apart, hs.other, hs.under⟩
theorem OwnC.below (h : OwnC w lo hi A n c cs) (hb : Below hi w w') : OwnC w' lo hi A n c cs :=
  h.touch (S := fun k => hi ≤ k) ⟨hb.os, hb.tape, hb.output, hb.size, fun k hk hs => hb.block k (by omega)⟩ (fun b _ h1 h2 => by omega)
theorem OwnC.more (h : OwnC w lo hi A n c cs) (hh : hi ≤ hi') : OwnC w lo hi' A n c cs := by
  obtain ⟨hl, hu, sl, hr, hs⟩ := h
  exact ⟨hl, fun b hb => Nat.lt_of_lt_of_le (hu b hb) hh, sl, hr, hs.mine, hs.apart, hs.other, fun i hi b hb => Nat.lt_of_lt_of_le (hs.under i hi b hb) hh⟩
theorem OwnC.base {lo' : Nat} (h : OwnC w lo hi A n c cs) (hh : lo' ≤ lo) : OwnC w lo' hi A n c cs := by
  obtain ⟨hl, hu, sl, hr, hs⟩ := h
  refine ⟨hl, hu, sl, ⟨hr.1, ?_⟩, fun i hi => (hs.mine i hi).base hh, hs.apart, hs.other, hs.under⟩
  rcases hr.2 with h | ⟨g, cap, cur, hv, hg, r⟩
  · exact .inl h
  · exact .inr ⟨g, cap, cur, hv, by omega, r⟩
theorem OwnC.form (h : OwnC w lo hi A n c cs) (hn : 0 < n) : ∃ g, A = some ⟨g, 0, none⟩ ∧ lo ≤ g ∧ g < hi ∧ g < w.heap.size := by
  obtain ⟨hl, hu, sl, hr, hs⟩ := h
  obtain ⟨g, cap, hv, h1, h2⟩ := World.ownsRow.form hr hn
  injection hv with hA
  subst hA
  exact ⟨g, rfl, h1, hu g (by simp [Value.ownBlock]), h2⟩
theorem OwnC.cells (h : OwnC w lo hi A n c cs) : Cells w hi A n cs := by
  refine ⟨h.1, fun hn => ?_⟩
  obtain ⟨g, rfl, _, h2, _⟩ := h.form hn
  obtain ⟨hl, hu, sl, hr, hs⟩ := h
  refine ⟨g, 0, rfl, h2, fun i hi => ?_⟩
  have m := hs.mine i hi
  refine ⟨?_, (sl i).A, (sl i).n, (sl i).c, ?_, mine_cap m, mine_none m, m.len, m.2, fun hp => ?_⟩
  · rw [Nat.zero_add, World.ownsRow.cellAt hr _ (by omega), cvs_at _ _ _ _ (by omega), cf0]
  · rw [Nat.zero_add, World.ownsRow.cellAt hr _ (by omega), cvs_at _ _ _ _ (by omega), cf1]; rfl
  · obtain ⟨b, off, e, hb, hc⟩ := m.byts.2.2 hp
    refine ⟨b, off, e, ?_, hc⟩
    obtain ⟨g', e', _⟩ := m.form hp
    rw [e] at e'
    cases e'
    exact hs.under i hi b (by unfold Sub.v; rw [e]; simp [Value.ownBlock])
theorem OwnC.free (h : OwnC w lo hi (some ⟨g, 0, none⟩) n c cs) (k : Nat) : w.frozen? ⟨g, k, none⟩ = false := by
  obtain ⟨hl, hu, sl, hr, hs⟩ := h
  exact World.ownsRow.frozenAt hr k
/-- another cell in place of the k-th: its bytes in a block that was made since. -/
theorem OwnC.put {w0 : World} {A' : Option Addr} {n' c' k : Nat} {bs : List Int} (m : Int) (h : OwnC w0 lo hi (some ⟨g, 0, none⟩) n c cs) (hh : hi ≤ w0.heap.size) (hb : Below w0.heap.size w0 w) (hx : Mine w w0.heap.size A' n' c' bs) (hk : k < n) (hh' : w.heap.size ≤ hi') (hlo : lo ≤ w0.heap.size) :
    OwnC ((w.setCell ⟨g, k * 2, none⟩ (.int .i64 m)).setCell ⟨g, k * 2 + 1, none⟩ (.slice A' n' c')) lo hi' (some ⟨g, 0, none⟩) n c (cs.set k (m, bs)) ∧
      Touch (fun b => b = g) w ((w.setCell ⟨g, k * 2, none⟩ (.int .i64 m)).setCell ⟨g, k * 2 + 1, none⟩ (.slice A' n' c')) := by
  have hs0 := hb.size
  have h := h.below (hb.mono hh)
  obtain ⟨hl, hu, sl, hr, hs⟩ := h
  have hg := hr.lt g (by simp [Value.ownBlock])
  have hgu := hu g (by simp [Value.ownBlock])
  obtain ⟨r1, t1⟩ := World.ownsRow.stored hr (k * 2) (.int .i64 m)
  obtain ⟨r2, t2⟩ := World.ownsRow.stored r1 (k * 2 + 1) (.slice A' n' c')
  have t : Touch (fun b => b = g) w ((w.setCell ⟨g, k * 2, none⟩ (.int .i64 m)).setCell ⟨g, k * 2 + 1, none⟩ (.slice A' n' c')) := (touch_set (S := fun b => b = g) w g _ _ rfl).trans (touch_set _ g _ _ rfl)
  refine ⟨⟨by simp [hl], fun b hb' => Nat.lt_of_lt_of_le (hu b hb') (by omega), fun i => if i = k then ⟨A', n', c', bs⟩ else sl i, ?_, ?_, ?_, ?_, ?_⟩, t⟩
  · rw [← cvs_set n cs sl k m ⟨A', n', c', bs⟩ bs hk hl]; exact r2
  · intro i hi1
    rw [cel_set _ _ _ _ (by omega)]
    by_cases h : i = k
    · simp only [h, if_true]
      exact (hx.base hlo).touch t (fun b hb' e => by have := (hx.1.lt b hb').1; omega)
    · simp only [h, if_false]
      exact (hs.mine i hi1).touch t (fun b hb' e => hs.other i hi1 b hb' (by rw [e]; simp [Value.ownBlock]))
  · intro i j hi1 hj hij b
    by_cases h : i = k
    · have h2 : ¬ j = k := by omega
      simp only [h, h2, if_true, if_false]
      intro e1 e2
      have := (hx.1.lt b e1).1
      have := hs.under j hj b e2
      omega
    · by_cases h2 : j = k
      · simp only [h, h2, if_true, if_false]
        intro e1 e2
        have := (hx.1.lt b e2).1
        have := hs.under i hi1 b e1
        omega
      · simp only [h, h2, if_false]
        exact hs.apart i j hi1 hj hij b
  · intro i hi1 b
    by_cases h : i = k
    · simp only [h, if_true]
      intro e1 e2
      have := (hx.1.lt b e1).1
      simp [Value.ownBlock] at e2
      omega
    · simp only [h, if_false]
      exact hs.other i hi1 b
  · intro i hi1 b
    by_cases h : i = k
    · simp only [h, if_true]
      intro e1
      have := (hx.1.lt b e1).2
      omega
    · simp only [h, if_false]
      intro e1
      have := hs.under i hi1 b e1
      omega
theorem OwnC.cell0 {k : Nat} (h : OwnC w lo hi (some ⟨g, 0, none⟩) n c cs) (hk : k < n) : w.cell? ⟨g, k * 2, none⟩ = some (.int .i64 (cel cs k).1) := by
  obtain ⟨b, off, _, _, _, e, _, h0, _⟩ := h.cells.at_ hk
  cases e
  simpa using h0
theorem OwnC.cell1 {k : Nat} (h : OwnC w lo hi (some ⟨g, 0, none⟩) n c cs) (hk : k < n) : ∃ Ai ni ci, w.cell? ⟨g, k * 2 + 1, none⟩ = some (.slice Ai ni ci) ∧ ni ≤ ci ∧ (Ai = none → ci = 0) ∧ Byts w hi Ai ni (cel cs k).2 := by
  obtain ⟨b, off, Ai, ni, ci, e, _, _, h1, h2, h3, h4⟩ := h.cells.at_ hk
  cases e
  exact ⟨Ai, ni, ci, by simpa using h1, h2, h3, h4⟩
theorem cvs_same (cs cs' : List (Int × List Int)) (sl : Nat → Sub) (h : ∀ i, i < n → (cel cs i).1 = (cel cs' i).1) : cvs n cs sl = cvs n cs' sl := by
  unfold cvs
  apply List.map_congr_left
  intro j hj
  have hj : j < n * 2 := by simpa using hj
  unfold cf
  rw [h (j / 2) (by omega)]
theorem cvs_name (cs : List (Int × List Int)) (sl : Nat → Sub) (k : Nat) (m : Int) (b : List Int) (hk : k < n) (hl : cs.length = n) : (cvs n cs sl).set (k * 2) (.int .i64 m) = cvs n (cs.set k (m, b)) sl := by
  apply List.ext_getElem?
  intro j
  by_cases hj : j < n * 2
  · rw [cvs_at _ _ _ j hj]
    by_cases h0 : j = k * 2
    · subst h0
      rw [List.getElem?_set_self (by simp [cvs]; omega), cf0, cel_set _ _ _ _ (by omega), if_pos rfl]
    · rw [List.getElem?_set_ne (by omega), cvs_at _ _ _ j hj]
      unfold cf
      rw [cel_set _ _ _ _ (by omega)]
      by_cases he : j % 2 = 0
      · rw [if_neg (show ¬ j / 2 = k by omega)]
      · rw [if_neg he, if_neg he]
  · rw [List.getElem?_eq_none (by simp [cvs]; omega), List.getElem?_eq_none (by simp [cvs]; omega)]
/-- another name in the k-th cell. -/
theorem OwnC.setName {k : Nat} (m : Int) (h : OwnC w lo hi (some ⟨g, 0, none⟩) n c cs) (hk : k < n) :
    OwnC (w.setCell ⟨g, k * 2, none⟩ (.int .i64 m)) lo hi (some ⟨g, 0, none⟩) n c (cs.set k (m, (cel cs k).2)) := by
  obtain ⟨hl, hu, sl, hr, hs⟩ := h
  have hg := hr.lt g (by simp [Value.ownBlock])
  obtain ⟨r1, t1⟩ := World.ownsRow.stored hr (k * 2) (.int .i64 m)
  have t : Touch (fun b => b = g) w (w.setCell ⟨g, k * 2, none⟩ (.int .i64 m)) := touch_set (S := fun b => b = g) w g _ _ rfl
  refine ⟨by simp [hl], hu, sl, ?_, ⟨fun i hi1 => ?_, hs.apart, hs.other, hs.under⟩⟩
  · rw [← cvs_name cs sl k m _ hk hl]; exact r1
  · have hm := (hs.mine i hi1).touch t (fun b hb' e => hs.other i hi1 b hb' (by rw [e]; simp [Value.ownBlock]))
    rw [cel_set _ _ _ _ (by omega)]
    by_cases h : i = k
    · subst h; rw [if_pos rfl]; exact hm
    · rw [if_neg h]; exact hm
/-- other bytes in the k-th cell's own slice. -/
theorem OwnC.inner {k : Nat} (h : OwnC w lo hi (some ⟨g, 0, none⟩) n c cs) (hk : k < n) :
    ∃ Ai ni ci, w.cell? ⟨g, k * 2 + 1, none⟩ = some (.slice Ai ni ci) ∧ Mine w lo Ai ni ci (cel cs k).2 ∧ (∀ b, (Value.slice Ai ni ci).ownBlock = some b → lo ≤ b ∧ b < hi) ∧
      ∀ w' bs', Mine w' lo Ai ni ci bs' → w.grownBy w' (Value.slice Ai ni ci).ownBlock → OwnC w' lo hi (some ⟨g, 0, none⟩) n c (cs.set k ((cel cs k).1, bs')) := by
  obtain ⟨hl, hu, sl, hr, hs⟩ := h
  refine ⟨(sl k).A, (sl k).n, (sl k).c, ?_, hs.mine k hk, fun b hb => ⟨((hs.mine k hk).1.lt b hb).1, hs.under k hk b hb⟩, fun w' bs' hm hg => ?_⟩
  · rw [World.ownsRow.cellAt hr _ (by omega), cvs_at _ _ _ _ (by omega), cf1]; rfl
  · have t := Touch.of_grown hg
    refine ⟨by simp [hl], hu, sl, ?_, ⟨fun i hi1 => ?_, hs.apart, hs.other, hs.under⟩⟩
    · rw [← cvs_same (n := n) cs (cs.set k ((cel cs k).1, bs')) sl (fun i hi1 => by
        rw [cel_set _ _ _ _ (by omega)]
        by_cases h : i = k
        · subst h; rw [if_pos rfl]
        · rw [if_neg h])]
      refine own_touch hr t (fun b hb e => ?_)
      have : g = b := by simpa [Value.ownBlock] using hb
      subst this
      exact hs.other k hk g e.symm (by simp [Value.ownBlock])
    · rw [cel_set _ _ _ _ (by omega)]
      by_cases h : i = k
      · subst h; rw [if_pos rfl]; exact hm
      · rw [if_neg h]
        exact (hs.mine i hi1).touch t (fun b hb e => hs.apart i k hi1 hk h b hb e.symm)
end
end Go.Proofs.Ytdhnhgppapkikaa

-- NodeM: Plain facts on nodes: what a node is, when it is one, its bytes.
namespace Go.Proofs.Ytdhnhgppapkikaa
set_option maxRecDepth 20000
open Go.RowKit

/-- a node. -/
structure MNode where
  kind : Int
  path : List Int
  kids : List (Int × Int)
  val : ByteArray

def okLetter (c : Int) : Bool := decide ((97 ≤ c ∧ c ≤ 122) ∨ (48 ≤ c ∧ c ≤ 57))
def valOk (zs : List Int) : Bool := decide (1 ≤ zs.length ∧ zs.length ≤ 12) && zs.all okLetter
/-- the kid at i is right, seen from the one ahead of it. -/
def KidAt (ks : List (Int × Int)) (i : Nat) : Prop :=
  (0 ≤ (ks[i]?.getD (0, 0)).1 ∧ (ks[i]?.getD (0, 0)).1 ≤ 15) ∧ 1 ≤ (ks[i]?.getD (0, 0)).2 ∧ (0 < i → (ks[i - 1]?.getD (0, 0)).1 < (ks[i]?.getD (0, 0)).1)
instance (ks : List (Int × Int)) (i : Nat) : Decidable (KidAt ks i) := by unfold KidAt; infer_instance
def kidsOk (ks : List (Int × Int)) : Bool := decide (∀ i, i < ks.length → KidAt ks i)
def hasVal (n : MNode) : Bool := !n.val.toList.isEmpty
/-- where the first kid stands. -/
def at0 (ks : List (Int × Int)) : Int := (ks[0]?.getD (0, 0)).1
def kindOk (n : MNode) : Bool :=
  if n.kind = 1 then decide (n.kids.length = 0) && hasVal n
  else if n.kind = 2 then decide (0 < n.path.length) && !hasVal n && decide (n.kids.length = 1) && decide (at0 n.kids = 0)
  else if n.kind = 3 then decide (n.path.length = 0) && decide (2 ≤ n.kids.length + (if hasVal n then 1 else 0))
  else false
def nodeOk (n : MNode) : Bool := isPath n.path && kidsOk n.kids && (!hasVal n || valOk (sb n.val)) && kindOk n

theorem valOk_bad (zs : List Int) (k : Nat) (hk : k < zs.length) (h : okLetter (zs[k]?.getD 0) = false) : valOk zs = false := by
  unfold valOk
  rw [Bool.and_eq_false_iff]
  right
  rw [List.all_eq_false]
  exact ⟨zs[k]?.getD 0, by rw [List.getElem?_eq_getElem hk]; exact List.getElem_mem hk, by rw [h]; decide⟩
theorem valOk_good (zs : List Int) (h : ∀ z ∈ zs, okLetter z = true) : valOk zs = decide (1 ≤ zs.length ∧ zs.length ≤ 12) := by
  unfold valOk
  rw [show zs.all okLetter = true by rw [List.all_eq_true]; exact h, Bool.and_true]
theorem letters_step (zs : List Int) (k : Nat) (hk : k < zs.length) (h : ∀ z ∈ zs.take k, okLetter z = true) (h1 : okLetter (zs[k]?.getD 0) = true) : ∀ z ∈ zs.take (k + 1), okLetter z = true := by
  rw [take_step zs k hk]
  intro z hz
  simp only [List.mem_append, List.mem_singleton] at hz
  rcases hz with hz | rfl
  · exact h z hz
  · exact h1
theorem kidsOk_bad (ks : List (Int × Int)) (k : Nat) (hk : k < ks.length) (h : ¬ KidAt ks k) : kidsOk ks = false := by
  unfold kidsOk
  rw [decide_eq_false_iff_not]
  exact fun e => h (e k hk)
theorem kidsOk_good (ks : List (Int × Int)) (h : ∀ i, i < ks.length → KidAt ks i) : kidsOk ks = true := by
  unfold kidsOk
  exact decide_eq_true h
theorem isPath_long (ps : List Int) (h : 8 < ps.length) : isPath ps = false := by
  rw [Bool.eq_false_iff]; intro e; have := ((isPath_iff ps).1 e).1; omega
end Go.Proofs.Ytdhnhgppapkikaa

-- L1In: Whether a number lies from 0 to 15: the model's l1In.
namespace Go.Proofs.Ytdhnhgppapkikaa
set_option maxRecDepth 20000
open Go.RowKit

theorem l1In_any (x : Int) (w : World) :
    Calls Try.prog 60 #[.int .i64 x, .int .i64 0, .int .i64 15] w fun e w' => e = .returned (.bool (decide (0 ≤ x ∧ x ≤ 15))) ∧ w = w' := by
  go_enter Try.func60, Try.ntmps60
  by_cases h : 0 ≤ x
  · go_wp2
    go_ret
    exact ⟨ret_b (decide_eq_decide.2 (by omega)), rfl⟩
  · go_wp2
    go_ret
    exact ⟨ret_b (by simp; omega), rfl⟩

theorem l1In_yes (x : Int) (w : World) (h : 0 ≤ x ∧ x ≤ 15) :
    Calls Try.prog 60 #[.int .i64 x, .int .i64 0, .int .i64 15] w fun e w' => e = .returned (.bool true) ∧ w' = w :=
  (l1In_any x w).mono fun e w' hh => ⟨by rw [hh.1, decide_eq_true h], hh.2.symm⟩
theorem l1In_no (x : Int) (w : World) (h : ¬ (0 ≤ x ∧ x ≤ 15)) :
    Calls Try.prog 60 #[.int .i64 x, .int .i64 0, .int .i64 15] w fun e w' => e = .returned (.bool false) ∧ w' = w :=
  (l1In_any x w).mono fun e w' hh => ⟨by rw [hh.1, decide_eq_false h], hh.2.symm⟩
end Go.Proofs.Ytdhnhgppapkikaa

-- NodeS: What the model's ValueOk, l3Path, l3Kids and NodeOk answer.
namespace Go.Proofs.Ytdhnhgppapkikaa
set_option maxRecDepth 20000
open Go.RowKit

theorem specValueOk_any (s : ByteArray) (w : World) (hs : s.size ≤ 1048576) :
    Calls Try.prog 43 #[.string s] w fun e w' => e = .returned (.bool (valOk (sb s))) ∧ ∃ m, w' = w.drewN m := by
  have hlen := sb_len s
  go_enter Try.func43, Try.ntmps43
  go_wp2
  go_loopw [3] (fun i wr => ∃ k q : Nat, k ≤ s.size ∧ i = .int .i64 k ∧ (∀ z ∈ (sb s).take k, okLetter z = true) ∧ wr = w.drewN q) (fun i _ => s.size - (intOf i).toNat)
  case atStart => exact ⟨0, 0, Nat.zero_le _, rfl, by simp, rfl⟩
  case round =>
    obtain ⟨k, q, hk, rfl, hgood, rfl⟩ := hrel
    by_cases hlt : k < s.size
    · have hat := sb_at s k hlt
      have hcls : (97 ≤ ((s[k]'hlt).toNat : Int) ∧ ((s[k]'hlt).toNat : Int) ≤ 122) ∨ (48 ≤ ((s[k]'hlt).toNat : Int) ∧ ((s[k]'hlt).toNat : Int) ≤ 57) ∨ ((s[k]'hlt).toNat : Int) < 48 ∨ (57 < ((s[k]'hlt).toNat : Int) ∧ ((s[k]'hlt).toNat : Int) < 97) ∨ 122 < ((s[k]'hlt).toNat : Int) := by omega
      rcases hcls with ⟨h1, h2⟩ | ⟨h1, h2⟩ | h1 | ⟨h1, h2⟩ | h1
      · go_wp2
        go_roundw
        case rel => exact ⟨k + 1, _, by omega, by go_num, letters_step (sb s) k (by omega) hgood (by rw [hat]; exact decide_eq_true (by omega)), rfl⟩
        case measure => simp [intOf]; omega
      · go_wp2
        go_roundw
        case rel => exact ⟨k + 1, _, by omega, by go_num, letters_step (sb s) k (by omega) hgood (by rw [hat]; exact decide_eq_true (by omega)), rfl⟩
        case measure => simp [intOf]; omega
      · go_wp2
        go_ret
        exact ⟨by rw [valOk_bad (sb s) k (by omega) (by rw [hat]; exact decide_eq_false (by omega))]; rfl, _, rfl⟩
      · have d1 : decide (((s[k]'hlt).toNat : Int) ≤ 57) = false := decide_eq_false (by omega)
        go_wp2
        go_ret
        exact ⟨by rw [valOk_bad (sb s) k (by omega) (by rw [hat]; exact decide_eq_false (by omega))]; rfl, _, rfl⟩
      · have d1 : decide (((s[k]'hlt).toNat : Int) ≤ 57) = false := decide_eq_false (by omega)
        have d2 : decide (((s[k]'hlt).toNat : Int) ≤ 122) = false := decide_eq_false (by omega)
        go_wp2
        go_ret
        exact ⟨by rw [valOk_bad (sb s) k (by omega) (by rw [hat]; exact decide_eq_false (by omega))]; rfl, _, rfl⟩
    · have e : (sb s).take k = sb s := List.take_of_length_le (by omega)
      rw [e] at hgood
      have HG := Lib.hid (valOk_good (sb s) hgood)
      by_cases h1 : 1 ≤ s.size
      · go_wp2
        go_ret
        exact ⟨by rw [HG.out]; exact ret_b (by rw [hlen]; exact decide_eq_decide.2 (by omega)), _, rfl⟩
      · go_wp2
        go_ret
        exact ⟨by rw [HG.out]; exact ret_b (by rw [hlen]; simp; omega), _, rfl⟩

theorem l3Path_any (A : Option Addr) (n c : Nat) (ps : List Int) (B : Nat) (w : World) (hn : n ≤ 9223372036854775807) (hp : Ints w B A n ps) :
    Calls Try.prog 41 #[.slice A n c] w fun e w' => e = .returned (.bool (isPath ps)) ∧ w = w' := by
  have HP := Lib.hid hp
  clear hp
  go_enter Try.func41, Try.ntmps41
  go_wp2
  go_loop [3] (fun i => ∃ k : Nat, k ≤ n ∧ i = .int .i64 k ∧ (∀ z ∈ ps.take k, 0 ≤ z ∧ z ≤ 15)) (fun i => n - (intOf i).toNat)
  case atStart => exact ⟨0, Nat.zero_le _, rfl, by simp⟩
  case round =>
    obtain ⟨k, hk, rfl, hgood⟩ := hrel
    by_cases hlt : k < n
    · obtain ⟨b, off, rfl, hbB, hc⟩ := HP.out.at_ hlt
      generalize hz : ps[k]?.getD 0 = z at hc
      by_cases hq : 0 ≤ z ∧ z ≤ 15
      · have hd : decide (0 ≤ z ∧ z ≤ 15) = true := decide_eq_true hq
        go_wp2_with fail
        refine (l1In_any _ _).mono ?_
        rintro e w' ⟨rfl, rfl⟩
        rw [hd]
        go_wp2
        go_round
        case rel => exact ⟨k + 1, by omega, by go_num, path_step ps k (by have := HP.out.1; omega) hgood (by rw [hz]; exact hq)⟩
        case measure => simp [intOf]; omega
      · have hd : decide (0 ≤ z ∧ z ≤ 15) = false := decide_eq_false hq
        go_wp2_with fail
        refine (l1In_any _ _).mono ?_
        rintro e w' ⟨rfl, rfl⟩
        rw [hd]
        go_wp2
        go_ret
        exact ⟨by rw [isPath_bad ps k (by have := HP.out.1; omega) (by rw [hz]; exact hq)]; rfl, rfl⟩
    · have e : ps.take k = ps := List.take_of_length_le (by have := HP.out.1; omega)
      rw [e] at hgood
      have hg : isPath ps = decide (n ≤ 8) := by
        unfold isPath
        rw [show (ps.all fun z => decide (0 ≤ z ∧ z ≤ 15)) = true by simpa using hgood, Bool.and_true, HP.out.1]
      have HG := Lib.hid hg
      clear hg
      go_wp2
      go_ret
      exact ⟨by rw [HG.out]; exact ret_b (decide_eq_decide.2 (by omega)), rfl⟩

set_option maxHeartbeats 400000 in      -- one walk, five ways through a region of 33 operations
theorem l3Kids_any (A : Option Addr) (n c : Nat) (ks : List (Int × Int)) (B : Nat) (w : World) (hn : n ≤ 9223372036854775807) (hb : Kids w B A n ks) :
    Calls Try.prog 42 #[.slice A n c] w fun e w' => e = .returned (.bool (kidsOk ks)) ∧ ∃ m, w' = w.drewN m := by
  have HB := Lib.hid hb
  have hlen := hb.1
  clear hb
  go_enter Try.func42, Try.ntmps42
  go_wp2
  go_loopw [3] (fun i wr => ∃ k q : Nat, k ≤ n ∧ i = .int .i64 k ∧ (∀ j, j < k → KidAt ks j) ∧ wr = w.drewN q) (fun i _ => n - (intOf i).toNat)
  case atStart => exact ⟨0, 0, Nat.zero_le _, rfl, fun j hj => absurd hj (by omega), rfl⟩
  case round =>
    obtain ⟨k, q, hk, rfl, hgood, hwr⟩ := hrel
    have hkr : Kids wr B A n ks := hwr ▸ HB.out.drewN q
    have HK := Lib.hid hkr
    have HW := Lib.hid hwr
    clear hwr hkr
    by_cases hlt : k < n
    · obtain ⟨b, off, rfl, hbB, h0, h1⟩ := HK.out.at_ hlt
      have hx : ∃ x, ks[k]?.getD (0, 0) = x := ⟨_, rfl⟩
      obtain ⟨x, hx⟩ := hx
      rw [hx] at h0 h1
      by_cases hA : 0 ≤ x.1 ∧ x.1 ≤ 15
      · by_cases hN : x.2 < 1
        · have hdN : decide (x.2 < 1) = true := decide_eq_true hN
          go_wp2
          go_quiet (first | (go_at_call 60; exact Calls.quiet_of_same (l1In_yes _ _ hA)))
          go_wp2
          go_ret
          exact ⟨by rw [kidsOk_bad ks k (by omega) (by unfold KidAt; rw [hx]; omega)]; rfl, _, by rw [HW.out, World.drewN_drewN]⟩
        · have hdN : decide (x.2 < 1) = false := decide_eq_false hN
          by_cases hk0 : 0 < k
          · obtain ⟨b', off', e', hbB', p0, p1⟩ := HK.out.at_ (k := k - 1) (by omega)
            cases e'
            have hy : ∃ y, ks[k - 1]?.getD (0, 0) = y := ⟨_, rfl⟩
            obtain ⟨y, hy⟩ := hy
            rw [hy] at p0 p1
            have hia := index_kid_pred b off n c k hk0 hlt
            have hwk : IntKind.i64.wrap ((k : Int) - 1) = (k : Int) - 1 := by rw [IntKind.wrap_i64]; omega
            have hd : decide ((0 : Int) < (k : Int)) = true := decide_eq_true (by omega)
            by_cases hR : x.1 ≤ y.1
            · go_wp2
              go_quiet (first | (go_at_call 60; exact Calls.quiet_of_same (l1In_yes _ _ hA)))
              go_wp2
              go_ret
              exact ⟨by rw [kidsOk_bad ks k (by omega) (by unfold KidAt; rw [hx, hy]; omega)]; rfl, _, by rw [HW.out, World.drewN_drewN]⟩
            · go_wp2
              go_quiet (first | (go_at_call 60; exact Calls.quiet_of_same (l1In_yes _ _ hA)))
              go_wp2
              go_roundw
              case rel =>
                refine ⟨k + 1, _, by omega, by go_num, fun i hi => ?_, by rw [HW.out, World.drewN_drewN]⟩
                rcases Nat.lt_or_ge i k with h | h
                · exact hgood i h
                · rw [show i = k by omega]
                  unfold KidAt
                  rw [hx, hy]
                  omega
              case measure => simp [intOf]; omega
          · obtain rfl : k = 0 := by omega
            rw [Nat.zero_mul, Nat.add_zero] at h0 h1
            go_wp2
            go_quiet (first | (go_at_call 60; exact Calls.quiet_of_same (l1In_yes _ _ hA)))
            go_wp2
            go_roundw
            case rel =>
              refine ⟨1, _, by omega, by go_num, fun j hj => ?_, by rw [HW.out, World.drewN_drewN]⟩
              rcases Nat.lt_or_ge j 0 with h | h
              · exact hgood j h
              · rw [show j = 0 by omega]
                unfold KidAt
                rw [hx]
                omega
            case measure => simp [intOf]; omega
      · go_wp2
        go_quiet (first | (go_at_call 60; exact Calls.quiet_of_same (l1In_no _ _ hA)))
        go_wp2
        go_ret
        exact ⟨by rw [kidsOk_bad ks k (by omega) (by unfold KidAt; rw [hx]; omega)]; rfl, _, by rw [HW.out, World.drewN_drewN]⟩
    · go_wp2
      go_ret
      exact ⟨by rw [kidsOk_good ks (fun i hi => hgood i (by omega))]; rfl, q, HW.out⟩
end Go.Proofs.Ytdhnhgppapkikaa

-- NodeK: What the model's NodeOk answers: for every node.
namespace Go.Proofs.Ytdhnhgppapkikaa
set_option maxRecDepth 20000
open Go.RowKit

/-- the value v is the node nd, its lists below block B. -/
def NodeIn (w : World) (B : Nat) (v : Value) (nd : MNode) : Prop :=
  ∃ Ap np cp Ak nk ck, v = .agg #[.int .i64 nd.kind, .slice Ap np cp, .slice Ak nk ck, .string nd.val] ∧ np ≤ 1048576 ∧ nk ≤ 1048576 ∧ nd.val.size ≤ 1048576 ∧ Ints w B Ap np nd.path ∧ Kids w B Ak nk nd.kids

theorem NodeIn.below {w w' : World} {B : Nat} {v : Value} {nd : MNode} (h : NodeIn w B v nd) (hb : Below B w w') : NodeIn w' B v nd := by
  obtain ⟨Ap, np, cp, Ak, nk, ck, rfl, h1, h2, h3, h4, h5⟩ := h
  exact ⟨Ap, np, cp, Ak, nk, ck, rfl, h1, h2, h3, h4.below hb, h5.below hb⟩
theorem NodeIn.more {w : World} {B B' : Nat} {v : Value} {nd : MNode} (h : NodeIn w B v nd) (hB : B ≤ B') : NodeIn w B' v nd := by
  obtain ⟨Ap, np, cp, Ak, nk, ck, rfl, h1, h2, h3, h4, h5⟩ := h
  exact ⟨Ap, np, cp, Ak, nk, ck, rfl, h1, h2, h3, h4.more hB, h5.more hB⟩

theorem empty_str (s : ByteArray) (h : s.toList = []) : s = { data := #[] } := by
  obtain ⟨⟨l⟩⟩ := s
  have e : (ByteArray.mk l.toArray).toList = l := ByteArray.toList_mk l
  have h' : (ByteArray.mk l.toArray).toList = [] := h
  rw [e] at h'
  rw [h']

set_option maxHeartbeats 1000000 in      -- one walk, the ways through four tests and a switch of three
theorem specNodeOk_any (v : Value) (nd : MNode) (B : Nat) (w : World) (hB : B ≤ w.heap.size) (hv : NodeIn w B v nd) :
    Calls Try.prog 20 #[v] w fun e w' => e = .returned (.bool (nodeOk nd)) ∧ Below w.heap.size w w' := by
  obtain ⟨Ap, np, cp, Ak, nk, ck, rfl, hnp, hnk, hsz, hp, hk⟩ := hv
  obtain ⟨kind, path, kids, val⟩ := nd
  have HP := Lib.hid (hp.more hB)
  have HK := Lib.hid (hk.more hB)
  have LP : Hid (path.length = np) := hp.1
  have LK : Hid (kids.length = nk) := hk.1
  have BW := fun m => Lib.hid (below_drewN ((Below.refl w.heap.size w).alloc (Nat.le_refl _) (.cells #[.int .i64 kind, .slice Ap np cp, .slice Ak nk ck, .string val] 35)) m)
  have SV := Lib.hid hsz
  clear hp hk hsz
  go_enter Try.func20, Try.ntmps20
  go_wp2_with fail
  refine (l3Path_any _ _ _ path _ _ (by omega) (HP.out.alloc (Nat.le_refl _) _)).mono ?_
  rintro e w' ⟨rfl, rfl⟩
  by_cases h1 : isPath path = true
  · rw [h1]
    go_wp2_with fail
    refine (l3Kids_any _ _ _ kids _ _ (by omega) (HK.out.alloc (Nat.le_refl _) _)).mono ?_
    rintro e w' ⟨rfl, m, rfl⟩
    by_cases h2 : kidsOk kids = true
    · rw [h2]
      by_cases hE : val.toList = []
      · obtain rfl := empty_str val hE
        clear hE
        by_cases hk1 : kind = 1
        · obtain rfl := hk1
          by_cases hz : nk = 0
          · obtain rfl := hz
            go_wp2
            go_ret
            exact ⟨ret_b (by simp [nodeOk, kindOk, hasVal, h1, h2, LK.out]), (BW _).out⟩
          · have hd : decide ((nk : Int) = 0) = false := decide_eq_false (by omega)
            go_wp2
            go_ret
            exact ⟨ret_b (by simp [nodeOk, kindOk, hasVal, h1, h2, LK.out, hz]), (BW _).out⟩
        · by_cases hk2 : kind = 2
          · obtain rfl := hk2
            by_cases hz : np = 0
            · obtain rfl := hz
              go_wp2
              go_ret
              exact ⟨ret_b (by simp [nodeOk, kindOk, hasVal, h1, h2, LP.out, LK.out]), (BW _).out⟩
            · have hd : decide ((0 : Int) < (np : Int)) = true := decide_eq_true (by omega)
              have hz' : 0 < np := by omega
              by_cases hz1 : nk = 1
              · obtain rfl := hz1
                obtain ⟨b, off, rfl, hbB, p0, p1⟩ := HK.out.at_ (k := 0) (by omega)
                rw [Nat.zero_mul, Nat.add_zero] at p0 p1
                have hbw : b < w.heap.size := hbB
                have hx : ∃ x, kids[0]?.getD (0, 0) = x := ⟨_, rfl⟩
                obtain ⟨x, hx⟩ := hx
                rw [hx] at p0 p1
                have HX : Hid (at0 kids = x.1) := by unfold at0; rw [hx]; rfl
                clear hx
                go_wp2
                go_ret
                exact ⟨ret_b (by simp [nodeOk, kindOk, hasVal, h1, h2, LP.out, LK.out, hz']; rw [HX.out]; rfl), (BW _).out⟩
              · have hd1 : decide ((nk : Int) = 1) = false := decide_eq_false (by omega)
                go_wp2
                go_ret
                exact ⟨ret_b (by simp [nodeOk, kindOk, hasVal, h1, h2, LP.out, LK.out, hz1, hz']), (BW _).out⟩
          · by_cases hk3 : kind = 3
            · obtain rfl := hk3
              by_cases hz : np = 0
              · obtain rfl := hz
                go_wp2
                go_ret
                exact ⟨ret_b (by simp [nodeOk, kindOk, hasVal, h1, h2, LP.out, LK.out]; omega), (BW _).out⟩
              · have hd : decide ((np : Int) = 0) = false := decide_eq_false (by omega)
                go_wp2
                go_ret
                exact ⟨ret_b (by simp [nodeOk, kindOk, hasVal, h1, h2, LP.out, LK.out, hz]), (BW _).out⟩
            · have d1 : decide (kind = 1) = false := decide_eq_false hk1
              have d2 : decide (kind = 2) = false := decide_eq_false hk2
              have d3 : decide (kind = 3) = false := decide_eq_false hk3
              go_wp2
              go_ret
              exact ⟨ret_b (by simp [nodeOk, kindOk, hasVal, h1, h2, hk1, hk2, hk3]), (BW _).out⟩
      · have hE2 : val.toList.isEmpty = false := by simpa using hE
        go_wp2_with fail
        refine (specValueOk_any val _ SV.out).mono ?_
        rintro e w' ⟨rfl, m2, rfl⟩
        by_cases h3 : valOk (sb val) = true
        · rw [h3]
          by_cases hk1 : kind = 1
          · obtain rfl := hk1
            by_cases hz : nk = 0
            · obtain rfl := hz
              go_wp2
              go_ret
              exact ⟨ret_b (by simp [nodeOk, kindOk, hasVal, h1, h2, LK.out, hE2, h3]), (BW _).out⟩
            · have hd : decide ((nk : Int) = 0) = false := decide_eq_false (by omega)
              go_wp2
              go_ret
              exact ⟨ret_b (by simp [nodeOk, kindOk, hasVal, h1, h2, LK.out, hE2, h3, hz]), (BW _).out⟩
          · by_cases hk2 : kind = 2
            · obtain rfl := hk2
              by_cases hz : np = 0
              · obtain rfl := hz
                go_wp2
                go_ret
                exact ⟨ret_b (by simp [nodeOk, kindOk, hasVal, h1, h2, LP.out, LK.out, hE2, h3]), (BW _).out⟩
              · have hd : decide ((0 : Int) < (np : Int)) = true := decide_eq_true (by omega)
                go_wp2
                go_ret
                exact ⟨ret_b (by simp [nodeOk, kindOk, hasVal, h1, h2, LP.out, LK.out, hE2, h3]), (BW _).out⟩
            · by_cases hk3 : kind = 3
              · obtain rfl := hk3
                by_cases hz : np = 0
                · obtain rfl := hz
                  go_wp2
                  go_ret
                  exact ⟨ret_b (by simp [nodeOk, kindOk, hasVal, h1, h2, LP.out, LK.out, hE2, h3]; omega), (BW _).out⟩
                · have hd : decide ((np : Int) = 0) = false := decide_eq_false (by omega)
                  go_wp2
                  go_ret
                  exact ⟨ret_b (by simp [nodeOk, kindOk, hasVal, h1, h2, LP.out, LK.out, hE2, h3, hz]), (BW _).out⟩
              · have d1 : decide (kind = 1) = false := decide_eq_false hk1
                have d2 : decide (kind = 2) = false := decide_eq_false hk2
                have d3 : decide (kind = 3) = false := decide_eq_false hk3
                go_wp2
                go_ret
                exact ⟨ret_b (by simp [nodeOk, kindOk, hasVal, h1, h2, hE2, h3, hk1, hk2, hk3]), (BW _).out⟩
        · have h3 : valOk (sb val) = false := by simpa using h3
          rw [h3]
          go_wp2
          go_ret
          exact ⟨ret_b (by simp [nodeOk, hasVal, hE2, h3]), (BW _).out⟩
    · have h2 : kidsOk kids = false := by simpa using h2
      rw [h2]
      go_wp2
      go_ret
      exact ⟨ret_b (by simp [nodeOk, h2]), (BW _).out⟩
  · have h1 : isPath path = false := by simpa using h1
    rw [h1]
    go_wp2
    go_ret
    exact ⟨ret_b (by simp [nodeOk, h1]), (BW 0).out⟩
end Go.Proofs.Ytdhnhgppapkikaa

-- OpenNode: A node that came in as an argument: what is known of its value.
namespace Go.Proofs.Ytdhnhgppapkikaa
set_option maxRecDepth 20000
open Go.RowKit Go.ChangeShapes Go.WideShapes Go.Joins Go.Deep

/-- the value v is a node nd that came in. -/
def NodeArg (w : World) (v : Value) (nd : MNode) : Prop :=
  ∃ Ap np cp Ak nk ck, v = .agg #[.int .i64 nd.kind, .slice Ap np cp, .slice Ak nk ck, .string nd.val] ∧ np ≤ maxLen ∧ nk ≤ maxLen ∧ nd.val.size ≤ maxLen ∧ Ints w w.heap.size Ap np nd.path ∧ Kids w w.heap.size Ak nk nd.kids

theorem row_of_trod {H : Type} {enc : TypeId × Value → H} {w : World} {k : IntKind} {t e : TypeId} {fuel : Nat} {v : Value} {x : DataW H × List MemPlace} (ht : Try.prog.underlying t = some (.slice e)) (he : Try.prog.underlying e = some (.int k)) (hc : Try.prog.cellsOf e = 1)
    (h : DataW.trod enc Try.prog w 0 (fun _ => true) true fuel t [v] = some x) : ∃ a len cap zs, v = .slice a len cap ∧ IsRow k w a len cap zs := by
  rcases open_ints ht he hc h with ⟨hcs, _⟩ | ⟨a, l, c, zs, hcs, _, hl, hm, hz, _, hcell, hwz⟩
  · simp at hcs
    exact ⟨none, 0, 0, [], hcs, .inl ⟨rfl, rfl, rfl, rfl⟩⟩
  · simp at hcs
    exact ⟨_, l, c, zs, hcs, .inr ⟨_, rfl, hl, hm, by simpa using hz, hcell, hwz⟩⟩

/-- the pairs of numbers that stand in a row, from a place on. -/
theorem kids_of_trod {H : Type} {enc : TypeId × Value → H} {w : World} {fuel : Nat} {v : Value} {x : DataW H × List MemPlace}
    (h : DataW.trod enc Try.prog w 0 (fun _ => true) true fuel 24 [v] = some x) : ∃ a len cap ks, v = .slice a len cap ∧ len ≤ maxLen ∧ Kids w w.heap.size a len ks := by
  rcases open_slice_pairs Try.underlying24 Try.underlying83 (by kernel_rfl) rfl rfl (by kernel_rfl) (by kernel_rfl) h with ⟨hcs, _⟩ | ⟨a, l, c, m, n, V0, V1, D0, D1, P0, P1, hcs, _, hl, hm, hmm, _, hc⟩
  · simp at hcs
    exact ⟨none, 0, 0, [], hcs, by unfold maxLen; omega, Kids.none_⟩
  · simp at hcs
    have hlm : l ≤ m := by rw [hmm]; simp; exact hl
    have each : ∀ i, i < l → ∃ z : Int × Int, w.cell? (a.add (i * 2)) = some (.int .i64 z.1) ∧ w.cell? (a.add (i * 2 + 1)) = some (.int .i64 z.2) := by
      intro i hi
      obtain ⟨h0, h1, t0, t1⟩ := hc i (by omega)
      obtain ⟨z0, e0, _⟩ := DataW.trod_int Try.underlying2 t0
      obtain ⟨z1, e1, _⟩ := DataW.trod_int Try.underlying2 t1
      simp at e0 e1
      exact ⟨(z0, z1), by rw [h0, e0], by rw [h1, e1]⟩
    obtain ⟨Z, hZ⟩ := choose_lt each
    refine ⟨some a, l, c, (List.range l).map Z, hcs, by omega, by simp, by rw [kv_len]; simp, fun hp => ?_⟩
    obtain ⟨b, off, spot⟩ := a
    have h0 := (hZ 0 (by omega)).1
    have hspot : spot = none := by simpa [Addr.add] using World.cell?_spot h0
    subst hspot
    refine ⟨b, off, rfl, by simpa [Addr.add] using block_lt_of_cell h0, fun i hi => ?_⟩
    have hadd : ∀ j, (Addr.add ⟨b, off, none⟩ j) = ⟨b, off + j, none⟩ := fun j => by unfold Addr.add; split <;> simp_all
    obtain ⟨q, hq | hq⟩ : ∃ q, i = q * 2 ∨ i = q * 2 + 1 := ⟨i / 2, by omega⟩
    · subst hq
      have := (hZ q (by omega)).1
      rw [hadd] at this
      rw [this]
      have e := kv_at0 ((List.range l).map Z) q
      simp [show q < l by omega] at e
      simp [e]
    · subst hq
      have := (hZ q (by omega)).2
      rw [hadd] at this
      rw [this]
      have e := kv_at1 ((List.range l).map Z) q
      simp [show q < l by omega] at e
      simp [e]

theorem open_node {H : Type} {enc : TypeId × Value → H} {w : World} {r : Reach} {b0 : Nat} {v : Value} {d : DataW H} {p : List MemPlace} (hv : Value.okWide Try.prog w r b0 26 v)
    (h : DataW.Trod enc Try.prog w 0 (fun _ => true) true 26 v d p) : ∃ nd, NodeArg w v nd := by
  obtain ⟨v0, v1, v2, v3, y0, y1, y2, y3, n, rfl, _, _, h0, h1, h2, h3⟩ := open_agg4 Try.underlying26 (by kernel_rfl) (by kernel_rfl) hv h
  obtain ⟨z, e0, _⟩ := DataW.trod_int Try.underlying2 h0
  obtain ⟨ap, np, cp, ps, rfl, hp⟩ := row_of_trod Try.underlying23 Try.underlying2 (by kernel_rfl) h1
  obtain ⟨ak, nk, ck, ks, rfl, hk1, hk2⟩ := kids_of_trod h2
  obtain ⟨s, e3, _, hs⟩ := DataW.trod_string Try.underlying9 h3
  simp at e0 e3
  subst e0 e3
  refine ⟨⟨z, ps.take np, ks, s⟩, ap, np, cp, ak, nk, ck, rfl, ?_, hk1, hs, hp.ints, hk2⟩
  rcases hp with ⟨_, h, _⟩ | ⟨_, _, hl, hm, _⟩
  · rw [h]; unfold maxLen; omega
  · omega
end Go.Proofs.Ytdhnhgppapkikaa

-- OpenCells: Cells that came in as an argument: what is known of their value.
namespace Go.Proofs.Ytdhnhgppapkikaa
set_option maxRecDepth 20000
set_option linter.unusedVariables false
set_option linter.unusedSimpArgs false
open Go.RowKit Go.ChangeShapes Go.WideShapes Go.Joins Go.Deep

/-- the value v is a slice of cells cs that came in. -/
def CellsArg (w : World) (v : Value) (cs : List (Int × List Int)) : Prop :=
  ∃ A n c, v = .slice A n c ∧ n ≤ maxLen ∧ Cells w w.heap.size A n cs ∧ ∀ i, (cel cs i).2.length ≤ maxLen

theorem cells_of_trod {H : Type} {enc : TypeId × Value → H} {w : World} {fuel : Nat} {v : Value} {x : DataW H × List MemPlace}
    (h : DataW.trod enc Try.prog w 0 (fun _ => true) true fuel 22 [v] = some x) : ∃ cs, CellsArg w v cs := by
  rcases open_slice_pairs Try.underlying22 Try.underlying45 (by kernel_rfl) rfl rfl (by kernel_rfl) (by kernel_rfl) h with ⟨hcs, _⟩ | ⟨a, l, c, m, n, V0, V1, D0, D1, P0, P1, hcs, _, hl, hm, hmm, _, hc⟩
  · simp at hcs
    exact ⟨[], none, 0, 0, hcs, by unfold maxLen; omega, Cells.none_, fun i => by simp [cel]⟩
  · simp at hcs
    have hlm : l ≤ m := by rw [hmm]; simp; exact hl
    have each : ∀ i, i < l → ∃ z : Int × List Int, w.cell? (a.add (i * 2)) = some (.int .i64 z.1) ∧ z.2.length ≤ maxLen ∧ ∃ Ai ni ci, w.cell? (a.add (i * 2 + 1)) = some (.slice Ai ni ci) ∧ ni ≤ ci ∧ (Ai = none → ci = 0) ∧ Byts w w.heap.size Ai ni z.2 := by
      intro i hi
      obtain ⟨h0, h1, t0, t1⟩ := hc i (by omega)
      obtain ⟨z0, e0, _⟩ := DataW.trod_int Try.underlying2 t0
      obtain ⟨Ai, ni, ci, zs, e1, hr⟩ := row_of_trod Try.underlying43 Try.underlying5 (by kernel_rfl) t1
      simp at e0
      refine ⟨(z0, zs.take ni), by rw [h0, e0], ?_, Ai, ni, ci, by rw [h1, e1], ?_, ?_, hr.byts⟩
      · rcases hr with ⟨_, rfl, _, _⟩ | ⟨_, _, h2, h3, _⟩
        · simp
        · simp; omega
      · rcases hr with ⟨_, rfl, rfl, _⟩ | ⟨_, _, h2, h3, _⟩
        · exact Nat.le_refl _
        · exact h2
      · rcases hr with ⟨_, _, rfl, _⟩ | ⟨_, e, h2, h3, _⟩
        · exact fun _ => rfl
        · intro e'; rw [e] at e'; cases e'
    obtain ⟨Z, hZ⟩ := choose_lt each
    refine ⟨(List.range l).map Z, some a, l, c, hcs, by omega, ⟨by simp, fun hp => ?_⟩, fun i => ?_⟩
    · obtain ⟨b, off, spot⟩ := a
      have h0 := (hZ 0 (by omega)).1
      have hspot : spot = none := by simpa [Addr.add] using World.cell?_spot h0
      subst hspot
      refine ⟨b, off, rfl, by simpa [Addr.add] using block_lt_of_cell h0, fun i hi => ?_⟩
      have hadd : ∀ j, (Addr.add ⟨b, off, none⟩ j) = ⟨b, off + j, none⟩ := fun j => by unfold Addr.add; split <;> simp_all
      obtain ⟨k0, _, Ai, ni, ci, k1, k2, k3, k4⟩ := hZ i hi
      rw [hadd] at k0 k1
      have e : cel ((List.range l).map Z) i = Z i := by simp [cel, hi]
      rw [e]
      exact ⟨k0, Ai, ni, ci, k1, k2, k3, k4⟩
    · by_cases hi : i < l
      · have e : cel ((List.range l).map Z) i = Z i := by simp [cel, hi]
        rw [e]
        exact (hZ i hi).2.1
      · have e : cel ((List.range l).map Z) i = (0, []) := by simp [cel, hi]
        rw [e]; simp

theorem open_cells {H : Type} {enc : TypeId × Value → H} {w : World} {r : Reach} {b0 : Nat} {v : Value} {d : DataW H} {p : List MemPlace} (_hv : Value.okWide Try.prog w r b0 22 v)
    (h : DataW.Trod enc Try.prog w 0 (fun _ => true) true 22 v d p) (hc : ∃ A n c, v = .slice A n c) : ∃ cs, CellsArg w v cs := by
  obtain ⟨A, n, c, rfl⟩ := hc
  obtain ⟨fuel, hf⟩ := h
  exact cells_of_trod (by simpa [Value.cells] using hf)
end Go.Proofs.Ytdhnhgppapkikaa

-- Std: What the helpers of the exact laws do at slices of bytes: a copy is a new row of the same bytes; two that read alike are told alike.
namespace Go.Proofs.Ytdhnhgppapkikaa
set_option maxRecDepth 20000
open Go.RowKit

theorem copy_any (A : Option Addr) (n c : Nat) (zs : List Int) (B : Nat) (w : World) (hn : n ≤ 140737488355328) (hB : B ≤ w.heap.size) (hb : Byts w B A n zs) :
    Calls Try.prog 46 #[.slice A n c] w fun e w' => e = .returned (.slice (some ⟨w.heap.size, 0, none⟩) n n) ∧ w' = w.alloc (.cells (u8s zs) 5) := by
  have hlen : zs.length = n := hb.1
  have HL := Lib.hid hlen
  have HB := Lib.hid hb
  clear hb hlen
  obtain ⟨i0, hi, hz0, hz1, hz2⟩ := info_parts Try.info5
  have hmk : ∀ W : World, (Instr.makeSlice 43 (.int .i64 (n : Int)) (.int .i64 (n : Int))).run Try.prog W = .ok (.slice (some ⟨W.heap.size, 0, none⟩) n n) (W.alloc (.cells (filled zs n 0) 5)) := by
    intro W
    have hr := run_make (P := Try.prog) W 43 5 i0 (.int .u8 0) Try.underlying43 hi hz0 .i64 .i64 n n (by omega) (by omega) (by rw [hz2]; omega) (by omega)
    simp only [Int.toNat_natCast] at hr
    rw [hr, hz1, Nat.mul_one]
    show Result.ok _ (W.alloc (.cells (madeCells #[.int .u8 0] n) _)) = _
    rw [filled_none zs n]
  have HM := Lib.hid hmk
  clear hmk hi hz0 hz1 hz2
  go_enter Try.func46, Try.ntmps46
  have hmk := HM.out
  go_wp2
  clear hmk
  go_loopw [4] (fun i wr => ∃ k : Nat, k ≤ n ∧ i = .int .i64 k ∧ wr = w.alloc (.cells (filled zs n k) 5)) (fun i _ => n - (intOf i).toNat)
  case atStart => exact ⟨0, Nat.zero_le _, rfl, rfl⟩
  case round =>
    obtain ⟨k, hk, rfl, rfl⟩ := hrel
    by_cases hlt : k < n
    · obtain ⟨b, off, rfl, hbB, hc⟩ := HB.out.at_ hlt
      have hr := HB.out.range k
      have hbw : b < w.heap.size := by omega
      have hg : (filled zs n k)[k]? = some (.int .u8 0) := filled_at zs n k HL.out hlt
      have hst := Lib.hid (filled_set zs n k HL.out hlt)
      go_wp2
      go_roundw
      case rel => exact ⟨k + 1, by omega, by go_num, by rw [hst.out]⟩
      case measure => simp [intOf]; omega
    · go_wp2
      go_ret
      exact ⟨rfl, by rw [show k = n by omega, filled_all zs n HL.out]⟩

theorem copy_own (A : Option Addr) (n c : Nat) (zs : List Int) (B : Nat) (w : World) (hn : n ≤ 140737488355328) (hB : B ≤ w.heap.size) (hb : Byts w B A n zs) :
    Calls Try.prog 46 #[.slice A n c] w fun e w' => ∃ g, e = .returned (.slice (some ⟨g, 0, none⟩) n n) ∧ w.heap.size ≤ g ∧ Row w' g zs ∧ Below w.heap.size w w' := by
  refine (copy_any A n c zs B w hn hB hb).mono ?_
  rintro e w' ⟨rfl, rfl⟩
  exact ⟨w.heap.size, rfl, Nat.le_refl _, ⟨heap_alloc_new _ _, hb.2.1⟩, (Below.refl _ _).alloc (Nat.le_refl _) _⟩

theorem like_yes (A A' : Option Addr) (n c c' : Nat) (zs : List Int) (B B' : Nat) (w : World) (hn : n ≤ 9223372036854775807) (hb : Byts w B A n zs) (hb' : Byts w B' A' n zs) :
    Calls Try.prog 56 #[.slice A n c, .slice A' n c'] w fun e w' => e = .returned (.bool true) ∧ ∃ m, w' = w.drewN m := by
  have HB := Lib.hid hb
  have HB' := Lib.hid hb'
  clear hb hb'
  go_enter Try.func56, Try.ntmps56
  go_wp2
  go_loopw [5] (fun i wr => ∃ k m : Nat, k ≤ n ∧ i = .int .i64 k ∧ wr = w.drewN m) (fun i _ => n - (intOf i).toNat)
  case atStart => exact ⟨0, 0, Nat.zero_le _, rfl, rfl⟩
  case round =>
    obtain ⟨k, m, hk, rfl, rfl⟩ := hrel
    by_cases hlt : k < n
    · obtain ⟨b, off, rfl, hbB, hc⟩ := HB.out.at_ hlt
      obtain ⟨b', off', rfl, hbB', hc'⟩ := HB'.out.at_ hlt
      have hr := HB.out.range k
      go_wp2
      go_quiet (fail)
      go_wp2
      go_roundw
      case rel => exact ⟨k + 1, _, by omega, by go_num, rfl⟩
      case measure => simp [intOf]; omega
    · go_wp2
      go_ret
      exact ⟨rfl, m, rfl⟩
end Go.Proofs.Ytdhnhgppapkikaa

-- Mine: A slice of bytes that the call made and may write into: what marking it and holding it against its marks leave.
namespace Go.Proofs.Ytdhnhgppapkikaa
set_option maxRecDepth 20000
open Go.RowKit

/-- the marks from k0 on. -/
def marks (k0 : Int) (n : Nat) : List Int := (List.range n).map fun (i : Nat) => (k0 + (i : Int)) % 256
theorem marks_len (k0 : Int) (n : Nat) : (marks k0 n).length = n := by simp [marks]
theorem marks_at (k0 : Int) (n k : Nat) (h : k < n) : (marks k0 n)[k]?.getD 0 = (k0 + (k : Int)) % 256 := by simp [marks, h]
theorem marks_bd (k0 : Int) (n : Nat) : ∀ z ∈ marks k0 n, 0 ≤ z ∧ z ≤ 255 := by
  intro z hz
  simp only [marks, List.mem_map] at hz
  obtain ⟨i, _, rfl⟩ := hz
  omega
def marked (k0 : Int) (n k : Nat) (xs : List Int) : List Int := (marks k0 n).take k ++ xs.drop k
theorem marked_set (k0 : Int) (n k : Nat) (xs : List Int) (hx : xs.length = n) (hk : k < n) : (marked k0 n k xs).set k ((k0 + (k : Int)) % 256) = marked k0 n (k + 1) xs := by
  unfold marked
  have hl : min k (marks k0 n).length = k := by have := marks_len k0 n; omega
  rw [take_step (marks k0 n) k (by have := marks_len k0 n; omega), marks_at k0 n k hk]
  have hd : xs.drop k = xs[k] :: xs.drop (k + 1) := List.drop_eq_getElem_cons (by omega)
  have hs : (xs.drop k).set 0 ((k0 + (k : Int)) % 256) = (k0 + (k : Int)) % 256 :: xs.drop (k + 1) := by rw [hd]; rfl
  simp [hl, hs]

theorem mark_any (A : Option Addr) (n c base : Nat) (xs : List Int) (k0 : Int) (w : World) (h0 : 0 ≤ k0) (h1 : k0 + n ≤ 4611686018427387904) (hm : Mine w base A n c xs) :
    Calls Try.prog 33 #[.slice A n c, .int .i64 k0] w fun e w' => e = .returned (.int .i64 (k0 + n)) ∧ Mine w' base A n c (marks k0 n) ∧ w.grownBy w' (Value.slice A n c).ownBlock := by
  have hx := Lib.hid hm.len
  have HM := Lib.hid hm
  clear hm
  go_enter Try.func33, Try.ntmps33
  go_wp2
  go_loopw [1, 5] (fun q i wr => ∃ k : Nat, k ≤ n ∧ i = .int .i64 k ∧ q = .int .i64 (k0 + k) ∧ Mine wr base A n c (marked k0 n k xs) ∧ w.grownBy wr (Value.slice A n c).ownBlock) (fun _ i _ => n - (intOf i).toNat)
  case atStart => exact ⟨0, Nat.zero_le _, rfl, by simp, HM.out, World.grownBy.refl _ _⟩
  case round =>
    obtain ⟨k, hk, rfl, rfl, hmr, hgr⟩ := hrel
    by_cases hlt : k < n
    · obtain ⟨g, rfl, hbg, hlt'⟩ := hmr.form (by omega)
      have hc := hmr.cell hlt
      have hf := hmr.free k
      have hs := hmr.set_ k ((k0 + (k : Int)) % 256) (by omega)
      rw [marked_set k0 n k xs hx.out hlt] at hs
      have HS := Lib.hid hs
      have HG := Lib.hid hgr
      clear hs hmr hgr
      go_wp2
      go_roundw
      case rel => exact ⟨k + 1, by omega, by go_num, by go_num, HS.out.1, HG.out.trans HS.out.2⟩
      case measure => simp [intOf]; omega
    · go_wp2
      go_ret
      have e : k = n := by omega
      subst e
      refine ⟨rfl, ?_, hgr⟩
      have hd : marked k0 k k xs = marks k0 k := by
        unfold marked
        rw [List.take_of_length_le (by have := marks_len k0 k; omega), List.drop_eq_nil_of_le (by have := hx.out; omega)]; simp
      rw [hd] at hmr
      exact hmr

theorem held_yes (A : Option Addr) (n c : Nat) (B : Nat) (k0 : Int) (w : World) (h0 : 0 ≤ k0) (h1 : k0 + n ≤ 4611686018427387904) (hb : Byts w B A n (marks k0 n)) :
    Calls Try.prog 36 #[.slice A n c, .int .i64 k0] w fun e w' => e = .returned (.int .i64 (k0 + n)) ∧ w = w' := by
  have HB := Lib.hid hb
  clear hb
  go_enter Try.func36, Try.ntmps36
  go_wp2
  go_loop [1, 5] (fun q i => ∃ k : Nat, k ≤ n ∧ i = .int .i64 k ∧ q = .int .i64 (k0 + k)) (fun _ i => n - (intOf i).toNat)
  case atStart => exact ⟨0, Nat.zero_le _, rfl, by simp⟩
  case round =>
    obtain ⟨k, hk, rfl, rfl⟩ := hrel
    by_cases hlt : k < n
    · obtain ⟨b, off, rfl, hbB, hc⟩ := HB.out.at_ hlt
      rw [marks_at k0 n k hlt] at hc
      go_wp2
      go_round
      case rel => exact ⟨k + 1, by omega, by go_num, by go_num⟩
      case measure => simp [intOf]; omega
    · go_wp2
      go_ret
      exact ⟨ret_i64 (by omega), rfl⟩
end Go.Proofs.Ytdhnhgppapkikaa

-- KidsX: What the helpers of the exact laws do at slices of kids.
namespace Go.Proofs.Ytdhnhgppapkikaa
set_option maxRecDepth 20000
open Go.RowKit

theorem toKid_any (a m : Int) (w : World) :
    Calls Try.prog 47 #[.agg #[.int .i64 a, .int .i64 m]] w fun e w' => e = .returned (.agg #[.int .i64 a, .int .i64 m]) ∧ Below w.heap.size w w' := by
  go_enter Try.func47, Try.ntmps47
  go_wp2
  refine bodyPost_ret (v := .agg #[.int .i64 a, .int .i64 m]) (by simp [results, Try.results47, go_sem]) rfl ?_
  exact ⟨rfl, (((Below.refl _ _).alloc (Nat.le_refl _) _).alloc (by simp) _).alloc (by simp; omega) _⟩
theorem eqKid_yes (a m : Int) (w : World) :
    Calls Try.prog 57 #[.agg #[.int .i64 a, .int .i64 m], .agg #[.int .i64 a, .int .i64 m]] w fun e w' => e = .returned (.bool true) ∧ Below w.heap.size w w' := by
  go_enter Try.func57, Try.ntmps57
  go_wp2
  go_ret
  exact ⟨rfl, ((Below.refl _ _).alloc (Nat.le_refl _) _).alloc (by simp) _⟩

/-- the kids as far as they are filled. -/
def filledK (ks : List (Int × Int)) (n k : Nat) : List (Int × Int) := ks.take k ++ List.replicate (n - k) (0, 0)
theorem filledK_len (ks : List (Int × Int)) (n k : Nat) (hk : ks.length = n) (h : k ≤ n) : (filledK ks n k).length = n := by simp [filledK]; omega
theorem filledK_set (ks : List (Int × Int)) (n k : Nat) (hz : ks.length = n) (hk : k < n) : (filledK ks n k).set k (ks[k]?.getD (0, 0)) = filledK ks n (k + 1) := by
  unfold filledK
  obtain ⟨m, hm⟩ : ∃ m, n - k = m + 1 := ⟨n - k - 1, by omega⟩
  have hm' : n - (k + 1) = m := by omega
  rw [hm, hm', List.getElem?_eq_getElem (by omega)]
  have hl : min k ks.length = k := by omega
  have e : ks.take (k + 1) = ks.take k ++ [ks[k]] := List.take_succ_eq_append_getElem (by omega)
  simp [List.replicate_succ, hl]
  rw [e, List.append_assoc]; rfl
theorem filledK_all (ks : List (Int × Int)) (n : Nat) (hz : ks.length = n) : filledK ks n n = ks := by
  unfold filledK
  rw [List.take_of_length_le (by omega)]; simp
theorem kv_rep (n : Nat) : kv (List.replicate n (0, 0)) = List.replicate (n * 2) 0 := by
  induction n with
  | zero => rfl
  | succ n ih => rw [List.replicate_succ, kv_cons, ih, show (n + 1) * 2 = n * 2 + 1 + 1 by omega]; rfl
theorem make_kids (n : Nat) (hn : n ≤ 8796093022208) (W : World) :
    (Instr.makeSlice 33 (.int .i64 (n : Int)) (.int .i64 (n : Int))).run Try.prog W = .ok (.slice (some ⟨W.heap.size, 0, none⟩) n n) (W.alloc (.cells (i64s (kv (List.replicate n (0, 0)))) 79)) := by
  obtain ⟨i0, hi, hz0, hz1, hz2⟩ := info_parts Try.infoK
  have hr := run_make (P := Try.prog) W 33 79 i0 (.agg #[.int .i64 0, .int .i64 0]) Try.underlying33 hi hz0 .i64 .i64 n n (by omega) (by omega) (by rw [hz2]; omega) (by omega)
  simp only [Int.toNat_natCast] at hr
  rw [hr, hz1, kv_rep]
  have e : madeCells (Value.agg #[.int .i64 0, .int .i64 0]).cells (n * 2) = i64s (List.replicate (n * 2) 0) := by
    apply Array.ext
    · simp [madeCells, i64s]
    · intro i h1 h2
      simp [madeCells, i64s, Value.cells]
      rcases Nat.mod_two_eq_zero_or_one i with h | h <;> simp [h]
  rw [e]
theorem OwnK.put {w : World} {base g n c : Nat} {ks : List (Int × Int)} (h : OwnK w base (some ⟨g, 0, none⟩) n c ks) (k : Nat) (a m : Int) :
    OwnK ((w.setCell ⟨g, k * 2, none⟩ (.int .i64 a)).setCell ⟨g, k * 2 + 1, none⟩ (.int .i64 m)) base (some ⟨g, 0, none⟩) n c (ks.set k (a, m)) ∧ w.grownBy ((w.setCell ⟨g, k * 2, none⟩ (.int .i64 a)).setCell ⟨g, k * 2 + 1, none⟩ (.int .i64 m)) (some g) := by
  obtain ⟨h1, g1⟩ := h.set0 k a
  obtain ⟨h2, g2⟩ := h1.set1 k m
  refine ⟨?_, g1.trans g2⟩
  have e : (ks.set k (a, (ks[k]?.getD (0, 0)).2)).set k (((ks.set k (a, (ks[k]?.getD (0, 0)).2))[k]?.getD (0, 0)).1, m) = ks.set k (a, m) := by
    rw [List.set_set]
    by_cases hk : k < ks.length
    · rw [List.getElem?_set_self (by omega)]; rfl
    · rw [List.set_eq_of_length_le (by omega), List.set_eq_of_length_le (by omega)]
  rw [e] at h2
  exact h2

theorem copyK_any (A : Option Addr) (n c : Nat) (ks : List (Int × Int)) (B : Nat) (w : World) (hn : n ≤ 8796093022208) (hB : B ≤ w.heap.size) (hb : Kids w B A n ks) :
    Calls Try.prog 25 #[.slice A n c] w (GaveK w ks) := by
  have HB := Lib.hid hb
  have hlen := hb.1
  clear hb
  have HM := Lib.hid (make_kids n hn)
  go_enter Try.func25, Try.ntmps25
  have hmk := HM.out
  go_wp2
  clear hmk
  have M0 := Lib.hid (OwnK.of_alloc w w.heap.size (List.replicate n (0, 0)) n (Nat.le_refl _) (by simp) (by unfold maxLen; omega))
  go_loopw [4] (fun i wr => ∃ k : Nat, k ≤ n ∧ i = .int .i64 k ∧ OwnK wr w.heap.size (some ⟨w.heap.size, 0, none⟩) n n (filledK ks n k) ∧ Below w.heap.size w wr) (fun i _ => n - (intOf i).toNat)
  case atStart => exact ⟨0, Nat.zero_le _, rfl, by simpa [filledK] using M0.out, (Below.refl _ _).alloc (Nat.le_refl _) _⟩
  case round =>
    obtain ⟨k, hk, rfl, hm, hbel⟩ := hrel
    by_cases hlt : k < n
    · obtain ⟨b, off, rfl, hbB, h0, h1⟩ := (HB.out.below (hbel.mono hB)).at_ hlt
      have hset := filledK_set ks n k hlen hlt
      generalize ks[k]?.getD (0, 0) = x at h0 h1 hset
      have HS := Lib.hid hset
      clear hset
      have MR := Lib.hid hm
      have BR := Lib.hid hbel
      clear hm hbel
      go_wp2_with fail
      refine (toKid_any _ _ _).mono ?_
      rintro e w1 ⟨rfl, b1⟩
      have m1 := MR.out.below b1
      have hc0 := m1.cell0 hlt
      have hc1 := m1.cell1 hlt
      have hf0 := m1.free (k * 2)
      have hf1 := m1.free (k * 2 + 1)
      have hs := m1.put k x.1 x.2
      rw [show ((x.1, x.2) : Int × Int) = x by rfl, HS.out] at hs
      have S1 := Lib.hid hs
      have B1 := Lib.hid (BR.out.trans (b1.mono BR.out.size))
      clear hs b1 m1 h0 h1
      go_wp2
      go_roundw
      case rel => exact ⟨k + 1, by omega, by go_num, S1.out.1, B1.out.grown S1.out.2 B1.out.size (fun g h => by cases h; exact Nat.le_refl _)⟩
      case measure => simp [intOf]; omega
    · go_wp2
      go_ret
      obtain rfl : k = n := by omega
      rw [filledK_all ks k hlen] at hm
      exact ⟨_, k, k, rfl, hm, hbel⟩
theorem likeK_yes (A A' : Option Addr) (n c c' : Nat) (ks : List (Int × Int)) (B B' : Nat) (w : World) (hn : n ≤ 8796093022208) (hB : B ≤ w.heap.size) (hB' : B' ≤ w.heap.size) (hb : Kids w B A n ks) (hb' : Kids w B' A' n ks) :
    Calls Try.prog 32 #[.slice A n c, .slice A' n c'] w fun e w' => e = .returned (.bool true) ∧ Below w.heap.size w w' := by
  have HB := Lib.hid (hb.more hB)
  have HB' := Lib.hid (hb'.more hB')
  clear hb hb'
  go_enter Try.func32, Try.ntmps32
  go_wp2
  go_loopw [5] (fun i wr => ∃ k : Nat, k ≤ n ∧ i = .int .i64 k ∧ Below w.heap.size w wr) (fun i _ => n - (intOf i).toNat)
  case atStart => exact ⟨0, Nat.zero_le _, rfl, Below.refl _ _⟩
  case round =>
    obtain ⟨k, hk, rfl, hbel⟩ := hrel
    by_cases hlt : k < n
    · obtain ⟨b, off, rfl, hbB, h0, h1⟩ := (HB.out.below hbel).at_ hlt
      obtain ⟨b', off', rfl, hbB', h0', h1'⟩ := (HB'.out.below hbel).at_ hlt
      generalize ks[k]?.getD (0, 0) = x at h0 h1 h0' h1'
      have BR := Lib.hid hbel
      clear hbel
      go_wp2
      go_still_tail 8, (by kernel_rfl)
      change wpList _ _ _ _ _ wr.drew
      have BD := Lib.hid BR.out.drew
      generalize wr.drew = w2 at BD
      clear h0 h1 h0' h1'
      go_wp2_with fail
      refine (eqKid_yes _ _ _).mono ?_
      rintro e w3 ⟨rfl, b3⟩
      have B3 := Lib.hid (BD.out.trans (b3.mono BD.out.size))
      clear b3
      go_wp2
      go_roundw
      case rel => exact ⟨k + 1, by omega, by go_num, B3.out⟩
      case measure => simp [intOf]; omega
    · go_wp2
      go_ret
      exact ⟨rfl, hbel⟩

/-- the marks of kids from k0 on. -/
def marksK (k0 : Int) (n : Nat) : List (Int × Int) := (List.range n).map fun (i : Nat) => (k0 + 2 * (i : Int), k0 + 2 * (i : Int) + 1)
theorem marksK_len (k0 : Int) (n : Nat) : (marksK k0 n).length = n := by simp [marksK]
theorem marksK_at (k0 : Int) (n k : Nat) (h : k < n) : (marksK k0 n)[k]?.getD (0, 0) = (k0 + 2 * (k : Int), k0 + 2 * (k : Int) + 1) := by simp [marksK, h]
def markedK (k0 : Int) (n k : Nat) (ks : List (Int × Int)) : List (Int × Int) := (marksK k0 n).take k ++ ks.drop k
theorem markedK_set (k0 : Int) (n k : Nat) (ks : List (Int × Int)) (hx : ks.length = n) (hk : k < n) : (markedK k0 n k ks).set k (k0 + 2 * (k : Int), k0 + 2 * (k : Int) + 1) = markedK k0 n (k + 1) ks := by
  unfold markedK
  have hl : min k (marksK k0 n).length = k := by have := marksK_len k0 n; omega
  have e : (marksK k0 n).take (k + 1) = (marksK k0 n).take k ++ [(k0 + 2 * (k : Int), k0 + 2 * (k : Int) + 1)] := by
    rw [List.take_succ_eq_append_getElem (by rw [marksK_len]; omega)]
    simp [marksK]
  rw [e]
  have hd : ks.drop k = ks[k] :: ks.drop (k + 1) := List.drop_eq_getElem_cons (by omega)
  have hs : (ks.drop k).set 0 (k0 + 2 * (k : Int), k0 + 2 * (k : Int) + 1) = (k0 + 2 * (k : Int), k0 + 2 * (k : Int) + 1) :: ks.drop (k + 1) := by rw [hd]; rfl
  simp [hl, hs]

theorem markK_any (A : Option Addr) (n c base : Nat) (ks : List (Int × Int)) (k0 : Int) (w : World) (h0 : 0 ≤ k0) (h1 : k0 + 2 * n ≤ 4611686018427387904) (hm : OwnK w base A n c ks) :
    Calls Try.prog 35 #[.slice A n c, .int .i64 k0] w fun e w' => e = .returned (.int .i64 (k0 + 2 * n)) ∧ OwnK w' base A n c (marksK k0 n) ∧ w.grownBy w' (Value.slice A n c).ownBlock := by
  have hx := Lib.hid hm.len
  have HM := Lib.hid hm
  clear hm
  go_enter Try.func35, Try.ntmps35
  go_wp2
  go_loopw [1, 5] (fun q i wr => ∃ k : Nat, k ≤ n ∧ i = .int .i64 k ∧ q = .int .i64 (k0 + 2 * k) ∧ OwnK wr base A n c (markedK k0 n k ks) ∧ w.grownBy wr (Value.slice A n c).ownBlock) (fun _ i _ => n - (intOf i).toNat)
  case atStart => exact ⟨0, Nat.zero_le _, rfl, by simp, HM.out, World.grownBy.refl _ _⟩
  case round =>
    obtain ⟨k, hk, rfl, rfl, hmr, hgr⟩ := hrel
    by_cases hlt : k < n
    · obtain ⟨g, rfl, hbg, hlt'⟩ := hmr.form (by omega)
      have hc0 := hmr.cell0 hlt
      have hc1 := hmr.cell1 hlt
      have hf0 := hmr.free (k * 2)
      have hf1 := hmr.free (k * 2 + 1)
      have hs := hmr.put k (k0 + 2 * (k : Int)) (k0 + 2 * (k : Int) + 1)
      rw [markedK_set k0 n k ks hx.out hlt] at hs
      have HS := Lib.hid hs
      have HG := Lib.hid hgr
      clear hs hmr hgr
      go_wp2
      go_roundw
      case rel => exact ⟨k + 1, by omega, by go_num, by go_num, HS.out.1, HG.out.trans HS.out.2⟩
      case measure => simp [intOf]; omega
    · go_wp2
      go_ret
      have e : k = n := by omega
      subst e
      refine ⟨rfl, ?_, hgr⟩
      have hd : markedK k0 k k ks = marksK k0 k := by
        unfold markedK
        rw [List.take_of_length_le (by have := marksK_len k0 k; omega), List.drop_eq_nil_of_le (by have := hx.out; omega)]; simp
      rw [hd] at hmr
      exact hmr

end Go.Proofs.Ytdhnhgppapkikaa

-- IntsX: What the helpers of the exact laws do at slices of int64: a copy is a new row of the same numbers; two that read alike are told alike; what marking and holding leave.
namespace Go.Proofs.Ytdhnhgppapkikaa
set_option maxRecDepth 20000
open Go.RowKit

theorem copyI_any (A : Option Addr) (n c : Nat) (zs : List Int) (B : Nat) (w : World) (hn : n ≤ 17592186044416) (hB : B ≤ w.heap.size) (hb : Ints w B A n zs) :
    Calls Try.prog 24 #[.slice A n c] w (GaveI w zs) := by
  have hlen : zs.length = n := hb.1
  have HL := Lib.hid hlen
  have HB := Lib.hid hb
  clear hb hlen
  have HM := Lib.hid (make_ints zs n hn)
  go_enter Try.func24, Try.ntmps24
  have hmk := HM.out
  go_wp2
  clear hmk
  go_loopw [4] (fun i wr => ∃ k : Nat, k ≤ n ∧ i = .int .i64 k ∧ wr = w.alloc (.cells (filledI zs n k) 2)) (fun i _ => n - (intOf i).toNat)
  case atStart => exact ⟨0, Nat.zero_le _, rfl, rfl⟩
  case round =>
    obtain ⟨k, hk, rfl, rfl⟩ := hrel
    by_cases hlt : k < n
    · obtain ⟨b, off, rfl, hbB, hc⟩ := HB.out.at_ hlt
      have hbw : b < w.heap.size := by omega
      have hg : (filledI zs n k)[k]? = some (.int .i64 0) := filledI_at zs n k HL.out hlt
      have hst := Lib.hid (filledI_set zs n k HL.out hlt)
      go_wp2
      go_roundw
      case rel => exact ⟨k + 1, by omega, by go_num, by rw [hst.out]⟩
      case measure => simp [intOf]; omega
    · go_wp2
      go_ret
      exact ⟨_, n, n, rfl, by rw [show k = n by omega, filledI_all zs n HL.out]; exact OwnI.of_alloc w _ zs n (Nat.le_refl _) HL.out (by unfold maxLen; omega), (Below.refl _ _).alloc (Nat.le_refl _) _⟩

theorem likeI_yes (A A' : Option Addr) (n c c' : Nat) (zs : List Int) (B B' : Nat) (w : World) (hn : n ≤ 9223372036854775807) (hb : Ints w B A n zs) (hb' : Ints w B' A' n zs) :
    Calls Try.prog 31 #[.slice A n c, .slice A' n c'] w fun e w' => e = .returned (.bool true) ∧ ∃ m, w' = w.drewN m := by
  have HB := Lib.hid hb
  have HB' := Lib.hid hb'
  clear hb hb'
  go_enter Try.func31, Try.ntmps31
  go_wp2
  go_loopw [5] (fun i wr => ∃ k m : Nat, k ≤ n ∧ i = .int .i64 k ∧ wr = w.drewN m) (fun i _ => n - (intOf i).toNat)
  case atStart => exact ⟨0, 0, Nat.zero_le _, rfl, rfl⟩
  case round =>
    obtain ⟨k, m, hk, rfl, rfl⟩ := hrel
    by_cases hlt : k < n
    · obtain ⟨b, off, rfl, hbB, hc⟩ := HB.out.at_ hlt
      obtain ⟨b', off', rfl, hbB', hc'⟩ := HB'.out.at_ hlt
      go_wp2
      go_quiet (fail)
      go_wp2
      go_roundw
      case rel => exact ⟨k + 1, _, by omega, by go_num, rfl⟩
      case measure => simp [intOf]; omega
    · go_wp2
      go_ret
      exact ⟨rfl, m, rfl⟩

/-- the marks from k0 on. -/
def marksI (k0 : Int) (n : Nat) : List Int := (List.range n).map fun (i : Nat) => k0 + (i : Int)
theorem marksI_len (k0 : Int) (n : Nat) : (marksI k0 n).length = n := by simp [marksI]
theorem marksI_at (k0 : Int) (n k : Nat) (h : k < n) : (marksI k0 n)[k]?.getD 0 = k0 + (k : Int) := by simp [marksI, h]
def markedI (k0 : Int) (n k : Nat) (xs : List Int) : List Int := (marksI k0 n).take k ++ xs.drop k
theorem markedI_set (k0 : Int) (n k : Nat) (xs : List Int) (hx : xs.length = n) (hk : k < n) : (markedI k0 n k xs).set k (k0 + (k : Int)) = markedI k0 n (k + 1) xs := by
  unfold markedI
  have hl : min k (marksI k0 n).length = k := by have := marksI_len k0 n; omega
  rw [take_step (marksI k0 n) k (by have := marksI_len k0 n; omega), marksI_at k0 n k hk]
  have hd : xs.drop k = xs[k] :: xs.drop (k + 1) := List.drop_eq_getElem_cons (by omega)
  have hs : (xs.drop k).set 0 (k0 + (k : Int)) = (k0 + (k : Int)) :: xs.drop (k + 1) := by rw [hd]; rfl
  simp [hl, hs]

theorem markI_any (A : Option Addr) (n c base : Nat) (xs : List Int) (k0 : Int) (w : World) (h0 : 0 ≤ k0) (h1 : k0 + n ≤ 4611686018427387904) (hm : OwnI w base A n c xs) :
    Calls Try.prog 34 #[.slice A n c, .int .i64 k0] w fun e w' => e = .returned (.int .i64 (k0 + n)) ∧ OwnI w' base A n c (marksI k0 n) ∧ w.grownBy w' (Value.slice A n c).ownBlock := by
  have hx := Lib.hid hm.len
  have HM := Lib.hid hm
  clear hm
  go_enter Try.func34, Try.ntmps34
  go_wp2
  go_loopw [1, 5] (fun q i wr => ∃ k : Nat, k ≤ n ∧ i = .int .i64 k ∧ q = .int .i64 (k0 + k) ∧ OwnI wr base A n c (markedI k0 n k xs) ∧ w.grownBy wr (Value.slice A n c).ownBlock) (fun _ i _ => n - (intOf i).toNat)
  case atStart => exact ⟨0, Nat.zero_le _, rfl, by simp, HM.out, World.grownBy.refl _ _⟩
  case round =>
    obtain ⟨k, hk, rfl, rfl, hmr, hgr⟩ := hrel
    by_cases hlt : k < n
    · obtain ⟨g, rfl, hbg, hlt'⟩ := hmr.form (by omega)
      have hc := hmr.cell hlt
      have hf := hmr.free k
      have hs := hmr.set_ k (k0 + (k : Int))
      rw [markedI_set k0 n k xs hx.out hlt] at hs
      have HS := Lib.hid hs
      have HG := Lib.hid hgr
      clear hs hmr hgr
      go_wp2
      go_roundw
      case rel => exact ⟨k + 1, by omega, by go_num, by go_num, HS.out.1, HG.out.trans HS.out.2⟩
      case measure => simp [intOf]; omega
    · go_wp2
      go_ret
      have e : k = n := by omega
      subst e
      refine ⟨rfl, ?_, hgr⟩
      have hd : markedI k0 k k xs = marksI k0 k := by
        unfold markedI
        rw [List.take_of_length_le (by have := marksI_len k0 k; omega), List.drop_eq_nil_of_le (by have := hx.out; omega)]; simp
      rw [hd] at hmr
      exact hmr

end Go.Proofs.Ytdhnhgppapkikaa

-- NodeX: What the helpers of the exact laws do at nodes.
namespace Go.Proofs.Ytdhnhgppapkikaa
set_option maxRecDepth 20000
open Go.RowKit

theorem szInt64S_any (A : Option Addr) (n c left : Nat) (w : World) (hn : n ≤ maxLen) (hl : left ≤ 1048576) :
    Calls Try.prog 16 #[.slice A n c, .int .i64 left] w fun e w' => e = .returned (.int .i64 (if n ≤ left then ((left - n : Nat) : Int) else -1)) ∧ w = w' := by
  unfold maxLen at hn
  by_cases h : n ≤ left
  · rw [if_pos h]
    go_enter Try.func16, Try.ntmps16
    go_wp2
    go_ret
    exact ⟨ret_i64 (by omega), rfl⟩
  · rw [if_neg h]
    go_enter Try.func16, Try.ntmps16
    go_wp2
    go_ret
    exact ⟨rfl, rfl⟩
theorem szKidS_any (A : Option Addr) (n c left : Nat) (w : World) (hn : n ≤ maxLen) (hl : left ≤ 1048576) :
    Calls Try.prog 17 #[.slice A n c, .int .i64 left] w fun e w' => e = .returned (.int .i64 (if n ≤ left then ((left - n : Nat) : Int) else -1)) ∧ w = w' := by
  unfold maxLen at hn
  by_cases h : n ≤ left
  · rw [if_pos h]
    go_enter Try.func17, Try.ntmps17
    go_wp2
    go_ret
    exact ⟨ret_i64 (by omega), rfl⟩
  · rw [if_neg h]
    go_enter Try.func17, Try.ntmps17
    go_wp2
    go_ret
    exact ⟨rfl, rfl⟩
/-- what is left behind a node's size. -/
def leftOf (left m : Nat) : Int := if m ≤ left then ((left - m : Nat) : Int) else -1
theorem szNode_any (kind : Int) (Ap : Option Addr) (np cp : Nat) (Ak : Option Addr) (nk ck : Nat) (val : ByteArray) (left : Nat) (w : World) (h1 : np ≤ maxLen) (h2 : nk ≤ maxLen) (h3 : val.size ≤ maxLen) (hl : left ≤ 1048576) :
    Calls Try.prog 5 #[.agg #[.int .i64 kind, .slice Ap np cp, .slice Ak nk ck, .string val], .int .i64 left] w fun e w' => e = .returned (.int .i64 (leftOf left (np + nk + val.size))) ∧ Below w.heap.size w w' := by
  have b1 := (Below.refl w.heap.size w).alloc (Nat.le_refl _) (.cells #[.int .i64 kind, .slice Ap np cp, .slice Ak nk ck, .string val] 26)
  have B1 := Lib.hid b1
  clear b1
  have hv : val.size ≤ 9223372036854775807 := by unfold maxLen at h3; omega
  go_enter Try.func5, Try.ntmps5
  go_wp2_with fail
  refine (szInt64S_any _ _ _ _ _ h1 hl).mono ?_
  rintro e w' ⟨rfl, rfl⟩
  by_cases c1 : np ≤ left
  · rw [if_pos c1]
    go_wp2_with fail
    refine (szKidS_any _ _ _ (left - np) _ h2 (by omega)).mono ?_
    rintro e w' ⟨rfl, rfl⟩
    by_cases c2 : nk ≤ left - np
    · rw [if_pos c2]
      by_cases c3 : val.size ≤ left - np - nk
      · go_wp2
        go_ret
        exact ⟨ret_i64 (by unfold leftOf; rw [if_pos (by omega)]; omega), B1.out⟩
      · go_wp2
        go_ret
        exact ⟨ret_i64 (by unfold leftOf; rw [if_neg (by omega)]), B1.out⟩
    · rw [if_neg c2]
      go_wp2
      go_ret
      exact ⟨ret_i64 (by unfold leftOf; rw [if_neg (by omega)]), B1.out⟩
  · rw [if_neg c1]
    go_wp2
    go_ret
    exact ⟨ret_i64 (by unfold leftOf; rw [if_neg (by omega)]), B1.out⟩

/-- the value v is a node of the call's own: its lists lie in blocks of their own, from base on. -/
def OwnN (w : World) (base : Nat) (v : Value) (nd : MNode) : Prop :=
  ∃ Ap np cp Ak nk ck, v = .agg #[.int .i64 nd.kind, .slice Ap np cp, .slice Ak nk ck, .string nd.val] ∧ np ≤ 1048576 ∧ nk ≤ 1048576 ∧ nd.val.size ≤ 1048576 ∧ OwnI w base Ap np cp nd.path ∧ OwnK w base Ak nk ck nd.kids ∧
    ∀ g, (Value.slice Ap np cp).ownBlock = some g → (Value.slice Ak nk ck).ownBlock ≠ some g
theorem OwnN.node {w : World} {base : Nat} {v : Value} {nd : MNode} (h : OwnN w base v nd) : NodeIn w w.heap.size v nd := by
  obtain ⟨Ap, np, cp, Ak, nk, ck, rfl, h1, h2, h3, h4, h5, _⟩ := h
  exact ⟨Ap, np, cp, Ak, nk, ck, rfl, h1, h2, h3, h4.ints, h5.kids⟩
theorem OwnN.below {w w' : World} {base : Nat} {v : Value} {nd : MNode} (h : OwnN w base v nd) (hb : Below w.heap.size w w') : OwnN w' base v nd := by
  obtain ⟨Ap, np, cp, Ak, nk, ck, rfl, h1, h2, h3, h4, h5, h6⟩ := h
  exact ⟨Ap, np, cp, Ak, nk, ck, rfl, h1, h2, h3, h4.below hb, h5.below hb, h6⟩
theorem toNode_any (v : Value) (nd : MNode) (B : Nat) (w : World) (hB : B ≤ w.heap.size) (hv : NodeIn w B v nd) :
    Calls Try.prog 8 #[v] w fun e w' => ∃ v', e = .returned v' ∧ OwnN w' w.heap.size v' nd ∧ Below w.heap.size w w' := by
  obtain ⟨Ap, np, cp, Ak, nk, ck, rfl, hnp, hnk, hsz, hp, hk⟩ := hv
  obtain ⟨kind, path, kids, val⟩ := nd
  have HP := Lib.hid (hp.more hB)
  have HK := Lib.hid (hk.more hB)
  clear hp hk
  obtain ⟨w3, hw3⟩ : ∃ w3, (((w.alloc (.cells #[.int .i64 kind, .slice Ap np cp, .slice Ak nk ck, .string val] 26)).alloc (.cells #[.int .i64 0, .slice none 0 0, .slice none 0 0, .string { data := #[] }] 35)).alloc
    (.cells #[.int .i64 kind, .slice none 0 0, .slice none 0 0, .string { data := #[] }] 35)) = w3 := ⟨_, rfl⟩
  have x0 : Box w3 w.heap.size _ _ := hw3 ▸ heap3_0 _ _ _ _
  have x1 : Box w3 (w.heap.size + 1) _ _ := hw3 ▸ heap3_1 _ _ _ _
  have x2 : Box w3 (w.heap.size + 1 + 1) _ _ := hw3 ▸ heap3_2 _ _ _ _
  have s3 : w3.heap.size = w.heap.size + 3 := hw3 ▸ size3 _ _ _ _
  have b3 : Below w.heap.size w w3 := hw3 ▸ below3 _ _ _ _
  have X0 := Lib.hid x0
  have X1 := Lib.hid x1
  have X2 := Lib.hid x2
  have B3 := Lib.hid b3
  have HW := Lib.hid hw3
  clear x0 x1 x2 b3 hw3
  go_enter Try.func8, Try.ntmps8
  go_wp2_with fail
  rw [HW.out]
  refine (copyI_any _ _ _ path _ w3 (by omega) B3.out.size (HP.out.below B3.out)).mono ?_
  rintro e w4 ⟨A4, n4, c4, rfl, m4, b4⟩
  have e4 : n4 = np := m4.len.symm.trans HP.out.1
  obtain rfl := e4
  have s4 := b4.size
  have M4 := Lib.hid m4
  have X0 := Lib.hid (X0.out.below b4 (by omega))
  have X1 := Lib.hid (X1.out.below b4 (by omega))
  have X2 := Lib.hid (X2.out.below b4 (by omega))
  have B4 := Lib.hid (B3.out.trans (b4.mono (by omega)))
  clear m4 b4
  have q02 := X0.out.cell 2
  have q21 := X2.out.cell 1
  have f21 := X2.out.free 1
  simp at q02 q21
  go_wp2_with fail
  have gs := grown_set w4 (w.heap.size + 1 + 1) 1 (.slice A4 n4 c4)
  have M5 := Lib.hid (M4.out.grown gs (fun r h => by cases h; omega))
  have X0 := Lib.hid (X0.out.other (g' := w.heap.size + 1 + 1) (by omega) 1 (.slice A4 n4 c4))
  have X1 := Lib.hid (X1.out.other (g' := w.heap.size + 1 + 1) (by omega) 1 (.slice A4 n4 c4))
  have X2 := Lib.hid (X2.out.set_ 1 (.slice A4 n4 c4))
  have B5 := Lib.hid (B4.out.trans (grown_below gs B4.out.size (by omega)))
  clear gs q02 q21 f21
  generalize w4.setCell ⟨w.heap.size + 1 + 1, 1, none⟩ (.slice A4 n4 c4) = w5 at M5 X0 X1 X2 B5
  have s5 := B5.out.size
  refine (copyK_any _ _ _ kids _ w5 (by omega) s5 (HK.out.below B5.out)).mono ?_
  rintro e w6 ⟨A6, n6, c6, rfl, m6, b6⟩
  have e6 : n6 = nk := m6.len.symm.trans HK.out.1
  obtain rfl := e6
  have l1 := X1.out.lt
  have l2 := X2.out.lt
  have hA : ∀ g, (Value.slice A4 n4 c4).ownBlock = some g → g < w5.heap.size := fun g hg => (World.ownsRow.lt M5.out g hg).2
  have hA := Lib.hid hA
  have M6 := Lib.hid m6
  have M5 := Lib.hid (M5.out.below b6)
  have X0 := Lib.hid (X0.out.below b6 (by omega))
  have X1 := Lib.hid (X1.out.below b6 (by omega))
  have X2 := Lib.hid (X2.out.below b6 (by omega))
  have B6 := Lib.hid (B5.out.trans (b6.mono s5))
  clear m6 b6
  have q03 := X0.out.cell 3
  have q10 := X1.out.cell 0
  have q11 := X1.out.cell 1
  have q12 := X1.out.cell 2
  have q13 := X1.out.cell 3
  have q20 := X2.out.cell 0
  have q21 := X2.out.cell 1
  have q22 := X2.out.cell 2
  have q23 := X2.out.cell 3
  have f1 := X1.out.free
  have f2 := X2.out.free
  simp at q03 q10 q11 q12 q13 q20 q21 q22 q23
  go_wp2
  have hX := (((((X1.out.other (g' := w.heap.size + 1 + 1) (by omega) 2 (.slice A6 n6 c6)).other (g' := w.heap.size + 1 + 1) (by omega) 3 (.string val)).set_ 0 (.int .i64 kind)).set_ 1 (.slice A4 n4 c4)).set_ 2 (.slice A6 n6 c6)).set_ 3 (.string val)
  have hS : Touch (fun k => w.heap.size ≤ k ∧ k < w.heap.size + 3) w6 _ :=
    (((((touch_set w6 (w.heap.size + 1 + 1) 2 (.slice A6 n6 c6) ⟨by omega, by omega⟩).trans (touch_set _ (w.heap.size + 1 + 1) 3 (.string val) ⟨by omega, by omega⟩)).trans (touch_set _ (w.heap.size + 1) 0 (.int .i64 kind) ⟨by omega, by omega⟩)).trans
      (touch_set _ (w.heap.size + 1) 1 (.slice A4 n4 c4) ⟨by omega, by omega⟩)).trans (touch_set _ (w.heap.size + 1) 2 (.slice A6 n6 c6) ⟨by omega, by omega⟩)).trans (touch_set _ (w.heap.size + 1) 3 (.string val) ⟨by omega, by omega⟩)
  refine bodyPost_ret (v := .agg #[.int .i64 kind, .slice A4 n4 c4, .slice A6 n6 c6, .string val]) (results_cell_row Try.results8 _ _ (w.heap.size + 1) _ _ _ _ rfl hX Try.underlying35 rfl (by kernel_rfl)) rfl ?_
  have hle := B6.out.size
  exact ⟨_, rfl, ⟨A4, n4, c4, A6, n6, c6, rfl, hnp, hnk, hsz,
    (M5.out.touch hS (fun g hg h => by have := (World.ownsRow.lt M5.out g hg).1; omega)).base (by omega),
    (M6.out.touch hS (fun g hg h => by have := (World.ownsRow.lt M6.out g hg).1; omega)).base s5,
    fun g hg h => by have := hA.out g hg; have := (World.ownsRow.lt M6.out g h).1; omega⟩,
    B6.out.trans (hS.below hle (fun k hk h => by omega))⟩

theorem eqNode_yes (v v' : Value) (nd : MNode) (B B' : Nat) (w : World) (hB : B ≤ w.heap.size) (hB' : B' ≤ w.heap.size) (hv : NodeIn w B v nd) (hv' : NodeIn w B' v' nd) :
    Calls Try.prog 11 #[v, v'] w fun e w' => e = .returned (.bool true) ∧ Below w.heap.size w w' := by
  obtain ⟨Ap, np, cp, Ak, nk, ck, rfl, hnp, hnk, hsz, hp, hk⟩ := hv
  obtain ⟨Ap', np', cp', Ak', nk', ck', rfl, hnp', hnk', hsz', hp', hk'⟩ := hv'
  obtain ⟨kind, path, kids, val⟩ := nd
  have e1 : np' = np := hp'.1.symm.trans hp.1
  have e2 : nk' = nk := hk'.1.symm.trans hk.1
  obtain rfl := e1
  obtain rfl := e2
  have HP := Lib.hid (hp.more hB)
  have HK := Lib.hid (hk.more hB)
  have HP' := Lib.hid (hp'.more hB')
  have HK' := Lib.hid (hk'.more hB')
  clear hp hk hp' hk'
  obtain ⟨w3, hw3⟩ : ∃ w3, ((w.alloc (.cells #[.int .i64 kind, .slice Ap np' cp, .slice Ak nk' ck, .string val] 35)).alloc (.cells #[.int .i64 kind, .slice Ap' np' cp', .slice Ak' nk' ck', .string val] 35)) = w3 := ⟨_, rfl⟩
  have x0 : Box w3 w.heap.size _ _ := hw3 ▸ heap2_0 _ _ _
  have x1 : Box w3 (w.heap.size + 1) _ _ := hw3 ▸ heap2_1 _ _ _
  have s3 : w3.heap.size = w.heap.size + 2 := hw3 ▸ size2 _ _ _
  have b3 : Below w.heap.size w w3 := hw3 ▸ below2 _ _ _
  have X0 := Lib.hid x0
  have X1 := Lib.hid x1
  have B3 := Lib.hid b3
  have HW := Lib.hid hw3
  clear x0 x1 b3 hw3
  go_enter Try.func11, Try.ntmps11
  go_wp2_with fail
  rw [HW.out]
  refine (likeI_yes _ _ _ _ _ path _ _ w3 (by omega) (HP.out.below B3.out) (HP'.out.below B3.out)).mono ?_
  rintro e w4 ⟨rfl, m, hm⟩
  have b4 : Below w3.heap.size w3 w4 := by rw [hm]; exact below_drewN (Below.refl _ _) m
  clear hm
  have X0 := Lib.hid (X0.out.below b4 (by omega))
  have X1 := Lib.hid (X1.out.below b4 (by omega))
  have s4 := b4.size
  have B4 := Lib.hid (B3.out.trans (b4.mono (by omega)))
  clear b4
  have q02 := X0.out.cell 2
  have q12 := X1.out.cell 2
  simp at q02 q12
  go_wp2_with fail
  refine (likeK_yes _ _ _ _ _ kids _ _ w4 (by omega) B4.out.size B4.out.size (HK.out.below B4.out) (HK'.out.below B4.out)).mono ?_
  rintro e w5 ⟨rfl, b5⟩
  have X0 := Lib.hid (X0.out.below b5 (by omega))
  have X1 := Lib.hid (X1.out.below b5 (by omega))
  have B5 := Lib.hid (B4.out.trans (b5.mono (by omega)))
  clear b5 q02 q12
  have q03 := X0.out.cell 3
  have q13 := X1.out.cell 3
  simp at q03 q13
  go_wp2
  go_ret
  exact ⟨rfl, B5.out⟩

/-- block g holds one of the lists of the node v. -/
def NodeBlk (v : Value) (g : Nat) : Prop := ∃ k Ap np cp Ak nk ck s, v = .agg #[k, .slice Ap np cp, .slice Ak nk ck, s] ∧ ((Value.slice Ap np cp).ownBlock = some g ∨ (Value.slice Ak nk ck).ownBlock = some g)
theorem OwnN.blk {w : World} {base : Nat} {v : Value} {nd : MNode} (h : OwnN w base v nd) {g : Nat} (hg : NodeBlk v g) : base ≤ g ∧ g < w.heap.size := by
  obtain ⟨Ap, np, cp, Ak, nk, ck, rfl, _, _, _, h4, h5, _⟩ := h
  obtain ⟨k, Ap', np', cp', Ak', nk', ck', s, e, hg⟩ := hg
  cases e
  rcases hg with hg | hg
  · exact World.ownsRow.lt h4 g hg
  · exact World.ownsRow.lt h5 g hg
theorem OwnN.touch {S : Nat → Prop} {w w' : World} {base : Nat} {v : Value} {nd : MNode} (h : OwnN w base v nd) (t : Touch S w w') (hn : ∀ g, NodeBlk v g → ¬ S g) : OwnN w' base v nd := by
  obtain ⟨Ap, np, cp, Ak, nk, ck, rfl, h1, h2, h3, h4, h5, h6⟩ := h
  exact ⟨Ap, np, cp, Ak, nk, ck, rfl, h1, h2, h3, h4.touch t (fun g hg => hn g ⟨_, _, _, _, _, _, _, _, rfl, .inl hg⟩), h5.touch t (fun g hg => hn g ⟨_, _, _, _, _, _, _, _, rfl, .inr hg⟩), h6⟩
theorem OwnN.base {w : World} {base base' : Nat} {v : Value} {nd : MNode} (h : OwnN w base v nd) (hb : base' ≤ base) : OwnN w base' v nd := by
  obtain ⟨Ap, np, cp, Ak, nk, ck, rfl, h1, h2, h3, h4, h5, h6⟩ := h
  exact ⟨Ap, np, cp, Ak, nk, ck, rfl, h1, h2, h3, h4.base hb, h5.base hb, h6⟩
theorem markNode_any (v : Value) (nd : MNode) (base : Nat) (k0 : Int) (w : World) (h0 : 0 ≤ k0) (h1 : k0 ≤ 1000000000) (hv : OwnN w base v nd) :
    Calls Try.prog 13 #[v, .int .i64 k0] w fun e w' => ∃ k1, k0 ≤ k1 ∧ k1 ≤ k0 + 4000000 ∧ e = .returned (.int .i64 k1) ∧
      OwnN w' base v ⟨nd.kind, marksI k0 nd.path.length, marksK (k0 + nd.path.length) nd.kids.length, nd.val⟩ ∧ k1 = k0 + nd.path.length + 2 * nd.kids.length ∧
      Touch (NodeBlk v) w w' := by
  obtain ⟨Ap, np, cp, Ak, nk, ck, rfl, hnp, hnk, hsz, hp, hk, hne⟩ := hv
  obtain ⟨kind, path, kids, val⟩ := nd
  have lp : path.length = np := hp.len
  have lk : kids.length = nk := hk.len
  have HP := Lib.hid hp
  have HK := Lib.hid hk
  have HN := Lib.hid hne
  have LP := Lib.hid lp
  have LK := Lib.hid lk
  clear hp hk hne lp lk
  obtain ⟨w3, hw3⟩ : ∃ w3, w.alloc (.cells #[.int .i64 kind, .slice Ap np cp, .slice Ak nk ck, .string val] 35) = w3 := ⟨_, rfl⟩
  have x0 : Box w3 w.heap.size _ _ := hw3 ▸ heap_alloc_new _ _
  have s3 : w3.heap.size = w.heap.size + 1 := hw3 ▸ by simp
  have b3 : Below w.heap.size w w3 := hw3 ▸ (Below.refl _ _).alloc (Nat.le_refl _) _
  have X0 := Lib.hid x0
  have B3 := Lib.hid b3
  have HW := Lib.hid hw3
  clear x0 b3 hw3
  go_enter Try.func13, Try.ntmps13
  go_wp2_with fail
  rw [HW.out]
  refine (markI_any Ap np cp base path k0 w3 h0 (by omega) (HP.out.below B3.out)).mono ?_
  rintro e w4 ⟨rfl, m4, g4⟩
  have t4 := Touch.of_grown g4
  have X0 := Lib.hid (show Box w4 _ _ _ from (g4.block w.heap.size (by omega) (fun e => by have := (World.ownsRow.lt HP.out w.heap.size e.symm).2; omega)).trans X0.out)
  have K4 := Lib.hid ((HK.out.below B3.out).touch t4 (fun g hg h => HN.out g h.symm hg))
  have M4 := Lib.hid m4
  have T4 := Lib.hid ((Touch.of_below (S := NodeBlk (.agg #[.int .i64 kind, .slice Ap np cp, .slice Ak nk ck, .string val])) B3.out).trans (t4.mono (fun g h => ⟨_, _, _, _, _, _, _, _, rfl, .inl h.symm⟩)))
  have q2 := X0.out.cell 2
  simp at q2
  clear m4 g4 t4
  go_wp2_with fail
  refine (markK_any Ak nk ck base kids (k0 + np) w4 (by omega) (by omega) K4.out).mono ?_
  rintro e w5 ⟨rfl, m5, g5⟩
  have t5 := Touch.of_grown g5
  have M5 := Lib.hid (M4.out.touch t5 (fun g hg h => HN.out g hg h.symm))
  have K5 := Lib.hid m5
  have T5 := Lib.hid (T4.out.trans (t5.mono (fun g h => ⟨_, _, _, _, _, _, _, _, rfl, .inr h.symm⟩)))
  clear m5 g5 t5
  go_wp2
  go_ret
  refine ⟨k0 + np + 2 * nk, by omega, by omega, rfl, ⟨Ap, np, cp, Ak, nk, ck, rfl, hnp, hnk, hsz, ?_, ?_, HN.out⟩, ?_, T5.out⟩
  · show OwnI w5 base Ap np cp (marksI k0 path.length); rw [LP.out]; exact M5.out
  · show OwnK w5 base Ak nk ck (marksK (k0 + path.length) kids.length); rw [LP.out, LK.out]; exact K5.out
  · show k0 + np + 2 * nk = k0 + path.length + 2 * kids.length; rw [LP.out, LK.out]

end Go.Proofs.Ytdhnhgppapkikaa

-- CellsX: What the helpers of the exact laws do at slices of cells.
namespace Go.Proofs.Ytdhnhgppapkikaa
set_option maxRecDepth 20000
set_option linter.unusedVariables false
set_option linter.unusedSimpArgs false
open Go.RowKit

/-- the size of some cells, as the laws count it. -/
def szC : List (Int × List Int) → Nat
  | [] => 0
  | c :: r => 1 + c.2.length + szC r
theorem szC_append (a b : List (Int × List Int)) : szC (a ++ b) = szC a + szC b := by
  induction a with
  | nil => simp [szC]
  | cons x r ih => simp [szC, ih]; omega
theorem szC_take (cs : List (Int × List Int)) (k : Nat) (h : k < cs.length) : szC (cs.take (k + 1)) = szC (cs.take k) + 1 + (cel cs k).2.length := by
  rw [cel_take cs k h, szC_append]; simp [szC]; omega
theorem szC_take_le (cs : List (Int × List Int)) (k : Nat) : szC (cs.take k) ≤ szC cs := by
  conv => rhs; rw [← List.take_append_drop k cs, szC_append]
  omega
theorem szC_len (cs : List (Int × List Int)) : cs.length ≤ szC cs := by
  induction cs with
  | nil => simp
  | cons x r ih => simp [szC]; omega
theorem szC_cel (cs : List (Int × List Int)) (k : Nat) (h : k < cs.length) : 1 + (cel cs k).2.length ≤ szC cs := by
  have h1 := szC_take cs k h
  have h2 := szC_take_le cs (k + 1)
  omega

/-- the cells as the marks from k0 on leave them. -/
def markC (k0 : Int) : List (Int × List Int) → List (Int × List Int)
  | [] => []
  | c :: r => (k0, marks (k0 + 1) c.2.length) :: markC (k0 + 1 + c.2.length) r
theorem markC_append (k0 : Int) (a b : List (Int × List Int)) : markC k0 (a ++ b) = markC k0 a ++ markC (k0 + szC a) b := by
  induction a generalizing k0 with
  | nil => simp [markC, szC]
  | cons x r ih =>
    have e : k0 + 1 + (x.2.length : Int) + (szC r : Int) = k0 + ((1 + x.2.length + szC r : Nat) : Int) := by push_cast; omega
    simp only [List.cons_append, markC, ih, szC, e]
theorem markC_len (k0 : Int) (cs : List (Int × List Int)) : (markC k0 cs).length = cs.length := by
  induction cs generalizing k0 with
  | nil => rfl
  | cons x r ih => simp [markC, ih]
theorem markC_sz (k0 : Int) (cs : List (Int × List Int)) : szC (markC k0 cs) = szC cs := by
  induction cs generalizing k0 with
  | nil => rfl
  | cons x r ih => simp [markC, szC, ih, marks_len]
theorem markC_cel (k0 : Int) (cs : List (Int × List Int)) (k : Nat) (h : k < cs.length) : cel (markC k0 cs) k = (k0 + szC (cs.take k), marks (k0 + szC (cs.take k) + 1) (cel cs k).2.length) := by
  have e : cs = cs.take k ++ cel cs k :: cs.drop (k + 1) := by
    conv => lhs; rw [← List.take_append_drop k cs, List.drop_eq_getElem_cons h]
    unfold cel; rw [List.getElem?_eq_getElem h]; rfl
  have hl : (markC k0 (cs.take k)).length = k := by rw [markC_len]; simp; omega
  conv => lhs; unfold cel; rw [e, markC_append]
  rw [List.getElem?_append_right (by omega), hl]
  simp [markC]
/-- the cells, marked as far as the k-th. -/
def markTo (k0 : Int) (cs : List (Int × List Int)) (k : Nat) : List (Int × List Int) := markC k0 (cs.take k) ++ cs.drop k
theorem markTo_len (k0 : Int) (cs : List (Int × List Int)) (k : Nat) : (markTo k0 cs k).length = cs.length := by
  unfold markTo; rw [List.length_append, markC_len]; simp; omega
theorem markTo_cel (k0 : Int) (cs : List (Int × List Int)) (k : Nat) (h : k < cs.length) : cel (markTo k0 cs k) k = cel cs k := by
  unfold markTo cel
  have hl : (markC k0 (cs.take k)).length = k := by rw [markC_len]; simp; omega
  rw [List.getElem?_append_right (by omega), hl]
  simp
theorem markTo_step (k0 : Int) (cs : List (Int × List Int)) (k : Nat) (h : k < cs.length) : (markTo k0 cs k).set k (k0 + szC (cs.take k), marks (k0 + szC (cs.take k) + 1) (cel cs k).2.length) = markTo k0 cs (k + 1) := by
  unfold markTo
  have hl : (markC k0 (cs.take k)).length = k := by rw [markC_len]; simp; omega
  have hc : cs[k] = cel cs k := by unfold cel; rw [List.getElem?_eq_getElem h]; rfl
  rw [cel_take cs k h, markC_append, List.set_append, if_neg (by omega), hl, List.drop_eq_getElem_cons h, Nat.sub_self, List.set_cons_zero, List.append_assoc]
  rfl
theorem markTo_all (k0 : Int) (cs : List (Int × List Int)) : markTo k0 cs cs.length = markC k0 cs := by
  unfold markTo; simp

theorem szCell_any (m : Int) (A : Option Addr) (n c left : Nat) (w : World) (hn : n ≤ maxLen) (hl : left ≤ 1048576) :
    Calls Try.prog 15 #[.agg #[.int .i64 m, .slice A n c], .int .i64 left] w fun e w' => e = .returned (.int .i64 (if n ≤ left then ((left - n : Nat) : Int) else -1)) ∧ Below w.heap.size w w' := by
  unfold maxLen at hn
  have b0 := Lib.hid ((Below.refl w.heap.size w).alloc (Nat.le_refl _) (.cells #[.int .i64 m, .slice A n c] 45))
  have szb : ∀ W : World, Calls Try.prog 37 #[.slice A n c, .int .i64 left] W fun e w' => e = .returned (.int .i64 (if n ≤ left then ((left - n : Nat) : Int) else -1)) ∧ W = w' := by
    intro W
    by_cases h : n ≤ left
    · rw [if_pos h]
      go_enter Try.func37, Try.ntmps37
      go_wp2
      go_ret
      exact ⟨ret_i64 (by omega), rfl⟩
    · rw [if_neg h]
      go_enter Try.func37, Try.ntmps37
      go_wp2
      go_ret
      exact ⟨rfl, rfl⟩
  have SZ := Lib.hid szb
  clear szb
  go_enter Try.func15, Try.ntmps15
  go_wp2_with fail
  refine (SZ.out _).mono ?_
  rintro e w' ⟨rfl, rfl⟩
  by_cases h : n ≤ left
  · rw [if_pos h]
    go_wp2
    go_ret
    exact ⟨rfl, b0.out⟩
  · rw [if_neg h]
    go_wp2
    go_ret
    exact ⟨rfl, b0.out⟩
theorem szCells_any (A : Option Addr) (n c : Nat) (cs : List (Int × List Int)) (w : World) (hn : n ≤ maxLen) (hm : ∀ i, (cel cs i).2.length ≤ maxLen) (hb : Cells w w.heap.size A n cs) :
    Calls Try.prog 4 #[.slice A n c, .int .i64 1048576] w fun e w' => e = .returned (.int .i64 (leftOf 1048576 (szC cs))) ∧ Below w.heap.size w w' := by
  have hlen : cs.length = n := hb.1
  have HB := Lib.hid hb
  clear hb
  unfold maxLen at hn
  by_cases hbig : 1048576 < n
  · have hr : leftOf 1048576 (szC cs) = -1 := if_neg (by have := szC_len cs; omega)
    rw [hr]
    go_enter Try.func4, Try.ntmps4
    go_wp2
    go_ret
    exact ⟨rfl, Below.refl _ _⟩
  · have hle : n ≤ 1048576 := by omega
    have hwr : IntKind.i64.wrap (1048576 - (n : Int)) = ((1048576 - n : Nat) : Int) := by rw [IntKind.wrap_i64]; omega
    have hd : decide ((((1048576 - n : Nat) : Int)) < 0) = false := decide_eq_false (by omega)
    go_enter Try.func4, Try.ntmps4
    go_wp2
    go_loopw [1, 5] (fun l i wr => ∃ k x : Nat, k ≤ n ∧ i = .int .i64 k ∧ l = .int .i64 x ∧ x + n + szC (cs.take k) = 1048576 + k ∧ Below w.heap.size w wr) (fun _ i _ => n - (intOf i).toNat)
    case atStart => exact ⟨0, 1048576 - n, Nat.zero_le _, rfl, by first | rfl | (simp; omega), by simp [szC]; omega, Below.refl _ _⟩
    case round =>
      obtain ⟨k, x, hk, rfl, rfl, hx, hbel⟩ := hrel
      by_cases hlt : k < n
      · obtain ⟨b, off, Ai, ni, ci, rfl, hbB, h0, h1, _, _, hby⟩ := (HB.out.below hbel).at_ hlt
        have hni : (cel cs k).2.length = ni := hby.1
        have hnm := hm k
        have hst := szC_take cs k (by omega)
        have hall := szC_take_le cs (k + 1)
        generalize (cel cs k).1 = m0 at h0
        have BR := Lib.hid hbel
        clear hbel hby
        go_wp2_with fail
        refine (szCell_any _ _ _ _ x _ (by omega) (by omega)).mono ?_
        rintro e w1 ⟨rfl, b1⟩
        have B1 := Lib.hid (BR.out.trans (b1.mono BR.out.size))
        clear b1 h0 h1
        by_cases hq : ni ≤ x
        · rw [if_pos hq]
          have hd2 : decide ((((x - ni : Nat) : Int)) < 0) = false := decide_eq_false (by omega)
          go_wp2
          go_roundw
          case rel => exact ⟨k + 1, x - ni, by omega, by go_num, rfl, by omega, B1.out⟩
          case measure => simp [intOf]; omega
        · rw [if_neg hq]
          go_wp2
          go_ret
          have hle3 : n ≤ k + 1 + szC (cs.drop (k + 1)) := by have := szC_len (cs.drop (k + 1)); simp at this; omega
          have hsum : szC cs = szC (cs.take (k + 1)) + szC (cs.drop (k + 1)) := by rw [← szC_append, List.take_append_drop]
          exact ⟨by rw [show leftOf 1048576 (szC cs) = -1 from if_neg (by omega)]; rfl, B1.out⟩
      · obtain rfl : k = n := by omega
        have hst : cs.take k = cs := List.take_of_length_le (by omega)
        rw [hst] at hx
        go_wp2
        go_ret
        exact ⟨by rw [show leftOf 1048576 (szC cs) = ((1048576 - szC cs : Nat) : Int) from if_pos (by omega)]; exact ret_i64 (by omega), hbel⟩
end Go.Proofs.Ytdhnhgppapkikaa
