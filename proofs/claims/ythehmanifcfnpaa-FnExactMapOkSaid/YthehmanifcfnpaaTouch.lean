/- Which blocks a call may have touched; what is kept behind it. No statement of the program is proved here. -/
import Derived.Test.YthehmanifcfnpaaKids
namespace Go.Proofs.Ythehmanifcfnpaa
set_option maxRecDepth 20000
open Go.RowKit

/-- of the blocks that were there, only those of which S tells may have turned. -/
structure Touch (S : Nat → Prop) (w w' : World) : Prop where
  os : w'.os = w.os
  tape : w'.tape = w.tape
  output : w'.output = w.output
  size : w.heap.size ≤ w'.heap.size
  block : ∀ k, k < w.heap.size → ¬ S k → w'.heap[k]? = w.heap[k]?
section
variable {S T : Nat → Prop} {w w' w'' : World} {B : Nat}
theorem Touch.trans (h : Touch S w w') (k : Touch S w' w'') : Touch S w w'' :=
  ⟨k.os.trans h.os, k.tape.trans h.tape, k.output.trans h.output, Nat.le_trans h.size k.size, fun i hi hs => (k.block i (Nat.lt_of_lt_of_le hi h.size) hs).trans (h.block i hi hs)⟩
theorem Touch.mono (h : Touch S w w') (hs : ∀ k, S k → T k) : Touch T w w' := ⟨h.os, h.tape, h.output, h.size, fun k hk ht => h.block k hk (fun x => ht (hs k x))⟩
theorem Touch.of_grown {row : Option Nat} (h : w.grownBy w' row) : Touch (fun k => some k = row) w w' := ⟨h.os, h.tape, h.output, h.size, fun k hk hs => h.block k hk hs⟩
theorem Touch.of_below (h : Below w.heap.size w w') : Touch S w w' := ⟨h.os, h.tape, h.output, h.size, fun k hk _ => h.block k hk⟩
theorem Touch.below (h : Touch S w w') (hB : B ≤ w.heap.size) (hs : ∀ k, k < B → ¬ S k) : Below B w w' := ⟨h.os, h.tape, h.output, h.size, fun k hk => h.block k (by omega) (hs k hk)⟩
theorem own_touch {base : Nat} {e : TypeId} {size : Nat} {v : Value} {n : Nat} {xs : List Value} (h : w.ownsRow base e size v n xs) (t : Touch S w w') (hn : ∀ g, v.ownBlock = some g → ¬ S g) : w'.ownsRow base e size v n xs := by
  have hl := h.lt
  refine ⟨h.1, ?_⟩
  rcases h.2 with h | ⟨g, cap, cur, rfl, hb, hg, r⟩
  · exact .inl h
  · exact .inr ⟨g, cap, cur, rfl, hb, (t.block g (hl g rfl).2 (hn g rfl)).trans hg, r⟩
theorem OwnI.touch {base n c : Nat} {A : Option Addr} {xs : List Int} (h : OwnI w base A n c xs) (t : Touch S w w') (hn : ∀ g, (Value.slice A n c).ownBlock = some g → ¬ S g) : OwnI w' base A n c xs := own_touch h t hn
theorem OwnK.touch {base n c : Nat} {A : Option Addr} {xs : List (Int × Int)} (h : OwnK w base A n c xs) (t : Touch S w w') (hn : ∀ g, (Value.slice A n c).ownBlock = some g → ¬ S g) : OwnK w' base A n c xs := own_touch h t hn
theorem Mine.touch {base n c : Nat} {A : Option Addr} {xs : List Int} (h : Mine w base A n c xs) (t : Touch S w w') (hn : ∀ g, (Value.slice A n c).ownBlock = some g → ¬ S g) : Mine w' base A n c xs := ⟨own_touch h.1 t hn, h.2⟩
end
theorem heap3_0 (w : World) (A B C : Obj) : (((w.alloc A).alloc B).alloc C).heap[w.heap.size]? = some A := by rw [heap_alloc_old _ _ (by simp; omega), heap_alloc_old _ _ (by simp), heap_alloc_new]
theorem heap3_1 (w : World) (A B C : Obj) : (((w.alloc A).alloc B).alloc C).heap[w.heap.size + 1]? = some B := by
  have h := heap_alloc_new (w.alloc A) B
  rw [heap_alloc_old _ _ (by simp)]
  simpa using h
theorem heap3_2 (w : World) (A B C : Obj) : (((w.alloc A).alloc B).alloc C).heap[w.heap.size + 1 + 1]? = some C := by
  have h := heap_alloc_new ((w.alloc A).alloc B) C
  simpa using h
theorem size3 (w : World) (A B C : Obj) : (((w.alloc A).alloc B).alloc C).heap.size = w.heap.size + 3 := by simp
theorem below3 (w : World) (A B C : Obj) : Below w.heap.size w (((w.alloc A).alloc B).alloc C) := (((Below.refl _ _).alloc (Nat.le_refl _) _).alloc (by simp) _).alloc (by simp; omega) _
theorem heap2_0 (w : World) (A B : Obj) : ((w.alloc A).alloc B).heap[w.heap.size]? = some A := by rw [heap_alloc_old _ _ (by simp), heap_alloc_new]
theorem heap2_1 (w : World) (A B : Obj) : ((w.alloc A).alloc B).heap[w.heap.size + 1]? = some B := by
  have h := heap_alloc_new (w.alloc A) B
  simpa using h
theorem size2 (w : World) (A B : Obj) : ((w.alloc A).alloc B).heap.size = w.heap.size + 2 := by simp
theorem below2 (w : World) (A B : Obj) : Below w.heap.size w ((w.alloc A).alloc B) := ((Below.refl _ _).alloc (Nat.le_refl _) _).alloc (by simp) _
/-- block g is a box of these cells. -/
def Box (w : World) (g : Nat) (t : TypeId) (cs : Array Value) : Prop := w.heap[g]? = some (.cells cs t (0, 0))
section
variable {w w' : World} {g g' B k : Nat} {t : TypeId} {cs : Array Value}
theorem Box.cell (h : Box w g t cs) (k : Nat) : w.cell? ⟨g, k, none⟩ = cs[k]? := cell_of_row w g k _ _ _ h
theorem Box.free (h : Box w g t cs) (k : Nat) : w.frozen? ⟨g, k, none⟩ = false := frozen_of_row w g k _ _ h
theorem Box.below (h : Box w g t cs) (hb : Below B w w') (hg : g < B) : Box w' g t cs := (hb.block g hg).trans h
theorem Box.set_ (h : Box w g t cs) (k : Nat) (u : Value) : Box (w.setCell ⟨g, k, none⟩ u) g t (cs.setIfInBounds k u) :=
  heap_setCell_same w g k _ _ _ h
theorem Box.other (h : Box w g t cs) (hne : g ≠ g') (k : Nat) (u : Value) : Box (w.setCell ⟨g', k, none⟩ u) g t cs := (heap_setCell_other w ⟨g', k, none⟩ g u hne).trans h
theorem Box.grown {row : Option Nat} (h : Box w g t cs) (hg : w.grownBy w' row) (hne : some g ≠ row) : Box w' g t cs := (hg.block g (Array.getElem?_eq_some_iff.1 h).1 hne).trans h
theorem Box.lt (h : Box w g t cs) : g < w.heap.size := (Array.getElem?_eq_some_iff.1 h).1
end
theorem touch_set {S : Nat → Prop} (w : World) (g k : Nat) (u : Value) (hs : S g) : Touch S w (w.setCell ⟨g, k, none⟩ u) := (Touch.of_grown (grown_set w g k u)).mono fun i hi => by cases hi; exact hs
theorem own_eq {g r n c : Nat} (h : some g = (Value.slice (some ⟨r, 0, none⟩) n c).ownBlock) : g = r := by simpa [Value.ownBlock] using h
theorem results_box2 {P : Program} {fn : Func} {p q : Tmp} {ty : TypeId} (h : fn.results = #[.cell p ty, .tmp q]) (tmps : Array Value) (w : World) (g : Nat) (t : TypeId) (cs : Array Value) (d : TypeDesc) (v : Value)
    (hp : tmps.getD p undef = .pointer (some ⟨g, 0, none⟩)) (hq : tmps.getD q undef = v) (hg : Box w g t cs)
    (hu : P.underlying ty = some d) (hd : (match d with | .struct _ | .array _ _ => true | _ => false) = true) (hi : (P.info? ty).map (·.size) = some cs.size) :
    (results fn tmps).run P w = .ok (.tuple #[.agg cs, v]) w := by
  have hp' : tmps[p]?.getD undef = .pointer (some ⟨g, 0, none⟩) := by simpa using hp
  have hq' : tmps[q]?.getD undef = v := by simpa using hq
  simp [results, h, hp', hq', asAddr, run_loadVar_row w g t ty cs _ d hg hu hd hi]
/-- a box of four cells, written anew. -/
theorem set4 {w : World} {g : Nat} {t : TypeId} {a b c d : Value} (h : Box w g t #[a, b, c, d]) (a' b' c' d' : Value) :
    Box ((((w.setCell ⟨g, 0, none⟩ a').setCell ⟨g, 1, none⟩ b').setCell ⟨g, 2, none⟩ c').setCell ⟨g, 3, none⟩ d') g t #[a', b', c', d'] ∧
      Touch (fun x => x = g) w ((((w.setCell ⟨g, 0, none⟩ a').setCell ⟨g, 1, none⟩ b').setCell ⟨g, 2, none⟩ c').setCell ⟨g, 3, none⟩ d') :=
  ⟨(((h.set_ 0 a').set_ 1 b').set_ 2 c').set_ 3 d', (((touch_set (S := fun x => x = g) w g 0 a' rfl).trans (touch_set _ g 1 b' rfl)).trans (touch_set _ g 2 c' rfl)).trans (touch_set _ g 3 d' rfl)⟩
theorem Touch.one {w w' : World} {r : Nat} (h : Touch (fun x => x = r) w w') : w.grownBy w' (some r) := ⟨h.os, h.tape, h.output, h.size, fun k hk hne => h.block k hk (fun e => hne (by rw [e]))⟩
theorem below_grow {w w' : World} {row : Option Nat} (b : Below w.heap.size w w') : w.grownBy w' row := ⟨b.os, b.tape, b.output, b.size, fun k hk _ => b.block k hk⟩
end Go.Proofs.Ythehmanifcfnpaa
