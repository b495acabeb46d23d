/- A node that is drawn and changed: its box and its two lists, kept apart. -/
import Derived.Test.YtjmlpekaehfeeaaDraw3
import Derived.Deep.RegionLaw
import Derived.Deep.AppendLies
import Derived.BigRegion
import Derived.Deep.RegionHeld3
namespace Go.Proofs.Ytjmlpekaehfeeaa
set_option maxRecDepth 20000
open Go.RowKit

/-- the result's box is as it was made; the node in hand lies in block g1, its lists in blocks of their own. -/
structure Held (w W : World) (B g g1 : Nat) (cs : Array Value) (Ap : Option Addr) (np cp : Nat) (path : List Int) (Ak : Option Addr) (nk ck : Nat) (kids : List (Int × Int)) : Prop where
  x : Box W w.heap.size 40 #[.int .i64 0, .slice none 0 0, .slice none 0 0, .string { data := #[] }]
  n : Box W g1 40 cs
  lt : w.heap.size < g1
  hg : g < w.heap.size
  p : OwnI W (w.heap.size + 1) Ap np cp path
  k : OwnK W (w.heap.size + 1) Ak nk ck kids
  d : ∀ x, (Value.slice Ap np cp).ownBlock = some x → (Value.slice Ak nk ck).ownBlock ≠ some x
  dp : ∀ x, (Value.slice Ap np cp).ownBlock = some x → x ≠ g1
  dk : ∀ x, (Value.slice Ak nk ck).ownBlock = some x → x ≠ g1
  c : Cur W B g
  o : w.grownBy W (some g)
section
variable {w W W' : World} {B g g1 : Nat} {cs : Array Value} {Ap : Option Addr} {np cp : Nat} {path : List Int} {Ak : Option Addr} {nk ck : Nat} {kids : List (Int × Int)}
theorem Held.step (h : Held w W B g g1 cs Ap np cp path Ak nk ck kids) (c' : Cur W' B g) (g' : W.grownBy W' (some g)) : Held w W' B g g1 cs Ap np cp path Ak nk ck kids := by
  have h1 := h.hg
  have h2 := h.lt
  exact ⟨h.x.grown g' (by intro e; cases e; omega), h.n.grown g' (by intro e; cases e; omega), h.lt, h.hg, h.p.grown g' (fun r e => by cases e; omega), h.k.grown g' (fun r e => by cases e; omega), h.d, h.dp, h.dk, c', h.o.trans g'⟩
/-- blocks from w.heap.size + 1 on were touched; what the node is now. -/
theorem Held.upd {S : Nat → Prop} {cs' : Array Value} {Ap' : Option Addr} {np' cp' : Nat} {path' : List Int} {Ak' : Option Addr} {nk' ck' : Nat} {kids' : List (Int × Int)} (h : Held w W B g g1 cs Ap np cp path Ak nk ck kids) (t : Touch S W W') (h1 : ∀ k, S k → w.heap.size + 1 ≤ k)
    (n' : Box W' g1 40 cs') (p' : OwnI W' (w.heap.size + 1) Ap' np' cp' path') (k' : OwnK W' (w.heap.size + 1) Ak' nk' ck' kids')
    (d' : ∀ x, (Value.slice Ap' np' cp').ownBlock = some x → (Value.slice Ak' nk' ck').ownBlock ≠ some x) (dp' : ∀ x, (Value.slice Ap' np' cp').ownBlock = some x → x ≠ g1) (dk' : ∀ x, (Value.slice Ak' nk' ck').ownBlock = some x → x ≠ g1) :
    Held w W' B g g1 cs' Ap' np' cp' path' Ak' nk' ck' kids' := by
  have e1 := h.hg
  have e2 := h.lt
  have e3 := h.c.ge
  have e4 := h.c.lt
  have e5 := h.o.size
  refine ⟨(t.block _ h.x.lt (fun e => by have := h1 _ e; omega)).trans h.x, n', h.lt, h.hg, p', k', d', dp', dk', ?_, ⟨t.os.trans h.o.os, t.tape.trans h.o.tape, t.output.trans h.o.output, by have := t.size; omega, fun k hk hne => (t.block k (by omega) (fun e => by have := h1 k e; omega)).trans (h.o.block k hk hne)⟩⟩
  obtain ⟨A, n, c, i, y, zs, c1, c2, c3, c4, c5, c6⟩ := h.c
  exact ⟨A, n, c, i, y, zs, c1, (t.block g e4 (fun e => by have := h1 _ e; omega)).trans c2, c3, c4, c5, c6.below (t.below (by omega) (fun k hk e => by have := h1 k e; omega))⟩
theorem Held.setN (h : Held w W B g g1 cs Ap np cp path Ak nk ck kids) (j : Nat) (u : Value) : Held w (W.setCell ⟨g1, j, none⟩ u) B g g1 (cs.setIfInBounds j u) Ap np cp path Ak nk ck kids := by
  have e2 := h.lt
  have t := touch_set (S := fun x => x = g1) W g1 j u rfl
  exact h.upd t (fun k e => by omega) (h.n.set_ j u) (h.p.touch t h.dp) (h.k.touch t h.dk) h.d h.dp h.dk
/-- another list of numbers, of the call's own since then, in place of the node's. -/
theorem Held.newP {A' : Option Addr} {n' c' : Nat} {path' : List Int} {base : Nat} (h : Held w W B g g1 cs Ap np cp path Ak nk ck kids) (p' : OwnI W base A' n' c' path') (hb : g1 < base) (hb' : ∀ x, (Value.slice Ak nk ck).ownBlock = some x → x < base) :
    Held w W B g g1 cs A' n' c' path' Ak nk ck kids := by
  have e2 := h.lt
  have q : ∀ x, (Value.slice A' n' c').ownBlock = some x → base ≤ x := fun x hx => (World.ownsRow.lt p' x hx).1
  exact ⟨h.x, h.n, h.lt, h.hg, p'.base (by omega), h.k, fun x hx e => by have := q x hx; have := hb' x e; omega, fun x hx => by have := q x hx; omega, h.dk, h.c, h.o⟩
theorem Held.newK {A' : Option Addr} {n' c' : Nat} {kids' : List (Int × Int)} {base : Nat} (h : Held w W B g g1 cs Ap np cp path Ak nk ck kids) (k' : OwnK W base A' n' c' kids') (hb : g1 < base) (hb' : ∀ x, (Value.slice Ap np cp).ownBlock = some x → x < base) :
    Held w W B g g1 cs Ap np cp path A' n' c' kids' := by
  have e2 := h.lt
  have q : ∀ x, (Value.slice A' n' c').ownBlock = some x → base ≤ x := fun x hx => (World.ownsRow.lt k' x hx).1
  exact ⟨h.x, h.n, h.lt, h.hg, h.p, k'.base (by omega), fun x hx e => by have := q x e; have := hb' x hx; omega, h.dp, fun x hx => by have := q x hx; omega, h.c, h.o⟩
theorem Held.drew (h : Held w W B g g1 cs Ap np cp path Ak nk ck kids) : Held w W.drew B g g1 cs Ap np cp path Ak nk ck kids := by
  have t : Touch (fun _ => False) W W.drew := Touch.of_below ((Below.refl _ _).drew)
  exact h.upd t (fun _ e => e.elim) h.n (h.p.touch t (fun _ _ e => e)) (h.k.touch t (fun _ _ e => e)) h.d h.dp h.dk
/-- what an append to the kids leaves. -/
theorem Held.grownK {o : Obj} {r' c' m : Nat} {ks : List (Int × Int)} (h : Held w W B g g1 cs Ap np cp path Ak nk ck kids)
    (hown : W'.ownsRow (w.heap.size + 1) 79 2 (.slice (some ⟨r', 0, none⟩) m c') m ((kv kids).map (Value.int .i64) ++ (kv ks).map (Value.int .i64))) (hgrow : (W.alloc o).grownBy W' (Value.slice Ak nk ck).ownBlock)
    (hw : (Value.slice Ak nk ck).ownBlock = some r' ∨ r' = (W.alloc o).heap.size) : Held w W' B g g1 cs Ap np cp path (some ⟨r', 0, none⟩) m c' (kids ++ ks) := by
  have e1 := h.hg
  have e2 := h.lt
  have e3 := h.n.lt
  have q : ∀ x, (Value.slice Ak nk ck).ownBlock = some x → w.heap.size + 1 ≤ x ∧ x < W.heap.size := fun x hx => World.ownsRow.lt h.k x hx
  have qp : ∀ x, (Value.slice Ap np cp).ownBlock = some x → w.heap.size + 1 ≤ x ∧ x < W.heap.size := fun x hx => World.ownsRow.lt h.p x hx
  have t : Touch (fun k => some k = (Value.slice Ak nk ck).ownBlock) W W' := (Touch.of_below ((Below.refl _ _).alloc (Nat.le_refl _) _)).trans (Touch.of_grown hgrow)
  have hs : (W.alloc o).heap.size = W.heap.size + 1 := by simp
  refine h.upd t (fun k e => (q k e.symm).1) ((t.block g1 e3 (fun e => h.dk g1 e.symm rfl)).trans h.n) (h.p.touch t (fun x hx e => h.d x hx e.symm)) ?_ ?_ h.dp ?_
  · unfold OwnK
    rw [kv_append, List.map_append]
    exact hown
  · intro x hx e
    have := own_eq e.symm
    subst this
    rcases hw with hw | hw
    · exact h.d _ hx hw
    · have := qp _ hx; omega
  · intro x hx e
    have := own_eq hx.symm
    subst this
    rcases hw with hw | hw
    · exact h.dk _ hw e
    · omega
/-- the node is written into the result's box. -/
theorem Held.fin {kind : Int} {val : ByteArray} (h : Held w W B g g1 #[.int .i64 kind, .slice Ap np cp, .slice Ak nk ck, .string val] Ap np cp path Ak nk ck kids) (h1 : np ≤ 1048576) (h2 : nk ≤ 1048576) (h3 : val.size ≤ 1048576) :
    Box ((((W.setCell ⟨w.heap.size, 0, none⟩ (.int .i64 kind)).setCell ⟨w.heap.size, 1, none⟩ (.slice Ap np cp)).setCell ⟨w.heap.size, 2, none⟩ (.slice Ak nk ck)).setCell ⟨w.heap.size, 3, none⟩ (.string val)) w.heap.size 40 #[.int .i64 kind, .slice Ap np cp, .slice Ak nk ck, .string val] ∧
    OwnN ((((W.setCell ⟨w.heap.size, 0, none⟩ (.int .i64 kind)).setCell ⟨w.heap.size, 1, none⟩ (.slice Ap np cp)).setCell ⟨w.heap.size, 2, none⟩ (.slice Ak nk ck)).setCell ⟨w.heap.size, 3, none⟩ (.string val)) w.heap.size (.agg #[.int .i64 kind, .slice Ap np cp, .slice Ak nk ck, .string val]) ⟨kind, path, kids, val⟩ ∧
    Cur ((((W.setCell ⟨w.heap.size, 0, none⟩ (.int .i64 kind)).setCell ⟨w.heap.size, 1, none⟩ (.slice Ap np cp)).setCell ⟨w.heap.size, 2, none⟩ (.slice Ak nk ck)).setCell ⟨w.heap.size, 3, none⟩ (.string val)) B g ∧
    w.grownBy ((((W.setCell ⟨w.heap.size, 0, none⟩ (.int .i64 kind)).setCell ⟨w.heap.size, 1, none⟩ (.slice Ap np cp)).setCell ⟨w.heap.size, 2, none⟩ (.slice Ak nk ck)).setCell ⟨w.heap.size, 3, none⟩ (.string val)) (some g) := by
  obtain ⟨hX, hb⟩ := set4 h.x (.int .i64 kind) (.slice Ap np cp) (.slice Ak nk ck) (.string val)
  obtain ⟨c5, g5⟩ := drawn_end h.hg h.c h.o hb
  exact ⟨hX, ⟨Ap, np, cp, Ak, nk, ck, rfl, h1, h2, h3, (h.p.touch hb (fun x hx e => by have := (World.ownsRow.lt h.p x hx).1; omega)).base (by omega), (h.k.touch hb (fun x hx e => by have := (World.ownsRow.lt h.k x hx).1; omega)).base (by omega), h.d⟩, c5, g5⟩
end
/-- a node in hand whose kids' list lies in block gk. -/
def HeldK (w W : World) (B g g1 gk : Nat) (cs : Array Value) (Ap : Option Addr) (np cp : Nat) (path : List Int) (nk ck : Nat) : Prop :=
  ∃ ks : List (Int × Int), (∀ k ∈ ks, k.2 ≤ 9223372036854775807) ∧ Held w W B g g1 cs Ap np cp path (some ⟨gk, 0, none⟩) nk ck ks
/-- what a cell holds, if it is one. -/
def cellAt (W : World) (a : Addr) : Value := (W.cell? a).getD undef
section
variable {w W W' : World} {B g g1 gk : Nat} {cs : Array Value} {Ap : Option Addr} {np cp : Nat} {path : List Int} {nk ck : Nat}
theorem HeldK.c (h : HeldK w W B g g1 gk cs Ap np cp path nk ck) : Cur W B g := by obtain ⟨_, _, h⟩ := h; exact h.c
theorem HeldK.step (h : HeldK w W B g g1 gk cs Ap np cp path nk ck) (c' : Cur W' B g) (g' : W.grownBy W' (some g)) : HeldK w W' B g g1 gk cs Ap np cp path nk ck := by obtain ⟨ks, a, h⟩ := h; exact ⟨ks, a, h.step c' g'⟩
theorem HeldK.drew (h : HeldK w W B g g1 gk cs Ap np cp path nk ck) : HeldK w W.drew B g g1 gk cs Ap np cp path nk ck := by obtain ⟨ks, a, h⟩ := h; exact ⟨ks, a, h.drew⟩
theorem HeldK.cell2 {a b d : Value} {u : Value} (h : HeldK w W B g g1 gk #[a, b, u, d] Ap np cp path nk ck) : W.cell? ⟨g1, 2, none⟩ = some u := by obtain ⟨_, _, h⟩ := h; have := h.n.cell 2; simpa using this
theorem HeldK.name (h : HeldK w W B g g1 gk cs Ap np cp path nk ck) (hn : 0 < nk) : W.cell? ⟨gk, 1, none⟩ = some (cellAt W ⟨gk, 1, none⟩) := by
  obtain ⟨_, _, h⟩ := h
  have := h.k.cell1 (k := 0) hn
  rw [Nat.zero_mul, Nat.zero_add] at this
  unfold cellAt
  rw [this]
  rfl
theorem HeldK.free (h : HeldK w W B g g1 gk cs Ap np cp path nk ck) (k : Nat) : W.frozen? ⟨gk, k, none⟩ = false := by obtain ⟨_, _, h⟩ := h; exact h.k.free k
theorem HeldK.store (h : HeldK w W B g g1 gk cs Ap np cp path nk ck) (z : Int) (hz : z ≤ 1) : HeldK w (W.setCell ⟨gk, 1, none⟩ (.int .i64 z)) B g g1 gk cs Ap np cp path nk ck := by
  obtain ⟨ks, a, h⟩ := h
  obtain ⟨k1, _⟩ := h.k.set1 0 z
  have t := touch_set (S := fun x => x = gk) W gk 1 (.int .i64 z) rfl
  have q := h.dk gk rfl
  have ql := (World.ownsRow.lt h.k gk rfl).1
  refine ⟨_, fun k hk => ?_, h.upd t (fun k e => by omega) ((t.block g1 h.n.lt (fun e => q e.symm)).trans h.n) (h.p.touch t (fun x hx e => h.d x hx (by rw [e]; rfl))) k1 h.d h.dp h.dk⟩
  rcases List.mem_or_eq_of_mem_set hk with hk | rfl
  · exact a k hk
  · show z ≤ _
    omega
end
theorem ownK_cap {w : World} {base n c : Nat} {A : Option Addr} {ks : List (Int × Int)} (h : OwnK w base A n c ks) : n ≤ c := by
  rcases h.2 with ⟨e, rfl⟩ | ⟨g, cap, cur, e, _, _, hc, _⟩
  · omega
  · cases e; exact hc
set_option maxHeartbeats 1600000 in
theorem l3DrawAny_any (w : World) (B g : Nat) (hc : Cur w B g) :
    Calls Try.prog 60 #[.pointer (some ⟨g, 0, none⟩)] w (NodeDrawnAny w B g) := by
  have hlt := hc.lt
  have HC := Lib.hid hc
  clear hc
  go_enter Try.func60, Try.ntmps60
  go_wp2_with fail
  refine (l3Draw_any _ B g (HC.out.grown (World.grownBy_alloc w _ none) (fun r h => by cases h))).mono ?_
  rintro e w1 ⟨v, nd, rfl, ⟨Ap, np, cp, Ak, nk, ck, rfl, _, _, _, p1, k1, d1⟩, wf, hp8, hk2, hv5, c1, g1⟩
  have x1 := Box.grown (t := 40) (heap_alloc_new w _) g1 (by intro e; cases e; omega)
  have o1 := (World.grownBy_alloc w _ (some g)).trans g1
  have ep := p1.len
  have ek := k1.len
  obtain ⟨kind, path, kids, val⟩ := nd
  simp only at p1 k1 wf hp8 hk2 hv5 ep ek
  have l1 := x1.lt
  have hs1 : (w.alloc (.cells #[.int .i64 0, .slice none 0 0, .slice none 0 0, .string { data := #[] }] 40)).heap.size = w.heap.size + 1 := by simp
  have h2 : Held w (w1.alloc (.cells #[.int .i64 kind, .slice Ap np cp, .slice Ak nk ck, .string val] 40)) B g w1.heap.size _ Ap np cp path Ak nk ck kids :=
    ⟨(heap_alloc_old _ _ l1).trans x1, heap_alloc_new _ _, l1, hlt, (p1.base (by omega)).below ((Below.refl _ _).alloc (Nat.le_refl _) _), (k1.base (by omega)).below ((Below.refl _ _).alloc (Nat.le_refl _) _), d1,
     fun x hx => by have := (World.ownsRow.lt p1 x hx).2; omega, fun x hx => by have := (World.ownsRow.lt k1 x hx).2; omega, c1.grown (World.grownBy_alloc w1 _ none) (fun r h => by cases h), o1.trans (World.grownBy_alloc w1 _ (some g))⟩
  have H2 := Lib.hid h2
  clear h2 x1 o1 p1 k1 d1 c1 g1 HC hs1
  go_wp2_with fail
  generalize (w1.alloc (.cells #[.int .i64 kind, .slice Ap np cp, .slice Ak nk ck, .string val] 40)) = w2 at H2 ⊢
  generalize w1.heap.size = g1 at H2 l1 ⊢
  refine (once_any _ B g 4 (by omega) (by omega) H2.out.c).mono ?_
  rintro e w3 ⟨b, rfl, c3, o3⟩
  have H3 := Lib.hid (H2.out.step c3 o3)
  clear c3 o3 H2
  have hge := H3.out.c.ge
  cases b
  · have q10 := H3.out.x.cell 0
    have q11 := H3.out.x.cell 1
    have q12 := H3.out.x.cell 2
    have q13 := H3.out.x.cell 3
    have q20 := H3.out.n.cell 0
    have q21 := H3.out.n.cell 1
    have q22 := H3.out.n.cell 2
    have q23 := H3.out.n.cell 3
    have f1 := H3.out.x.free
    have f2 := H3.out.n.free
    simp at q10 q11 q12 q13 q20 q21 q22 q23
    go_wp2
    obtain ⟨hX, hN, c9, g9⟩ := H3.out.fin (by omega) (by omega) (by omega)
    refine bodyPost_ret (v := .agg #[.int .i64 kind, .slice Ap np cp, .slice Ak nk ck, .string val]) (results_cell_row Try.results60 _ _ w.heap.size _ _ _ _ rfl hX Try.underlying40 rfl (by kernel_rfl)) rfl ?_
    exact ⟨_, ⟨kind, path, kids, val⟩, rfl, hN, wf, by simp only; omega, by simp only; omega, by simp only; omega, c9, g9⟩
  go_wp2_with fail
  refine (below_any _ B g 6 (by omega) (by omega) H3.out.c).mono ?_
  rintro e w4 ⟨r, hr0, hr1, rfl, c4, o4⟩
  have H4 := Lib.hid (H3.out.step c4 o4)
  clear c4 o4 H3
  have l4 := H4.out.n.lt
  obtain ⟨j, rfl⟩ : ∃ j : Nat, r = j := ⟨r.toNat, by omega⟩
  rcases (show j = 0 ∨ j = 1 ∨ j = 2 ∨ j = 3 ∨ j = 4 ∨ j = 5 by omega) with rfl | rfl | rfl | rfl | rfl | rfl
  · go_wp2_with fail
    refine (from_any _ B g 0 4 (by omega) (by omega) (by omega) (by omega) H4.out.c).mono ?_
    rintro e w5 ⟨z, hz0, hz1, rfl, c5, o5⟩
    have H5 := Lib.hid (H4.out.step c5 o5)
    clear c5 o5 H4
    have q10 := H5.out.x.cell 0
    have q11 := H5.out.x.cell 1
    have q12 := H5.out.x.cell 2
    have q13 := H5.out.x.cell 3
    have q20 := H5.out.n.cell 0
    have q21 := H5.out.n.cell 1
    have q22 := H5.out.n.cell 2
    have q23 := H5.out.n.cell 3
    have f1 := H5.out.x.free
    have f2 := H5.out.n.free
    simp at q10 q11 q12 q13 q20 q21 q22 q23
    go_wp2
    have H6 : Hid (Held w _ B g g1 #[.int .i64 z, .slice Ap np cp, .slice Ak nk ck, .string val] Ap np cp path Ak nk ck kids) := Lib.hid (H5.out.setN 0 (.int .i64 z))
    generalize w5.setCell ⟨g1, 0, none⟩ (.int .i64 z) = w6 at H6 ⊢
    obtain ⟨hX, hN, c9, g9⟩ := H6.out.fin (by omega) (by omega) (by omega)
    refine bodyPost_ret (v := .agg #[.int .i64 z, .slice Ap np cp, .slice Ak nk ck, .string val]) (results_cell_row Try.results60 _ _ w.heap.size _ _ _ _ rfl hX Try.underlying40 rfl (by kernel_rfl)) rfl ?_
    exact ⟨_, ⟨z, path, kids, val⟩, rfl, hN, wf, by simp only; omega, by simp only; omega, by simp only; omega, c9, g9⟩
  · go_wp2_with fail
    refine (l2DrawPath_any _ B g H4.out.c).mono ?_
    rintro e w5 ⟨r5, n5, c5', xs, hn5, rfl, p5, c5, o5⟩
    have e5 := p5.len
    have H5 := Lib.hid (H4.out.step c5 o5)
    have P5 := Lib.hid p5
    have hK : ∀ x, (Value.slice Ak nk ck).ownBlock = some x → x < w4.heap.size := fun x hx => (World.ownsRow.lt H4.out.k x hx).2
    have HK := Lib.hid hK
    clear c5 o5 p5 hK
    have q10 := H5.out.x.cell 0
    have q11 := H5.out.x.cell 1
    have q12 := H5.out.x.cell 2
    have q13 := H5.out.x.cell 3
    have q20 := H5.out.n.cell 0
    have q21 := H5.out.n.cell 1
    have q22 := H5.out.n.cell 2
    have q23 := H5.out.n.cell 3
    have f1 := H5.out.x.free
    have f2 := H5.out.n.free
    simp at q10 q11 q12 q13 q20 q21 q22 q23
    go_wp2
    have H6 : Hid (Held w _ B g g1 #[.int .i64 kind, .slice (some ⟨r5, 0, none⟩) n5 c5', .slice Ak nk ck, .string val] (some ⟨r5, 0, none⟩) n5 c5' xs Ak nk ck kids) := Lib.hid ((H5.out.newP P5.out l4 HK.out).setN 1 (.slice (some ⟨r5, 0, none⟩) n5 c5'))
    generalize w5.setCell ⟨g1, 1, none⟩ (.slice (some ⟨r5, 0, none⟩) n5 c5') = w6 at H6 ⊢
    obtain ⟨hX, hN, c9, g9⟩ := H6.out.fin (by omega) (by omega) (by omega)
    refine bodyPost_ret (v := .agg #[.int .i64 kind, .slice (some ⟨r5, 0, none⟩) n5 c5', .slice Ak nk ck, .string val]) (results_cell_row Try.results60 _ _ w.heap.size _ _ _ _ rfl hX Try.underlying40 rfl (by kernel_rfl)) rfl ?_
    exact ⟨_, ⟨kind, xs, kids, val⟩, rfl, hN, wf, by simp only; omega, by simp only; omega, by simp only; omega, c9, g9⟩
  · go_wp2_with fail
    refine (below_any _ B g 4 (by omega) (by omega) (H4.out.c.grown (World.grownBy_alloc w4 _ none) (fun r h => by cases h))).mono ?_
    rintro e w5 ⟨r, hr0, hr1, rfl, c5, o5⟩
    have hblk := o5.block w4.heap.size (by simp) (by intro e; cases e; have := H4.out.hg; have := H4.out.lt; omega)
    rw [heap_alloc_new] at hblk
    obtain ⟨k, rfl⟩ : ∃ k : Nat, r = k := ⟨r.toNat, by omega⟩
    obtain ⟨z, hz5, hz⟩ := str_cell (xs := [⟨#[]⟩, ⟨#[65]⟩, ⟨#[97, 98, 99, 100, 101, 102, 103, 104, 105, 106, 107, 108]⟩, ⟨#[97, 98, 99, 100, 101, 102, 103, 104, 105, 106, 107, 108, 109]⟩]) hblk 13 (by decide) k (by simp; omega)
    have H5 := Lib.hid (H4.out.step c5 ((World.grownBy_alloc w4 _ (some g)).trans o5))
    clear c5 o5 hblk H4
    have q10 := H5.out.x.cell 0
    have q11 := H5.out.x.cell 1
    have q12 := H5.out.x.cell 2
    have q13 := H5.out.x.cell 3
    have q20 := H5.out.n.cell 0
    have q21 := H5.out.n.cell 1
    have q22 := H5.out.n.cell 2
    have q23 := H5.out.n.cell 3
    have f1 := H5.out.x.free
    have f2 := H5.out.n.free
    simp at q10 q11 q12 q13 q20 q21 q22 q23
    go_wp2
    have H6 : Hid (Held w _ B g g1 #[.int .i64 kind, .slice Ap np cp, .slice Ak nk ck, .string z] Ap np cp path Ak nk ck kids) := Lib.hid (H5.out.setN 3 (.string z))
    generalize w5.setCell ⟨g1, 3, none⟩ (.string z) = w6 at H6 ⊢
    obtain ⟨hX, hN, c9, g9⟩ := H6.out.fin (by omega) (by omega) (by omega)
    refine bodyPost_ret (v := .agg #[.int .i64 kind, .slice Ap np cp, .slice Ak nk ck, .string z]) (results_cell_row Try.results60 _ _ w.heap.size _ _ _ _ rfl hX Try.underlying40 rfl (by kernel_rfl)) rfl ?_
    exact ⟨_, ⟨kind, path, kids, z⟩, rfl, hN, wf, by simp only; omega, by simp only; omega, by simp only; omega, c9, g9⟩
  · have q10 := H4.out.x.cell 0
    have q11 := H4.out.x.cell 1
    have q12 := H4.out.x.cell 2
    have q13 := H4.out.x.cell 3
    have q20 := H4.out.n.cell 0
    have q21 := H4.out.n.cell 1
    have q22 := H4.out.n.cell 2
    have q23 := H4.out.n.cell 3
    have f1 := H4.out.x.free
    have f2 := H4.out.n.free
    simp at q10 q11 q12 q13 q20 q21 q22 q23
    obtain ⟨iK, hki, hk0, hk1, hk2'⟩ := info_parts Try.infoK
    go_wp2
    go_region_law (first
      | (refine step_append_lies _ rfl _ _ 38 rfl (w.heap.size + 1) 79 iK (.agg #[.int .i64 0, .int .i64 0]) 2 16 Try.underlying38 hki hk0 hk1 hk2' rfl (by decide) (.slice Ak nk ck) nk ((kv kids).map (Value.int .i64)) (by simp [Act.eval]) (h5.k.below ((Below.refl _ _).alloc (Nat.le_refl _) _)) ⟨w5.heap.size, 0, none⟩ 1 1 ([z, 5].map (Value.int .i64)) (by simp [Act.eval]) rfl (by
              intro j u hj
              match j, hj with
              | 0, hj => simp at hj; subst hj; simp [Addr.add]
              | 1, hj => simp at hj; subst hj; simp [Addr.add]) (by intro u hu; simp at hu; rcases hu with rfl | rfl <;> rfl) (by omega) (by unfold maxLen; omega) (by omega) (by have := h5.x.lt; simp; omega) _ rfl ?_
         intro g6 c6 w6 hown6 hgrow6 hwh6 _
         have h6 := h5.grownK (ks := [(z, 5)]) hown6 hgrow6 hwh6
         have q6 := h6.n.cell 2
         have f6 := h6.n.free 2
         simp at q6)
      | (go_simp
         refine (from_any _ B g (-1) 16 (by omega) (by omega) (by omega) (by omega) H4.out.drew.c).mono ?_
         rintro e w5 ⟨z, hz0, hz1, rfl, c5, o5⟩
         have h5 := H4.out.drew.step c5 o5
         have l5 := h5.n.lt
         have q5 := h5.n.cell 2
         simp at q5))
    all_goals
      have H6 := Lib.hid h6
      have hne := h6.lt
      clear q10 q11 q12 q13 q20 q21 q22 q23 f1 f2 q5 q6 f6 h6 hown6 hgrow6 hwh6
      have q10 := H6.out.x.cell 0
      have q11 := H6.out.x.cell 1
      have q12 := H6.out.x.cell 2
      have q13 := H6.out.x.cell 3
      have q20 := H6.out.n.cell 0
      have q21 := H6.out.n.cell 1
      have q22 := H6.out.n.cell 2
      have q23 := H6.out.n.cell 3
      have f1 := H6.out.x.free
      have f2 := H6.out.n.free
      simp at q10 q11 q12 q13 q20 q21 q22 q23
      go_wp2
      have H7 : Hid (Held w _ B g g1 #[.int .i64 kind, .slice Ap np cp, .slice (some ⟨g6, 0, none⟩) (nk + 1) c6, .string val] Ap np cp path (some ⟨g6, 0, none⟩) (nk + 1) c6 (kids ++ [(z, 5)])) := Lib.hid (H6.out.setN 2 (.slice (some ⟨g6, 0, none⟩) (nk + 1) c6))
      generalize w6.setCell ⟨g1, 2, none⟩ (.slice (some ⟨g6, 0, none⟩) (nk + 1) c6) = w7 at H7 ⊢
      obtain ⟨hX, hN, c9, g9⟩ := H7.out.fin (by omega) (by omega) (by omega)
      refine bodyPost_ret (v := .agg #[.int .i64 kind, .slice Ap np cp, .slice (some ⟨g6, 0, none⟩) (nk + 1) c6, .string val]) (results_cell_row Try.results60 _ _ w.heap.size _ _ _ _ rfl hX Try.underlying40 rfl (by kernel_rfl)) rfl ?_
      exact ⟨_, ⟨kind, path, (kids ++ [(z, 5)]), val⟩, rfl, hN, fun k hk => (List.mem_append.1 hk).elim (fun h => wf k h) (fun h => by simp at h; subst h; simp), by simp only; omega, by simp; omega, by simp only; omega, c9, g9⟩
  · have hcap : nk ≤ ck := ownK_cap H4.out.k
    obtain ⟨w5, hw5⟩ : ∃ w5, w4.alloc (.cells #[] 79) = w5 := ⟨_, rfl⟩
    have k5 : OwnK w5 w4.heap.size (some ⟨w4.heap.size, 0, none⟩) 0 0 [] := hw5 ▸ OwnK.of_alloc w4 w4.heap.size [] 0 (Nat.le_refl _) rfl (by unfold maxLen; omega)
    have h5 : Held w w5 B g g1 _ Ap np cp path Ak nk ck kids := hw5 ▸ H4.out.step (H4.out.c.grown (World.grownBy_alloc w4 (.cells #[] 79) none) (fun r h => by cases h)) (World.grownBy_alloc w4 _ (some g))
    have H5 := Lib.hid h5
    have K5 := Lib.hid k5
    have hP : Hid (∀ x, (Value.slice Ap np cp).ownBlock = some x → x < w4.heap.size) := fun x hx => (World.ownsRow.lt H4.out.p x hx).2
    have hq22 := H4.out.n.cell 2
    have s5 : w5.heap.size = w4.heap.size + 1 := by rw [← hw5]; simp
    clear h5 k5
    have q10 := H5.out.x.cell 0
    have q11 := H5.out.x.cell 1
    have q12 := H5.out.x.cell 2
    have q13 := H5.out.x.cell 3
    have q20 := H5.out.n.cell 0
    have q21 := H5.out.n.cell 1
    have q22 := H5.out.n.cell 2
    have q23 := H5.out.n.cell 3
    have f1 := H5.out.x.free
    have f2 := H5.out.n.free
    simp at q10 q11 q12 q13 q20 q21 q22 q23
    simp at hq22
    have hsm : nk = 0 ∨ nk = 1 ∨ nk = 2 := by omega
    rcases hsm with rfl | rfl | rfl
    · rcases Ak with _ | ad
      · go_wp2
        have H6 : Hid (Held w _ B g g1 #[.int .i64 kind, .slice Ap np cp, .slice (some ⟨w4.heap.size, 0, none⟩) 0 0, .string val] Ap np cp path (some ⟨w4.heap.size, 0, none⟩) 0 0 []) := Lib.hid ((H5.out.newK K5.out l4 hP.out).setN 2 (.slice (some ⟨w4.heap.size, 0, none⟩) 0 0))
        generalize w5.setCell ⟨g1, 2, none⟩ (.slice (some ⟨w4.heap.size, 0, none⟩) 0 0) = w6 at H6 ⊢
        obtain ⟨hX, hN, c9, g9⟩ := H6.out.fin (by omega) (by omega) (by omega)
        refine bodyPost_ret (v := .agg #[.int .i64 kind, .slice Ap np cp, .slice (some ⟨w4.heap.size, 0, none⟩) 0 0, .string val]) (results_cell_row Try.results60 _ _ w.heap.size _ _ _ _ rfl hX Try.underlying40 rfl (by kernel_rfl)) rfl ?_
        exact ⟨_, ⟨kind, path, [], val⟩, rfl, hN, fun k hk => by simp at hk, by simp only; omega, by simp, by simp only; omega, c9, g9⟩
      · go_wp2
        have H6 : Hid (Held w _ B g g1 #[.int .i64 kind, .slice Ap np cp, .slice (some ⟨w4.heap.size, 0, none⟩) 0 0, .string val] Ap np cp path (some ⟨w4.heap.size, 0, none⟩) 0 0 []) := Lib.hid ((H5.out.newK K5.out l4 hP.out).setN 2 (.slice (some ⟨w4.heap.size, 0, none⟩) 0 0))
        generalize w5.setCell ⟨g1, 2, none⟩ (.slice (some ⟨w4.heap.size, 0, none⟩) 0 0) = w6 at H6 ⊢
        obtain ⟨hX, hN, c9, g9⟩ := H6.out.fin (by omega) (by omega) (by omega)
        refine bodyPost_ret (v := .agg #[.int .i64 kind, .slice Ap np cp, .slice (some ⟨w4.heap.size, 0, none⟩) 0 0, .string val]) (results_cell_row Try.results60 _ _ w.heap.size _ _ _ _ rfl hX Try.underlying40 rfl (by kernel_rfl)) rfl ?_
        exact ⟨_, ⟨kind, path, [], val⟩, rfl, hN, fun k hk => by simp at hk, by simp only; omega, by simp, by simp only; omega, c9, g9⟩
    · rcases Ak with _ | ad
      · go_wp2
        have H6 : Hid (Held w _ B g g1 #[.int .i64 kind, .slice Ap np cp, .slice (some ⟨w4.heap.size, 0, none⟩) 0 0, .string val] Ap np cp path (some ⟨w4.heap.size, 0, none⟩) 0 0 []) := Lib.hid ((H5.out.newK K5.out l4 hP.out).setN 2 (.slice (some ⟨w4.heap.size, 0, none⟩) 0 0))
        generalize w5.setCell ⟨g1, 2, none⟩ (.slice (some ⟨w4.heap.size, 0, none⟩) 0 0) = w6 at H6 ⊢
        obtain ⟨hX, hN, c9, g9⟩ := H6.out.fin (by omega) (by omega) (by omega)
        refine bodyPost_ret (v := .agg #[.int .i64 kind, .slice Ap np cp, .slice (some ⟨w4.heap.size, 0, none⟩) 0 0, .string val]) (results_cell_row Try.results60 _ _ w.heap.size _ _ _ _ rfl hX Try.underlying40 rfl (by kernel_rfl)) rfl ?_
        exact ⟨_, ⟨kind, path, [], val⟩, rfl, hN, fun k hk => by simp at hk, by simp only; omega, by simp, by simp only; omega, c9, g9⟩
      · go_wp2
        have H6 : Hid (Held w _ B g g1 #[.int .i64 kind, .slice Ap np cp, .slice (some ⟨w4.heap.size, 0, none⟩) 0 0, .string val] Ap np cp path (some ⟨w4.heap.size, 0, none⟩) 0 0 []) := Lib.hid ((H5.out.newK K5.out l4 hP.out).setN 2 (.slice (some ⟨w4.heap.size, 0, none⟩) 0 0))
        generalize w5.setCell ⟨g1, 2, none⟩ (.slice (some ⟨w4.heap.size, 0, none⟩) 0 0) = w6 at H6 ⊢
        obtain ⟨hX, hN, c9, g9⟩ := H6.out.fin (by omega) (by omega) (by omega)
        refine bodyPost_ret (v := .agg #[.int .i64 kind, .slice Ap np cp, .slice (some ⟨w4.heap.size, 0, none⟩) 0 0, .string val]) (results_cell_row Try.results60 _ _ w.heap.size _ _ _ _ rfl hX Try.underlying40 rfl (by kernel_rfl)) rfl ?_
        exact ⟨_, ⟨kind, path, [], val⟩, rfl, hN, fun k hk => by simp at hk, by simp only; omega, by simp, by simp only; omega, c9, g9⟩
    · obtain ⟨gk, rfl, hgk, hgl⟩ := H4.out.k.form (by omega)
      obtain ⟨iK, hki, hk0, hk1, hk2'⟩ := info_parts Try.infoK
      rcases kids with _ | ⟨k0, _ | ⟨k1, r⟩⟩
      · simp at ek
      · simp at ek
      have t0 := H5.out.k.cell0 (k := 0) (by omega)
      have t1 := H5.out.k.cell1 (k := 0) (by omega)
      simp at t0 t1
      go_wp2_with (at_builtin; refine wpList_append_lies _ rfl _ _ 38 rfl w4.heap.size 79 iK (.agg #[.int .i64 0, .int .i64 0]) 2 16 Try.underlying38 hki hk0 hk1 hk2' rfl (by decide) _ _ _ rfl K5.out ⟨gk, 0, none⟩ 1 _ ([k0.1, k0.2].map (Value.int .i64)) rfl rfl ?c1 ?c2 (by omega) ?c3 ?c4 ?c5 _ rfl ?_)
      case c1 =>
        intro j u hj
        match j, hj with
        | 0, hj => simp at hj; subst hj; simpa [Addr.add] using t0
        | 1, hj => simp at hj; subst hj; simpa [Addr.add] using t1
      case c2 => intro u hu; simp at hu; rcases hu with rfl | rfl <;> rfl
      case c3 => unfold maxLen; omega
      case c4 => omega
      case c5 => omega
      intro g6 c6 w6 hown6 hgrow6 hwh6 _
      have m6 : OwnK w6 w4.heap.size (some ⟨g6, 0, none⟩) 1 c6 [k0] := hown6
      have hgl' := H5.out.lt
      have hln := H5.out.n.lt
      have t6 : Touch (fun x => x = w4.heap.size) w5 w6 := (Touch.of_grown hgrow6).mono fun x hx => by have := own_eq hx; omega
      have h6 := H5.out.upd t6 (fun k e => by omega) ((t6.block g1 hln (by omega)).trans H5.out.n) (H5.out.p.touch t6 (fun x hx e => by have := hP.out x hx; omega)) (m6.base (by omega))
        (fun x hx e => by have := hP.out x hx; have := (World.ownsRow.lt m6 x e).1; omega) H5.out.dp (fun x hx => by have := (World.ownsRow.lt m6 x hx).1; omega)
      have H6 := Lib.hid h6
      clear h6 hown6 hgrow6 hwh6 m6 t6 t0 t1 q10 q11 q12 q13 q20 q21 q22 q23 f1 f2 hq22 K5 H5
      have q10 := H6.out.x.cell 0
      have q11 := H6.out.x.cell 1
      have q12 := H6.out.x.cell 2
      have q13 := H6.out.x.cell 3
      have q20 := H6.out.n.cell 0
      have q21 := H6.out.n.cell 1
      have q22 := H6.out.n.cell 2
      have q23 := H6.out.n.cell 3
      have f1 := H6.out.x.free
      have f2 := H6.out.n.free
      simp at q10 q11 q12 q13 q20 q21 q22 q23
      go_wp2
      have H7 : Hid (Held w _ B g g1 #[.int .i64 kind, .slice Ap np cp, .slice (some ⟨g6, 0, none⟩) 1 c6, .string val] Ap np cp path (some ⟨g6, 0, none⟩) 1 c6 [k0]) := Lib.hid (H6.out.setN 2 (.slice (some ⟨g6, 0, none⟩) 1 c6))
      generalize w6.setCell ⟨g1, 2, none⟩ (.slice (some ⟨g6, 0, none⟩) 1 c6) = w7 at H7 ⊢
      obtain ⟨hX, hN, c9, g9⟩ := H7.out.fin (by omega) (by omega) (by omega)
      refine bodyPost_ret (v := .agg #[.int .i64 kind, .slice Ap np cp, .slice (some ⟨g6, 0, none⟩) 1 c6, .string val]) (results_cell_row Try.results60 _ _ w.heap.size _ _ _ _ rfl hX Try.underlying40 rfl (by kernel_rfl)) rfl ?_
      exact ⟨_, ⟨kind, path, [k0], val⟩, rfl, hN, fun k hk => wf k (by simp at hk; simp [hk]), by simp only; omega, by simp, by simp only; omega, c9, g9⟩
  · have q22 := H4.out.n.cell 2
    simp at q22
    by_cases hnk : 0 < nk
    · obtain ⟨gk, rfl, hgk, hgl⟩ := H4.out.k.form hnk
      have h4 : HeldK w w4 B g g1 gk #[.int .i64 kind, .slice Ap np cp, .slice (some ⟨gk, 0, none⟩) nk ck, .string val] Ap np cp path nk ck := ⟨kids, wf, H4.out⟩
      have H4k := Lib.hid h4
      clear h4 H4
      have hc2 : ∀ W, HeldK w W B g g1 gk #[.int .i64 kind, .slice Ap np cp, .slice (some ⟨gk, 0, none⟩) nk ck, .string val] Ap np cp path nk ck → W.cell? ⟨g1, 2, none⟩ = some (.slice (some ⟨gk, 0, none⟩) nk ck) := fun W h => h.cell2
      have hk1 : ∀ W, HeldK w W B g g1 gk #[.int .i64 kind, .slice Ap np cp, .slice (some ⟨gk, 0, none⟩) nk ck, .string val] Ap np cp path nk ck → W.cell? ⟨gk, 1, none⟩ = some (cellAt W ⟨gk, 1, none⟩) := fun W h => h.name hnk
      have hf1 : ∀ W, HeldK w W B g g1 gk #[.int .i64 kind, .slice Ap np cp, .slice (some ⟨gk, 0, none⟩) nk ck, .string val] Ap np cp path nk ck → W.frozen? ⟨gk, 1, none⟩ = false := fun W h => h.free 1
      go_wp2
      clear q22
      go_region_held3 (fun W => HeldK w W B g g1 gk #[.int .i64 kind, .slice Ap np cp, .slice (some ⟨gk, 0, none⟩) nk ck, .string val] Ap np cp path nk ck) (first | exact H4k.out.drew | assumption | exact HeldK.store (by assumption) _ (by assumption))
        (first | (go_at_call 86
                  refine (from_any _ B g (-1) 1 (by omega) (by omega) (by omega) (by omega) (HeldK.c (by assumption))).mono ?_
                  rintro e w5 ⟨z, hz0, hz1, rfl, c5, o5⟩
                  have h5 := HeldK.step (by assumption) c5 o5))
      all_goals
        clear hc2 hk1 hf1 h5
        rename_i hH
        generalize w5.setCell ⟨gk, 1, none⟩ (.int .i64 z) = w6 at hH ⊢
        obtain ⟨ks, wks, h6⟩ := hH
        have ek6 := h6.k.len
        have q10 := h6.x.cell 0
        have q11 := h6.x.cell 1
        have q12 := h6.x.cell 2
        have q13 := h6.x.cell 3
        have q20 := h6.n.cell 0
        have q21 := h6.n.cell 1
        have q22 := h6.n.cell 2
        have q23 := h6.n.cell 3
        have f1 := h6.x.free
        have f2 := h6.n.free
        simp at q10 q11 q12 q13 q20 q21 q22 q23
        have H6 := Lib.hid h6
        clear h6
        go_wp2
        obtain ⟨hX, hN, c9, g9⟩ := H6.out.fin (by omega) (by omega) (by omega)
        refine bodyPost_ret (v := .agg #[.int .i64 kind, .slice Ap np cp, .slice (some ⟨gk, 0, none⟩) nk ck, .string val]) (results_cell_row Try.results60 _ _ w.heap.size _ _ _ _ rfl hX Try.underlying40 rfl (by kernel_rfl)) rfl ?_
        exact ⟨_, ⟨kind, path, ks, val⟩, rfl, hN, wks, by simp only; omega, by simp only; omega, by simp only; omega, c9, g9⟩
    · have q10 := H4.out.x.cell 0
      have q11 := H4.out.x.cell 1
      have q12 := H4.out.x.cell 2
      have q13 := H4.out.x.cell 3
      have q20 := H4.out.n.cell 0
      have q21 := H4.out.n.cell 1
      have q22 := H4.out.n.cell 2
      have q23 := H4.out.n.cell 3
      have f1 := H4.out.x.free
      have f2 := H4.out.n.free
      simp at q10 q11 q12 q13 q20 q21 q22 q23
      go_wp2
      obtain ⟨hX, hN, c9, g9⟩ := H4.out.fin (by omega) (by omega) (by omega)
      refine bodyPost_ret (v := .agg #[.int .i64 kind, .slice Ap np cp, .slice Ak nk ck, .string val]) (results_cell_row Try.results60 _ _ w.heap.size _ _ _ _ rfl hX Try.underlying40 rfl (by kernel_rfl)) rfl ?_
      exact ⟨_, ⟨kind, path, kids, val⟩, rfl, hN, wf, by simp only; omega, by simp only; omega, by simp only; omega, c9, g9⟩
end Go.Proofs.Ytjmlpekaehfeeaa
