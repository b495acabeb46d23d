/- Slices of cells: one that reads as a list of names and bytes; one that the call made and may write into; no statement of the program is proved here. -/
import Derived.Test.YthehmanifcfnpaaTouch
namespace Go.Proofs.Ythehmanifcfnpaa
set_option maxRecDepth 20000
set_option linter.unusedVariables false
set_option linter.unusedSimpArgs false
open Go.RowKit

/-- a slice of bytes that lies in a cell. -/
structure Sub where
  A : Option Addr
  n : Nat
  c : Nat
  bs : List Int
def Sub.v (x : Sub) : Value := .slice x.A x.n x.c
/-- the i-th cell of a list. -/
def cel (cs : List (Int × List Int)) (i : Nat) : Int × List Int := cs[i]?.getD (0, [])
theorem cel_set (cs : List (Int × List Int)) (k : Nat) (x : Int × List Int) (i : Nat) (hk : k < cs.length) : cel (cs.set k x) i = if i = k then x else cel cs i := by
  unfold cel
  by_cases h : i = k
  · subst h
    rw [if_pos rfl, List.getElem?_set_self hk]; rfl
  · rw [if_neg h, List.getElem?_set_ne (by omega)]
theorem cel_append (cs : List (Int × List Int)) (x : Int × List Int) (i : Nat) : cel (cs ++ [x]) i = if i = cs.length then x else cel cs i := by
  unfold cel
  by_cases h : i = cs.length
  · subst h
    simp
  · rw [if_neg h]
    rcases Nat.lt_or_ge i cs.length with h1 | h1
    · rw [List.getElem?_append_left h1]
    · rw [List.getElem?_eq_none (by simp; omega), List.getElem?_eq_none (by omega)]
theorem cel_mem (cs : List (Int × List Int)) (i : Nat) (h : i < cs.length) : cel cs i ∈ cs := by
  unfold cel
  rw [List.getElem?_eq_getElem h]; exact List.getElem_mem h
theorem cel_take (cs : List (Int × List Int)) (k : Nat) (h : k < cs.length) : cs.take (k + 1) = cs.take k ++ [cel cs k] := by
  unfold cel
  rw [List.take_succ_eq_append_getElem h, List.getElem?_eq_getElem h]; rfl

/-- the slice value '.slice A n c' of cells reads as cs, below block B. -/
def Cells (w : World) (B : Nat) (A : Option Addr) (n : Nat) (cs : List (Int × List Int)) : Prop :=
  cs.length = n ∧ (0 < n → ∃ b off, A = some ⟨b, off, none⟩ ∧ b < B ∧ ∀ i, i < n → w.cell? ⟨b, off + i * 2, none⟩ = some (.int .i64 (cel cs i).1) ∧
    ∃ Ai ni ci, w.cell? ⟨b, off + i * 2 + 1, none⟩ = some (.slice Ai ni ci) ∧ ni ≤ ci ∧ (Ai = none → ci = 0) ∧ Byts w B Ai ni (cel cs i).2)
section
variable {w w' : World} {B B' n : Nat} {A : Option Addr} {cs : List (Int × List Int)}
theorem Cells.none_ : Cells w B A 0 [] := ⟨rfl, fun h => absurd h (by omega)⟩
theorem Cells.at_ {k : Nat} (h : Cells w B A n cs) (hk : k < n) : ∃ b off Ai ni ci, A = some ⟨b, off, none⟩ ∧ b < B ∧ w.cell? ⟨b, off + k * 2, none⟩ = some (.int .i64 (cel cs k).1) ∧ w.cell? ⟨b, off + k * 2 + 1, none⟩ = some (.slice Ai ni ci) ∧ ni ≤ ci ∧ (Ai = none → ci = 0) ∧ Byts w B Ai ni (cel cs k).2 := by
  obtain ⟨b, off, e, hb, hc⟩ := h.2 (by omega)
  obtain ⟨h0, Ai, ni, ci, h1, h2, h3, h4⟩ := hc k hk
  exact ⟨b, off, Ai, ni, ci, e, hb, h0, h1, h2, h3, h4⟩
theorem Cells.keep (h : Cells w B A n cs) (hk : ∀ p : Addr, p.block < B → w'.cell? p = w.cell? p) : Cells w' B A n cs :=
  ⟨h.1, fun hn => by
    obtain ⟨b, off, e, hb, hc⟩ := h.2 hn
    refine ⟨b, off, e, hb, fun i hi => ?_⟩
    obtain ⟨h0, Ai, ni, ci, h1, h2, h3, h4⟩ := hc i hi
    exact ⟨(hk _ hb).trans h0, Ai, ni, ci, (hk _ hb).trans h1, h2, h3, h4.keep hk⟩⟩
theorem Cells.more (h : Cells w B A n cs) (hB : B ≤ B') : Cells w B' A n cs :=
  ⟨h.1, fun hn => by
    obtain ⟨b, off, e, hb, hc⟩ := h.2 hn
    refine ⟨b, off, e, by omega, fun i hi => ?_⟩
    obtain ⟨h0, Ai, ni, ci, h1, h2, h3, h4⟩ := hc i hi
    exact ⟨h0, Ai, ni, ci, h1, h2, h3, h4.more hB⟩⟩
theorem Cells.below (h : Cells w B A n cs) (hb : Below B w w') : Cells w' B A n cs := h.keep fun _ hp => hb.cell hp
theorem Cells.drewN (h : Cells w B A n cs) (k : Nat) : Cells (w.drewN k) B A n cs := h.below (below_drewN (Below.refl _ _) k)
theorem Cells.alloc (h : Cells w B A n cs) (hB : B ≤ w.heap.size) (o : Obj) : Cells (w.alloc o) B A n cs := h.keep fun p hp => World.cell?_alloc_lt w o p (by omega)
end

theorem Try.infoC : (Try.prog.info? 53).map (fun i => (i.zero, i.size, i.bytes)) = some (some (.agg #[.int .i64 0, .slice none 0 0]), 2, 32) := by kernel_rfl

/-- what stands in a row of cells. -/
def cf (cs : List (Int × List Int)) (sl : Nat → Sub) (j : Nat) : Value := if j % 2 = 0 then .int .i64 (cel cs (j / 2)).1 else (sl (j / 2)).v
def cvs (n : Nat) (cs : List (Int × List Int)) (sl : Nat → Sub) : List Value := (List.range (n * 2)).map (cf cs sl)
theorem cvs_at (n : Nat) (cs : List (Int × List Int)) (sl : Nat → Sub) (j : Nat) (h : j < n * 2) : (cvs n cs sl)[j]? = some (cf cs sl j) := by simp [cvs, h]
theorem cf0 (cs : List (Int × List Int)) (sl : Nat → Sub) (k : Nat) : cf cs sl (k * 2) = .int .i64 (cel cs k).1 := by unfold cf; rw [if_pos (by omega), show k * 2 / 2 = k by omega]
theorem cf1 (cs : List (Int × List Int)) (sl : Nat → Sub) (k : Nat) : cf cs sl (k * 2 + 1) = (sl k).v := by unfold cf; rw [if_neg (by omega), show (k * 2 + 1) / 2 = k by omega]
theorem cvs_set (n : Nat) (cs : List (Int × List Int)) (sl : Nat → Sub) (k : Nat) (m : Int) (x : Sub) (b : List Int) (hk : k < n) (hl : cs.length = n) :
    ((cvs n cs sl).set (k * 2) (.int .i64 m)).set (k * 2 + 1) x.v = cvs n (cs.set k (m, b)) (fun i => if i = k then x else sl i) := by
  apply List.ext_getElem?
  intro j
  by_cases hj : j < n * 2
  · rw [cvs_at _ _ _ j hj]
    by_cases h1 : j = k * 2 + 1
    · subst h1
      rw [List.getElem?_set_self (by simp [cvs]; omega), cf1, if_pos rfl]
    · rw [List.getElem?_set_ne (by omega)]
      by_cases h0 : j = k * 2
      · subst h0
        rw [List.getElem?_set_self (by simp [cvs]; omega), cf0, cel_set _ _ _ _ (by omega), if_pos rfl]
      · rw [List.getElem?_set_ne (by omega), cvs_at _ _ _ j hj]
        unfold cf
        rw [cel_set _ _ _ _ (by omega), if_neg (show ¬ j / 2 = k by omega)]
        simp only [show ¬ j / 2 = k by omega, if_false]
  · rw [List.getElem?_eq_none (by simp [cvs]; omega), List.getElem?_eq_none (by simp [cvs]; omega)]
theorem cvs_append (n : Nat) (cs : List (Int × List Int)) (sl : Nat → Sub) (x : Sub) (m : Int) (b : List Int) (hl : cs.length = n) :
    cvs n cs sl ++ [.int .i64 m, x.v] = cvs (n + 1) (cs ++ [(m, b)]) (fun i => if i = n then x else sl i) := by
  apply List.ext_getElem?
  intro j
  by_cases hj : j < n * 2
  · rw [List.getElem?_append_left (by simp [cvs]; omega), cvs_at _ _ _ j hj, cvs_at _ _ _ j (by omega)]
    unfold cf
    rw [cel_append, if_neg (show ¬ j / 2 = cs.length by omega)]
    simp only [show ¬ j / 2 = n by omega, if_false]
  · rw [List.getElem?_append_right (by simp [cvs]; omega)]
    have hl2 : (cvs n cs sl).length = n * 2 := by simp [cvs]
    rw [hl2]
    by_cases h0 : j = n * 2
    · subst h0
      rw [cvs_at _ _ _ _ (by omega), cf0, cel_append, if_pos hl.symm]; simp
    · by_cases h1 : j = n * 2 + 1
      · subst h1
        rw [cvs_at _ _ _ _ (by omega), cf1, if_pos rfl, show n * 2 + 1 - n * 2 = 1 by omega]; rfl
      · rw [List.getElem?_eq_none (by simp; omega), List.getElem?_eq_none (by simp [cvs]; omega)]

/-- the slices in a row of n cells are of the call's own, each in a block of its own, of the blocks from lo to hi, none of them g. -/
structure Subs (w : World) (lo hi : Nat) (g : Option Nat) (n : Nat) (cs : List (Int × List Int)) (sl : Nat → Sub) : Prop where
  mine : ∀ i, i < n → Mine w lo (sl i).A (sl i).n (sl i).c (cel cs i).2
  apart : ∀ i j, i < n → j < n → i ≠ j → ∀ b, (sl i).v.ownBlock = some b → (sl j).v.ownBlock ≠ some b
  other : ∀ i, i < n → ∀ b, (sl i).v.ownBlock = some b → g ≠ some b
  under : ∀ i, i < n → ∀ b, (sl i).v.ownBlock = some b → b < hi
/-- the slice '.slice A n c' of cells is of the call's own, with all that it holds, in blocks from lo to hi, and reads as cs. -/
def OwnC (w : World) (lo hi : Nat) (A : Option Addr) (n c : Nat) (cs : List (Int × List Int)) : Prop :=
  cs.length = n ∧ (∀ b, (Value.slice A n c).ownBlock = some b → b < hi) ∧ ∃ sl, w.ownsRow lo 53 2 (.slice A n c) n (cvs n cs sl) ∧ Subs w lo hi (Value.slice A n c).ownBlock n cs sl
section
variable {w w' : World} {lo hi hi' n c g : Nat} {A : Option Addr} {cs : List (Int × List Int)}
theorem mine_cap {base : Nat} {xs : List Int} (h : Mine w base A n c xs) : n ≤ c := by
  rcases h.1.2 with ⟨e, rfl⟩ | ⟨g, cap, cur, e, _, _, hc, _⟩
  · omega
  · cases e; exact hc
theorem mine_none {base : Nat} {xs : List Int} (h : Mine w base A n c xs) (hA : A = none) : c = 0 := by
  rcases h.1.2 with ⟨e, rfl⟩ | ⟨g, cap, cur, e, _, _, hc, _⟩
  · cases e; rfl
  · subst hA; cases e
theorem OwnC.nil (w : World) (lo hi : Nat) : OwnC w lo hi none 0 0 [] := ⟨rfl, fun b h => by simp [Value.ownBlock] at h, fun _ => ⟨none, 0, 0, []⟩, World.ownsRow_nil _ _ _ _, fun i h => by omega, fun i j h => by omega, fun i h => by omega, fun i h => by omega⟩
theorem OwnC.len (h : OwnC w lo hi A n c cs) : cs.length = n := h.1
theorem OwnC.touch {S : Nat → Prop} (h : OwnC w lo hi A n c cs) (t : Touch S w w') (hn : ∀ b, lo ≤ b → b < hi → ¬ S b) : OwnC w' lo hi A n c cs := by
  obtain ⟨hl, hu, sl, hr, hs⟩ := h
  exact ⟨hl, hu, sl, own_touch hr t (fun b hb => hn b (hr.lt b hb).1 (hu b hb)), fun i hi => (hs.mine i hi).touch t (fun b hb => hn b ((hs.mine i hi).1.lt b hb).1 (hs.under i hi b hb)), hs.apart, hs.other, hs.under⟩
theorem OwnC.below (h : OwnC w lo hi A n c cs) (hb : Below hi w w') : OwnC w' lo hi A n c cs :=
  h.touch (S := fun k => hi ≤ k) ⟨hb.os, hb.tape, hb.output, hb.size, fun k hk hs => hb.block k (by omega)⟩ (fun b _ h1 h2 => by omega)
theorem OwnC.more (h : OwnC w lo hi A n c cs) (hh : hi ≤ hi') : OwnC w lo hi' A n c cs := by
  obtain ⟨hl, hu, sl, hr, hs⟩ := h
  exact ⟨hl, fun b hb => Nat.lt_of_lt_of_le (hu b hb) hh, sl, hr, hs.mine, hs.apart, hs.other, fun i hi b hb => Nat.lt_of_lt_of_le (hs.under i hi b hb) hh⟩
theorem OwnC.base {lo' : Nat} (h : OwnC w lo hi A n c cs) (hh : lo' ≤ lo) : OwnC w lo' hi A n c cs := by
  obtain ⟨hl, hu, sl, hr, hs⟩ := h
  refine ⟨hl, hu, sl, ⟨hr.1, ?_⟩, fun i hi => (hs.mine i hi).base hh, hs.apart, hs.other, hs.under⟩
  rcases hr.2 with h | ⟨g, cap, cur, hv, hg, r⟩
  · exact .inl h
  · exact .inr ⟨g, cap, cur, hv, by omega, r⟩
theorem OwnC.form (h : OwnC w lo hi A n c cs) (hn : 0 < n) : ∃ g, A = some ⟨g, 0, none⟩ ∧ lo ≤ g ∧ g < hi ∧ g < w.heap.size := by
  obtain ⟨hl, hu, sl, hr, hs⟩ := h
  obtain ⟨g, cap, hv, h1, h2⟩ := World.ownsRow.form hr hn
  injection hv with hA
  subst hA
  exact ⟨g, rfl, h1, hu g (by simp [Value.ownBlock]), h2⟩
theorem OwnC.cells (h : OwnC w lo hi A n c cs) : Cells w hi A n cs := by
  refine ⟨h.1, fun hn => ?_⟩
  obtain ⟨g, rfl, _, h2, _⟩ := h.form hn
  obtain ⟨hl, hu, sl, hr, hs⟩ := h
  refine ⟨g, 0, rfl, h2, fun i hi => ?_⟩
  have m := hs.mine i hi
  refine ⟨?_, (sl i).A, (sl i).n, (sl i).c, ?_, mine_cap m, mine_none m, m.len, m.2, fun hp => ?_⟩
  · rw [Nat.zero_add, World.ownsRow.cellAt hr _ (by omega), cvs_at _ _ _ _ (by omega), cf0]
  · rw [Nat.zero_add, World.ownsRow.cellAt hr _ (by omega), cvs_at _ _ _ _ (by omega), cf1]; rfl
  · obtain ⟨b, off, e, hb, hc⟩ := m.byts.2.2 hp
    refine ⟨b, off, e, ?_, hc⟩
    obtain ⟨g', e', _⟩ := m.form hp
    rw [e] at e'
    cases e'
    exact hs.under i hi b (by unfold Sub.v; rw [e]; simp [Value.ownBlock])
theorem OwnC.free (h : OwnC w lo hi (some ⟨g, 0, none⟩) n c cs) (k : Nat) : w.frozen? ⟨g, k, none⟩ = false := by
  obtain ⟨hl, hu, sl, hr, hs⟩ := h
  exact World.ownsRow.frozenAt hr k
/-- another cell in place of the k-th: its bytes in a block that was made since. -/
theorem OwnC.put {w0 : World} {A' : Option Addr} {n' c' k : Nat} {bs : List Int} (m : Int) (h : OwnC w0 lo hi (some ⟨g, 0, none⟩) n c cs) (hh : hi ≤ w0.heap.size) (hb : Below w0.heap.size w0 w) (hx : Mine w w0.heap.size A' n' c' bs) (hk : k < n) (hh' : w.heap.size ≤ hi') (hlo : lo ≤ w0.heap.size) :
    OwnC ((w.setCell ⟨g, k * 2, none⟩ (.int .i64 m)).setCell ⟨g, k * 2 + 1, none⟩ (.slice A' n' c')) lo hi' (some ⟨g, 0, none⟩) n c (cs.set k (m, bs)) ∧
      Touch (fun b => b = g) w ((w.setCell ⟨g, k * 2, none⟩ (.int .i64 m)).setCell ⟨g, k * 2 + 1, none⟩ (.slice A' n' c')) := by
  have hs0 := hb.size
  have h := h.below (hb.mono hh)
  obtain ⟨hl, hu, sl, hr, hs⟩ := h
  have hg := hr.lt g (by simp [Value.ownBlock])
  have hgu := hu g (by simp [Value.ownBlock])
  obtain ⟨r1, t1⟩ := World.ownsRow.stored hr (k * 2) (.int .i64 m)
  obtain ⟨r2, t2⟩ := World.ownsRow.stored r1 (k * 2 + 1) (.slice A' n' c')
  have t : Touch (fun b => b = g) w ((w.setCell ⟨g, k * 2, none⟩ (.int .i64 m)).setCell ⟨g, k * 2 + 1, none⟩ (.slice A' n' c')) := (touch_set (S := fun b => b = g) w g _ _ rfl).trans (touch_set _ g _ _ rfl)
  refine ⟨⟨by simp [hl], fun b hb' => Nat.lt_of_lt_of_le (hu b hb') (by omega), fun i => if i = k then ⟨A', n', c', bs⟩ else sl i, ?_, ?_, ?_, ?_, ?_⟩, t⟩
  · rw [← cvs_set n cs sl k m ⟨A', n', c', bs⟩ bs hk hl]; exact r2
  · intro i hi1
    rw [cel_set _ _ _ _ (by omega)]
    by_cases h : i = k
    · simp only [h, if_true]
      exact (hx.base hlo).touch t (fun b hb' e => by have := (hx.1.lt b hb').1; omega)
    · simp only [h, if_false]
      exact (hs.mine i hi1).touch t (fun b hb' e => hs.other i hi1 b hb' (by rw [e]; simp [Value.ownBlock]))
  · intro i j hi1 hj hij b
    by_cases h : i = k
    · have h2 : ¬ j = k := by omega
      simp only [h, h2, if_true, if_false]
      intro e1 e2
      have := (hx.1.lt b e1).1
      have := hs.under j hj b e2
      omega
    · by_cases h2 : j = k
      · simp only [h, h2, if_true, if_false]
        intro e1 e2
        have := (hx.1.lt b e2).1
        have := hs.under i hi1 b e1
        omega
      · simp only [h, h2, if_false]
        exact hs.apart i j hi1 hj hij b
  · intro i hi1 b
    by_cases h : i = k
    · simp only [h, if_true]
      intro e1 e2
      have := (hx.1.lt b e1).1
      simp [Value.ownBlock] at e2
      omega
    · simp only [h, if_false]
      exact hs.other i hi1 b
  · intro i hi1 b
    by_cases h : i = k
    · simp only [h, if_true]
      intro e1
      have := (hx.1.lt b e1).2
      omega
    · simp only [h, if_false]
      intro e1
      have := hs.under i hi1 b e1
      omega
theorem OwnC.cell0 {k : Nat} (h : OwnC w lo hi (some ⟨g, 0, none⟩) n c cs) (hk : k < n) : w.cell? ⟨g, k * 2, none⟩ = some (.int .i64 (cel cs k).1) := by
  obtain ⟨b, off, _, _, _, e, _, h0, _⟩ := h.cells.at_ hk
  cases e
  simpa using h0
theorem OwnC.cell1 {k : Nat} (h : OwnC w lo hi (some ⟨g, 0, none⟩) n c cs) (hk : k < n) : ∃ Ai ni ci, w.cell? ⟨g, k * 2 + 1, none⟩ = some (.slice Ai ni ci) ∧ ni ≤ ci ∧ (Ai = none → ci = 0) ∧ Byts w hi Ai ni (cel cs k).2 := by
  obtain ⟨b, off, Ai, ni, ci, e, _, _, h1, h2, h3, h4⟩ := h.cells.at_ hk
  cases e
  exact ⟨Ai, ni, ci, by simpa using h1, h2, h3, h4⟩
theorem cvs_same (cs cs' : List (Int × List Int)) (sl : Nat → Sub) (h : ∀ i, i < n → (cel cs i).1 = (cel cs' i).1) : cvs n cs sl = cvs n cs' sl := by
  unfold cvs
  apply List.map_congr_left
  intro j hj
  have hj : j < n * 2 := by simpa using hj
  unfold cf
  rw [h (j / 2) (by omega)]
theorem cvs_name (cs : List (Int × List Int)) (sl : Nat → Sub) (k : Nat) (m : Int) (b : List Int) (hk : k < n) (hl : cs.length = n) : (cvs n cs sl).set (k * 2) (.int .i64 m) = cvs n (cs.set k (m, b)) sl := by
  apply List.ext_getElem?
  intro j
  by_cases hj : j < n * 2
  · rw [cvs_at _ _ _ j hj]
    by_cases h0 : j = k * 2
    · subst h0
      rw [List.getElem?_set_self (by simp [cvs]; omega), cf0, cel_set _ _ _ _ (by omega), if_pos rfl]
    · rw [List.getElem?_set_ne (by omega), cvs_at _ _ _ j hj]
      unfold cf
      rw [cel_set _ _ _ _ (by omega)]
      by_cases he : j % 2 = 0
      · rw [if_neg (show ¬ j / 2 = k by omega)]
      · rw [if_neg he, if_neg he]
  · rw [List.getElem?_eq_none (by simp [cvs]; omega), List.getElem?_eq_none (by simp [cvs]; omega)]
/-- another name in the k-th cell. -/
theorem OwnC.setName {k : Nat} (m : Int) (h : OwnC w lo hi (some ⟨g, 0, none⟩) n c cs) (hk : k < n) :
    OwnC (w.setCell ⟨g, k * 2, none⟩ (.int .i64 m)) lo hi (some ⟨g, 0, none⟩) n c (cs.set k (m, (cel cs k).2)) := by
  obtain ⟨hl, hu, sl, hr, hs⟩ := h
  have hg := hr.lt g (by simp [Value.ownBlock])
  obtain ⟨r1, t1⟩ := World.ownsRow.stored hr (k * 2) (.int .i64 m)
  have t : Touch (fun b => b = g) w (w.setCell ⟨g, k * 2, none⟩ (.int .i64 m)) := touch_set (S := fun b => b = g) w g _ _ rfl
  refine ⟨by simp [hl], hu, sl, ?_, ⟨fun i hi1 => ?_, hs.apart, hs.other, hs.under⟩⟩
  · rw [← cvs_name cs sl k m _ hk hl]; exact r1
  · have hm := (hs.mine i hi1).touch t (fun b hb' e => hs.other i hi1 b hb' (by rw [e]; simp [Value.ownBlock]))
    rw [cel_set _ _ _ _ (by omega)]
    by_cases h : i = k
    · subst h; rw [if_pos rfl]; exact hm
    · rw [if_neg h]; exact hm
/-- other bytes in the k-th cell's own slice. -/
theorem OwnC.inner {k : Nat} (h : OwnC w lo hi (some ⟨g, 0, none⟩) n c cs) (hk : k < n) :
    ∃ Ai ni ci, w.cell? ⟨g, k * 2 + 1, none⟩ = some (.slice Ai ni ci) ∧ Mine w lo Ai ni ci (cel cs k).2 ∧ (∀ b, (Value.slice Ai ni ci).ownBlock = some b → lo ≤ b ∧ b < hi) ∧
      ∀ w' bs', Mine w' lo Ai ni ci bs' → w.grownBy w' (Value.slice Ai ni ci).ownBlock → OwnC w' lo hi (some ⟨g, 0, none⟩) n c (cs.set k ((cel cs k).1, bs')) := by
  obtain ⟨hl, hu, sl, hr, hs⟩ := h
  refine ⟨(sl k).A, (sl k).n, (sl k).c, ?_, hs.mine k hk, fun b hb => ⟨((hs.mine k hk).1.lt b hb).1, hs.under k hk b hb⟩, fun w' bs' hm hg => ?_⟩
  · rw [World.ownsRow.cellAt hr _ (by omega), cvs_at _ _ _ _ (by omega), cf1]; rfl
  · have t := Touch.of_grown hg
    refine ⟨by simp [hl], hu, sl, ?_, ⟨fun i hi1 => ?_, hs.apart, hs.other, hs.under⟩⟩
    · rw [← cvs_same (n := n) cs (cs.set k ((cel cs k).1, bs')) sl (fun i hi1 => by
        rw [cel_set _ _ _ _ (by omega)]
        by_cases h : i = k
        · subst h; rw [if_pos rfl]
        · rw [if_neg h])]
      refine own_touch hr t (fun b hb e => ?_)
      have : g = b := by simpa [Value.ownBlock] using hb
      subst this
      exact hs.other k hk g e.symm (by simp [Value.ownBlock])
    · rw [cel_set _ _ _ _ (by omega)]
      by_cases h : i = k
      · subst h; rw [if_pos rfl]; exact hm
      · rw [if_neg h]
        exact (hs.mine i hi1).touch t (fun b hb e => hs.apart i k hi1 hk h b hb e.symm)
end
end Go.Proofs.Ythehmanifcfnpaa
