/- Several texts in one, in build order: Cur, Draw2, Draw2P, PathS, Draw3, Draw4, Draw5, FrameL, FromL, Draw1, DrawF, DrawC. -/
import Derived.Test.YtebfinedkjlbbaaPkF
import Derived.Laws.BitsAllLaws
import Derived.Laws.BitsLemmas
import Derived.Laws.Rows
import Derived.Maps.AppendAt
import Derived.WalkLawsBesides
import Derived.WalkSpells
import Derived.Deep.RegionLaw
import Derived.Deep.AppendLies
import Derived.BigRegion
import Derived.Deep.RegionHeld3
-- Cur: What the drawing functions do that the laws call: a cursor over bytes, the next byte, a number below a bound, whether once in n.
namespace Go.Proofs.Ytebfinedkjlbbaa
set_option maxRecDepth 20000
open Go.RowKit

theorem and_range (x : Int) (m : Nat) (hm : m < 9223372036854775808) : 0 ≤ bits .and .i64 x (m : Int) ∧ bits .and .i64 x (m : Int) ≤ m := by
  have h : bits .and .i64 x (m : Int) = IntKind.i64.wrap ((BitVec.ofInt 64 x &&& BitVec.ofInt 64 (m : Int)).toNat : Int) := rfl
  have hle : (BitVec.ofInt 64 x &&& BitVec.ofInt 64 (m : Int)).toNat ≤ m := by
    rw [BitVec.toNat_and, ofInt_u64 m (by omega)]
    exact Nat.and_le_right
  rw [h, IntKind.wrap_i64]
  omega
theorem and_255 (x : Int) : 0 ≤ bits .and .i64 x 255 ∧ bits .and .i64 x 255 ≤ 255 := and_range x 255 (by omega)

/-- a cursor in block g over bytes that lie below block B. -/
def CurAt (w : World) (B g : Nat) (A : Option Addr) (n c : Nat) (i h : Int) (zs : List Int) : Prop :=
  B ≤ g ∧ w.heap[g]? = some (.cells #[.slice A n c, .int .i64 i, .int .i64 h] 141 (0, 0)) ∧ 0 ≤ i ∧ i ≤ n ∧ n ≤ 4096 ∧ Byts w B A n zs
def Cur (w : World) (B g : Nat) : Prop := ∃ A n c i h zs, CurAt w B g A n c i h zs
section
variable {w w' : World} {B g n c : Nat} {A : Option Addr} {i h : Int} {zs : List Int}
theorem CurAt.lt (hc : CurAt w B g A n c i h zs) : g < w.heap.size := by
  rcases Nat.lt_or_ge g w.heap.size with hlt | hge
  · exact hlt
  · have h1 := hc.2.1; rw [Array.getElem?_eq_none hge] at h1; cases h1
theorem Cur.lt (hc : Cur w B g) : g < w.heap.size := by obtain ⟨_, _, _, _, _, _, h⟩ := hc; exact h.lt
theorem Cur.ge (hc : Cur w B g) : B ≤ g := by obtain ⟨_, _, _, _, _, _, h⟩ := hc; exact h.1
theorem Cur.grown (hc : Cur w B g) {row : Option Nat} (hg : w.grownBy w' row) (hr : ∀ r, row = some r → B ≤ r ∧ r ≠ g) : Cur w' B g := by
  have hlt := hc.lt
  have hge := hc.ge
  obtain ⟨A, n, c, i, h, zs, h1, h2, h3, h4, h5, h6⟩ := hc
  exact ⟨A, n, c, i, h, zs, h1, (hg.block g hlt (fun e => (hr g e.symm).2 rfl)).trans h2, h3, h4, h5, h6.grown hg (by omega) (fun r e => (hr r e).1)⟩
theorem Cur.drewN (hc : Cur w B g) (m : Nat) : Cur (w.drewN m) B g := hc
theorem CurAt.drewN (hc : CurAt w B g A n c i h zs) (m : Nat) : CurAt (w.drewN m) B g A n c i h zs := hc
theorem CurAt.far (hc : CurAt w B g A n c i h zs) (j : Nat) (u : Value) : Byts (w.setCell ⟨g, j, none⟩ u) B A n zs :=
  hc.2.2.2.2.2.keep fun p hp => World.cell?_setCell_other w ⟨g, j, none⟩ p u (fun e => by subst e; have := hc.1; simp at hp; omega)
theorem CurAt.set2 (hc : CurAt w B g A n c i h zs) (h' : Int) : CurAt (w.setCell ⟨g, 2, none⟩ (.int .i64 h')) B g A n c i h' zs :=
  ⟨hc.1, heap_setCell_same w g 2 _ _ _ hc.2.1, hc.2.2.1, hc.2.2.2.1, hc.2.2.2.2.1, hc.far 2 _⟩
theorem CurAt.set1 (hc : CurAt w B g A n c i h zs) (i' : Int) (hi : 0 ≤ i' ∧ i' ≤ n) : CurAt (w.setCell ⟨g, 1, none⟩ (.int .i64 i')) B g A n c i' h zs :=
  ⟨hc.1, heap_setCell_same w g 1 _ _ _ hc.2.1, hi.1, hi.2, hc.2.2.2.2.1, hc.far 1 _⟩
theorem CurAt.cur (hc : CurAt w B g A n c i h zs) : Cur w B g := ⟨_, _, _, _, _, _, hc⟩
end

/-- what is left when a number from 0 to m - 1 was drawn by the cursor in block g. -/
def Drawn (w : World) (B g : Nat) (m : Int) (e : Ending) (w' : World) : Prop := ∃ r : Int, 0 ≤ r ∧ r < m ∧ e = .returned (.int .i64 r) ∧ Cur w' B g ∧ w.grownBy w' (some g)

theorem byte_at (w : World) (B g : Nat) (A : Option Addr) (n c : Nat) (i h : Int) (zs : List Int) (hc : CurAt w B g A n c i h zs) :
    Calls Try.prog 119 #[.pointer (some ⟨g, 0, none⟩)] w (Drawn w B g 256) := by
  obtain ⟨h1, h2, h3, h4, h5, h6⟩ := hc
  have c0 : w.cell? ⟨g, 0, none⟩ = some (.slice A n c) := by rw [cell_of_row w g 0 _ _ _ h2]; rfl
  have c1 : w.cell? ⟨g, 1, none⟩ = some (.int .i64 i) := by rw [cell_of_row w g 1 _ _ _ h2]; rfl
  have c2 : w.cell? ⟨g, 2, none⟩ = some (.int .i64 h) := by rw [cell_of_row w g 2 _ _ _ h2]; rfl
  have f1 : w.frozen? ⟨g, 1, none⟩ = false := frozen_of_row w g 1 _ _ h2
  have f2 : w.frozen? ⟨g, 2, none⟩ = false := frozen_of_row w g 2 _ _ h2
  have HC : Hid (CurAt w B g A n c i h zs) := Lib.hid ⟨h1, h2, h3, h4, h5, h6⟩
  have HB := Lib.hid h6
  clear h6 h2
  obtain ⟨j, rfl⟩ : ∃ j : Nat, i = j := ⟨i.toNat, by omega⟩
  by_cases hin : j < n
  · obtain ⟨b, off, rfl, hbB, hcell⟩ := HB.out.at_ hin
    have hr := HB.out.range j
    go_enter Try.func119, Try.ntmps119
    go_wp2
    go_quiet (fail)
    go_wp2
    go_quiet (fail)
    go_wp2
    go_quiet (fail)
    go_wp2
    go_ret
    exact ⟨_, (and_255 _).1, Int.lt_of_le_of_lt (and_255 _).2 (by decide), rfl, ((HC.out.set2 _).set1 _ (by omega)).cur, (grown_drewN (grown_set w g 2 _) _).trans (grown_set _ _ _ _)⟩
  · go_enter Try.func119, Try.ntmps119
    go_wp2
    go_quiet (fail)
    go_wp2
    go_quiet (fail)
    go_wp2
    go_ret
    exact ⟨_, (and_255 _).1, Int.lt_of_le_of_lt (and_255 _).2 (by decide), rfl, (HC.out.set2 _).cur, grown_drewN (grown_drewN (grown_set w g 2 _) _) _⟩

theorem byte_any (w : World) (B g : Nat) (hc : Cur w B g) : Calls Try.prog 119 #[.pointer (some ⟨g, 0, none⟩)] w (Drawn w B g 256) := by
  obtain ⟨A, n, c, i, h, zs, hc⟩ := hc
  exact byte_at w B g A n c i h zs hc

/-- a number below a bound of at most 256. -/
theorem below_any (w : World) (B g : Nat) (m : Int) (h0 : 0 < m) (h1 : m ≤ 256) (hc : Cur w B g) :
    Calls Try.prog 77 #[.pointer (some ⟨g, 0, none⟩), .int .i64 m] w (Drawn w B g m) := by
  have HC := Lib.hid hc
  clear hc
  go_enter Try.func77, Try.ntmps77
  go_wp2_with fail
  refine (byte_any _ B g HC.out).mono ?_
  rintro e w1 ⟨r, hr0, hr1, rfl, c1, g1⟩
  have C1 := Lib.hid c1
  have G1 := Lib.hid g1
  clear c1 g1
  go_wp2
  go_ret
  exact ⟨r % m, Int.emod_nonneg _ (by omega), Int.emod_lt_of_pos _ h0, rfl, C1.out, G1.out⟩

/-- a yes or a no was drawn. -/
def Asked (w : World) (B g : Nat) (e : Ending) (w' : World) : Prop := ∃ b : Bool, e = .returned (.bool b) ∧ Cur w' B g ∧ w.grownBy w' (some g)
theorem once_any (w : World) (B g : Nat) (m : Int) (h0 : 0 < m) (h1 : m ≤ 256) (hc : Cur w B g) :
    Calls Try.prog 76 #[.pointer (some ⟨g, 0, none⟩), .int .i64 m] w (Asked w B g) := by
  have HC := Lib.hid hc
  clear hc
  go_enter Try.func76, Try.ntmps76
  go_wp2_with fail
  refine (below_any _ B g m h0 h1 HC.out).mono ?_
  rintro e w1 ⟨r, hr0, hr1, rfl, c1, g1⟩
  have C1 := Lib.hid c1
  have G1 := Lib.hid g1
  clear c1 g1
  go_wp2
  go_ret
  exact ⟨_, rfl, C1.out, G1.out⟩

/-- a new cursor over bytes that came in. -/
def Began (w : World) (e : Ending) (w' : World) : Prop := ∃ g, e = .returned (.pointer (some ⟨g, 0, none⟩)) ∧ Cur w' w.heap.size g ∧ Below w.heap.size w w'
theorem new_any (A : Option Addr) (n c : Nat) (zs : List Int) (w : World) (hn : n ≤ 4096) (hb : Byts w w.heap.size A n zs) :
    Calls Try.prog 70 #[.slice A n c] w (Began w) := by
  have HB := Lib.hid hb
  clear hb
  go_enter Try.func70, Try.ntmps70
  go_wp2
  go_loop [3, 4] (fun h i => ∃ (k : Nat) (x : Int), k ≤ n ∧ i = .int .i64 k ∧ h = .int .i64 x) (fun _ i => n - (intOf i).toNat)
  case atStart => exact ⟨0, _, Nat.zero_le _, rfl, rfl⟩
  case round =>
    obtain ⟨k, x, hk, rfl, rfl⟩ := hrel
    by_cases hlt : k < n
    · obtain ⟨b, off, rfl, _, hc⟩ := HB.out.at_ hlt
      have hr := HB.out.range k
      go_wp2
      go_round
      case rel => exact ⟨k + 1, _, by omega, by go_num, rfl⟩
      case measure => simp [intOf]; omega
    · go_wp2
      go_ret
      exact ⟨w.heap.size, rfl, ⟨A, n, c, 0, x, zs, Nat.le_refl _, heap_alloc_new _ _, Int.le_refl _, by omega, hn, HB.out.alloc (Nat.le_refl _) _⟩, (Below.refl _ _).alloc (Nat.le_refl _) _⟩
end Go.Proofs.Ytebfinedkjlbbaa

-- Draw2: What chapter 2's drawing functions make: a short text, a short list of numbers of the call's own, two of them.
namespace Go.Proofs.Ytebfinedkjlbbaa
set_option maxRecDepth 20000
open Go.RowKit

/-- the cells of some texts. -/
def strs (xs : List ByteArray) : Array Value := (xs.map Value.string).toArray
theorem str_cell {w : World} {r : Nat} {xs : List ByteArray} {t : TypeId} (h : w.heap[r]? = some (.cells (strs xs) t (0, 0))) (m : Nat) (hs : ∀ x ∈ xs, x.size ≤ m) (k : Nat) (hk : k < xs.length) :
    ∃ x : ByteArray, x.size ≤ m ∧ w.cell? ⟨r, k, none⟩ = some (.string x) := by
  refine ⟨xs[k], hs _ (List.getElem_mem hk), ?_⟩
  rw [cell_of_row w r k _ _ _ h]
  simp [strs, hk]
theorem int_cell {w : World} {r : Nat} {xs : List Int} {t : TypeId} (h : w.heap[r]? = some (.cells (i64s xs) t (0, 0))) (k : Nat) (hk : k < xs.length) :
    ∃ x : Int, w.cell? ⟨r, k, none⟩ = some (.int .i64 x) := by
  refine ⟨xs[k], ?_⟩
  rw [cell_of_row w r k _ _ _ h]
  simp [i64s, hk]
theorem add_str (a b : ByteArray) (h : a.size + b.size ≤ 1000000) : ∀ W : World, (Op.stringOp .add a b).run Try.prog W = .ok (.string (a ++ b)) W := fun W => run_string_add_sum W a b (by omega)

/-- a short text was drawn. -/
def Text1 (w : World) (B g : Nat) (m : Nat) (e : Ending) (w' : World) : Prop := ∃ s : ByteArray, s.size ≤ m ∧ e = .returned (.string s) ∧ Cur w' B g ∧ w.grownBy w' (some g)

theorem l2Draw_any (w : World) (B g : Nat) (hc : Cur w B g) :
    Calls Try.prog 118 #[.pointer (some ⟨g, 0, none⟩)] w (Text1 w B g 5) := by
  have hlt := hc.lt
  have HC := Lib.hid hc
  clear hc
  go_enter Try.func118, Try.ntmps118
  go_wp2_with fail
  refine (below_any _ B g 5 (by omega) (by omega) (HC.out.grown (World.grownBy_alloc w _ none) (fun r h => by cases h))).mono ?_
  rintro e w1 ⟨r, hr0, hr1, rfl, c1, g1⟩
  have hblk := g1.block w.heap.size (by simp) (by intro e; cases e; omega)
  rw [heap_alloc_new] at hblk
  obtain ⟨k, rfl⟩ : ∃ k : Nat, r = k := ⟨r.toNat, by omega⟩
  obtain ⟨x, hx5, hx⟩ := str_cell (xs := [⟨#[49]⟩, ⟨#[97]⟩, ⟨#[49, 50]⟩, ⟨#[49, 97]⟩, ⟨#[97, 98]⟩]) hblk 2 (by decide) k (by simp; omega)
  clear hblk
  have G1 := Lib.hid ((World.grownBy_alloc w _ (some g)).trans g1)
  have C1 := Lib.hid c1
  clear g1 c1 HC
  go_wp2_with fail
  refine (below_any _ B g 4 (by omega) (by omega) C1.out).mono ?_
  rintro e w2 ⟨r, hq0, hq1, rfl, c2, g2⟩
  obtain ⟨q, rfl⟩ : ∃ q : Nat, r = q := ⟨r.toNat, by omega⟩
  have G2 := Lib.hid (G1.out.trans g2)
  have C2 := Lib.hid c2
  clear g2 c2 hx
  go_wp2
  go_loopw [3, 4] (fun s n wr => ∃ (x : ByteArray) (k : Nat), k ≤ 3 ∧ n = .int .i64 k ∧ s = .string x ∧ x.size + k ≤ 5 ∧ Cur wr B g ∧ w.grownBy wr (some g)) (fun _ n _ => (intOf n).toNat)
  case atStart => exact ⟨x, q, by omega, rfl, rfl, by omega, C2.out, G2.out⟩
  case round =>
    obtain ⟨y, k', hk3, rfl, rfl, hy, hcr, hgr⟩ := hrel
    have CR := Lib.hid hcr
    have GR := Lib.hid hgr
    clear hcr hgr
    have hs := GR.out.size
    rcases k' with _ | k'
    · go_wp2
      go_ret
      exact ⟨y, by omega, rfl, CR.out, GR.out⟩
    · have hcast : (((k' + 1 : Nat) : Int)) = (k' : Int) + 1 := by omega
      rw [hcast]
      clear hcast
      go_wp2_with fail
      refine (below_any _ B g 4 (by omega) (by omega) (CR.out.grown (World.grownBy_alloc wr _ none) (fun r h => by cases h))).mono ?_
      rintro e w3 ⟨r, hr0, hr1, rfl, c3, g3⟩
      have hblk := g3.block wr.heap.size (by simp) (by intro e; cases e; omega)
      rw [heap_alloc_new] at hblk
      obtain ⟨k, rfl⟩ : ∃ k : Nat, r = k := ⟨r.toNat, by omega⟩
      obtain ⟨z, hz5, hz⟩ := str_cell (xs := [⟨#[49]⟩, ⟨#[50]⟩, ⟨#[97]⟩, ⟨#[102]⟩]) hblk 1 (by decide) k (by simp; omega)
      clear hblk
      have hadd := add_str y z (by omega)
      have G3 := Lib.hid (GR.out.trans ((World.grownBy_alloc wr _ (some g)).trans g3))
      have C3 := Lib.hid c3
      clear g3 c3 CR
      go_wp2
      go_roundw
      case rel => exact ⟨y ++ z, k', by omega, by go_num, rfl, by rw [ByteArray.size_append]; omega, C3.out, G3.out⟩
      case measure => simp [intOf]

/-- a text was made, the old world is as it was. -/
def Text2 (w : World) (m : Nat) (e : Ending) (w' : World) : Prop := ∃ s : ByteArray, s.size ≤ m ∧ e = .returned (.string s) ∧ Below w.heap.size w w'
theorem from_m1 (w : World) (B g : Nat) (hc : Cur w B g) :
    Calls Try.prog 115 #[.pointer (some ⟨g, 0, none⟩), .int .i64 (-1), .int .i64 16] w fun e w' => ∃ r : Int, e = .returned (.int .i64 r) ∧ Cur w' B g ∧ w.grownBy w' (some g) := by
  have HC := Lib.hid hc
  clear hc
  go_enter Try.func115, Try.ntmps115
  go_wp2_with fail
  refine (below_any _ B g 18 (by omega) (by omega) HC.out).mono ?_
  rintro e w1 ⟨r, hr0, hr1, rfl, c1, g1⟩
  have C1 := Lib.hid c1
  have G1 := Lib.hid g1
  clear c1 g1
  go_wp2
  go_ret
  exact ⟨_, rfl, C1.out, G1.out⟩
end Go.Proofs.Ytebfinedkjlbbaa

-- Draw2P: The lists of numbers that chapter 2 draws: one of the call's own, two of them.
namespace Go.Proofs.Ytebfinedkjlbbaa
set_option maxRecDepth 20000
open Go.RowKit

theorem OwnI.apart {w w' : World} {base n c r r' : Nat} {xs : List Int} (h : OwnI w base (some ⟨r, 0, none⟩) n c xs) (hg : w.grownBy w' (some r')) (hne : r ≠ r') : OwnI w' base (some ⟨r, 0, none⟩) n c xs :=
  World.ownsRow.kept h hg (.inr (by simp [Value.ownBlock]; exact hne))
theorem OwnI.lt {w : World} {base n c r : Nat} {xs : List Int} (h : OwnI w base (some ⟨r, 0, none⟩) n c xs) : base ≤ r ∧ r < w.heap.size := World.ownsRow.lt h r rfl

/-- a list of at most m numbers was drawn into a row of the call's own. -/
def Path1 (w : World) (B g : Nat) (m : Nat) (e : Ending) (w' : World) : Prop :=
  ∃ r n c xs, n ≤ m ∧ e = .returned (.slice (some ⟨r, 0, none⟩) n c) ∧ OwnI w' w.heap.size (some ⟨r, 0, none⟩) n c xs ∧ Cur w' B g ∧ w.grownBy w' (some g)

/-- what an append to a list of the call's own leaves. -/
theorem appended {w0 w1 w2 : World} {B g r n c r' c' m : Nat} {xs ys : List Int} {o : Obj} (hlt : g < w0.heap.size) (hown : OwnI w1 w0.heap.size (some ⟨r, 0, none⟩) n c xs) (hc : Cur w1 B g) (hg : w0.grownBy w1 (some g))
    (hown' : w2.ownsRow w0.heap.size 2 1 (.slice (some ⟨r', 0, none⟩) m c') m (xs.map (Value.int .i64) ++ ys.map (Value.int .i64))) (hgrow : (w1.alloc o).grownBy w2 (Value.slice (some ⟨r, 0, none⟩) n c).ownBlock) :
    OwnI w2 w0.heap.size (some ⟨r', 0, none⟩) m c' (xs ++ ys) ∧ Cur w2 B g ∧ w0.grownBy w2 (some g) := by
  have hl := hown.lt
  have hge := hc.ge
  have hg1 : w1.grownBy w2 (some r) := (World.grownBy_alloc w1 o (some r)).trans hgrow
  refine ⟨?_, hc.grown hg1 (fun k e => by cases e; omega), grown_new hg hg1 hl.1⟩
  unfold OwnI
  rw [List.map_append]
  exact hown'

theorem l2DrawPath_any (w : World) (B g : Nat) (hc : Cur w B g) :
    Calls Try.prog 116 #[.pointer (some ⟨g, 0, none⟩)] w (Path1 w B g 9) := by
  have hlt := hc.lt
  have HC := Lib.hid hc
  clear hc
  obtain ⟨i0, hi, hz0, hz1, hz2⟩ := info_parts Try.infoI
  have HI := Lib.hid hi
  have HZ0 := Lib.hid hz0
  have HZ1 := Lib.hid hz1
  have HZ2 := Lib.hid hz2
  clear hi hz0 hz1 hz2
  go_enter Try.func116, Try.ntmps116
  go_wp2_with fail
  refine (below_any _ B g 6 (by omega) (by omega) (HC.out.grown (World.grownBy_alloc w _ none) (fun r h => by cases h))).mono ?_
  rintro e w1 ⟨r, hr0, hr1, rfl, c1, g1⟩
  have M1 := Lib.hid ((OwnI.empty w w.heap.size (Nat.le_refl _)).grown g1 (fun r h => by cases h; exact hlt))
  have G1 := Lib.hid ((World.grownBy_alloc w _ (some g)).trans g1)
  have C1 := Lib.hid c1
  obtain ⟨q, rfl⟩ : ∃ q : Nat, r = q := ⟨r.toNat, by omega⟩
  clear g1 c1 HC
  go_wp2
  go_loopw [3, 4] (fun s n wr => ∃ (r m c k : Nat) (xs : List Int), k ≤ 5 ∧ m + k ≤ 5 ∧ n = .int .i64 k ∧ s = .slice (some ⟨r, 0, none⟩) m c ∧ OwnI wr w.heap.size (some ⟨r, 0, none⟩) m c xs ∧ Cur wr B g ∧ w.grownBy wr (some g)) (fun _ n _ => (intOf n).toNat)
  case atStart => exact ⟨_, 0, 0, q, [], by omega, by omega, rfl, rfl, M1.out, C1.out, G1.out⟩
  case round =>
    obtain ⟨r, m, c, k', xs, hk5, hmk, rfl, rfl, hown, hcr, hgr⟩ := hrel
    have MR := Lib.hid hown
    have CR := Lib.hid hcr
    have GR := Lib.hid hgr
    clear hown hcr hgr M1 C1 G1
    have hs := GR.out.size
    rcases k' with _ | k'
    · go_wp2_with fail
      refine (once_any _ B g 10 (by omega) (by omega) CR.out).mono ?_
      rintro e w2 ⟨b, rfl, c2, g2⟩
      have M2 := Lib.hid (MR.out.grown g2 (fun r h => by cases h; exact hlt))
      have G2 := Lib.hid (GR.out.trans g2)
      have C2 := Lib.hid c2
      clear g2 c2 MR CR
      cases b
      · go_wp2_with fail
        refine (once_any _ B g 12 (by omega) (by omega) C2.out).mono ?_
        rintro e w5 ⟨b5, rfl, c5, g5⟩
        have M5 := Lib.hid (M2.out.grown g5 (fun r h => by cases h; exact hlt))
        have G5 := Lib.hid (G2.out.trans g5)
        have C5 := Lib.hid c5
        have hs5 := G5.out.size
        clear g5 c5
        cases b5
        · go_wp2
          go_ret
          exact ⟨_, _, _, _, by omega, rfl, M5.out, C5.out, G5.out⟩
        · go_wp2_with (at_builtin; refine wpList_append_lies _ rfl _ _ 23 rfl w.heap.size 2 i0 (.int .i64 0) 1 8 Try.underlying23 HI.out HZ0.out HZ1.out HZ2.out rfl (by decide) _ _ _ rfl (M5.out.alloc _) ⟨w5.heap.size, 0, none⟩ 3 3 ([1, 2, 3].map (Value.int .i64)) rfl rfl ?p1 ?p2 (by omega) ?p3 ?p4 ?p5 _ rfl ?_)
          case p1 =>
            intro j u hj
            match j, hj with
            | 0, hj => simp at hj; subst hj; simp [Addr.add]
            | 1, hj => simp at hj; subst hj; simp [Addr.add]
            | 2, hj => simp at hj; subst hj; simp [Addr.add]
          case p2 => intro u hu; simp at hu; rcases hu with rfl | rfl | rfl <;> rfl
          case p3 => unfold maxLen; omega
          case p4 => omega
          case p5 => simp; omega
          intro r6 c6 w6 hown6 hgrow6 _ _
          obtain ⟨m6, k6, g6⟩ := appended hlt M5.out C5.out G5.out (xs := xs) (ys := [1, 2, 3]) (by simpa using hown6) hgrow6
          have M6 := Lib.hid m6
          have C6 := Lib.hid k6
          have G6 := Lib.hid g6
          clear m6 k6 g6 hown6 hgrow6
          go_wp2
          go_ret
          exact ⟨_, _, _, _, by omega, rfl, M6.out, C6.out, G6.out⟩
      · go_wp2_with fail
        refine (from_m1 _ B g C2.out).mono ?_
        rintro e w3 ⟨z, rfl, c3, g3⟩
        have M3 := Lib.hid (M2.out.grown g3 (fun r h => by cases h; exact hlt))
        have G3 := Lib.hid (G2.out.trans g3)
        have C3 := Lib.hid c3
        have hs3 := G3.out.size
        clear g3 c3 M2 C2
        go_wp2_with (at_builtin; refine wpList_append_lies _ rfl _ _ 23 rfl w.heap.size 2 i0 (.int .i64 0) 1 8 Try.underlying23 HI.out HZ0.out HZ1.out HZ2.out rfl (by decide) _ _ _ rfl (M3.out.alloc _) ⟨w3.heap.size, 0, none⟩ 1 1 ([z].map (Value.int .i64)) rfl rfl ?q1 ?q2 (by omega) ?q3 ?q4 ?q5 _ rfl ?_)
        case q1 =>
          intro j u hj
          match j, hj with
          | 0, hj => simp at hj; subst hj; simp [Addr.add]
        case q2 => intro u hu; simp at hu; subst hu; rfl
        case q3 => unfold maxLen; omega
        case q4 => omega
        case q5 => simp; omega
        intro r4 c4 w4 hown4 hgrow4 _ _
        obtain ⟨m4, k4, g4⟩ := appended hlt M3.out C3.out G3.out (xs := xs) (ys := [z]) (by simpa using hown4) hgrow4
        have M4 := Lib.hid m4
        have C4 := Lib.hid k4
        have G4 := Lib.hid g4
        clear m4 k4 g4 hown4 hgrow4
        go_wp2_with fail
        refine (once_any _ B g 12 (by omega) (by omega) C4.out).mono ?_
        rintro e w5 ⟨b5, rfl, c5, g5⟩
        have M5 := Lib.hid (M4.out.grown g5 (fun r h => by cases h; exact hlt))
        have G5 := Lib.hid (G4.out.trans g5)
        have C5 := Lib.hid c5
        have hs5 := G5.out.size
        clear g5 c5
        cases b5
        · go_wp2
          go_ret
          exact ⟨_, _, _, _, by omega, rfl, M5.out, C5.out, G5.out⟩
        · go_wp2_with (at_builtin; refine wpList_append_lies _ rfl _ _ 23 rfl w.heap.size 2 i0 (.int .i64 0) 1 8 Try.underlying23 HI.out HZ0.out HZ1.out HZ2.out rfl (by decide) _ _ _ rfl (M5.out.alloc _) ⟨w5.heap.size, 0, none⟩ 3 3 ([1, 2, 3].map (Value.int .i64)) rfl rfl ?s1 ?s2 (by omega) ?s3 ?s4 ?s5 _ rfl ?_)
          case s1 =>
            intro j u hj
            match j, hj with
            | 0, hj => simp at hj; subst hj; simp [Addr.add]
            | 1, hj => simp at hj; subst hj; simp [Addr.add]
            | 2, hj => simp at hj; subst hj; simp [Addr.add]
          case s2 => intro u hu; simp at hu; rcases hu with rfl | rfl | rfl <;> rfl
          case s3 => unfold maxLen; omega
          case s4 => omega
          case s5 => simp; omega
          intro r6 c6 w6 hown6 hgrow6 _ _
          obtain ⟨m6, k6, g6⟩ := appended hlt M5.out C5.out G5.out (xs := (xs ++ [z])) (ys := [1, 2, 3]) (by simpa using hown6) hgrow6
          have M6 := Lib.hid m6
          have C6 := Lib.hid k6
          have G6 := Lib.hid g6
          clear m6 k6 g6 hown6 hgrow6
          go_wp2
          go_ret
          exact ⟨_, _, _, _, by omega, rfl, M6.out, C6.out, G6.out⟩
    · have hcast : (((k' + 1 : Nat) : Int)) = (k' : Int) + 1 := by omega
      rw [hcast]
      clear hcast
      go_wp2_with fail
      refine (below_any _ B g 4 (by omega) (by omega) (CR.out.grown (World.grownBy_alloc wr _ none) (fun r h => by cases h))).mono ?_
      rintro e w3 ⟨p, hr0, hr1, rfl, c3, g3⟩
      have hblk := g3.block wr.heap.size (by simp) (by intro e; cases e; omega)
      rw [heap_alloc_new] at hblk
      obtain ⟨k, rfl⟩ : ∃ k : Nat, p = k := ⟨p.toNat, by omega⟩
      obtain ⟨z, hz⟩ := int_cell (xs := [1, 2, 10, 15]) hblk k (by simp; omega)
      clear hblk
      have g3' := (World.grownBy_alloc wr _ (some g)).trans g3
      have M3 := Lib.hid (MR.out.grown g3' (fun r h => by cases h; exact hlt))
      have G3 := Lib.hid (GR.out.trans g3')
      have C3 := Lib.hid c3
      clear g3 c3 CR g3' MR
      have hs3 := G3.out.size
      go_wp2_with (at_builtin; refine wpList_append_lies _ rfl _ _ 23 rfl w.heap.size 2 i0 (.int .i64 0) 1 8 Try.underlying23 HI.out HZ0.out HZ1.out HZ2.out rfl (by decide) _ _ _ rfl (M3.out.alloc _) ⟨w3.heap.size, 0, none⟩ 1 1 ([z].map (Value.int .i64)) rfl rfl ?c1 ?c2 (by omega) ?c3 ?c4 ?c5 _ rfl ?_)
      case c1 =>
        intro j u hj
        match j, hj with
        | 0, hj => simp at hj; subst hj; simp [Addr.add]
      case c2 => intro u hu; simp at hu; subst hu; rfl
      case c3 => unfold maxLen; omega
      case c4 => omega
      case c5 => simp; omega
      intro r4 c4 w4 hown4 hgrow4 _ _
      obtain ⟨m4, k4, g4⟩ := appended hlt M3.out C3.out G3.out (xs := xs) (ys := [z]) (by simpa using hown4) hgrow4
      have M4 := Lib.hid m4
      have C4 := Lib.hid k4
      have G4 := Lib.hid g4
      clear m4 k4 g4 hown4 hgrow4
      go_wp2
      go_roundw
      case rel => exact ⟨_, _, _, k', _, by omega, by omega, by go_num, rfl, M4.out, C4.out, G4.out⟩
      case measure => simp [intOf]
end Go.Proofs.Ytebfinedkjlbbaa

-- PathS: What the model's KeyOk, PathOf, KeyOf and CommonOf answer: for every text, every list.
namespace Go.Proofs.Ytebfinedkjlbbaa
set_option maxRecDepth 20000
open Go.RowKit

theorem l2Worth_any (c : Int) (w : World) (hc : 0 ≤ c ∧ c ≤ 255) :
    Calls Try.prog 138 #[.int .u8 c] w fun e w' => e = .returned (.int .i64 (wd c)) ∧ w = w' := by
  obtain ⟨hc0, hc1⟩ := hc
  by_cases h1 : 48 ≤ c ∧ c ≤ 57
  · obtain ⟨h1a, h1b⟩ := h1
    have e : wd c = c - 48 := if_pos ⟨h1a, h1b⟩
    rw [e]
    clear e
    go_enter Try.func138, Try.ntmps138
    go_wp2
    go_ret
    exact ⟨rfl, rfl⟩
  · by_cases h2 : 97 ≤ c ∧ c ≤ 102
    · have e : wd c = c - 97 + 10 := by unfold wd; rw [if_neg h1, if_pos h2]; omega
      rw [e]
      obtain ⟨h2a, h2b⟩ := h2
      clear e h1
      go_enter Try.func138, Try.ntmps138
      go_wp2
      go_ret
      exact ⟨rfl, rfl⟩
    · have e : wd c = -1 := by unfold wd; rw [if_neg h1, if_neg h2]
      rw [e]
      have h1 : c < 48 ∨ 57 < c := by omega
      have h2 : c < 97 ∨ 102 < c := by omega
      clear e
      go_enter Try.func138, Try.ntmps138
      rcases h1 with h1 | h1
      · go_wp2
        go_ret
        exact ⟨rfl, rfl⟩
      · rcases h2 with h2 | h2
        · go_wp2
          go_ret
          exact ⟨rfl, rfl⟩
        · go_wp2
          go_ret
          exact ⟨rfl, rfl⟩
theorem specKeyOk_any (s : ByteArray) (w : World) (hs : s.size ≤ 1048576) :
    Calls Try.prog 137 #[.string s] w fun e w' => e = .returned (.bool (isKey (sb s))) ∧ w = w' := by
  have hlen := sb_len s
  go_enter Try.func137, Try.ntmps137
  go_wp2
  go_loop [3] (fun i => ∃ k : Nat, k ≤ s.size ∧ i = .int .i64 k ∧ (∀ z ∈ (sb s).take k, 0 ≤ wd z)) (fun i => s.size - (intOf i).toNat)
  case atStart => exact ⟨0, Nat.zero_le _, rfl, by simp⟩
  case round =>
    obtain ⟨k, hk, rfl, hgood⟩ := hrel
    by_cases hlt : k < s.size
    · have hat := sb_at s k hlt
      have hr := (s[k]'hlt).toNat_lt
      by_cases hw : 0 ≤ wd ((s[k]'hlt).toNat)
      · go_wp2_with fail
        refine (l2Worth_any _ _ (by omega)).mono ?_
        rintro e w' ⟨rfl, rfl⟩
        go_wp2
        go_round
        case rel => exact ⟨k + 1, by omega, by go_num, good_step (sb s) k (by omega) hgood (by rw [hat]; exact hw)⟩
        case measure => simp [intOf]; omega
      · go_wp2_with fail
        refine (l2Worth_any _ _ (by omega)).mono ?_
        rintro e w' ⟨rfl, rfl⟩
        go_wp2
        go_ret
        exact ⟨by rw [isKey_bad (sb s) k (by omega) (by rw [hat]; omega)]; rfl, rfl⟩
    · have e : (sb s).take k = sb s := List.take_of_length_le (by omega)
      rw [e] at hgood
      have HG := Lib.hid (isKey_good (sb s) hgood)
      by_cases h1 : 1 ≤ s.size
      · go_wp2
        go_ret
        exact ⟨by rw [HG.out]; exact ret_b (by rw [hlen]; first | exact decide_eq_decide.2 (by omega) | exact (decide_eq_false (by omega)).symm), rfl⟩
      · go_wp2
        go_ret
        exact ⟨by rw [HG.out]; exact ret_b (by rw [hlen]; first | exact decide_eq_decide.2 (by omega) | exact (decide_eq_false (by omega)).symm), rfl⟩

theorem specPathOf_any (s : ByteArray) (w : World) (hs : s.size ≤ 1048576) :
    Calls Try.prog 117 #[.string s] w (GaveI w (pathOf (sb s))) := by
  have hlen := sb_len s
  by_cases hkey : isKey (sb s) = true
  · have HK := Lib.hid hkey
    have h8 := ((isKey_iff _).1 hkey).1
    have hgood := ((isKey_iff _).1 hkey).2
    have hr : pathOf (sb s) = (sb s).map wd := pathOf_good (sb s) (by omega) hgood
    clear hkey
    obtain ⟨i0, hi, hz0, hz1, hz2⟩ := info_parts Try.infoI
    have HI := Lib.hid hi
    have HZ0 := Lib.hid hz0
    have HZ1 := Lib.hid hz1
    have HZ2 := Lib.hid hz2
    have HR := Lib.hid hr
    clear hi hz0 hz1 hz2 hr
    go_enter Try.func117, Try.ntmps117
    go_wp2
    go_loopw [3, 4] (fun v i wr => ∃ k : Nat, k ≤ s.size ∧ i = .int .i64 k ∧ wr.ownsRow w.heap.size 2 1 v k ((((sb s).take k).map wd).map (Value.int .i64)) ∧ Below w.heap.size w wr) (fun _ i _ => s.size - (intOf i).toNat)
    case atStart => exact ⟨0, Nat.zero_le _, rfl, OwnI.empty w _ (Nat.le_refl _), (Below.refl _ _).alloc (Nat.le_refl _) _⟩
    case round =>
      obtain ⟨k, hk, rfl, hown, hbel⟩ := hrel
      have hsz := hbel.size
      by_cases hlt : k < s.size
      · have hat := sb_at s k hlt
        have hrg := (s[k]'hlt).toNat_lt
        go_wp2_with fail
        refine (specKeyOk_any s _ hs).mono ?_
        rintro e w' ⟨rfl, rfl⟩
        rw [HK.out]
        go_wp2_with fail
        refine (l2Worth_any _ _ (by omega)).mono ?_
        rintro e w' ⟨rfl, rfl⟩
        go_wp2_with (at_builtin; refine wpList_append_own _ rfl _ _ 23 rfl w.heap.size 2 i0 (.int .i64 0) 1 8 Try.underlying23 HI.out HZ0.out HZ1.out HZ2.out rfl (by decide) _ _ _ rfl (hown.alloc _) ⟨wr.heap.size, 0, none⟩ 1 1 [.int .i64 (wd ((s[k]'hlt).toNat))] rfl rfl ?c1 ?c2 ?c3 ?c4 ?c5 ?_)
        case c1 =>
          intro j u hj
          match j, hj with
          | 0, hj => simp at hj; subst hj; simp [Addr.add]
        case c2 => intro u hu; simp at hu; subst hu; rfl
        case c3 => unfold maxLen; omega
        case c4 => omega
        case c5 => simp; omega
        intro v' w1 hown' hgrow _
        have hown2 : w1.ownsRow w.heap.size 2 1 v' (k + 1) ((((sb s).take (k + 1)).map wd).map (Value.int .i64)) := by
          rw [map_take_step wd (sb s) k (by omega), hat]
          simpa using hown'
        have hb1 : Below w.heap.size w w1 := (hbel.alloc hsz _).grown hgrow (by simp; omega) (fun g hg => (hown.lt g hg).1)
        clear hgrow hown hbel hown'
        go_wp2
        go_roundw
        case rel => exact ⟨k + 1, by omega, by go_num, hown2, hb1⟩
        case measure => simp [intOf]; omega
      · obtain rfl : k = s.size := by omega
        obtain ⟨A, c, rfl⟩ := own_slice hown
        have e : (sb s).take s.size = sb s := List.take_of_length_le (by omega)
        rw [e] at hown
        go_wp2
        go_ret
        exact ⟨A, s.size, c, rfl, by rw [HR.out]; exact hown, hbel⟩
  · have hkey : isKey (sb s) = false := by simpa using hkey
    have hr : pathOf (sb s) = [] := by unfold pathOf; rw [if_neg (by rw [hkey]; decide)]
    have HK := Lib.hid hkey
    have HR := Lib.hid hr
    clear hr hkey
    go_enter Try.func117, Try.ntmps117
    go_wp2
    go_loopw [3, 4] (fun v i wr => i = .int .i64 0 ∧ wr.ownsRow w.heap.size 2 1 v 0 [] ∧ Below w.heap.size w wr) (fun _ _ _ => 0)
    case atStart => exact ⟨rfl, OwnI.empty w _ (Nat.le_refl _), (Below.refl _ _).alloc (Nat.le_refl _) _⟩
    case round =>
      obtain ⟨rfl, hown, hbel⟩ := hrel
      obtain ⟨A, c, rfl⟩ := own_slice hown
      by_cases hlt : 0 < s.size
      · go_wp2_with fail
        refine (specKeyOk_any s _ hs).mono ?_
        rintro e w' ⟨rfl, rfl⟩
        rw [HK.out]
        go_wp2
        go_ret
        exact ⟨A, 0, c, rfl, by rw [HR.out]; exact hown, hbel⟩
      · go_wp2
        go_ret
        exact ⟨A, 0, c, rfl, by rw [HR.out]; exact hown, hbel⟩

end Go.Proofs.Ytebfinedkjlbbaa

-- Draw3: What chapter 3's drawing functions make: a value, a node of the call's own.
namespace Go.Proofs.Ytebfinedkjlbbaa
set_option maxRecDepth 20000
open Go.RowKit

theorem drawn_end {w w1 w2 : World} {B g : Nat} (hg : g < w.heap.size) (c : Cur w1 B g) (h : w.grownBy w1 (some g)) (t : Touch (fun x => x = w.heap.size) w1 w2) : Cur w2 B g ∧ w.grownBy w2 (some g) := by
  have hge := c.ge
  exact ⟨c.grown t.one (fun r e => by cases e; omega), grown_new h t.one (Nat.le_refl _)⟩

/-- a number below a bound of more than 256. -/
theorem below_wide (w : World) (B g : Nat) (m : Int) (h0 : 256 < m) (h1 : m ≤ 1048576) (hc : Cur w B g) :
    Calls Try.prog 77 #[.pointer (some ⟨g, 0, none⟩), .int .i64 m] w (Drawn w B g m) := by
  have HC := Lib.hid hc
  clear hc
  go_enter Try.func77, Try.ntmps77
  go_wp2_with fail
  refine (byte_any _ B g HC.out).mono ?_
  rintro e w1 ⟨r1, ha0, ha1, rfl, c1, g1⟩
  have C1 := Lib.hid c1
  have G1 := Lib.hid g1
  clear c1 g1
  go_wp2_with fail
  refine (byte_any _ B g C1.out).mono ?_
  rintro e w2 ⟨r2, hb0, hb1, rfl, c2, g2⟩
  have C2 := Lib.hid c2
  have G2 := Lib.hid (G1.out.trans g2)
  clear c2 g2
  go_wp2_with fail
  refine (byte_any _ B g C2.out).mono ?_
  rintro e w3 ⟨r3, hc0, hc1, rfl, c3, g3⟩
  have C3 := Lib.hid c3
  have G3 := Lib.hid (G2.out.trans g3)
  clear c3 g3
  go_wp2_with fail
  refine (byte_any _ B g C3.out).mono ?_
  rintro e w4 ⟨r4, hd0, hd1, rfl, c4, g4⟩
  have C4 := Lib.hid c4
  have G4 := Lib.hid (G3.out.trans g4)
  clear c4 g4
  go_wp2
  go_ret
  exact ⟨_, Int.emod_nonneg _ (by omega), Int.emod_lt_of_pos _ (by omega), rfl, C4.out, G4.out⟩
theorem l3DrawValue_any (w : World) (B g : Nat) (hc : Cur w B g) :
    Calls Try.prog 78 #[.pointer (some ⟨g, 0, none⟩)] w (Text1 w B g 5) := by
  have hlt := hc.lt
  have HC := Lib.hid hc
  clear hc
  go_enter Try.func78, Try.ntmps78
  go_wp2_with fail
  refine (below_any _ B g 6 (by omega) (by omega) (HC.out.grown (World.grownBy_alloc w _ none) (fun r h => by cases h))).mono ?_
  rintro e w1 ⟨r, hr0, hr1, rfl, c1, g1⟩
  have hblk := g1.block w.heap.size (by simp) (by intro e; cases e; omega)
  rw [heap_alloc_new] at hblk
  obtain ⟨k, rfl⟩ : ∃ k : Nat, r = k := ⟨r.toNat, by omega⟩
  obtain ⟨x, hx5, hx⟩ := str_cell (xs := [⟨#[120]⟩, ⟨#[121, 121]⟩, ⟨#[49]⟩, ⟨#[122, 101, 98, 114, 97]⟩, ⟨#[113, 55]⟩, ⟨#[97, 98, 99]⟩]) hblk 5 (by decide) k (by simp; omega)
  clear hblk
  have G1 := Lib.hid ((World.grownBy_alloc w _ (some g)).trans g1)
  have C1 := Lib.hid c1
  clear g1 c1 HC
  go_wp2
  go_ret
  exact ⟨x, hx5, rfl, C1.out, G1.out⟩
/-- a node of the call's own was drawn, its lists short. -/
def NodeDrawn (w : World) (B g : Nat) (e : Ending) (w' : World) : Prop :=
  ∃ v nd, e = .returned v ∧ OwnN w' w.heap.size v nd ∧ NodeWf nd ∧ nd.path.length ≤ 8 ∧ nd.kids.length ≤ 2 ∧ nd.val.size ≤ 5 ∧ Cur w' B g ∧ w.grownBy w' (some g)
set_option maxHeartbeats 800000 in
theorem l3Draw_any (w : World) (B g : Nat) (hc : Cur w B g) :
    Calls Try.prog 75 #[.pointer (some ⟨g, 0, none⟩)] w (NodeDrawn w B g) := by
  have hlt := hc.lt
  have HC := Lib.hid hc
  clear hc
  go_enter Try.func75, Try.ntmps75
  go_wp2_with fail
  refine (below_any _ B g 3 (by omega) (by omega) (HC.out.grown (World.grownBy_alloc w _ none) (fun r h => by cases h))).mono ?_
  rintro e w1 ⟨r, hr0, hr1, rfl, c1, g1⟩
  have X1 := Lib.hid (Box.grown (t := 26) (heap_alloc_new w _) g1 (by intro e; cases e; omega))
  have G1 := Lib.hid ((World.grownBy_alloc w _ (some g)).trans g1)
  have C1 := Lib.hid c1
  clear g1 c1 HC
  have s1 : w.heap.size < w1.heap.size := X1.out.lt
  obtain ⟨k, rfl⟩ : ∃ k : Nat, r = k := ⟨r.toNat, by omega⟩
  rcases (show k = 0 ∨ k = 1 ∨ k = 2 by omega) with rfl | rfl | rfl
  · go_wp2_with fail
    refine (l2Draw_any _ B g C1.out).mono ?_
    rintro e w2 ⟨s, hs, rfl, c2, g2⟩
    have X2 := Lib.hid (X1.out.grown g2 (by intro e; cases e; omega))
    have G2 := Lib.hid (G1.out.trans g2)
    have C2 := Lib.hid c2
    have s2 := g2.size
    have l2 := c2.lt
    clear g2 c2
    go_wp2_with fail
    refine (specPathOf_any s _ (by omega)).mono ?_
    rintro e w3 ⟨A3, n3, c3, rfl, m3, b3⟩
    have hp8 := pathOf_len (sb s)
    have X3 := Lib.hid (X2.out.below b3 (by omega))
    have G3 := Lib.hid (G2.out.trans (⟨b3.os, b3.tape, b3.output, b3.size, fun k hk _ => b3.block k hk⟩ : w2.grownBy w3 (some g)))
    have C3 := Lib.hid (C2.out.grown (⟨b3.os, b3.tape, b3.output, b3.size, fun k hk _ => b3.block k hk⟩ : w2.grownBy w3 none) (fun r h => by cases h))
    have M3 := Lib.hid m3
    have s3 := b3.size
    have e3 := m3.len
    clear m3 b3
    generalize pathOf (sb s) = ps at M3 hp8 e3
    go_wp2_with fail
    refine (l3DrawValue_any _ B g C3.out).mono ?_
    rintro e w4 ⟨v4, hv4, rfl, c4, g4⟩
    have X4 := Lib.hid (X3.out.grown g4 (by intro e; cases e; omega))
    have M4 := Lib.hid (M3.out.grown g4 (fun r h => by cases h; omega))
    have G4 := Lib.hid (G3.out.trans g4)
    have C4 := Lib.hid c4
    have s4 := g4.size
    clear g4 c4
    have q10 := X4.out.cell 0
    have q11 := X4.out.cell 1
    have q12 := X4.out.cell 2
    have q13 := X4.out.cell 3
    have f1 := X4.out.free
    simp at q10 q11 q12 q13
    go_wp2
    obtain ⟨hX, hb⟩ := set4 X4.out (.int .i64 1) (.slice A3 n3 c3) (.slice none 0 0) (.string v4)
    refine bodyPost_ret (v := .agg #[.int .i64 1, .slice A3 n3 c3, .slice none 0 0, .string v4]) (results_cell_row Try.results75 _ _ w.heap.size _ _ _ _ rfl hX Try.underlying26 rfl (by kernel_rfl)) rfl ?_
    obtain ⟨c5, g5⟩ := drawn_end hlt C4.out G4.out hb
    exact ⟨_, ⟨1, ps, [], v4⟩, rfl, ⟨A3, n3, c3, none, 0, 0, rfl, by omega, by omega, by simp only; omega, (M4.out.touch hb (fun g hg h => by have := (World.ownsRow.lt M4.out g hg).1; omega)).base (by omega), OwnK.nil _ _, fun _ _ h => by simp [Value.ownBlock] at h⟩,
      fun k hk => by simp at hk, hp8, by simp, hv4, c5, g5⟩
  · go_wp2_with fail
    refine (l2Draw_any _ B g C1.out).mono ?_
    rintro e w2 ⟨s, hs, rfl, c2, g2⟩
    have X2 := Lib.hid (X1.out.grown g2 (by intro e; cases e; omega))
    have G2 := Lib.hid (G1.out.trans g2)
    have C2 := Lib.hid c2
    have s2 := g2.size
    have l2 := c2.lt
    clear g2 c2
    go_wp2_with fail
    refine (specPathOf_any s _ (by omega)).mono ?_
    rintro e w3 ⟨A3, n3, c3, rfl, m3, b3⟩
    have hp8 := pathOf_len (sb s)
    have X3 := Lib.hid (X2.out.below b3 (by omega))
    have G3 := Lib.hid (G2.out.trans (below_grow b3))
    have C3 := Lib.hid (C2.out.grown (below_grow b3 (row := none)) (fun r h => by cases h))
    have M3 := Lib.hid m3
    have s3 := b3.size
    have e3 := m3.len
    clear m3 b3
    generalize pathOf (sb s) = ps at M3 hp8 e3
    go_wp2_with fail
    refine (below_wide _ B g 900 (by omega) (by omega) C3.out).mono ?_
    rintro e w4 ⟨r, hr0, hr1, rfl, c4, g4⟩
    have X4 := Lib.hid (X3.out.grown g4 (by intro e; cases e; omega))
    have M4 := Lib.hid (M3.out.grown g4 (fun r h => by cases h; omega))
    have G4 := Lib.hid (G3.out.trans g4)
    have C4 := Lib.hid c4
    have s4 := g4.size
    clear g4 c4
    have hw1 : IntKind.i64.wrap (1 + r) = 1 + r := by rw [IntKind.wrap_i64]; omega
    have l4 := X4.out.lt
    have q10 := X4.out.cell 0
    have q11 := X4.out.cell 1
    have q12 := X4.out.cell 2
    have q13 := X4.out.cell 3
    have f1 := X4.out.free
    simp at q10 q11 q12 q13
    go_wp2
    obtain ⟨hX, hb⟩ := set4 X4.out (.int .i64 2) (.slice A3 n3 c3) (.slice (some ⟨w4.heap.size, 0, none⟩) 1 1) (.string { data := #[] })
    have hs5 : ((((w4.setCell ⟨w.heap.size, 0, none⟩ (.int .i64 2)).setCell ⟨w.heap.size, 1, none⟩ (.slice A3 n3 c3)).setCell ⟨w.heap.size, 2, none⟩ (.slice (some ⟨w4.heap.size, 0, none⟩) 1 1)).setCell ⟨w.heap.size, 3, none⟩ (.string { data := #[] })).heap.size = w4.heap.size := by simp
    generalize ((((w4.setCell ⟨w.heap.size, 0, none⟩ (.int .i64 2)).setCell ⟨w.heap.size, 1, none⟩ (.slice A3 n3 c3)).setCell ⟨w.heap.size, 2, none⟩ (.slice (some ⟨w4.heap.size, 0, none⟩) 1 1)).setCell ⟨w.heap.size, 3, none⟩ (.string { data := #[] })) = w5 at hX hb hs5 ⊢
    have hX' : Box (w5.alloc (.cells #[.int .i64 0, .int .i64 (1 + r)] 80)) w.heap.size _ _ := (heap_alloc_old _ _ hX.lt).trans hX
    refine bodyPost_ret (v := .agg #[.int .i64 2, .slice A3 n3 c3, .slice (some ⟨w4.heap.size, 0, none⟩) 1 1, .string { data := #[] }]) (results_cell_row Try.results75 _ _ w.heap.size _ _ _ _ rfl hX' Try.underlying26 rfl (by kernel_rfl)) rfl ?_
    obtain ⟨c5, g5⟩ := drawn_end hlt C4.out G4.out hb
    have ha : Below w5.heap.size w5 (w5.alloc (.cells #[.int .i64 0, .int .i64 (1 + r)] 80)) := (Below.refl _ _).alloc (Nat.le_refl _) _
    have k5 := OwnK.of_alloc w5 w.heap.size [(0, 1 + r)] 1 (by omega) rfl (by unfold maxLen; omega)
    rw [hs5] at k5
    have hA : ∀ g, (Value.slice A3 n3 c3).ownBlock = some g → w2.heap.size ≤ g ∧ g < w4.heap.size := fun g hg => World.ownsRow.lt M4.out g hg
    refine ⟨_, ⟨2, ps, [(0, 1 + r)], { data := #[] }⟩, rfl, ⟨A3, n3, c3, some ⟨w4.heap.size, 0, none⟩, 1, 1, rfl, by omega, by omega, Nat.zero_le _, (((M4.out.touch hb (fun g hg h => by have := hA g hg; omega)).base (by omega)).below ha), k5, fun g hg h => ?_⟩,
      fun k hk => by simp at hk; subst hk; simp only; omega, hp8, by simp, Nat.zero_le _, c5.grown (below_grow ha (row := none)) (fun r h => by cases h), g5.trans (below_grow ha)⟩
    have h1 := own_eq h.symm
    have h2 := hA g hg
    omega
  · go_wp2_with fail
    refine (below_any _ B g 3 (by omega) (by omega) C1.out).mono ?_
    rintro e w2 ⟨a0, ha0, ha1, rfl, c2, g2⟩
    have X2 := Lib.hid (X1.out.grown g2 (by intro e; cases e; omega))
    have G2 := Lib.hid (G1.out.trans g2)
    have C2 := Lib.hid c2
    have s2 := g2.size
    clear g2 c2
    go_wp2_with fail
    refine (below_wide _ B g 900 (by omega) (by omega) C2.out).mono ?_
    rintro e w3 ⟨r0, hr0, hr1, rfl, c3, g3⟩
    have X3 := Lib.hid (X2.out.grown g3 (by intro e; cases e; omega))
    have G3 := Lib.hid (G2.out.trans g3)
    have C3 := Lib.hid c3
    have s3 := g3.size
    clear g3 c3
    go_wp2_with fail
    refine (below_any _ B g 13 (by omega) (by omega) C3.out).mono ?_
    rintro e w4 ⟨a1, hc0, hc1, rfl, c4, g4⟩
    have X4 := Lib.hid (X3.out.grown g4 (by intro e; cases e; omega))
    have G4 := Lib.hid (G3.out.trans g4)
    have C4 := Lib.hid c4
    have s4 := g4.size
    clear g4 c4
    go_wp2_with fail
    refine (below_any _ B g 9 (by omega) (by omega) C4.out).mono ?_
    rintro e w5 ⟨z, hz0, hz1, rfl, c5, g5⟩
    have X5 := Lib.hid (X4.out.grown g5 (by intro e; cases e; omega))
    have G5 := Lib.hid (G4.out.trans g5)
    have C5 := Lib.hid c5
    have s5 := g5.size
    clear g5 c5
    have hwz : IntKind.u8.wrap z = z := by rw [IntKind.wrap_u8]; omega
    have l5 := X5.out.lt
    obtain ⟨w6, hw6⟩ : ∃ w6, w5.alloc (.cells #[.int .u8 z] 5) = w6 := ⟨_, rfl⟩
    have ha : Below w5.heap.size w5 w6 := hw6 ▸ (Below.refl _ _).alloc (Nat.le_refl _) _
    have hrow : w6.heap[w5.heap.size]? = some (.cells (u8s [z]) 5 (0, 0)) := hw6 ▸ heap_alloc_new _ _
    have by6 := Byts.new (n := 1) rfl (fun y hy => by simp at hy; omega) hrow
    have X6 := Lib.hid (X5.out.below ha l5)
    have G6 := Lib.hid (G5.out.trans (below_grow ha))
    have C6 := Lib.hid (C5.out.grown (below_grow ha (row := none)) (fun r h => by cases h))
    have HW := Lib.hid hw6
    have s6 := ha.size
    clear hw6 ha hrow
    go_wp2_with fail
    rw [HW.out]
    refine (specName_any _ _ _ [z] _ w6 (by omega) by6).mono ?_
    rintro e _ ⟨rfl, rfl⟩
    clear by6
    have hnm := nameOf_bd [z]
    generalize nameOf [z] = nm at hnm
    have l6 := X6.out.lt
    have x7 : Box ((w6.alloc (.cells #[.int .i64 a0, .int .i64 (1 + r0), .int .i64 (3 + a1), .int .i64 nm] 80)).alloc (.cells #[.int .i64 3, .slice none 0 0, .slice (some ⟨w6.heap.size, 0, none⟩) 2 2, .string { data := #[] }] 26)) (w6.heap.size + 1) _ _ := heap2_1 _ _ _
    have s7 := size2 w6 (.cells #[.int .i64 a0, .int .i64 (1 + r0), .int .i64 (3 + a1), .int .i64 nm] 80) (.cells #[.int .i64 3, .slice none 0 0, .slice (some ⟨w6.heap.size, 0, none⟩) 2 2, .string { data := #[] }] 26)
    have b7 := below2 w6 (.cells #[.int .i64 a0, .int .i64 (1 + r0), .int .i64 (3 + a1), .int .i64 nm] 80) (.cells #[.int .i64 3, .slice none 0 0, .slice (some ⟨w6.heap.size, 0, none⟩) 2 2, .string { data := #[] }] 26)
    have k6 := OwnK.of_alloc w6 w.heap.size [(a0, 1 + r0), (3 + a1, nm)] 2 (by omega) rfl (by unfold maxLen; omega)
    have k7 := k6.below ((Below.refl _ _).alloc (Nat.le_refl _) (.cells #[.int .i64 3, .slice none 0 0, .slice (some ⟨w6.heap.size, 0, none⟩) 2 2, .string { data := #[] }] 26))
    go_wp2_with fail
    change OwnK ((w6.alloc (.cells #[.int .i64 a0, .int .i64 (1 + r0), .int .i64 (3 + a1), .int .i64 nm] 80)).alloc (.cells #[.int .i64 3, .slice none 0 0, .slice (some ⟨w6.heap.size, 0, none⟩) 2 2, .string { data := #[] }] 26)) _ _ _ _ _ at k7
    generalize ((w6.alloc (.cells #[.int .i64 a0, .int .i64 (1 + r0), .int .i64 (3 + a1), .int .i64 nm] 80)).alloc (.cells #[.int .i64 3, .slice none 0 0, .slice (some ⟨w6.heap.size, 0, none⟩) 2 2, .string { data := #[] }] 26)) = w7 at x7 s7 b7 k7 ⊢
    have X7 := Lib.hid (X6.out.below b7 l6)
    have G7 := Lib.hid (G6.out.trans (below_grow b7))
    have C7 := Lib.hid (C6.out.grown (below_grow b7 (row := none)) (fun r h => by cases h))
    have N7 := Lib.hid x7
    have K7 := Lib.hid k7
    clear x7 b7 k6 k7
    refine (once_any _ B g 2 (by omega) (by omega) C7.out).mono ?_
    rintro e w8 ⟨b, rfl, c8, g8⟩
    have X8 := Lib.hid (X7.out.grown g8 (by intro e; cases e; omega))
    have N8 := Lib.hid (N7.out.grown g8 (by intro e; cases e; omega))
    have K8 := Lib.hid (K7.out.grown g8 (fun r h => by cases h; omega))
    have G8 := Lib.hid (G7.out.trans g8)
    have C8 := Lib.hid c8
    have s8 := g8.size
    clear g8 c8
    cases b
    · have X9 := X8
      have N9 := N8
      have K9 := K8
      have C9 := C8
      have G9 := G8
      clear X8 N8 K8 C8 G8
      have q10 := X9.out.cell 0
      have q11 := X9.out.cell 1
      have q12 := X9.out.cell 2
      have q13 := X9.out.cell 3
      have f1 := X9.out.free
      have q20 := N9.out.cell 0
      have q21 := N9.out.cell 1
      have q22 := N9.out.cell 2
      have q23 := N9.out.cell 3
      have f2 := N9.out.free
      simp at q10 q11 q12 q13 q20 q21 q22 q23
      go_wp2
      obtain ⟨hX, hb⟩ := set4 X9.out (.int .i64 3) (.slice none 0 0) (.slice (some ⟨w6.heap.size, 0, none⟩) 2 2) (.string { data := #[] })
      refine bodyPost_ret (v := .agg #[.int .i64 3, .slice none 0 0, .slice (some ⟨w6.heap.size, 0, none⟩) 2 2, .string { data := #[] }]) (results_cell_row Try.results75 _ _ w.heap.size _ _ _ _ rfl hX Try.underlying26 rfl (by kernel_rfl)) rfl ?_
      obtain ⟨c5, g5⟩ := drawn_end hlt C9.out G9.out hb
      exact ⟨_, ⟨3, [], [(a0, 1 + r0), (3 + a1, nm)], { data := #[] }⟩, rfl, ⟨none, 0, 0, some ⟨w6.heap.size, 0, none⟩, 2, 2, rfl, by omega, by omega, Nat.zero_le _, OwnI.nil _ _, K9.out.touch hb (fun g hg h => by have := own_eq hg.symm; omega), fun g hg => by simp [Value.ownBlock] at hg⟩,
        fun k hk => by simp at hk; rcases hk with rfl | rfl <;> simp only <;> omega, by simp, by simp, Nat.zero_le _, c5, g5⟩
    · go_wp2_with fail
      refine (l3DrawValue_any _ B g C8.out).mono ?_
      rintro e w9 ⟨v9, hv9, rfl, c9, g9⟩
      have X9 := Lib.hid (X8.out.grown g9 (by intro e; cases e; omega))
      have N9 := Lib.hid (N8.out.grown g9 (by intro e; cases e; omega))
      have K9 := Lib.hid (K8.out.grown g9 (fun r h => by cases h; omega))
      have G9 := Lib.hid (G8.out.trans g9)
      have C9 := Lib.hid c9
      have s9 := g9.size
      clear g9 c9 X8 N8 K8 C8 G8
      have q10 := X9.out.cell 0
      have q11 := X9.out.cell 1
      have q12 := X9.out.cell 2
      have q13 := X9.out.cell 3
      have f1 := X9.out.free
      have q20 := N9.out.cell 0
      have q21 := N9.out.cell 1
      have q22 := N9.out.cell 2
      have q23 := N9.out.cell 3
      have f2 := N9.out.free
      simp at q10 q11 q12 q13 q20 q21 q22 q23
      go_wp2
      have hge := C9.out.ge
      have gs := grown_set w9 (w6.heap.size + 1) 3 (.string v9)
      have X10 := Lib.hid (X9.out.other (g' := w6.heap.size + 1) (by omega) 3 (.string v9))
      have K10 := Lib.hid (K9.out.touch (touch_set (S := fun x => x = w6.heap.size + 1) w9 (w6.heap.size + 1) 3 (.string v9) rfl) (fun g hg h => by have := own_eq hg.symm; omega))
      have C10 := Lib.hid (C9.out.grown gs (fun r e => by cases e; omega))
      have G10 := Lib.hid (grown_new G9.out gs (by omega))
      generalize w9.setCell ⟨w6.heap.size + 1, 3, none⟩ (.string v9) = w10 at X10 K10 C10 G10 ⊢
      obtain ⟨hX, hb⟩ := set4 X10.out (.int .i64 3) (.slice none 0 0) (.slice (some ⟨w6.heap.size, 0, none⟩) 2 2) (.string v9)
      refine bodyPost_ret (v := .agg #[.int .i64 3, .slice none 0 0, .slice (some ⟨w6.heap.size, 0, none⟩) 2 2, .string v9]) (results_cell_row Try.results75 _ _ w.heap.size _ _ _ _ rfl hX Try.underlying26 rfl (by kernel_rfl)) rfl ?_
      obtain ⟨c5, g5⟩ := drawn_end hlt C10.out G10.out hb
      exact ⟨_, ⟨3, [], [(a0, 1 + r0), (3 + a1, nm)], v9⟩, rfl, ⟨none, 0, 0, some ⟨w6.heap.size, 0, none⟩, 2, 2, rfl, by omega, by omega, by simp only; omega, OwnI.nil _ _, K10.out.touch hb (fun g hg h => by have := own_eq hg.symm; omega), fun g hg => by simp [Value.ownBlock] at hg⟩,
        fun k hk => by simp at hk; rcases hk with rfl | rfl <;> simp only <;> omega, by simp, by simp, hv9, c5, g5⟩
theorem from_any (w : World) (B g : Nat) (lo hi : Int) (h0 : lo ≤ hi) (h1 : hi - lo ≤ 255) (h2 : -100 ≤ lo) (h3 : hi ≤ 1000) (hc : Cur w B g) :
    Calls Try.prog 115 #[.pointer (some ⟨g, 0, none⟩), .int .i64 lo, .int .i64 hi] w fun e w' => ∃ r : Int, lo ≤ r ∧ r ≤ hi ∧ e = .returned (.int .i64 r) ∧ Cur w' B g ∧ w.grownBy w' (some g) := by
  have HC := Lib.hid hc
  clear hc
  have hw1 : IntKind.i64.wrap (hi - lo) = hi - lo := by rw [IntKind.wrap_i64]; omega
  have hw2 : IntKind.i64.wrap (hi - lo + 1) = hi - lo + 1 := by rw [IntKind.wrap_i64]; omega
  go_enter Try.func115, Try.ntmps115
  go_wp2_with fail
  refine (below_any _ B g (hi - lo + 1) (by omega) (by omega) HC.out).mono ?_
  rintro e w1 ⟨r, hr0, hr1, rfl, c1, g1⟩
  have C1 := Lib.hid c1
  have G1 := Lib.hid g1
  clear c1 g1
  have hw3 : IntKind.i64.wrap (lo + r) = lo + r := by rw [IntKind.wrap_i64]; omega
  go_wp2
  go_ret
  exact ⟨lo + r, by omega, by omega, rfl, C1.out, G1.out⟩
/-- a node of the call's own was drawn, right or not. -/
def NodeDrawnAny (w : World) (B g : Nat) (e : Ending) (w' : World) : Prop :=
  ∃ v nd, e = .returned v ∧ OwnN w' w.heap.size v nd ∧ NodeWf nd ∧ nd.path.length ≤ 9 ∧ nd.kids.length ≤ 3 ∧ nd.val.size ≤ 13 ∧ Cur w' B g ∧ w.grownBy w' (some g)
end Go.Proofs.Ytebfinedkjlbbaa

-- Draw4: A node that is drawn and changed: its box and its two lists, kept apart.
namespace Go.Proofs.Ytebfinedkjlbbaa
set_option maxRecDepth 20000
open Go.RowKit

/-- the result's box is as it was made; the node in hand lies in block g1, its lists in blocks of their own. -/
structure Held (w W : World) (B g g1 : Nat) (cs : Array Value) (Ap : Option Addr) (np cp : Nat) (path : List Int) (Ak : Option Addr) (nk ck : Nat) (kids : List (Int × Int)) : Prop where
  x : Box W w.heap.size 26 #[.int .i64 0, .slice none 0 0, .slice none 0 0, .string { data := #[] }]
  n : Box W g1 26 cs
  lt : w.heap.size < g1
  hg : g < w.heap.size
  p : OwnI W (w.heap.size + 1) Ap np cp path
  k : OwnK W (w.heap.size + 1) Ak nk ck kids
  d : ∀ x, (Value.slice Ap np cp).ownBlock = some x → (Value.slice Ak nk ck).ownBlock ≠ some x
  dp : ∀ x, (Value.slice Ap np cp).ownBlock = some x → x ≠ g1
  dk : ∀ x, (Value.slice Ak nk ck).ownBlock = some x → x ≠ g1
  c : Cur W B g
  o : w.grownBy W (some g)
section
variable {w W W' : World} {B g g1 : Nat} {cs : Array Value} {Ap : Option Addr} {np cp : Nat} {path : List Int} {Ak : Option Addr} {nk ck : Nat} {kids : List (Int × Int)}
theorem Held.step (h : Held w W B g g1 cs Ap np cp path Ak nk ck kids) (c' : Cur W' B g) (g' : W.grownBy W' (some g)) : Held w W' B g g1 cs Ap np cp path Ak nk ck kids := by
  have h1 := h.hg
  have h2 := h.lt
  exact ⟨h.x.grown g' (by intro e; cases e; omega), h.n.grown g' (by intro e; cases e; omega), h.lt, h.hg, h.p.grown g' (fun r e => by cases e; omega), h.k.grown g' (fun r e => by cases e; omega), h.d, h.dp, h.dk, c', h.o.trans g'⟩
/-- blocks from w.heap.size + 1 on were touched; what the node is now. -/
theorem Held.upd {S : Nat → Prop} {cs' : Array Value} {Ap' : Option Addr} {np' cp' : Nat} {path' : List Int} {Ak' : Option Addr} {nk' ck' : Nat} {kids' : List (Int × Int)} (h : Held w W B g g1 cs Ap np cp path Ak nk ck kids) (t : Touch S W W') (h1 : ∀ k, S k → w.heap.size + 1 ≤ k)
    (n' : Box W' g1 26 cs') (p' : OwnI W' (w.heap.size + 1) Ap' np' cp' path') (k' : OwnK W' (w.heap.size + 1) Ak' nk' ck' kids')
    (d' : ∀ x, (Value.slice Ap' np' cp').ownBlock = some x → (Value.slice Ak' nk' ck').ownBlock ≠ some x) (dp' : ∀ x, (Value.slice Ap' np' cp').ownBlock = some x → x ≠ g1) (dk' : ∀ x, (Value.slice Ak' nk' ck').ownBlock = some x → x ≠ g1) :
    Held w W' B g g1 cs' Ap' np' cp' path' Ak' nk' ck' kids' := by
  have e1 := h.hg
  have e2 := h.lt
  have e3 := h.c.ge
  have e4 := h.c.lt
  have e5 := h.o.size
  refine ⟨(t.block _ h.x.lt (fun e => by have := h1 _ e; omega)).trans h.x, n', h.lt, h.hg, p', k', d', dp', dk', ?_, ⟨t.os.trans h.o.os, t.tape.trans h.o.tape, t.output.trans h.o.output, by have := t.size; omega, fun k hk hne => (t.block k (by omega) (fun e => by have := h1 k e; omega)).trans (h.o.block k hk hne)⟩⟩
  obtain ⟨A, n, c, i, y, zs, c1, c2, c3, c4, c5, c6⟩ := h.c
  exact ⟨A, n, c, i, y, zs, c1, (t.block g e4 (fun e => by have := h1 _ e; omega)).trans c2, c3, c4, c5, c6.below (t.below (by omega) (fun k hk e => by have := h1 k e; omega))⟩
theorem Held.setN (h : Held w W B g g1 cs Ap np cp path Ak nk ck kids) (j : Nat) (u : Value) : Held w (W.setCell ⟨g1, j, none⟩ u) B g g1 (cs.setIfInBounds j u) Ap np cp path Ak nk ck kids := by
  have e2 := h.lt
  have t := touch_set (S := fun x => x = g1) W g1 j u rfl
  exact h.upd t (fun k e => by omega) (h.n.set_ j u) (h.p.touch t h.dp) (h.k.touch t h.dk) h.d h.dp h.dk
/-- another list of numbers, of the call's own since then, in place of the node's. -/
theorem Held.newP {A' : Option Addr} {n' c' : Nat} {path' : List Int} {base : Nat} (h : Held w W B g g1 cs Ap np cp path Ak nk ck kids) (p' : OwnI W base A' n' c' path') (hb : g1 < base) (hb' : ∀ x, (Value.slice Ak nk ck).ownBlock = some x → x < base) :
    Held w W B g g1 cs A' n' c' path' Ak nk ck kids := by
  have e2 := h.lt
  have q : ∀ x, (Value.slice A' n' c').ownBlock = some x → base ≤ x := fun x hx => (World.ownsRow.lt p' x hx).1
  exact ⟨h.x, h.n, h.lt, h.hg, p'.base (by omega), h.k, fun x hx e => by have := q x hx; have := hb' x e; omega, fun x hx => by have := q x hx; omega, h.dk, h.c, h.o⟩
theorem Held.newK {A' : Option Addr} {n' c' : Nat} {kids' : List (Int × Int)} {base : Nat} (h : Held w W B g g1 cs Ap np cp path Ak nk ck kids) (k' : OwnK W base A' n' c' kids') (hb : g1 < base) (hb' : ∀ x, (Value.slice Ap np cp).ownBlock = some x → x < base) :
    Held w W B g g1 cs Ap np cp path A' n' c' kids' := by
  have e2 := h.lt
  have q : ∀ x, (Value.slice A' n' c').ownBlock = some x → base ≤ x := fun x hx => (World.ownsRow.lt k' x hx).1
  exact ⟨h.x, h.n, h.lt, h.hg, h.p, k'.base (by omega), fun x hx e => by have := q x e; have := hb' x hx; omega, h.dp, fun x hx => by have := q x hx; omega, h.c, h.o⟩
theorem Held.drew (h : Held w W B g g1 cs Ap np cp path Ak nk ck kids) : Held w W.drew B g g1 cs Ap np cp path Ak nk ck kids := by
  have t : Touch (fun _ => False) W W.drew := Touch.of_below ((Below.refl _ _).drew)
  exact h.upd t (fun _ e => e.elim) h.n (h.p.touch t (fun _ _ e => e)) (h.k.touch t (fun _ _ e => e)) h.d h.dp h.dk
/-- what an append to the kids leaves. -/
theorem Held.grownK {o : Obj} {r' c' m : Nat} {ks : List (Int × Int)} (h : Held w W B g g1 cs Ap np cp path Ak nk ck kids)
    (hown : W'.ownsRow (w.heap.size + 1) 80 2 (.slice (some ⟨r', 0, none⟩) m c') m ((kv kids).map (Value.int .i64) ++ (kv ks).map (Value.int .i64))) (hgrow : (W.alloc o).grownBy W' (Value.slice Ak nk ck).ownBlock)
    (hw : (Value.slice Ak nk ck).ownBlock = some r' ∨ r' = (W.alloc o).heap.size) : Held w W' B g g1 cs Ap np cp path (some ⟨r', 0, none⟩) m c' (kids ++ ks) := by
  have e1 := h.hg
  have e2 := h.lt
  have e3 := h.n.lt
  have q : ∀ x, (Value.slice Ak nk ck).ownBlock = some x → w.heap.size + 1 ≤ x ∧ x < W.heap.size := fun x hx => World.ownsRow.lt h.k x hx
  have qp : ∀ x, (Value.slice Ap np cp).ownBlock = some x → w.heap.size + 1 ≤ x ∧ x < W.heap.size := fun x hx => World.ownsRow.lt h.p x hx
  have t : Touch (fun k => some k = (Value.slice Ak nk ck).ownBlock) W W' := (Touch.of_below ((Below.refl _ _).alloc (Nat.le_refl _) _)).trans (Touch.of_grown hgrow)
  have hs : (W.alloc o).heap.size = W.heap.size + 1 := by simp
  refine h.upd t (fun k e => (q k e.symm).1) ((t.block g1 e3 (fun e => h.dk g1 e.symm rfl)).trans h.n) (h.p.touch t (fun x hx e => h.d x hx e.symm)) ?_ ?_ h.dp ?_
  · unfold OwnK
    rw [kv_append, List.map_append]
    exact hown
  · intro x hx e
    have := own_eq e.symm
    subst this
    rcases hw with hw | hw
    · exact h.d _ hx hw
    · have := qp _ hx; omega
  · intro x hx e
    have := own_eq hx.symm
    subst this
    rcases hw with hw | hw
    · exact h.dk _ hw e
    · omega
/-- the node is written into the result's box. -/
theorem Held.fin {kind : Int} {val : ByteArray} (h : Held w W B g g1 #[.int .i64 kind, .slice Ap np cp, .slice Ak nk ck, .string val] Ap np cp path Ak nk ck kids) (h1 : np ≤ 1048576) (h2 : nk ≤ 1048576) (h3 : val.size ≤ 1048576) :
    Box ((((W.setCell ⟨w.heap.size, 0, none⟩ (.int .i64 kind)).setCell ⟨w.heap.size, 1, none⟩ (.slice Ap np cp)).setCell ⟨w.heap.size, 2, none⟩ (.slice Ak nk ck)).setCell ⟨w.heap.size, 3, none⟩ (.string val)) w.heap.size 26 #[.int .i64 kind, .slice Ap np cp, .slice Ak nk ck, .string val] ∧
    OwnN ((((W.setCell ⟨w.heap.size, 0, none⟩ (.int .i64 kind)).setCell ⟨w.heap.size, 1, none⟩ (.slice Ap np cp)).setCell ⟨w.heap.size, 2, none⟩ (.slice Ak nk ck)).setCell ⟨w.heap.size, 3, none⟩ (.string val)) w.heap.size (.agg #[.int .i64 kind, .slice Ap np cp, .slice Ak nk ck, .string val]) ⟨kind, path, kids, val⟩ ∧
    Cur ((((W.setCell ⟨w.heap.size, 0, none⟩ (.int .i64 kind)).setCell ⟨w.heap.size, 1, none⟩ (.slice Ap np cp)).setCell ⟨w.heap.size, 2, none⟩ (.slice Ak nk ck)).setCell ⟨w.heap.size, 3, none⟩ (.string val)) B g ∧
    w.grownBy ((((W.setCell ⟨w.heap.size, 0, none⟩ (.int .i64 kind)).setCell ⟨w.heap.size, 1, none⟩ (.slice Ap np cp)).setCell ⟨w.heap.size, 2, none⟩ (.slice Ak nk ck)).setCell ⟨w.heap.size, 3, none⟩ (.string val)) (some g) := by
  obtain ⟨hX, hb⟩ := set4 h.x (.int .i64 kind) (.slice Ap np cp) (.slice Ak nk ck) (.string val)
  obtain ⟨c5, g5⟩ := drawn_end h.hg h.c h.o hb
  exact ⟨hX, ⟨Ap, np, cp, Ak, nk, ck, rfl, h1, h2, h3, (h.p.touch hb (fun x hx e => by have := (World.ownsRow.lt h.p x hx).1; omega)).base (by omega), (h.k.touch hb (fun x hx e => by have := (World.ownsRow.lt h.k x hx).1; omega)).base (by omega), h.d⟩, c5, g5⟩
end
/-- a node in hand whose kids' list lies in block gk. -/
def HeldK (w W : World) (B g g1 gk : Nat) (cs : Array Value) (Ap : Option Addr) (np cp : Nat) (path : List Int) (nk ck : Nat) : Prop :=
  ∃ ks : List (Int × Int), (∀ k ∈ ks, k.2 ≤ 9223372036854775807) ∧ Held w W B g g1 cs Ap np cp path (some ⟨gk, 0, none⟩) nk ck ks
/-- what a cell holds, if it is one. -/
def cellAt (W : World) (a : Addr) : Value := (W.cell? a).getD undef
section
variable {w W W' : World} {B g g1 gk : Nat} {cs : Array Value} {Ap : Option Addr} {np cp : Nat} {path : List Int} {nk ck : Nat}
theorem HeldK.c (h : HeldK w W B g g1 gk cs Ap np cp path nk ck) : Cur W B g := by obtain ⟨_, _, h⟩ := h; exact h.c
theorem HeldK.step (h : HeldK w W B g g1 gk cs Ap np cp path nk ck) (c' : Cur W' B g) (g' : W.grownBy W' (some g)) : HeldK w W' B g g1 gk cs Ap np cp path nk ck := by obtain ⟨ks, a, h⟩ := h; exact ⟨ks, a, h.step c' g'⟩
theorem HeldK.drew (h : HeldK w W B g g1 gk cs Ap np cp path nk ck) : HeldK w W.drew B g g1 gk cs Ap np cp path nk ck := by obtain ⟨ks, a, h⟩ := h; exact ⟨ks, a, h.drew⟩
theorem HeldK.cell2 {a b d : Value} {u : Value} (h : HeldK w W B g g1 gk #[a, b, u, d] Ap np cp path nk ck) : W.cell? ⟨g1, 2, none⟩ = some u := by obtain ⟨_, _, h⟩ := h; have := h.n.cell 2; simpa using this
theorem HeldK.name (h : HeldK w W B g g1 gk cs Ap np cp path nk ck) (hn : 0 < nk) : W.cell? ⟨gk, 1, none⟩ = some (cellAt W ⟨gk, 1, none⟩) := by
  obtain ⟨_, _, h⟩ := h
  have := h.k.cell1 (k := 0) hn
  rw [Nat.zero_mul, Nat.zero_add] at this
  unfold cellAt
  rw [this]
  rfl
theorem HeldK.free (h : HeldK w W B g g1 gk cs Ap np cp path nk ck) (k : Nat) : W.frozen? ⟨gk, k, none⟩ = false := by obtain ⟨_, _, h⟩ := h; exact h.k.free k
theorem HeldK.store (h : HeldK w W B g g1 gk cs Ap np cp path nk ck) (z : Int) (hz : z ≤ 1) : HeldK w (W.setCell ⟨gk, 1, none⟩ (.int .i64 z)) B g g1 gk cs Ap np cp path nk ck := by
  obtain ⟨ks, a, h⟩ := h
  obtain ⟨k1, _⟩ := h.k.set1 0 z
  have t := touch_set (S := fun x => x = gk) W gk 1 (.int .i64 z) rfl
  have q := h.dk gk rfl
  have ql := (World.ownsRow.lt h.k gk rfl).1
  refine ⟨_, fun k hk => ?_, h.upd t (fun k e => by omega) ((t.block g1 h.n.lt (fun e => q e.symm)).trans h.n) (h.p.touch t (fun x hx e => h.d x hx (by rw [e]; rfl))) k1 h.d h.dp h.dk⟩
  rcases List.mem_or_eq_of_mem_set hk with hk | rfl
  · exact a k hk
  · show z ≤ _
    omega
end
theorem ownK_cap {w : World} {base n c : Nat} {A : Option Addr} {ks : List (Int × Int)} (h : OwnK w base A n c ks) : n ≤ c := by
  rcases h.2 with ⟨e, rfl⟩ | ⟨g, cap, cur, e, _, _, hc, _⟩
  · omega
  · cases e; exact hc
set_option maxHeartbeats 1600000 in
theorem l3DrawAny_any (w : World) (B g : Nat) (hc : Cur w B g) :
    Calls Try.prog 71 #[.pointer (some ⟨g, 0, none⟩)] w (NodeDrawnAny w B g) := by
  have hlt := hc.lt
  have HC := Lib.hid hc
  clear hc
  go_enter Try.func71, Try.ntmps71
  go_wp2_with fail
  refine (l3Draw_any _ B g (HC.out.grown (World.grownBy_alloc w _ none) (fun r h => by cases h))).mono ?_
  rintro e w1 ⟨v, nd, rfl, ⟨Ap, np, cp, Ak, nk, ck, rfl, _, _, _, p1, k1, d1⟩, wf, hp8, hk2, hv5, c1, g1⟩
  have x1 := Box.grown (t := 26) (heap_alloc_new w _) g1 (by intro e; cases e; omega)
  have o1 := (World.grownBy_alloc w _ (some g)).trans g1
  have ep := p1.len
  have ek := k1.len
  obtain ⟨kind, path, kids, val⟩ := nd
  simp only at p1 k1 wf hp8 hk2 hv5 ep ek
  have l1 := x1.lt
  have hs1 : (w.alloc (.cells #[.int .i64 0, .slice none 0 0, .slice none 0 0, .string { data := #[] }] 26)).heap.size = w.heap.size + 1 := by simp
  have h2 : Held w (w1.alloc (.cells #[.int .i64 kind, .slice Ap np cp, .slice Ak nk ck, .string val] 26)) B g w1.heap.size _ Ap np cp path Ak nk ck kids :=
    ⟨(heap_alloc_old _ _ l1).trans x1, heap_alloc_new _ _, l1, hlt, (p1.base (by omega)).below ((Below.refl _ _).alloc (Nat.le_refl _) _), (k1.base (by omega)).below ((Below.refl _ _).alloc (Nat.le_refl _) _), d1,
     fun x hx => by have := (World.ownsRow.lt p1 x hx).2; omega, fun x hx => by have := (World.ownsRow.lt k1 x hx).2; omega, c1.grown (World.grownBy_alloc w1 _ none) (fun r h => by cases h), o1.trans (World.grownBy_alloc w1 _ (some g))⟩
  have H2 := Lib.hid h2
  clear h2 x1 o1 p1 k1 d1 c1 g1 HC hs1
  go_wp2_with fail
  generalize (w1.alloc (.cells #[.int .i64 kind, .slice Ap np cp, .slice Ak nk ck, .string val] 26)) = w2 at H2 ⊢
  generalize w1.heap.size = g1 at H2 l1 ⊢
  refine (once_any _ B g 4 (by omega) (by omega) H2.out.c).mono ?_
  rintro e w3 ⟨b, rfl, c3, o3⟩
  have H3 := Lib.hid (H2.out.step c3 o3)
  clear c3 o3 H2
  have hge := H3.out.c.ge
  cases b
  · have q10 := H3.out.x.cell 0
    have q11 := H3.out.x.cell 1
    have q12 := H3.out.x.cell 2
    have q13 := H3.out.x.cell 3
    have q20 := H3.out.n.cell 0
    have q21 := H3.out.n.cell 1
    have q22 := H3.out.n.cell 2
    have q23 := H3.out.n.cell 3
    have f1 := H3.out.x.free
    have f2 := H3.out.n.free
    simp at q10 q11 q12 q13 q20 q21 q22 q23
    go_wp2
    obtain ⟨hX, hN, c9, g9⟩ := H3.out.fin (by omega) (by omega) (by omega)
    refine bodyPost_ret (v := .agg #[.int .i64 kind, .slice Ap np cp, .slice Ak nk ck, .string val]) (results_cell_row Try.results71 _ _ w.heap.size _ _ _ _ rfl hX Try.underlying26 rfl (by kernel_rfl)) rfl ?_
    exact ⟨_, ⟨kind, path, kids, val⟩, rfl, hN, wf, by simp only; omega, by simp only; omega, by simp only; omega, c9, g9⟩
  go_wp2_with fail
  refine (below_any _ B g 6 (by omega) (by omega) H3.out.c).mono ?_
  rintro e w4 ⟨r, hr0, hr1, rfl, c4, o4⟩
  have H4 := Lib.hid (H3.out.step c4 o4)
  clear c4 o4 H3
  have l4 := H4.out.n.lt
  obtain ⟨j, rfl⟩ : ∃ j : Nat, r = j := ⟨r.toNat, by omega⟩
  rcases (show j = 0 ∨ j = 1 ∨ j = 2 ∨ j = 3 ∨ j = 4 ∨ j = 5 by omega) with rfl | rfl | rfl | rfl | rfl | rfl
  · go_wp2_with fail
    refine (from_any _ B g 0 4 (by omega) (by omega) (by omega) (by omega) H4.out.c).mono ?_
    rintro e w5 ⟨z, hz0, hz1, rfl, c5, o5⟩
    have H5 := Lib.hid (H4.out.step c5 o5)
    clear c5 o5 H4
    have q10 := H5.out.x.cell 0
    have q11 := H5.out.x.cell 1
    have q12 := H5.out.x.cell 2
    have q13 := H5.out.x.cell 3
    have q20 := H5.out.n.cell 0
    have q21 := H5.out.n.cell 1
    have q22 := H5.out.n.cell 2
    have q23 := H5.out.n.cell 3
    have f1 := H5.out.x.free
    have f2 := H5.out.n.free
    simp at q10 q11 q12 q13 q20 q21 q22 q23
    go_wp2
    have H6 : Hid (Held w _ B g g1 #[.int .i64 z, .slice Ap np cp, .slice Ak nk ck, .string val] Ap np cp path Ak nk ck kids) := Lib.hid (H5.out.setN 0 (.int .i64 z))
    generalize w5.setCell ⟨g1, 0, none⟩ (.int .i64 z) = w6 at H6 ⊢
    obtain ⟨hX, hN, c9, g9⟩ := H6.out.fin (by omega) (by omega) (by omega)
    refine bodyPost_ret (v := .agg #[.int .i64 z, .slice Ap np cp, .slice Ak nk ck, .string val]) (results_cell_row Try.results71 _ _ w.heap.size _ _ _ _ rfl hX Try.underlying26 rfl (by kernel_rfl)) rfl ?_
    exact ⟨_, ⟨z, path, kids, val⟩, rfl, hN, wf, by simp only; omega, by simp only; omega, by simp only; omega, c9, g9⟩
  · go_wp2_with fail
    refine (l2DrawPath_any _ B g H4.out.c).mono ?_
    rintro e w5 ⟨r5, n5, c5', xs, hn5, rfl, p5, c5, o5⟩
    have e5 := p5.len
    have H5 := Lib.hid (H4.out.step c5 o5)
    have P5 := Lib.hid p5
    have hK : ∀ x, (Value.slice Ak nk ck).ownBlock = some x → x < w4.heap.size := fun x hx => (World.ownsRow.lt H4.out.k x hx).2
    have HK := Lib.hid hK
    clear c5 o5 p5 hK
    have q10 := H5.out.x.cell 0
    have q11 := H5.out.x.cell 1
    have q12 := H5.out.x.cell 2
    have q13 := H5.out.x.cell 3
    have q20 := H5.out.n.cell 0
    have q21 := H5.out.n.cell 1
    have q22 := H5.out.n.cell 2
    have q23 := H5.out.n.cell 3
    have f1 := H5.out.x.free
    have f2 := H5.out.n.free
    simp at q10 q11 q12 q13 q20 q21 q22 q23
    go_wp2
    have H6 : Hid (Held w _ B g g1 #[.int .i64 kind, .slice (some ⟨r5, 0, none⟩) n5 c5', .slice Ak nk ck, .string val] (some ⟨r5, 0, none⟩) n5 c5' xs Ak nk ck kids) := Lib.hid ((H5.out.newP P5.out l4 HK.out).setN 1 (.slice (some ⟨r5, 0, none⟩) n5 c5'))
    generalize w5.setCell ⟨g1, 1, none⟩ (.slice (some ⟨r5, 0, none⟩) n5 c5') = w6 at H6 ⊢
    obtain ⟨hX, hN, c9, g9⟩ := H6.out.fin (by omega) (by omega) (by omega)
    refine bodyPost_ret (v := .agg #[.int .i64 kind, .slice (some ⟨r5, 0, none⟩) n5 c5', .slice Ak nk ck, .string val]) (results_cell_row Try.results71 _ _ w.heap.size _ _ _ _ rfl hX Try.underlying26 rfl (by kernel_rfl)) rfl ?_
    exact ⟨_, ⟨kind, xs, kids, val⟩, rfl, hN, wf, by simp only; omega, by simp only; omega, by simp only; omega, c9, g9⟩
  · go_wp2_with fail
    refine (below_any _ B g 4 (by omega) (by omega) (H4.out.c.grown (World.grownBy_alloc w4 _ none) (fun r h => by cases h))).mono ?_
    rintro e w5 ⟨r, hr0, hr1, rfl, c5, o5⟩
    have hblk := o5.block w4.heap.size (by simp) (by intro e; cases e; have := H4.out.hg; have := H4.out.lt; omega)
    rw [heap_alloc_new] at hblk
    obtain ⟨k, rfl⟩ : ∃ k : Nat, r = k := ⟨r.toNat, by omega⟩
    obtain ⟨z, hz5, hz⟩ := str_cell (xs := [⟨#[]⟩, ⟨#[65]⟩, ⟨#[97, 98, 99, 100, 101, 102, 103, 104, 105, 106, 107, 108]⟩, ⟨#[97, 98, 99, 100, 101, 102, 103, 104, 105, 106, 107, 108, 109]⟩]) hblk 13 (by decide) k (by simp; omega)
    have H5 := Lib.hid (H4.out.step c5 ((World.grownBy_alloc w4 _ (some g)).trans o5))
    clear c5 o5 hblk H4
    have q10 := H5.out.x.cell 0
    have q11 := H5.out.x.cell 1
    have q12 := H5.out.x.cell 2
    have q13 := H5.out.x.cell 3
    have q20 := H5.out.n.cell 0
    have q21 := H5.out.n.cell 1
    have q22 := H5.out.n.cell 2
    have q23 := H5.out.n.cell 3
    have f1 := H5.out.x.free
    have f2 := H5.out.n.free
    simp at q10 q11 q12 q13 q20 q21 q22 q23
    go_wp2
    have H6 : Hid (Held w _ B g g1 #[.int .i64 kind, .slice Ap np cp, .slice Ak nk ck, .string z] Ap np cp path Ak nk ck kids) := Lib.hid (H5.out.setN 3 (.string z))
    generalize w5.setCell ⟨g1, 3, none⟩ (.string z) = w6 at H6 ⊢
    obtain ⟨hX, hN, c9, g9⟩ := H6.out.fin (by omega) (by omega) (by omega)
    refine bodyPost_ret (v := .agg #[.int .i64 kind, .slice Ap np cp, .slice Ak nk ck, .string z]) (results_cell_row Try.results71 _ _ w.heap.size _ _ _ _ rfl hX Try.underlying26 rfl (by kernel_rfl)) rfl ?_
    exact ⟨_, ⟨kind, path, kids, z⟩, rfl, hN, wf, by simp only; omega, by simp only; omega, by simp only; omega, c9, g9⟩
  · have q10 := H4.out.x.cell 0
    have q11 := H4.out.x.cell 1
    have q12 := H4.out.x.cell 2
    have q13 := H4.out.x.cell 3
    have q20 := H4.out.n.cell 0
    have q21 := H4.out.n.cell 1
    have q22 := H4.out.n.cell 2
    have q23 := H4.out.n.cell 3
    have f1 := H4.out.x.free
    have f2 := H4.out.n.free
    simp at q10 q11 q12 q13 q20 q21 q22 q23
    obtain ⟨iK, hki, hk0, hk1, hk2'⟩ := info_parts Try.infoK
    go_wp2
    go_region_law (first
      | (refine step_append_lies _ rfl _ _ 24 rfl (w.heap.size + 1) 80 iK (.agg #[.int .i64 0, .int .i64 0]) 2 16 Try.underlying24 hki hk0 hk1 hk2' rfl (by decide) (.slice Ak nk ck) nk ((kv kids).map (Value.int .i64)) (by simp [Act.eval]) (h5.k.below ((Below.refl _ _).alloc (Nat.le_refl _) _)) ⟨w5.heap.size, 0, none⟩ 1 1 ([z, 5].map (Value.int .i64)) (by simp [Act.eval]) rfl (by
              intro j u hj
              match j, hj with
              | 0, hj => simp at hj; subst hj; simp [Addr.add]
              | 1, hj => simp at hj; subst hj; simp [Addr.add]) (by intro u hu; simp at hu; rcases hu with rfl | rfl <;> rfl) (by omega) (by unfold maxLen; omega) (by omega) (by have := h5.x.lt; simp; omega) _ rfl ?_
         intro g6 c6 w6 hown6 hgrow6 hwh6 _
         have h6 := h5.grownK (ks := [(z, 5)]) hown6 hgrow6 hwh6
         have q6 := h6.n.cell 2
         have f6 := h6.n.free 2
         simp at q6)
      | (go_simp
         refine (from_any _ B g (-1) 16 (by omega) (by omega) (by omega) (by omega) H4.out.drew.c).mono ?_
         rintro e w5 ⟨z, hz0, hz1, rfl, c5, o5⟩
         have h5 := H4.out.drew.step c5 o5
         have l5 := h5.n.lt
         have q5 := h5.n.cell 2
         simp at q5))
    all_goals
      have H6 := Lib.hid h6
      have hne := h6.lt
      clear q10 q11 q12 q13 q20 q21 q22 q23 f1 f2 q5 q6 f6 h6 hown6 hgrow6 hwh6
      have q10 := H6.out.x.cell 0
      have q11 := H6.out.x.cell 1
      have q12 := H6.out.x.cell 2
      have q13 := H6.out.x.cell 3
      have q20 := H6.out.n.cell 0
      have q21 := H6.out.n.cell 1
      have q22 := H6.out.n.cell 2
      have q23 := H6.out.n.cell 3
      have f1 := H6.out.x.free
      have f2 := H6.out.n.free
      simp at q10 q11 q12 q13 q20 q21 q22 q23
      go_wp2
      have H7 : Hid (Held w _ B g g1 #[.int .i64 kind, .slice Ap np cp, .slice (some ⟨g6, 0, none⟩) (nk + 1) c6, .string val] Ap np cp path (some ⟨g6, 0, none⟩) (nk + 1) c6 (kids ++ [(z, 5)])) := Lib.hid (H6.out.setN 2 (.slice (some ⟨g6, 0, none⟩) (nk + 1) c6))
      generalize w6.setCell ⟨g1, 2, none⟩ (.slice (some ⟨g6, 0, none⟩) (nk + 1) c6) = w7 at H7 ⊢
      obtain ⟨hX, hN, c9, g9⟩ := H7.out.fin (by omega) (by omega) (by omega)
      refine bodyPost_ret (v := .agg #[.int .i64 kind, .slice Ap np cp, .slice (some ⟨g6, 0, none⟩) (nk + 1) c6, .string val]) (results_cell_row Try.results71 _ _ w.heap.size _ _ _ _ rfl hX Try.underlying26 rfl (by kernel_rfl)) rfl ?_
      exact ⟨_, ⟨kind, path, (kids ++ [(z, 5)]), val⟩, rfl, hN, fun k hk => (List.mem_append.1 hk).elim (fun h => wf k h) (fun h => by simp at h; subst h; simp), by simp only; omega, by simp; omega, by simp only; omega, c9, g9⟩
  · have hcap : nk ≤ ck := ownK_cap H4.out.k
    obtain ⟨w5, hw5⟩ : ∃ w5, w4.alloc (.cells #[] 80) = w5 := ⟨_, rfl⟩
    have k5 : OwnK w5 w4.heap.size (some ⟨w4.heap.size, 0, none⟩) 0 0 [] := hw5 ▸ OwnK.of_alloc w4 w4.heap.size [] 0 (Nat.le_refl _) rfl (by unfold maxLen; omega)
    have h5 : Held w w5 B g g1 _ Ap np cp path Ak nk ck kids := hw5 ▸ H4.out.step (H4.out.c.grown (World.grownBy_alloc w4 (.cells #[] 80) none) (fun r h => by cases h)) (World.grownBy_alloc w4 _ (some g))
    have H5 := Lib.hid h5
    have K5 := Lib.hid k5
    have hP : Hid (∀ x, (Value.slice Ap np cp).ownBlock = some x → x < w4.heap.size) := fun x hx => (World.ownsRow.lt H4.out.p x hx).2
    have hq22 := H4.out.n.cell 2
    have s5 : w5.heap.size = w4.heap.size + 1 := by rw [← hw5]; simp
    clear h5 k5
    have q10 := H5.out.x.cell 0
    have q11 := H5.out.x.cell 1
    have q12 := H5.out.x.cell 2
    have q13 := H5.out.x.cell 3
    have q20 := H5.out.n.cell 0
    have q21 := H5.out.n.cell 1
    have q22 := H5.out.n.cell 2
    have q23 := H5.out.n.cell 3
    have f1 := H5.out.x.free
    have f2 := H5.out.n.free
    simp at q10 q11 q12 q13 q20 q21 q22 q23
    simp at hq22
    have hsm : nk = 0 ∨ nk = 1 ∨ nk = 2 := by omega
    rcases hsm with rfl | rfl | rfl
    · rcases Ak with _ | ad
      · go_wp2
        have H6 : Hid (Held w _ B g g1 #[.int .i64 kind, .slice Ap np cp, .slice (some ⟨w4.heap.size, 0, none⟩) 0 0, .string val] Ap np cp path (some ⟨w4.heap.size, 0, none⟩) 0 0 []) := Lib.hid ((H5.out.newK K5.out l4 hP.out).setN 2 (.slice (some ⟨w4.heap.size, 0, none⟩) 0 0))
        generalize w5.setCell ⟨g1, 2, none⟩ (.slice (some ⟨w4.heap.size, 0, none⟩) 0 0) = w6 at H6 ⊢
        obtain ⟨hX, hN, c9, g9⟩ := H6.out.fin (by omega) (by omega) (by omega)
        refine bodyPost_ret (v := .agg #[.int .i64 kind, .slice Ap np cp, .slice (some ⟨w4.heap.size, 0, none⟩) 0 0, .string val]) (results_cell_row Try.results71 _ _ w.heap.size _ _ _ _ rfl hX Try.underlying26 rfl (by kernel_rfl)) rfl ?_
        exact ⟨_, ⟨kind, path, [], val⟩, rfl, hN, fun k hk => by simp at hk, by simp only; omega, by simp, by simp only; omega, c9, g9⟩
      · go_wp2
        have H6 : Hid (Held w _ B g g1 #[.int .i64 kind, .slice Ap np cp, .slice (some ⟨w4.heap.size, 0, none⟩) 0 0, .string val] Ap np cp path (some ⟨w4.heap.size, 0, none⟩) 0 0 []) := Lib.hid ((H5.out.newK K5.out l4 hP.out).setN 2 (.slice (some ⟨w4.heap.size, 0, none⟩) 0 0))
        generalize w5.setCell ⟨g1, 2, none⟩ (.slice (some ⟨w4.heap.size, 0, none⟩) 0 0) = w6 at H6 ⊢
        obtain ⟨hX, hN, c9, g9⟩ := H6.out.fin (by omega) (by omega) (by omega)
        refine bodyPost_ret (v := .agg #[.int .i64 kind, .slice Ap np cp, .slice (some ⟨w4.heap.size, 0, none⟩) 0 0, .string val]) (results_cell_row Try.results71 _ _ w.heap.size _ _ _ _ rfl hX Try.underlying26 rfl (by kernel_rfl)) rfl ?_
        exact ⟨_, ⟨kind, path, [], val⟩, rfl, hN, fun k hk => by simp at hk, by simp only; omega, by simp, by simp only; omega, c9, g9⟩
    · rcases Ak with _ | ad
      · go_wp2
        have H6 : Hid (Held w _ B g g1 #[.int .i64 kind, .slice Ap np cp, .slice (some ⟨w4.heap.size, 0, none⟩) 0 0, .string val] Ap np cp path (some ⟨w4.heap.size, 0, none⟩) 0 0 []) := Lib.hid ((H5.out.newK K5.out l4 hP.out).setN 2 (.slice (some ⟨w4.heap.size, 0, none⟩) 0 0))
        generalize w5.setCell ⟨g1, 2, none⟩ (.slice (some ⟨w4.heap.size, 0, none⟩) 0 0) = w6 at H6 ⊢
        obtain ⟨hX, hN, c9, g9⟩ := H6.out.fin (by omega) (by omega) (by omega)
        refine bodyPost_ret (v := .agg #[.int .i64 kind, .slice Ap np cp, .slice (some ⟨w4.heap.size, 0, none⟩) 0 0, .string val]) (results_cell_row Try.results71 _ _ w.heap.size _ _ _ _ rfl hX Try.underlying26 rfl (by kernel_rfl)) rfl ?_
        exact ⟨_, ⟨kind, path, [], val⟩, rfl, hN, fun k hk => by simp at hk, by simp only; omega, by simp, by simp only; omega, c9, g9⟩
      · go_wp2
        have H6 : Hid (Held w _ B g g1 #[.int .i64 kind, .slice Ap np cp, .slice (some ⟨w4.heap.size, 0, none⟩) 0 0, .string val] Ap np cp path (some ⟨w4.heap.size, 0, none⟩) 0 0 []) := Lib.hid ((H5.out.newK K5.out l4 hP.out).setN 2 (.slice (some ⟨w4.heap.size, 0, none⟩) 0 0))
        generalize w5.setCell ⟨g1, 2, none⟩ (.slice (some ⟨w4.heap.size, 0, none⟩) 0 0) = w6 at H6 ⊢
        obtain ⟨hX, hN, c9, g9⟩ := H6.out.fin (by omega) (by omega) (by omega)
        refine bodyPost_ret (v := .agg #[.int .i64 kind, .slice Ap np cp, .slice (some ⟨w4.heap.size, 0, none⟩) 0 0, .string val]) (results_cell_row Try.results71 _ _ w.heap.size _ _ _ _ rfl hX Try.underlying26 rfl (by kernel_rfl)) rfl ?_
        exact ⟨_, ⟨kind, path, [], val⟩, rfl, hN, fun k hk => by simp at hk, by simp only; omega, by simp, by simp only; omega, c9, g9⟩
    · obtain ⟨gk, rfl, hgk, hgl⟩ := H4.out.k.form (by omega)
      obtain ⟨iK, hki, hk0, hk1, hk2'⟩ := info_parts Try.infoK
      rcases kids with _ | ⟨k0, _ | ⟨k1, r⟩⟩
      · simp at ek
      · simp at ek
      have t0 := H5.out.k.cell0 (k := 0) (by omega)
      have t1 := H5.out.k.cell1 (k := 0) (by omega)
      simp at t0 t1
      go_wp2_with (at_builtin; refine wpList_append_lies _ rfl _ _ 24 rfl w4.heap.size 80 iK (.agg #[.int .i64 0, .int .i64 0]) 2 16 Try.underlying24 hki hk0 hk1 hk2' rfl (by decide) _ _ _ rfl K5.out ⟨gk, 0, none⟩ 1 _ ([k0.1, k0.2].map (Value.int .i64)) rfl rfl ?c1 ?c2 (by omega) ?c3 ?c4 ?c5 _ rfl ?_)
      case c1 =>
        intro j u hj
        match j, hj with
        | 0, hj => simp at hj; subst hj; simpa [Addr.add] using t0
        | 1, hj => simp at hj; subst hj; simpa [Addr.add] using t1
      case c2 => intro u hu; simp at hu; rcases hu with rfl | rfl <;> rfl
      case c3 => unfold maxLen; omega
      case c4 => omega
      case c5 => omega
      intro g6 c6 w6 hown6 hgrow6 hwh6 _
      have m6 : OwnK w6 w4.heap.size (some ⟨g6, 0, none⟩) 1 c6 [k0] := hown6
      have hgl' := H5.out.lt
      have hln := H5.out.n.lt
      have t6 : Touch (fun x => x = w4.heap.size) w5 w6 := (Touch.of_grown hgrow6).mono fun x hx => by have := own_eq hx; omega
      have h6 := H5.out.upd t6 (fun k e => by omega) ((t6.block g1 hln (by omega)).trans H5.out.n) (H5.out.p.touch t6 (fun x hx e => by have := hP.out x hx; omega)) (m6.base (by omega))
        (fun x hx e => by have := hP.out x hx; have := (World.ownsRow.lt m6 x e).1; omega) H5.out.dp (fun x hx => by have := (World.ownsRow.lt m6 x hx).1; omega)
      have H6 := Lib.hid h6
      clear h6 hown6 hgrow6 hwh6 m6 t6 t0 t1 q10 q11 q12 q13 q20 q21 q22 q23 f1 f2 hq22 K5 H5
      have q10 := H6.out.x.cell 0
      have q11 := H6.out.x.cell 1
      have q12 := H6.out.x.cell 2
      have q13 := H6.out.x.cell 3
      have q20 := H6.out.n.cell 0
      have q21 := H6.out.n.cell 1
      have q22 := H6.out.n.cell 2
      have q23 := H6.out.n.cell 3
      have f1 := H6.out.x.free
      have f2 := H6.out.n.free
      simp at q10 q11 q12 q13 q20 q21 q22 q23
      go_wp2
      have H7 : Hid (Held w _ B g g1 #[.int .i64 kind, .slice Ap np cp, .slice (some ⟨g6, 0, none⟩) 1 c6, .string val] Ap np cp path (some ⟨g6, 0, none⟩) 1 c6 [k0]) := Lib.hid (H6.out.setN 2 (.slice (some ⟨g6, 0, none⟩) 1 c6))
      generalize w6.setCell ⟨g1, 2, none⟩ (.slice (some ⟨g6, 0, none⟩) 1 c6) = w7 at H7 ⊢
      obtain ⟨hX, hN, c9, g9⟩ := H7.out.fin (by omega) (by omega) (by omega)
      refine bodyPost_ret (v := .agg #[.int .i64 kind, .slice Ap np cp, .slice (some ⟨g6, 0, none⟩) 1 c6, .string val]) (results_cell_row Try.results71 _ _ w.heap.size _ _ _ _ rfl hX Try.underlying26 rfl (by kernel_rfl)) rfl ?_
      exact ⟨_, ⟨kind, path, [k0], val⟩, rfl, hN, fun k hk => wf k (by simp at hk; simp [hk]), by simp only; omega, by simp, by simp only; omega, c9, g9⟩
  · have q22 := H4.out.n.cell 2
    simp at q22
    by_cases hnk : 0 < nk
    · obtain ⟨gk, rfl, hgk, hgl⟩ := H4.out.k.form hnk
      have h4 : HeldK w w4 B g g1 gk #[.int .i64 kind, .slice Ap np cp, .slice (some ⟨gk, 0, none⟩) nk ck, .string val] Ap np cp path nk ck := ⟨kids, wf, H4.out⟩
      have H4k := Lib.hid h4
      clear h4 H4
      have hc2 : ∀ W, HeldK w W B g g1 gk #[.int .i64 kind, .slice Ap np cp, .slice (some ⟨gk, 0, none⟩) nk ck, .string val] Ap np cp path nk ck → W.cell? ⟨g1, 2, none⟩ = some (.slice (some ⟨gk, 0, none⟩) nk ck) := fun W h => h.cell2
      have hk1 : ∀ W, HeldK w W B g g1 gk #[.int .i64 kind, .slice Ap np cp, .slice (some ⟨gk, 0, none⟩) nk ck, .string val] Ap np cp path nk ck → W.cell? ⟨gk, 1, none⟩ = some (cellAt W ⟨gk, 1, none⟩) := fun W h => h.name hnk
      have hf1 : ∀ W, HeldK w W B g g1 gk #[.int .i64 kind, .slice Ap np cp, .slice (some ⟨gk, 0, none⟩) nk ck, .string val] Ap np cp path nk ck → W.frozen? ⟨gk, 1, none⟩ = false := fun W h => h.free 1
      go_wp2
      clear q22
      go_region_held3 (fun W => HeldK w W B g g1 gk #[.int .i64 kind, .slice Ap np cp, .slice (some ⟨gk, 0, none⟩) nk ck, .string val] Ap np cp path nk ck) (first | exact H4k.out.drew | assumption | exact HeldK.store (by assumption) _ (by assumption))
        (first | (go_at_call 115
                  refine (from_any _ B g (-1) 1 (by omega) (by omega) (by omega) (by omega) (HeldK.c (by assumption))).mono ?_
                  rintro e w5 ⟨z, hz0, hz1, rfl, c5, o5⟩
                  have h5 := HeldK.step (by assumption) c5 o5))
      all_goals
        clear hc2 hk1 hf1 h5
        rename_i hH
        generalize w5.setCell ⟨gk, 1, none⟩ (.int .i64 z) = w6 at hH ⊢
        obtain ⟨ks, wks, h6⟩ := hH
        have ek6 := h6.k.len
        have q10 := h6.x.cell 0
        have q11 := h6.x.cell 1
        have q12 := h6.x.cell 2
        have q13 := h6.x.cell 3
        have q20 := h6.n.cell 0
        have q21 := h6.n.cell 1
        have q22 := h6.n.cell 2
        have q23 := h6.n.cell 3
        have f1 := h6.x.free
        have f2 := h6.n.free
        simp at q10 q11 q12 q13 q20 q21 q22 q23
        have H6 := Lib.hid h6
        clear h6
        go_wp2
        obtain ⟨hX, hN, c9, g9⟩ := H6.out.fin (by omega) (by omega) (by omega)
        refine bodyPost_ret (v := .agg #[.int .i64 kind, .slice Ap np cp, .slice (some ⟨gk, 0, none⟩) nk ck, .string val]) (results_cell_row Try.results71 _ _ w.heap.size _ _ _ _ rfl hX Try.underlying26 rfl (by kernel_rfl)) rfl ?_
        exact ⟨_, ⟨kind, path, ks, val⟩, rfl, hN, wks, by simp only; omega, by simp only; omega, by simp only; omega, c9, g9⟩
    · have q10 := H4.out.x.cell 0
      have q11 := H4.out.x.cell 1
      have q12 := H4.out.x.cell 2
      have q13 := H4.out.x.cell 3
      have q20 := H4.out.n.cell 0
      have q21 := H4.out.n.cell 1
      have q22 := H4.out.n.cell 2
      have q23 := H4.out.n.cell 3
      have f1 := H4.out.x.free
      have f2 := H4.out.n.free
      simp at q10 q11 q12 q13 q20 q21 q22 q23
      go_wp2
      obtain ⟨hX, hN, c9, g9⟩ := H4.out.fin (by omega) (by omega) (by omega)
      refine bodyPost_ret (v := .agg #[.int .i64 kind, .slice Ap np cp, .slice Ak nk ck, .string val]) (results_cell_row Try.results71 _ _ w.heap.size _ _ _ _ rfl hX Try.underlying26 rfl (by kernel_rfl)) rfl ?_
      exact ⟨_, ⟨kind, path, kids, val⟩, rfl, hN, wf, by simp only; omega, by simp only; omega, by simp only; omega, c9, g9⟩
end Go.Proofs.Ytebfinedkjlbbaa

-- Draw5: What DrawNodeBytes, DrawValueOk and DrawNodeFrom make: a node, a text, some bytes of the call's own; the old world is as it was.
namespace Go.Proofs.Ytebfinedkjlbbaa
set_option maxRecDepth 20000
set_option linter.unusedSimpArgs false
set_option linter.unusedVariables false
open Go.RowKit

/-- a node was made, the old world is as it was. -/
def NodeMade (w : World) (e : Ending) (w' : World) : Prop :=
  ∃ v nd, e = .returned v ∧ OwnN w' w.heap.size v nd ∧ NodeWf nd ∧ nd.path.length ≤ 9 ∧ nd.kids.length ≤ 3 ∧ nd.val.size ≤ 13 ∧ Below w.heap.size w w'
theorem drawNodeBytes_any (A : Option Addr) (n c : Nat) (zs : List Int) (w : World) (hn : n ≤ 4096) (hb : Byts w w.heap.size A n zs) :
    Calls Try.prog 19 #[.slice A n c] w (NodeMade w) := by
  have HB := Lib.hid hb
  clear hb
  obtain ⟨w1, hw1⟩ : ∃ w1, w.alloc (.cells #[.int .i64 0, .slice none 0 0, .slice none 0 0, .string { data := #[] }] 26) = w1 := ⟨_, rfl⟩
  have x1 : Box w1 w.heap.size 26 #[.int .i64 0, .slice none 0 0, .slice none 0 0, .string { data := #[] }] := hw1 ▸ heap_alloc_new _ _
  have s1 : w.heap.size < w1.heap.size := hw1 ▸ by simp
  have b1 : Below w.heap.size w w1 := hw1 ▸ (Below.refl _ _).alloc (Nat.le_refl _) _
  have X1 := Lib.hid x1
  have B1 := Lib.hid b1
  have HW := Lib.hid hw1
  clear x1 b1 hw1
  go_enter Try.func19, Try.ntmps19
  go_wp2_with fail
  rw [HW.out]
  refine (new_any _ _ _ zs _ hn ((HB.out.below B1.out).more (by omega))).mono ?_
  rintro e w2 ⟨g, rfl, c2, b2⟩
  have hge := c2.ge
  have C2 := Lib.hid c2
  have X2 := Lib.hid (X1.out.below b2 s1)
  have B2 := Lib.hid (B1.out.trans (b2.mono (by omega)))
  have s2 := B2.out.size
  have s12 := b2.size
  clear c2 b2
  go_wp2_with fail
  refine (l3DrawAny_any _ _ _ C2.out).mono ?_
  rintro e w3 ⟨v, nd, rfl, hN, wf, e1, e2, e3, k3, g3⟩
  have X3 := Lib.hid (X2.out.grown g3 (by intro e; cases e; omega))
  have B3 := Lib.hid (B2.out.trans (grown_below g3 s2 (by omega)))
  have V := Lib.hid hN
  obtain ⟨Ap, np, cp, Ak, nk, ck, rfl, _⟩ := hN
  clear k3 g3
  have q10 := X3.out.cell 0
  have q11 := X3.out.cell 1
  have q12 := X3.out.cell 2
  have q13 := X3.out.cell 3
  have f1 := X3.out.free
  simp at q10 q11 q12 q13
  go_wp2
  obtain ⟨hX, hb⟩ := set4 X3.out (.int .i64 nd.kind) (.slice Ap np cp) (.slice Ak nk ck) (.string nd.val)
  refine bodyPost_ret (v := .agg #[.int .i64 nd.kind, .slice Ap np cp, .slice Ak nk ck, .string nd.val]) (results_cell_row Try.results19 _ _ w.heap.size _ _ _ _ rfl hX Try.underlying26 rfl (by kernel_rfl)) rfl ?_
  exact ⟨_, nd, rfl, (V.out.touch hb (fun g hg h => by have := (V.out.blk hg).1; omega)).base (by omega), wf, e1, e2, e3, B3.out.trans (hb.below B3.out.size (fun k hk h => by omega))⟩

theorem drawValueOk_any (A : Option Addr) (n c : Nat) (zs : List Int) (w : World) (hn : n ≤ 4096) (hb : Byts w w.heap.size A n zs) :
    Calls Try.prog 22 #[.slice A n c] w (Text2 w 13) := by
  have HB := Lib.hid hb
  clear hb
  go_enter Try.func22, Try.ntmps22
  go_wp2_with fail
  refine (new_any _ _ _ zs _ hn HB.out).mono ?_
  rintro e w1 ⟨g, rfl, c1, b1⟩
  have C1 := Lib.hid c1
  have B1 := Lib.hid b1
  clear c1 b1
  go_wp2_with fail
  refine (once_any _ _ _ 2 (by omega) (by omega) C1.out).mono ?_
  rintro e w2 ⟨b, rfl, k2, g2⟩
  have K2 := Lib.hid k2
  have hlt := k2.lt
  have hge := k2.ge
  have B2 := Lib.hid (B1.out.trans (grown_below g2 B1.out.size C1.out.ge))
  have s2 := B2.out.size
  clear k2 g2
  cases b
  · go_wp2_with fail
    refine (l3DrawValue_any _ _ _ K2.out).mono ?_
    rintro e w3 ⟨s, hs, rfl, k3, g3⟩
    have B3 := Lib.hid (B2.out.trans (grown_below g3 s2 hge))
    clear k3 g3
    go_wp2
    go_ret
    exact ⟨s, by omega, rfl, B3.out⟩
  · go_wp2_with fail
    refine (below_any _ _ g 5 (by omega) (by omega) (K2.out.grown (World.grownBy_alloc w2 _ none) (fun r h => by cases h))).mono ?_
    rintro e w3 ⟨r, hr0, hr1, rfl, c3, g3⟩
    have hblk := g3.block w2.heap.size (by simp) (by intro e; cases e; omega)
    rw [heap_alloc_new] at hblk
    obtain ⟨k, rfl⟩ : ∃ k : Nat, r = k := ⟨r.toNat, by omega⟩
    obtain ⟨x, hx5, hx⟩ := str_cell (xs := [⟨#[]⟩, ⟨#[65]⟩, ⟨#[97, 32, 98]⟩, ⟨#[97, 98, 99, 100, 101, 102, 103, 104, 105, 106, 107, 108]⟩, ⟨#[97, 98, 99, 100, 101, 102, 103, 104, 105, 106, 107, 108, 109]⟩]) hblk 13 (by decide) k (by simp; omega)
    clear hblk
    have B3 := Lib.hid (B2.out.trans (grown_below ((World.grownBy_alloc w2 _ (some g)).trans g3) s2 hge))
    clear c3 g3
    go_wp2
    go_ret
    exact ⟨x, hx5, rfl, B3.out⟩

theorem rawBytes_len (nd : MNode) : 4 ≤ (rawBytes nd).length ∧ (rawBytes nd).length ≤ 4 + nd.path.length + nd.val.size + nd.kids.length * 9 := by
  unfold rawBytes
  have h1 := kidBytes_len nd.kids
  have h2 := sb_len nd.val
  simp only [List.length_append, List.length_map, List.length_cons, List.length_nil]
  omega

/-- some bytes were made, the old world is as it was. -/
def BytsMade (w : World) (m : Nat) (e : Ending) (w' : World) : Prop :=
  ∃ A n c xs, n ≤ m ∧ n ≤ c ∧ (A = none → c = 0) ∧ e = .returned (.slice A n c) ∧ Byts w' w'.heap.size A n xs ∧ Below w.heap.size w w'
set_option maxHeartbeats 800000 in
theorem drawNodeFrom_any (A : Option Addr) (n c : Nat) (zs : List Int) (w : World) (hn : n ≤ 4096) (hb : Byts w w.heap.size A n zs) :
    Calls Try.prog 21 #[.slice A n c] w (BytsMade w 256) := by
  have HB := Lib.hid hb
  clear hb
  go_enter Try.func21, Try.ntmps21
  go_wp2_with fail
  refine (new_any _ _ _ zs _ hn HB.out).mono ?_
  rintro e w1 ⟨g, rfl, c1, b1⟩
  have C1 := Lib.hid c1
  have B1 := Lib.hid b1
  have hge := c1.ge
  clear c1 b1
  go_wp2_with fail
  refine (l3Draw_any _ _ _ C1.out).mono ?_
  rintro e w2 ⟨v, nd, rfl, hN, wf, e1, e2, e3, k2, g2⟩
  have K2 := Lib.hid k2
  have hlt := k2.lt
  have B2 := Lib.hid (B1.out.trans (grown_below g2 B1.out.size hge))
  have s2 := B2.out.size
  clear k2 g2
  go_wp2_with fail
  refine (l3Bytes_any v nd _ w2 (Nat.le_refl _) hN.node).mono ?_
  rintro e w3 ⟨r, m, cm, rfl, m3, b3⟩
  have hml : (rawBytes nd).length = m := m3.len
  have hrl := rawBytes_len nd
  have hmc := mine_cap m3
  have M3 := Lib.hid m3
  have K3 : Hid (Cur w3 w.heap.size g) := K2.out.grown (below_grow b3 (row := none)) (fun r h => by cases h)
  have B3 := Lib.hid (B2.out.trans (b3.mono s2))
  have s3 := B3.out.size
  have hlr := (m3.1.lt r rfl).1
  clear b3 m3 hN
  generalize rawBytes nd = xs at hml hrl M3
  go_wp2_with fail
  refine (once_any _ _ _ 2 (by omega) (by omega) K3.out).mono ?_
  rintro e w4 ⟨b, rfl, k4, g4⟩
  have K4 := Lib.hid k4
  have M4 := Lib.hid (M3.out.grown g4 (fun r h => by cases h; omega))
  have B4 := Lib.hid (B3.out.trans (grown_below g4 s3 (by omega)))
  have s4 := B4.out.size
  clear k4 g4
  cases b
  · go_wp2
    go_ret
    exact ⟨some ⟨r, 0, none⟩, m, cm, xs, by omega, hmc, (fun h => by cases h), rfl, M4.out.byts, B4.out⟩
  · go_wp2_with fail
    refine (below_any _ _ g 3 (by omega) (by omega) K4.out).mono ?_
    rintro e w5 ⟨q, hq0, hq1, rfl, k5, g5⟩
    have K5 := Lib.hid k5
    have M5 := Lib.hid (M4.out.grown g5 (fun r h => by cases h; omega))
    have B5 := Lib.hid (B4.out.trans (grown_below g5 s4 (by omega)))
    have s5 := B5.out.size
    clear k5 g5
    have hq : q = 0 ∨ q = 1 ∨ q = 2 := by omega
    rcases hq with rfl | rfl | rfl
    · go_wp2_with fail
      refine (below_any _ _ g (m : Int) (by omega) (by omega) K5.out).mono ?_
      rintro e w6 ⟨i, hi0, hi1, rfl, k6, g6⟩
      obtain ⟨i, rfl⟩ : ∃ k : Nat, i = k := ⟨i.toNat, by omega⟩
      have K6 := Lib.hid k6
      have M6 := Lib.hid (M5.out.grown g6 (fun r h => by cases h; omega))
      have B6 := Lib.hid (B5.out.trans (grown_below g6 s5 (by omega)))
      have s6 := B6.out.size
      clear k6 g6
      go_wp2_with fail
      refine (below_any _ _ g 256 (by omega) (by omega) K6.out).mono ?_
      rintro e w7 ⟨z, hz0, hz1, rfl, k7, g7⟩
      have M7 := Lib.hid (M6.out.grown g7 (fun r h => by cases h; omega))
      have B7 := Lib.hid (B6.out.trans (grown_below g7 s6 (by omega)))
      have hcell := M7.out.cell (k := i) (by omega)
      have hfree := M7.out.free i
      have S7 := Lib.hid (M7.out.set_ i z (by omega))
      have s7 := B7.out.size
      clear k7 g7
      go_wp2
      go_ret
      exact ⟨some ⟨r, 0, none⟩, m, cm, _, by omega, hmc, (fun h => by cases h), rfl, S7.out.1.byts, B7.out.trans (grown_below S7.out.2 s7 (by omega))⟩
    · go_wp2_with fail
      refine (below_any _ _ g (m : Int) (by omega) (by omega) K5.out).mono ?_
      rintro e w6 ⟨i, hi0, hi1, rfl, k6, g6⟩
      obtain ⟨i, rfl⟩ : ∃ k : Nat, i = k := ⟨i.toNat, by omega⟩
      have M6 := Lib.hid (M5.out.grown g6 (fun r h => by cases h; omega))
      have B6 := Lib.hid (B5.out.trans (grown_below g6 s5 (by omega)))
      clear k6 g6
      have hic : (i : Int) ≤ (cm : Int) := by omega
      go_wp2
      go_ret
      exact ⟨some ⟨r, 0, none⟩, i, cm, _, by omega, by omega, (fun h => by cases h), rfl, M6.out.byts.take_ (by omega), B6.out⟩
    · go_wp2_with fail
      refine (below_any _ _ g 3 (by omega) (by omega) K5.out).mono ?_
      rintro e w6 ⟨z, hz0, hz1, rfl, k6, g6⟩
      have M6 := Lib.hid (M5.out.grown g6 (fun r h => by cases h; omega))
      have B6 := Lib.hid (B5.out.trans (grown_below g6 s5 (by omega)))
      have s6 := B6.out.size
      clear k6 g6
      obtain ⟨i0, hi, hz0, hz1, hz2⟩ := info_parts Try.info5
      have s26 : w2.heap.size ≤ w6.heap.size := by have := (M6.out.1.lt r rfl).2; omega
      go_wp2_with (at_builtin; refine wpList_append_lies _ rfl _ _ 22 rfl w2.heap.size 5 i0 (.int .u8 0) 1 1 Try.underlying22 hi hz0 hz1 hz2 rfl (by decide) _ _ _ rfl (M6.out.1.alloc _) ⟨w6.heap.size, 0, none⟩ 1 1 ([z].map (Value.int .u8)) rfl ?a0 ?a1 ?a2 (by omega) ?a3 ?a4 ?a5 _ rfl ?_)
      case a0 => first | rfl | (simp; done)
      case a1 =>
        intro j u hj
        match j, hj with
        | 0, hj => simp at hj; subst hj; simp [Addr.add]
      case a2 => intro u hu; simp at hu; subst hu; rfl
      case a3 => unfold maxLen; omega
      case a4 => omega
      case a5 => simp; omega
      intro g7 c7 w7 hown7 hgrow7 _ _
      have hm7 := M6.out.app (ys := [z]) (by intro y hy; simp at hy; omega) (by simpa using hown7)
      have hb7 : Below w.heap.size w w7 := (B6.out.alloc s6 _).grown hgrow7 (by simp; omega) (fun g hg => by have := (M6.out.1.lt g hg).1; omega)
      have hc7 := mine_cap hm7
      have M7 := Lib.hid hm7
      have B7 := Lib.hid hb7
      clear hm7 hb7 hown7 hgrow7
      go_wp2
      go_ret
      exact ⟨some ⟨g7, 0, none⟩, m + 1, c7, _, by omega, hc7, (fun h => by cases h), rfl, M7.out.byts, B7.out⟩
end Go.Proofs.Ytebfinedkjlbbaa

-- FrameL: Plain facts on frames that stand one behind the other, the last of them torn. No statement of the program is proved here.
namespace Go.Proofs.Ytebfinedkjlbbaa
set_option maxRecDepth 20000
set_option linter.unusedVariables false
set_option linter.unusedSimpArgs false
open Go.RowKit

theorem getD_left (p r : List Int) (i : Nat) (h : i < p.length) : (p ++ r)[i]?.getD 0 = p[i]?.getD 0 := by rw [List.getElem?_append_left h]
theorem getD_right (p r : List Int) (i : Nat) : (p ++ r)[p.length + i]?.getD 0 = r[i]?.getD 0 := by rw [List.getElem?_append_right (by omega), show p.length + i - p.length = i by omega]
theorem ofTwo_right (p r : List Int) (i : Nat) : ofTwo (p ++ r) (p.length + i) = ofTwo r i := by
  unfold ofTwo
  rw [getD_right, Nat.add_assoc, getD_right]
theorem drop_right (p r : List Int) (i : Nat) : (p ++ r).drop (p.length + i) = r.drop i := by
  rw [List.drop_append]
  simp
theorem bodyAt_right (p r : List Int) (i : Nat) : bodyAt (p ++ r) (p.length + i) = bodyAt r i := by
  unfold bodyAt
  rw [ofTwo_right, Nat.add_assoc, drop_right]
theorem eightAt_right (p r : List Int) (i : Nat) : eightAt (p ++ r) (p.length + i) = eightAt r i := by
  unfold eightAt
  rw [Nat.add_assoc, drop_right]
theorem frameAt_right (p r : List Int) (i : Nat) : frameAt (p ++ r) (p.length + i) ↔ frameAt r i := by
  unfold frameAt
  rw [ofTwo_right, bodyAt_right, eightAt_right, List.length_append]
  constructor
  · rintro ⟨h1, h2⟩; exact ⟨by omega, h2⟩
  · rintro ⟨h1, h2⟩; exact ⟨by omega, h2⟩
/-- frames behind some bytes are read as they would be alone. -/
theorem framesAt_right (p r : List Int) (m : Nat) : ∀ i, r.length - i ≤ m → framesAt (p ++ r) (p.length + i) = ((framesAt r i).1, p.length + (framesAt r i).2) := by
  induction m with
  | zero =>
    intro i hi
    have h : ¬ frameAt r i := fun h => by have := h.1; omega
    rw [framesAt_no r i h, framesAt_no _ _ (fun h' => h ((frameAt_right p r i).1 h'))]
  | succ m ih =>
    intro i hi
    by_cases h : frameAt r i
    · have h1 := h.1
      rw [framesAt_yes r i h, framesAt_yes _ _ ((frameAt_right p r i).2 h), bodyAt_right, ofTwo_right]
      have e : p.length + i + 10 + ofTwo r i = p.length + (i + 10 + ofTwo r i) := by omega
      rw [e, ih (i + 10 + ofTwo r i) (by omega)]
    · rw [framesAt_no r i h, framesAt_no _ _ (fun h' => h ((frameAt_right p r i).1 h'))]
theorem nameBytes_8 (zs : List Int) : (nameBytes (nameOf zs)).length = 8 := by
  have := nameOf_bd zs
  rw [nameBytes_yes _ (by omega), nb_len]
theorem framed_10 (b : List Int) (h : b.length ≤ 65535) : (framed b).length = b.length + 10 := by
  unfold framed
  rw [if_neg (by omega)]
  simp only [List.length_append, two, List.length_cons, List.length_nil, nameBytes_8]
  omega
theorem framed_eq (b : List Int) (h : b.length ≤ 65535) : framed b = [(b.length : Int) % 256, (b.length : Int) / 256] ++ (nameBytes (nameOf b) ++ b) := by
  unfold framed two
  rw [if_neg (by omega), List.append_assoc]
theorem ofTwo_framed (b r : List Int) (h : b.length ≤ 65535) : ofTwo (framed b ++ r) 0 = b.length := by
  rw [framed_eq b h]
  unfold ofTwo
  simp
  omega
theorem eightAt_framed (b r : List Int) (h : b.length ≤ 65535) : eightAt (framed b ++ r) 0 = nameBytes (nameOf b) := by
  rw [framed_eq b h]
  unfold eightAt
  have h8 := nameBytes_8 b
  have e : ([(b.length : Int) % 256, (b.length : Int) / 256] ++ (nameBytes (nameOf b) ++ b) ++ r).drop (0 + 2) = nameBytes (nameOf b) ++ (b ++ r) := by simp
  rw [e, List.take_left' h8]
theorem bodyAt_framed (b r : List Int) (h : b.length ≤ 65535) : bodyAt (framed b ++ r) 0 = b := by
  unfold bodyAt
  rw [ofTwo_framed b r h, framed_eq b h]
  have h8 := nameBytes_8 b
  have e : ([(b.length : Int) % 256, (b.length : Int) / 256] ++ (nameBytes (nameOf b) ++ b) ++ r).drop (0 + 10) = b ++ r := by
    have e1 : ([(b.length : Int) % 256, (b.length : Int) / 256] ++ (nameBytes (nameOf b) ++ b) ++ r) = ([(b.length : Int) % 256, (b.length : Int) / 256] ++ nameBytes (nameOf b)) ++ (b ++ r) := by simp
    rw [e1, List.drop_left' (by simp [h8])]
  rw [e, List.take_left' rfl]
theorem eight_name (b : List Int) : (nameBytes (nameOf b))[7]?.getD 0 ≤ 127 ∧ leVal (nameBytes (nameOf b)) = nameOf b := by
  have h := nameOf_bd b
  have h2 := back_of_bytes (nameOf b) ⟨by omega, h.2⟩
  exact ⟨h2.2.2, h2.1⟩
theorem frameAt_framed (b r : List Int) (h : b.length ≤ 65535) : frameAt (framed b ++ r) 0 := by
  refine ⟨?_, ?_, ?_⟩
  · rw [ofTwo_framed b r h, List.length_append, framed_10 b h]; omega
  · rw [eightAt_framed b r h]; exact (eight_name b).1
  · rw [eightAt_framed b r h, bodyAt_framed b r h]; exact (eight_name b).2
theorem framesAt_framed (b r : List Int) (h : b.length ≤ 65535) : framesAt (framed b ++ r) 0 = (b :: (framesAt r 0).1, (framed b).length + (framesAt r 0).2) := by
  rw [framesAt_yes _ _ (frameAt_framed b r h), bodyAt_framed b r h, ofTwo_framed b r h]
  have e : 0 + 10 + b.length = (framed b).length + 0 := by rw [framed_10 b h]; omega
  rw [e, framesAt_right (framed b) r r.length 0 (by omega)]
/-- whole frames, and what is behind them. -/
theorem framesAt_all (l : List (List Int)) (hl : ∀ x ∈ l, x.length ≤ 65535) (r : List Int) : framesAt (l.flatMap framed ++ r) 0 = (l ++ (framesAt r 0).1, (l.flatMap framed).length + (framesAt r 0).2) := by
  induction l with
  | nil => simp
  | cons x t ih =>
    have hx := hl x (List.mem_cons_self ..)
    rw [List.flatMap_cons, List.append_assoc, framesAt_framed x _ hx, ih (fun y hy => hl y (List.mem_cons_of_mem _ hy)), List.length_append]
    simp [Nat.add_assoc]
/-- a torn frame is none. -/
theorem framesAt_torn (b : List Int) (h : b.length ≤ 65535) (t : Nat) (ht : t < (framed b).length) : framesAt ((framed b).take t) 0 = ([], 0) := by
  refine framesAt_no _ _ (fun hf => ?_)
  have h1 := hf.1
  rw [List.length_take, Nat.min_eq_left (by omega)] at h1
  have hl := framed_10 b h
  have e : ofTwo ((framed b).take t) 0 = ofTwo (framed b ++ []) 0 := by
    unfold ofTwo
    rw [List.getElem?_take_of_lt (by omega), List.getElem?_take_of_lt (by omega), List.append_nil]
  rw [e, ofTwo_framed b [] h] at h1
  omega
end Go.Proofs.Ytebfinedkjlbbaa

-- FromL: Plain facts: what is written of changes is read as they; what is read is written as it was. No statement of the program is proved here.
namespace Go.Proofs.Ytebfinedkjlbbaa
set_option maxRecDepth 20000
set_option linter.unusedVariables false
set_option linter.unusedSimpArgs false
open Go.RowKit

theorem range_at (b : List Int) (hb : ∀ z ∈ b, 0 ≤ z ∧ z ≤ 255) (k : Nat) : (0 : Int) ≤ b[k]?.getD 0 ∧ b[k]?.getD 0 ≤ (255 : Int) := by
  by_cases hk : k < b.length
  · rw [List.getElem?_eq_getElem hk]; exact hb _ (List.getElem_mem hk)
  · rw [List.getElem?_eq_none (by omega)]; simp
theorem cons_at (b : List Int) (k : Nat) (hk : k < b.length) : b.drop k = b[k]?.getD 0 :: b.drop (k + 1) := by
  rw [List.drop_eq_getElem_cons hk, List.getElem?_eq_getElem hk]; rfl
theorem split_at (b : List Int) (i m : Nat) : b.drop i = (b.drop i).take m ++ b.drop (i + m) := by
  have h := List.take_append_drop m (b.drop i)
  rw [List.drop_drop] at h
  exact h.symm
theorem at_drop (b : List Int) (i j : Nat) : b[i + j]?.getD 0 = (b.drop i)[j]?.getD 0 := by rw [List.getElem?_drop]
theorem ofTwo_drop (b : List Int) (i j : Nat) : ofTwo b (i + j) = ofTwo (b.drop i) j := by
  unfold ofTwo
  rw [at_drop, Nat.add_assoc, at_drop]
theorem drop_len (b : List Int) (i : Nat) (l : List Int) (hi : i ≤ b.length) (h : b.drop i = l) : b.length = i + l.length := by
  have := congrArg List.length h
  rw [List.length_drop] at this
  omega
theorem ofTwo_two (n : Nat) (x : Int) (r : List Int) : ofTwo (x :: (two (n : Int) ++ r)) 1 = n := by
  unfold ofTwo two
  simp
  omega
theorem ofTwo_two0 (n : Nat) (r : List Int) : ofTwo (two (n : Int) ++ r) 0 = n := by
  unfold ofTwo two
  simp
  omega
/-- a change is read where its bytes stand. -/
theorem oneAt_here (b : List Int) (i : Nat) (x : MChg) (r : List Int) (hi : i ≤ b.length) (h : b.drop i = chgBytes x ++ r) (hx : ChgOk x) (hn : x.name ≤ 9223372036854775807) : oneAt b i = some (x, i + (chgBytes x).length) := by
  have hl := drop_len b i _ hi h
  obtain ⟨kd, nm, bs⟩ := x
  have hpos : 0 < (chgBytes ⟨kd, nm, bs⟩).length := by unfold chgBytes; simp
  rw [List.length_append] at hl
  have h0 : ¬ b.length ≤ i := by omega
  have hk : b[i]?.getD 0 = kd % 256 := by
    have e := at_drop b i 0
    rw [Nat.add_zero, h] at e
    rw [e]; rfl
  have hkk : 1 ≤ kd ∧ kd ≤ 11 := by
    rcases hx with ⟨_, h1, h2, _⟩ | ⟨h1, _⟩
    · simp at h1 h2; omega
    · simp at h1; omega
  have hk' : b[i]?.getD 0 = kd := by rw [hk]; omega
  by_cases h1 : kd = 1
  · subst h1
    have hb : chgBytes ⟨1, nm, bs⟩ = 1 :: (two (bs.length : Int) ++ bs) := by unfold chgBytes; simp
    rw [hb] at h hl
    have h2 : ofTwo b (i + 1) = bs.length := by
      rw [ofTwo_drop, h, List.cons_append, List.append_assoc]
      exact ofTwo_two _ _ _
    have h3 : (b.drop (i + 3)).take bs.length = bs := by
      rw [← List.drop_drop, h]
      have e : ((1 : Int) :: (two (bs.length : Int) ++ bs) ++ r).drop 3 = bs ++ r := by unfold two; simp
      rw [e, List.take_left' rfl]
    have hx' : nm = nameOf bs := by
      rcases hx with ⟨h1, _⟩ | ⟨_, _, h3⟩
      · exact absurd rfl h1
      · exact h3
    subst hx'
    have hll : ((1 : Int) :: (two (bs.length : Int) ++ bs)).length = 3 + bs.length := by simp only [List.length_cons, List.length_append, two, List.length_nil]; omega
    rw [hll] at hl
    have := oneAt_cell_yes b i h0 hk' (by rw [h2]; omega) (by rw [h2, h3]; exact hx)
    rw [this, h2, h3, hb, hll, Nat.add_assoc]
  · have hb : chgBytes ⟨kd, nm, bs⟩ = (kd % 256) :: nameBytes nm := by unfold chgBytes; simp [h1]
    rw [hb] at h hl
    have hx' : 0 ≤ nm ∧ bs = [] := by
      rcases hx with ⟨_, _, _, h3, h4⟩ | ⟨h1', _⟩
      · exact ⟨h3, h4⟩
      · exact absurd h1' h1
    obtain ⟨hnm, rfl⟩ := hx'
    have hbk := back_of_bytes nm ⟨hnm, hn⟩
    have h8 : (b.drop (i + 1)).take 8 = nameBytes nm := by
      rw [← List.drop_drop, h]
      have e : (kd % 256 :: nameBytes nm ++ r).drop 1 = nameBytes nm ++ r := by simp
      rw [e, List.take_left' hbk.2.1]
    have hll : ((kd % 256) :: nameBytes nm).length = 9 := by rw [List.length_cons, hbk.2.1]
    rw [hll] at hl
    have := oneAt_name_yes b i h0 (by rw [hk']; exact h1) (by omega) (by rw [h8, hk', hbk.1]; exact ⟨hbk.2.2, hx⟩)
    rw [this, h8, hk', hbk.1, hb, hll]
theorem manyAt_here (cs : List MChg) : ∀ (b : List Int) (i : Nat) (r : List Int), i ≤ b.length → b.drop i = cs.flatMap chgBytes ++ r → (∀ x ∈ cs, ChgOk x ∧ x.name ≤ 9223372036854775807) → manyAt b cs.length i = some (cs, i + (cs.flatMap chgBytes).length) := by
  induction cs with
  | nil => intro b i r _ _ _; rfl
  | cons x t ih =>
    intro b i r hi h hc
    obtain ⟨hx, hn⟩ := hc x (List.mem_cons_self ..)
    rw [List.flatMap_cons, List.append_assoc] at h
    have h1 := oneAt_here b i x _ hi h hx hn
    have hl := drop_len b i _ hi h
    rw [List.length_append] at hl
    have h2 := ih b (i + (chgBytes x).length) r (by omega) (by rw [← List.drop_drop, h, List.drop_left' rfl]) (fun y hy => hc y (List.mem_cons_of_mem _ hy))
    rw [List.length_cons]
    unfold manyAt
    rw [h1]
    simp only [h2]
    rw [List.flatMap_cons, List.length_append, Nat.add_assoc]
/-- what is written of changes is read as they. -/
theorem fromAll_bytes (cs : List MChg) (hl : cs.length ≤ 200) (hc : ∀ x ∈ cs, ChgOk x ∧ x.name ≤ 9223372036854775807) : fromAll (two (cs.length : Int) ++ cs.flatMap chgBytes) = some cs := by
  unfold fromAll
  have h2 : (two (cs.length : Int)).length = 2 := rfl
  rw [ofTwo_two0, if_neg (by rw [List.length_append, h2]; omega)]
  have h := manyAt_here cs (two (cs.length : Int) ++ cs.flatMap chgBytes) 2 [] (by rw [List.length_append, h2]; omega) (by rw [List.drop_left' h2, List.append_nil]) hc
  rw [h]
  simp [h2]
/-- what is read of a change stands there. -/
theorem oneAt_bytes {b : List Int} {i j : Nat} {x : MChg} (hb : ∀ z ∈ b, 0 ≤ z ∧ z ≤ 255) (h : oneAt b i = some (x, j)) : b.drop i = chgBytes x ++ b.drop j := by
  have hg := range_at b hb
  have hcons := cons_at b
  unfold oneAt at h
  split at h
  · cases h
  · rename_i h0
    split at h
    · rename_i h1
      split at h
      · cases h
      · rename_i h2
        split at h
        · cases h
          obtain ⟨m, hm⟩ : ∃ m, ofTwo b (i + 1) = m := ⟨_, rfl⟩
          rw [hm] at h2 ⊢
          have hlt : ((b.drop (i + 3)).take m).length = m := by rw [List.length_take, List.length_drop]; omega
          have ht : two (m : Int) = [b[i + 1]?.getD 0, b[i + 1 + 1]?.getD 0] := by
            have a1 := hg (i + 1)
            have a2 := hg (i + 1 + 1)
            unfold ofTwo at hm
            unfold two
            have e1 : (m : Int) % 256 = b[i + 1]?.getD 0 := by omega
            have e2 : (m : Int) / 256 = b[i + 1 + 1]?.getD 0 := by omega
            rw [e1, e2]
          unfold chgBytes
          rw [if_pos rfl]
          simp only [hlt]
          rw [ht, hcons i (by omega), hcons (i + 1) (by omega), hcons (i + 1 + 1) (by omega), h1]
          have e : b.drop (i + 3) = (b.drop (i + 3)).take m ++ b.drop (i + 3 + m) := by
            rw [← split_at]
          simp only [List.cons_append, List.nil_append]
          rw [show i + 1 + 1 + 1 = i + 3 by omega, ← e]
          rfl
        · cases h
    · rename_i h1
      split at h
      · cases h
      · rename_i h2
        split at h
        · rename_i h3
          cases h
          have hr8 : ∀ z ∈ (b.drop (i + 1)).take 8, 0 ≤ z ∧ z ≤ 255 := fun z hz => hb z (List.mem_of_mem_drop (List.mem_of_mem_take hz))
          have hl8 : ((b.drop (i + 1)).take 8).length = 8 := by rw [List.length_take, List.length_drop]; omega
          have hk := bytes_of_back _ hr8 hl8 h3.1
          have ha := hg i
          unfold chgBytes
          rw [if_neg h1]
          simp only [hk]
          rw [show b[i]?.getD 0 % 256 = b[i]?.getD 0 by omega, hcons i (by omega)]
          have e : b.drop (i + 1) = (b.drop (i + 1)).take 8 ++ b.drop (i + 9) := by
            rw [show i + 9 = i + 1 + 8 by omega, ← split_at]
          rw [List.cons_append, ← e]
        · cases h
theorem manyAt_bytes {b : List Int} (hb : ∀ z ∈ b, 0 ≤ z ∧ z ≤ 255) (n : Nat) : ∀ {i j : Nat} {l : List MChg}, manyAt b n i = some (l, j) → b.drop i = l.flatMap chgBytes ++ b.drop j := by
  induction n with
  | zero => intro i j l h; cases h; simp
  | succ n ih =>
    intro i j l h
    unfold manyAt at h
    cases h1 : oneAt b i with
    | none => rw [h1] at h; cases h
    | some p =>
      obtain ⟨x, e⟩ := p
      rw [h1] at h
      cases h2 : manyAt b n e with
      | none => simp only [h2] at h; cases h
      | some q =>
        obtain ⟨l2, e2⟩ := q
        simp only [h2] at h
        cases h
        rw [oneAt_bytes hb h1, ih h2, List.flatMap_cons, List.append_assoc]
/-- what is read is written as it was. -/
theorem bytes_fromAll {b : List Int} {l : List MChg} (hb : ∀ z ∈ b, 0 ≤ z ∧ z ≤ 255) (h : fromAll b = some l) : l.length ≤ 200 ∧ (∀ x ∈ l, ChgOk x) ∧ b = two (l.length : Int) ++ l.flatMap chgBytes := by
  unfold fromAll at h
  split at h
  · cases h
  · rename_i h0
    cases h1 : manyAt b (ofTwo b 0) 2 with
    | none => rw [h1] at h; cases h
    | some p =>
      obtain ⟨l2, e⟩ := p
      rw [h1] at h
      simp only at h
      split at h
      · rename_i he
        cases h
        obtain ⟨k1, k2⟩ := manyAt_ok _ h1
        have k3 := manyAt_bytes hb _ h1
        refine ⟨by omega, k2, ?_⟩
        rw [he, List.drop_eq_nil_of_le (Nat.le_refl _), List.append_nil] at k3
        have hg := range_at b hb
        have a0 := hg 0
        have a1 := hg 1
        have hcons := cons_at b
        have hm : (l.length : Int) = b[0]?.getD 0 + 256 * b[1]?.getD 0 := by rw [k1]; unfold ofTwo; simp only [Nat.zero_add]; omega
        have ht : two (l.length : Int) = [b[0]?.getD 0, b[1]?.getD 0] := by
          unfold two
          rw [show (l.length : Int) % 256 = b[0]?.getD 0 by omega, show (l.length : Int) / 256 = b[1]?.getD 0 by omega]
        have h00 := hcons 0 (by omega)
        rw [List.drop_zero, Nat.zero_add, hcons 1 (by omega), k3] at h00
        rw [ht]
        exact h00
      · cases h
end Go.Proofs.Ytebfinedkjlbbaa

-- Draw1: What chapter 1's drawing functions make: some bytes of the call's own, some number.
namespace Go.Proofs.Ytebfinedkjlbbaa
set_option maxRecDepth 20000
open Go.RowKit

/-- some bytes were drawn into a row of the call's own. -/
def Bytes1 (w : World) (B g : Nat) (m : Nat) (e : Ending) (w' : World) : Prop :=
  ∃ A n c xs, n ≤ m ∧ e = .returned (.slice A n c) ∧ Mine w' w.heap.size A n c xs ∧ Cur w' B g ∧ w.grownBy w' (some g)

/-- some bytes were made, the old world is as it was. -/
def Bytes2 (w : World) (m : Nat) (e : Ending) (w' : World) : Prop :=
  ∃ A n c xs, n ≤ m ∧ e = .returned (.slice A n c) ∧ Mine w' w.heap.size A n c xs ∧ Below w.heap.size w w'
def Int2 (w : World) (e : Ending) (w' : World) : Prop := ∃ x : Int, e = .returned (.int .i64 x) ∧ Below w.heap.size w w'

end Go.Proofs.Ytebfinedkjlbbaa

-- DrawF: What chapter 11's drawing functions make: some bytes.
namespace Go.Proofs.Ytebfinedkjlbbaa
set_option maxRecDepth 20000
set_option linter.unusedVariables false
set_option linter.unusedSimpArgs false
open Go.RowKit

/-- some bytes were made, the old world is as it was. -/
def Bytes3 (w : World) (m : Nat) (e : Ending) (w' : World) : Prop :=
  ∃ A n c xs, n ≤ m ∧ e = .returned (.slice A n c) ∧ n ≤ c ∧ (A = none → c = 0) ∧ Byts w' w'.heap.size A n xs ∧ Below w.heap.size w w'
theorem make_zeros (n : Nat) (hn : n ≤ 140737488355328) (W : World) :
    (Instr.makeSlice 22 (.int .i64 (n : Int)) (.int .i64 (n : Int))).run Try.prog W = .ok (.slice (some ⟨W.heap.size, 0, none⟩) n n) (W.alloc (.cells (u8s (List.replicate n 0)) 5)) := by
  have h := make_bytes (List.replicate n 0) n hn W
  have e0 : filled (List.replicate n 0) n 0 = u8s (List.replicate n 0) := by unfold filled; simp
  rw [e0] at h
  exact h
theorem mine_zeros (W : World) (n : Nat) (hn : n ≤ maxLen) : Mine (W.alloc (.cells (u8s (List.replicate n 0)) 5)) W.heap.size (some ⟨W.heap.size, 0, none⟩) n n (List.replicate n 0) :=
  Mine.of_alloc W _ _ n (Nat.le_refl _) (by simp) hn (by intro z hz; rw [List.eq_of_mem_replicate hz]; omega)

/-- the beginning of a slice. -/
theorem byts_head {w : World} {B n : Nat} {A : Option Addr} {zs : List Int} (p : Nat) (hp : p ≤ n) (h : Byts w B A n zs) : Byts w B A p (zs.take p) := by
  have hl := h.1
  refine ⟨by simp; omega, fun z hz => h.2.1 z (List.mem_of_mem_take hz), fun h0 => ?_⟩
  obtain ⟨b, off, e, hb, hc⟩ := h.2.2 (by omega)
  refine ⟨b, off, e, hb, fun i hi => ?_⟩
  rw [hc i (by omega)]
  simp [hi, List.getElem?_take]

end Go.Proofs.Ytebfinedkjlbbaa

-- DrawC: What chapter 12's drawing functions make: a change.
namespace Go.Proofs.Ytebfinedkjlbbaa
set_option maxRecDepth 20000
set_option linter.unusedVariables false
set_option linter.unusedSimpArgs false
open Go.RowKit

/-- a change of the call's own was drawn. -/
def ChgDrawn (w : World) (B g : Nat) (lo : Int) (m : Nat) (e : Ending) (w' : World) : Prop :=
  ∃ (x : MChg) (A : Option Addr) (n c : Nat), e = .returned (.agg #[.int .i64 x.kind, .int .i64 x.name, .slice A n c]) ∧ Mine w' w.heap.size A n c x.bytes ∧ x.bytes.length ≤ m ∧ lo ≤ x.name ∧ x.name ≤ 9223372036854775807 ∧ Cur w' B g ∧ w.grownBy w' (some g)
theorem raw_short (nd : MNode) (h1 : nd.path.length ≤ 8) (h2 : nd.kids.length ≤ 2) (h3 : nd.val.size ≤ 5) : (rawBytes nd).length ≤ 35 := by
  have hb := kidBytes_len nd.kids
  have hv := sb_len nd.val
  unfold rawBytes
  simp only [List.length_append, List.length_cons, List.length_nil, List.length_map]
  omega
set_option maxHeartbeats 1600000 in
theorem l12Draw_any (w : World) (B g : Nat) (hc : Cur w B g) :
    Calls Try.prog 97 #[.pointer (some ⟨g, 0, none⟩)] w (ChgDrawn w B g 0 35) := by
  have hlt := hc.lt
  have HC := Lib.hid hc
  clear hc
  go_enter Try.func97, Try.ntmps97
  go_wp2_with fail
  refine (once_any _ B g 3 (by omega) (by omega) (HC.out.grown (World.grownBy_alloc w _ none) (fun r h => by cases h))).mono ?_
  rintro e w1 ⟨b, rfl, c1, g1⟩
  have X1 := Lib.hid (Box.grown (t := 44) (heap_alloc_new w _) g1 (by intro e; cases e; omega))
  have G1 := Lib.hid ((World.grownBy_alloc w _ (some g)).trans g1)
  have C1 := Lib.hid c1
  clear g1 c1 HC
  have s1 : w.heap.size < w1.heap.size := X1.out.lt
  cases b with
  | false =>
    go_wp2_with fail
    refine (from_any w1 B g 2 11 (by omega) (by omega) (by omega) (by omega) C1.out).mono ?_
    rintro e w2 ⟨k, hk0, hk1, rfl, c2, g2⟩
    have X2 := Lib.hid (X1.out.grown g2 (by intro e; cases e; omega))
    have G2 := Lib.hid (G1.out.trans g2)
    have C2 := Lib.hid c2
    have s2 := g2.size
    clear g2 c2
    go_wp2_with fail
    refine (once_any w2 B g 2 (by omega) (by omega) C2.out).mono ?_
    rintro e w3 ⟨b, rfl, c3, g3⟩
    have X3 := Lib.hid (X2.out.grown g3 (by intro e; cases e; omega))
    have G3 := Lib.hid (G2.out.trans g3)
    have C3 := Lib.hid c3
    have s3 := g3.size
    clear g3 c3
    cases b with
    | false =>
      go_wp2_with fail
      refine (below_any w3 B g 9 (by omega) (by omega) C3.out).mono ?_
      rintro e w4 ⟨r, hr0, hr1, rfl, c4, g4⟩
      have s4 := g4.size
      have hr8 : r % 256 = r := by omega
      obtain ⟨w5, hw5⟩ : ∃ w5, w4.alloc (.cells #[.int .u8 r] 5) = w5 := ⟨_, rfl⟩
      have m5 : Mine w5 w4.heap.size (some ⟨w4.heap.size, 0, none⟩) 1 1 [r] := hw5 ▸ Mine.of_alloc w4 w4.heap.size [r] 1 (Nat.le_refl _) rfl (by unfold maxLen; omega) (by simp; omega)
      have g5 : w4.grownBy w5 none := hw5 ▸ World.grownBy_alloc w4 _ none
      have g5' : w4.grownBy w5 (some g) := hw5 ▸ World.grownBy_alloc w4 _ (some g)
      have X5 := Lib.hid ((X3.out.grown g4 (by intro e; cases e; omega)).grown g5 (by simp))
      have G5 := Lib.hid ((G3.out.trans g4).trans g5')
      have C5 := Lib.hid (c4.grown g5 (fun r h => by cases h))
      have M5 := Lib.hid m5
      clear m5 g5 g5' c4 g4
      go_wp2_with fail
      refine (specName_any _ 1 1 [r] _ w5 (by omega) M5.out.byts).mono ?_
      rintro e w' ⟨rfl, hw'⟩
      rw [← hw']
      clear hw' w' hw5
      have hbd := nameOf_bd [r]
      obtain ⟨nm, hnm⟩ : ∃ nm, nameOf [r] = nm := ⟨_, rfl⟩
      rw [hnm] at hbd ⊢
      clear hnm
      have p0 := X5.out.cell 0
      have p1 := X5.out.cell 1
      have p2 := X5.out.cell 2
      have f := X5.out.free
      simp at p0 p1 p2
      obtain ⟨hX, ht⟩ := set3 X5.out (.int .i64 k) (.int .i64 nm) (.slice none 0 0)
      obtain ⟨c6, g6⟩ := drawn_end hlt C5.out G5.out ht
      have HX := Lib.hid hX
      have C6 := Lib.hid c6
      have G6 := Lib.hid g6
      clear hX ht c6 g6
      go_wp2
      refine bodyPost_ret (v := .agg #[.int .i64 k, .int .i64 nm, .slice none 0 0]) (results_cell_row Try.results97 _ _ w.heap.size _ _ _ _ rfl HX.out Try.underlying44 rfl (by kernel_rfl)) rfl ?_
      exact ⟨⟨k, nm, []⟩, none, 0, 0, rfl, Mine.nil _ _, by simp, by show 0 ≤ nm; omega, by show nm ≤ _; omega, C6.out, G6.out⟩
    | true =>
      go_wp2_with fail
      refine (below_any w3 B g 5 (by omega) (by omega) C3.out).mono ?_
      rintro e w4 ⟨r, hr0, hr1, rfl, c4, g4⟩
      have X4 := Lib.hid (X3.out.grown g4 (by intro e; cases e; omega))
      have G4 := Lib.hid (G3.out.trans g4)
      have C4 := Lib.hid c4
      clear g4 c4
      have p0 := X4.out.cell 0
      have p1 := X4.out.cell 1
      have p2 := X4.out.cell 2
      have f := X4.out.free
      simp at p0 p1 p2
      obtain ⟨hX, ht⟩ := set3 X4.out (.int .i64 k) (.int .i64 r) (.slice none 0 0)
      obtain ⟨c6, g6⟩ := drawn_end hlt C4.out G4.out ht
      have HX := Lib.hid hX
      have C6 := Lib.hid c6
      have G6 := Lib.hid g6
      clear hX ht c6 g6
      go_wp2
      refine bodyPost_ret (v := .agg #[.int .i64 k, .int .i64 r, .slice none 0 0]) (results_cell_row Try.results97 _ _ w.heap.size _ _ _ _ rfl HX.out Try.underlying44 rfl (by kernel_rfl)) rfl ?_
      exact ⟨⟨k, r, []⟩, none, 0, 0, rfl, Mine.nil _ _, by simp, by show 0 ≤ r; omega, by show r ≤ _; omega, C6.out, G6.out⟩
  | true =>
    go_wp2_with fail
    refine (l3Draw_any w1 B g C1.out).mono ?_
    rintro e w2 ⟨v, nd, rfl, own, _, h1, h2, h3, c2, g2⟩
    have hsh := raw_short nd h1 h2 h3
    have X2 := Lib.hid (X1.out.grown g2 (by intro e; cases e; omega))
    have G2 := Lib.hid (G1.out.trans g2)
    have C2 := Lib.hid c2
    have s2 := g2.size
    have O2 := Lib.hid own
    clear g2 c2 own h1 h2 h3
    go_wp2_with fail
    refine (l3Bytes_any v nd w2.heap.size w2 (Nat.le_refl _) O2.out.node).mono ?_
    rintro e w3 ⟨g3, n3, c3, rfl, m3, b3⟩
    generalize rawBytes nd = bs at hsh m3
    have hl3 := m3.len
    have s3 := b3.size
    have X3 := Lib.hid (X2.out.below b3 (by omega))
    have G3 := Lib.hid (G2.out.trans (below_grow (row := some g) b3))
    have C3 := Lib.hid (C2.out.grown (below_grow (row := none) b3) (fun r h => by cases h))
    have M3 := Lib.hid m3
    clear m3 b3
    go_wp2_with fail
    refine (specName_any _ n3 c3 bs _ w3 (by omega) M3.out.byts).mono ?_
    rintro e w' ⟨rfl, hw'⟩
    rw [← hw']
    clear hw' w'
    have hbd := nameOf_bd bs
    obtain ⟨nm, hnm⟩ : ∃ nm, nameOf bs = nm := ⟨_, rfl⟩
    rw [hnm] at hbd ⊢
    clear hnm
    have p0 := X3.out.cell 0
    have p1 := X3.out.cell 1
    have p2 := X3.out.cell 2
    have f := X3.out.free
    simp at p0 p1 p2
    obtain ⟨hX, ht⟩ := set3 X3.out (.int .i64 1) (.int .i64 nm) (.slice (some ⟨g3, 0, none⟩) n3 c3)
    obtain ⟨c6, g6⟩ := drawn_end hlt C3.out G3.out ht
    have HX := Lib.hid hX
    have C6 := Lib.hid c6
    have G6 := Lib.hid g6
    have M6 := Lib.hid (M3.out.touch ht (fun b hb e => by have := (World.ownsRow.lt M3.out.1 b hb).1; omega))
    clear hX ht c6 g6
    go_wp2
    refine bodyPost_ret (v := .agg #[.int .i64 1, .int .i64 nm, .slice (some ⟨g3, 0, none⟩) n3 c3]) (results_cell_row Try.results97 _ _ w.heap.size _ _ _ _ rfl HX.out Try.underlying44 rfl (by kernel_rfl)) rfl ?_
    exact ⟨⟨1, nm, bs⟩, _, n3, c3, rfl, M6.out.base (by omega), hsh, by show 0 ≤ nm; omega, by show nm ≤ _; omega, C6.out, G6.out⟩
end Go.Proofs.Ytebfinedkjlbbaa
