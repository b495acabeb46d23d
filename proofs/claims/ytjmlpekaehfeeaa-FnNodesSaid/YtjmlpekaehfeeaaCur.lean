/- What the drawing functions do that the laws call: a cursor over bytes, the next byte, a number below a bound, whether once in n. -/
import Derived.Test.YtjmlpekaehfeeaaOwnB
import Derived.Laws.BitsAllLaws
import Derived.Laws.BitsLemmas
import Derived.Laws.Rows
import Derived.Maps.AppendAt
namespace Go.Proofs.Ytjmlpekaehfeeaa
set_option maxRecDepth 20000
open Go.RowKit

theorem and_range (x : Int) (m : Nat) (hm : m < 9223372036854775808) : 0 ≤ bits .and .i64 x (m : Int) ∧ bits .and .i64 x (m : Int) ≤ m := by
  have h : bits .and .i64 x (m : Int) = IntKind.i64.wrap ((BitVec.ofInt 64 x &&& BitVec.ofInt 64 (m : Int)).toNat : Int) := rfl
  have hle : (BitVec.ofInt 64 x &&& BitVec.ofInt 64 (m : Int)).toNat ≤ m := by
    rw [BitVec.toNat_and, ofInt_u64 m (by omega)]
    exact Nat.and_le_right
  rw [h, IntKind.wrap_i64]
  omega
theorem and_255 (x : Int) : 0 ≤ bits .and .i64 x 255 ∧ bits .and .i64 x 255 ≤ 255 := and_range x 255 (by omega)

/-- a cursor in block g over bytes that lie below block B. -/
def CurAt (w : World) (B g : Nat) (A : Option Addr) (n c : Nat) (i h : Int) (zs : List Int) : Prop :=
  B ≤ g ∧ w.heap[g]? = some (.cells #[.slice A n c, .int .i64 i, .int .i64 h] 98 (0, 0)) ∧ 0 ≤ i ∧ i ≤ n ∧ n ≤ 4096 ∧ Byts w B A n zs
def Cur (w : World) (B g : Nat) : Prop := ∃ A n c i h zs, CurAt w B g A n c i h zs
section
variable {w w' : World} {B g n c : Nat} {A : Option Addr} {i h : Int} {zs : List Int}
theorem CurAt.lt (hc : CurAt w B g A n c i h zs) : g < w.heap.size := by
  rcases Nat.lt_or_ge g w.heap.size with hlt | hge
  · exact hlt
  · have h1 := hc.2.1; rw [Array.getElem?_eq_none hge] at h1; cases h1
theorem Cur.lt (hc : Cur w B g) : g < w.heap.size := by obtain ⟨_, _, _, _, _, _, h⟩ := hc; exact h.lt
theorem Cur.ge (hc : Cur w B g) : B ≤ g := by obtain ⟨_, _, _, _, _, _, h⟩ := hc; exact h.1
theorem Cur.grown (hc : Cur w B g) {row : Option Nat} (hg : w.grownBy w' row) (hr : ∀ r, row = some r → B ≤ r ∧ r ≠ g) : Cur w' B g := by
  have hlt := hc.lt
  have hge := hc.ge
  obtain ⟨A, n, c, i, h, zs, h1, h2, h3, h4, h5, h6⟩ := hc
  exact ⟨A, n, c, i, h, zs, h1, (hg.block g hlt (fun e => (hr g e.symm).2 rfl)).trans h2, h3, h4, h5, h6.grown hg (by omega) (fun r e => (hr r e).1)⟩
theorem Cur.drewN (hc : Cur w B g) (m : Nat) : Cur (w.drewN m) B g := hc
theorem CurAt.drewN (hc : CurAt w B g A n c i h zs) (m : Nat) : CurAt (w.drewN m) B g A n c i h zs := hc
theorem CurAt.far (hc : CurAt w B g A n c i h zs) (j : Nat) (u : Value) : Byts (w.setCell ⟨g, j, none⟩ u) B A n zs :=
  hc.2.2.2.2.2.keep fun p hp => World.cell?_setCell_other w ⟨g, j, none⟩ p u (fun e => by subst e; have := hc.1; simp at hp; omega)
theorem grown_set (w : World) (g j : Nat) (u : Value) : w.grownBy (w.setCell ⟨g, j, none⟩ u) (some g) :=
  ⟨rfl, rfl, rfl, by simp, fun k _ hk => heap_setCell_other w ⟨g, j, none⟩ k u (fun e => hk (by simp [e]))⟩
theorem grown_drewN {row : Option Nat} (h : w.grownBy w' row) (m : Nat) : w.grownBy (w'.drewN m) row := ⟨h.os, h.tape, h.output, h.size, h.block⟩
theorem CurAt.set2 (hc : CurAt w B g A n c i h zs) (h' : Int) : CurAt (w.setCell ⟨g, 2, none⟩ (.int .i64 h')) B g A n c i h' zs :=
  ⟨hc.1, heap_setCell_same w g 2 _ _ _ hc.2.1, hc.2.2.1, hc.2.2.2.1, hc.2.2.2.2.1, hc.far 2 _⟩
theorem CurAt.set1 (hc : CurAt w B g A n c i h zs) (i' : Int) (hi : 0 ≤ i' ∧ i' ≤ n) : CurAt (w.setCell ⟨g, 1, none⟩ (.int .i64 i')) B g A n c i' h zs :=
  ⟨hc.1, heap_setCell_same w g 1 _ _ _ hc.2.1, hi.1, hi.2, hc.2.2.2.2.1, hc.far 1 _⟩
theorem CurAt.cur (hc : CurAt w B g A n c i h zs) : Cur w B g := ⟨_, _, _, _, _, _, hc⟩
end

/-- what is left when a number from 0 to m - 1 was drawn by the cursor in block g. -/
def Drawn (w : World) (B g : Nat) (m : Int) (e : Ending) (w' : World) : Prop := ∃ r : Int, 0 ≤ r ∧ r < m ∧ e = .returned (.int .i64 r) ∧ Cur w' B g ∧ w.grownBy w' (some g)

theorem byte_at (w : World) (B g : Nat) (A : Option Addr) (n c : Nat) (i h : Int) (zs : List Int) (hc : CurAt w B g A n c i h zs) :
    Calls Try.prog 87 #[.pointer (some ⟨g, 0, none⟩)] w (Drawn w B g 256) := by
  obtain ⟨h1, h2, h3, h4, h5, h6⟩ := hc
  have c0 : w.cell? ⟨g, 0, none⟩ = some (.slice A n c) := by rw [cell_of_row w g 0 _ _ _ h2]; rfl
  have c1 : w.cell? ⟨g, 1, none⟩ = some (.int .i64 i) := by rw [cell_of_row w g 1 _ _ _ h2]; rfl
  have c2 : w.cell? ⟨g, 2, none⟩ = some (.int .i64 h) := by rw [cell_of_row w g 2 _ _ _ h2]; rfl
  have f1 : w.frozen? ⟨g, 1, none⟩ = false := frozen_of_row w g 1 _ _ h2
  have f2 : w.frozen? ⟨g, 2, none⟩ = false := frozen_of_row w g 2 _ _ h2
  have HC : Hid (CurAt w B g A n c i h zs) := Lib.hid ⟨h1, h2, h3, h4, h5, h6⟩
  have HB := Lib.hid h6
  clear h6 h2
  obtain ⟨j, rfl⟩ : ∃ j : Nat, i = j := ⟨i.toNat, by omega⟩
  by_cases hin : j < n
  · obtain ⟨b, off, rfl, hbB, hcell⟩ := HB.out.at_ hin
    have hr := HB.out.range j
    go_enter Try.func87, Try.ntmps87
    go_wp2
    go_quiet (fail)
    go_wp2
    go_quiet (fail)
    go_wp2
    go_quiet (fail)
    go_wp2
    go_ret
    exact ⟨_, (and_255 _).1, Int.lt_of_le_of_lt (and_255 _).2 (by decide), rfl, ((HC.out.set2 _).set1 _ (by omega)).cur, (grown_drewN (grown_set w g 2 _) _).trans (grown_set _ _ _ _)⟩
  · go_enter Try.func87, Try.ntmps87
    go_wp2
    go_quiet (fail)
    go_wp2
    go_quiet (fail)
    go_wp2
    go_ret
    exact ⟨_, (and_255 _).1, Int.lt_of_le_of_lt (and_255 _).2 (by decide), rfl, (HC.out.set2 _).cur, grown_drewN (grown_drewN (grown_set w g 2 _) _) _⟩

theorem byte_any (w : World) (B g : Nat) (hc : Cur w B g) : Calls Try.prog 87 #[.pointer (some ⟨g, 0, none⟩)] w (Drawn w B g 256) := by
  obtain ⟨A, n, c, i, h, zs, hc⟩ := hc
  exact byte_at w B g A n c i h zs hc

/-- a number below a bound of at most 256. -/
theorem below_any (w : World) (B g : Nat) (m : Int) (h0 : 0 < m) (h1 : m ≤ 256) (hc : Cur w B g) :
    Calls Try.prog 55 #[.pointer (some ⟨g, 0, none⟩), .int .i64 m] w (Drawn w B g m) := by
  have HC := Lib.hid hc
  clear hc
  go_enter Try.func55, Try.ntmps55
  go_wp2_with fail
  refine (byte_any _ B g HC.out).mono ?_
  rintro e w1 ⟨r, hr0, hr1, rfl, c1, g1⟩
  have C1 := Lib.hid c1
  have G1 := Lib.hid g1
  clear c1 g1
  go_wp2
  go_ret
  exact ⟨r % m, Int.emod_nonneg _ (by omega), Int.emod_lt_of_pos _ h0, rfl, C1.out, G1.out⟩

/-- a yes or a no was drawn. -/
def Asked (w : World) (B g : Nat) (e : Ending) (w' : World) : Prop := ∃ b : Bool, e = .returned (.bool b) ∧ Cur w' B g ∧ w.grownBy w' (some g)
theorem once_any (w : World) (B g : Nat) (m : Int) (h0 : 0 < m) (h1 : m ≤ 256) (hc : Cur w B g) :
    Calls Try.prog 54 #[.pointer (some ⟨g, 0, none⟩), .int .i64 m] w (Asked w B g) := by
  have HC := Lib.hid hc
  clear hc
  go_enter Try.func54, Try.ntmps54
  go_wp2_with fail
  refine (below_any _ B g m h0 h1 HC.out).mono ?_
  rintro e w1 ⟨r, hr0, hr1, rfl, c1, g1⟩
  have C1 := Lib.hid c1
  have G1 := Lib.hid g1
  clear c1 g1
  go_wp2
  go_ret
  exact ⟨_, rfl, C1.out, G1.out⟩

/-- a new cursor over bytes that came in. -/
def Began (w : World) (e : Ending) (w' : World) : Prop := ∃ g, e = .returned (.pointer (some ⟨g, 0, none⟩)) ∧ Cur w' w.heap.size g ∧ Below w.heap.size w w'
theorem new_any (A : Option Addr) (n c : Nat) (zs : List Int) (w : World) (hn : n ≤ 4096) (hb : Byts w w.heap.size A n zs) :
    Calls Try.prog 49 #[.slice A n c] w (Began w) := by
  have HB := Lib.hid hb
  clear hb
  go_enter Try.func49, Try.ntmps49
  go_wp2
  go_loop [3, 4] (fun h i => ∃ (k : Nat) (x : Int), k ≤ n ∧ i = .int .i64 k ∧ h = .int .i64 x) (fun _ i => n - (intOf i).toNat)
  case atStart => exact ⟨0, _, Nat.zero_le _, rfl, rfl⟩
  case round =>
    obtain ⟨k, x, hk, rfl, rfl⟩ := hrel
    by_cases hlt : k < n
    · obtain ⟨b, off, rfl, _, hc⟩ := HB.out.at_ hlt
      have hr := HB.out.range k
      go_wp2
      go_round
      case rel => exact ⟨k + 1, _, by omega, by go_num, rfl⟩
      case measure => simp [intOf]; omega
    · go_wp2
      go_ret
      exact ⟨w.heap.size, rfl, ⟨A, n, c, 0, x, zs, Nat.le_refl _, heap_alloc_new _ _, Int.le_refl _, by omega, hn, HB.out.alloc (Nat.le_refl _) _⟩, (Below.refl _ _).alloc (Nat.le_refl _) _⟩
end Go.Proofs.Ytjmlpekaehfeeaa
