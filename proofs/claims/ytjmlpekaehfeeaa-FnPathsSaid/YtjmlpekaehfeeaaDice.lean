/- The laws' dice: numbers that follow from the bytes; a number below a bound; what is rolled of some bytes. -/
import Derived.Test.YtjmlpekaehfeeaaCur
import Derived.BigRegion
import Derived.RegionTactic
import Derived.ChangeAlike
namespace Go.Proofs.Ytjmlpekaehfeeaa
set_option maxRecDepth 20000
open Go.RowKit

theorem and_u64 (x : Int) (m : Nat) (hm : m < 9223372036854775808) : 0 ≤ bits .and .u64 x (m : Int) ∧ bits .and .u64 x (m : Int) ≤ m := by
  have h : bits .and .u64 x (m : Int) = IntKind.u64.wrap ((BitVec.ofInt 64 x &&& BitVec.ofInt 64 (m : Int)).toNat : Int) := rfl
  have hle : (BitVec.ofInt 64 x &&& BitVec.ofInt 64 (m : Int)).toNat ≤ m := by
    rw [BitVec.toNat_and, ofInt_u64 m (by omega)]
    exact Nat.and_le_right
  rw [h, IntKind.wrap_u64]
  omega

theorem wrap_and (x : Int) : 0 ≤ wrap64 (bits .and .u64 x 16777215) ∧ wrap64 (bits .and .u64 x 16777215) ≤ 16777215 := by
  have h : 0 ≤ bits .and .u64 x 16777215 ∧ bits .and .u64 x 16777215 ≤ 16777215 := and_u64 x 16777215 (by omega)
  unfold wrap64
  omega

/-- dice in block g over bytes that lie below block B. -/
def DiceAt (w : World) (B g : Nat) (A : Option Addr) (n c : Nat) (i h : Int) (zs : List Int) : Prop :=
  B ≤ g ∧ w.heap[g]? = some (.cells #[.slice A n c, .int .i64 i, .int .u64 h] 70 (0, 0)) ∧ 0 ≤ i ∧ i ≤ n ∧ n ≤ 4096 ∧ Byts w B A n zs
def Dice (w : World) (B g : Nat) : Prop := ∃ A n c i h zs, DiceAt w B g A n c i h zs
section
variable {w w' : World} {B g n c : Nat} {A : Option Addr} {i h : Int} {zs : List Int}
theorem DiceAt.lt (hc : DiceAt w B g A n c i h zs) : g < w.heap.size := by
  rcases Nat.lt_or_ge g w.heap.size with hlt | hge
  · exact hlt
  · have h1 := hc.2.1; rw [Array.getElem?_eq_none hge] at h1; cases h1
theorem Dice.lt (hc : Dice w B g) : g < w.heap.size := by obtain ⟨_, _, _, _, _, _, h⟩ := hc; exact h.lt
theorem Dice.ge (hc : Dice w B g) : B ≤ g := by obtain ⟨_, _, _, _, _, _, h⟩ := hc; exact h.1
theorem Dice.grown (hc : Dice w B g) {row : Option Nat} (hg : w.grownBy w' row) (hr : ∀ r, row = some r → B ≤ r ∧ r ≠ g) : Dice w' B g := by
  have hlt := hc.lt
  have hge := hc.ge
  obtain ⟨A, n, c, i, h, zs, h1, h2, h3, h4, h5, h6⟩ := hc
  exact ⟨A, n, c, i, h, zs, h1, (hg.block g hlt (fun e => (hr g e.symm).2 rfl)).trans h2, h3, h4, h5, h6.grown hg (by omega) (fun r e => (hr r e).1)⟩
theorem DiceAt.drewN (hc : DiceAt w B g A n c i h zs) (m : Nat) : DiceAt (w.drewN m) B g A n c i h zs := hc
theorem DiceAt.far (hc : DiceAt w B g A n c i h zs) (j : Nat) (u : Value) : Byts (w.setCell ⟨g, j, none⟩ u) B A n zs :=
  hc.2.2.2.2.2.keep fun p hp => World.cell?_setCell_other w ⟨g, j, none⟩ p u (fun e => by subst e; have := hc.1; simp at hp; omega)
theorem DiceAt.set2 (hc : DiceAt w B g A n c i h zs) (h' : Int) : DiceAt (w.setCell ⟨g, 2, none⟩ (.int .u64 h')) B g A n c i h' zs :=
  ⟨hc.1, heap_setCell_same w g 2 _ _ _ hc.2.1, hc.2.2.1, hc.2.2.2.1, hc.2.2.2.2.1, hc.far 2 _⟩
theorem DiceAt.set1 (hc : DiceAt w B g A n c i h zs) (i' : Int) (hi : 0 ≤ i' ∧ i' ≤ n) : DiceAt (w.setCell ⟨g, 1, none⟩ (.int .i64 i')) B g A n c i' h zs :=
  ⟨hc.1, heap_setCell_same w g 1 _ _ _ hc.2.1, hi.1, hi.2, hc.2.2.2.2.1, hc.far 1 _⟩
theorem DiceAt.dice (hc : DiceAt w B g A n c i h zs) : Dice w B g := ⟨_, _, _, _, _, _, hc⟩
end

/-- what is left when a number from 0 to m - 1 was rolled by the dice in block g. -/
def Rolled (w : World) (B g : Nat) (m : Int) (e : Ending) (w' : World) : Prop := ∃ r : Int, 0 ≤ r ∧ r < m ∧ e = .returned (.int .i64 r) ∧ Dice w' B g ∧ w.grownBy w' (some g)

theorem dice_at (w : World) (B g : Nat) (A : Option Addr) (n c : Nat) (i h : Int) (zs : List Int) (m : Int) (h0 : 0 < m) (hm : m ≤ 256) (hc : DiceAt w B g A n c i h zs) :
    Calls Try.prog 56 #[.pointer (some ⟨g, 0, none⟩), .int .i64 m] w (Rolled w B g m) := by
  obtain ⟨h1, h2, h3, h4, h5, h6⟩ := hc
  have c0 : w.cell? ⟨g, 0, none⟩ = some (.slice A n c) := by rw [cell_of_row w g 0 _ _ _ h2]; rfl
  have c1 : w.cell? ⟨g, 1, none⟩ = some (.int .i64 i) := by rw [cell_of_row w g 1 _ _ _ h2]; rfl
  have c2 : w.cell? ⟨g, 2, none⟩ = some (.int .u64 h) := by rw [cell_of_row w g 2 _ _ _ h2]; rfl
  have f1 : w.frozen? ⟨g, 1, none⟩ = false := frozen_of_row w g 1 _ _ h2
  have f2 : w.frozen? ⟨g, 2, none⟩ = false := frozen_of_row w g 2 _ _ h2
  have HC : Hid (DiceAt w B g A n c i h zs) := Lib.hid ⟨h1, h2, h3, h4, h5, h6⟩
  have HB := Lib.hid h6
  clear h6 h2
  obtain ⟨j, rfl⟩ : ∃ j : Nat, i = j := ⟨i.toNat, by omega⟩
  by_cases hin : j < n
  · obtain ⟨b, off, rfl, hbB, hcell⟩ := HB.out.at_ hin
    have hr := HB.out.range j
    go_enter Try.func56, Try.ntmps56
    go_wp2
    have hq := wrap_and (IntKind.u64.wrap (IntKind.u64.wrap (h * 6364136223846793005) + 1442695040888963407) / 8589934592)
    generalize wrap64 (bits .and .u64 (IntKind.u64.wrap (IntKind.u64.wrap (h * 6364136223846793005) + 1442695040888963407) / 8589934592) 16777215) = q at hq
    obtain ⟨hqa, hqb⟩ := hq
    go_quiet (fail)
    go_wp2
    go_quiet (fail)
    go_wp2
    go_ret
    exact ⟨(q + zs[j]?.getD 0) % m, Int.emod_nonneg _ (by omega), Int.emod_lt_of_pos _ h0, rfl, (((HC.out.set2 _).drewN _).set1 _ (by omega)).dice, (grown_drewN (grown_set w g 2 _) _).trans (grown_set _ _ _ _)⟩
  · go_enter Try.func56, Try.ntmps56
    go_wp2
    have hq := wrap_and (IntKind.u64.wrap (IntKind.u64.wrap (h * 6364136223846793005) + 1442695040888963407) / 8589934592)
    generalize wrap64 (bits .and .u64 (IntKind.u64.wrap (IntKind.u64.wrap (h * 6364136223846793005) + 1442695040888963407) / 8589934592) 16777215) = q at hq
    obtain ⟨hqa, hqb⟩ := hq
    go_quiet (fail)
    go_wp2
    go_ret
    exact ⟨q % m, Int.emod_nonneg _ (by omega), Int.emod_lt_of_pos _ h0, rfl, ((HC.out.set2 _).drewN _).dice, grown_drewN (grown_set w g 2 _) _⟩

/-- new dice over bytes that came in. -/
def Thrown (w : World) (e : Ending) (w' : World) : Prop := ∃ g, e = .returned (.pointer (some ⟨g, 0, none⟩)) ∧ Dice w' w.heap.size g ∧ Below w.heap.size w w'
theorem roll_any (A : Option Addr) (n c : Nat) (zs : List Int) (s : Int) (w : World) (hn : n ≤ 4096) (hb : Byts w w.heap.size A n zs) :
    Calls Try.prog 16 #[.slice A n c, .int .u64 s] w (Thrown w) := by
  have HB := Lib.hid hb
  clear hb
  go_enter Try.func16, Try.ntmps16
  go_wp2
  go_loopw [6] (fun i wr => ∃ (k : Nat) (h : Int), k ≤ n ∧ i = .int .i64 k ∧ DiceAt wr w.heap.size w.heap.size A n c 0 h zs ∧ Below w.heap.size w wr) (fun i _ => n - (intOf i).toNat)
  case atStart => exact ⟨0, _, Nat.zero_le _, rfl, ⟨Nat.le_refl _, heap_alloc_new _ _, Int.le_refl _, by omega, hn, HB.out.alloc (Nat.le_refl _) _⟩, (Below.refl _ _).alloc (Nat.le_refl _) _⟩
  case round =>
    obtain ⟨k, h, hk, rfl, hd, hbr⟩ := hrel
    by_cases hlt : k < n
    · have hr := HB.out.range k
      have c2 : wr.cell? ⟨w.heap.size, 2, none⟩ = some (.int .u64 h) := by rw [cell_of_row wr w.heap.size 2 _ _ _ hd.2.1]; rfl
      have f2 : wr.frozen? ⟨w.heap.size, 2, none⟩ = false := frozen_of_row wr w.heap.size 2 _ _ hd.2.1
      obtain ⟨b, off, rfl, hbB, hcell⟩ := hd.2.2.2.2.2.at_ hlt
      have HD := Lib.hid hd
      have BR := Lib.hid hbr
      clear hd hbr
      go_wp2
      go_region
      go_wp2
      go_roundw
      case rel => exact ⟨k + 1, _, by omega, by go_num, (HD.out.set2 _).drewN 1, BR.out.trans (below_drewN (grown_below (grown_set wr w.heap.size 2 _) BR.out.size (Nat.le_refl _)) 1)⟩
      case measure => simp [intOf]; omega
    · go_wp2
      go_ret
      exact ⟨w.heap.size, rfl, hd.dice, hbr⟩
theorem dice_any (w : World) (B g : Nat) (m : Int) (h0 : 0 < m) (hm : m ≤ 256) (hc : Dice w B g) :
    Calls Try.prog 56 #[.pointer (some ⟨g, 0, none⟩), .int .i64 m] w (Rolled w B g m) := by
  obtain ⟨A, n, c, i, h, zs, hc⟩ := hc
  exact dice_at w B g A n c i h zs m h0 hm hc
end Go.Proofs.Ytjmlpekaehfeeaa
