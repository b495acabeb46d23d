/- An odd number and the number that chapter 1 draws: some number of 64 bits. -/
import Derived.Test.YthehhedmdlephaaDraw1
namespace Go.Proofs.Ythehhedmdlephaa
open Go.RowKit

theorem odd_any (w : World) (B g : Nat) (hB : B ≤ w.heap.size) (hc : Cur w B g) :
    Calls Try.prog 27 #[.pointer (some ⟨g, 0, none⟩)] w fun e w' => ∃ x : Int, e = .returned (.int .i64 x) ∧ Below B w w' := by
  have HC := Lib.hid hc
  clear hc
  go_enter Try.func27, Try.ntmps27
  go_wp2_with fail
  refine (below_any _ B g 10 (by omega) (by omega) (HC.out.grown (World.grownBy_alloc w _ none) (fun r h => by cases h))).mono ?_
  rintro e w1 ⟨r, hr0, hr1, rfl, c1, g1⟩
  have hlt := HC.out.lt
  have hge := HC.out.ge
  have hblk := g1.block w.heap.size (by simp) (by intro e; cases e; omega)
  rw [heap_alloc_new] at hblk
  have B1 := Lib.hid (((Below.refl B w).alloc hB _).trans (grown_below g1 (by simp; omega) hge))
  clear g1 c1 HC
  obtain ⟨k, rfl⟩ : ∃ k : Nat, r = k := ⟨r.toNat, by omega⟩
  have hk : k < 10 := by omega
  have hcell : ∃ x : Int, w1.cell? ⟨w.heap.size, k, none⟩ = some (.int .i64 x) := by
    rw [cell_of_row w1 w.heap.size k _ _ _ hblk]
    match k, hk with
    | 0, _ => exact ⟨_, rfl⟩
    | 1, _ => exact ⟨_, rfl⟩
    | 2, _ => exact ⟨_, rfl⟩
    | 3, _ => exact ⟨_, rfl⟩
    | 4, _ => exact ⟨_, rfl⟩
    | 5, _ => exact ⟨_, rfl⟩
    | 6, _ => exact ⟨_, rfl⟩
    | 7, _ => exact ⟨_, rfl⟩
    | 8, _ => exact ⟨_, rfl⟩
    | 9, _ => exact ⟨_, rfl⟩
  obtain ⟨x, hx⟩ := hcell
  clear hblk
  go_wp2
  go_ret
  exact ⟨x, rfl, B1.out⟩

theorem drawNameBytes_any (A : Option Addr) (n c : Nat) (zs : List Int) (w : World) (hn : n ≤ 4096) (hb : Byts w w.heap.size A n zs) :
    Calls Try.prog 10 #[.slice A n c] w (Int2 w) := by
  have HB := Lib.hid hb
  clear hb
  go_enter Try.func10, Try.ntmps10
  go_wp2_with fail
  refine (new_any _ _ _ zs _ hn HB.out).mono ?_
  rintro e w1 ⟨g, rfl, c1, b1⟩
  have C1 := Lib.hid c1
  have B1 := Lib.hid b1
  clear c1 b1
  go_wp2_with fail
  refine (once_any _ _ _ 2 (by omega) (by omega) C1.out).mono ?_
  rintro e w2 ⟨b, rfl, k2, g2⟩
  have K2 := Lib.hid k2
  have s2 : w.heap.size ≤ w2.heap.size := Nat.le_trans B1.out.size g2.size
  have B2 := Lib.hid (B1.out.trans (grown_below g2 B1.out.size C1.out.ge))
  clear k2 g2
  cases b
  · go_wp2_with fail
    refine (odd_any _ _ _ s2 K2.out).mono ?_
    rintro e w3 ⟨x, rfl, b3⟩
    have B3 := Lib.hid b3
    clear b3
    go_wp2
    go_ret
    exact ⟨x, rfl, B2.out.trans B3.out⟩
  · go_wp2_with fail
    refine (drawBytes_any _ _ _ K2.out).mono ?_
    rintro e w3 ⟨A2, n2, c2, xs, hn2, rfl, m2, k3, g3⟩
    have M2 := Lib.hid m2
    have G3 := Lib.hid g3
    clear m2 k3 g3
    go_wp2_with fail
    refine (specName_any _ _ _ xs _ _ (by omega) M2.out.byts).mono ?_
    rintro e w' ⟨rfl, rfl⟩
    go_wp2
    go_ret
    exact ⟨_, rfl, B2.out.trans (grown_below G3.out s2 K2.out.ge)⟩
end Go.Proofs.Ythehhedmdlephaa
