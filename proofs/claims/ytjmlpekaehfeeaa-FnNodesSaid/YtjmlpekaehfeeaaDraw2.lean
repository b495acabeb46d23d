/- What chapter 2's drawing functions make: a short text, a short list of numbers of the call's own, two of them. -/
import Derived.Test.YtjmlpekaehfeeaaCur
import Derived.Test.YtjmlpekaehfeeaaInts
import Derived.WalkLawsBesides
import Derived.WalkSpells
namespace Go.Proofs.Ytjmlpekaehfeeaa
set_option maxRecDepth 20000
open Go.RowKit

/-- the cells of some texts. -/
def strs (xs : List ByteArray) : Array Value := (xs.map Value.string).toArray
theorem str_cell {w : World} {r : Nat} {xs : List ByteArray} {t : TypeId} (h : w.heap[r]? = some (.cells (strs xs) t (0, 0))) (m : Nat) (hs : ∀ x ∈ xs, x.size ≤ m) (k : Nat) (hk : k < xs.length) :
    ∃ x : ByteArray, x.size ≤ m ∧ w.cell? ⟨r, k, none⟩ = some (.string x) := by
  refine ⟨xs[k], hs _ (List.getElem_mem hk), ?_⟩
  rw [cell_of_row w r k _ _ _ h]
  simp [strs, hk]
theorem int_cell {w : World} {r : Nat} {xs : List Int} {t : TypeId} (h : w.heap[r]? = some (.cells (i64s xs) t (0, 0))) (k : Nat) (hk : k < xs.length) :
    ∃ x : Int, w.cell? ⟨r, k, none⟩ = some (.int .i64 x) := by
  refine ⟨xs[k], ?_⟩
  rw [cell_of_row w r k _ _ _ h]
  simp [i64s, hk]
theorem add_str (a b : ByteArray) (h : a.size + b.size ≤ 1000000) : ∀ W : World, (Op.stringOp .add a b).run Try.prog W = .ok (.string (a ++ b)) W := fun W => run_string_add_sum W a b (by omega)

/-- a short text was drawn. -/
def Text1 (w : World) (B g : Nat) (m : Nat) (e : Ending) (w' : World) : Prop := ∃ s : ByteArray, s.size ≤ m ∧ e = .returned (.string s) ∧ Cur w' B g ∧ w.grownBy w' (some g)

theorem l2Draw_any (w : World) (B g : Nat) (hc : Cur w B g) :
    Calls Try.prog 85 #[.pointer (some ⟨g, 0, none⟩)] w (Text1 w B g 5) := by
  have hlt := hc.lt
  have HC := Lib.hid hc
  clear hc
  go_enter Try.func85, Try.ntmps85
  go_wp2_with fail
  refine (below_any _ B g 5 (by omega) (by omega) (HC.out.grown (World.grownBy_alloc w _ none) (fun r h => by cases h))).mono ?_
  rintro e w1 ⟨r, hr0, hr1, rfl, c1, g1⟩
  have hblk := g1.block w.heap.size (by simp) (by intro e; cases e; omega)
  rw [heap_alloc_new] at hblk
  obtain ⟨k, rfl⟩ : ∃ k : Nat, r = k := ⟨r.toNat, by omega⟩
  obtain ⟨x, hx5, hx⟩ := str_cell (xs := [⟨#[49]⟩, ⟨#[97]⟩, ⟨#[49, 50]⟩, ⟨#[49, 97]⟩, ⟨#[97, 98]⟩]) hblk 2 (by decide) k (by simp; omega)
  clear hblk
  have G1 := Lib.hid ((World.grownBy_alloc w _ (some g)).trans g1)
  have C1 := Lib.hid c1
  clear g1 c1 HC
  go_wp2_with fail
  refine (below_any _ B g 4 (by omega) (by omega) C1.out).mono ?_
  rintro e w2 ⟨r, hq0, hq1, rfl, c2, g2⟩
  obtain ⟨q, rfl⟩ : ∃ q : Nat, r = q := ⟨r.toNat, by omega⟩
  have G2 := Lib.hid (G1.out.trans g2)
  have C2 := Lib.hid c2
  clear g2 c2 hx
  go_wp2
  go_loopw [3, 4] (fun s n wr => ∃ (x : ByteArray) (k : Nat), k ≤ 3 ∧ n = .int .i64 k ∧ s = .string x ∧ x.size + k ≤ 5 ∧ Cur wr B g ∧ w.grownBy wr (some g)) (fun _ n _ => (intOf n).toNat)
  case atStart => exact ⟨x, q, by omega, rfl, rfl, by omega, C2.out, G2.out⟩
  case round =>
    obtain ⟨y, k', hk3, rfl, rfl, hy, hcr, hgr⟩ := hrel
    have CR := Lib.hid hcr
    have GR := Lib.hid hgr
    clear hcr hgr
    have hs := GR.out.size
    rcases k' with _ | k'
    · go_wp2
      go_ret
      exact ⟨y, by omega, rfl, CR.out, GR.out⟩
    · have hcast : (((k' + 1 : Nat) : Int)) = (k' : Int) + 1 := by omega
      rw [hcast]
      clear hcast
      go_wp2_with fail
      refine (below_any _ B g 4 (by omega) (by omega) (CR.out.grown (World.grownBy_alloc wr _ none) (fun r h => by cases h))).mono ?_
      rintro e w3 ⟨r, hr0, hr1, rfl, c3, g3⟩
      have hblk := g3.block wr.heap.size (by simp) (by intro e; cases e; omega)
      rw [heap_alloc_new] at hblk
      obtain ⟨k, rfl⟩ : ∃ k : Nat, r = k := ⟨r.toNat, by omega⟩
      obtain ⟨z, hz5, hz⟩ := str_cell (xs := [⟨#[49]⟩, ⟨#[50]⟩, ⟨#[97]⟩, ⟨#[102]⟩]) hblk 1 (by decide) k (by simp; omega)
      clear hblk
      have hadd := add_str y z (by omega)
      have G3 := Lib.hid (GR.out.trans ((World.grownBy_alloc wr _ (some g)).trans g3))
      have C3 := Lib.hid c3
      clear g3 c3 CR
      go_wp2
      go_roundw
      case rel => exact ⟨y ++ z, k', by omega, by go_num, rfl, by rw [ByteArray.size_append]; omega, C3.out, G3.out⟩
      case measure => simp [intOf]

theorem l2DrawAny_any (w : World) (B g : Nat) (hc : Cur w B g) :
    Calls Try.prog 50 #[.pointer (some ⟨g, 0, none⟩)] w (Text1 w B g 9) := by
  have hlt := hc.lt
  have HC := Lib.hid hc
  clear hc
  go_enter Try.func50, Try.ntmps50
  go_wp2_with fail
  refine (l2Draw_any _ B g HC.out).mono ?_
  rintro e w1 ⟨s, hs, rfl, c1, g1⟩
  have G1 := Lib.hid g1
  have C1 := Lib.hid c1
  clear g1 c1 HC
  go_wp2_with fail
  refine (once_any _ B g 8 (by omega) (by omega) C1.out).mono ?_
  rintro e w2 ⟨b, rfl, c2, g2⟩
  have G2 := Lib.hid (G1.out.trans g2)
  have C2 := Lib.hid c2
  clear g2 c2 C1
  have hs2 := G2.out.size
  cases b
  · go_wp2
    go_ret
    exact ⟨s, by omega, rfl, C2.out, G2.out⟩
  · go_wp2_with fail
    refine (below_any _ B g 7 (by omega) (by omega) (C2.out.grown (World.grownBy_alloc w2 _ none) (fun r h => by cases h))).mono ?_
    rintro e w3 ⟨r, hr0, hr1, rfl, c3, g3⟩
    have hblk := g3.block w2.heap.size (by simp) (by intro e; cases e; omega)
    rw [heap_alloc_new] at hblk
    obtain ⟨k, rfl⟩ : ∃ k : Nat, r = k := ⟨r.toNat, by omega⟩
    obtain ⟨x, hx5, hx⟩ := str_cell (xs := [⟨#[]⟩, ⟨#[103]⟩, ⟨#[65]⟩, ⟨#[49, 50, 51, 52, 53, 54, 55, 56]⟩, ⟨#[49, 50, 51, 52, 53, 54, 55, 56, 57]⟩, ⟨#[49, 45]⟩, ⟨#[48]⟩]) hblk 9 (by decide) k (by simp; omega)
    clear hblk
    have G3 := Lib.hid (G2.out.trans ((World.grownBy_alloc w2 _ (some g)).trans g3))
    have C3 := Lib.hid c3
    clear g3 c3 C2
    go_wp2
    go_ret
    exact ⟨x, by omega, rfl, C3.out, G3.out⟩

/-- a text was made, the old world is as it was. -/
def Text2 (w : World) (m : Nat) (e : Ending) (w' : World) : Prop := ∃ s : ByteArray, s.size ≤ m ∧ e = .returned (.string s) ∧ Below w.heap.size w w'
theorem drawPathOf_any (A : Option Addr) (n c : Nat) (zs : List Int) (w : World) (hn : n ≤ 4096) (hb : Byts w w.heap.size A n zs) :
    Calls Try.prog 11 #[.slice A n c] w (Text2 w 9) := by
  have HB := Lib.hid hb
  clear hb
  go_enter Try.func11, Try.ntmps11
  go_wp2_with fail
  refine (new_any _ _ _ zs _ hn HB.out).mono ?_
  rintro e w1 ⟨g, rfl, c1, b1⟩
  have C1 := Lib.hid c1
  have B1 := Lib.hid b1
  clear c1 b1
  go_wp2_with fail
  refine (l2DrawAny_any _ _ _ C1.out).mono ?_
  rintro e w2 ⟨s, hs, rfl, k2, g2⟩
  have K2 := Lib.hid k2
  have G2 := Lib.hid g2
  clear k2 g2
  go_wp2
  go_ret
  exact ⟨s, hs, rfl, B1.out.trans (grown_below G2.out B1.out.size C1.out.ge)⟩

theorem from_m1 (w : World) (B g : Nat) (hc : Cur w B g) :
    Calls Try.prog 86 #[.pointer (some ⟨g, 0, none⟩), .int .i64 (-1), .int .i64 16] w fun e w' => ∃ r : Int, e = .returned (.int .i64 r) ∧ Cur w' B g ∧ w.grownBy w' (some g) := by
  have HC := Lib.hid hc
  clear hc
  go_enter Try.func86, Try.ntmps86
  go_wp2_with fail
  refine (below_any _ B g 18 (by omega) (by omega) HC.out).mono ?_
  rintro e w1 ⟨r, hr0, hr1, rfl, c1, g1⟩
  have C1 := Lib.hid c1
  have G1 := Lib.hid g1
  clear c1 g1
  go_wp2
  go_ret
  exact ⟨_, rfl, C1.out, G1.out⟩
end Go.Proofs.Ytjmlpekaehfeeaa
