/- What the laws' key makes of dice: a key. -/
import Derived.Test.YtjmlpekaehfeeaaDice
import Derived.Test.YtjmlpekaehfeeaaPathM
import Derived.Test.YtjmlpekaehfeeaaDraw2
namespace Go.Proofs.Ytjmlpekaehfeeaa
set_option maxRecDepth 20000
open Go.RowKit

/-- a key of at most m digits was made. -/
def Key1 (w : World) (B g : Nat) (m : Nat) (e : Ending) (w' : World) : Prop :=
  ∃ ks : List Int, isKey ks = true ∧ ks.length ≤ m ∧ (∀ z ∈ ks, 0 ≤ z ∧ z ≤ 255) ∧ e = .returned (.string (strOfNums ks)) ∧ Dice w' B g ∧ w.grownBy w' (some g)

theorem key_digit {w : World} {r : Nat} {xs : List Int} {t : TypeId} (h : w.heap[r]? = some (.cells (strs (xs.map fun z => strOfNums [z])) t (0, 0))) (hs : ∀ x ∈ xs, 0 ≤ wd x ∧ 0 ≤ x ∧ x ≤ 255) (k : Nat) (hk : k < xs.length) :
    ∃ z : Int, (0 ≤ wd z ∧ 0 ≤ z ∧ z ≤ 255) ∧ w.cell? ⟨r, k, none⟩ = some (.string (strOfNums [z])) := by
  refine ⟨xs[k], hs _ (List.getElem_mem hk), ?_⟩
  rw [cell_of_row w r k _ _ _ h]
  simp [strs, hk]

theorem key_any (w : World) (B g : Nat) (hc : Dice w B g) :
    Calls Try.prog 15 #[.pointer (some ⟨g, 0, none⟩)] w (Key1 w B g 5) := by
  have hlt := hc.lt
  have HC := Lib.hid hc
  clear hc
  go_enter Try.func15, Try.ntmps15
  go_wp2_with fail
  refine (dice_any _ B g 4 (by omega) (by omega) (HC.out.grown (World.grownBy_alloc w _ none) (fun r h => by cases h))).mono ?_
  rintro e w1 ⟨r, hr0, hr1, rfl, c1, g1⟩
  have hblk := g1.block w.heap.size (by simp) (by intro e; cases e; omega)
  rw [heap_alloc_new] at hblk
  obtain ⟨k, rfl⟩ : ∃ k : Nat, r = k := ⟨r.toNat, by omega⟩
  obtain ⟨x, hx5, hx⟩ := key_digit (xs := [48, 55, 97, 102]) hblk (by decide) k (by simp; omega)
  clear hblk
  have G1 := Lib.hid ((World.grownBy_alloc w _ (some g)).trans g1)
  have C1 := Lib.hid c1
  clear g1 c1 HC
  go_wp2_with fail
  refine (dice_any _ B g 5 (by omega) (by omega) C1.out).mono ?_
  rintro e w2 ⟨r, hq0, hq1, rfl, c2, g2⟩
  obtain ⟨q, rfl⟩ : ∃ q : Nat, r = q := ⟨r.toNat, by omega⟩
  have G2 := Lib.hid (G1.out.trans g2)
  have C2 := Lib.hid c2
  clear g2 c2 hx
  go_wp2
  go_loopw [3, 4] (fun s n wr => ∃ (ks : List Int) (k : Nat), k ≤ 4 ∧ n = .int .i64 k ∧ s = .string (strOfNums ks) ∧ 1 ≤ ks.length ∧ ks.length + k ≤ 5 ∧ (∀ z ∈ ks, 0 ≤ wd z ∧ 0 ≤ z ∧ z ≤ 255) ∧ Dice wr B g ∧ w.grownBy wr (some g)) (fun _ n _ => (intOf n).toNat)
  case atStart => exact ⟨[x], q, by omega, rfl, rfl, by simp, by simp; omega, by simpa using hx5, C2.out, G2.out⟩
  case round =>
    obtain ⟨ks, k', hk4, rfl, rfl, hk1, hk5, hks, hcr, hgr⟩ := hrel
    have HK := Lib.hid hks
    have CR := Lib.hid hcr
    have GR := Lib.hid hgr
    clear hcr hgr hks
    have hs := GR.out.size
    rcases k' with _ | k'
    · go_wp2
      go_ret
      exact ⟨ks, (isKey_iff ks).2 ⟨⟨hk1, by omega⟩, fun z hz => (HK.out z hz).1⟩, by omega, fun z hz => (HK.out z hz).2, rfl, CR.out, GR.out⟩
    · have hcast : (((k' + 1 : Nat) : Int)) = (k' : Int) + 1 := by omega
      rw [hcast]
      clear hcast
      go_wp2_with fail
      refine (dice_any _ B g 3 (by omega) (by omega) (CR.out.grown (World.grownBy_alloc wr _ none) (fun r h => by cases h))).mono ?_
      rintro e w3 ⟨r, hr0, hr1, rfl, c3, g3⟩
      have hblk := g3.block wr.heap.size (by simp) (by intro e; cases e; omega)
      rw [heap_alloc_new] at hblk
      obtain ⟨k, rfl⟩ : ∃ k : Nat, r = k := ⟨r.toNat, by omega⟩
      obtain ⟨z, hz5, hz⟩ := key_digit (xs := [48, 55, 97]) hblk (by decide) k (by simp; omega)
      clear hblk
      have hadd := add_str (strOfNums ks) (strOfNums [z]) (by rw [strOfNums_size, strOfNums_size]; simp; omega)
      have G3 := Lib.hid (GR.out.trans ((World.grownBy_alloc wr _ (some g)).trans g3))
      have C3 := Lib.hid c3
      clear g3 c3 CR
      go_wp2
      go_roundw
      case rel =>
        refine ⟨ks ++ [z], k', by omega, by go_num, by rw [str_append], by simp, by simp; omega, ?_, C3.out, G3.out⟩
        intro y hy
        rcases List.mem_append.1 hy with hy | hy
        · exact HK.out y hy
        · simp at hy; subst hy; exact hz5
      case measure => simp [intOf]
end Go.Proofs.Ytjmlpekaehfeeaa
