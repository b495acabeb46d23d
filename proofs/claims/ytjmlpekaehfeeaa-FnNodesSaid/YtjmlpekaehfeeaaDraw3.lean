/- What chapter 3's drawing functions make: a value, a node of the call's own. -/
import Derived.Test.YtjmlpekaehfeeaaDraw2P
import Derived.Test.YtjmlpekaehfeeaaPathS
import Derived.Test.YtjmlpekaehfeeaaNodeX
import Derived.Test.YtjmlpekaehfeeaaNodeI
import Derived.Test.YtjmlpekaehfeeaaSums
namespace Go.Proofs.Ytjmlpekaehfeeaa
set_option maxRecDepth 20000
open Go.RowKit

/-- a number below a bound of more than 256. -/
theorem below_wide (w : World) (B g : Nat) (m : Int) (h0 : 256 < m) (h1 : m ≤ 1048576) (hc : Cur w B g) :
    Calls Try.prog 55 #[.pointer (some ⟨g, 0, none⟩), .int .i64 m] w (Drawn w B g m) := by
  have HC := Lib.hid hc
  clear hc
  go_enter Try.func55, Try.ntmps55
  go_wp2_with fail
  refine (byte_any _ B g HC.out).mono ?_
  rintro e w1 ⟨r1, ha0, ha1, rfl, c1, g1⟩
  have C1 := Lib.hid c1
  have G1 := Lib.hid g1
  clear c1 g1
  go_wp2_with fail
  refine (byte_any _ B g C1.out).mono ?_
  rintro e w2 ⟨r2, hb0, hb1, rfl, c2, g2⟩
  have C2 := Lib.hid c2
  have G2 := Lib.hid (G1.out.trans g2)
  clear c2 g2
  go_wp2_with fail
  refine (byte_any _ B g C2.out).mono ?_
  rintro e w3 ⟨r3, hc0, hc1, rfl, c3, g3⟩
  have C3 := Lib.hid c3
  have G3 := Lib.hid (G2.out.trans g3)
  clear c3 g3
  go_wp2_with fail
  refine (byte_any _ B g C3.out).mono ?_
  rintro e w4 ⟨r4, hd0, hd1, rfl, c4, g4⟩
  have C4 := Lib.hid c4
  have G4 := Lib.hid (G3.out.trans g4)
  clear c4 g4
  go_wp2
  go_ret
  exact ⟨_, Int.emod_nonneg _ (by omega), Int.emod_lt_of_pos _ (by omega), rfl, C4.out, G4.out⟩
theorem l3DrawValue_any (w : World) (B g : Nat) (hc : Cur w B g) :
    Calls Try.prog 71 #[.pointer (some ⟨g, 0, none⟩)] w (Text1 w B g 5) := by
  have hlt := hc.lt
  have HC := Lib.hid hc
  clear hc
  go_enter Try.func71, Try.ntmps71
  go_wp2_with fail
  refine (below_any _ B g 6 (by omega) (by omega) (HC.out.grown (World.grownBy_alloc w _ none) (fun r h => by cases h))).mono ?_
  rintro e w1 ⟨r, hr0, hr1, rfl, c1, g1⟩
  have hblk := g1.block w.heap.size (by simp) (by intro e; cases e; omega)
  rw [heap_alloc_new] at hblk
  obtain ⟨k, rfl⟩ : ∃ k : Nat, r = k := ⟨r.toNat, by omega⟩
  obtain ⟨x, hx5, hx⟩ := str_cell (xs := [⟨#[120]⟩, ⟨#[121, 121]⟩, ⟨#[49]⟩, ⟨#[122, 101, 98, 114, 97]⟩, ⟨#[113, 55]⟩, ⟨#[97, 98, 99]⟩]) hblk 5 (by decide) k (by simp; omega)
  clear hblk
  have G1 := Lib.hid ((World.grownBy_alloc w _ (some g)).trans g1)
  have C1 := Lib.hid c1
  clear g1 c1 HC
  go_wp2
  go_ret
  exact ⟨x, hx5, rfl, C1.out, G1.out⟩
/-- a node of the call's own was drawn, its lists short. -/
def NodeDrawn (w : World) (B g : Nat) (e : Ending) (w' : World) : Prop :=
  ∃ v nd, e = .returned v ∧ OwnN w' w.heap.size v nd ∧ NodeWf nd ∧ nd.path.length ≤ 8 ∧ nd.kids.length ≤ 2 ∧ nd.val.size ≤ 5 ∧ Cur w' B g ∧ w.grownBy w' (some g)
set_option maxHeartbeats 800000 in
theorem l3Draw_any (w : World) (B g : Nat) (hc : Cur w B g) :
    Calls Try.prog 64 #[.pointer (some ⟨g, 0, none⟩)] w (NodeDrawn w B g) := by
  have hlt := hc.lt
  have HC := Lib.hid hc
  clear hc
  go_enter Try.func64, Try.ntmps64
  go_wp2_with fail
  refine (below_any _ B g 3 (by omega) (by omega) (HC.out.grown (World.grownBy_alloc w _ none) (fun r h => by cases h))).mono ?_
  rintro e w1 ⟨r, hr0, hr1, rfl, c1, g1⟩
  have X1 := Lib.hid (Box.grown (t := 40) (heap_alloc_new w _) g1 (by intro e; cases e; omega))
  have G1 := Lib.hid ((World.grownBy_alloc w _ (some g)).trans g1)
  have C1 := Lib.hid c1
  clear g1 c1 HC
  have s1 : w.heap.size < w1.heap.size := X1.out.lt
  obtain ⟨k, rfl⟩ : ∃ k : Nat, r = k := ⟨r.toNat, by omega⟩
  rcases (show k = 0 ∨ k = 1 ∨ k = 2 by omega) with rfl | rfl | rfl
  · go_wp2_with fail
    refine (l2Draw_any _ B g C1.out).mono ?_
    rintro e w2 ⟨s, hs, rfl, c2, g2⟩
    have X2 := Lib.hid (X1.out.grown g2 (by intro e; cases e; omega))
    have G2 := Lib.hid (G1.out.trans g2)
    have C2 := Lib.hid c2
    have s2 := g2.size
    have l2 := c2.lt
    clear g2 c2
    go_wp2_with fail
    refine (specPathOf_any s _ (by omega)).mono ?_
    rintro e w3 ⟨A3, n3, c3, rfl, m3, b3⟩
    have hp8 := pathOf_len (sb s)
    have X3 := Lib.hid (X2.out.below b3 (by omega))
    have G3 := Lib.hid (G2.out.trans (⟨b3.os, b3.tape, b3.output, b3.size, fun k hk _ => b3.block k hk⟩ : w2.grownBy w3 (some g)))
    have C3 := Lib.hid (C2.out.grown (⟨b3.os, b3.tape, b3.output, b3.size, fun k hk _ => b3.block k hk⟩ : w2.grownBy w3 none) (fun r h => by cases h))
    have M3 := Lib.hid m3
    have s3 := b3.size
    have e3 := m3.len
    clear m3 b3
    generalize pathOf (sb s) = ps at M3 hp8 e3
    go_wp2_with fail
    refine (l3DrawValue_any _ B g C3.out).mono ?_
    rintro e w4 ⟨v4, hv4, rfl, c4, g4⟩
    have X4 := Lib.hid (X3.out.grown g4 (by intro e; cases e; omega))
    have M4 := Lib.hid (M3.out.grown g4 (fun r h => by cases h; omega))
    have G4 := Lib.hid (G3.out.trans g4)
    have C4 := Lib.hid c4
    have s4 := g4.size
    clear g4 c4
    have q10 := X4.out.cell 0
    have q11 := X4.out.cell 1
    have q12 := X4.out.cell 2
    have q13 := X4.out.cell 3
    have f1 := X4.out.free
    simp at q10 q11 q12 q13
    go_wp2
    obtain ⟨hX, hb⟩ := set4 X4.out (.int .i64 1) (.slice A3 n3 c3) (.slice none 0 0) (.string v4)
    refine bodyPost_ret (v := .agg #[.int .i64 1, .slice A3 n3 c3, .slice none 0 0, .string v4]) (results_cell_row Try.results64 _ _ w.heap.size _ _ _ _ rfl hX Try.underlying40 rfl (by kernel_rfl)) rfl ?_
    obtain ⟨c5, g5⟩ := drawn_end hlt C4.out G4.out hb
    exact ⟨_, ⟨1, ps, [], v4⟩, rfl, ⟨A3, n3, c3, none, 0, 0, rfl, by omega, by omega, by simp only; omega, (M4.out.touch hb (fun g hg h => by have := (World.ownsRow.lt M4.out g hg).1; omega)).base (by omega), OwnK.nil _ _, fun _ _ h => by simp [Value.ownBlock] at h⟩,
      fun k hk => by simp at hk, hp8, by simp, hv4, c5, g5⟩
  · go_wp2_with fail
    refine (l2Draw_any _ B g C1.out).mono ?_
    rintro e w2 ⟨s, hs, rfl, c2, g2⟩
    have X2 := Lib.hid (X1.out.grown g2 (by intro e; cases e; omega))
    have G2 := Lib.hid (G1.out.trans g2)
    have C2 := Lib.hid c2
    have s2 := g2.size
    have l2 := c2.lt
    clear g2 c2
    go_wp2_with fail
    refine (specPathOf_any s _ (by omega)).mono ?_
    rintro e w3 ⟨A3, n3, c3, rfl, m3, b3⟩
    have hp8 := pathOf_len (sb s)
    have X3 := Lib.hid (X2.out.below b3 (by omega))
    have G3 := Lib.hid (G2.out.trans (below_grow b3))
    have C3 := Lib.hid (C2.out.grown (below_grow b3 (row := none)) (fun r h => by cases h))
    have M3 := Lib.hid m3
    have s3 := b3.size
    have e3 := m3.len
    clear m3 b3
    generalize pathOf (sb s) = ps at M3 hp8 e3
    go_wp2_with fail
    refine (below_wide _ B g 900 (by omega) (by omega) C3.out).mono ?_
    rintro e w4 ⟨r, hr0, hr1, rfl, c4, g4⟩
    have X4 := Lib.hid (X3.out.grown g4 (by intro e; cases e; omega))
    have M4 := Lib.hid (M3.out.grown g4 (fun r h => by cases h; omega))
    have G4 := Lib.hid (G3.out.trans g4)
    have C4 := Lib.hid c4
    have s4 := g4.size
    clear g4 c4
    have hw1 : IntKind.i64.wrap (1 + r) = 1 + r := by rw [IntKind.wrap_i64]; omega
    have l4 := X4.out.lt
    have q10 := X4.out.cell 0
    have q11 := X4.out.cell 1
    have q12 := X4.out.cell 2
    have q13 := X4.out.cell 3
    have f1 := X4.out.free
    simp at q10 q11 q12 q13
    go_wp2
    obtain ⟨hX, hb⟩ := set4 X4.out (.int .i64 2) (.slice A3 n3 c3) (.slice (some ⟨w4.heap.size, 0, none⟩) 1 1) (.string { data := #[] })
    have hs5 : ((((w4.setCell ⟨w.heap.size, 0, none⟩ (.int .i64 2)).setCell ⟨w.heap.size, 1, none⟩ (.slice A3 n3 c3)).setCell ⟨w.heap.size, 2, none⟩ (.slice (some ⟨w4.heap.size, 0, none⟩) 1 1)).setCell ⟨w.heap.size, 3, none⟩ (.string { data := #[] })).heap.size = w4.heap.size := by simp
    generalize ((((w4.setCell ⟨w.heap.size, 0, none⟩ (.int .i64 2)).setCell ⟨w.heap.size, 1, none⟩ (.slice A3 n3 c3)).setCell ⟨w.heap.size, 2, none⟩ (.slice (some ⟨w4.heap.size, 0, none⟩) 1 1)).setCell ⟨w.heap.size, 3, none⟩ (.string { data := #[] })) = w5 at hX hb hs5 ⊢
    have hX' : Box (w5.alloc (.cells #[.int .i64 0, .int .i64 (1 + r)] 79)) w.heap.size _ _ := (heap_alloc_old _ _ hX.lt).trans hX
    refine bodyPost_ret (v := .agg #[.int .i64 2, .slice A3 n3 c3, .slice (some ⟨w4.heap.size, 0, none⟩) 1 1, .string { data := #[] }]) (results_cell_row Try.results64 _ _ w.heap.size _ _ _ _ rfl hX' Try.underlying40 rfl (by kernel_rfl)) rfl ?_
    obtain ⟨c5, g5⟩ := drawn_end hlt C4.out G4.out hb
    have ha : Below w5.heap.size w5 (w5.alloc (.cells #[.int .i64 0, .int .i64 (1 + r)] 79)) := (Below.refl _ _).alloc (Nat.le_refl _) _
    have k5 := OwnK.of_alloc w5 w.heap.size [(0, 1 + r)] 1 (by omega) rfl (by unfold maxLen; omega)
    rw [hs5] at k5
    have hA : ∀ g, (Value.slice A3 n3 c3).ownBlock = some g → w2.heap.size ≤ g ∧ g < w4.heap.size := fun g hg => World.ownsRow.lt M4.out g hg
    refine ⟨_, ⟨2, ps, [(0, 1 + r)], { data := #[] }⟩, rfl, ⟨A3, n3, c3, some ⟨w4.heap.size, 0, none⟩, 1, 1, rfl, by omega, by omega, Nat.zero_le _, (((M4.out.touch hb (fun g hg h => by have := hA g hg; omega)).base (by omega)).below ha), k5, fun g hg h => ?_⟩,
      fun k hk => by simp at hk; subst hk; simp only; omega, hp8, by simp, Nat.zero_le _, c5.grown (below_grow ha (row := none)) (fun r h => by cases h), g5.trans (below_grow ha)⟩
    have h1 := own_eq h.symm
    have h2 := hA g hg
    omega
  · go_wp2_with fail
    refine (below_any _ B g 3 (by omega) (by omega) C1.out).mono ?_
    rintro e w2 ⟨a0, ha0, ha1, rfl, c2, g2⟩
    have X2 := Lib.hid (X1.out.grown g2 (by intro e; cases e; omega))
    have G2 := Lib.hid (G1.out.trans g2)
    have C2 := Lib.hid c2
    have s2 := g2.size
    clear g2 c2
    go_wp2_with fail
    refine (below_wide _ B g 900 (by omega) (by omega) C2.out).mono ?_
    rintro e w3 ⟨r0, hr0, hr1, rfl, c3, g3⟩
    have X3 := Lib.hid (X2.out.grown g3 (by intro e; cases e; omega))
    have G3 := Lib.hid (G2.out.trans g3)
    have C3 := Lib.hid c3
    have s3 := g3.size
    clear g3 c3
    go_wp2_with fail
    refine (below_any _ B g 13 (by omega) (by omega) C3.out).mono ?_
    rintro e w4 ⟨a1, hc0, hc1, rfl, c4, g4⟩
    have X4 := Lib.hid (X3.out.grown g4 (by intro e; cases e; omega))
    have G4 := Lib.hid (G3.out.trans g4)
    have C4 := Lib.hid c4
    have s4 := g4.size
    clear g4 c4
    go_wp2_with fail
    refine (below_any _ B g 9 (by omega) (by omega) C4.out).mono ?_
    rintro e w5 ⟨z, hz0, hz1, rfl, c5, g5⟩
    have X5 := Lib.hid (X4.out.grown g5 (by intro e; cases e; omega))
    have G5 := Lib.hid (G4.out.trans g5)
    have C5 := Lib.hid c5
    have s5 := g5.size
    clear g5 c5
    have hwz : IntKind.u8.wrap z = z := by rw [IntKind.wrap_u8]; omega
    have l5 := X5.out.lt
    obtain ⟨w6, hw6⟩ : ∃ w6, w5.alloc (.cells #[.int .u8 z] 5) = w6 := ⟨_, rfl⟩
    have ha : Below w5.heap.size w5 w6 := hw6 ▸ (Below.refl _ _).alloc (Nat.le_refl _) _
    have hrow : w6.heap[w5.heap.size]? = some (.cells (u8s [z]) 5 (0, 0)) := hw6 ▸ heap_alloc_new _ _
    have by6 := Byts.new (n := 1) rfl (fun y hy => by simp at hy; omega) hrow
    have X6 := Lib.hid (X5.out.below ha l5)
    have G6 := Lib.hid (G5.out.trans (below_grow ha))
    have C6 := Lib.hid (C5.out.grown (below_grow ha (row := none)) (fun r h => by cases h))
    have HW := Lib.hid hw6
    have s6 := ha.size
    clear hw6 ha hrow
    go_wp2_with fail
    rw [HW.out]
    refine (specName_any _ _ _ [z] _ w6 (by omega) by6).mono ?_
    rintro e _ ⟨rfl, rfl⟩
    clear by6
    have hnm := nameOf_bd [z]
    generalize nameOf [z] = nm at hnm
    have l6 := X6.out.lt
    have x7 : Box ((w6.alloc (.cells #[.int .i64 a0, .int .i64 (1 + r0), .int .i64 (3 + a1), .int .i64 nm] 79)).alloc (.cells #[.int .i64 3, .slice none 0 0, .slice (some ⟨w6.heap.size, 0, none⟩) 2 2, .string { data := #[] }] 40)) (w6.heap.size + 1) _ _ := heap2_1 _ _ _
    have s7 := size2 w6 (.cells #[.int .i64 a0, .int .i64 (1 + r0), .int .i64 (3 + a1), .int .i64 nm] 79) (.cells #[.int .i64 3, .slice none 0 0, .slice (some ⟨w6.heap.size, 0, none⟩) 2 2, .string { data := #[] }] 40)
    have b7 := below2 w6 (.cells #[.int .i64 a0, .int .i64 (1 + r0), .int .i64 (3 + a1), .int .i64 nm] 79) (.cells #[.int .i64 3, .slice none 0 0, .slice (some ⟨w6.heap.size, 0, none⟩) 2 2, .string { data := #[] }] 40)
    have k6 := OwnK.of_alloc w6 w.heap.size [(a0, 1 + r0), (3 + a1, nm)] 2 (by omega) rfl (by unfold maxLen; omega)
    have k7 := k6.below ((Below.refl _ _).alloc (Nat.le_refl _) (.cells #[.int .i64 3, .slice none 0 0, .slice (some ⟨w6.heap.size, 0, none⟩) 2 2, .string { data := #[] }] 40))
    go_wp2_with fail
    change OwnK ((w6.alloc (.cells #[.int .i64 a0, .int .i64 (1 + r0), .int .i64 (3 + a1), .int .i64 nm] 79)).alloc (.cells #[.int .i64 3, .slice none 0 0, .slice (some ⟨w6.heap.size, 0, none⟩) 2 2, .string { data := #[] }] 40)) _ _ _ _ _ at k7
    generalize ((w6.alloc (.cells #[.int .i64 a0, .int .i64 (1 + r0), .int .i64 (3 + a1), .int .i64 nm] 79)).alloc (.cells #[.int .i64 3, .slice none 0 0, .slice (some ⟨w6.heap.size, 0, none⟩) 2 2, .string { data := #[] }] 40)) = w7 at x7 s7 b7 k7 ⊢
    have X7 := Lib.hid (X6.out.below b7 l6)
    have G7 := Lib.hid (G6.out.trans (below_grow b7))
    have C7 := Lib.hid (C6.out.grown (below_grow b7 (row := none)) (fun r h => by cases h))
    have N7 := Lib.hid x7
    have K7 := Lib.hid k7
    clear x7 b7 k6 k7
    refine (once_any _ B g 2 (by omega) (by omega) C7.out).mono ?_
    rintro e w8 ⟨b, rfl, c8, g8⟩
    have X8 := Lib.hid (X7.out.grown g8 (by intro e; cases e; omega))
    have N8 := Lib.hid (N7.out.grown g8 (by intro e; cases e; omega))
    have K8 := Lib.hid (K7.out.grown g8 (fun r h => by cases h; omega))
    have G8 := Lib.hid (G7.out.trans g8)
    have C8 := Lib.hid c8
    have s8 := g8.size
    clear g8 c8
    cases b
    · have X9 := X8
      have N9 := N8
      have K9 := K8
      have C9 := C8
      have G9 := G8
      clear X8 N8 K8 C8 G8
      have q10 := X9.out.cell 0
      have q11 := X9.out.cell 1
      have q12 := X9.out.cell 2
      have q13 := X9.out.cell 3
      have f1 := X9.out.free
      have q20 := N9.out.cell 0
      have q21 := N9.out.cell 1
      have q22 := N9.out.cell 2
      have q23 := N9.out.cell 3
      have f2 := N9.out.free
      simp at q10 q11 q12 q13 q20 q21 q22 q23
      go_wp2
      obtain ⟨hX, hb⟩ := set4 X9.out (.int .i64 3) (.slice none 0 0) (.slice (some ⟨w6.heap.size, 0, none⟩) 2 2) (.string { data := #[] })
      refine bodyPost_ret (v := .agg #[.int .i64 3, .slice none 0 0, .slice (some ⟨w6.heap.size, 0, none⟩) 2 2, .string { data := #[] }]) (results_cell_row Try.results64 _ _ w.heap.size _ _ _ _ rfl hX Try.underlying40 rfl (by kernel_rfl)) rfl ?_
      obtain ⟨c5, g5⟩ := drawn_end hlt C9.out G9.out hb
      exact ⟨_, ⟨3, [], [(a0, 1 + r0), (3 + a1, nm)], { data := #[] }⟩, rfl, ⟨none, 0, 0, some ⟨w6.heap.size, 0, none⟩, 2, 2, rfl, by omega, by omega, Nat.zero_le _, OwnI.nil _ _, K9.out.touch hb (fun g hg h => by have := own_eq hg.symm; omega), fun g hg => by simp [Value.ownBlock] at hg⟩,
        fun k hk => by simp at hk; rcases hk with rfl | rfl <;> simp only <;> omega, by simp, by simp, Nat.zero_le _, c5, g5⟩
    · go_wp2_with fail
      refine (l3DrawValue_any _ B g C8.out).mono ?_
      rintro e w9 ⟨v9, hv9, rfl, c9, g9⟩
      have X9 := Lib.hid (X8.out.grown g9 (by intro e; cases e; omega))
      have N9 := Lib.hid (N8.out.grown g9 (by intro e; cases e; omega))
      have K9 := Lib.hid (K8.out.grown g9 (fun r h => by cases h; omega))
      have G9 := Lib.hid (G8.out.trans g9)
      have C9 := Lib.hid c9
      have s9 := g9.size
      clear g9 c9 X8 N8 K8 C8 G8
      have q10 := X9.out.cell 0
      have q11 := X9.out.cell 1
      have q12 := X9.out.cell 2
      have q13 := X9.out.cell 3
      have f1 := X9.out.free
      have q20 := N9.out.cell 0
      have q21 := N9.out.cell 1
      have q22 := N9.out.cell 2
      have q23 := N9.out.cell 3
      have f2 := N9.out.free
      simp at q10 q11 q12 q13 q20 q21 q22 q23
      go_wp2
      have hge := C9.out.ge
      have gs := grown_set w9 (w6.heap.size + 1) 3 (.string v9)
      have X10 := Lib.hid (X9.out.other (g' := w6.heap.size + 1) (by omega) 3 (.string v9))
      have K10 := Lib.hid (K9.out.touch (touch_set (S := fun x => x = w6.heap.size + 1) w9 (w6.heap.size + 1) 3 (.string v9) rfl) (fun g hg h => by have := own_eq hg.symm; omega))
      have C10 := Lib.hid (C9.out.grown gs (fun r e => by cases e; omega))
      have G10 := Lib.hid (grown_new G9.out gs (by omega))
      generalize w9.setCell ⟨w6.heap.size + 1, 3, none⟩ (.string v9) = w10 at X10 K10 C10 G10 ⊢
      obtain ⟨hX, hb⟩ := set4 X10.out (.int .i64 3) (.slice none 0 0) (.slice (some ⟨w6.heap.size, 0, none⟩) 2 2) (.string v9)
      refine bodyPost_ret (v := .agg #[.int .i64 3, .slice none 0 0, .slice (some ⟨w6.heap.size, 0, none⟩) 2 2, .string v9]) (results_cell_row Try.results64 _ _ w.heap.size _ _ _ _ rfl hX Try.underlying40 rfl (by kernel_rfl)) rfl ?_
      obtain ⟨c5, g5⟩ := drawn_end hlt C10.out G10.out hb
      exact ⟨_, ⟨3, [], [(a0, 1 + r0), (3 + a1, nm)], v9⟩, rfl, ⟨none, 0, 0, some ⟨w6.heap.size, 0, none⟩, 2, 2, rfl, by omega, by omega, by simp only; omega, OwnI.nil _ _, K10.out.touch hb (fun g hg h => by have := own_eq hg.symm; omega), fun g hg => by simp [Value.ownBlock] at hg⟩,
        fun k hk => by simp at hk; rcases hk with rfl | rfl <;> simp only <;> omega, by simp, by simp, hv9, c5, g5⟩
theorem from_any (w : World) (B g : Nat) (lo hi : Int) (h0 : lo ≤ hi) (h1 : hi - lo ≤ 255) (h2 : -100 ≤ lo) (h3 : hi ≤ 1000) (hc : Cur w B g) :
    Calls Try.prog 86 #[.pointer (some ⟨g, 0, none⟩), .int .i64 lo, .int .i64 hi] w fun e w' => ∃ r : Int, lo ≤ r ∧ r ≤ hi ∧ e = .returned (.int .i64 r) ∧ Cur w' B g ∧ w.grownBy w' (some g) := by
  have HC := Lib.hid hc
  clear hc
  have hw1 : IntKind.i64.wrap (hi - lo) = hi - lo := by rw [IntKind.wrap_i64]; omega
  have hw2 : IntKind.i64.wrap (hi - lo + 1) = hi - lo + 1 := by rw [IntKind.wrap_i64]; omega
  go_enter Try.func86, Try.ntmps86
  go_wp2_with fail
  refine (below_any _ B g (hi - lo + 1) (by omega) (by omega) HC.out).mono ?_
  rintro e w1 ⟨r, hr0, hr1, rfl, c1, g1⟩
  have C1 := Lib.hid c1
  have G1 := Lib.hid g1
  clear c1 g1
  have hw3 : IntKind.i64.wrap (lo + r) = lo + r := by rw [IntKind.wrap_i64]; omega
  go_wp2
  go_ret
  exact ⟨lo + r, by omega, by omega, rfl, C1.out, G1.out⟩
/-- a node of the call's own was drawn, right or not. -/
def NodeDrawnAny (w : World) (B g : Nat) (e : Ending) (w' : World) : Prop :=
  ∃ v nd, e = .returned v ∧ OwnN w' w.heap.size v nd ∧ NodeWf nd ∧ nd.path.length ≤ 9 ∧ nd.kids.length ≤ 3 ∧ nd.val.size ≤ 13 ∧ Cur w' B g ∧ w.grownBy w' (some g)
end Go.Proofs.Ytjmlpekaehfeeaa
