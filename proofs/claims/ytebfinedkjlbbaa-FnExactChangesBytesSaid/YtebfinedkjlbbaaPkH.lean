/- Several texts in one, in build order: DrawG, DrawH, LikeH. -/
import Derived.Test.YtebfinedkjlbbaaPkG
-- DrawG: What chapter 12's drawing functions make: a change, a list of changes, some bytes.
namespace Go.Proofs.Ytebfinedkjlbbaa
set_option maxRecDepth 20000
set_option linter.unusedVariables false
set_option linter.unusedSimpArgs false
open Go.RowKit

theorem Cur.touch_ {w w' : World} {B g : Nat} {S : Nat → Prop} (h : Cur w B g) (t : Touch S w w') (hs : ∀ k, k ≤ g → ¬ S k) : Cur w' B g := by
  have hlt := h.lt
  have hge := h.ge
  obtain ⟨A, n, c, i, y, zs, c1, c2, c3, c4, c5, c6⟩ := h
  exact ⟨A, n, c, i, y, zs, c1, (t.block g hlt (hs g (Nat.le_refl _))).trans c2, c3, c4, c5, c6.below (t.below (by omega) (fun k hk => hs k (by omega)))⟩
theorem grown_touch {w w1 w2 : World} {g : Nat} {S : Nat → Prop} (h : w.grownBy w1 (some g)) (t : Touch S w1 w2) (hs : ∀ k, k < w.heap.size → ¬ S k) : w.grownBy w2 (some g) :=
  ⟨t.os.trans h.os, t.tape.trans h.tape, t.output.trans h.output, Nat.le_trans h.size t.size, fun k hk hne => (t.block k (Nat.lt_of_lt_of_le hk h.size) (hs k hk)).trans (h.block k hk hne)⟩

set_option maxHeartbeats 1600000 in
theorem l12DrawAny_any (w : World) (B g : Nat) (hc : Cur w B g) :
    Calls Try.prog 98 #[.pointer (some ⟨g, 0, none⟩)] w (ChgDrawn w B g (-1) 36) := by
  have hlt := hc.lt
  have HC := Lib.hid hc
  clear hc
  go_enter Try.func98, Try.ntmps98
  go_wp2_with fail
  refine (l12Draw_any _ B g (HC.out.grown (World.grownBy_alloc w _ none) (fun r h => by cases h))).mono ?_
  rintro e w1 ⟨⟨k, m, bs⟩, A, n, c, rfl, m1, hx1, hx2, hx3, c1, g1⟩
  simp only at m1 hx1 hx2 hx3 ⊢
  have hln := m1.len
  have hb1 : (w.alloc (.cells #[.int .i64 0, .int .i64 0, .slice none 0 0] 44)).heap.size = w.heap.size + 1 := by simp
  rw [hb1] at m1
  have X1 := Lib.hid (Box.grown (t := 44) (heap_alloc_new w _) g1 (by intro e; cases e; omega))
  have G1 := Lib.hid ((World.grownBy_alloc w _ (some g)).trans g1)
  have s1 : w.heap.size < w1.heap.size := X1.out.lt
  obtain ⟨w2, hw2⟩ : ∃ w2, w1.alloc (.cells #[.int .i64 k, .int .i64 m, .slice A n c] 44) = w2 := ⟨_, rfl⟩
  have g2 : w1.grownBy w2 none := hw2 ▸ World.grownBy_alloc w1 _ none
  have g2' : w1.grownBy w2 (some g) := hw2 ▸ World.grownBy_alloc w1 _ (some g)
  have P2 := Lib.hid (show Box w2 w1.heap.size _ _ from hw2 ▸ heap_alloc_new _ _)
  have X2 := Lib.hid (X1.out.grown g2 (by simp))
  have G2 := Lib.hid (G1.out.trans g2')
  have C2 := Lib.hid (c1.grown g2 (fun r h => by cases h))
  have M2 := Lib.hid (m1.grown g2 (fun r h => by cases h))
  have MB := Lib.hid (fun b (hb : (Value.slice A n c).ownBlock = some b) => (show w.heap.size + 1 ≤ b ∧ b < w1.heap.size from World.ownsRow.lt m1.1 b hb))
  have s2 : w1.heap.size < w2.heap.size := P2.out.lt
  clear m1 g1 g2 g2' c1 HC hb1
  go_wp2_with fail
  refine (once_any w2 B g 6 (by omega) (by omega) C2.out).mono ?_
  rintro e w3 ⟨b, rfl, c3, g3⟩
  have P3 := Lib.hid (P2.out.grown g3 (by intro e; cases e; omega))
  have X3 := Lib.hid (X2.out.grown g3 (by intro e; cases e; omega))
  have G3 := Lib.hid (G2.out.trans g3)
  have M3 := Lib.hid (M2.out.grown g3 (fun r h => by cases h; omega))
  have C3 := Lib.hid c3
  have s3 : w2.heap.size ≤ w3.heap.size := g3.size
  clear g3 c3 hw2
  cases b with
  | false =>
    have p0 := X3.out.cell 0
    have p1 := X3.out.cell 1
    have p2 := X3.out.cell 2
    have f := X3.out.free
    have c0 := P3.out.cell 0
    have c1 := P3.out.cell 1
    have c2 := P3.out.cell 2
    simp at p0 p1 p2 c0 c1 c2
    obtain ⟨hX, ht⟩ := set3 X3.out (.int .i64 k) (.int .i64 m) (.slice A n c)
    obtain ⟨d6, e6⟩ := drawn_end hlt C3.out G3.out ht
    have HX := Lib.hid hX
    have D6 := Lib.hid d6
    have E6 := Lib.hid e6
    have N6 := Lib.hid (M3.out.touch ht (fun b hb e => by have := (World.ownsRow.lt M3.out.1 b hb).1; omega))
    clear hX ht d6 e6
    go_wp2
    refine bodyPost_ret (v := .agg #[.int .i64 k, .int .i64 m, .slice A n c]) (results_cell_row Try.results98 _ _ w.heap.size _ _ _ _ rfl HX.out Try.underlying44 rfl (by kernel_rfl)) rfl ?_
    exact ⟨⟨k, m, bs⟩, _, _, _, rfl, N6.out.base (by omega), by show bs.length ≤ 36; omega, by show -1 ≤ m; omega, hx3, D6.out, E6.out⟩
  | true =>
    go_wp2_with fail
    refine (below_any w3 B g 3 (by omega) (by omega) C3.out).mono ?_
    rintro e w4 ⟨r, hr0, hr1, rfl, c4, g4⟩
    have P4 := Lib.hid (P3.out.grown g4 (by intro e; cases e; omega))
    have X4 := Lib.hid (X3.out.grown g4 (by intro e; cases e; omega))
    have G4 := Lib.hid (G3.out.trans g4)
    have M4 := Lib.hid (M3.out.grown g4 (fun r h => by cases h; omega))
    have C4 := Lib.hid c4
    have s4 : w3.heap.size ≤ w4.heap.size := g4.size
    clear g4 c4
    rcases (show r = 0 ∨ r = 1 ∨ r = 2 by omega) with rfl | rfl | rfl
    · go_wp2_with fail
      refine (from_any w4 B g 0 12 (by omega) (by omega) (by omega) (by omega) C4.out).mono ?_
      rintro e w5 ⟨z, hz0, hz1, rfl, c5, g5⟩
      have s5 : w4.heap.size ≤ w5.heap.size := g5.size
      have P5 := P4.out.grown g5 (by intro e; cases e; omega)
      have X5 := X4.out.grown g5 (by intro e; cases e; omega)
      have M5 := M4.out.grown g5 (fun r h => by cases h; omega)
      have G5 := G4.out.trans g5
      obtain ⟨w6, hw6⟩ : ∃ w6, w5.setCell ⟨w1.heap.size, 0, none⟩ (.int .i64 z) = w6 := ⟨_, rfl⟩
      have t6 : Touch (fun b => b = w1.heap.size) w5 w6 := hw6 ▸ touch_set _ _ _ _ rfl
      have P6 := Lib.hid (show Box w6 w1.heap.size _ #[.int .i64 z, .int .i64 m, .slice A n c] from by have h := P5.set_ 0 (.int .i64 z); rw [hw6] at h; simpa using h)
      have X6 := Lib.hid (X5.touch t6 (by omega))
      have M6 := Lib.hid (M5.touch t6 (fun b hb e => by have := MB.out b hb; omega))
      have C6 := Lib.hid (c5.touch_ t6 (fun k hk e => by omega))
      have G6 := Lib.hid (grown_touch G5 t6 (fun k hk e => by omega))
      have s6 := t6.size
      have d0 := P5.cell 0
      have df := P5.free
      simp at d0
      clear P5 X5 M5 G5 c5 g5 t6
      have p0 := X6.out.cell 0
      have p1 := X6.out.cell 1
      have p2 := X6.out.cell 2
      have f := X6.out.free
      have c0 := P6.out.cell 0
      have c1 := P6.out.cell 1
      have c2 := P6.out.cell 2
      simp at p0 p1 p2 c0 c1 c2
      obtain ⟨hX, ht⟩ := set3 X6.out (.int .i64 z) (.int .i64 m) (.slice A n c)
      obtain ⟨d6, e6⟩ := drawn_end hlt C6.out G6.out ht
      have HX := Lib.hid hX
      have D6 := Lib.hid d6
      have E6 := Lib.hid e6
      have N6 := Lib.hid (M6.out.touch ht (fun b hb e => by have := (World.ownsRow.lt M6.out.1 b hb).1; omega))
      clear hX ht d6 e6
      go_wp2
      refine bodyPost_ret (v := .agg #[.int .i64 z, .int .i64 m, .slice A n c]) (results_cell_row Try.results98 _ _ w.heap.size _ _ _ _ rfl HX.out Try.underlying44 rfl (by kernel_rfl)) rfl ?_
      exact ⟨⟨z, m, bs⟩, _, _, _, rfl, N6.out.base (by omega), by show bs.length ≤ 36; omega, by show -1 ≤ m; omega, hx3, D6.out, E6.out⟩
    · have hwm : IntKind.i64.wrap (m - 1) = m - 1 := by rw [IntKind.wrap_i64]; omega
      have d0 := P4.out.cell 1
      have df := P4.out.free
      simp at d0
      obtain ⟨w6, hw6⟩ : ∃ w6, w4.setCell ⟨w1.heap.size, 1, none⟩ (.int .i64 (m - 1)) = w6 := ⟨_, rfl⟩
      have t6 : Touch (fun b => b = w1.heap.size) w4 w6 := hw6 ▸ touch_set _ _ _ _ rfl
      have P6 := Lib.hid (show Box w6 w1.heap.size _ #[.int .i64 k, .int .i64 (m - 1), .slice A n c] from by have h := P4.out.set_ 1 (.int .i64 (m - 1)); rw [hw6] at h; simpa using h)
      have X6 := Lib.hid (X4.out.touch t6 (by omega))
      have M6 := Lib.hid (M4.out.touch t6 (fun b hb e => by have := MB.out b hb; omega))
      have C6 := Lib.hid (C4.out.touch_ t6 (fun k hk e => by omega))
      have G6 := Lib.hid (grown_touch G4.out t6 (fun k hk e => by omega))
      have s6 := t6.size
      clear t6
      have p0 := X6.out.cell 0
      have p1 := X6.out.cell 1
      have p2 := X6.out.cell 2
      have f := X6.out.free
      have c0 := P6.out.cell 0
      have c1 := P6.out.cell 1
      have c2 := P6.out.cell 2
      simp at p0 p1 p2 c0 c1 c2
      obtain ⟨hX, ht⟩ := set3 X6.out (.int .i64 k) (.int .i64 (m - 1)) (.slice A n c)
      obtain ⟨d6, e6⟩ := drawn_end hlt C6.out G6.out ht
      have HX := Lib.hid hX
      have D6 := Lib.hid d6
      have E6 := Lib.hid e6
      have N6 := Lib.hid (M6.out.touch ht (fun b hb e => by have := (World.ownsRow.lt M6.out.1 b hb).1; omega))
      clear hX ht d6 e6
      go_wp2
      refine bodyPost_ret (v := .agg #[.int .i64 k, .int .i64 (m - 1), .slice A n c]) (results_cell_row Try.results98 _ _ w.heap.size _ _ _ _ rfl HX.out Try.underlying44 rfl (by kernel_rfl)) rfl ?_
      exact ⟨⟨k, (m - 1), bs⟩, _, _, _, rfl, N6.out.base (by omega), by show bs.length ≤ 36; omega, by show -1 ≤ m - 1; omega, by show m - 1 ≤ _; omega, D6.out, E6.out⟩
    · have d2 := P4.out.cell 2
      simp at d2
      obtain ⟨j0, hi, hz0, hz1, hz2⟩ := info_parts Try.info5
      have HI := Lib.hid hi
      have HZ0 := Lib.hid hz0
      have HZ1 := Lib.hid hz1
      have HZ2 := Lib.hid hz2
      clear hi hz0 hz1 hz2
      go_wp2_with fail
      refine (l1Bytes_all A n c bs w4.heap.size w4 (by omega) (mine_none M4.out) (Nat.le_refl _) M4.out.byts).mono ?_
      rintro e w5 ⟨A5, n5, c5, rfl, m5, b5⟩
      have s5 := b5.size
      have hl5 := m5.len
      have P5 := Lib.hid (P4.out.below b5 (by omega))
      have X5 := Lib.hid (X4.out.below b5 (by omega))
      have C5 := Lib.hid (C4.out.grown (below_grow (row := none) b5) (fun r h => by cases h))
      have G5 := Lib.hid (G4.out.trans (below_grow (row := some g) b5))
      have M5 := Lib.hid m5
      clear m5 b5 d2
      go_wp2_with (at_builtin; go_loud (refine wpList_append_lies _ rfl _ _ 22 rfl w4.heap.size 5 j0 (.int .u8 0) 1 1 Try.underlying22 HI.out HZ0.out HZ1.out HZ2.out rfl (by decide) (.slice A5 n5 c5) n5 (bs.map (Value.int .u8)) (by simp [Act.eval]) (own_touch (S := fun _ => False) M5.out.1 (Touch.of_below ((Below.refl w5.heap.size w5).alloc (Nat.le_refl _) _)) (fun _ _ h => h)) ⟨w5.heap.size, 0, none⟩ 1 1 [.int .u8 1] (by simp [Act.eval]) rfl (by intro j u hj; match j, hj with | 0, hj => (simp at hj; subst hj; simp [Addr.add])) (by intro u hu; simp at hu; subst hu; rfl) (by omega) (by unfold maxLen; omega) (by omega) (by simp; omega) _ rfl ?_))
      intro g7 c7 w7 hown7 hgrow7 hwh7 hlt7
      have hro : ∀ b, (Value.slice A5 n5 c5).ownBlock = some b → w4.heap.size ≤ b := fun b hb => (World.ownsRow.lt M5.out.1 b hb).1
      have m7 : Mine w7 w4.heap.size (some ⟨g7, 0, none⟩) (n5 + 1) c7 (bs ++ [1]) := ⟨by simpa using hown7, fun z hz => by
        rcases List.mem_append.1 hz with hz | hz
        · exact M5.out.2 z hz
        · simp at hz; omega⟩
      have t7 : Touch (fun k => some k = (Value.slice A5 n5 c5).ownBlock) w5 w7 := (Touch.of_below ((Below.refl w5.heap.size w5).alloc (Nat.le_refl _) _)).trans (Touch.of_grown hgrow7)
      have P7 := P5.out.touch t7 (fun e => by have := hro _ e.symm; omega)
      have X7 := X5.out.touch t7 (fun e => by have := hro _ e.symm; omega)
      have C7 := C5.out.touch_ t7 (fun k hk e => by have := hro _ e.symm; omega)
      have G7 := grown_touch G5.out t7 (fun k hk e => by have := hro _ e.symm; omega)
      have s7 := t7.size
      obtain ⟨w8, hw8⟩ : ∃ w8, w7.setCell ⟨w1.heap.size, 2, none⟩ (.slice (some ⟨g7, 0, none⟩) (n5 + 1) c7) = w8 := ⟨_, rfl⟩
      have t8 : Touch (fun b => b = w1.heap.size) w7 w8 := hw8 ▸ touch_set _ _ _ _ rfl
      have P8 := Lib.hid (show Box w8 w1.heap.size _ #[.int .i64 k, .int .i64 m, .slice (some ⟨g7, 0, none⟩) (n5 + 1) c7] from by have h := P7.set_ 2 (.slice (some ⟨g7, 0, none⟩) (n5 + 1) c7); rw [hw8] at h; simpa using h)
      have X8 := Lib.hid (X7.touch t8 (by omega))
      have C8 := Lib.hid (C7.touch_ t8 (fun k hk e => by omega))
      have G8 := Lib.hid (grown_touch G7 t8 (fun k hk e => by omega))
      have M8 := Lib.hid (m7.touch t8 (fun b hb e => by have := (World.ownsRow.lt m7.1 b hb).1; omega))
      have s8 := t8.size
      have d0 := P7.cell 2
      have df := P7.free
      simp at d0
      clear P7 X7 C7 G7 m7 t7 t8 hown7 hgrow7 hwh7 hro
      have p0 := X8.out.cell 0
      have p1 := X8.out.cell 1
      have p2 := X8.out.cell 2
      have f := X8.out.free
      have c0 := P8.out.cell 0
      have c1 := P8.out.cell 1
      have c2 := P8.out.cell 2
      simp at p0 p1 p2 c0 c1 c2
      obtain ⟨hX, ht⟩ := set3 X8.out (.int .i64 k) (.int .i64 m) (.slice (some ⟨g7, 0, none⟩) (n5 + 1) c7)
      obtain ⟨d6, e6⟩ := drawn_end hlt C8.out G8.out ht
      have HX := Lib.hid hX
      have D6 := Lib.hid d6
      have E6 := Lib.hid e6
      have N6 := Lib.hid (M8.out.touch ht (fun b hb e => by have := (World.ownsRow.lt M8.out.1 b hb).1; omega))
      clear hX ht d6 e6
      go_wp2
      refine bodyPost_ret (v := .agg #[.int .i64 k, .int .i64 m, .slice (some ⟨g7, 0, none⟩) (n5 + 1) c7]) (results_cell_row Try.results98 _ _ w.heap.size _ _ _ _ rfl HX.out Try.underlying44 rfl (by kernel_rfl)) rfl ?_
      exact ⟨⟨k, m, (bs ++ [1])⟩, _, _, _, rfl, N6.out.base (by omega), by show (bs ++ [1]).length ≤ 36; simp; omega, by show -1 ≤ m; omega, hx3, D6.out, E6.out⟩

/-- a change fits: a name of 64 bits, its bytes few. -/
def Fit (lo : Int) (m : Nat) (x : MChg) : Prop := x.bytes.length ≤ m ∧ lo ≤ x.name ∧ x.name ≤ 9223372036854775807
/-- the call answered with a change that fits. -/
def ChgGiven (w : World) (e : Ending) (w' : World) : Prop :=
  ∃ (x : MChg) (A : Option Addr) (n c : Nat), e = .returned (.agg #[.int .i64 x.kind, .int .i64 x.name, .slice A n c]) ∧ Mine w' w.heap.size A n c x.bytes ∧ Fit (-1) 36 x ∧ Below w.heap.size w w'
set_option maxHeartbeats 1600000 in
theorem drawChangeOk_any (A : Option Addr) (n c : Nat) (zs : List Int) (w : World) (hn : n ≤ 4096) (hb : Byts w w.heap.size A n zs) :
    Calls Try.prog 47 #[.slice A n c] w (ChgGiven w) := by
  obtain ⟨w0, hw0⟩ : ∃ w0, w.alloc (.cells #[.int .i64 0, .int .i64 0, .slice none 0 0] 44) = w0 := ⟨_, rfl⟩
  have b0 : Below w.heap.size w w0 := hw0 ▸ (Below.refl _ _).alloc (Nat.le_refl _) _
  have X0 := Lib.hid (show Box w0 w.heap.size _ _ from hw0 ▸ heap_alloc_new _ _)
  have HB := Lib.hid ((hb.below b0).more b0.size)
  have B0 := Lib.hid b0
  have s0 : w.heap.size < w0.heap.size := X0.out.lt
  clear b0 hb
  go_enter Try.func47, Try.ntmps47
  go_wp2_with fail
  refine (new_any _ _ _ zs w0 hn HB.out).mono ?_
  rintro e w1 ⟨g, rfl, c1, b1⟩
  have s1 := b1.size
  have hg := c1.ge
  have B1 := Lib.hid (B0.out.trans (b1.mono B0.out.size))
  have X1 := Lib.hid (X0.out.below b1 s0)
  have C1 := Lib.hid c1
  clear b1 c1 hw0
  go_wp2_with fail
  refine (l12DrawAny_any w1 _ g C1.out).mono ?_
  rintro e w2 ⟨⟨k, m, bs⟩, A2, n2, c2, rfl, m2, h1, h2, h3, k2, g2⟩
  have X2 := Lib.hid (X1.out.grown g2 (by intro e; cases e; omega))
  have B2 := Lib.hid (B1.out.trans (grown_below g2 B1.out.size (by omega)))
  have M2 := Lib.hid m2
  clear m2 g2 k2
  simp only at h1 h2 h3 M2 ⊢
  have p0 := X2.out.cell 0
  have p1 := X2.out.cell 1
  have p2 := X2.out.cell 2
  have f := X2.out.free
  simp at p0 p1 p2
  obtain ⟨hX, ht⟩ := set3 X2.out (.int .i64 k) (.int .i64 m) (.slice A2 n2 c2)
  have HX := Lib.hid hX
  have HT := Lib.hid ht
  clear hX ht
  go_wp2
  refine bodyPost_ret (v := .agg #[.int .i64 k, .int .i64 m, .slice A2 n2 c2]) (results_cell_row Try.results47 _ _ w.heap.size _ _ _ _ rfl HX.out Try.underlying44 rfl (by kernel_rfl)) rfl ?_
  exact ⟨⟨k, m, bs⟩, _, _, _, rfl, (M2.out.touch HT.out (fun b hb e => by have := (World.ownsRow.lt M2.out.1 b hb).1; omega)).base (by omega), ⟨h1, h2, h3⟩, B2.out.trans (HT.out.below B2.out.size (fun k hk e => by omega))⟩

/-- the call answered with changes of its own that fit. -/
def ChsGiven (w : World) (e : Ending) (w' : World) : Prop :=
  ∃ (cs : List MChg) (A : Option Addr) (n c : Nat), e = .returned (.slice A n c) ∧ OwnCh w' w.heap.size w'.heap.size A n c cs ∧ n ≤ 201 ∧ (∀ x ∈ cs, Fit (-1) 36 x) ∧ Below w.heap.size w w'
def lenV : Value → Nat
  | .slice _ n _ => n
  | _ => 0
theorem Fit.wide {x : MChg} (h : Fit 0 35 x) : Fit (-1) 36 x := ⟨by have := h.1; omega, by have := h.2.1; omega, h.2.2⟩
set_option maxHeartbeats 4000000 in
theorem drawChangesBytes_any (A : Option Addr) (n c : Nat) (zs : List Int) (w : World) (hn : n ≤ 4096) (hb : Byts w w.heap.size A n zs) :
    Calls Try.prog 45 #[.slice A n c] w (ChsGiven w) := by
  have HB := Lib.hid hb
  clear hb
  obtain ⟨i0, hi, hz0, hz1, hz2⟩ := info_parts Try.infoCh
  have HI := Lib.hid hi
  have HZ0 := Lib.hid hz0
  have HZ1 := Lib.hid hz1
  have HZ2 := Lib.hid hz2
  clear hi hz0 hz1 hz2
  go_enter Try.func45, Try.ntmps45
  go_wp2_with fail
  refine (new_any _ _ _ zs _ hn HB.out).mono ?_
  rintro e w1 ⟨g, rfl, c1, b1⟩
  have s1 := b1.size
  have lg := c1.lt
  obtain ⟨w2, hw2⟩ : ∃ w2, w1.alloc (.cells #[] 44) = w2 := ⟨_, rfl⟩
  have C2 := Lib.hid (show Cur w2 w.heap.size g from hw2 ▸ c1.grown (World.grownBy_alloc w1 _ none) (fun r h => by cases h))
  have B2 := Lib.hid (show Below w.heap.size w w2 from hw2 ▸ b1.alloc s1 _)
  have O2 := Lib.hid (show OwnCh w2 w1.heap.size w2.heap.size (some ⟨w1.heap.size, 0, none⟩) 0 0 [] from by rw [← hw2]; exact (OwnCh.made0 w1).more (by simp))
  have s2 : w2.heap.size = w1.heap.size + 1 := hw2 ▸ (by simp)
  have HW2 := Lib.hid hw2
  have hgB := c1.ge
  clear c1 b1 hw2
  go_wp2_with fail
  rw [HW2.out]
  refine (below_any _ _ g 5 (by omega) (by omega) C2.out).mono ?_
  rintro e w3 ⟨r, hr0, hr1, rfl, c3, g3⟩
  obtain ⟨N, rfl⟩ : ∃ N : Nat, r = N := ⟨r.toNat, by omega⟩
  have O3 := Lib.hid ((O2.out.touch (Touch.of_grown g3) (fun b h1 h2 e => by cases e; omega)).more g3.size)
  have B3 := Lib.hid (B2.out.trans (grown_below g3 (by omega) C2.out.ge))
  have C3 := Lib.hid c3
  have s3 : w2.heap.size ≤ w3.heap.size := g3.size
  clear c3 g3
  go_wp2
  go_loopw [4, 5] (fun s m wr => ∃ (q co j : Nat) (Al : Option Addr) (cs : List MChg), s = .slice Al q co ∧ m = .int .i64 j ∧ q + j ≤ 4 ∧ OwnCh wr w1.heap.size wr.heap.size Al q co cs ∧ (∀ x ∈ cs, Fit 0 35 x) ∧ Cur wr w.heap.size g ∧ Below w.heap.size w wr ∧ w1.heap.size ≤ wr.heap.size) (fun _ m _ => (intOf m).toNat)
  case atStart => exact ⟨0, 0, N, some ⟨w1.heap.size, 0, none⟩, [], rfl, rfl, by omega, O3.out, by simp, C3.out, B3.out, by omega⟩
  case round =>
    obtain ⟨q, co, j, Al, cs, rfl, rfl, hqj, hoc, hfit, hcr, hbel, hsz⟩ := hrel
    have OR := Lib.hid hoc
    have CR := Lib.hid hcr
    have BR := Lib.hid hbel
    have FT := Lib.hid hfit
    have hsr : w.heap.size ≤ wr.heap.size := hbel.size
    clear hoc hcr hbel hfit
    by_cases hj : 0 < j
    · have hdj : decide ((0 : Int) < (j : Int)) = true := decide_eq_true (by omega)
      obtain ⟨j, rfl⟩ : ∃ j', j = j' + 1 := ⟨j - 1, by omega⟩
      go_wp2_with fail
      refine (l12Draw_any wr _ g CR.out).mono ?_
      rintro e w4 ⟨x, A4, n4, c4, rfl, m4, hx1, hx2, hx3, k4, g4⟩
      have s4 : wr.heap.size ≤ w4.heap.size := g4.size
      have O4 := Lib.hid (OR.out.touch (Touch.of_grown g4) (fun b h1 h2 e => by cases e; omega))
      have M4 := Lib.hid m4
      have C4 := Lib.hid k4
      have B4 := Lib.hid (BR.out.trans (grown_below g4 hsr CR.out.ge))
      clear m4 k4 g4
      have ba : Below w4.heap.size w4 (w4.alloc (.cells #[.int .i64 x.kind, .int .i64 x.name, .slice A4 n4 c4] 44)) := (Below.refl _ _).alloc (Nat.le_refl _) _
      obtain ⟨hl, hu, sl, hrow, hsub⟩ := O4.out.below (ba.mono (by omega))
      have mx := (M4.out.below ba).base (base' := w1.heap.size) (by omega)
      have hxb : ∀ b, (Value.slice A4 n4 c4).ownBlock = some b → wr.heap.size ≤ b := fun b hb => (M4.out.1.lt b hb).1
      have hhi : wr.heap.size ≤ (w4.alloc (.cells #[.int .i64 x.kind, .int .i64 x.name, .slice A4 n4 c4] 44)).heap.size := by simp; omega
      go_wp2_with (at_builtin; go_loud (refine wpList_append_lies _ rfl _ _ 52 rfl w1.heap.size 44 i0 (.agg #[.int .i64 0, .int .i64 0, .slice none 0 0]) 3 40 Try.underlying52 HI.out HZ0.out HZ1.out HZ2.out rfl (by decide) (.slice Al q co) q (hvs q cs sl) (by simp [Act.eval]) hrow ⟨w4.heap.size, 0, none⟩ 1 1 [.int .i64 x.kind, .int .i64 x.name, .slice A4 n4 c4] (by simp [Act.eval]) rfl (by intro j u hj; match j, hj with | 0, hj => (simp at hj; subst hj; simp [Addr.add]) | 1, hj => (simp at hj; subst hj; simp [Addr.add]) | 2, hj => (simp at hj; subst hj; simp [Addr.add])) (by intro u hu; simp at hu; rcases hu with rfl | rfl | rfl <;> rfl) (by omega) (by unfold maxLen; omega) (by omega) (by simp; omega) _ rfl ?_))
      intro g8 c8 w8 hown8 hgrow8 hwh8 hlt8
      have h8 := OwnCh.pushed (x := x) hl hu hsub mx hxb hown8 hgrow8 (hwh8.elim .inl (fun h => .inr (by simp; omega))) hhi (Nat.le_refl _)
      have hro : ∀ b, (Value.slice Al q co).ownBlock = some b → w1.heap.size ≤ b := fun b hb => (World.ownsRow.lt hrow b hb).1
      have tt : Touch (fun k => some k = (Value.slice Al q co).ownBlock) w4 w8 := (Touch.of_below ba).trans (Touch.of_grown hgrow8)
      have O8 := Lib.hid h8
      have C8 := Lib.hid (C4.out.touch_ tt (fun k hk e => by have := hro k e.symm; omega))
      have B8 := Lib.hid (B4.out.trans (tt.below (by omega) (fun k hk e => by have := hro k e.symm; omega)))
      have s8 := tt.size
      clear hown8 hgrow8 hwh8 h8 hrow hsub mx hxb hu hl ba hro tt hhi
      go_wp2
      go_roundw
      case rel => exact ⟨q + 1, c8, j, _, cs ++ [x], rfl, by go_num, by omega, O8.out, fun y hy => (by
        rcases List.mem_append.1 hy with hy | hy
        · exact FT.out y hy
        · simp at hy; subst hy; exact ⟨hx1, hx2, hx3⟩), C8.out, B8.out, by omega⟩
      case measure => simp [intOf]
    · have hdj : decide ((0 : Int) < (j : Int)) = false := decide_eq_false (by omega)
      obtain rfl : j = 0 := by omega
      go_wp2_with fail
      refine (once_any wr _ g 6 (by omega) (by omega) CR.out).mono ?_
      rintro e w4 ⟨b, rfl, k4, g4⟩
      have s4 : wr.heap.size ≤ w4.heap.size := g4.size
      have O4 := Lib.hid ((OR.out.touch (Touch.of_grown g4) (fun b h1 h2 e => by cases e; omega)).more s4)
      have C4 := Lib.hid k4
      have B4 := Lib.hid (BR.out.trans (grown_below g4 hsr CR.out.ge))
      clear k4 g4
      cases b with
      | false =>
        have FT4 := Lib.hid (fun x hx => (FT.out x hx).wide)
        go_wp2_with fail
        refine (once_any w4 _ g 30 (by omega) (by omega) C4.out).mono ?_
        rintro e w9 ⟨b, rfl, k9, g9⟩
        have s9 : w4.heap.size ≤ w9.heap.size := g9.size
        have O9 := Lib.hid ((O4.out.touch (Touch.of_grown g9) (fun b h1 h2 e => by cases e; omega)).more s9)
        have C9 := Lib.hid k9
        have B9 := Lib.hid (B4.out.trans (grown_below g9 (by omega) C4.out.ge))
        clear k9 g9
        cases b with
        | false =>
          go_wp2
          go_ret
          exact ⟨cs, _, q, _, rfl, O9.out.base (by omega), by omega, FT4.out, B9.out⟩
        | true =>
          obtain ⟨w10, hw10⟩ : ∃ w10, w9.alloc (.cells #[] 44) = w10 := ⟨_, rfl⟩
          have C10 := Lib.hid (show Cur w10 w.heap.size g from hw10 ▸ C9.out.grown (World.grownBy_alloc w9 _ none) (fun r h => by cases h))
          have B10 := Lib.hid (show Below w.heap.size w w10 from hw10 ▸ B9.out.alloc (by omega) _)
          have O10 := Lib.hid (show OwnCh w10 w9.heap.size w10.heap.size (some ⟨w9.heap.size, 0, none⟩) 0 0 [] from by rw [← hw10]; exact (OwnCh.made0 w9).more (by simp))
          have s10 : w10.heap.size = w9.heap.size + 1 := hw10 ▸ (by simp)
          go_wp2
          go_loopw [4] (fun s wq => ∃ (q co : Nat) (Al : Option Addr) (cs : List MChg), s = .slice Al q co ∧ q ≤ 201 ∧ OwnCh wq w9.heap.size wq.heap.size Al q co cs ∧ (∀ x ∈ cs, Fit (-1) 36 x) ∧ Cur wq w.heap.size g ∧ Below w.heap.size w wq ∧ w9.heap.size ≤ wq.heap.size) (fun s _ => 201 - lenV s)
          case atStart => exact ⟨0, 0, some ⟨w9.heap.size, 0, none⟩, [], rfl, by omega, O10.out, by simp, C10.out, B10.out, by omega⟩
          case round =>
            clear hw10
            obtain ⟨q, co, Al, cs, rfl, hq, hoc, hfit, hcr, hbel, hsq⟩ := hrel
            have OQ := Lib.hid hoc
            have CQ := Lib.hid hcr
            have BQ := Lib.hid hbel
            have FQ := Lib.hid hfit
            have hgq : g < w9.heap.size := C9.out.lt
            clear hoc hcr hbel hfit
            go_wp2_with fail
            refine (below_any wr _ g 2 (by omega) (by omega) CQ.out).mono ?_
            rintro e w11 ⟨r, hr0, hr1, rfl, k11, g11⟩
            have s11 : wr.heap.size ≤ w11.heap.size := g11.size
            have O11 := Lib.hid (OQ.out.touch (Touch.of_grown g11) (fun b h1 h2 e => by cases e; omega))
            have C11 := Lib.hid k11
            have B11 := Lib.hid (BQ.out.trans (grown_below g11 (by omega) CQ.out.ge))
            have M11 := Lib.hid (Mine.nil w11 wr.heap.size)
            clear k11 g11
            have hwr : IntKind.i64.wrap (200 + r) = 200 + r := by rw [IntKind.wrap_i64]; omega
            by_cases hqr : (q : Int) < 200 + r
            · have hdq : decide ((q : Int) < 200 + r) = true := decide_eq_true hqr
              have ba : Below w11.heap.size w11 (w11.alloc (.cells #[.int .i64 9, .int .i64 0, .slice none 0 0] 44)) := (Below.refl _ _).alloc (Nat.le_refl _) _
              obtain ⟨hl, hu, sl, hrow, hsub⟩ := O11.out.below (ba.mono (by omega))
              have mx := (M11.out.below ba).base (base' := w9.heap.size) (by omega)
              have hxb : ∀ b, (Value.slice none 0 0).ownBlock = some b → wr.heap.size ≤ b := fun b hb => (M11.out.1.lt b hb).1
              have hhi : wr.heap.size ≤ (w11.alloc (.cells #[.int .i64 9, .int .i64 0, .slice none 0 0] 44)).heap.size := by simp; omega
              go_wp2_with (at_builtin; go_loud (refine wpList_append_lies _ rfl _ _ 52 rfl w9.heap.size 44 i0 (.agg #[.int .i64 0, .int .i64 0, .slice none 0 0]) 3 40 Try.underlying52 HI.out HZ0.out HZ1.out HZ2.out rfl (by decide) (.slice Al q co) q (hvs q cs sl) (by simp [Act.eval]) hrow ⟨w11.heap.size, 0, none⟩ 1 1 [.int .i64 9, .int .i64 0, .slice none 0 0] (by simp [Act.eval]) rfl (by intro j u hj; match j, hj with | 0, hj => (simp at hj; subst hj; simp [Addr.add]) | 1, hj => (simp at hj; subst hj; simp [Addr.add]) | 2, hj => (simp at hj; subst hj; simp [Addr.add])) (by intro u hu; simp at hu; rcases hu with rfl | rfl | rfl <;> rfl) (by omega) (by unfold maxLen; omega) (by omega) (by simp; omega) _ rfl ?_))
              intro g8 c8 w8 hown8 hgrow8 hwh8 hlt8
              have h8 := OwnCh.pushed (x := ⟨9, 0, []⟩) hl hu hsub mx hxb hown8 hgrow8 (hwh8.elim .inl (fun h => .inr (by simp; omega))) hhi (Nat.le_refl _)
              have hro : ∀ b, (Value.slice Al q co).ownBlock = some b → w9.heap.size ≤ b := fun b hb => (World.ownsRow.lt hrow b hb).1
              have tt : Touch (fun k => some k = (Value.slice Al q co).ownBlock) w11 w8 := (Touch.of_below ba).trans (Touch.of_grown hgrow8)
              have O8 := Lib.hid h8
              have C8 := Lib.hid (C11.out.touch_ tt (fun k hk e => by have := hro k e.symm; omega))
              have B8 := Lib.hid (B11.out.trans (tt.below (by omega) (fun k hk e => by have := hro k e.symm; omega)))
              have s8 := tt.size
              clear hown8 hgrow8 hwh8 h8 hrow hsub mx hxb hu hl ba hro tt hhi
              go_wp2
              go_roundw
              case rel => exact ⟨q + 1, c8, _, cs ++ [⟨9, 0, []⟩], rfl, by omega, O8.out, fun y hy => (by
                rcases List.mem_append.1 hy with hy | hy
                · exact FQ.out y hy
                · simp at hy; subst hy; exact ⟨by simp, by show (-1 : Int) ≤ 0; decide, by show (0 : Int) ≤ _; decide⟩), C8.out, B8.out, by omega⟩
              case measure => simp [lenV]; omega
            · have hdq : decide ((q : Int) < 200 + r) = false := decide_eq_false hqr
              go_wp2
              go_ret
              exact ⟨cs, _, q, _, rfl, (O11.out.more s11).base (by omega), hq, FQ.out, B11.out⟩
      | true =>
        go_wp2_with fail
        refine (l12DrawAny_any w4 _ g C4.out).mono ?_
        rintro e w5 ⟨x, A5, n5, c5, rfl, m5, hx1, hx2, hx3, k5, g5⟩
        have s5 : w4.heap.size ≤ w5.heap.size := g5.size
        have O5 := Lib.hid (O4.out.touch (Touch.of_grown g5) (fun b h1 h2 e => by cases e; omega))
        have M5 := Lib.hid m5
        have C5 := Lib.hid k5
        have B5 := Lib.hid (B4.out.trans (grown_below g5 (by omega) C4.out.ge))
        clear m5 k5 g5
        have ba : Below w5.heap.size w5 (w5.alloc (.cells #[.int .i64 x.kind, .int .i64 x.name, .slice A5 n5 c5] 44)) := (Below.refl _ _).alloc (Nat.le_refl _) _
        obtain ⟨hl, hu, sl, hrow, hsub⟩ := O5.out.below (ba.mono (by omega))
        have mx := (M5.out.below ba).base (base' := w1.heap.size) (by omega)
        have hxb : ∀ b, (Value.slice A5 n5 c5).ownBlock = some b → w4.heap.size ≤ b := fun b hb => (M5.out.1.lt b hb).1
        have hhi : w4.heap.size ≤ (w5.alloc (.cells #[.int .i64 x.kind, .int .i64 x.name, .slice A5 n5 c5] 44)).heap.size := by simp; omega
        go_wp2_with (at_builtin; go_loud (refine wpList_append_lies _ rfl _ _ 52 rfl w1.heap.size 44 i0 (.agg #[.int .i64 0, .int .i64 0, .slice none 0 0]) 3 40 Try.underlying52 HI.out HZ0.out HZ1.out HZ2.out rfl (by decide) (.slice Al q co) q (hvs q cs sl) (by simp [Act.eval]) hrow ⟨w5.heap.size, 0, none⟩ 1 1 [.int .i64 x.kind, .int .i64 x.name, .slice A5 n5 c5] (by simp [Act.eval]) rfl (by intro j u hj; match j, hj with | 0, hj => (simp at hj; subst hj; simp [Addr.add]) | 1, hj => (simp at hj; subst hj; simp [Addr.add]) | 2, hj => (simp at hj; subst hj; simp [Addr.add])) (by intro u hu; simp at hu; rcases hu with rfl | rfl | rfl <;> rfl) (by omega) (by unfold maxLen; omega) (by omega) (by simp; omega) _ rfl ?_))
        intro g8 c8 w8 hown8 hgrow8 hwh8 hlt8
        have h8 := OwnCh.pushed (x := x) hl hu hsub mx hxb hown8 hgrow8 (hwh8.elim .inl (fun h => .inr (by simp; omega))) hhi (Nat.le_refl _)
        have hro : ∀ b, (Value.slice Al q co).ownBlock = some b → w1.heap.size ≤ b := fun b hb => (World.ownsRow.lt hrow b hb).1
        have tt : Touch (fun k => some k = (Value.slice Al q co).ownBlock) w5 w8 := (Touch.of_below ba).trans (Touch.of_grown hgrow8)
        have O8 := Lib.hid h8
        have C8 := Lib.hid (C5.out.touch_ tt (fun k hk e => by have := hro k e.symm; omega))
        have B8 := Lib.hid (B5.out.trans (tt.below (by omega) (fun k hk e => by have := hro k e.symm; omega)))
        have s8 := tt.size
        clear hown8 hgrow8 hwh8 h8 hrow hsub mx hxb hu hl ba hro tt hhi
        have FT8 := Lib.hid (show ∀ y ∈ cs ++ [x], Fit (-1) 36 y from fun y hy => (by
          rcases List.mem_append.1 hy with hy | hy
          · exact (FT.out y hy).wide
          · simp at hy; subst hy; exact ⟨hx1, hx2, hx3⟩))
        go_wp2_with fail
        refine (once_any w8 _ g 30 (by omega) (by omega) C8.out).mono ?_
        rintro e w9 ⟨b, rfl, k9, g9⟩
        have s9 : w8.heap.size ≤ w9.heap.size := g9.size
        have O9 := Lib.hid ((O8.out.touch (Touch.of_grown g9) (fun b h1 h2 e => by cases e; omega)).more s9)
        have C9 := Lib.hid k9
        have B9 := Lib.hid (B8.out.trans (grown_below g9 (by omega) C8.out.ge))
        clear k9 g9
        cases b with
        | false =>
          go_wp2
          go_ret
          exact ⟨(cs ++ [x]), _, (q + 1), _, rfl, O9.out.base (by omega), by omega, FT8.out, B9.out⟩
        | true =>
          obtain ⟨w10, hw10⟩ : ∃ w10, w9.alloc (.cells #[] 44) = w10 := ⟨_, rfl⟩
          have C10 := Lib.hid (show Cur w10 w.heap.size g from hw10 ▸ C9.out.grown (World.grownBy_alloc w9 _ none) (fun r h => by cases h))
          have B10 := Lib.hid (show Below w.heap.size w w10 from hw10 ▸ B9.out.alloc (by omega) _)
          have O10 := Lib.hid (show OwnCh w10 w9.heap.size w10.heap.size (some ⟨w9.heap.size, 0, none⟩) 0 0 [] from by rw [← hw10]; exact (OwnCh.made0 w9).more (by simp))
          have s10 : w10.heap.size = w9.heap.size + 1 := hw10 ▸ (by simp)
          go_wp2
          go_loopw [4] (fun s wq => ∃ (q co : Nat) (Al : Option Addr) (cs : List MChg), s = .slice Al q co ∧ q ≤ 201 ∧ OwnCh wq w9.heap.size wq.heap.size Al q co cs ∧ (∀ x ∈ cs, Fit (-1) 36 x) ∧ Cur wq w.heap.size g ∧ Below w.heap.size w wq ∧ w9.heap.size ≤ wq.heap.size) (fun s _ => 201 - lenV s)
          case atStart => exact ⟨0, 0, some ⟨w9.heap.size, 0, none⟩, [], rfl, by omega, O10.out, by simp, C10.out, B10.out, by omega⟩
          case round =>
            clear hw10
            obtain ⟨q, co, Al, cs, rfl, hq, hoc, hfit, hcr, hbel, hsq⟩ := hrel
            have OQ := Lib.hid hoc
            have CQ := Lib.hid hcr
            have BQ := Lib.hid hbel
            have FQ := Lib.hid hfit
            have hgq : g < w9.heap.size := C9.out.lt
            clear hoc hcr hbel hfit
            go_wp2_with fail
            refine (below_any wr _ g 2 (by omega) (by omega) CQ.out).mono ?_
            rintro e w11 ⟨r, hr0, hr1, rfl, k11, g11⟩
            have s11 : wr.heap.size ≤ w11.heap.size := g11.size
            have O11 := Lib.hid (OQ.out.touch (Touch.of_grown g11) (fun b h1 h2 e => by cases e; omega))
            have C11 := Lib.hid k11
            have B11 := Lib.hid (BQ.out.trans (grown_below g11 (by omega) CQ.out.ge))
            have M11 := Lib.hid (Mine.nil w11 wr.heap.size)
            clear k11 g11
            have hwr : IntKind.i64.wrap (200 + r) = 200 + r := by rw [IntKind.wrap_i64]; omega
            by_cases hqr : (q : Int) < 200 + r
            · have hdq : decide ((q : Int) < 200 + r) = true := decide_eq_true hqr
              have ba : Below w11.heap.size w11 (w11.alloc (.cells #[.int .i64 9, .int .i64 0, .slice none 0 0] 44)) := (Below.refl _ _).alloc (Nat.le_refl _) _
              obtain ⟨hl, hu, sl, hrow, hsub⟩ := O11.out.below (ba.mono (by omega))
              have mx := (M11.out.below ba).base (base' := w9.heap.size) (by omega)
              have hxb : ∀ b, (Value.slice none 0 0).ownBlock = some b → wr.heap.size ≤ b := fun b hb => (M11.out.1.lt b hb).1
              have hhi : wr.heap.size ≤ (w11.alloc (.cells #[.int .i64 9, .int .i64 0, .slice none 0 0] 44)).heap.size := by simp; omega
              go_wp2_with (at_builtin; go_loud (refine wpList_append_lies _ rfl _ _ 52 rfl w9.heap.size 44 i0 (.agg #[.int .i64 0, .int .i64 0, .slice none 0 0]) 3 40 Try.underlying52 HI.out HZ0.out HZ1.out HZ2.out rfl (by decide) (.slice Al q co) q (hvs q cs sl) (by simp [Act.eval]) hrow ⟨w11.heap.size, 0, none⟩ 1 1 [.int .i64 9, .int .i64 0, .slice none 0 0] (by simp [Act.eval]) rfl (by intro j u hj; match j, hj with | 0, hj => (simp at hj; subst hj; simp [Addr.add]) | 1, hj => (simp at hj; subst hj; simp [Addr.add]) | 2, hj => (simp at hj; subst hj; simp [Addr.add])) (by intro u hu; simp at hu; rcases hu with rfl | rfl | rfl <;> rfl) (by omega) (by unfold maxLen; omega) (by omega) (by simp; omega) _ rfl ?_))
              intro g8 c8 w8 hown8 hgrow8 hwh8 hlt8
              have h8 := OwnCh.pushed (x := ⟨9, 0, []⟩) hl hu hsub mx hxb hown8 hgrow8 (hwh8.elim .inl (fun h => .inr (by simp; omega))) hhi (Nat.le_refl _)
              have hro : ∀ b, (Value.slice Al q co).ownBlock = some b → w9.heap.size ≤ b := fun b hb => (World.ownsRow.lt hrow b hb).1
              have tt : Touch (fun k => some k = (Value.slice Al q co).ownBlock) w11 w8 := (Touch.of_below ba).trans (Touch.of_grown hgrow8)
              have O8 := Lib.hid h8
              have C8 := Lib.hid (C11.out.touch_ tt (fun k hk e => by have := hro k e.symm; omega))
              have B8 := Lib.hid (B11.out.trans (tt.below (by omega) (fun k hk e => by have := hro k e.symm; omega)))
              have s8 := tt.size
              clear hown8 hgrow8 hwh8 h8 hrow hsub mx hxb hu hl ba hro tt hhi
              go_wp2
              go_roundw
              case rel => exact ⟨q + 1, c8, _, cs ++ [⟨9, 0, []⟩], rfl, by omega, O8.out, fun y hy => (by
                rcases List.mem_append.1 hy with hy | hy
                · exact FQ.out y hy
                · simp at hy; subst hy; exact ⟨by simp, by show (-1 : Int) ≤ 0; decide, by show (0 : Int) ≤ _; decide⟩), C8.out, B8.out, by omega⟩
              case measure => simp [lenV]; omega
            · have hdq : decide ((q : Int) < 200 + r) = false := decide_eq_false hqr
              go_wp2
              go_ret
              exact ⟨cs, _, q, _, rfl, (O11.out.more s11).base (by omega), hq, FQ.out, B11.out⟩
end Go.Proofs.Ytebfinedkjlbbaa

-- DrawH: What chapter 12's drawing functions make: some bytes, torn or not.
namespace Go.Proofs.Ytebfinedkjlbbaa
set_option maxRecDepth 20000
set_option linter.unusedVariables false
set_option linter.unusedSimpArgs false
open Go.RowKit

theorem below_all (w : World) (B g : Nat) (m : Int) (h0 : 0 < m) (h1 : m ≤ 1048576) (hc : Cur w B g) :
    Calls Try.prog 77 #[.pointer (some ⟨g, 0, none⟩), .int .i64 m] w (Drawn w B g m) := by
  by_cases h : 256 < m
  · exact below_wide w B g m h h1 hc
  · exact below_any w B g m h0 (by omega) hc
theorem Cur.below (w w' : World) {B g : Nat} (h : Cur w B g) (b : Below w.heap.size w w') : Cur w' B g := h.grown (below_grow (row := none) b) (fun r h => by cases h)
theorem cx_fit {cs : List MChg} {lo : Int} {m : Nat} (h : ∀ x ∈ cs, Fit lo m x) (i : Nat) : (cx cs i).bytes.length ≤ m := by
  unfold cx
  by_cases hi : i < cs.length
  · rw [List.getElem?_eq_getElem hi]
    exact (h _ (List.getElem_mem hi)).1
  · rw [List.getElem?_eq_none (by omega)]
    simp [chg0]
set_option maxHeartbeats 4000000 in
theorem drawChangesFrom_any (A : Option Addr) (n c : Nat) (zs : List Int) (w : World) (hn : n ≤ 4096) (hb : Byts w w.heap.size A n zs) :
    Calls Try.prog 46 #[.slice A n c] w (Bytes3 w 40000) := by
  have HB := Lib.hid hb
  clear hb
  obtain ⟨i0, hi, hz0, hz1, hz2⟩ := info_parts Try.infoCh
  have HI := Lib.hid hi
  have HZ0 := Lib.hid hz0
  have HZ1 := Lib.hid hz1
  have HZ2 := Lib.hid hz2
  clear hi hz0 hz1 hz2
  obtain ⟨j0, hj, hy0, hy1, hy2⟩ := info_parts Try.info5
  have HJ := Lib.hid hj
  have HY0 := Lib.hid hy0
  have HY1 := Lib.hid hy1
  have HY2 := Lib.hid hy2
  clear hj hy0 hy1 hy2
  go_enter Try.func46, Try.ntmps46
  go_wp2_with fail
  refine (new_any _ _ _ zs _ hn HB.out).mono ?_
  rintro e w1 ⟨g, rfl, c1, b1⟩
  have s1 := b1.size
  have lg := c1.lt
  obtain ⟨w2, hw2⟩ : ∃ w2, w1.alloc (.cells #[] 44) = w2 := ⟨_, rfl⟩
  have C2 := Lib.hid (show Cur w2 w.heap.size g from hw2 ▸ c1.grown (World.grownBy_alloc w1 _ none) (fun r h => by cases h))
  have B2 := Lib.hid (show Below w.heap.size w w2 from hw2 ▸ b1.alloc s1 _)
  have O2 := Lib.hid (show OwnCh w2 w1.heap.size w2.heap.size (some ⟨w1.heap.size, 0, none⟩) 0 0 [] from by rw [← hw2]; exact (OwnCh.made0 w1).more (by simp))
  have s2 : w2.heap.size = w1.heap.size + 1 := hw2 ▸ (by simp)
  have HW2 := Lib.hid hw2
  have hgB := c1.ge
  clear c1 b1 hw2
  go_wp2_with fail
  rw [HW2.out]
  refine (below_any _ _ g 4 (by omega) (by omega) C2.out).mono ?_
  rintro e w3 ⟨r, hr0, hr1, rfl, c3, g3⟩
  obtain ⟨N, rfl⟩ : ∃ N : Nat, r = N := ⟨r.toNat, by omega⟩
  have O3 := Lib.hid ((O2.out.touch (Touch.of_grown g3) (fun b h1 h2 e => by cases e; omega)).more g3.size)
  have B3 := Lib.hid (B2.out.trans (grown_below g3 (by omega) C2.out.ge))
  have C3 := Lib.hid c3
  have s3 : w2.heap.size ≤ w3.heap.size := g3.size
  clear c3 g3
  go_wp2
  go_loopw [4, 5] (fun s m wr => ∃ (q co j : Nat) (Al : Option Addr) (cs : List MChg), s = .slice Al q co ∧ m = .int .i64 j ∧ q + j ≤ 3 ∧ OwnCh wr w1.heap.size wr.heap.size Al q co cs ∧ (∀ x ∈ cs, Fit 0 35 x) ∧ Cur wr w.heap.size g ∧ Below w.heap.size w wr ∧ w1.heap.size ≤ wr.heap.size) (fun _ m _ => (intOf m).toNat)
  case atStart => exact ⟨0, 0, N, some ⟨w1.heap.size, 0, none⟩, [], rfl, rfl, by omega, O3.out, by simp, C3.out, B3.out, by omega⟩
  case round =>
    obtain ⟨q, co, j, Al, cs, rfl, rfl, hqj, hoc, hfit, hcr, hbel, hsz⟩ := hrel
    have OR := Lib.hid hoc
    have CR := Lib.hid hcr
    have BR := Lib.hid hbel
    have FT := Lib.hid hfit
    have hsr : w.heap.size ≤ wr.heap.size := hbel.size
    clear hoc hcr hbel hfit
    by_cases hj : 0 < j
    · have hdj : decide ((0 : Int) < (j : Int)) = true := decide_eq_true (by omega)
      obtain ⟨j, rfl⟩ : ∃ j', j = j' + 1 := ⟨j - 1, by omega⟩
      go_wp2_with fail
      refine (l12Draw_any wr _ g CR.out).mono ?_
      rintro e w4 ⟨x, A4, n4, c4, rfl, m4, hx1, hx2, hx3, k4, g4⟩
      have s4 : wr.heap.size ≤ w4.heap.size := g4.size
      have O4 := Lib.hid (OR.out.touch (Touch.of_grown g4) (fun b h1 h2 e => by cases e; omega))
      have M4 := Lib.hid m4
      have C4 := Lib.hid k4
      have B4 := Lib.hid (BR.out.trans (grown_below g4 hsr CR.out.ge))
      clear m4 k4 g4
      have ba : Below w4.heap.size w4 (w4.alloc (.cells #[.int .i64 x.kind, .int .i64 x.name, .slice A4 n4 c4] 44)) := (Below.refl _ _).alloc (Nat.le_refl _) _
      obtain ⟨hl, hu, sl, hrow, hsub⟩ := O4.out.below (ba.mono (by omega))
      have mx := (M4.out.below ba).base (base' := w1.heap.size) (by omega)
      have hxb : ∀ b, (Value.slice A4 n4 c4).ownBlock = some b → wr.heap.size ≤ b := fun b hb => (M4.out.1.lt b hb).1
      have hhi : wr.heap.size ≤ (w4.alloc (.cells #[.int .i64 x.kind, .int .i64 x.name, .slice A4 n4 c4] 44)).heap.size := by simp; omega
      go_wp2_with (at_builtin; go_loud (refine wpList_append_lies _ rfl _ _ 52 rfl w1.heap.size 44 i0 (.agg #[.int .i64 0, .int .i64 0, .slice none 0 0]) 3 40 Try.underlying52 HI.out HZ0.out HZ1.out HZ2.out rfl (by decide) (.slice Al q co) q (hvs q cs sl) (by simp [Act.eval]) hrow ⟨w4.heap.size, 0, none⟩ 1 1 [.int .i64 x.kind, .int .i64 x.name, .slice A4 n4 c4] (by simp [Act.eval]) rfl (by intro j u hj; match j, hj with | 0, hj => (simp at hj; subst hj; simp [Addr.add]) | 1, hj => (simp at hj; subst hj; simp [Addr.add]) | 2, hj => (simp at hj; subst hj; simp [Addr.add])) (by intro u hu; simp at hu; rcases hu with rfl | rfl | rfl <;> rfl) (by omega) (by unfold maxLen; omega) (by omega) (by simp; omega) _ rfl ?_))
      intro g8 c8 w8 hown8 hgrow8 hwh8 hlt8
      have h8 := OwnCh.pushed (x := x) hl hu hsub mx hxb hown8 hgrow8 (hwh8.elim .inl (fun h => .inr (by simp; omega))) hhi (Nat.le_refl _)
      have hro : ∀ b, (Value.slice Al q co).ownBlock = some b → w1.heap.size ≤ b := fun b hb => (World.ownsRow.lt hrow b hb).1
      have tt : Touch (fun k => some k = (Value.slice Al q co).ownBlock) w4 w8 := (Touch.of_below ba).trans (Touch.of_grown hgrow8)
      have O8 := Lib.hid h8
      have C8 := Lib.hid (C4.out.touch_ tt (fun k hk e => by have := hro k e.symm; omega))
      have B8 := Lib.hid (B4.out.trans (tt.below (by omega) (fun k hk e => by have := hro k e.symm; omega)))
      have s8 := tt.size
      clear hown8 hgrow8 hwh8 h8 hrow hsub mx hxb hu hl ba hro tt hhi
      go_wp2
      go_roundw
      case rel => exact ⟨q + 1, c8, j, _, cs ++ [x], rfl, by go_num, by omega, O8.out, fun y hy => (by
        rcases List.mem_append.1 hy with hy | hy
        · exact FT.out y hy
        · simp at hy; subst hy; exact ⟨hx1, hx2, hx3⟩), C8.out, B8.out, by omega⟩
      case measure => simp [intOf]
    · have hdj : decide ((0 : Int) < (j : Int)) = false := decide_eq_false (by omega)
      obtain rfl : j = 0 := by omega
      have hgr : g < wr.heap.size := CR.out.lt
      have hlo := CR.out.ge
      go_wp2_with fail
      refine (specChangesBytes_any Al q co cs wr.heap.size wr (by omega) (fun i => by have := cx_fit FT.out i; omega) (Nat.le_refl _) OR.out.chs).mono ?_
      rintro e w4 ⟨A4, n4, c4, l, r, rfl, his, m4, b4⟩
      have hl4 := m4.len
      have hbd4 := his.len
      have s4 := b4.size
      have M4 := Lib.hid m4
      have C4 := Lib.hid (CR.out.below _ _ b4)
      have B4 := Lib.hid (BR.out.trans (b4.mono hsr))
      have hcap4 := mine_cap m4
      have hnil4 := mine_none m4
      clear his m4 b4
      go_wp2_with fail
      refine (once_any w4 _ g 2 (by omega) (by omega) C4.out).mono ?_
      rintro e w5 ⟨b, rfl, k5, g5⟩
      have s5 : w4.heap.size ≤ w5.heap.size := g5.size
      have M5 := Lib.hid (M4.out.grown g5 (fun r h => by cases h; omega))
      have C5 := Lib.hid k5
      have B5 := Lib.hid (B4.out.trans (grown_below g5 (by omega) C4.out.ge))
      clear k5 g5
      have hend := Lib.hid (show Bytes3 w 40000 (.returned (.slice A4 n4 c4)) w5 from ⟨_, _, _, l, by omega, rfl, hcap4, hnil4, M5.out.byts, B5.out⟩)
      cases b with
      | false =>
        go_wp2
        go_ret
        exact hend.out
      | true =>
        by_cases hk0 : 0 < n4
        case neg =>
          obtain rfl : n4 = 0 := by omega
          go_wp2
          go_ret
          exact hend.out
        case pos =>
          have hdk : decide ((0 : Int) < (n4 : Int)) = true := decide_eq_true (by omega)
          obtain ⟨gb, rfl, hgb1, hgb2⟩ := M5.out.form hk0
          go_wp2_with fail
          refine (below_any w5 _ g 3 (by omega) (by omega) C5.out).mono ?_
          rintro e w6 ⟨r, hr0, hr1, rfl, k6, g6⟩
          have M6 := Lib.hid (M5.out.grown g6 (fun r h => by cases h; omega))
          have C6 := Lib.hid k6
          have s6 : w5.heap.size ≤ w6.heap.size := g6.size
          have B6 := Lib.hid (B5.out.trans (grown_below g6 (by omega) C5.out.ge))
          clear k6 g6
          rcases (show r = 0 ∨ r = 1 ∨ r = 2 by omega) with rfl | rfl | rfl
          · go_wp2_with fail
            refine (below_all w6 _ g n4 (by omega) (by omega) C6.out).mono ?_
            rintro e w7 ⟨p, hp0, hp1, rfl, k7, g7⟩
            obtain ⟨p, rfl⟩ : ∃ q : Nat, p = q := ⟨p.toNat, by omega⟩
            have M7 := Lib.hid (M6.out.grown g7 (fun r h => by cases h; omega))
            have C7 := Lib.hid k7
            have s7 : w6.heap.size ≤ w7.heap.size := g7.size
            have B7 := Lib.hid (B6.out.trans (grown_below g7 (by omega) C6.out.ge))
            clear k7 g7
            go_wp2_with fail
            refine (below_any w7 _ g 256 (by omega) (by omega) C7.out).mono ?_
            rintro e w8 ⟨z, hz0, hz1, rfl, k8, g8⟩
            have M8 := Lib.hid (M7.out.grown g8 (fun r h => by cases h; omega))
            have s8 : w7.heap.size ≤ w8.heap.size := g8.size
            have B8 := Lib.hid (B7.out.trans (grown_below g8 (by omega) C7.out.ge))
            clear k8 g8
            have hpk : p < n4 := by omega
            have hcell := M8.out.cell hpk
            have hfree := M8.out.free p
            obtain ⟨M9, G9⟩ := M8.out.set_ p z ⟨hz0, by omega⟩
            have B9 := Lib.hid (B8.out.grown G9 (by omega) (fun r h => by cases h; omega))
            have M9 := Lib.hid M9
            have hw : IntKind.u8.wrap z = z := by rw [IntKind.wrap_u8]; omega
            go_wp2
            go_ret
            exact ⟨_, _, _, l.set p z, by omega, rfl, mine_cap M9.out, (fun h => by cases h), M9.out.byts, B9.out⟩
          · go_wp2_with fail
            refine (below_all w6 _ g n4 (by omega) (by omega) C6.out).mono ?_
            rintro e w7 ⟨p, hp0, hp1, rfl, k7, g7⟩
            obtain ⟨p, rfl⟩ : ∃ q : Nat, p = q := ⟨p.toNat, by omega⟩
            have M7 := Lib.hid (M6.out.grown g7 (fun r h => by cases h; omega))
            have s7 : w6.heap.size ≤ w7.heap.size := g7.size
            have B7 := Lib.hid (B6.out.trans (grown_below g7 (by omega) C6.out.ge))
            clear k7 g7
            have hcap := mine_cap M7.out
            have hp7 := Lib.hid (byts_head p (by omega) M7.out.byts)
            go_wp2
            go_ret
            exact ⟨_, p, c4, l.take p, by omega, rfl, by omega, (fun h => by cases h), hp7.out, B7.out⟩
          · go_wp2_with fail
            refine (below_any w6 _ g 12 (by omega) (by omega) C6.out).mono ?_
            rintro e w7 ⟨z, hz0, hz1, rfl, k7, g7⟩
            have M7 := Lib.hid (M6.out.grown g7 (fun r h => by cases h; omega))
            have s7 : w6.heap.size ≤ w7.heap.size := g7.size
            have B7 := Lib.hid (B6.out.trans (grown_below g7 (by omega) C6.out.ge))
            clear k7 g7
            have hw : IntKind.u8.wrap z = z := by rw [IntKind.wrap_u8]; omega
            have hz8 : z % 256 = z := by omega
            go_wp2_with (at_builtin; go_loud (refine wpList_append_lies _ rfl _ _ 22 rfl wr.heap.size 5 j0 (.int .u8 0) 1 1 Try.underlying22 HJ.out HY0.out HY1.out HY2.out rfl (by decide) (.slice (some ⟨gb, 0, none⟩) n4 c4) n4 (l.map (Value.int .u8)) (by simp [Act.eval]) (own_touch (S := fun _ => False) M7.out.1 (Touch.of_below ((Below.refl w7.heap.size w7).alloc (Nat.le_refl _) _)) (fun _ _ h => h)) ⟨w7.heap.size, 0, none⟩ 1 1 [.int .u8 z] (by simp [Act.eval]) rfl (by intro j u hj; match j, hj with | 0, hj => (simp at hj; subst hj; simp [Addr.add])) (by intro u hu; simp at hu; subst hu; rfl) (by omega) (by unfold maxLen; omega) (by omega) (by simp; omega) _ rfl ?_))
            intro g8 c8 w8 hown8 hgrow8 hwh8 hlt8
            have m8 : Mine w8 wr.heap.size (some ⟨g8, 0, none⟩) (n4 + 1) c8 (l ++ [z]) := M7.out.app (ys := [z]) (by simp; omega) (by simpa using hown8)
            have b8 := ((B7.out.alloc B7.out.size _).grown hgrow8 (by have := B7.out.size; simp; omega) (fun g hg => by have := (World.ownsRow.lt M7.out.1 g hg).1; omega))
            have M8 := Lib.hid m8
            have B8 := Lib.hid b8
            clear hown8 hgrow8 hwh8 m8 b8
            go_wp2
            go_ret
            exact ⟨_, _, _, _, by omega, rfl, mine_cap M8.out, (fun h => by cases h), M8.out.byts, B8.out⟩
end Go.Proofs.Ytebfinedkjlbbaa

-- LikeH: The laws' likeChanges: two slices of the same changes are alike.
namespace Go.Proofs.Ytebfinedkjlbbaa
set_option maxRecDepth 100000
set_option linter.unusedVariables false
set_option linter.unusedSimpArgs false
open Go.RowKit

set_option maxHeartbeats 1600000 in
theorem likeChanges_yes (A A' : Option Addr) (n c c' : Nat) (cs : List MChg) (B B' : Nat) (w : World) (hn : n ≤ 1048576) (hB : B ≤ w.heap.size) (hB' : B' ≤ w.heap.size) (hb : Chs w B A n cs) (hb' : Chs w B' A' n cs) :
    Calls Try.prog 48 #[.slice A n c, .slice A' n c'] w fun e w' => e = .returned (.bool true) ∧ Below w.heap.size w w' := by
  have HB := Lib.hid (hb.more hB)
  have HB' := Lib.hid (hb'.more hB')
  clear hb hb'
  go_enter Try.func48, Try.ntmps48
  go_wp2
  go_loopw [5] (fun i wr => ∃ k : Nat, k ≤ n ∧ i = .int .i64 k ∧ Below w.heap.size w wr) (fun i _ => n - (intOf i).toNat)
  case atStart => exact ⟨0, Nat.zero_le _, rfl, Below.refl _ _⟩
  case round =>
    obtain ⟨k, hk, rfl, hbel⟩ := hrel
    have BR := Lib.hid hbel
    by_cases hlt : k < n
    · obtain ⟨b, off, Ai, ni, ci, rfl, hbB, h0, h1, h2, _, _, hy⟩ := (HB.out.below hbel).at_ hlt
      obtain ⟨b', off', Ai', ni', ci', rfl, hbB', h0', h1', h2', _, _, hy'⟩ := (HB'.out.below hbel).at_ hlt
      generalize cx cs k = x at h0 h1 h2 h0' h1' h2' hy hy'
      have LB := Lib.hid (fun m => (likeBytes_yes Ai Ai' ni ni' ci ci' x.bytes _ _ _ (hy.drewN m) (hy'.drewN m)).mono (R' := fun e w' => e = .returned (.bool true) ∧ w' = wr.drewN m) (by rintro e w' ⟨h1, h2⟩; exact ⟨h1, h2.symm⟩))
      have hik : (k : Int) < (n : Int) := by omega
      have e0 : (x.kind != x.kind) = false := by simp
      have e1 : (x.name != x.name) = false := by simp
      clear hy hy' hbel
      go_wp2_with fail
      go_quiet (first | (go_at_call 23; exact Calls.quiet_of_same (LB.out _)))
      go_wp2
      go_roundw
      case rel => exact ⟨k + 1, by omega, by go_num, below_drewN BR.out _⟩
      case measure => simp [intOf]; omega
    · go_wp2
      go_ret
      exact ⟨rfl, hbel⟩
end Go.Proofs.Ytebfinedkjlbbaa
