/- Several texts in one, in build order: BaseY, ReachO, BaseS, StepA, BaseK, BaseW, BaseO, RowL, Srch, RightM. -/
import Derived.Test.YtigdcmfmaehjfaaGreatPkD
import Derived.Deep.AppendLies
import Derived.Deep.RegionLaw
import Derived.Deep.DeepCutAuto
import Derived.Shelf.Spec.SlicesInsertGrow
-- BaseY: What the laws' helpers do with a base: a copy, two alike, marks.
namespace Go.Proofs.YtigdcmfmaehjfaaGreat
set_option maxRecDepth 20000
set_option linter.unusedVariables false
set_option linter.unusedSimpArgs false
open Go.RowKit

set_option maxHeartbeats 1600000 in
theorem toBase_any (L : BLay) (b : MBase) (B : Nat) (w : World) (hs : szB b ≤ 1048576) (hB : B ≤ w.heap.size) (hi : BaseIn w B L b) :
    Calls Tryz.prog 9 #[L.v b] w (GaveBase w b) := by
  obtain ⟨A, n, c, Ap, np, cp, Ag, ng, cg, Ab, nb, cb⟩ := L
  obtain ⟨cs, head, pins, phase, grey, black, cursor⟩ := b
  obtain ⟨hC, hP, hG, hBk⟩ := hi
  simp only [szB] at hs hC hP hG hBk
  have hl0 := hC.1
  have hl1 := hP.1
  have hl2 := hG.1
  have hl3 := hBk.1
  have hszl := szC_len cs
  unfold BLay.v
  simp only
  obtain ⟨w3, hw3⟩ : ∃ w3, (((w.alloc (.cells #[.slice A n c, .int .i64 head, .slice Ap np cp, .int .i64 phase, .slice Ag ng cg, .slice Ab nb cb, .int .i64 cursor] 25)).alloc (.cells #[.slice none 0 0, .int .i64 0, .slice none 0 0, .int .i64 0, .slice none 0 0, .slice none 0 0, .int .i64 0] 30)).alloc
    (.cells #[.slice none 0 0, .int .i64 0, .slice none 0 0, .int .i64 0, .slice none 0 0, .slice none 0 0, .int .i64 0] 30)) = w3 := ⟨_, rfl⟩
  have x0 : Box w3 w.heap.size _ _ := hw3 ▸ heap3_0 _ _ _ _
  have x1 : Box w3 (w.heap.size + 1) _ _ := hw3 ▸ heap3_1 _ _ _ _
  have x2 : Box w3 (w.heap.size + 1 + 1) _ _ := hw3 ▸ heap3_2 _ _ _ _
  have s3 : w3.heap.size = w.heap.size + 3 := hw3 ▸ size3 _ _ _ _
  have b3 : Below w.heap.size w w3 := hw3 ▸ below3 _ _ _ _
  have X0 := Lib.hid x0
  have X1 := Lib.hid x1
  have X2 := Lib.hid x2
  have B3 := Lib.hid b3
  have HW := Lib.hid hw3
  have HC := Lib.hid (hC.more hB)
  have HP := Lib.hid (hP.more hB)
  have HG := Lib.hid (hG.more hB)
  have HK := Lib.hid (hBk.more hB)
  clear x0 x1 x2 b3 hw3 hC hP hG hBk
  go_enter Tryz.func9, Tryz.ntmps9
  go_wp2_with fail
  rw [HW.out]
  refine (copyC_any A n c cs w.heap.size w3 (by omega) (fun i => cel_bd cs (by omega) i) (by omega) (HC.out.below B3.out)).mono ?_
  rintro e w4 ⟨A1, n1, c1, rfl, o4, b4⟩
  obtain rfl : n1 = n := o4.len.symm.trans hl0
  have s4 : w3.heap.size ≤ w4.heap.size := b4.size
  have X0 := Lib.hid (X0.out.below b4 (by omega))
  have X1 := Lib.hid (X1.out.below b4 (by omega))
  have x2 := X2.out.below b4 (by omega)
  have B4 := Lib.hid (B3.out.trans (b4.mono (by omega)))
  have O4 := Lib.hid o4
  clear b4 o4
  have q1 := X0.out.cell 1
  have q2 := X0.out.cell 2
  simp at q1 q2
  have p0 := x2.cell 0
  have p1 := x2.cell 1
  have p2 := x2.cell 2
  have p3 := x2.cell 3
  have p4 := x2.cell 4
  have p5 := x2.cell 5
  have p6 := x2.cell 6
  have f2 := x2.free
  simp at p0 p1 p2 p3 p4 p5 p6
  obtain ⟨w5, hw5⟩ : ∃ z, ((w4.setCell ⟨w.heap.size + 1 + 1, 0, none⟩ (.slice A1 n1 c1)).setCell ⟨w.heap.size + 1 + 1, 1, none⟩ (.int .i64 head)) = z := ⟨_, rfl⟩
  have tw5 : Touch (fun k => k = w.heap.size + 1 + 1) w4 w5 := hw5 ▸ ((touch_set (S := fun k => k = w.heap.size + 1 + 1) w4 (w.heap.size + 1 + 1) 0 (.slice A1 n1 c1) rfl).trans (touch_set (S := fun k => k = w.heap.size + 1 + 1) (w4.setCell ⟨w.heap.size + 1 + 1, 0, none⟩ (.slice A1 n1 c1)) (w.heap.size + 1 + 1) 1 (.int .i64 head) rfl))
  have yw5 : Box w5 (w.heap.size + 1 + 1) 30 #[.slice A1 n1 c1, .int .i64 head, .slice none 0 0, .int .i64 0, .slice none 0 0, .slice none 0 0, .int .i64 0] := hw5 ▸ ((x2).set_ 0 (.slice A1 n1 c1)).set_ 1 (.int .i64 head)
  have s5 : w4.heap.size ≤ w5.heap.size := tw5.size
  have b45 : Below (w.heap.size + 1 + 1) w4 w5 := tw5.below (by omega) (fun k hk e => by omega)
  have X0 := Lib.hid (X0.out.below b45 (by omega))
  have qq := X0.out.cell 2
  simp at qq
  have X1 := Lib.hid (X1.out.below b45 (by omega))
  have X2 := Lib.hid yw5
  have B5 := Lib.hid (B4.out.trans (b45.mono (by omega)))
  have O5 := Lib.hid (O4.out.touch tw5 (fun b h1 h2 e => by omega))
  clear tw5 yw5 b45 O4
  go_wp2_with fail
  refine (copyI_any Ap np cp pins w.heap.size w5 (by omega) (by omega) (HP.out.below B5.out)).mono ?_
  rintro e w6 ⟨A2, n2, c2, rfl, o6, b6⟩
  obtain rfl : n2 = np := o6.len.symm.trans hl1
  have s6 : w5.heap.size ≤ w6.heap.size := b6.size
  have U6 := Lib.hid (fun g (hg : (Value.slice A2 n2 c2).ownBlock = some g) => World.ownsRow.lt o6 g hg)
  have X0 := Lib.hid (X0.out.below b6 (by omega))
  have X1 := Lib.hid (X1.out.below b6 (by omega))
  have x2 := X2.out.below b6 (by omega)
  have B6 := Lib.hid (B5.out.trans (b6.mono (by omega)))
  have O6 := Lib.hid (O5.out.below (b6.mono (by omega)))
  have P6 := Lib.hid o6
  clear b6 o6 O5 q1 q2 p0 p1 p2 p3 p4 p5 p6 f2 hw5 qq
  have q3 := X0.out.cell 3
  have q4 := X0.out.cell 4
  simp at q3 q4
  have p0 := x2.cell 0
  have p1 := x2.cell 1
  have p2 := x2.cell 2
  have p3 := x2.cell 3
  have p4 := x2.cell 4
  have p5 := x2.cell 5
  have p6 := x2.cell 6
  have f2 := x2.free
  simp at p0 p1 p2 p3 p4 p5 p6
  obtain ⟨w7, hw7⟩ : ∃ z, ((w6.setCell ⟨w.heap.size + 1 + 1, 2, none⟩ (.slice A2 n2 c2)).setCell ⟨w.heap.size + 1 + 1, 3, none⟩ (.int .i64 phase)) = z := ⟨_, rfl⟩
  have tw7 : Touch (fun k => k = w.heap.size + 1 + 1) w6 w7 := hw7 ▸ ((touch_set (S := fun k => k = w.heap.size + 1 + 1) w6 (w.heap.size + 1 + 1) 2 (.slice A2 n2 c2) rfl).trans (touch_set (S := fun k => k = w.heap.size + 1 + 1) (w6.setCell ⟨w.heap.size + 1 + 1, 2, none⟩ (.slice A2 n2 c2)) (w.heap.size + 1 + 1) 3 (.int .i64 phase) rfl))
  have yw7 : Box w7 (w.heap.size + 1 + 1) 30 #[.slice A1 n1 c1, .int .i64 head, .slice A2 n2 c2, .int .i64 phase, .slice none 0 0, .slice none 0 0, .int .i64 0] := hw7 ▸ ((x2).set_ 2 (.slice A2 n2 c2)).set_ 3 (.int .i64 phase)
  have s7 : w6.heap.size ≤ w7.heap.size := tw7.size
  have b67 : Below (w.heap.size + 1 + 1) w6 w7 := tw7.below (by omega) (fun k hk e => by omega)
  have X0 := Lib.hid (X0.out.below b67 (by omega))
  have qq := X0.out.cell 4
  simp at qq
  have X1 := Lib.hid (X1.out.below b67 (by omega))
  have X2 := Lib.hid yw7
  have B7 := Lib.hid (B6.out.trans (b67.mono (by omega)))
  have O7 := Lib.hid (O6.out.touch tw7 (fun b h1 h2 e => by omega))
  have P7 := Lib.hid (P6.out.touch tw7 (fun g hg e => by have := (U6.out g hg).1; omega))
  clear tw7 yw7 b67 O6 P6
  go_wp2_with fail
  refine (copyI_any Ag ng cg grey w.heap.size w7 (by omega) (by omega) (HG.out.below B7.out)).mono ?_
  rintro e w8 ⟨A3, n3, c3, rfl, o8, b8⟩
  obtain rfl : n3 = ng := o8.len.symm.trans hl2
  have s8 : w7.heap.size ≤ w8.heap.size := b8.size
  have U8 := Lib.hid (fun g (hg : (Value.slice A3 n3 c3).ownBlock = some g) => World.ownsRow.lt o8 g hg)
  have X0 := Lib.hid (X0.out.below b8 (by omega))
  have X1 := Lib.hid (X1.out.below b8 (by omega))
  have x2 := X2.out.below b8 (by omega)
  have B8 := Lib.hid (B7.out.trans (b8.mono (by omega)))
  have O8 := Lib.hid (O7.out.below (b8.mono (by omega)))
  have P8 := Lib.hid (P7.out.below b8)
  have G8 := Lib.hid o8
  clear b8 o8 O7 P7 q3 q4 p0 p1 p2 p3 p4 p5 p6 f2 hw7 qq
  have q5 := X0.out.cell 5
  simp at q5
  have p0 := x2.cell 0
  have p1 := x2.cell 1
  have p2 := x2.cell 2
  have p3 := x2.cell 3
  have p4 := x2.cell 4
  have p5 := x2.cell 5
  have p6 := x2.cell 6
  have f2 := x2.free
  simp at p0 p1 p2 p3 p4 p5 p6
  obtain ⟨w9, hw9⟩ : ∃ z, (w8.setCell ⟨w.heap.size + 1 + 1, 4, none⟩ (.slice A3 n3 c3)) = z := ⟨_, rfl⟩
  have tw9 : Touch (fun k => k = w.heap.size + 1 + 1) w8 w9 := hw9 ▸ (touch_set (S := fun k => k = w.heap.size + 1 + 1) w8 (w.heap.size + 1 + 1) 4 (.slice A3 n3 c3) rfl)
  have yw9 : Box w9 (w.heap.size + 1 + 1) 30 #[.slice A1 n1 c1, .int .i64 head, .slice A2 n2 c2, .int .i64 phase, .slice A3 n3 c3, .slice none 0 0, .int .i64 0] := hw9 ▸ (x2).set_ 4 (.slice A3 n3 c3)
  have s9 : w8.heap.size ≤ w9.heap.size := tw9.size
  have b89 : Below (w.heap.size + 1 + 1) w8 w9 := tw9.below (by omega) (fun k hk e => by omega)
  have X0 := Lib.hid (X0.out.below b89 (by omega))
  have qq := X0.out.cell 5
  simp at qq
  have X1 := Lib.hid (X1.out.below b89 (by omega))
  have X2 := Lib.hid yw9
  have B9 := Lib.hid (B8.out.trans (b89.mono (by omega)))
  have O9 := Lib.hid (O8.out.touch tw9 (fun b h1 h2 e => by omega))
  have P9 := Lib.hid (P8.out.touch tw9 (fun g hg e => by have := (U6.out g hg).1; omega))
  have G9 := Lib.hid (G8.out.touch tw9 (fun g hg e => by have := (U8.out g hg).1; omega))
  clear tw9 yw9 b89 O8 P8 G8
  go_wp2_with fail
  refine (copyI_any Ab nb cb black w.heap.size w9 (by omega) (by omega) (HK.out.below B9.out)).mono ?_
  rintro e wA ⟨A4, n4, c4, rfl, oA, bA⟩
  obtain rfl : n4 = nb := oA.len.symm.trans hl3
  have sA : w9.heap.size ≤ wA.heap.size := bA.size
  have UA := Lib.hid (fun g (hg : (Value.slice A4 n4 c4).ownBlock = some g) => World.ownsRow.lt oA g hg)
  have X0 := Lib.hid (X0.out.below bA (by omega))
  have x1 := X1.out.below bA (by omega)
  have x2 := X2.out.below bA (by omega)
  have BA := Lib.hid (B9.out.trans (bA.mono (by omega)))
  have OA := Lib.hid (O9.out.below (bA.mono (by omega)))
  have PA := Lib.hid (P9.out.below bA)
  have GA := Lib.hid (G9.out.below bA)
  have KA := Lib.hid oA
  clear bA oA O9 P9 G9 q5 p0 p1 p2 p3 p4 p5 p6 f2 hw9 qq
  have q6 := X0.out.cell 6
  simp at q6
  have p0 := x2.cell 0
  have p1 := x2.cell 1
  have p2 := x2.cell 2
  have p3 := x2.cell 3
  have p4 := x2.cell 4
  have p5 := x2.cell 5
  have p6 := x2.cell 6
  have r0 := x1.cell 0
  have r1 := x1.cell 1
  have r2 := x1.cell 2
  have r3 := x1.cell 3
  have r4 := x1.cell 4
  have r5 := x1.cell 5
  have r6 := x1.cell 6
  have f2 := x2.free
  have f1 := x1.free
  simp at p0 p1 p2 p3 p4 p5 p6 r0 r1 r2 r3 r4 r5 r6
  go_wp2
  have hX := ((((((((x1.other (g' := w.heap.size + 1 + 1) (by omega) 5 (.slice A4 n4 c4)).other (g' := w.heap.size + 1 + 1) (by omega) 6 (.int .i64 cursor)).set_ 0 (.slice A1 n1 c1)).set_ 1 (.int .i64 head)).set_ 2 (.slice A2 n2 c2)).set_ 3 (.int .i64 phase)).set_ 4 (.slice A3 n3 c3)).set_ 5 (.slice A4 n4 c4)).set_ 6 (.int .i64 cursor)
  have hS : Touch (fun k => w.heap.size ≤ k ∧ k < w.heap.size + 3) wA _ := (((((((((touch_set (S := fun k => w.heap.size ≤ k ∧ k < w.heap.size + 3) wA (w.heap.size + 1 + 1) 5 (.slice A4 n4 c4) ⟨by omega, by omega⟩).trans (touch_set _ (w.heap.size + 1 + 1) 6 (.int .i64 cursor) ⟨by omega, by omega⟩)).trans (touch_set _ (w.heap.size + 1) 0 (.slice A1 n1 c1) ⟨by omega, by omega⟩)).trans (touch_set _ (w.heap.size + 1) 1 (.int .i64 head) ⟨by omega, by omega⟩)).trans (touch_set _ (w.heap.size + 1) 2 (.slice A2 n2 c2) ⟨by omega, by omega⟩)).trans (touch_set _ (w.heap.size + 1) 3 (.int .i64 phase) ⟨by omega, by omega⟩)).trans (touch_set _ (w.heap.size + 1) 4 (.slice A3 n3 c3) ⟨by omega, by omega⟩)).trans (touch_set _ (w.heap.size + 1) 5 (.slice A4 n4 c4) ⟨by omega, by omega⟩)).trans (touch_set _ (w.heap.size + 1) 6 (.int .i64 cursor) ⟨by omega, by omega⟩))
  refine bodyPost_ret (v := .agg #[.slice A1 n1 c1, .int .i64 head, .slice A2 n2 c2, .int .i64 phase, .slice A3 n3 c3, .slice A4 n4 c4, .int .i64 cursor]) (results_cell_row Tryz.results9 _ _ (w.heap.size + 1) _ _ _ _ rfl hX Tryz.underlying30 rfl (by kernel_rfl)) rfl ?_
  have hle := BA.out.size
  refine ⟨⟨A1, n1, c1, A2, n2, c2, A3, n3, c3, A4, n4, c4⟩, w4.heap.size, w6.heap.size, w8.heap.size, rfl, ⟨?_, ?_, ?_, ?_, ?_, ?_, ?_, ?_, ?_, ?_, ?_⟩, BA.out.trans (hS.below hle (fun k hk e => by omega))⟩
  · exact (OA.out.touch hS (fun b h1 h2 e => by omega)).base (by omega)
  · exact (PA.out.touch hS (fun g hg e => by have := (U6.out g hg).1; omega)).base s5
  · exact (GA.out.touch hS (fun g hg e => by have := (U8.out g hg).1; omega)).base s7
  · exact (KA.out.touch hS (fun g hg e => by have := (UA.out g hg).1; omega)).base s9
  · exact fun g hg => (U6.out g hg).2
  · exact fun g hg => (U8.out g hg).2
  · exact fun g hg => Nat.lt_of_lt_of_le (UA.out g hg).2 hS.size
  · omega
  · omega
  · omega
  · exact Nat.le_trans (show w8.heap.size ≤ wA.heap.size by omega) hS.size

theorem eqBase_yes (L L' : BLay) (b : MBase) (B B' : Nat) (w : World) (hs : szB b ≤ 1048576) (hB : B ≤ w.heap.size) (hB' : B' ≤ w.heap.size) (hi : BaseIn w B L b) (hi' : BaseIn w B' L' b) :
    Calls Tryz.prog 11 #[L.v b, L'.v b] w fun e w' => e = .returned (.bool true) ∧ Below w.heap.size w w' := by
  obtain ⟨A, n, c, Ap, np, cp, Ag, ng, cg, Ab, nb, cb⟩ := L
  obtain ⟨A', n', c', Ap', np', cp', Ag', ng', cg', Ab', nb', cb'⟩ := L'
  obtain ⟨cs, head, pins, phase, grey, black, cursor⟩ := b
  obtain ⟨hC, hP, hG, hBk⟩ := hi
  obtain ⟨hC', hP', hG', hBk'⟩ := hi'
  simp only [szB] at hs hC hP hG hBk hC' hP' hG' hBk'
  obtain rfl : n' = n := hC'.1.symm.trans hC.1
  obtain rfl : np' = np := hP'.1.symm.trans hP.1
  obtain rfl : ng' = ng := hG'.1.symm.trans hG.1
  obtain rfl : nb' = nb := hBk'.1.symm.trans hBk.1
  have hl0 := hC.1
  have hl1 := hP.1
  have hl2 := hG.1
  have hl3 := hBk.1
  have hszl := szC_len cs
  unfold BLay.v
  simp only
  obtain ⟨w3, hw3⟩ : ∃ w3, ((w.alloc (.cells #[.slice A n' c, .int .i64 head, .slice Ap np' cp, .int .i64 phase, .slice Ag ng' cg, .slice Ab nb' cb, .int .i64 cursor] 30)).alloc (.cells #[.slice A' n' c', .int .i64 head, .slice Ap' np' cp', .int .i64 phase, .slice Ag' ng' cg', .slice Ab' nb' cb', .int .i64 cursor] 30)) = w3 := ⟨_, rfl⟩
  have x0 : Box w3 w.heap.size _ _ := hw3 ▸ heap2_0 _ _ _
  have x1 : Box w3 (w.heap.size + 1) _ _ := hw3 ▸ heap2_1 _ _ _
  have s3 : w3.heap.size = w.heap.size + 2 := hw3 ▸ size2 _ _ _
  have b3 : Below w.heap.size w w3 := hw3 ▸ below2 _ _ _
  have X0 := Lib.hid x0
  have X1 := Lib.hid x1
  have B3 := Lib.hid b3
  have hkeep : ∀ W, Below w3.heap.size w3 W → ∀ k, W.cell? ⟨w.heap.size, k, none⟩ = (#[.slice A n' c, .int .i64 head, .slice Ap np' cp, .int .i64 phase, .slice Ag ng' cg, .slice Ab nb' cb, .int .i64 cursor] : Array Value)[k]? := fun W h k => (X0.out.below h (by omega)).cell k
  have hkeep' : ∀ W, Below w3.heap.size w3 W → ∀ k, W.cell? ⟨w.heap.size + 1, k, none⟩ = (#[.slice A' n' c', .int .i64 head, .slice Ap' np' cp', .int .i64 phase, .slice Ag' ng' cg', .slice Ab' nb' cb', .int .i64 cursor] : Array Value)[k]? := fun W h k => (X1.out.below h (by omega)).cell k
  have CE := Lib.hid hkeep
  have CE' := Lib.hid hkeep'
  have HC := Lib.hid ((hC.more hB).below b3)
  have HP := Lib.hid ((hP.more hB).below b3)
  have HG := Lib.hid ((hG.more hB).below b3)
  have HK := Lib.hid ((hBk.more hB).below b3)
  have HC' := Lib.hid ((hC'.more hB').below b3)
  have HP' := Lib.hid ((hP'.more hB').below b3)
  have HG' := Lib.hid ((hG'.more hB').below b3)
  have HK' := Lib.hid ((hBk'.more hB').below b3)
  have q0 : w3.cell? ⟨w.heap.size, 0, none⟩ = some (.slice A n' c) := by simpa using CE.out w3 (Below.refl _ _) 0
  have r0 : w3.cell? ⟨w.heap.size + 1, 0, none⟩ = some (.slice A' n' c') := by simpa using CE'.out w3 (Below.refl _ _) 0
  clear x0 x1 b3 hkeep hkeep' hC hP hG hBk hC' hP' hG' hBk'
  go_enter Tryz.func11, Tryz.ntmps11
  have hbh : (head != head) = false := by simp
  have hbp : (phase != phase) = false := by simp
  have hbc : (cursor != cursor) = false := by simp
  go_wp2_with fail
  refine (likeC_yes A A' n' c c' cs w.heap.size w.heap.size w3 (by omega) (fun i => cel_bd cs (by omega) i) (by omega) (by omega) HC.out HC'.out).mono ?_
  rintro e w4 ⟨rfl, b4⟩
  have B4 := Lib.hid b4
  clear q0 r0 b4
  have q1 : w4.cell? ⟨w.heap.size, 1, none⟩ = some (.int .i64 head) := by simpa using CE.out w4 B4.out 1
  have r1 : w4.cell? ⟨w.heap.size + 1, 1, none⟩ = some (.int .i64 head) := by simpa using CE'.out w4 B4.out 1
  have q2 : w4.cell? ⟨w.heap.size, 2, none⟩ = some (.slice Ap np' cp) := by simpa using CE.out w4 B4.out 2
  have r2 : w4.cell? ⟨w.heap.size + 1, 2, none⟩ = some (.slice Ap' np' cp') := by simpa using CE'.out w4 B4.out 2
  have s4 : w3.heap.size ≤ w4.heap.size := B4.out.size
  go_wp2_with fail
  refine (likeI_yes Ap Ap' np' cp cp' pins w.heap.size w.heap.size w4 (by omega) (HP.out.below (B4.out.mono (by omega))) (HP'.out.below (B4.out.mono (by omega)))).mono ?_
  rintro e w5 ⟨rfl, h5⟩
  have b5 : Below w3.heap.size w3 w5 := by obtain ⟨k, rfl⟩ := h5; exact below_drewN B4.out k
  have B5 := Lib.hid b5
  clear q1 r1 q2 r2 b5 h5
  have q3 : w5.cell? ⟨w.heap.size, 3, none⟩ = some (.int .i64 phase) := by simpa using CE.out w5 B5.out 3
  have r3 : w5.cell? ⟨w.heap.size + 1, 3, none⟩ = some (.int .i64 phase) := by simpa using CE'.out w5 B5.out 3
  have q4 : w5.cell? ⟨w.heap.size, 4, none⟩ = some (.slice Ag ng' cg) := by simpa using CE.out w5 B5.out 4
  have r4 : w5.cell? ⟨w.heap.size + 1, 4, none⟩ = some (.slice Ag' ng' cg') := by simpa using CE'.out w5 B5.out 4
  have s5 : w3.heap.size ≤ w5.heap.size := B5.out.size
  go_wp2_with fail
  refine (likeI_yes Ag Ag' ng' cg cg' grey w.heap.size w.heap.size w5 (by omega) (HG.out.below (B5.out.mono (by omega))) (HG'.out.below (B5.out.mono (by omega)))).mono ?_
  rintro e w6 ⟨rfl, h6⟩
  have b6 : Below w3.heap.size w3 w6 := by obtain ⟨k, rfl⟩ := h6; exact below_drewN B5.out k
  have B6 := Lib.hid b6
  clear q3 r3 q4 r4 b6 h6
  have q5 : w6.cell? ⟨w.heap.size, 5, none⟩ = some (.slice Ab nb' cb) := by simpa using CE.out w6 B6.out 5
  have r5 : w6.cell? ⟨w.heap.size + 1, 5, none⟩ = some (.slice Ab' nb' cb') := by simpa using CE'.out w6 B6.out 5
  have s6 : w3.heap.size ≤ w6.heap.size := B6.out.size
  go_wp2_with fail
  refine (likeI_yes Ab Ab' nb' cb cb' black w.heap.size w.heap.size w6 (by omega) (HK.out.below (B6.out.mono (by omega))) (HK'.out.below (B6.out.mono (by omega)))).mono ?_
  rintro e w7 ⟨rfl, h7⟩
  have b7 : Below w3.heap.size w3 w7 := by obtain ⟨k, rfl⟩ := h7; exact below_drewN B6.out k
  have B7 := Lib.hid b7
  clear q5 r5 b7 h7
  have q6 : w7.cell? ⟨w.heap.size, 6, none⟩ = some (.int .i64 cursor) := by simpa using CE.out w7 B7.out 6
  have r6 : w7.cell? ⟨w.heap.size + 1, 6, none⟩ = some (.int .i64 cursor) := by simpa using CE'.out w7 B7.out 6
  go_wp2
  go_ret
  exact ⟨rfl, B3.out.trans (B7.out.mono (by omega))⟩

/-- the base as the marks from k0 on leave its lists. -/
def markedB (k0 : Int) (b : MBase) : MBase :=
  ⟨markC k0 b.cells, b.head, marksI (k0 + szC b.cells) b.pins.length, b.phase, marksI (k0 + szC b.cells + b.pins.length) b.grey.length, marksI (k0 + szC b.cells + b.pins.length + b.grey.length) b.black.length, b.cursor⟩
theorem markBase_any (L : BLay) (b : MBase) (lo h1 h2 h3 hi : Nat) (k0 : Int) (w : World) (hs : szB b ≤ 1000000000) (hk : 0 ≤ k0) (hk1 : k0 ≤ 1000000000) (hm : OwnBase w lo h1 h2 h3 hi L b) (hhi : hi ≤ w.heap.size) :
    Calls Tryz.prog 15 #[L.v b, .int .i64 k0] w fun e w' => e = .returned (.int .i64 (k0 + szB b)) ∧ OwnBase w' lo h1 h2 h3 hi L (markedB k0 b) ∧ Touch (fun g => lo ≤ g ∧ g < hi ∨ w.heap.size ≤ g) w w' := by
  obtain ⟨A, n, c, Ap, np, cp, Ag, ng, cg, Ab, nb, cb⟩ := L
  obtain ⟨cs, head, pins, phase, grey, black, cursor⟩ := b
  obtain ⟨hC, hP, hG, hK, up, ug, ub, o0, o1, o2, o3⟩ := hm
  simp only [szB] at hs hC hP hG hK up ug ub
  have hl0 := hC.len
  have hl1 := hP.len
  have hl2 := hG.len
  have hl3 := hK.len
  have hszl := szC_len cs
  unfold BLay.v szB markedB
  simp only
  obtain ⟨w3, hw3⟩ : ∃ w3, w.alloc (.cells #[.slice A n c, .int .i64 head, .slice Ap np cp, .int .i64 phase, .slice Ag ng cg, .slice Ab nb cb, .int .i64 cursor] 30) = w3 := ⟨_, rfl⟩
  have x0 : Box w3 w.heap.size _ _ := hw3 ▸ heap_alloc_new _ _
  have b3 : Below w.heap.size w w3 := hw3 ▸ (Below.refl _ _).alloc (Nat.le_refl _) _
  have X0 := Lib.hid x0
  have UP := Lib.hid up
  have UG := Lib.hid ug
  have UB := Lib.hid ub
  have PB := Lib.hid (fun g (hg : (Value.slice Ap np cp).ownBlock = some g) => (World.ownsRow.lt hP g hg).1)
  have GB := Lib.hid (fun g (hg : (Value.slice Ag ng cg).ownBlock = some g) => (World.ownsRow.lt hG g hg).1)
  have KB := Lib.hid (fun g (hg : (Value.slice Ab nb cb).ownBlock = some g) => (World.ownsRow.lt hK g hg).1)
  have HC := Lib.hid (hC.below (b3.mono (by omega)))
  have HP := Lib.hid (hP.below b3)
  have HG := Lib.hid (hG.below b3)
  have HK := Lib.hid (hK.below b3)
  have s3 : w.heap.size < w3.heap.size := x0.lt
  have q0 := x0.cell 0
  simp at q0
  have T3 := Lib.hid (Touch.of_below (S := fun g => lo ≤ g ∧ g < hi ∨ w.heap.size ≤ g) b3)
  clear x0 b3 hC hP hG hK up ug ub
  go_enter Tryz.func15, Tryz.ntmps15
  go_wp2_with fail
  refine (markC_any A n c lo h1 cs k0 w3 hk (by omega) HC.out).mono ?_
  rintro e w4 ⟨rfl, m4, t4⟩
  have x1 : Box w4 w.heap.size _ _ := (t4.block _ s3 (fun e => by omega)).trans X0.out
  have X1 := Lib.hid x1
  have HC := Lib.hid m4
  have HP := Lib.hid (HP.out.touch t4 (fun g hg e => by have := PB.out g hg; omega))
  have HG := Lib.hid (HG.out.touch t4 (fun g hg e => by have := GB.out g hg; omega))
  have HK := Lib.hid (HK.out.touch t4 (fun g hg e => by have := KB.out g hg; omega))
  have T4 := Lib.hid (T3.out.trans (t4.mono (fun g h => .inl ⟨h.1, by omega⟩)))
  have s4 : w3.heap.size ≤ w4.heap.size := t4.size
  have q2 := X1.out.cell 2
  simp at q2
  clear m4 t4 q0
  go_wp2_with fail
  refine (markI_any Ap np cp h1 pins (k0 + szC cs) w4 (by omega) (by omega) HP.out).mono ?_
  rintro e w5 ⟨rfl, m5, g5⟩
  have t5 := Touch.of_grown g5
  have x2 : Box w5 w.heap.size _ _ := (t5.block _ (by omega) (fun e => by have := UP.out _ e.symm; omega)).trans X1.out
  have X2 := Lib.hid x2
  have HP := Lib.hid m5
  have HC := Lib.hid (HC.out.touch t5 (fun b h1 h2 e => by have := PB.out b e.symm; omega))
  have HG := Lib.hid (HG.out.touch t5 (fun g hg e => by have := GB.out g hg; have := UP.out g e.symm; omega))
  have HK := Lib.hid (HK.out.touch t5 (fun g hg e => by have := KB.out g hg; have := UP.out g e.symm; omega))
  have T5 := Lib.hid (T4.out.trans (t5.mono (fun g h => .inl ⟨by have := PB.out g h.symm; omega, by have := UP.out g h.symm; omega⟩)))
  have s5 : w4.heap.size ≤ w5.heap.size := t5.size
  have q4 := X2.out.cell 4
  simp at q4
  clear m5 g5 t5 q2
  go_wp2_with fail
  refine (markI_any Ag ng cg h2 grey (k0 + szC cs + np) w5 (by omega) (by omega) HG.out).mono ?_
  rintro e w6 ⟨rfl, m6, g6⟩
  have t6 := Touch.of_grown g6
  have x3 : Box w6 w.heap.size _ _ := (t6.block _ (by omega) (fun e => by have := UG.out _ e.symm; omega)).trans X2.out
  have X3 := Lib.hid x3
  have HG := Lib.hid m6
  have HC := Lib.hid (HC.out.touch t6 (fun b h1 h2 e => by have := GB.out b e.symm; omega))
  have HP := Lib.hid (HP.out.touch t6 (fun g hg e => by have := UP.out g hg; have := GB.out g e.symm; omega))
  have HK := Lib.hid (HK.out.touch t6 (fun g hg e => by have := KB.out g hg; have := UG.out g e.symm; omega))
  have T6 := Lib.hid (T5.out.trans (t6.mono (fun g h => .inl ⟨by have := GB.out g h.symm; omega, by have := UG.out g h.symm; omega⟩)))
  have s6 : w5.heap.size ≤ w6.heap.size := t6.size
  have q5 := X3.out.cell 5
  simp at q5
  clear m6 g6 t6 q4
  go_wp2_with fail
  refine (markI_any Ab nb cb h3 black (k0 + szC cs + np + ng) w6 (by omega) (by omega) HK.out).mono ?_
  rintro e w7 ⟨rfl, m7, g7⟩
  have t7 := Touch.of_grown g7
  have HK := Lib.hid m7
  have HC := Lib.hid (HC.out.touch t7 (fun b h1 h2 e => by have := KB.out b e.symm; omega))
  have HP := Lib.hid (HP.out.touch t7 (fun g hg e => by have := UP.out g hg; have := KB.out g e.symm; omega))
  have HG := Lib.hid (HG.out.touch t7 (fun g hg e => by have := UG.out g hg; have := KB.out g e.symm; omega))
  have T7 := Lib.hid (T6.out.trans (t7.mono (fun g h => .inl ⟨by have := KB.out g h.symm; omega, by have := UB.out g h.symm; omega⟩)))
  clear m7 g7 t7 q5
  go_wp2
  go_ret
  refine ⟨ret_i64 (by push_cast; omega), ⟨HC.out, ?_, ?_, ?_, UP.out, UG.out, UB.out, o0, o1, o2, o3⟩, T7.out⟩
  · rw [hl1]; exact HP.out
  · rw [hl1, hl2]; exact HG.out
  · rw [hl1, hl2, hl3]; exact HK.out
end Go.Proofs.YtigdcmfmaehjfaaGreat

-- ReachO: The model's ReachOf.
namespace Go.Proofs.YtigdcmfmaehjfaaGreat
set_option maxRecDepth 20000
set_option linter.unusedVariables false
set_option linter.unusedSimpArgs false
open Go.RowKit

end Go.Proofs.YtigdcmfmaehjfaaGreat

-- BaseS: The model's base: its helpers.
namespace Go.Proofs.YtigdcmfmaehjfaaGreat
set_option maxRecDepth 20000
set_option linter.unusedVariables false
set_option linter.unusedSimpArgs false
open Go.RowKit

theorem rise_of_next (l : List Int) (h : ∀ j, 0 < j → j < l.length → l[j - 1]?.getD 0 < l[j]?.getD 0) : RiseI l := by
  refine List.pairwise_iff_getElem.2 ?_
  intro i j hi hj hij
  have key : ∀ d, i + 1 + d < l.length → l[i]?.getD 0 < l[i + 1 + d]?.getD 0 := by
    intro d
    induction d with
    | zero => intro hd; exact h (i + 1) (by omega) hd
    | succ d ih =>
      intro hd
      have h1 := ih (by omega)
      have h2 := h (i + 1 + (d + 1)) (by omega) hd
      rw [show i + 1 + (d + 1) - 1 = i + 1 + d by omega] at h2
      omega
  have h1 := key (j - i - 1) (by omega)
  rw [show i + 1 + (j - i - 1) = j by omega, List.getElem?_eq_getElem hi, List.getElem?_eq_getElem hj] at h1
  exact h1

theorem l13Rising_any (A : Option Addr) (n c : Nat) (xs : List Int) (B : Nat) (w : World) (hn : n ≤ 1048576) (hB : B ≤ w.heap.size) (hb : Ints w B A n xs) :
    Calls Tryz.prog 35 #[.slice A n c] w fun e w' => ∃ r, e = .returned (.bool r) ∧ (r = true ↔ RiseI xs) ∧ Below w.heap.size w w' := by
  have HB := Lib.hid (hb.more hB)
  have hlen := hb.1
  clear hb
  go_enter Tryz.func35, Tryz.ntmps35
  go_wp2
  go_loopw [3] (fun i wr => ∃ k : Nat, 1 ≤ k ∧ (k ≤ n ∨ k = 1) ∧ i = .int .i64 k ∧ (∀ j, 0 < j → j < k → xs[j - 1]?.getD 0 < xs[j]?.getD 0) ∧ Below w.heap.size w wr) (fun i _ => n - (intOf i).toNat)
  case atStart => exact ⟨1, by omega, by omega, rfl, fun j h1 h2 => by omega, Below.refl _ _⟩
  case round =>
    obtain ⟨k, hk1, hk, rfl, hr, hbel⟩ := hrel
    have BR := Lib.hid hbel
    have HK := Lib.hid (HB.out.below hbel)
    clear hbel
    by_cases hlt : k < n
    · obtain ⟨b, off, rfl, hbB, h0⟩ := HK.out.at_ hlt
      obtain ⟨b', off', e1, _, h1⟩ := HK.out.at_ (k := k - 1) (by omega)
      cases e1
      obtain ⟨x, hx⟩ : ∃ x, xs[k]?.getD 0 = x := ⟨_, rfl⟩
      obtain ⟨y, hy⟩ : ∃ y, xs[k - 1]?.getD 0 = y := ⟨_, rfl⟩
      rw [hx] at h0
      rw [hy] at h1
      have hwk : IntKind.i64.wrap ((k : Int) - 1) = (k : Int) - 1 := by rw [IntKind.wrap_i64]; omega
      by_cases hle : x ≤ y
      · have hd : decide (x ≤ y) = true := decide_eq_true hle
        go_wp2
        go_quiet (fail)
        go_wp2
        go_ret
        exact ⟨false, rfl, iff_of_false (by simp) (fun h => by have := riseI_at xs h (k - 1) k (by omega) (by omega); omega), below_drewN BR.out _⟩
      · have hd : decide (x ≤ y) = false := decide_eq_false hle
        go_wp2
        go_quiet (fail)
        go_wp2
        go_roundw
        case rel =>
          refine ⟨k + 1, by omega, by omega, by go_num, fun j h1 h2 => ?_, below_drewN BR.out _⟩
          rcases Nat.lt_or_ge j k with h | h
          · exact hr j h1 h
          · rw [show j = k by omega, hx, hy]; omega
        case measure => simp [intOf]; omega
    · go_wp2
      go_ret
      exact ⟨true, rfl, iff_of_true rfl (rise_of_next xs fun j h1 h2 => hr j h1 (by omega)), BR.out⟩

/-- the box of a base that is a parameter. -/
def baseBox (L : BLay) (b : MBase) : Array Value := #[.slice L.A L.n L.c, .int .i64 b.head, .slice L.Ap L.np L.cp, .int .i64 b.phase, .slice L.Ag L.ng L.cg, .slice L.Ab L.nb L.cb, .int .i64 b.cursor]

theorem l13Kept_any (L : BLay) (b : MBase) (B : Nat) (w : World) (hn : L.np ≤ 1000000) (hB : B ≤ w.heap.size) (hz : L.Ap = none → L.cp = 0) (hR : RiseI b.pins) (hb : Ints w B L.Ap L.np b.pins) :
    Calls Tryz.prog 37 #[L.v b] w fun e w' => ∃ g n c, e = .returned (.slice (some ⟨g, 0, none⟩) n c) ∧ OwnI w' w.heap.size (some ⟨g, 0, none⟩) n c (keptOf b) ∧ Below w.heap.size w w' := by
  obtain ⟨A, n, c, Ap, np, cp, Ag, ng, cg, Ab, nb, cb⟩ := L
  obtain ⟨cs, head, pins, phase, grey, black, cursor⟩ := b
  simp only at hn hz hR hb
  unfold BLay.v
  simp only
  obtain ⟨w1, hw1⟩ : ∃ w1, w.alloc (.cells #[.slice A n c, .int .i64 head, .slice Ap np cp, .int .i64 phase, .slice Ag ng cg, .slice Ab nb cb, .int .i64 cursor] 30) = w1 := ⟨_, rfl⟩
  have x1 : Box w1 w.heap.size _ _ := hw1 ▸ heap_alloc_new _ _
  have b1 : Below w.heap.size w w1 := hw1 ▸ (Below.refl _ _).alloc (Nat.le_refl _) _
  have X1 := Lib.hid x1
  have B1 := Lib.hid b1
  have HB := Lib.hid ((hb.more hB).below b1)
  have q1 := x1.cell 1
  have q2 := x1.cell 2
  simp at q1 q2
  have s1 : w.heap.size ≤ w1.heap.size := b1.size
  have hlen := hb.1
  have RI := Lib.hid hR
  clear x1 b1 hb hR
  go_enter Tryz.func37, Tryz.ntmps37
  go_wp2_with fail
  refine (l1Copy_any Ap np cp pins w.heap.size w1 (by omega) s1 hz HB.out).mono ?_
  rintro e w2 ⟨g2, c2, rfl, o2, b2⟩
  have B2 := Lib.hid (B1.out.trans (b2.mono s1))
  have X2 := X1.out.below b2 X1.out.lt
  have q1 := X2.cell 1
  simp at q1
  have s2 : w1.heap.size ≤ w2.heap.size := b2.size
  have O2 := Lib.hid o2
  have hcap := o2.cap
  clear X2 b2 o2 q2
  by_cases h0 : head = 0
  · have hb0 : (head != 0) = false := by simp [h0]
    have hk : keptOf ⟨cs, head, pins, phase, grey, black, cursor⟩ = pins := if_pos (.inl h0)
    have HK := Lib.hid hk
    clear h0 hk
    go_wp2
    go_ret
    exact ⟨_, _, _, rfl, by rw [HK.out]; exact O2.out.base s1, B2.out⟩
  · have hb0 : (head != 0) = true := by simpa using h0
    have H0 := Lib.hid h0
    clear h0
    go_wp2_with fail
    refine (l4Into_any g2 np c2 pins head w2.heap.size w2 (by omega) hcap (Nat.le_refl _) O2.out.ints RI.out).mono ?_
    rintro e w3 ⟨b3, h3⟩
    have B3 := Lib.hid (B2.out.trans (b3.mono (by omega)))
    have O3 := Lib.hid (O2.out.below b3)
    clear b3
    rcases h3 with ⟨hin, rfl⟩ | ⟨hin, g3, c3, rfl, o3⟩
    · have hk : keptOf ⟨cs, head, pins, phase, grey, black, cursor⟩ = pins := if_pos (.inr hin)
      have HK := Lib.hid hk
      clear hin hk
      go_wp2
      go_ret
      exact ⟨_, _, _, rfl, by rw [HK.out]; exact O3.out.base s1, B3.out⟩
    · have hk : keptOf ⟨cs, head, pins, phase, grey, black, cursor⟩ = insI pins head := if_neg (fun h => by rcases h with h | h; exact H0.out h; exact hin h)
      have HK := Lib.hid hk
      have O4 := Lib.hid o3
      clear hin hk o3
      go_wp2
      go_ret
      exact ⟨_, _, _, rfl, by rw [HK.out]; exact O4.out.base (by omega), B3.out⟩

theorem l13Names_any (A : Option Addr) (n c : Nat) (cs : List (Int × List Int)) (Al : Option Addr) (nl cl : Nat) (l : List Int) (B : Nat) (w : World) (hn : n ≤ 1048576) (hnl : nl ≤ 1048576) (hcl : nl ≤ cl) (hB : B ≤ w.heap.size) (hb : Cells w B A n cs) (hl : Ints w B Al nl l) :
    Calls Tryz.prog 69 #[.slice A n c, .slice Al nl cl] w fun e w' => ∃ r, e = .returned (.bool r) ∧ (r = true ↔ Named cs l ∧ l.Nodup) ∧ Below w.heap.size w w' := by
  have HB := Lib.hid (hb.more hB)
  have HL := Lib.hid (hl.more hB)
  have hlen := hb.1
  have hll := hl.1
  clear hb hl
  go_enter Tryz.func69, Tryz.ntmps69
  go_wp2
  go_loopw [5] (fun i wr => ∃ k : Nat, k ≤ nl ∧ i = .int .i64 k ∧ Named cs (l.take k) ∧ (l.take k).Nodup ∧ Below w.heap.size w wr) (fun i _ => nl - (intOf i).toNat)
  case atStart => exact ⟨0, Nat.zero_le _, rfl, by simp [Named], by simp, Below.refl _ _⟩
  case round =>
    obtain ⟨k, hk, rfl, hN, hD, hbel⟩ := hrel
    have NN := Lib.hid hN
    have DD := Lib.hid hD
    have BR := Lib.hid hbel
    clear hN hD hbel
    by_cases hlt : k < nl
    · obtain ⟨b, off, rfl, hbB, h0⟩ := (HL.out.below BR.out).at_ hlt
      have hmem := Lib.hid (getD_mem l k (by omega))
      have htk := List.take_succ_eq_append_getElem (l := l) (i := k) (by omega)
      have hgx : l[k]?.getD 0 = l[k]'(by omega) := by rw [List.getElem?_eq_getElem (by omega)]; rfl
      have hnd := nodup_at l k (by omega)
      have hnt := named_take l k (by omega) DD.out
      rw [← hgx] at htk
      obtain ⟨x, hx⟩ : ∃ x, l[k]?.getD 0 = x := ⟨_, rfl⟩
      rw [hx] at h0 hmem htk hnd hnt
      have TK := Lib.hid htk
      have ND := Lib.hid hnd
      have NT := Lib.hid hnt
      have TI := Lib.hid (Ints.takes (HL.out.below BR.out) k hk)
      clear htk hnd hnt hgx hx
      have hFD : ∀ q, Calls Tryz.prog 94 #[.slice A n c, .int .i64 x] (wr.drewN q) fun e w' => e = .returned (.int .i64 (if findC cs x < n then (findC cs x : Int) else -1)) ∧ w' = wr.drewN q :=
        fun q => (l4Find_any A n c cs x w.heap.size (wr.drewN q) hn ((HB.out.below BR.out).drewN q)).mono fun e w' h => ⟨h.1, h.2.symm⟩
      have hIN : ∀ q, Calls Tryz.prog 66 #[.slice (some ⟨b, off, none⟩) k cl, .int .i64 x] (wr.drewN q) fun e w' => e = .returned (.bool (decide (x ∈ l.take k))) ∧ w' = wr.drewN q :=
        fun q => (l4In_any _ k cl (l.take k) x w.heap.size (wr.drewN q) (by omega) (TI.out.drewN q)).mono fun e w' h => ⟨h.1, h.2.symm⟩
      have FD := Lib.hid hFD
      have IN := Lib.hid hIN
      clear hFD hIN
      by_cases hf : findC cs x < n
      · rw [if_pos hf] at FD
        have hd : decide ((findC cs x : Int) < 0) = false := decide_eq_false (by omega)
        have HF := Lib.hid hf
        by_cases hin : x ∈ l.take k
        · rw [decide_eq_true hin] at IN
          have HIN := Lib.hid hin
          clear hin
          go_wp2
          go_quiet (first | (go_at_call 94; exact Calls.quiet_of_same (FD.out _)) | (go_at_call 66; exact Calls.quiet_of_same (IN.out _)))
          go_wp2
          go_ret
          exact ⟨false, rfl, iff_of_false (by simp) (fun h => ND.out h.2 HIN.out), below_drewN BR.out _⟩
        · rw [decide_eq_false hin] at IN
          have HIN := Lib.hid hin
          clear hin
          go_wp2
          go_quiet (first | (go_at_call 94; exact Calls.quiet_of_same (FD.out _)) | (go_at_call 66; exact Calls.quiet_of_same (IN.out _)))
          go_wp2
          go_roundw
          case rel =>
            refine ⟨k + 1, by omega, by go_num, ?_, NT.out HIN.out, below_drewN BR.out _⟩
            rw [TK.out]
            intro y hy
            rcases List.mem_append.1 hy with h | h
            · exact NN.out y h
            · simp at h; subst h; have := HF.out; omega
          case measure => simp [intOf]; omega
      · rw [if_neg hf] at FD
        have HF := Lib.hid hf
        go_wp2
        go_quiet (first | (go_at_call 94; exact Calls.quiet_of_same (FD.out _)) | (go_at_call 66; exact Calls.quiet_of_same (IN.out _)))
        go_wp2
        go_ret
        exact ⟨false, rfl, iff_of_false (by simp) (fun h => HF.out (by have := h.1 x hmem.out; omega)), below_drewN BR.out _⟩
    · obtain rfl : k = nl := by omega
      have h1 := NN.out
      have h2 := DD.out
      rw [List.take_of_length_le (by omega)] at h1 h2
      have H := Lib.hid (And.intro h1 h2)
      clear h1 h2
      go_wp2
      go_ret
      exact ⟨true, rfl, iff_of_true rfl H.out, BR.out⟩
end Go.Proofs.YtigdcmfmaehjfaaGreat

-- StepA: A step law: an append of a whole slice in a drawn region; no statement of the program is proved here.
namespace Go.Proofs.YtigdcmfmaehjfaaGreat
set_option maxRecDepth 20000
open Go.RowKit

section
variable {P : Program}
/-- at a step of a region that draws: 'append(s, x...)' onto a row of the call's own; x may be empty. -/
theorem step_append_row {ops : Array Oper} {o : Oper} {a : Act} {w : World} {K : Act → World → Prop} {Q : Exit → Act → World → Prop} {E : Prop} (hgd : o.guard = none) (s x : Operand) (t : TypeId)
    (ho : o.op = .call { callee := .builtin .append, args := #[s, x], argTypes := #[t, t] })
    (base : Nat) (e : TypeId) (i : TypeInfo) (z : Value) (size bytes : Nat) (ht : P.underlying t = some (.slice e)) (hi : P.info? e = some i) (hz : i.zero = some z)
    (hsize : i.size = size) (hby : i.bytes = bytes) (hzs : z.cells.size = size) (hsz : 0 < size)
    (v : Value) (n : Nat) (xs : List Value) (hs : a.eval s = v) (hown : w.ownsRow base e size v n xs)
    (ad : Addr) (m c : Nat) (news : List Value) (hx : a.eval x = .slice (some ad) m c) (hl : news.length = m * size) (hnews : ∀ j u, news[j]? = some u → w.cell? (ad.add j) = some u) (h1 : ∀ u ∈ news, u.oneCell' = true)
    (h63 : n + m ≤ maxLen) (hbytes : (n + m) * bytes ≤ 140737488355328) (hbase : base ≤ w.heap.size)
    (h : ∀ v' w', w'.ownsRow base e size v' (n + m) (xs ++ news) → w.grownBy w' v.ownBlock → (v' = .slice none 0 0 ↔ v = .slice none 0 0 ∧ m = 0) → K (a.put o.dst v') w') :
    if Region.wanted o (yielded ops a.tmps) = true then Oper.wp P o a w K Q else E := by
  have hw : Region.wanted o (yielded ops a.tmps) = true := by simp [Region.wanted, hgd]
  rw [if_pos hw]
  obtain ⟨v', w', hr, h2, h3, h4, _⟩ := run_append_own_at (P := P) w base t o.type e i z size bytes ht hi hz hsize hby hzs hsz v n xs hown ad m c news hl hnews h1 h63 hbytes hbase
  unfold Oper.wp execOp
  simp only [ho, resolve, invoke, builtin, Sem.run_bind, Sem.run_pure, Result.andThen_ok, List.map_toArray, List.map_cons, List.map_nil, hs, hx, hr]
  exact h v' w' h2 h3 h4
end
end Go.Proofs.YtigdcmfmaehjfaaGreat

-- BaseK: The model's base: right while it marks.
namespace Go.Proofs.YtigdcmfmaehjfaaGreat
set_option maxRecDepth 20000
set_option linter.unusedVariables false
set_option linter.unusedSimpArgs false
open Go.RowKit

/-- what must be grey or black, as far as the k-th black one. -/
def NeedIs (b : MBase) (k : Nat) (l : List Int) : Prop := ∀ x, x ∈ l ↔ x ∈ keptOf b ∨ ∃ y, y ∈ b.black.take k ∧ KidOf b.cells y x
theorem kidOf_iff {cs : List (Int × List Int)} {x : Int} {nd : MNode} (h : HitIs cs x nd true) (z : Int) : KidOf cs x z ↔ z ∈ nd.kids.map (·.2) := by
  constructor
  · rintro ⟨nd', a, h', hk⟩
    obtain ⟨rfl, _⟩ := h.one h'
    exact List.mem_map.2 ⟨(a, z), hk, rfl⟩
  · intro hz
    obtain ⟨⟨a, y⟩, hy, rfl⟩ := List.mem_map.1 hz
    exact ⟨nd, a, h, hy⟩
theorem NeedIs.step {b : MBase} {k : Nat} {l : List Int} {nd : MNode} (h : NeedIs b k l) (hk : k < b.black.length) (hit : HitIs b.cells (b.black[k]?.getD 0) nd true) : NeedIs b (k + 1) (l ++ nd.kids.map (·.2)) := by
  intro x
  have ht : b.black.take (k + 1) = b.black.take k ++ [b.black[k]?.getD 0] := by
    rw [List.take_succ_eq_append_getElem hk, List.getElem?_eq_getElem hk]; rfl
  rw [List.mem_append, h x, ht]
  constructor
  · rintro ((h1 | ⟨y, h1, h2⟩) | h1)
    · exact .inl h1
    · exact .inr ⟨y, List.mem_append_left _ h1, h2⟩
    · exact .inr ⟨_, List.mem_append_right _ (by simp), (kidOf_iff hit x).2 h1⟩
  · rintro (h1 | ⟨y, h1, h2⟩)
    · exact .inl (.inl h1)
    · rcases List.mem_append.1 h1 with h3 | h3
      · exact .inl (.inr ⟨y, h3, h2⟩)
      · simp only [List.mem_singleton] at h3
        subst h3
        exact .inr ((kidOf_iff hit x).1 h2)
set_option maxHeartbeats 1600000 in
theorem l13Mark_any (L : BLay) (b : MBase) (B : Nat) (w : World) (fit : BaseFit L b) (hB : B ≤ w.heap.size) (hb : BaseIn w B L b) (hR : Right b.cells) (hP : RiseI b.pins) (hF : b.pins.length ≤ 6) :
    Calls Tryz.prog 38 #[L.v b] w fun e w' => ∃ r, e = .returned (.bool r) ∧ (r = true ↔ MarkOk b) ∧ Below w.heap.size w w' := by
  obtain ⟨A, n, c, Ap, np, cp, Ag, ng, cg, Ab, nb, cb⟩ := L
  obtain ⟨hC, hPi, hG, hBl⟩ := hb
  have hCs : Cells w B A n b.cells := hC
  have hPs : Ints w B Ap np b.pins := hPi
  have hGs : Ints w B Ag ng b.grey := hG
  have hBs : Ints w B Ab nb b.black := hBl
  obtain ⟨hsum, hcell, hc_, hcp_, hcg_, hcb, hz_, hzp, hzg, hzb⟩ := fit
  have hsum : n + np + ng + nb ≤ 1048576 := hsum
  have hcb : nb ≤ cb := hcb
  have hzp : Ap = none → cp = 0 := hzp
  have hzg : Ag = none → cg = 0 := hzg
  have hzb : Ab = none → cb = 0 := hzb
  have CELL := Lib.hid hcell
  have ZP := Lib.hid hzp
  have ZG := Lib.hid hzg
  have ZB := Lib.hid hzb
  have HC0 := Lib.hid (hCs.more hB)
  have HP0 := Lib.hid (hPs.more hB)
  have HG0 := Lib.hid (hGs.more hB)
  have HL0 := Lib.hid (hBs.more hB)
  have hlen : b.cells.length = n := hC.1
  have hlp : b.pins.length = np := hPs.1
  have hlg : b.grey.length = ng := hGs.1
  have hlb : b.black.length = nb := hBs.1
  have RT := Lib.hid hR
  have RP := Lib.hid hP
  clear hC hPi hG hBl hCs hPs hGs hBs hR hP hcell hc_ hcp_ hcg_ hz_ hzp hzg hzb
  obtain ⟨w1, hw1⟩ : ∃ w1, w.alloc (.cells #[.slice A n c, .int .i64 b.head, .slice Ap np cp, .int .i64 b.phase, .slice Ag ng cg, .slice Ab nb cb, .int .i64 b.cursor] 30) = w1 := ⟨_, rfl⟩
  have x1 : Box w1 w.heap.size _ _ := hw1 ▸ heap_alloc_new _ _
  have b1 : Below w.heap.size w w1 := hw1 ▸ (Below.refl _ _).alloc (Nat.le_refl _) _
  have X1 := Lib.hid x1
  have B1 := Lib.hid b1
  have HBC := Lib.hid (HC0.out.below b1)
  have HBP := Lib.hid (HP0.out.below b1)
  have HBG := Lib.hid (HG0.out.below b1)
  have HBL := Lib.hid (HL0.out.below b1)
  have s1 : w.heap.size ≤ w1.heap.size := b1.size
  have hff : ∀ W, Below w.heap.size w W → ¬ MarkOk b → ∃ r, (Ending.returned (.bool false) : Ending) = .returned (.bool r) ∧ (r = true ↔ MarkOk b) ∧ Below w.heap.size w W := fun W hW h => ⟨false, rfl, iff_of_false (by simp) h, hW⟩
  have FF := Lib.hid hff
  have hxl : w.heap.size < w1.heap.size := x1.lt
  have hcell : ∀ W, Below w1.heap.size w1 W → ∀ k, W.cell? ⟨w.heap.size, k, none⟩ = (#[.slice A n c, .int .i64 b.head, .slice Ap np cp, .int .i64 b.phase, .slice Ag ng cg, .slice Ab nb cb, .int .i64 b.cursor] : Array Value)[k]? := fun W hW k => (X1.out.below hW hxl).cell k
  have CE := Lib.hid hcell
  clear x1 b1 HC0 HP0 HG0 HL0 hff hcell
  have hc4 : ∀ W, Below w1.heap.size w1 W → W.cell? ⟨w.heap.size, 4, none⟩ = some (.slice Ag ng cg) := fun W h => by simpa using CE.out W h 4
  have hc5 : ∀ W, Below w1.heap.size w1 W → W.cell? ⟨w.heap.size, 5, none⟩ = some (.slice Ab nb cb) := fun W h => by simpa using CE.out W h 5
  obtain ⟨i0, hi, hz0, hz1, hz2⟩ := info_parts Tryz.infoI
  have HI := Lib.hid hi
  have HZ0 := Lib.hid hz0
  have HZ1 := Lib.hid hz1
  have HZ2 := Lib.hid hz2
  clear hi hz0 hz1 hz2
  have q4 := hc4 w1 (Below.refl _ _)
  have q5 := hc5 w1 (Below.refl _ _)
  unfold BLay.v
  go_enter Tryz.func38, Tryz.ntmps38
  go_wp2
  go_cut [3] (fun s wx => ∃ g1 c1, s = .slice (some ⟨g1, 0, none⟩) (ng + nb) c1 ∧ OwnI wx w1.heap.size (some ⟨g1, 0, none⟩) (ng + nb) c1 (b.grey ++ b.black) ∧ Below w1.heap.size w1 wx)
  case first =>
    have hg0 := ZG.out
    have hbI := HBL.out
    have HG := Lib.hid (HBG.out)
    cases Ab with
    | none =>
      obtain rfl : cb = 0 := ZB.out rfl
      obtain rfl : nb = 0 := by omega
      have hbe : b.black = [] := List.eq_nil_of_length_eq_zero (by omega)
      have HE := Lib.hid hbe
      clear hbe hbI
      go_region_law (first
        | (go_simp
           go_at_call 65
           refine (l1Copy_any Ag ng cg b.grey w.heap.size w1.drew (by omega) s1 hg0 (HG.out.below ((Below.refl _ _).drew))).mono ?_
           rintro e w5 ⟨g1, c1, rfl, o1, b5⟩
           have b5 : Below w1.heap.size w1 w5 := (Below.refl _ _).drew.trans b5
           have B5 := Lib.hid b5
           have O5 := Lib.hid (show OwnI w5 w1.heap.size (some ⟨g1, 0, none⟩) ng c1 b.grey from o1)
           have q5 := hc5 w5 b5
           have hc1 := o1.cap_
           clear o1 b5))
      all_goals
        go_wp2
        go_meet
        case rel => exact ⟨g1, c1, rfl, (show OwnI _ w1.heap.size (some ⟨g1, 0, none⟩) (ng + 0) c1 (b.grey ++ b.black) from by rw [HE.out, List.append_nil]; exact O5.out), B5.out⟩
    | some ad =>
      have hrow : ∀ W, Below w1.heap.size w1 W → ∀ j u, (b.black.map (Value.int .i64))[j]? = some u → W.cell? (ad.add j) = some u := by
        intro W hW j u hj
        have h0 : 0 < nb := by
          rcases Nat.eq_zero_or_pos nb with h | h
          · rw [List.getElem?_eq_none (by simp; omega)] at hj; cases hj
          · exact h
        obtain ⟨b', off, e, hbB, hrow⟩ := (hbI.below (hW.mono s1)).row h0
        cases e
        exact hrow j u hj
      have HROW := Lib.hid hrow
      clear hrow
      go_region_law (first
        | (refine step_append_row rfl _ _ 23 rfl w1.heap.size 2 i0 (.int .i64 0) 1 8 Tryz.underlying23 HI.out HZ0.out HZ1.out HZ2.out rfl (by decide) (.slice (some ⟨g1, 0, none⟩) ng c1) ng (b.grey.map (Value.int .i64)) (by simp [Act.eval]) O5.out ad nb cb (b.black.map (Value.int .i64)) (by simp [Act.eval]) (by rw [List.length_map, Nat.mul_one]; exact hlb) (HROW.out w5 B5.out) (by intro u hu; obtain ⟨z, _, rfl⟩ := List.mem_map.1 hu; rfl) (by unfold maxLen; omega) (by omega) B5.out.size ?_
           intro v6 w6 hown6 hgrow6 hnil6
           obtain ⟨g6, c6, rfl⟩ : ∃ g c, v6 = .slice (some ⟨g, 0, none⟩) (ng + nb) c := by
             rcases hown6.2 with ⟨e, _⟩ | ⟨g, cap, cur, e, _⟩
             · exact absurd (hnil6.1 e).1 (by simp)
             · exact ⟨g, cap, e⟩
           have hg1 := (World.ownsRow.lt O5.out g1 (by simp [Value.ownBlock])).1
           have b6 : Below w1.heap.size w1 w6 := B5.out.grown hgrow6 B5.out.size (fun b hb => by simp [Value.ownBlock] at hb; omega)
           have B6 := Lib.hid b6
           have O6 := Lib.hid (show OwnI w6 w1.heap.size (some ⟨g6, 0, none⟩) (ng + nb) c6 (b.grey ++ b.black) from by unfold OwnI; rw [List.map_append]; exact hown6)
           clear hown6 hgrow6 hnil6 b6)
        | (go_simp
           go_at_call 65
           refine (l1Copy_any Ag ng cg b.grey w.heap.size w1.drew (by omega) s1 hg0 (HG.out.below ((Below.refl _ _).drew))).mono ?_
           rintro e w5 ⟨g1, c1, rfl, o1, b5⟩
           have b5 : Below w1.heap.size w1 w5 := (Below.refl _ _).drew.trans b5
           have B5 := Lib.hid b5
           have O5 := Lib.hid (show OwnI w5 w1.heap.size (some ⟨g1, 0, none⟩) ng c1 b.grey from o1)
           have q5 := hc5 w5 b5
           have hc1 := o1.cap_
           clear o1 b5))
      all_goals
        go_wp2
        go_meet
        case rel => exact ⟨g6, c6, rfl, O6.out, B6.out⟩
  case rest =>
    obtain ⟨g1, c1, rfl, o2, b2⟩ := hcut
    have hl2 := o2.len
    have hcap2 := o2.cap_
    have O2 := Lib.hid o2
    have B2 := Lib.hid b2
    have s2 : w1.heap.size ≤ wc.heap.size := b2.size
    have HB2 := Lib.hid (HBC.out.below (b2.mono s1))
    clear o2 hc4 hc5 q4 q5
    have q0 : wc.cell? ⟨w.heap.size, 0, none⟩ = some (.slice A n c) := by simpa using CE.out wc b2 0
    have q6 : wc.cell? ⟨w.heap.size, 6, none⟩ = some (.int .i64 b.cursor) := by simpa using CE.out wc b2 6
    clear b2
    go_wp2_with fail
    refine (l13Names_any A n c b.cells _ _ _ (b.grey ++ b.black) wc.heap.size wc (by omega) (by omega) hcap2 (Nat.le_refl _) (HB2.out.more (by omega)) O2.out.ints).mono ?_
    rintro e w3 ⟨r, rfl, hr, b3⟩
    have HR := Lib.hid hr
    have B3 := Lib.hid (B2.out.trans (b3.mono s2))
    have O3 := Lib.hid (O2.out.below b3)
    have s3 : wc.heap.size ≤ w3.heap.size := b3.size
    have HB3 := Lib.hid (HBC.out.below (B3.out.mono s1))
    have HG3 := Lib.hid (HBG.out.below (B3.out.mono s1))
    clear hr b3 q0 q6 O2 HB2
    have q0 : w3.cell? ⟨w.heap.size, 0, none⟩ = some (.slice A n c) := by simpa using CE.out w3 B3.out 0
    have q1 : w3.cell? ⟨w.heap.size, 1, none⟩ = some (.int .i64 b.head) := by simpa using CE.out w3 B3.out 1
    have q2 : w3.cell? ⟨w.heap.size, 2, none⟩ = some (.slice Ap np cp) := by simpa using CE.out w3 B3.out 2
    have q3 : w3.cell? ⟨w.heap.size, 3, none⟩ = some (.int .i64 b.phase) := by simpa using CE.out w3 B3.out 3
    have q4 : w3.cell? ⟨w.heap.size, 4, none⟩ = some (.slice Ag ng cg) := by simpa using CE.out w3 B3.out 4
    have q5 : w3.cell? ⟨w.heap.size, 5, none⟩ = some (.slice Ab nb cb) := by simpa using CE.out w3 B3.out 5
    have q6 : w3.cell? ⟨w.heap.size, 6, none⟩ = some (.int .i64 b.cursor) := by simpa using CE.out w3 B3.out 6
    have FW := Lib.hid (fun W (h : Below w1.heap.size w1 W) => B1.out.trans (h.mono s1))
    cases r with
    | false =>
      go_wp2
      go_ret
      exact FF.out _ (FW.out _ B3.out) (fun h => absurd (HR.out.2 ⟨h.names, h.apart⟩) (by simp))
    | true =>
      have HN := Lib.hid (HR.out.1 (by trivial))
      have hle := named_len b.cells _ HN.out.2 HN.out.1
      have hR80 := RT.out.1
      have hglb : (b.grey ++ b.black).length = b.grey.length + b.black.length := List.length_append
      clear HR
      by_cases hc : b.cursor = 0
      case neg =>
        have hb0 : (b.cursor != 0) = true := by simpa using hc
        have HC := Lib.hid hc
        clear hc
        go_wp2
        go_ret
        exact FF.out _ (FW.out _ B3.out) (fun h => HC.out h.cursor)
      case pos =>
        have hb0 : (b.cursor != 0) = false := by simp [hc]
        have HC := Lib.hid hc
        clear hc
        go_wp2_with fail
        refine (l4Reach_any A n c b.cells Ag ng cg b.grey w3.heap.size w3 CELL.out RT.out (by omega) ZG.out (Nat.le_refl _) (HB3.out.more (by omega)) (HG3.out.more (by omega))).mono ?_
        rintro e w4 ⟨g4, n4, c4, l4, r4, rfl, hgo, _, b4⟩
        have GW := Lib.hid hgo.whole_
        have B4 := Lib.hid (B3.out.trans (b4.mono (by omega)))
        have O4 := Lib.hid (O3.out.below b4)
        have HP4 := Lib.hid (HBP.out.below (B4.out.mono s1))
        have s4 : w3.heap.size ≤ w4.heap.size := b4.size
        clear hgo b4 q0 q1 q2 q3 q4 q5 q6 O3 HB3 HG3
        have q0 : w4.cell? ⟨w.heap.size, 0, none⟩ = some (.slice A n c) := by simpa using CE.out w4 B4.out 0
        have q1 : w4.cell? ⟨w.heap.size, 1, none⟩ = some (.int .i64 b.head) := by simpa using CE.out w4 B4.out 1
        have q2 : w4.cell? ⟨w.heap.size, 2, none⟩ = some (.slice Ap np cp) := by simpa using CE.out w4 B4.out 2
        have q3 : w4.cell? ⟨w.heap.size, 3, none⟩ = some (.int .i64 b.phase) := by simpa using CE.out w4 B4.out 3
        have q4 : w4.cell? ⟨w.heap.size, 4, none⟩ = some (.slice Ag ng cg) := by simpa using CE.out w4 B4.out 4
        have q5 : w4.cell? ⟨w.heap.size, 5, none⟩ = some (.slice Ab nb cb) := by simpa using CE.out w4 B4.out 5
        have q6 : w4.cell? ⟨w.heap.size, 6, none⟩ = some (.int .i64 b.cursor) := by simpa using CE.out w4 B4.out 6
        cases r4 with
        | false =>
          go_wp2
          go_ret
          exact FF.out _ (FW.out _ B4.out) (fun h => absurd (GW.out.2 h.whole) (by simp))
        | true =>
          have WH := Lib.hid (GW.out.1 (by trivial))
          clear GW
          go_wp2_with fail
          refine (l13Kept_any ⟨A, n, c, Ap, np, cp, Ag, ng, cg, Ab, nb, cb⟩ b w.heap.size w4 (show np ≤ 1000000 by omega) (by omega) ZP.out RP.out HP4.out).mono ?_
          rintro e w5 ⟨g5, n5, c5, rfl, o5, b5⟩
          have hl5 := o5.len
          have hk5 := keptOf_len b
          have hg5 : w4.heap.size ≤ g5 := (World.ownsRow.lt o5 g5 (by simp [Value.ownBlock])).1
          have O5 := Lib.hid (o5.base (show w1.heap.size ≤ w4.heap.size by omega))
          have B5 := Lib.hid (B4.out.trans (b5.mono (by omega)))
          have A5 := Lib.hid (O4.out.below b5)
          have HG1 := Lib.hid (World.ownsRow.lt O4.out g1 (by simp [Value.ownBlock]))
          have s5 : w4.heap.size ≤ w5.heap.size := b5.size
          clear o5 b5 q0 q1 q2 q3 q4 q5 q6 O4 HP4
          go_wp2
          go_loopw [6, 7] (fun nd i wr => ∃ (k gk nk ck : Nat) (l : List Int), k ≤ nb ∧ i = .int .i64 k ∧ nd = .slice (some ⟨gk, 0, none⟩) nk ck ∧ w4.heap.size ≤ gk ∧ nk ≤ 7 + 16 * k ∧ OwnI wr w1.heap.size (some ⟨gk, 0, none⟩) nk ck l ∧ NeedIs b k l ∧ OwnI wr w1.heap.size (some ⟨g1, 0, none⟩) (ng + nb) c1 (b.grey ++ b.black) ∧ Below w1.heap.size w1 wr) (fun _ i _ => nb - (intOf i).toNat)
          case atStart => exact ⟨0, g5, n5, c5, keptOf b, Nat.zero_le _, rfl, rfl, hg5, by omega, O5.out, fun x => by simp, A5.out, B5.out⟩
          case round =>
            obtain ⟨k, gk, nk, ck, l, hk, rfl, rfl, hgk, hnk, hol, hne, hoa, hbel⟩ := hrel
            have OL := Lib.hid hol
            have NE := Lib.hid hne
            have OA := Lib.hid hoa
            have BR := Lib.hid hbel
            have hll := hol.len
            clear hol hne hoa hbel
            have HBR := Lib.hid (HBC.out.below (BR.out.mono s1))
            have HLR := Lib.hid (HBL.out.below (BR.out.mono s1))
            have hsr := BR.out.size
            by_cases hlt : k < nb
            · have hc0 : ∀ W, Below wr.heap.size wr W → W.cell? ⟨w.heap.size, 0, none⟩ = some (.slice A n c) := fun W h => by simpa using CE.out W (BR.out.trans (h.mono hsr)) 0
              have hc5 : ∀ W, Below wr.heap.size wr W → W.cell? ⟨w.heap.size, 5, none⟩ = some (.slice Ab nb cb) := fun W h => by simpa using CE.out W (BR.out.trans (h.mono hsr)) 5
              have hw1r : w.heap.size < wr.heap.size := by omega
              obtain ⟨bb, boff, rfl, hbB, h0⟩ := HLR.out.at_ hlt
              have hmem := Lib.hid (getD_mem b.black k (by omega))
              obtain ⟨x, hx⟩ : ∃ x, b.black[k]?.getD 0 = x := ⟨_, rfl⟩
              rw [hx] at h0 hmem
              have HX := Lib.hid hx
              have hbbr : bb < wr.heap.size := by omega
              have hcx : ∀ W, Below wr.heap.size wr W → W.cell? ⟨bb, boff + k, none⟩ = some (.int .i64 x) := fun W h => (h.cell (p := ⟨bb, boff + k, none⟩) hbbr).trans h0
              have hND : ∀ W, Below wr.heap.size wr W → Calls Tryz.prog 68 #[.slice A n c, .int .i64 x] W fun e w' => ∃ v nd is, e = .returned (.tuple #[v, .bool is]) ∧ OwnN w' W.heap.size v nd ∧ HitIs b.cells x nd is ∧ Below W.heap.size W w' :=
                fun W h => l4Node_any A n c b.cells x w.heap.size W (by omega) CELL.out (by have := h.size; omega) (HBR.out.below (h.mono (by omega)))
              have ND := Lib.hid hND
              have q0 := hc0 wr (Below.refl _ _)
              have q5 := hc5 wr (Below.refl _ _)
              have qx := h0
              clear hx hND h0
              go_wp2
              go_cut [8, 9] (fun s t wx => ∃ q nd is Ap' np' cp' Ak nk' ck', s = .pointer (some ⟨q, 0, none⟩) ∧ t = .bool is ∧ Box wx q 96 #[.int .i64 nd.kind, .slice Ap' np' cp', .slice Ak nk' ck', .string nd.val] ∧ OwnK wx wr.heap.size Ak nk' ck' nd.kids ∧ HitIs b.cells x nd is ∧ wr.heap.size ≤ q ∧ Below wr.heap.size wr wx)
              case first =>
                go_region_law (first
                  | (go_simp
                     go_at_call 68
                     refine (ND.out _ (by first | exact (Below.refl _ _).drew | exact ((Below.refl _ _).alloc (Nat.le_refl _) _).drew | exact (Below.refl _ _).drew.alloc (Nat.le_refl _) _)).mono ?_
                     rintro e w6 ⟨v, nd, is, rfl, own, hit, b6⟩
                     obtain ⟨Ap', np', cp', Ak, nk', ck', rfl, hnp, hnk', hsz, hp, hkk, hap⟩ := own
                     have x0 : Box (wr.alloc (.cells #[.int .i64 0, .slice none 0 0, .slice none 0 0, .string { data := #[] }] 96)).drew wr.heap.size 96 #[.int .i64 0, .slice none 0 0, .slice none 0 0, .string { data := #[] }] := heap_alloc_new wr _
                     have x6 := x0.below b6 (by simp)
                     have y0 := x6.cell 0
                     have y1 := x6.cell 1
                     have y2 := x6.cell 2
                     have y3 := x6.cell 3
                     have f6 := x6.free
                     simp at y0 y1 y2 y3
                     have z6 : Below wr.heap.size wr w6 := ((Below.refl _ _).alloc (Nat.le_refl _) _).drew.trans (b6.mono (by simp))
                     have hlo : wr.heap.size < w6.heap.size := x6.lt
                     have hkb : ∀ g, (Value.slice Ak nk' ck').ownBlock = some g → ¬ g = wr.heap.size := fun g hg e => by have h1 := (World.ownsRow.lt hkk g hg).1; simp at h1; omega)
                  | (go_simp
                     go_at_call 68
                     refine (ND.out _ (by first | exact (Below.refl _ _).drew | exact ((Below.refl _ _).alloc (Nat.le_refl _) _).drew | exact (Below.refl _ _).drew.alloc (Nat.le_refl _) _)).mono ?_
                     rintro e w6 ⟨v, nd, is, rfl, own, hit, b6⟩
                     obtain ⟨Ap', np', cp', Ak, nk', ck', rfl, hnp, hnk', hsz, hp, hkk, hap⟩ := own
                     have x6 : Below wr.drew.heap.size wr.drew w6 := b6
                     have z6 : Below wr.heap.size wr w6 := (Below.refl _ _).drew.trans b6
                     have hlo : wr.heap.size ≤ w6.heap.size := z6.size))
                all_goals
                  go_wp2
                  go_meet
                  case rel =>
                    first
                    | exact ⟨wr.heap.size, nd, is, Ap', np', cp', Ak, nk', ck', rfl, rfl, (set4 x6 _ _ _ _).1, OwnK.base (hkk.touch (set4 x6 _ _ _ _).2 hkb) (by simp), hit, Nat.le_refl _, z6.trans ((set4 x6 _ _ _ _).2.below z6.size (fun g hg e => by omega))⟩
                    | exact ⟨w6.heap.size, nd, is, Ap', np', cp', Ak, nk', ck', rfl, rfl, heap_alloc_new w6 _, OwnK.base (hkk.below ((Below.refl _ _).alloc (Nat.le_refl _) _)) (by simp), hit, z6.size, z6.trans (((Below.refl _ _).alloc (Nat.le_refl _) _).mono z6.size)⟩
              case rest =>
                obtain ⟨q, nd, is, Ap', np', cp', Ak, nk', ck', rfl, rfl, hX, hK, hit, hq, hbc⟩ := hcut
                have hit2 : HitIs b.cells (b.black[k]?.getD 0) nd is := by rw [HX.out]; exact hit
                have his : is = true := (hit_found RT.out hit).2 (HN.out.1 x (List.mem_append_right _ hmem.out))
                subst his
                have NE1 := Lib.hid (NE.out.step (by omega) hit2)
                have h16 := hit_kids hit
                have hkl := hK.len
                have hgk2 : gk < wr.heap.size := (World.ownsRow.lt OL.out gk (by simp [Value.ownBlock])).2
                have hg12 : g1 < wr.heap.size := (World.ownsRow.lt OA.out g1 (by simp [Value.ownBlock])).2
                have hwq : q < wc.heap.size := hX.lt
                have XC := Lib.hid hX
                have KC := Lib.hid hK
                have BC := Lib.hid hbc
                have OLC := Lib.hid (OL.out.below hbc)
                have OAC := Lib.hid (OA.out.below hbc)
                have hsc : wr.heap.size ≤ wc.heap.size := hbc.size
                have HGK := Lib.hid hgk
                have HQ := Lib.hid hq
                clear hX hK hbc hit hit2 hc0 hc5 hcx q0 q5 qx hgk hq
                go_wp2
                go_loopw [6, 10] (fun nd2 i wv => ∃ (j g6 c6 : Nat), j ≤ nk' ∧ i = .int .i64 j ∧ nd2 = .slice (some ⟨g6, 0, none⟩) (nk + j) c6 ∧ (g6 = gk ∨ wc.heap.size ≤ g6) ∧ OwnI wv w1.heap.size (some ⟨g6, 0, none⟩) (nk + j) c6 (l ++ (nd.kids.take j).map (·.2)) ∧ Touch (fun b => b = gk ∨ wc.heap.size ≤ b) wc wv) (fun _ i _ => nk' - (intOf i).toNat)
                case atStart => exact ⟨0, gk, ck, Nat.zero_le _, rfl, rfl, .inl rfl, by simpa using OLC.out, Touch.of_below (Below.refl _ _)⟩
                case round =>
                  obtain ⟨j, g6, c6, hj, rfl, rfl, hg6, ho6, ht6⟩ := hrel
                  have TK := Lib.hid ho6
                  have TT := Lib.hid ht6
                  have hsv : wc.heap.size ≤ wr.heap.size := ht6.size
                  have xv : Box wr q 96 #[.int .i64 nd.kind, .slice Ap' np' cp', .slice Ak nk' ck', .string nd.val] := (ht6.block _ hwq (fun e => by have := HQ.out; rcases e with e | e <;> omega)).trans XC.out
                  have qv := xv.cell 2
                  simp at qv
                  have kv' := KC.out.touch ht6 (fun b hb e => by have h1 := (World.ownsRow.lt KC.out b hb); rcases e with e | e <;> omega)
                  have KV := Lib.hid kv'
                  have XV := Lib.hid xv
                  clear ho6 ht6 xv kv'
                  by_cases hlk : j < nk'
                  · obtain ⟨gb, rfl, _, _⟩ := KV.out.form (by omega)
                    have hk1 := KV.out.cell1 hlk
                    have hst : (nd.kids.take (j + 1)).map (·.2) = (nd.kids.take j).map (·.2) ++ [(nd.kids[j]?.getD (0, 0)).2] := by
                      rw [List.take_succ_eq_append_getElem (by omega), List.map_append, List.getElem?_eq_getElem (by omega)]; rfl
                    have HST := Lib.hid hst
                    obtain ⟨M, hM⟩ : ∃ M, l ++ (nd.kids.take j).map (·.2) = M := ⟨_, rfl⟩
                    have TK := TK.out
                    rw [hM] at TK
                    have TK := Lib.hid TK
                    have HM := Lib.hid hM
                    clear hst hM
                    generalize (nd.kids[j]?.getD (0, 0)).2 = z at hk1 HST
                    go_wp2_with (at_builtin; refine wpList_append_lies _ rfl _ _ 23 rfl w1.heap.size 2 i0 (.int .i64 0) 1 8 Tryz.underlying23 HI.out HZ0.out HZ1.out HZ2.out rfl (by decide) _ _ _ rfl (own_touch (S := fun _ => False) TK.out (Touch.of_below ((Below.refl _ _).alloc (Nat.le_refl _) _)) (fun _ _ h => h)) ⟨wr.heap.size, 0, none⟩ 1 1 [.int .i64 z] rfl ?bq0 ?bq1 ?bq2 (by omega) ?bq3 ?bq4 ?bq5 _ rfl ?_)
                    case bq2 => first | rfl | (intro u hu; simp at hu; subst hu; rfl)
                    case bq3 => unfold maxLen; omega
                    case bq4 => omega
                    case bq5 => first | omega | (simp; omega)
                    intro g7 c7 w7 hown7 hgrow7 hor7 _
                    have t7 : Touch (fun b => b = gk ∨ wc.heap.size ≤ b) wr w7 := (Touch.of_below ((Below.refl wr.heap.size wr).alloc (Nat.le_refl _) _)).trans ((Touch.of_grown hgrow7).mono (fun b e => by simp [Value.ownBlock] at e; omega))
                    have h7 : g7 = gk ∨ wc.heap.size ≤ g7 := by
                      rcases hor7 with e | e <;> (try simp [Value.ownBlock] at e) <;> omega
                    have o7 : OwnI w7 w1.heap.size (some ⟨g7, 0, none⟩) (nk + (j + 1)) c7 (l ++ (nd.kids.take (j + 1)).map (·.2)) := by
                      rw [HST.out, ← List.append_assoc, HM.out]
                      unfold OwnI
                      rw [List.map_append]
                      exact hown7
                    have O7 := Lib.hid o7
                    have T7 := Lib.hid (TT.out.trans t7)
                    have H7 := Lib.hid h7
                    clear hown7 hgrow7 hor7 t7 o7 h7 qv hk1
                    go_wp2
                    go_roundw
                    case rel => exact ⟨j + 1, g7, c7, by omega, by go_num, rfl, H7.out, O7.out, T7.out⟩
                    case measure => simp [intOf]; omega
                  · obtain rfl : j = nk' := by omega
                    have tk8 := TK.out
                    rw [List.take_of_length_le (by omega)] at tk8
                    have T8 := Lib.hid tk8
                    have A8 := Lib.hid (OAC.out.touch TT.out (fun b hb e => by
                      have h1 : g1 = b := by simpa [Value.ownBlock] using hb
                      have := HG1.out
                      have := HGK.out
                      rcases e with e | e <;> omega))
                    have B8 := Lib.hid (BR.out.trans ((BC.out.mono hsr).trans (TT.out.below (show w1.heap.size ≤ wc.heap.size by omega) (fun b hb e => by have := HGK.out; rcases e with e | e <;> omega))))
                    clear tk8
                    go_wp2
                    go_roundw
                    case rel => exact ⟨k + 1, g6, nk + j, c6, l ++ nd.kids.map (·.2), by omega, by go_num, rfl, by have := HGK.out; rcases hg6 with e | e <;> omega, by omega, T8.out, NE1.out, A8.out, B8.out⟩
                    case measure => simp [intOf]; omega
            · obtain rfl : k = nb := by omega
              have hne := NE.out
              unfold NeedIs at hne
              rw [List.take_of_length_le (by omega)] at hne
              have NE := Lib.hid hne
              have q5 : wr.cell? ⟨w.heap.size, 5, none⟩ = some (.slice Ab k cb) := by simpa using CE.out wr BR.out 5
              clear hne
              go_wp2
              go_loopw [11] (fun i wv => ∃ j : Nat, j ≤ nk ∧ i = .int .i64 j ∧ (∀ m, m < j → l[m]?.getD 0 ∈ b.grey ++ b.black) ∧ Below wr.heap.size wr wv) (fun i _ => nk - (intOf i).toNat)
              case atStart => exact ⟨0, Nat.zero_le _, rfl, fun m hm => by omega, Below.refl _ _⟩
              case round =>
                obtain ⟨j, hj, rfl, hall, hbel⟩ := hrel
                have AL := Lib.hid hall
                have B9 := Lib.hid (BR.out.trans (hbel.mono hsr))
                have A9 := Lib.hid (OA.out.below hbel)
                have L9 := Lib.hid (OL.out.below hbel)
                have BV := Lib.hid hbel
                clear hall hbel
                by_cases hlt2 : j < nk
                · have h0 := L9.out.cell hlt2
                  have hmem := Lib.hid (getD_mem l j (by omega))
                  obtain ⟨x, hx⟩ : ∃ x, l[j]?.getD 0 = x := ⟨_, rfl⟩
                  rw [hx] at h0 hmem
                  have HX := Lib.hid hx
                  clear hx
                  go_wp2_with fail
                  refine (l4In_any _ (ng + k) c1 (b.grey ++ b.black) x wr.heap.size wr (by omega) A9.out.ints).mono ?_
                  rintro e w' ⟨rfl, rfl⟩
                  by_cases hin : x ∈ b.grey ++ b.black
                  · rw [decide_eq_true hin]
                    have HIN := Lib.hid hin
                    clear hin
                    go_wp2
                    go_roundw
                    case rel =>
                      refine ⟨j + 1, by omega, by go_num, fun m hm => ?_, BV.out⟩
                      rcases Nat.lt_or_ge m j with h | h
                      · exact AL.out m h
                      · rw [show m = j by omega, HX.out]; exact HIN.out
                    case measure => simp [intOf]; omega
                  · rw [decide_eq_false hin]
                    have HIN := Lib.hid hin
                    clear hin
                    go_wp2
                    go_ret
                    exact FF.out _ (FW.out _ B9.out) (fun h => HIN.out (by
                      rcases (NE.out x).1 hmem.out with h1 | ⟨y, h1, h2⟩
                      · exact h.kept x h1
                      · exact h.kids y x h1 h2))
                · obtain rfl : j = nk := by omega
                  have hyes : MarkOk b := by
                    have hmm : ∀ x, x ∈ l → x ∈ b.grey ++ b.black := fun x hx => by
                      obtain ⟨i, hi, e⟩ := List.mem_iff_getElem.1 hx
                      have h2 := AL.out i (by omega)
                      rw [List.getElem?_eq_getElem hi, e] at h2
                      exact h2
                    exact ⟨HN.out.1, HN.out.2, HC.out, WH.out, fun x hx => hmm x ((NE.out x).2 (.inl hx)), fun y k hy hk => hmm k ((NE.out k).2 (.inr ⟨y, hy, hk⟩))⟩
                  have HY := Lib.hid hyes
                  clear hyes
                  go_wp2
                  go_ret
                  exact ⟨true, rfl, iff_of_true rfl HY.out, FW.out _ B9.out⟩
end Go.Proofs.YtigdcmfmaehjfaaGreat

-- BaseW: The model's base: right while it sweeps.
namespace Go.Proofs.YtigdcmfmaehjfaaGreat
set_option maxRecDepth 20000
set_option linter.unusedVariables false
set_option linter.unusedSimpArgs false
open Go.RowKit

theorem l13Sweep_any (L : BLay) (b : MBase) (B : Nat) (w : World) (fit : BaseFit L b) (hB : B ≤ w.heap.size) (hb : BaseIn w B L b) (hR : Right b.cells) (hP : RiseI b.pins) (hBl : RiseI b.black) (hF : b.pins.length ≤ 6) :
    Calls Tryz.prog 39 #[L.v b] w fun e w' => ∃ r, e = .returned (.bool r) ∧ (r = true ↔ SweepOk b) ∧ Below w.heap.size w w' := by
  have HB0 := Lib.hid (hb.more hB)
  have hlen := hb.cells.1
  have hlp := hb.pins.1
  have hlg := hb.grey.1
  have hlb := hb.black.1
  have RT := Lib.hid hR
  have RP := Lib.hid hP
  have RB := Lib.hid (riseI_nodup _ hBl)
  have FIT := Lib.hid fit
  clear hb hR hP hBl fit
  obtain ⟨w1, hw1⟩ : ∃ w1, w.alloc (.cells #[.slice L.A L.n L.c, .int .i64 b.head, .slice L.Ap L.np L.cp, .int .i64 b.phase, .slice L.Ag L.ng L.cg, .slice L.Ab L.nb L.cb, .int .i64 b.cursor] 30) = w1 := ⟨_, rfl⟩
  have x1 : Box w1 w.heap.size _ _ := hw1 ▸ heap_alloc_new _ _
  have b1 : Below w.heap.size w w1 := hw1 ▸ (Below.refl _ _).alloc (Nat.le_refl _) _
  have X1 := Lib.hid x1
  have B1 := Lib.hid b1
  have HB := Lib.hid (HB0.out.below b1)
  have q0 := x1.cell 0
  have q1 := x1.cell 1
  have q2 := x1.cell 2
  have q3 := x1.cell 3
  have q4 := x1.cell 4
  have q5 := x1.cell 5
  have q6 := x1.cell 6
  simp at q0 q1 q2 q3 q4 q5 q6
  have s1 : w.heap.size ≤ w1.heap.size := b1.size
  have hsum := FIT.out.sum
  have hcb := FIT.out.cb
  have hff : ∀ W, Below w.heap.size w W → ¬ SweepOk b → ∃ r, (Ending.returned (.bool false) : Ending) = .returned (.bool r) ∧ (r = true ↔ SweepOk b) ∧ Below w.heap.size w W := fun W hW h => ⟨false, rfl, iff_of_false (by simp) h, hW⟩
  have FF := Lib.hid hff
  clear x1 b1 HB0 hff
  unfold BLay.v
  by_cases hg : 0 < L.ng
  · have hd : decide (0 < L.ng) = true := decide_eq_true (by omega)
    have HG := Lib.hid hg
    clear hg
    go_enter Tryz.func39, Tryz.ntmps39
    go_wp2
    go_ret
    exact FF.out _ B1.out (fun h => by have := h.grey; have := HG.out; rw [h.grey] at hlg; simp at hlg; omega)
  have NG := Lib.hid (show L.ng = 0 by omega)
  have hd : decide (0 < L.ng) = false := decide_eq_false (by omega)
  by_cases hc : b.cursor < 0
  · have hd2 : decide (b.cursor < 0) = true := decide_eq_true hc
    have HC := Lib.hid hc
    clear hc
    go_enter Tryz.func39, Tryz.ntmps39
    go_wp2
    go_ret
    exact FF.out _ B1.out (fun h => by have := h.cursor; have := HC.out; omega)
  have hd2 : decide (b.cursor < 0) = false := decide_eq_false hc
  have HC := Lib.hid hc
  clear hc
  go_enter Tryz.func39, Tryz.ntmps39
  go_wp2_with fail
  refine (l13Names_any L.A L.n L.c b.cells L.Ab L.nb L.cb b.black w.heap.size w1 (by omega) (by omega) hcb s1 HB.out.cells HB.out.black).mono ?_
  rintro e w2 ⟨r, rfl, hr, b2⟩
  have HR := Lib.hid hr
  have B2 := Lib.hid (B1.out.trans (b2.mono s1))
  have HB2 := Lib.hid (HB.out.below (b2.mono s1))
  have X2 := X1.out.below b2 X1.out.lt
  have s2 : w1.heap.size ≤ w2.heap.size := b2.size
  clear hr b2 q0 q1 q2 q3 q4 q5 q6
  have q0 := X2.cell 0
  have q1 := X2.cell 1
  have q2 := X2.cell 2
  have q3 := X2.cell 3
  have q4 := X2.cell 4
  have q5 := X2.cell 5
  have q6 := X2.cell 6
  simp at q0 q1 q2 q3 q4 q5 q6
  have X2 := Lib.hid X2
  cases r with
  | false =>
    go_wp2
    go_ret
    exact FF.out _ B2.out (fun h => absurd (HR.out.2 ⟨h.names, RB.out⟩) (by simp))
  | true =>
    have HN := Lib.hid (HR.out.1 (by trivial))
    clear HR
    have hc0 : ∀ W, Below w2.heap.size w2 W → W.cell? ⟨w.heap.size, 0, none⟩ = some (.slice L.A L.n L.c) := fun W h => (h.cell (p := ⟨w.heap.size, 0, none⟩) X2.out.lt).trans q0
    have hc1 : ∀ W, Below w2.heap.size w2 W → W.cell? ⟨w.heap.size, 1, none⟩ = some (.int .i64 b.head) := fun W h => (h.cell (p := ⟨w.heap.size, 1, none⟩) X2.out.lt).trans q1
    have hc2 : ∀ W, Below w2.heap.size w2 W → W.cell? ⟨w.heap.size, 2, none⟩ = some (.slice L.Ap L.np L.cp) := fun W h => (h.cell (p := ⟨w.heap.size, 2, none⟩) X2.out.lt).trans q2
    have hc3 : ∀ W, Below w2.heap.size w2 W → W.cell? ⟨w.heap.size, 3, none⟩ = some (.int .i64 b.phase) := fun W h => (h.cell (p := ⟨w.heap.size, 3, none⟩) X2.out.lt).trans q3
    have hc4 : ∀ W, Below w2.heap.size w2 W → W.cell? ⟨w.heap.size, 4, none⟩ = some (.slice L.Ag L.ng L.cg) := fun W h => (h.cell (p := ⟨w.heap.size, 4, none⟩) X2.out.lt).trans q4
    have hc5 : ∀ W, Below w2.heap.size w2 W → W.cell? ⟨w.heap.size, 5, none⟩ = some (.slice L.Ab L.nb L.cb) := fun W h => (h.cell (p := ⟨w.heap.size, 5, none⟩) X2.out.lt).trans q5
    have hc6 : ∀ W, Below w2.heap.size w2 W → W.cell? ⟨w.heap.size, 6, none⟩ = some (.int .i64 b.cursor) := fun W h => (h.cell (p := ⟨w.heap.size, 6, none⟩) X2.out.lt).trans q6
    have hKP : ∀ W, Below w2.heap.size w2 W → Calls Tryz.prog 37 #[.agg #[.slice L.A L.n L.c, .int .i64 b.head, .slice L.Ap L.np L.cp, .int .i64 b.phase, .slice L.Ag L.ng L.cg, .slice L.Ab L.nb L.cb, .int .i64 b.cursor]] W
        fun e w' => ∃ g n c, e = .returned (.slice (some ⟨g, 0, none⟩) n c) ∧ OwnI w' W.heap.size (some ⟨g, 0, none⟩) n c (keptOf b) ∧ Below W.heap.size W w' :=
      fun W h => l13Kept_any L b w.heap.size W (by omega) (by have := h.size; omega) FIT.out.zp RP.out (HB2.out.below (h.mono (by omega))).pins
    have hRE : ∀ W, Below w2.heap.size w2 W → ∀ g n c, Ints W W.heap.size (some ⟨g, 0, none⟩) n (keptOf b) → Calls Tryz.prog 36 #[.slice L.A L.n L.c, .slice (some ⟨g, 0, none⟩) n c] W
        fun e w' => ∃ g n' c' l b', e = .returned (.tuple #[.slice (some ⟨g, 0, none⟩) n' c', .bool b']) ∧ Going b.cells (keptOf b) l [] b' ∧ OwnI w' W.heap.size (some ⟨g, 0, none⟩) n' c' l ∧ Below W.heap.size W w' :=
      fun W h g n c hi => l4Reach_any L.A L.n L.c b.cells (some ⟨g, 0, none⟩) n c (keptOf b) W.heap.size W FIT.out.cell RT.out (by have := keptOf_len b; omega) (fun h => by cases h) (Nat.le_refl _) ((HB2.out.below (h.mono (by omega))).cells.more (by have := h.size; omega)) hi
    have KP := Lib.hid hKP
    have RE := Lib.hid hRE
    clear q0 q1 q2 q3 q4 q5 q6 hKP hRE
    go_wp2
    go_region_held3 (fun W => Below w2.heap.size w2 W) (first | exact (Below.refl _ _).drew | assumption)
      (first | (go_at_call 37
                refine (KP.out _ (by assumption)).mono ?_
                rintro e w3 ⟨g3, n3, c3, rfl, o3, b3⟩
                have h3 := (by assumption : Below w2.heap.size w2 _).trans (b3.mono (by assumption : Below w2.heap.size w2 _).size))
             | (go_at_call 36
                refine (RE.out _ (by assumption) _ _ _ o3.ints).mono ?_
                rintro e w4 ⟨g4, n4, c4, l, r4, rfl, hgo, o4, b4⟩
                have h4 := (by assumption : Below w2.heap.size w2 _).trans (b4.mono (by assumption : Below w2.heap.size w2 _).size)))
    have hl4 := o4.len
    have hgb := hgo.len
    have hkl := keptOf_len b
    have GO := Lib.hid hgo
    have B4 := Lib.hid (B2.out.trans (h4.mono (by omega)))
    have HB4 := Lib.hid (HB2.out.below (h4.mono (by omega)))
    have X4 := Lib.hid (X2.out.below h4 X2.out.lt)
    have O4 := Lib.hid o4
    have s4 : w2.heap.size ≤ w4.heap.size := h4.size
    have hxl : w.heap.size < w4.heap.size := X4.out.lt
    clear b4 o4 hgo hc0 hc1 hc2 hc3 hc4 hc5 hc6 h4 h3 b3 o3
    go_wp2
    go_loopw [5] (fun i wr => ∃ k : Nat, k ≤ n4 ∧ i = .int .i64 k ∧ (∀ j, j < k → l[j]?.getD 0 ∈ b.black) ∧ Below w4.heap.size w4 wr) (fun i _ => n4 - (intOf i).toNat)
    case atStart => exact ⟨0, Nat.zero_le _, rfl, fun j hj => by omega, by first | exact Below.refl _ _ | exact (Below.refl _ _).drew⟩
    case round =>
      obtain ⟨k, hk, rfl, hall, hbel⟩ := hrel
      have AL := Lib.hid hall
      have B5 := Lib.hid (B4.out.trans (hbel.mono (by omega)))
      have HB5 := Lib.hid (HB4.out.below (hbel.mono (by omega)))
      have X5 := Lib.hid (X4.out.below hbel X4.out.lt)
      have O5 := Lib.hid (O4.out.below hbel)
      have BR := Lib.hid hbel
      clear hall hbel
      by_cases hlt : k < n4
      · have q5 := X5.out.cell 5
        simp at q5
        have h0 := O5.out.cell hlt
        have hmem := Lib.hid (getD_mem l k (by omega))
        obtain ⟨x, hx⟩ : ∃ x, l[k]?.getD 0 = x := ⟨_, rfl⟩
        rw [hx] at h0 hmem
        have hIN : ∀ q, Calls Tryz.prog 66 #[.slice L.Ab L.nb L.cb, .int .i64 x] (wr.drewN q) fun e w' => e = .returned (.bool (decide (x ∈ b.black))) ∧ w' = wr.drewN q :=
          fun q => (l4In_any _ L.nb L.cb b.black x w.heap.size (wr.drewN q) (by omega) (HB5.out.black.drewN q)).mono fun e w' h => ⟨h.1, h.2.symm⟩
        have IN := Lib.hid hIN
        clear hIN
        by_cases hin : x ∈ b.black
        · rw [decide_eq_true hin] at IN
          have HIN := Lib.hid hin
          have HX := Lib.hid hx
          clear hin hx
          go_wp2
          go_quiet (first | (go_at_call 66; exact Calls.quiet_of_same (IN.out _)))
          go_wp2
          go_roundw
          case rel =>
            refine ⟨k + 1, by omega, by go_num, fun j hj => ?_, below_drewN BR.out _⟩
            rcases Nat.lt_or_ge j k with h | h
            · exact AL.out j h
            · rw [show j = k by omega, HX.out]; exact HIN.out
          case measure => simp [intOf]; omega
        · rw [decide_eq_false hin] at IN
          have HIN := Lib.hid hin
          clear hin hx
          go_wp2
          go_quiet (first | (go_at_call 66; exact Calls.quiet_of_same (IN.out _)))
          go_wp2
          go_ret
          exact FF.out _ (below_drewN B5.out _) (fun h => HIN.out (h.all x ((GO.out.done x).1 hmem.out)))
      · obtain rfl : k = n4 := by omega
        have hyes : SweepOk b := by
          refine ⟨List.eq_nil_of_length_eq_zero (by have := NG.out; omega), by have := HC.out; omega, HN.out.1, fun x hx => ?_⟩
          have h1 := (GO.out.done x).2 hx
          obtain ⟨i, hi, e⟩ := List.mem_iff_getElem.1 h1
          have h2 := AL.out i (by omega)
          rw [List.getElem?_eq_getElem hi, e] at h2
          exact h2
        have HY := Lib.hid hyes
        clear hyes
        go_wp2
        go_ret
        exact ⟨true, rfl, iff_of_true rfl HY.out, B5.out⟩
end Go.Proofs.YtigdcmfmaehjfaaGreat

-- BaseO: The model's BaseOk and KeptBy.
namespace Go.Proofs.YtigdcmfmaehjfaaGreat
set_option maxRecDepth 20000
set_option linter.unusedVariables false
set_option linter.unusedSimpArgs false
open Go.RowKit

set_option maxHeartbeats 1600000 in
theorem specBaseOk_any (L : BLay) (b : MBase) (B : Nat) (w : World) (fit : BaseFit L b) (hB : B ≤ w.heap.size) (hb : BaseIn w B L b) :
    Calls Tryz.prog 8 #[L.v b] w fun e w' => ∃ r, e = .returned (.bool r) ∧ (r = true ↔ BaseGood b) ∧ Below w.heap.size w w' := by
  have FIT := Lib.hid fit
  have HB0 := Lib.hid (hb.more hB)
  have hlen := hb.cells.1
  have hlp := hb.pins.1
  have hlg := hb.grey.1
  have hlb := hb.black.1
  have hsum := fit.sum
  obtain ⟨w1, hw1⟩ : ∃ w1, w.alloc (.cells #[.slice L.A L.n L.c, .int .i64 b.head, .slice L.Ap L.np L.cp, .int .i64 b.phase, .slice L.Ag L.ng L.cg, .slice L.Ab L.nb L.cb, .int .i64 b.cursor] 30) = w1 := ⟨_, rfl⟩
  have x1 : Box w1 w.heap.size _ _ := hw1 ▸ heap_alloc_new _ _
  have b1 : Below w.heap.size w w1 := hw1 ▸ (Below.refl _ _).alloc (Nat.le_refl _) _
  have X1 := Lib.hid x1
  have B1 := Lib.hid b1
  have HB := Lib.hid (HB0.out.below b1)
  have s1 : w.heap.size ≤ w1.heap.size := b1.size
  have hxl : w.heap.size < w1.heap.size := x1.lt
  have hcell : ∀ W, Below w1.heap.size w1 W → ∀ k, W.cell? ⟨w.heap.size, k, none⟩ = (#[.slice L.A L.n L.c, .int .i64 b.head, .slice L.Ap L.np L.cp, .int .i64 b.phase, .slice L.Ag L.ng L.cg, .slice L.Ab L.nb L.cb, .int .i64 b.cursor] : Array Value)[k]? := fun W hW k => (X1.out.below hW hxl).cell k
  have CE := Lib.hid hcell
  have hff : ∀ W, Below w1.heap.size w1 W → ¬ BaseGood b → ∃ r, (Ending.returned (.bool false) : Ending) = .returned (.bool r) ∧ (r = true ↔ BaseGood b) ∧ Below w.heap.size w W := fun W hW h => ⟨false, rfl, iff_of_false (by simp) h, B1.out.trans (hW.mono s1)⟩
  have FF := Lib.hid hff
  have htt : ∀ W, Below w1.heap.size w1 W → BaseGood b → ∃ r, (Ending.returned (.bool true) : Ending) = .returned (.bool r) ∧ (r = true ↔ BaseGood b) ∧ Below w.heap.size w W := fun W hW h => ⟨true, rfl, iff_of_true rfl h, B1.out.trans (hW.mono s1)⟩
  have TT := Lib.hid htt
  have q0 : w1.cell? ⟨w.heap.size, 0, none⟩ = some (.slice L.A L.n L.c) := by simpa using hcell w1 (Below.refl _ _) 0
  clear x1 b1 HB0 hff hcell htt hb fit
  unfold BLay.v
  go_enter Tryz.func8, Tryz.ntmps8
  go_wp2_with fail
  refine (specCellsOk_any L.A L.n L.c b.cells w.heap.size w1 (by omega) FIT.out.cell s1 HB.out.cells).mono ?_
  rintro e w2 ⟨r, rfl, hr, b2⟩
  have HR := Lib.hid hr
  have B2 := Lib.hid b2
  clear hr b2 q0
  cases r with
  | false =>
    go_wp2
    go_ret
    exact FF.out _ B2.out (fun h => absurd (HR.out.2 h.1.cells) (by simp))
  | true =>
    have RT := Lib.hid (HR.out.1 (by trivial))
    clear HR
    have q1 : w2.cell? ⟨w.heap.size, 1, none⟩ = some (.int .i64 b.head) := by simpa using CE.out w2 B2.out 1
    have q2 : w2.cell? ⟨w.heap.size, 2, none⟩ = some (.slice L.Ap L.np L.cp) := by simpa using CE.out w2 B2.out 2
    by_cases hh : b.head < 0
    · have hd : decide (b.head < 0) = true := decide_eq_true hh
      have HH := Lib.hid hh
      clear hh
      go_wp2
      go_ret
      exact FF.out _ B2.out (fun h => by have := h.1.head; have := HH.out; omega)
    have hd : decide (b.head < 0) = false := decide_eq_false hh
    have HH := Lib.hid hh
    clear hh
    have s2 : w1.heap.size ≤ w2.heap.size := B2.out.size
    have HB2 := Lib.hid (HB.out.below (B2.out.mono s1))
    go_wp2_with fail
    refine (l13Rising_any L.Ap L.np L.cp b.pins w.heap.size w2 (by omega) (by omega) HB2.out.pins).mono ?_
    rintro e w3 ⟨r, rfl, hr, b3⟩
    have HR := Lib.hid hr
    have B3 := Lib.hid (B2.out.trans (b3.mono s2))
    clear hr b3 q1 q2
    cases r with
    | false =>
      go_wp2
      go_ret
      exact FF.out _ B3.out (fun h => absurd (HR.out.2 h.1.rise) (by simp))
    | true =>
      have RP := Lib.hid (HR.out.1 (by trivial))
      clear HR
      have q2 : w3.cell? ⟨w.heap.size, 2, none⟩ = some (.slice L.Ap L.np L.cp) := by simpa using CE.out w3 B3.out 2
      have q5 : w3.cell? ⟨w.heap.size, 5, none⟩ = some (.slice L.Ab L.nb L.cb) := by simpa using CE.out w3 B3.out 5
      have s3 : w1.heap.size ≤ w3.heap.size := B3.out.size
      have HB3 := Lib.hid (HB.out.below (B3.out.mono s1))
      have hpos := Lib.hid (rise_pos _ RP.out)
      by_cases h6 : 6 < L.np
      · have hd1 : decide (0 < L.np) = true := decide_eq_true (by omega)
        have hd6 : decide (6 < L.np) = true := decide_eq_true h6
        have hno : ¬ BaseGood b := fun h => by have := h.1.few; omega
        have NO := Lib.hid hno
        clear hno
        obtain ⟨bb, boff, hbe, hbB, h0⟩ := HB3.out.pins.at_ (k := 0) (by omega)
        obtain ⟨x, hx⟩ : ∃ x, b.pins[0]?.getD 0 = x := ⟨_, rfl⟩
        rw [hx, Nat.add_zero] at h0
        rw [hbe] at q2
        have HBE := Lib.hid hbe
        have HX := Lib.hid hx
        clear hbe hx
        by_cases hlt : x < 1
        · have hdx : decide (x < 1) = true := decide_eq_true hlt
          go_wp2
          go_ret
          exact FF.out _ B3.out NO.out
        · have hdx : decide (x < 1) = false := decide_eq_false hlt
          clear hlt
          go_wp2
          go_ret
          first
          | exact FF.out _ B3.out NO.out
          | exact .inl ⟨rfl, NO.out, B1.out.trans (B3.out.mono s1)⟩
      have hd6 : decide (6 < L.np) = false := decide_eq_false h6
      rcases Nat.eq_zero_or_pos L.np with hp0 | hp0
      focus
        have hd1 : decide (0 < L.np) = false := decide_eq_false (by omega)
        have PP : Hid (∀ x, x ∈ b.pins → 1 ≤ x) := Lib.hid (fun x hx => by rw [List.eq_nil_of_length_eq_zero (hlp.trans hp0)] at hx; simp at hx)
        have HP0 := Lib.hid hp0
        clear hp0
        go_wp2_with fail
      rotate_left
      focus
        have hd1 : decide (0 < L.np) = true := decide_eq_true hp0
        obtain ⟨bb, boff, hbe, hbB, h0⟩ := HB3.out.pins.at_ (k := 0) (by omega)
        obtain ⟨x, hx⟩ : ∃ x, b.pins[0]?.getD 0 = x := ⟨_, rfl⟩
        rw [hx, Nat.add_zero] at h0
        rw [hbe] at q2
        have HBE := Lib.hid hbe
        have HX := Lib.hid hx
        clear hbe hx
        by_cases hlt : x < 1
        · have hdx : decide (x < 1) = true := decide_eq_true hlt
          go_wp2
          go_ret
          exact FF.out _ B3.out (fun h => by
            have h1 := hpos.out.1 h.1.pos (by omega)
            rw [HX.out] at h1
            omega)
        have hdx : decide (x < 1) = false := decide_eq_false hlt
        have PP : Hid (∀ x, x ∈ b.pins → 1 ≤ x) := Lib.hid (hpos.out.2 (fun _ => by rw [HX.out]; omega))
        have HP0 := Lib.hid hp0
        clear hp0
        go_wp2_with fail
      all_goals
        refine (l13Rising_any L.Ab L.nb L.cb b.black w.heap.size w3 (by omega) (by omega) HB3.out.black).mono ?_
        rintro e w4 ⟨r, rfl, hr, b4⟩
        have HR := Lib.hid hr
        have B4 := Lib.hid (B3.out.trans (b4.mono s3))
        clear hr b4 q2 q5
        cases r with
        | false =>
          go_wp2
          go_ret
          exact FF.out _ B4.out (fun h => absurd (HR.out.2 h.1.black) (by simp))
        | true =>
          have RB := Lib.hid (HR.out.1 (by trivial))
          clear HR
          have s4 : w1.heap.size ≤ w4.heap.size := B4.out.size
          have HB4 := Lib.hid (HB.out.below (B4.out.mono s1))
          have hc : ∀ k W, Below w4.heap.size w4 W → W.cell? ⟨w.heap.size, k, none⟩ = (#[.slice L.A L.n L.c, .int .i64 b.head, .slice L.Ap L.np L.cp, .int .i64 b.phase, .slice L.Ag L.ng L.cg, .slice L.Ab L.nb L.cb, .int .i64 b.cursor] : Array Value)[k]? := fun k W h => CE.out W (B4.out.trans (h.mono s4)) k
          have hc0 : ∀ W, Below w4.heap.size w4 W → W.cell? ⟨w.heap.size, 0, none⟩ = some (.slice L.A L.n L.c) := fun W h => by simpa using hc 0 W h
          have hc1 : ∀ W, Below w4.heap.size w4 W → W.cell? ⟨w.heap.size, 1, none⟩ = some (.int .i64 b.head) := fun W h => by simpa using hc 1 W h
          have hc2 : ∀ W, Below w4.heap.size w4 W → W.cell? ⟨w.heap.size, 2, none⟩ = some (.slice L.Ap L.np L.cp) := fun W h => by simpa using hc 2 W h
          have hc3 : ∀ W, Below w4.heap.size w4 W → W.cell? ⟨w.heap.size, 3, none⟩ = some (.int .i64 b.phase) := fun W h => by simpa using hc 3 W h
          have hc4 : ∀ W, Below w4.heap.size w4 W → W.cell? ⟨w.heap.size, 4, none⟩ = some (.slice L.Ag L.ng L.cg) := fun W h => by simpa using hc 4 W h
          have hc5 : ∀ W, Below w4.heap.size w4 W → W.cell? ⟨w.heap.size, 5, none⟩ = some (.slice L.Ab L.nb L.cb) := fun W h => by simpa using hc 5 W h
          have hc6 : ∀ W, Below w4.heap.size w4 W → W.cell? ⟨w.heap.size, 6, none⟩ = some (.int .i64 b.cursor) := fun W h => by simpa using hc 6 W h
          have hKP : ∀ W, Below w4.heap.size w4 W → Calls Tryz.prog 37 #[.agg #[.slice L.A L.n L.c, .int .i64 b.head, .slice L.Ap L.np L.cp, .int .i64 b.phase, .slice L.Ag L.ng L.cg, .slice L.Ab L.nb L.cb, .int .i64 b.cursor]] W
              fun e w' => ∃ g n c, e = .returned (.slice (some ⟨g, 0, none⟩) n c) ∧ OwnI w' W.heap.size (some ⟨g, 0, none⟩) n c (keptOf b) ∧ Below W.heap.size W w' :=
            fun W h => l13Kept_any L b w.heap.size W (by omega) (by have := h.size; omega) FIT.out.zp RP.out (HB4.out.below (h.mono (by omega))).pins
          have hRE : ∀ W, Below w4.heap.size w4 W → ∀ g n c, Ints W W.heap.size (some ⟨g, 0, none⟩) n (keptOf b) → Calls Tryz.prog 36 #[.slice L.A L.n L.c, .slice (some ⟨g, 0, none⟩) n c] W
              fun e w' => ∃ g n' c' l b', e = .returned (.tuple #[.slice (some ⟨g, 0, none⟩) n' c', .bool b']) ∧ Going b.cells (keptOf b) l [] b' ∧ OwnI w' W.heap.size (some ⟨g, 0, none⟩) n' c' l ∧ Below W.heap.size W w' :=
            fun W h g n c hi => l4Reach_any L.A L.n L.c b.cells (some ⟨g, 0, none⟩) n c (keptOf b) W.heap.size W FIT.out.cell RT.out (by have := keptOf_len b; omega) (fun h => by cases h) (Nat.le_refl _) ((HB4.out.below (h.mono (by omega))).cells.more (by have := h.size; omega)) hi
          have KP := Lib.hid hKP
          have RE := Lib.hid hRE
          clear hKP hRE hc
          go_wp2
          go_region_held3 (fun W => Below w4.heap.size w4 W) (first | exact (Below.refl _ _).drew | assumption)
            (first | (go_at_call 37
                      refine (KP.out _ (by assumption)).mono ?_
                      rintro e w5 ⟨g5, n5, c5, rfl, o5, b5⟩
                      have h5 := (by assumption : Below w4.heap.size w4 _).trans (b5.mono (by assumption : Below w4.heap.size w4 _).size))
                   | (go_at_call 36
                      refine (RE.out _ (by assumption) _ _ _ o5.ints).mono ?_
                      rintro e w6 ⟨g6, n6, c6, l6, r6, rfl, hgo, o6, b6⟩
                      have h6 := (by assumption : Below w4.heap.size w4 _).trans (b6.mono (by assumption : Below w4.heap.size w4 _).size)))
          have WH := Lib.hid hgo.whole_
          have B6 := Lib.hid (B4.out.trans (h6.mono s4))
          clear hgo h6 h5 b5 b6 o5 o6 hc0 hc1 hc2 hc3 hc4 hc5 hc6
          have s6 : w1.heap.size ≤ w6.heap.size := B6.out.size
          have HB6 := Lib.hid (HB.out.below (B6.out.mono s1))
          have q0 : w6.cell? ⟨w.heap.size, 0, none⟩ = some (.slice L.A L.n L.c) := by simpa using CE.out w6 B6.out 0
          have q1 : w6.cell? ⟨w.heap.size, 1, none⟩ = some (.int .i64 b.head) := by simpa using CE.out w6 B6.out 1
          have q2 : w6.cell? ⟨w.heap.size, 2, none⟩ = some (.slice L.Ap L.np L.cp) := by simpa using CE.out w6 B6.out 2
          have q3 : w6.cell? ⟨w.heap.size, 3, none⟩ = some (.int .i64 b.phase) := by simpa using CE.out w6 B6.out 3
          have q4 : w6.cell? ⟨w.heap.size, 4, none⟩ = some (.slice L.Ag L.ng L.cg) := by simpa using CE.out w6 B6.out 4
          have q5 : w6.cell? ⟨w.heap.size, 5, none⟩ = some (.slice L.Ab L.nb L.cb) := by simpa using CE.out w6 B6.out 5
          have q6 : w6.cell? ⟨w.heap.size, 6, none⟩ = some (.int .i64 b.cursor) := by simpa using CE.out w6 B6.out 6
          cases r6 with
          | false =>
            go_wp2
            go_ret
            exact FF.out _ B6.out (fun h => absurd (WH.out.2 h.1.whole) (by simp))
          | true =>
            have hpre : PreOk b := ⟨RT.out, by have := HH.out; omega, RP.out, PP.out, by omega, RB.out, WH.out.1 (by trivial)⟩
            have PRE := Lib.hid hpre
            clear hpre WH
            by_cases hp0 : b.phase = 0
            · have hb0 : (b.phase == 0) = true := by simp [hp0]
              have hb1 : (b.phase == 1) = false := by simp [hp0]
              have hb2 : (b.phase == 2) = false := by simp [hp0]
              have P0 := Lib.hid hp0
              clear hp0
              have hone : BaseGood b ↔ L.ng = 0 ∧ L.nb = 0 ∧ b.cursor = 0 := by
                constructor
                · rintro ⟨_, ⟨_, h1, h2, h3⟩ | ⟨h, _⟩ | ⟨h, _⟩⟩
                  · exact ⟨by rw [← hlg, h1]; rfl, by rw [← hlb, h2]; rfl, h3⟩
                  · rw [P0.out] at h; omega
                  · rw [P0.out] at h; omega
                · rintro ⟨h1, h2, h3⟩
                  exact ⟨PRE.out, .inl ⟨P0.out, List.eq_nil_of_length_eq_zero (by omega), List.eq_nil_of_length_eq_zero (by omega), h3⟩⟩
              have ONE := Lib.hid hone
              clear hone
              by_cases h1 : L.ng = 0
              case neg =>
                have hd : decide ((L.ng : Int) = 0) = false := decide_eq_false (by omega)
                have hd' : ((L.ng : Int) == 0) = false := by simpa using h1
                have hd'' : (L.ng == 0) = false := by simpa using h1
                have H1 := Lib.hid h1
                clear h1
                go_wp2
                go_ret
                exact FF.out _ B6.out (fun h => H1.out (ONE.out.1 h).1)
              case pos =>
                have hd : decide ((L.ng : Int) = 0) = true := decide_eq_true (by omega)
                have hd' : ((L.ng : Int) == 0) = true := by simpa using h1
                have hd'' : (L.ng == 0) = true := by simpa using h1
                have H1 := Lib.hid h1
                clear h1
                by_cases h2 : L.nb = 0
                case neg =>
                  have he : decide ((L.nb : Int) = 0) = false := decide_eq_false (by omega)
                  have he' : ((L.nb : Int) == 0) = false := by simpa using h2
                  have he'' : (L.nb == 0) = false := by simpa using h2
                  have H2 := Lib.hid h2
                  clear h2
                  go_wp2
                  go_ret
                  exact FF.out _ B6.out (fun h => H2.out (ONE.out.1 h).2.1)
                case pos =>
                  have he : decide ((L.nb : Int) = 0) = true := decide_eq_true (by omega)
                  have he' : ((L.nb : Int) == 0) = true := by simpa using h2
                  have he'' : (L.nb == 0) = true := by simpa using h2
                  have H2 := Lib.hid h2
                  clear h2
                  by_cases h3 : b.cursor = 0
                  · have hf : (b.cursor == 0) = true := by simpa using h3
                    have H3 := Lib.hid h3
                    clear h3
                    go_wp2
                    go_ret
                    exact TT.out _ B6.out (ONE.out.2 ⟨H1.out, H2.out, H3.out⟩)
                  · have hf : (b.cursor == 0) = false := by simpa using h3
                    have H3 := Lib.hid h3
                    clear h3
                    go_wp2
                    go_ret
                    exact FF.out _ B6.out (fun h => H3.out (ONE.out.1 h).2.2)
            · have hb0 : (b.phase == 0) = false := by simpa using hp0
              have P0 := Lib.hid hp0
              clear hp0
              by_cases hp1 : b.phase = 1
              · have hb1 : (b.phase == 1) = true := by simp [hp1]
                have P1 := Lib.hid hp1
                clear hp1
                go_wp2_with fail
                refine (l13Mark_any L b w.heap.size w6 FIT.out (by omega) HB6.out RT.out RP.out (by omega)).mono ?_
                rintro e w7 ⟨r, rfl, hr, b7⟩
                have HR := Lib.hid hr
                have B7 := Lib.hid (B6.out.trans (b7.mono s6))
                clear hr b7
                go_wp2
                go_ret
                refine ⟨r, rfl, ⟨fun h => ⟨PRE.out, .inr (.inl ⟨P1.out, HR.out.1 h⟩)⟩, ?_⟩, B1.out.trans (B7.out.mono s1)⟩
                rintro ⟨_, ⟨h, _⟩ | ⟨_, h⟩ | ⟨h, _⟩⟩
                · exact absurd h P0.out
                · exact HR.out.2 h
                · have := P1.out; omega
              · have hb1 : (b.phase == 1) = false := by simpa using hp1
                have P1 := Lib.hid hp1
                clear hp1
                by_cases hp2 : b.phase = 2
                · have hb2 : (b.phase == 2) = true := by simp [hp2]
                  have P2 := Lib.hid hp2
                  clear hp2
                  go_wp2_with fail
                  refine (l13Sweep_any L b w.heap.size w6 FIT.out (by omega) HB6.out RT.out RP.out RB.out (by omega)).mono ?_
                  rintro e w7 ⟨r, rfl, hr, b7⟩
                  have HR := Lib.hid hr
                  have B7 := Lib.hid (B6.out.trans (b7.mono s6))
                  clear hr b7
                  go_wp2
                  go_ret
                  refine ⟨r, rfl, ⟨fun h => ⟨PRE.out, .inr (.inr ⟨P2.out, HR.out.1 h⟩)⟩, ?_⟩, B1.out.trans (B7.out.mono s1)⟩
                  rintro ⟨_, ⟨h, _⟩ | ⟨h, _⟩ | ⟨_, h⟩⟩
                  · exact absurd h P0.out
                  · exact absurd h P1.out
                  · exact HR.out.2 h
                · have hb2 : (b.phase == 2) = false := by simpa using hp2
                  have P2 := Lib.hid hp2
                  clear hp2
                  go_wp2
                  go_ret
                  exact FF.out _ B6.out (fun h => by
                    rcases h.2 with ⟨h, _⟩ | ⟨h, _⟩ | ⟨h, _⟩
                    · exact P0.out h
                    · exact P1.out h
                    · exact P2.out h)
/-- the names that a right base keeps; none where it is not right. -/
def KeptIs (b : MBase) (l : List Int) : Prop := (BaseGood b ∧ l = keptOf b) ∨ (¬ BaseGood b ∧ l = [])
theorem KeptIs.one {b : MBase} {l l' : List Int} (h : KeptIs b l) (h' : KeptIs b l') : l = l' := by
  rcases h with ⟨a, rfl⟩ | ⟨a, rfl⟩ <;> rcases h' with ⟨a', rfl⟩ | ⟨a', rfl⟩
  · rfl
  · exact absurd a a'
  · exact absurd a' a
  · rfl
theorem keptBy_bd {b : MBase} {l : List Int} {P : Prop} (h : KeptIs b l) (_ : P) : l.length ≤ 7 := by
  rcases h with ⟨a, rfl⟩ | ⟨_, rfl⟩
  · have := keptOf_len b
    have := a.1.few
    omega
  · simp
def GaveKept (w : World) (b : MBase) (e : Ending) (w' : World) : Prop := ∃ A n c l, e = .returned (.slice A n c) ∧ KeptIs b l ∧ OwnI w' w.heap.size A n c l ∧ Below w.heap.size w w'
theorem specKeptBy_any (L : BLay) (b : MBase) (B : Nat) (w : World) (fit : BaseFit L b) (hB : B ≤ w.heap.size) (hb : BaseIn w B L b) :
    Calls Tryz.prog 12 #[L.v b] w (GaveKept w b) := by
  have FIT := Lib.hid fit
  have HB0 := Lib.hid (hb.more hB)
  have hsum := fit.sum
  obtain ⟨w1, hw1⟩ : ∃ w1, w.alloc (.cells #[.slice L.A L.n L.c, .int .i64 b.head, .slice L.Ap L.np L.cp, .int .i64 b.phase, .slice L.Ag L.ng L.cg, .slice L.Ab L.nb L.cb, .int .i64 b.cursor] 30) = w1 := ⟨_, rfl⟩
  have x1 : Box w1 w.heap.size _ _ := hw1 ▸ heap_alloc_new _ _
  have b1 : Below w.heap.size w w1 := hw1 ▸ (Below.refl _ _).alloc (Nat.le_refl _) _
  have X1 := Lib.hid x1
  have B1 := Lib.hid b1
  have HB := Lib.hid (HB0.out.below b1)
  have s1 : w.heap.size ≤ w1.heap.size := b1.size
  have hxl : w.heap.size < w1.heap.size := x1.lt
  have hcell : ∀ W, Below w1.heap.size w1 W → ∀ k, W.cell? ⟨w.heap.size, k, none⟩ = (#[.slice L.A L.n L.c, .int .i64 b.head, .slice L.Ap L.np L.cp, .int .i64 b.phase, .slice L.Ag L.ng L.cg, .slice L.Ab L.nb L.cb, .int .i64 b.cursor] : Array Value)[k]? := fun W hW k => (X1.out.below hW hxl).cell k
  have CE := Lib.hid hcell
  have q0 : w1.cell? ⟨w.heap.size, 0, none⟩ = some (.slice L.A L.n L.c) := by simpa using hcell w1 (Below.refl _ _) 0
  have q1 : w1.cell? ⟨w.heap.size, 1, none⟩ = some (.int .i64 b.head) := by simpa using hcell w1 (Below.refl _ _) 1
  have q2 : w1.cell? ⟨w.heap.size, 2, none⟩ = some (.slice L.Ap L.np L.cp) := by simpa using hcell w1 (Below.refl _ _) 2
  have q3 : w1.cell? ⟨w.heap.size, 3, none⟩ = some (.int .i64 b.phase) := by simpa using hcell w1 (Below.refl _ _) 3
  have q4 : w1.cell? ⟨w.heap.size, 4, none⟩ = some (.slice L.Ag L.ng L.cg) := by simpa using hcell w1 (Below.refl _ _) 4
  have q5 : w1.cell? ⟨w.heap.size, 5, none⟩ = some (.slice L.Ab L.nb L.cb) := by simpa using hcell w1 (Below.refl _ _) 5
  have q6 : w1.cell? ⟨w.heap.size, 6, none⟩ = some (.int .i64 b.cursor) := by simpa using hcell w1 (Below.refl _ _) 6
  clear x1 b1 HB0 hcell hb fit
  unfold BLay.v
  go_enter Tryz.func12, Tryz.ntmps12
  go_wp2_with fail
  refine (specBaseOk_any L b w.heap.size w1 FIT.out s1 HB.out).mono ?_
  rintro e w2 ⟨r, rfl, hr, b2⟩
  have HR := Lib.hid hr
  have B2 := Lib.hid b2
  have s2 : w1.heap.size ≤ w2.heap.size := b2.size
  have HB2 := Lib.hid (HB.out.below (b2.mono s1))
  clear hr b2 q0 q1 q2 q3 q4 q5 q6
  have q0 : w2.cell? ⟨w.heap.size, 0, none⟩ = some (.slice L.A L.n L.c) := by simpa using CE.out w2 B2.out 0
  have q1 : w2.cell? ⟨w.heap.size, 1, none⟩ = some (.int .i64 b.head) := by simpa using CE.out w2 B2.out 1
  have q2 : w2.cell? ⟨w.heap.size, 2, none⟩ = some (.slice L.Ap L.np L.cp) := by simpa using CE.out w2 B2.out 2
  have q3 : w2.cell? ⟨w.heap.size, 3, none⟩ = some (.int .i64 b.phase) := by simpa using CE.out w2 B2.out 3
  have q4 : w2.cell? ⟨w.heap.size, 4, none⟩ = some (.slice L.Ag L.ng L.cg) := by simpa using CE.out w2 B2.out 4
  have q5 : w2.cell? ⟨w.heap.size, 5, none⟩ = some (.slice L.Ab L.nb L.cb) := by simpa using CE.out w2 B2.out 5
  have q6 : w2.cell? ⟨w.heap.size, 6, none⟩ = some (.int .i64 b.cursor) := by simpa using CE.out w2 B2.out 6
  cases r with
  | false =>
    have NO := Lib.hid (fun h => absurd (HR.out.2 h) (by simp) : ¬ BaseGood b)
    go_wp2
    go_ret
    exact ⟨_, _, _, [], rfl, .inr ⟨NO.out, rfl⟩, OwnI.base (OwnI.empty w2 w2.heap.size (Nat.le_refl _)) (by omega), (B1.out.trans (B2.out.mono s1)).trans (((Below.refl _ _).alloc (Nat.le_refl _) _).mono (by omega))⟩
  | true =>
    have GB := Lib.hid (HR.out.1 (by trivial))
    go_wp2_with fail
    refine (l13Kept_any L b w.heap.size w2 (by have h1 := GB.out.1.few; have h2 := HB2.out.pins.1; omega) (by omega) FIT.out.zp GB.out.1.rise HB2.out.pins).mono ?_
    rintro e w3 ⟨g3, n3, c3, rfl, o3, b3⟩
    have O3 := Lib.hid o3
    have B3 := Lib.hid b3
    clear o3 b3
    go_wp2
    go_ret
    exact ⟨_, _, _, keptOf b, rfl, .inl ⟨GB.out, rfl⟩, O3.out.base (by omega), (B1.out.trans (B2.out.mono s1)).trans (B3.out.mono (by omega))⟩
end Go.Proofs.YtigdcmfmaehjfaaGreat

-- RowL: Plain laws of rows of cells: what copying into one makes; rows put together. No statement of the program is proved here.
namespace Go.Proofs.YtigdcmfmaehjfaaGreat
set_option maxRecDepth 20000
set_option linter.unusedVariables false
set_option linter.unusedSimpArgs false
open Go.RowKit

/-- copy into a row, at elements of any size. -/
theorem run_copy_wide {P : Program} (w : World) (dT sT ty elem : TypeId) (size g o dLen dCap m : Nat) (a : Addr) (sLen sCap : Nat) (cur : Array Value) (t : TypeId) (cs : List Value)
    (hu : P.underlying dT = some (.slice elem)) (hs : (P.info? elem).map (·.size) = some size)
    (hg : w.heap[g]? = some (.cells cur t (0, 0))) (hm : m = Nat.min sLen dLen) (hn : cs.length = m * size)
    (hsrc : ∀ j v, cs[j]? = some v → w.cell? (a.add j) = some v) (hfit : o + cs.length ≤ cur.size) (h1 : ∀ v ∈ cs, v.oneCell' = true) :
    (Builtin.copy_ #[dT, sT] ty #[.slice (some ⟨g, o, none⟩) dLen dCap, .slice (some a) sLen sCap]).run P w =
      .ok (goInt m) (w.setRow g (cur.toList.take o ++ cs ++ cur.toList.drop (o + cs.length)).toArray) := by
  have hl := run_loadCells_list (P := P) w a cs hsrc
  have hst := run_storeCells_at P g o t cs 0 cur w hg (by simpa using hfit) h1
  cases hq : P.info? elem with
  | none => simp [hq] at hs
  | some i =>
    have hi : i.size = size := by simpa [hq] using hs
    simp [Builtin.copy_, run_underlying hu, Builtin.lenOf, Builtin.firstCells, sizeOf, typeInfo, hq, hi, ← hm, ← hn, hl, hst]

/-- a row with others put in at a place. -/
def putAt (xs us : List Value) (k : Nat) : List Value := xs.take k ++ us ++ xs.drop k
theorem putAt_len (xs us : List Value) (k : Nat) : (putAt xs us k).length = xs.length + us.length := by
  unfold putAt
  simp
  omega
theorem setRow_drew (w : World) (g : Nat) (cs : Array Value) : (w.setRow g cs).drew = w.drew.setRow g cs := rfl
theorem heap_setRow_other (w : World) (g k : Nat) (cs : Array Value) (h : k ≠ g) : (w.setRow g cs).heap[k]? = w.heap[k]? := setRow_other w g k cs h
theorem setRow_twice (w : World) (g : Nat) (a b : Array Value) : (w.setRow g a).setRow g b = w.setRow g b := setRow_setRow w g a b
/-- what two copies make of a row: first the tail moves up, then the new ones come in. -/
theorem shift_row (cur us xs : List Value) (k m : Nat) (hx : cur.take xs.length = xs) (hk : k ≤ xs.length) (hu : us.length = m) (hc : xs.length + m ≤ cur.length) :
    let c1 := cur.take (k + m) ++ xs.drop k ++ cur.drop (k + m + (xs.drop k).length)
    (c1.take k ++ us ++ c1.drop (k + us.length)).take (xs.length + m) = putAt xs us k ∧ (c1.take k ++ us ++ c1.drop (k + us.length)).length = cur.length := by
  intro c1
  have hl1 : c1.length = cur.length := by simp [c1]; omega
  have hxl : xs.length ≤ cur.length := by omega
  have hat : ∀ j, j < xs.length → cur[j]? = xs[j]? := fun j hj => by have := congrArg (·[j]?) hx; simp only [List.getElem?_take, if_pos hj] at this; exact this
  refine ⟨?_, by simp [hl1]; omega⟩
  apply List.ext_getElem?
  intro j
  unfold putAt
  by_cases hj : j < xs.length + m
  · rw [List.getElem?_take, if_pos hj]
    have hkc : min k cur.length = k := by omega
    by_cases h1 : j < k
    · have e1 : (c1.take k ++ us ++ c1.drop (k + us.length))[j]? = xs[j]? := by
        rw [List.append_assoc, List.getElem?_append_left (by simp [hl1]; omega), List.getElem?_take, if_pos h1]
        simp only [c1]
        rw [List.append_assoc, List.getElem?_append_left (by simp; omega), List.getElem?_take, if_pos (by omega)]
        exact hat j (by omega)
      rw [e1, List.append_assoc, List.getElem?_append_left (by simp; omega), List.getElem?_take, if_pos h1]
    · by_cases h2 : j < k + m
      · have e1 : (c1.take k ++ us ++ c1.drop (k + us.length))[j]? = us[j - k]? := by
          rw [List.append_assoc, List.getElem?_append_right (by simp [hl1]; omega), List.getElem?_append_left (by simp [hl1]; omega)]
          congr 1
          simp [hl1]; omega
        rw [e1, List.append_assoc, List.getElem?_append_right (by simp; omega), List.getElem?_append_left (by simp; omega)]
        congr 1
        simp; omega
      · have e1 : (c1.take k ++ us ++ c1.drop (k + us.length))[j]? = c1[j]? := by
          rw [List.append_assoc, List.getElem?_append_right (by simp [hl1]; omega), List.getElem?_append_right (by simp [hl1]; omega), List.getElem?_drop]
          congr 1
          simp [hl1]; omega
        rw [e1]
        simp only [c1]
        rw [List.append_assoc, List.getElem?_append_right (by simp; omega), List.getElem?_append_left (by simp; omega), List.getElem?_drop]
        rw [List.append_assoc (xs.take k), List.getElem?_append_right (by simp; omega), List.getElem?_append_right (by simp; omega), List.getElem?_drop]
        congr 1
        simp; omega
  · rw [List.getElem?_take, if_neg hj, List.getElem?_eq_none (by simp; omega)]
/-- a row that two copies fill. -/
theorem grow_row (xs us zs : List Value) (k m : Nat) (hk : k ≤ xs.length) (hu : us.length = m) (hz : xs.length - k + m ≤ zs.length) :
    let c0 := xs.take k ++ zs
    let c1 := c0.take k ++ us ++ c0.drop (k + us.length)
    (c1.take (k + m) ++ xs.drop k ++ c1.drop (k + m + (xs.drop k).length)).take (xs.length + m) = putAt xs us k ∧ (c1.take (k + m) ++ xs.drop k ++ c1.drop (k + m + (xs.drop k).length)).length = c0.length := by
  intro c0 c1
  have l0 : c0.length = k + zs.length := by simp [c0]; omega
  have l1 : c1.length = c0.length := by simp [c1, l0]; omega
  refine ⟨?_, by simp [l1, l0]; omega⟩
  apply List.ext_getElem?
  intro j
  unfold putAt
  by_cases hj : j < xs.length + m
  · rw [List.getElem?_take, if_pos hj]
    by_cases h1 : j < k + m
    · rw [List.append_assoc, List.getElem?_append_left (by simp [l1, l0]; omega), List.getElem?_take, if_pos h1, List.getElem?_append_left (by simp; omega)]
      have e0 : c0.take k = xs.take k := by
        simp only [c0]
        rw [List.take_append_of_le_length (by simp; omega), List.take_take, Nat.min_self]
      rw [e0]
      conv => rhs; rw [List.getElem?_append_left (by simp; omega)]
    · rw [List.append_assoc, List.getElem?_append_right (by simp [l1, l0]; omega), List.getElem?_append_left (by simp [l1, l0]; omega), List.getElem?_append_right (by simp; omega)]
      congr 1
      simp [l1, l0]; omega
  · rw [List.getElem?_take, if_neg hj, List.getElem?_eq_none (by simp; omega)]
theorem own_parts {w : World} {base size n cap g : Nat} {e : TypeId} {xs : List Value} (h : w.ownsRow base e size (.slice (some ⟨g, 0, none⟩) n cap) n xs) :
    ∃ cur, base ≤ g ∧ w.heap[g]? = some (.cells cur e (0, 0)) ∧ n ≤ cap ∧ cap ≤ maxLen ∧ cur.size = cap * size ∧ cur.toList.take (n * size) = xs := by
  rcases h.2 with ⟨h, _⟩ | ⟨g', cap', cur, hv, h1, h2, h3, h4, h5, h6⟩
  · cases h
  · cases hv
    exact ⟨cur, h1, h2, h3, h4, h5, h6⟩
theorem own_mk {w : World} {base size n cap g : Nat} {e : TypeId} {xs : List Value} (cur : Array Value) (hl : xs.length = n * size) (h1 : base ≤ g) (h2 : w.heap[g]? = some (.cells cur e (0, 0))) (h3 : n ≤ cap) (h4 : cap ≤ maxLen) (h5 : cur.size = cap * size) (h6 : cur.toList.take (n * size) = xs) :
    w.ownsRow base e size (.slice (some ⟨g, 0, none⟩) n cap) n xs := ⟨hl, .inr ⟨g, cap, cur, rfl, h1, h2, h3, h4, h5, h6⟩⟩
theorem own_cap {w : World} {base size n c : Nat} {A : Option Addr} {e : TypeId} {xs : List Value} (h : w.ownsRow base e size (.slice A n c) n xs) : n ≤ c ∧ c ≤ maxLen ∧ (A = none → c = 0) := by
  rcases h.2 with ⟨h, rfl⟩ | ⟨g', cap', cur, hv, h1, h2, h3, h4, h5, h6⟩
  · cases h; exact ⟨Nat.le_refl _, by unfold maxLen; omega, fun _ => rfl⟩
  · cases hv; exact ⟨h3, h4, fun h => by cases h⟩
theorem own_none {w : World} {base size n c : Nat} {A : Option Addr} {e : TypeId} {xs : List Value} (h : w.ownsRow base e size (.slice A n c) n xs) : (A = none ∧ n = 0 ∧ c = 0) ∨ ∃ g, A = some ⟨g, 0, none⟩ := by
  rcases h.2 with ⟨h, rfl⟩ | ⟨g', cap', cur, hv, _⟩
  · cases h; exact .inl ⟨rfl, rfl, rfl⟩
  · cases hv; exact .inr ⟨g', rfl⟩
theorem grown_setRow (w : World) (g : Nat) (cs : Array Value) : w.grownBy (w.setRow g cs) (some g) :=
  ⟨rfl, rfl, rfl, by simp, fun k _ hk => setRow_other w g k _ (fun e => hk (by rw [e]))⟩
end Go.Proofs.YtigdcmfmaehjfaaGreat

-- Srch: slices.BinarySearch at int64, as the program calls it; where a number belongs in a list that rises. No statement of the program is proved here.
namespace Go.Proofs.YtigdcmfmaehjfaaGreat
set_option maxRecDepth 100000
set_option linter.unusedVariables false
set_option linter.unusedSimpArgs false
open Go.RowKit

/-- how many of a list that rises are below a number: where it stands, or would. -/
def lowI (l : List Int) (m : Int) : Nat := l.findIdx fun x => decide (m ≤ x)
theorem lowI_le (l : List Int) (m : Int) : lowI l m ≤ l.length := List.findIdx_le_length
theorem lowI_below (l : List Int) (m : Int) (j : Nat) (h : j < lowI l m) : l[j]?.getD 0 < m := by
  have hl := lowI_le l m
  have h2 := List.not_of_lt_findIdx (show j < l.findIdx fun x => decide (m ≤ x) from h)
  rw [List.getElem?_eq_getElem (by omega)]
  simpa using h2
theorem lowI_above (l : List Int) (m : Int) (h : lowI l m < l.length) : m ≤ l[lowI l m]?.getD 0 := by
  have h2 := List.findIdx_getElem (w := show l.findIdx (fun x => decide (m ≤ x)) < l.length from h)
  have h2 : m ≤ l[lowI l m] := of_decide_eq_true h2
  rw [List.getElem?_eq_getElem h]
  exact h2
theorem lowI_at (l : List Int) (m : Int) (k : Nat) (hk : k ≤ l.length) (h0 : ∀ j, j < k → l[j]?.getD 0 < m) (h1 : k < l.length → m ≤ l[k]?.getD 0) : lowI l m = k := by
  have hle := lowI_le l m
  rcases Nat.lt_trichotomy (lowI l m) k with h | h | h
  · have h2 := lowI_above l m (by omega)
    have h3 := h0 _ h
    omega
  · exact h
  · have h2 := lowI_below l m k h
    have := h1 (by omega)
    omega
theorem riseI_le (l : List Int) (h : RiseI l) (i j : Nat) (hij : i ≤ j) (hj : j < l.length) : l[i]?.getD 0 ≤ l[j]?.getD 0 := by
  rcases Nat.lt_or_ge i j with h1 | h1
  · have := riseI_at l h i j h1 hj; omega
  · obtain rfl : i = j := by omega
    omega
/-- the number is there. -/
def hitI (l : List Int) (m : Int) : Bool := decide (lowI l m < l.length ∧ l[lowI l m]?.getD 0 = m)
theorem hitI_mem (l : List Int) (m : Int) (h : RiseI l) : hitI l m = true ↔ m ∈ l := by
  unfold hitI
  rw [decide_eq_true_iff]
  constructor
  · rintro ⟨h1, h2⟩
    rw [List.getElem?_eq_getElem h1] at h2
    have h2 : l[lowI l m] = m := h2
    rw [← h2]
    exact List.getElem_mem h1
  · intro hm
    obtain ⟨i, hi, e⟩ := List.mem_iff_getElem.1 hm
    have hk : lowI l m = i := lowI_at l m i (by omega) (fun j hj => by
      have := riseI_at l h j i hj hi
      rw [List.getElem?_eq_getElem hi] at this
      have e' : (some l[i]).getD 0 = m := e
      omega) (fun _ => by rw [List.getElem?_eq_getElem hi]; exact Int.le_of_eq e.symm)
    rw [hk]
    exact ⟨hi, by rw [List.getElem?_eq_getElem hi]; exact e⟩
theorem lowI_place (l : List Int) (m : Int) (h : m ∉ l) : lowI l m = placeI l m := by
  refine (placeI_at l m (lowI l m) (lowI_le l m) (fun j hj => by have := lowI_below l m j hj; omega) (fun hk => ?_)).symm
  have h1 := lowI_above l m hk
  rw [List.getElem?_eq_getElem hk] at h1 ⊢
  rcases Int.lt_or_eq_of_le h1 with h2 | h2
  · exact h2
  · have h2 : m = l[lowI l m] := h2
    exact absurd (h2 ▸ List.getElem_mem hk) h

theorem isNaNc_any (x : Int) (w : World) : Calls Tryz.prog 203 #[.int .i64 x] w fun e w' => e = .returned (.bool false) ∧ w' = w := by
  have mixed : Tryz.prog.follows .mixedOrders = true := by kernel_rfl
  go_enter Tryz.func203, Tryz.ntmps203
  go_wp2
  go_ret
  exact ⟨by simp, rfl⟩
theorem isNaNs_any (x : Int) (w : World) : Calls Tryz.prog 155 #[.int .i64 x] w fun e w' => e = .returned (.bool false) ∧ w' = w := by
  have mixed : Tryz.prog.follows .mixedOrders = true := by kernel_rfl
  go_enter Tryz.func155, Tryz.ntmps155
  go_wp2
  go_ret
  exact ⟨by simp, rfl⟩
theorem lessI_any (x y : Int) (w : World) : Calls Tryz.prog 154 #[.int .i64 x, .int .i64 y] w fun e w' => e = .returned (.bool (decide (x < y))) ∧ w' = w := by
  have mixed : Tryz.prog.follows .mixedOrders = true := by kernel_rfl
  go_enter Tryz.func154, Tryz.ntmps154
  go_wp2_with (go_at_call 203; refine (isNaNc_any _ _).mono ?_; rintro e w' ⟨rfl, rfl⟩)
  go_ret
  exact ⟨rfl, rfl⟩
set_option maxHeartbeats 4000000 in
theorem search_any (A : Option Addr) (n c : Nat) (l : List Int) (m : Int) (B : Nat) (w : World) (hn : n ≤ 1048576) (hb : Ints w B A n l) (hr : RiseI l) :
    Calls Tryz.prog 114 #[.slice A n c, .int .i64 m] w fun e w' => e = .returned (.tuple #[.int .i64 (lowI l m : Nat), .bool (hitI l m)]) ∧ ∃ q, w' = w.drewN q := by
  have mixed : Tryz.prog.follows .mixedOrders = true := by kernel_rfl
  have hlen := hb.1
  have HB := Lib.hid hb
  have HR := Lib.hid hr
  clear hb hr
  go_enter Tryz.func114, Tryz.ntmps114
  go_wp2
  go_loopw [7, 8] (fun s7 s8 wr => ∃ lo hi q : Nat, s7 = .int .i64 lo ∧ s8 = .int .i64 hi ∧ lo ≤ hi ∧ hi ≤ n ∧ wr = w.drewN q ∧ (∀ t, t < lo → l[t]?.getD 0 < m) ∧ (∀ t, hi ≤ t → t < n → m ≤ l[t]?.getD 0)) (fun s7 s8 _ => (intOf s8).toNat - (intOf s7).toNat)
  case atStart => exact ⟨0, n, 0, rfl, rfl, Nat.zero_le _, Nat.le_refl _, rfl, fun t ht => absurd ht (Nat.not_lt_zero _), fun t h1 h2 => by omega⟩
  case round =>
    obtain ⟨lo, hi, q, rfl, rfl, hlh, hin, hwq, h1, h2⟩ := hrel
    have H1 := Lib.hid h1
    have H2 := Lib.hid h2
    have HQ := Lib.hid hwq
    clear h1 h2
    by_cases hlt : lo < hi
    · obtain ⟨b, off, rfl, hbB, hcell⟩ := HB.out.2 (by omega)
      have cm : wr.cell? ⟨b, off + (lo + hi) / 2, none⟩ = some (.int .i64 (l[(lo + hi) / 2]?.getD 0)) := by rw [hwq]; exact hcell _ (by omega)
      clear hcell hwq
      obtain ⟨y, hy⟩ : ∃ y, l[(lo + hi) / 2]?.getD 0 = y := ⟨_, rfl⟩
      rw [hy] at cm
      have Y := Lib.hid hy
      clear hy
      by_cases hyx : y < m
      · go_wp2_with (go_at_call 154; refine (lessI_any _ _ _).mono ?_; rintro e w' ⟨rfl, rfl⟩)
        go_roundw
        case measure => simp [intOf]; omega
        case rel =>
          refine ⟨(lo + hi) / 2 + 1, hi, q, by go_num, rfl, by omega, hin, HQ.out, fun t ht => ?_, H2.out⟩
          have := riseI_le l HR.out t ((lo + hi) / 2) (by omega) (by omega)
          rw [Y.out] at this
          omega
      · go_wp2_with (go_at_call 154; refine (lessI_any _ _ _).mono ?_; rintro e w' ⟨rfl, rfl⟩)
        go_roundw
        case measure => simp [intOf]; omega
        case rel =>
          refine ⟨lo, (lo + hi) / 2, q, rfl, by go_num, by omega, by omega, HQ.out, H1.out, fun t h3 h4 => ?_⟩
          have := riseI_le l HR.out ((lo + hi) / 2) t h3 (by omega)
          rw [Y.out] at this
          omega
    · obtain rfl : lo = hi := by omega
      have hlow : lowI l m = lo := lowI_at l m lo (by omega) H1.out (fun h => H2.out lo (Nat.le_refl _) (by omega))
      have HL := Lib.hid hlow
      have hfin : hitI l m = decide (lo < n ∧ l[lo]?.getD 0 = m) := by unfold hitI; rw [hlow, hlen]
      have HF := Lib.hid hfin
      clear hlow hfin
      by_cases hn2 : lo < n
      · obtain ⟨b, off, rfl, hbB, hcell⟩ := HB.out.2 (by omega)
        have cm : wr.cell? ⟨b, off + lo, none⟩ = some (.int .i64 (l[lo]?.getD 0)) := by rw [hwq]; exact hcell _ (by omega)
        clear hcell hwq
        obtain ⟨y, hy⟩ : ∃ y, l[lo]?.getD 0 = y := ⟨_, rfl⟩
        rw [hy] at cm
        have Y := Lib.hid hy
        clear hy
        by_cases hyx : y = m
        · go_wp2_with (first | (go_at_call 154; refine (lessI_any _ _ _).mono ?_; rintro e w' ⟨rfl, rfl⟩) | (go_at_call 155; refine (isNaNs_any _ _).mono ?_; rintro e w' ⟨rfl, rfl⟩))
          go_ret2
          refine ⟨?_, q, HQ.out⟩
          rw [HL.out, HF.out, Y.out, decide_eq_true (show lo < n ∧ y = m from ⟨hn2, hyx⟩)]
          first | rfl | simp [*]
        · go_wp2_with (first | (go_at_call 154; refine (lessI_any _ _ _).mono ?_; rintro e w' ⟨rfl, rfl⟩) | (go_at_call 155; refine (isNaNs_any _ _).mono ?_; rintro e w' ⟨rfl, rfl⟩))
          go_ret2
          refine ⟨?_, q, HQ.out⟩
          rw [HL.out, HF.out, Y.out, decide_eq_false (show ¬ (lo < n ∧ y = m) from fun h => hyx h.2)]
          first | rfl | simp [*]
      · clear hwq
        go_wp2_with (first | (go_at_call 154; refine (lessI_any _ _ _).mono ?_; rintro e w' ⟨rfl, rfl⟩) | (go_at_call 155; refine (isNaNs_any _ _).mono ?_; rintro e w' ⟨rfl, rfl⟩))
        go_ret2
        refine ⟨?_, q, HQ.out⟩
        rw [HL.out, HF.out, decide_eq_false (show ¬ (lo < n ∧ l[lo]?.getD 0 = m) from fun h => hn2 h.1)]
        first | rfl | simp [*]
end Go.Proofs.YtigdcmfmaehjfaaGreat

-- RightM: Plain facts on what the program asks of a base: whether names rise, whether it is right. No statement of the program is proved here.
namespace Go.Proofs.YtigdcmfmaehjfaaGreat
set_option maxRecDepth 20000
set_option linter.unusedVariables false
set_option linter.unusedSimpArgs false
open Go.RowKit

/-- it answers whether P holds. -/
def SaysB (e : Ending) (P : Prop) : Prop := ∃ r, e = .returned (.bool r) ∧ (r = true ↔ P)
theorem SaysB.t {P : Prop} (h : P) : SaysB (.returned (.bool true)) P := ⟨true, rfl, iff_of_true rfl h⟩
theorem SaysB.f {P : Prop} (h : ¬ P) : SaysB (.returned (.bool false)) P := ⟨false, rfl, iff_of_false (by simp) h⟩
/-- the one ahead of the k-th. -/
def lastI (l : List Int) (k : Nat) : Int := if k = 0 then 0 else l[k - 1]?.getD 0
/-- each above 0 and above the one ahead of it. -/
def Rises (l : List Int) : Prop := RiseI l ∧ ∀ x, x ∈ l → 1 ≤ x
theorem Rises.take {l : List Int} (h : Rises l) (k : Nat) : Rises (l.take k) := ⟨h.1.sublist (List.take_sublist k l), fun x hx => h.2 x (List.mem_of_mem_take hx)⟩
theorem rises_nil : Rises [] := ⟨List.Pairwise.nil, fun x hx => by cases hx⟩
theorem lastI_succ (l : List Int) (k : Nat) : lastI l (k + 1) = l[k]?.getD 0 := by simp [lastI]
theorem rises_step (l : List Int) (k : Nat) (hk : k < l.length) : Rises (l.take (k + 1)) ↔ Rises (l.take k) ∧ lastI l k < l[k]?.getD 0 := by
  have e : l.take (k + 1) = l.take k ++ [l[k]] := List.take_succ_eq_append_getElem hk
  have ek : l[k]?.getD 0 = l[k] := by rw [List.getElem?_eq_getElem hk]; rfl
  constructor
  · intro h
    have ht : Rises (l.take k) := by
      have := h.take k
      rwa [List.take_take, Nat.min_eq_left (by omega)] at this
    refine ⟨ht, ?_⟩
    rw [ek]
    have hx : 1 ≤ l[k] := h.2 _ (e ▸ List.mem_append.2 (.inr (List.mem_singleton.2 rfl)))
    rcases Nat.eq_zero_or_pos k with h0 | h0
    · subst h0; unfold lastI; simp; omega
    · unfold lastI
      rw [if_neg (by omega)]
      have h1 := h.1
      rw [e] at h1
      refine (List.pairwise_append.1 h1).2.2 _ ?_ _ (by simp)
      rw [List.getElem?_eq_getElem (by omega)]
      exact List.mem_take_iff_getElem.2 ⟨k - 1, by omega, rfl⟩
  · rintro ⟨h, hl⟩
    rw [ek] at hl
    have hall : ∀ a, a ∈ l.take k → 1 ≤ lastI l k ∧ a ≤ lastI l k := by
      intro a ha
      have h1 := h.2 a ha
      obtain ⟨i, hi, rfl⟩ := List.mem_iff_getElem.1 ha
      have hik : i < k := by simp at hi; omega
      have hle := riseI_le (l.take k) h.1 i (k - 1) (by omega) (by simp; omega)
      have e1 : (l.take k)[i]?.getD 0 = (l.take k)[i] := by rw [List.getElem?_eq_getElem hi]; rfl
      have e2 : (l.take k)[k - 1]?.getD 0 = lastI l k := by
        unfold lastI
        rw [if_neg (by omega), List.getElem?_take, if_pos (by omega)]
      rw [e1, e2] at hle
      exact ⟨by omega, hle⟩
    have hpos : 1 ≤ l[k] := by
      rcases Nat.eq_zero_or_pos k with h0 | h0
      · subst h0; unfold lastI at hl; simp at hl; omega
      · have := (hall l[0] (List.mem_take_iff_getElem.2 ⟨0, by omega, rfl⟩)).1
        omega
    rw [e]
    refine ⟨List.pairwise_append.2 ⟨h.1, by simp, fun a ha b hb => ?_⟩, fun x hx => ?_⟩
    · simp at hb; subst hb
      have := (hall a ha).2
      omega
    · rcases List.mem_append.1 hx with hx | hx
      · exact h.2 x hx
      · simp at hx; subst hx; exact hpos
theorem rises_no {l : List Int} {k : Nat} (hk : k < l.length) (h : ¬ lastI l k < l[k]?.getD 0) : ¬ Rises l := fun hr => h ((rises_step l k hk).1 (hr.take (k + 1))).2

theorem sort_perm (l : List Int) : (l.mergeSort fun x y => decide (x ≤ y)).Perm l := List.mergeSort_perm _ _
theorem sort_pair (l : List Int) : (l.mergeSort fun x y => decide (x ≤ y)).Pairwise (fun x y => x ≤ y) := by
  have h := List.pairwise_mergeSort (le := fun x y : Int => decide (x ≤ y)) (fun a b c h1 h2 => by simp at *; omega) (fun a b => by simp; omega) l
  exact h.imp (fun h => by simpa using h)
theorem rises_sort (l : List Int) : Rises (l.mergeSort fun x y => decide (x ≤ y)) ↔ l.Nodup ∧ ∀ x, x ∈ l → 1 ≤ x := by
  have hp := sort_perm l
  constructor
  · rintro ⟨h1, h2⟩
    exact ⟨hp.nodup_iff.1 (riseI_nodup _ h1), fun x hx => h2 x (hp.mem_iff.2 hx)⟩
  · rintro ⟨h1, h2⟩
    refine ⟨?_, fun x hx => h2 x (hp.mem_iff.1 hx)⟩
    have hn := hp.nodup_iff.2 h1
    have hs := sort_pair l
    unfold RiseI
    refine (List.Pairwise.and hs hn).imp ?_
    rintro a b ⟨h1, h2⟩
    omega

/-- the cells are right, but that there may be too many. -/
def Sound (cs : List (Int × List Int)) : Prop := ∀ i, i < cs.length → CellAt cs i
theorem sound_right (cs : List (Int × List Int)) : Right cs ↔ cs.length ≤ 80 ∧ Sound cs := Iff.rfl
theorem Right.named {cs : List (Int × List Int)} (h : Right cs) {x : Int} (hx : findC cs x < cs.length) : 1 ≤ x := by
  have h1 := (h.2 _ hx).2.1
  rw [findC_is cs x hx] at h1
  rw [← h1]
  exact (nameOf_bd _).1
theorem good_black {b : MBase} (h : BaseGood b) : Rises b.black ∧ Named b.cells b.black := by
  have hn : Named b.cells b.black := by
    rcases h.2 with ⟨_, _, e, _⟩ | ⟨_, hm⟩ | ⟨_, hs⟩
    · rw [e]; intro x hx; cases hx
    · intro x hx; exact hm.names x (List.mem_append.2 (.inr hx))
    · exact hs.names
  exact ⟨⟨h.1.black, fun x hx => h.1.cells.named (hn x hx)⟩, hn⟩
theorem good_pins {b : MBase} (h : BaseGood b) : Rises b.pins := ⟨h.1.rise, h.1.pos⟩
/-- once the plain things are known, it hangs on the phase. -/
theorem pre_ok {b : MBase} (hc : Right b.cells) (h6 : b.pins.length ≤ 6) (hp : Rises b.pins) (hb : Rises b.black) (hw : Whole b.cells (keptOf b)) : PreOk b := by
  refine ⟨hc, ?_, hp.1, hp.2, h6, hb.1, hw⟩
  rcases Int.lt_or_le b.head 0 with h | h
  · have h1 := hc.named (hw b.head (Reached.root ((keptOf_mem b b.head).2 (.inr ⟨rfl, by omega⟩)) (by omega)))
    omega
  · exact h
theorem good_whole {b : MBase} (h : BaseGood b) : Whole b.cells (keptOf b) := h.1.whole
/-- what is asked while it marks. -/
theorem mark_iff {b : MBase} (hc : Right b.cells) (hb : Rises b.black) (hbn : Named b.cells b.black) :
    MarkOk b ↔ ((Named b.cells b.grey ∧ b.grey.Nodup ∧ Whole b.cells b.grey ∧ ∀ x, x ∈ b.grey → x ∉ b.black) ∧ ((∀ y k, y ∈ b.black → KidOf b.cells y k → k ∈ b.grey ∨ k ∈ b.black) ∧ ∀ x, x ∈ keptOf b → x ∈ b.grey ∨ x ∈ b.black) ∧ b.cursor = 0) := by
  constructor
  · intro h
    have ha := List.nodup_append.1 h.apart
    exact ⟨⟨fun x hx => h.names x (List.mem_append.2 (.inl hx)), ha.1, h.whole, fun x hx hx2 => ha.2.2 x hx x hx2 rfl⟩, ⟨fun y k hy hk => List.mem_append.1 (h.kids y k hy hk), fun x hx => List.mem_append.1 (h.kept x hx)⟩, h.cursor⟩
  · rintro ⟨⟨h1, h2, h3, h4⟩, ⟨h5, h6⟩, h7⟩
    exact ⟨fun x hx => (List.mem_append.1 hx).elim (h1 x) (hbn x), List.nodup_append.2 ⟨h2, riseI_nodup _ hb.1, fun a ha b hb e => h4 a ha (e ▸ hb)⟩, h7, h3, fun x hx => List.mem_append.2 (h6 x hx), fun y k hy hk => List.mem_append.2 (h5 y k hy hk)⟩
/-- what is asked while it sweeps. -/
theorem sweep_iff {b : MBase} (hbn : Named b.cells b.black) (l : List Int) (hl : ∀ x, x ∈ l ↔ Reached b.cells (keptOf b) x) :
    SweepOk b ↔ (b.grey = [] ∧ (∀ x, x ∈ l → x ∈ b.black) ∧ 0 ≤ b.cursor) :=
  ⟨fun h => ⟨h.grey, fun x hx => h.all x ((hl x).1 hx), h.cursor⟩, fun ⟨h1, h2, h3⟩ => ⟨h1, h3, hbn, fun x hx => h2 x ((hl x).2 hx)⟩⟩
end Go.Proofs.YtigdcmfmaehjfaaGreat
