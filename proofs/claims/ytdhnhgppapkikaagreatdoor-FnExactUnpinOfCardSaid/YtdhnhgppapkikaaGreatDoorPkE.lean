/- Several texts in one, in build order: BaseY, Chg, Chs, OpenChs, ChsX, ChsY, ReachO, BaseS, StepA, BaseK, BaseW. -/
import Derived.Test.YtdhnhgppapkikaaGreatDoorPkD
import Derived.StillTailTactics
import Derived.Deep.AppendLies
import Derived.Deep.RegionLaw
import Derived.Deep.DeepCutAuto
-- BaseY: What the laws' helpers do with a base: a copy, two alike, marks.
namespace Go.Proofs.YtdhnhgppapkikaaGreatDoor
set_option maxRecDepth 20000
set_option linter.unusedVariables false
set_option linter.unusedSimpArgs false
open Go.RowKit

set_option maxHeartbeats 1600000 in
theorem toBase_any (L : BLay) (b : MBase) (B : Nat) (w : World) (hs : szB b ≤ 1048576) (hB : B ≤ w.heap.size) (hi : BaseIn w B L b) :
    Calls Tryz.prog 16 #[L.v b] w (GaveBase w b) := by
  obtain ⟨A, n, c, Ap, np, cp, Ag, ng, cg, Ab, nb, cb⟩ := L
  obtain ⟨cs, head, pins, phase, grey, black, cursor⟩ := b
  obtain ⟨hC, hP, hG, hBk⟩ := hi
  simp only [szB] at hs hC hP hG hBk
  have hl0 := hC.1
  have hl1 := hP.1
  have hl2 := hG.1
  have hl3 := hBk.1
  have hszl := szC_len cs
  unfold BLay.v
  simp only
  obtain ⟨w3, hw3⟩ : ∃ w3, (((w.alloc (.cells #[.slice A n c, .int .i64 head, .slice Ap np cp, .int .i64 phase, .slice Ag ng cg, .slice Ab nb cb, .int .i64 cursor] 39)).alloc (.cells #[.slice none 0 0, .int .i64 0, .slice none 0 0, .int .i64 0, .slice none 0 0, .slice none 0 0, .int .i64 0] 27)).alloc
    (.cells #[.slice none 0 0, .int .i64 0, .slice none 0 0, .int .i64 0, .slice none 0 0, .slice none 0 0, .int .i64 0] 27)) = w3 := ⟨_, rfl⟩
  have x0 : Box w3 w.heap.size _ _ := hw3 ▸ heap3_0 _ _ _ _
  have x1 : Box w3 (w.heap.size + 1) _ _ := hw3 ▸ heap3_1 _ _ _ _
  have x2 : Box w3 (w.heap.size + 1 + 1) _ _ := hw3 ▸ heap3_2 _ _ _ _
  have s3 : w3.heap.size = w.heap.size + 3 := hw3 ▸ size3 _ _ _ _
  have b3 : Below w.heap.size w w3 := hw3 ▸ below3 _ _ _ _
  have X0 := Lib.hid x0
  have X1 := Lib.hid x1
  have X2 := Lib.hid x2
  have B3 := Lib.hid b3
  have HW := Lib.hid hw3
  have HC := Lib.hid (hC.more hB)
  have HP := Lib.hid (hP.more hB)
  have HG := Lib.hid (hG.more hB)
  have HK := Lib.hid (hBk.more hB)
  clear x0 x1 x2 b3 hw3 hC hP hG hBk
  go_enter Tryz.func16, Tryz.ntmps16
  go_wp2_with fail
  rw [HW.out]
  refine (copyC_any A n c cs w.heap.size w3 (by omega) (fun i => cel_bd cs (by omega) i) (by omega) (HC.out.below B3.out)).mono ?_
  rintro e w4 ⟨A1, n1, c1, rfl, o4, b4⟩
  obtain rfl : n1 = n := o4.len.symm.trans hl0
  have s4 : w3.heap.size ≤ w4.heap.size := b4.size
  have X0 := Lib.hid (X0.out.below b4 (by omega))
  have X1 := Lib.hid (X1.out.below b4 (by omega))
  have x2 := X2.out.below b4 (by omega)
  have B4 := Lib.hid (B3.out.trans (b4.mono (by omega)))
  have O4 := Lib.hid o4
  clear b4 o4
  have q1 := X0.out.cell 1
  have q2 := X0.out.cell 2
  simp at q1 q2
  have p0 := x2.cell 0
  have p1 := x2.cell 1
  have p2 := x2.cell 2
  have p3 := x2.cell 3
  have p4 := x2.cell 4
  have p5 := x2.cell 5
  have p6 := x2.cell 6
  have f2 := x2.free
  simp at p0 p1 p2 p3 p4 p5 p6
  obtain ⟨w5, hw5⟩ : ∃ z, ((w4.setCell ⟨w.heap.size + 1 + 1, 0, none⟩ (.slice A1 n1 c1)).setCell ⟨w.heap.size + 1 + 1, 1, none⟩ (.int .i64 head)) = z := ⟨_, rfl⟩
  have tw5 : Touch (fun k => k = w.heap.size + 1 + 1) w4 w5 := hw5 ▸ ((touch_set (S := fun k => k = w.heap.size + 1 + 1) w4 (w.heap.size + 1 + 1) 0 (.slice A1 n1 c1) rfl).trans (touch_set (S := fun k => k = w.heap.size + 1 + 1) (w4.setCell ⟨w.heap.size + 1 + 1, 0, none⟩ (.slice A1 n1 c1)) (w.heap.size + 1 + 1) 1 (.int .i64 head) rfl))
  have yw5 : Box w5 (w.heap.size + 1 + 1) 27 #[.slice A1 n1 c1, .int .i64 head, .slice none 0 0, .int .i64 0, .slice none 0 0, .slice none 0 0, .int .i64 0] := hw5 ▸ ((x2).set_ 0 (.slice A1 n1 c1)).set_ 1 (.int .i64 head)
  have s5 : w4.heap.size ≤ w5.heap.size := tw5.size
  have b45 : Below (w.heap.size + 1 + 1) w4 w5 := tw5.below (by omega) (fun k hk e => by omega)
  have X0 := Lib.hid (X0.out.below b45 (by omega))
  have qq := X0.out.cell 2
  simp at qq
  have X1 := Lib.hid (X1.out.below b45 (by omega))
  have X2 := Lib.hid yw5
  have B5 := Lib.hid (B4.out.trans (b45.mono (by omega)))
  have O5 := Lib.hid (O4.out.touch tw5 (fun b h1 h2 e => by omega))
  clear tw5 yw5 b45 O4
  go_wp2_with fail
  refine (copyI_any Ap np cp pins w.heap.size w5 (by omega) (by omega) (HP.out.below B5.out)).mono ?_
  rintro e w6 ⟨A2, n2, c2, rfl, o6, b6⟩
  obtain rfl : n2 = np := o6.len.symm.trans hl1
  have s6 : w5.heap.size ≤ w6.heap.size := b6.size
  have U6 := Lib.hid (fun g (hg : (Value.slice A2 n2 c2).ownBlock = some g) => World.ownsRow.lt o6 g hg)
  have X0 := Lib.hid (X0.out.below b6 (by omega))
  have X1 := Lib.hid (X1.out.below b6 (by omega))
  have x2 := X2.out.below b6 (by omega)
  have B6 := Lib.hid (B5.out.trans (b6.mono (by omega)))
  have O6 := Lib.hid (O5.out.below (b6.mono (by omega)))
  have P6 := Lib.hid o6
  clear b6 o6 O5 q1 q2 p0 p1 p2 p3 p4 p5 p6 f2 hw5 qq
  have q3 := X0.out.cell 3
  have q4 := X0.out.cell 4
  simp at q3 q4
  have p0 := x2.cell 0
  have p1 := x2.cell 1
  have p2 := x2.cell 2
  have p3 := x2.cell 3
  have p4 := x2.cell 4
  have p5 := x2.cell 5
  have p6 := x2.cell 6
  have f2 := x2.free
  simp at p0 p1 p2 p3 p4 p5 p6
  obtain ⟨w7, hw7⟩ : ∃ z, ((w6.setCell ⟨w.heap.size + 1 + 1, 2, none⟩ (.slice A2 n2 c2)).setCell ⟨w.heap.size + 1 + 1, 3, none⟩ (.int .i64 phase)) = z := ⟨_, rfl⟩
  have tw7 : Touch (fun k => k = w.heap.size + 1 + 1) w6 w7 := hw7 ▸ ((touch_set (S := fun k => k = w.heap.size + 1 + 1) w6 (w.heap.size + 1 + 1) 2 (.slice A2 n2 c2) rfl).trans (touch_set (S := fun k => k = w.heap.size + 1 + 1) (w6.setCell ⟨w.heap.size + 1 + 1, 2, none⟩ (.slice A2 n2 c2)) (w.heap.size + 1 + 1) 3 (.int .i64 phase) rfl))
  have yw7 : Box w7 (w.heap.size + 1 + 1) 27 #[.slice A1 n1 c1, .int .i64 head, .slice A2 n2 c2, .int .i64 phase, .slice none 0 0, .slice none 0 0, .int .i64 0] := hw7 ▸ ((x2).set_ 2 (.slice A2 n2 c2)).set_ 3 (.int .i64 phase)
  have s7 : w6.heap.size ≤ w7.heap.size := tw7.size
  have b67 : Below (w.heap.size + 1 + 1) w6 w7 := tw7.below (by omega) (fun k hk e => by omega)
  have X0 := Lib.hid (X0.out.below b67 (by omega))
  have qq := X0.out.cell 4
  simp at qq
  have X1 := Lib.hid (X1.out.below b67 (by omega))
  have X2 := Lib.hid yw7
  have B7 := Lib.hid (B6.out.trans (b67.mono (by omega)))
  have O7 := Lib.hid (O6.out.touch tw7 (fun b h1 h2 e => by omega))
  have P7 := Lib.hid (P6.out.touch tw7 (fun g hg e => by have := (U6.out g hg).1; omega))
  clear tw7 yw7 b67 O6 P6
  go_wp2_with fail
  refine (copyI_any Ag ng cg grey w.heap.size w7 (by omega) (by omega) (HG.out.below B7.out)).mono ?_
  rintro e w8 ⟨A3, n3, c3, rfl, o8, b8⟩
  obtain rfl : n3 = ng := o8.len.symm.trans hl2
  have s8 : w7.heap.size ≤ w8.heap.size := b8.size
  have U8 := Lib.hid (fun g (hg : (Value.slice A3 n3 c3).ownBlock = some g) => World.ownsRow.lt o8 g hg)
  have X0 := Lib.hid (X0.out.below b8 (by omega))
  have X1 := Lib.hid (X1.out.below b8 (by omega))
  have x2 := X2.out.below b8 (by omega)
  have B8 := Lib.hid (B7.out.trans (b8.mono (by omega)))
  have O8 := Lib.hid (O7.out.below (b8.mono (by omega)))
  have P8 := Lib.hid (P7.out.below b8)
  have G8 := Lib.hid o8
  clear b8 o8 O7 P7 q3 q4 p0 p1 p2 p3 p4 p5 p6 f2 hw7 qq
  have q5 := X0.out.cell 5
  simp at q5
  have p0 := x2.cell 0
  have p1 := x2.cell 1
  have p2 := x2.cell 2
  have p3 := x2.cell 3
  have p4 := x2.cell 4
  have p5 := x2.cell 5
  have p6 := x2.cell 6
  have f2 := x2.free
  simp at p0 p1 p2 p3 p4 p5 p6
  obtain ⟨w9, hw9⟩ : ∃ z, (w8.setCell ⟨w.heap.size + 1 + 1, 4, none⟩ (.slice A3 n3 c3)) = z := ⟨_, rfl⟩
  have tw9 : Touch (fun k => k = w.heap.size + 1 + 1) w8 w9 := hw9 ▸ (touch_set (S := fun k => k = w.heap.size + 1 + 1) w8 (w.heap.size + 1 + 1) 4 (.slice A3 n3 c3) rfl)
  have yw9 : Box w9 (w.heap.size + 1 + 1) 27 #[.slice A1 n1 c1, .int .i64 head, .slice A2 n2 c2, .int .i64 phase, .slice A3 n3 c3, .slice none 0 0, .int .i64 0] := hw9 ▸ (x2).set_ 4 (.slice A3 n3 c3)
  have s9 : w8.heap.size ≤ w9.heap.size := tw9.size
  have b89 : Below (w.heap.size + 1 + 1) w8 w9 := tw9.below (by omega) (fun k hk e => by omega)
  have X0 := Lib.hid (X0.out.below b89 (by omega))
  have qq := X0.out.cell 5
  simp at qq
  have X1 := Lib.hid (X1.out.below b89 (by omega))
  have X2 := Lib.hid yw9
  have B9 := Lib.hid (B8.out.trans (b89.mono (by omega)))
  have O9 := Lib.hid (O8.out.touch tw9 (fun b h1 h2 e => by omega))
  have P9 := Lib.hid (P8.out.touch tw9 (fun g hg e => by have := (U6.out g hg).1; omega))
  have G9 := Lib.hid (G8.out.touch tw9 (fun g hg e => by have := (U8.out g hg).1; omega))
  clear tw9 yw9 b89 O8 P8 G8
  go_wp2_with fail
  refine (copyI_any Ab nb cb black w.heap.size w9 (by omega) (by omega) (HK.out.below B9.out)).mono ?_
  rintro e wA ⟨A4, n4, c4, rfl, oA, bA⟩
  obtain rfl : n4 = nb := oA.len.symm.trans hl3
  have sA : w9.heap.size ≤ wA.heap.size := bA.size
  have UA := Lib.hid (fun g (hg : (Value.slice A4 n4 c4).ownBlock = some g) => World.ownsRow.lt oA g hg)
  have X0 := Lib.hid (X0.out.below bA (by omega))
  have x1 := X1.out.below bA (by omega)
  have x2 := X2.out.below bA (by omega)
  have BA := Lib.hid (B9.out.trans (bA.mono (by omega)))
  have OA := Lib.hid (O9.out.below (bA.mono (by omega)))
  have PA := Lib.hid (P9.out.below bA)
  have GA := Lib.hid (G9.out.below bA)
  have KA := Lib.hid oA
  clear bA oA O9 P9 G9 q5 p0 p1 p2 p3 p4 p5 p6 f2 hw9 qq
  have q6 := X0.out.cell 6
  simp at q6
  have p0 := x2.cell 0
  have p1 := x2.cell 1
  have p2 := x2.cell 2
  have p3 := x2.cell 3
  have p4 := x2.cell 4
  have p5 := x2.cell 5
  have p6 := x2.cell 6
  have r0 := x1.cell 0
  have r1 := x1.cell 1
  have r2 := x1.cell 2
  have r3 := x1.cell 3
  have r4 := x1.cell 4
  have r5 := x1.cell 5
  have r6 := x1.cell 6
  have f2 := x2.free
  have f1 := x1.free
  simp at p0 p1 p2 p3 p4 p5 p6 r0 r1 r2 r3 r4 r5 r6
  go_wp2
  have hX := ((((((((x1.other (g' := w.heap.size + 1 + 1) (by omega) 5 (.slice A4 n4 c4)).other (g' := w.heap.size + 1 + 1) (by omega) 6 (.int .i64 cursor)).set_ 0 (.slice A1 n1 c1)).set_ 1 (.int .i64 head)).set_ 2 (.slice A2 n2 c2)).set_ 3 (.int .i64 phase)).set_ 4 (.slice A3 n3 c3)).set_ 5 (.slice A4 n4 c4)).set_ 6 (.int .i64 cursor)
  have hS : Touch (fun k => w.heap.size ≤ k ∧ k < w.heap.size + 3) wA _ := (((((((((touch_set (S := fun k => w.heap.size ≤ k ∧ k < w.heap.size + 3) wA (w.heap.size + 1 + 1) 5 (.slice A4 n4 c4) ⟨by omega, by omega⟩).trans (touch_set _ (w.heap.size + 1 + 1) 6 (.int .i64 cursor) ⟨by omega, by omega⟩)).trans (touch_set _ (w.heap.size + 1) 0 (.slice A1 n1 c1) ⟨by omega, by omega⟩)).trans (touch_set _ (w.heap.size + 1) 1 (.int .i64 head) ⟨by omega, by omega⟩)).trans (touch_set _ (w.heap.size + 1) 2 (.slice A2 n2 c2) ⟨by omega, by omega⟩)).trans (touch_set _ (w.heap.size + 1) 3 (.int .i64 phase) ⟨by omega, by omega⟩)).trans (touch_set _ (w.heap.size + 1) 4 (.slice A3 n3 c3) ⟨by omega, by omega⟩)).trans (touch_set _ (w.heap.size + 1) 5 (.slice A4 n4 c4) ⟨by omega, by omega⟩)).trans (touch_set _ (w.heap.size + 1) 6 (.int .i64 cursor) ⟨by omega, by omega⟩))
  refine bodyPost_ret (v := .agg #[.slice A1 n1 c1, .int .i64 head, .slice A2 n2 c2, .int .i64 phase, .slice A3 n3 c3, .slice A4 n4 c4, .int .i64 cursor]) (results_cell_row Tryz.results16 _ _ (w.heap.size + 1) _ _ _ _ rfl hX Tryz.underlying27 rfl (by kernel_rfl)) rfl ?_
  have hle := BA.out.size
  refine ⟨⟨A1, n1, c1, A2, n2, c2, A3, n3, c3, A4, n4, c4⟩, w4.heap.size, w6.heap.size, w8.heap.size, rfl, ⟨?_, ?_, ?_, ?_, ?_, ?_, ?_, ?_, ?_, ?_, ?_⟩, BA.out.trans (hS.below hle (fun k hk e => by omega))⟩
  · exact (OA.out.touch hS (fun b h1 h2 e => by omega)).base (by omega)
  · exact (PA.out.touch hS (fun g hg e => by have := (U6.out g hg).1; omega)).base s5
  · exact (GA.out.touch hS (fun g hg e => by have := (U8.out g hg).1; omega)).base s7
  · exact (KA.out.touch hS (fun g hg e => by have := (UA.out g hg).1; omega)).base s9
  · exact fun g hg => (U6.out g hg).2
  · exact fun g hg => (U8.out g hg).2
  · exact fun g hg => Nat.lt_of_lt_of_le (UA.out g hg).2 hS.size
  · omega
  · omega
  · omega
  · exact Nat.le_trans (show w8.heap.size ≤ wA.heap.size by omega) hS.size

theorem eqBase_yes (L L' : BLay) (b : MBase) (B B' : Nat) (w : World) (hs : szB b ≤ 1048576) (hB : B ≤ w.heap.size) (hB' : B' ≤ w.heap.size) (hi : BaseIn w B L b) (hi' : BaseIn w B' L' b) :
    Calls Tryz.prog 18 #[L.v b, L'.v b] w fun e w' => e = .returned (.bool true) ∧ Below w.heap.size w w' := by
  obtain ⟨A, n, c, Ap, np, cp, Ag, ng, cg, Ab, nb, cb⟩ := L
  obtain ⟨A', n', c', Ap', np', cp', Ag', ng', cg', Ab', nb', cb'⟩ := L'
  obtain ⟨cs, head, pins, phase, grey, black, cursor⟩ := b
  obtain ⟨hC, hP, hG, hBk⟩ := hi
  obtain ⟨hC', hP', hG', hBk'⟩ := hi'
  simp only [szB] at hs hC hP hG hBk hC' hP' hG' hBk'
  obtain rfl : n' = n := hC'.1.symm.trans hC.1
  obtain rfl : np' = np := hP'.1.symm.trans hP.1
  obtain rfl : ng' = ng := hG'.1.symm.trans hG.1
  obtain rfl : nb' = nb := hBk'.1.symm.trans hBk.1
  have hl0 := hC.1
  have hl1 := hP.1
  have hl2 := hG.1
  have hl3 := hBk.1
  have hszl := szC_len cs
  unfold BLay.v
  simp only
  obtain ⟨w3, hw3⟩ : ∃ w3, ((w.alloc (.cells #[.slice A n' c, .int .i64 head, .slice Ap np' cp, .int .i64 phase, .slice Ag ng' cg, .slice Ab nb' cb, .int .i64 cursor] 27)).alloc (.cells #[.slice A' n' c', .int .i64 head, .slice Ap' np' cp', .int .i64 phase, .slice Ag' ng' cg', .slice Ab' nb' cb', .int .i64 cursor] 27)) = w3 := ⟨_, rfl⟩
  have x0 : Box w3 w.heap.size _ _ := hw3 ▸ heap2_0 _ _ _
  have x1 : Box w3 (w.heap.size + 1) _ _ := hw3 ▸ heap2_1 _ _ _
  have s3 : w3.heap.size = w.heap.size + 2 := hw3 ▸ size2 _ _ _
  have b3 : Below w.heap.size w w3 := hw3 ▸ below2 _ _ _
  have X0 := Lib.hid x0
  have X1 := Lib.hid x1
  have B3 := Lib.hid b3
  have hkeep : ∀ W, Below w3.heap.size w3 W → ∀ k, W.cell? ⟨w.heap.size, k, none⟩ = (#[.slice A n' c, .int .i64 head, .slice Ap np' cp, .int .i64 phase, .slice Ag ng' cg, .slice Ab nb' cb, .int .i64 cursor] : Array Value)[k]? := fun W h k => (X0.out.below h (by omega)).cell k
  have hkeep' : ∀ W, Below w3.heap.size w3 W → ∀ k, W.cell? ⟨w.heap.size + 1, k, none⟩ = (#[.slice A' n' c', .int .i64 head, .slice Ap' np' cp', .int .i64 phase, .slice Ag' ng' cg', .slice Ab' nb' cb', .int .i64 cursor] : Array Value)[k]? := fun W h k => (X1.out.below h (by omega)).cell k
  have CE := Lib.hid hkeep
  have CE' := Lib.hid hkeep'
  have HC := Lib.hid ((hC.more hB).below b3)
  have HP := Lib.hid ((hP.more hB).below b3)
  have HG := Lib.hid ((hG.more hB).below b3)
  have HK := Lib.hid ((hBk.more hB).below b3)
  have HC' := Lib.hid ((hC'.more hB').below b3)
  have HP' := Lib.hid ((hP'.more hB').below b3)
  have HG' := Lib.hid ((hG'.more hB').below b3)
  have HK' := Lib.hid ((hBk'.more hB').below b3)
  have q0 : w3.cell? ⟨w.heap.size, 0, none⟩ = some (.slice A n' c) := by simpa using CE.out w3 (Below.refl _ _) 0
  have r0 : w3.cell? ⟨w.heap.size + 1, 0, none⟩ = some (.slice A' n' c') := by simpa using CE'.out w3 (Below.refl _ _) 0
  clear x0 x1 b3 hkeep hkeep' hC hP hG hBk hC' hP' hG' hBk'
  go_enter Tryz.func18, Tryz.ntmps18
  have hbh : (head != head) = false := by simp
  have hbp : (phase != phase) = false := by simp
  have hbc : (cursor != cursor) = false := by simp
  go_wp2_with fail
  refine (likeC_yes A A' n' c c' cs w.heap.size w.heap.size w3 (by omega) (fun i => cel_bd cs (by omega) i) (by omega) (by omega) HC.out HC'.out).mono ?_
  rintro e w4 ⟨rfl, b4⟩
  have B4 := Lib.hid b4
  clear q0 r0 b4
  have q1 : w4.cell? ⟨w.heap.size, 1, none⟩ = some (.int .i64 head) := by simpa using CE.out w4 B4.out 1
  have r1 : w4.cell? ⟨w.heap.size + 1, 1, none⟩ = some (.int .i64 head) := by simpa using CE'.out w4 B4.out 1
  have q2 : w4.cell? ⟨w.heap.size, 2, none⟩ = some (.slice Ap np' cp) := by simpa using CE.out w4 B4.out 2
  have r2 : w4.cell? ⟨w.heap.size + 1, 2, none⟩ = some (.slice Ap' np' cp') := by simpa using CE'.out w4 B4.out 2
  have s4 : w3.heap.size ≤ w4.heap.size := B4.out.size
  go_wp2_with fail
  refine (likeI_yes Ap Ap' np' cp cp' pins w.heap.size w.heap.size w4 (by omega) (HP.out.below (B4.out.mono (by omega))) (HP'.out.below (B4.out.mono (by omega)))).mono ?_
  rintro e w5 ⟨rfl, h5⟩
  have b5 : Below w3.heap.size w3 w5 := by obtain ⟨k, rfl⟩ := h5; exact below_drewN B4.out k
  have B5 := Lib.hid b5
  clear q1 r1 q2 r2 b5 h5
  have q3 : w5.cell? ⟨w.heap.size, 3, none⟩ = some (.int .i64 phase) := by simpa using CE.out w5 B5.out 3
  have r3 : w5.cell? ⟨w.heap.size + 1, 3, none⟩ = some (.int .i64 phase) := by simpa using CE'.out w5 B5.out 3
  have q4 : w5.cell? ⟨w.heap.size, 4, none⟩ = some (.slice Ag ng' cg) := by simpa using CE.out w5 B5.out 4
  have r4 : w5.cell? ⟨w.heap.size + 1, 4, none⟩ = some (.slice Ag' ng' cg') := by simpa using CE'.out w5 B5.out 4
  have s5 : w3.heap.size ≤ w5.heap.size := B5.out.size
  go_wp2_with fail
  refine (likeI_yes Ag Ag' ng' cg cg' grey w.heap.size w.heap.size w5 (by omega) (HG.out.below (B5.out.mono (by omega))) (HG'.out.below (B5.out.mono (by omega)))).mono ?_
  rintro e w6 ⟨rfl, h6⟩
  have b6 : Below w3.heap.size w3 w6 := by obtain ⟨k, rfl⟩ := h6; exact below_drewN B5.out k
  have B6 := Lib.hid b6
  clear q3 r3 q4 r4 b6 h6
  have q5 : w6.cell? ⟨w.heap.size, 5, none⟩ = some (.slice Ab nb' cb) := by simpa using CE.out w6 B6.out 5
  have r5 : w6.cell? ⟨w.heap.size + 1, 5, none⟩ = some (.slice Ab' nb' cb') := by simpa using CE'.out w6 B6.out 5
  have s6 : w3.heap.size ≤ w6.heap.size := B6.out.size
  go_wp2_with fail
  refine (likeI_yes Ab Ab' nb' cb cb' black w.heap.size w.heap.size w6 (by omega) (HK.out.below (B6.out.mono (by omega))) (HK'.out.below (B6.out.mono (by omega)))).mono ?_
  rintro e w7 ⟨rfl, h7⟩
  have b7 : Below w3.heap.size w3 w7 := by obtain ⟨k, rfl⟩ := h7; exact below_drewN B6.out k
  have B7 := Lib.hid b7
  clear q5 r5 b7 h7
  have q6 : w7.cell? ⟨w.heap.size, 6, none⟩ = some (.int .i64 cursor) := by simpa using CE.out w7 B7.out 6
  have r6 : w7.cell? ⟨w.heap.size + 1, 6, none⟩ = some (.int .i64 cursor) := by simpa using CE'.out w7 B7.out 6
  go_wp2
  go_ret
  exact ⟨rfl, B3.out.trans (B7.out.mono (by omega))⟩

/-- the base as the marks from k0 on leave its lists. -/
def markedB (k0 : Int) (b : MBase) : MBase :=
  ⟨markC k0 b.cells, b.head, marksI (k0 + szC b.cells) b.pins.length, b.phase, marksI (k0 + szC b.cells + b.pins.length) b.grey.length, marksI (k0 + szC b.cells + b.pins.length + b.grey.length) b.black.length, b.cursor⟩
theorem markBase_any (L : BLay) (b : MBase) (lo h1 h2 h3 hi : Nat) (k0 : Int) (w : World) (hs : szB b ≤ 1000000000) (hk : 0 ≤ k0) (hk1 : k0 ≤ 1000000000) (hm : OwnBase w lo h1 h2 h3 hi L b) (hhi : hi ≤ w.heap.size) :
    Calls Tryz.prog 19 #[L.v b, .int .i64 k0] w fun e w' => e = .returned (.int .i64 (k0 + szB b)) ∧ OwnBase w' lo h1 h2 h3 hi L (markedB k0 b) ∧ Touch (fun g => lo ≤ g ∧ g < hi ∨ w.heap.size ≤ g) w w' := by
  obtain ⟨A, n, c, Ap, np, cp, Ag, ng, cg, Ab, nb, cb⟩ := L
  obtain ⟨cs, head, pins, phase, grey, black, cursor⟩ := b
  obtain ⟨hC, hP, hG, hK, up, ug, ub, o0, o1, o2, o3⟩ := hm
  simp only [szB] at hs hC hP hG hK up ug ub
  have hl0 := hC.len
  have hl1 := hP.len
  have hl2 := hG.len
  have hl3 := hK.len
  have hszl := szC_len cs
  unfold BLay.v szB markedB
  simp only
  obtain ⟨w3, hw3⟩ : ∃ w3, w.alloc (.cells #[.slice A n c, .int .i64 head, .slice Ap np cp, .int .i64 phase, .slice Ag ng cg, .slice Ab nb cb, .int .i64 cursor] 27) = w3 := ⟨_, rfl⟩
  have x0 : Box w3 w.heap.size _ _ := hw3 ▸ heap_alloc_new _ _
  have b3 : Below w.heap.size w w3 := hw3 ▸ (Below.refl _ _).alloc (Nat.le_refl _) _
  have X0 := Lib.hid x0
  have UP := Lib.hid up
  have UG := Lib.hid ug
  have UB := Lib.hid ub
  have PB := Lib.hid (fun g (hg : (Value.slice Ap np cp).ownBlock = some g) => (World.ownsRow.lt hP g hg).1)
  have GB := Lib.hid (fun g (hg : (Value.slice Ag ng cg).ownBlock = some g) => (World.ownsRow.lt hG g hg).1)
  have KB := Lib.hid (fun g (hg : (Value.slice Ab nb cb).ownBlock = some g) => (World.ownsRow.lt hK g hg).1)
  have HC := Lib.hid (hC.below (b3.mono (by omega)))
  have HP := Lib.hid (hP.below b3)
  have HG := Lib.hid (hG.below b3)
  have HK := Lib.hid (hK.below b3)
  have s3 : w.heap.size < w3.heap.size := x0.lt
  have q0 := x0.cell 0
  simp at q0
  have T3 := Lib.hid (Touch.of_below (S := fun g => lo ≤ g ∧ g < hi ∨ w.heap.size ≤ g) b3)
  clear x0 b3 hC hP hG hK up ug ub
  go_enter Tryz.func19, Tryz.ntmps19
  go_wp2_with fail
  refine (markC_any A n c lo h1 cs k0 w3 hk (by omega) HC.out).mono ?_
  rintro e w4 ⟨rfl, m4, t4⟩
  have x1 : Box w4 w.heap.size _ _ := (t4.block _ s3 (fun e => by omega)).trans X0.out
  have X1 := Lib.hid x1
  have HC := Lib.hid m4
  have HP := Lib.hid (HP.out.touch t4 (fun g hg e => by have := PB.out g hg; omega))
  have HG := Lib.hid (HG.out.touch t4 (fun g hg e => by have := GB.out g hg; omega))
  have HK := Lib.hid (HK.out.touch t4 (fun g hg e => by have := KB.out g hg; omega))
  have T4 := Lib.hid (T3.out.trans (t4.mono (fun g h => .inl ⟨h.1, by omega⟩)))
  have s4 : w3.heap.size ≤ w4.heap.size := t4.size
  have q2 := X1.out.cell 2
  simp at q2
  clear m4 t4 q0
  go_wp2_with fail
  refine (markI_any Ap np cp h1 pins (k0 + szC cs) w4 (by omega) (by omega) HP.out).mono ?_
  rintro e w5 ⟨rfl, m5, g5⟩
  have t5 := Touch.of_grown g5
  have x2 : Box w5 w.heap.size _ _ := (t5.block _ (by omega) (fun e => by have := UP.out _ e.symm; omega)).trans X1.out
  have X2 := Lib.hid x2
  have HP := Lib.hid m5
  have HC := Lib.hid (HC.out.touch t5 (fun b h1 h2 e => by have := PB.out b e.symm; omega))
  have HG := Lib.hid (HG.out.touch t5 (fun g hg e => by have := GB.out g hg; have := UP.out g e.symm; omega))
  have HK := Lib.hid (HK.out.touch t5 (fun g hg e => by have := KB.out g hg; have := UP.out g e.symm; omega))
  have T5 := Lib.hid (T4.out.trans (t5.mono (fun g h => .inl ⟨by have := PB.out g h.symm; omega, by have := UP.out g h.symm; omega⟩)))
  have s5 : w4.heap.size ≤ w5.heap.size := t5.size
  have q4 := X2.out.cell 4
  simp at q4
  clear m5 g5 t5 q2
  go_wp2_with fail
  refine (markI_any Ag ng cg h2 grey (k0 + szC cs + np) w5 (by omega) (by omega) HG.out).mono ?_
  rintro e w6 ⟨rfl, m6, g6⟩
  have t6 := Touch.of_grown g6
  have x3 : Box w6 w.heap.size _ _ := (t6.block _ (by omega) (fun e => by have := UG.out _ e.symm; omega)).trans X2.out
  have X3 := Lib.hid x3
  have HG := Lib.hid m6
  have HC := Lib.hid (HC.out.touch t6 (fun b h1 h2 e => by have := GB.out b e.symm; omega))
  have HP := Lib.hid (HP.out.touch t6 (fun g hg e => by have := UP.out g hg; have := GB.out g e.symm; omega))
  have HK := Lib.hid (HK.out.touch t6 (fun g hg e => by have := KB.out g hg; have := UG.out g e.symm; omega))
  have T6 := Lib.hid (T5.out.trans (t6.mono (fun g h => .inl ⟨by have := GB.out g h.symm; omega, by have := UG.out g h.symm; omega⟩)))
  have s6 : w5.heap.size ≤ w6.heap.size := t6.size
  have q5 := X3.out.cell 5
  simp at q5
  clear m6 g6 t6 q4
  go_wp2_with fail
  refine (markI_any Ab nb cb h3 black (k0 + szC cs + np + ng) w6 (by omega) (by omega) HK.out).mono ?_
  rintro e w7 ⟨rfl, m7, g7⟩
  have t7 := Touch.of_grown g7
  have HK := Lib.hid m7
  have HC := Lib.hid (HC.out.touch t7 (fun b h1 h2 e => by have := KB.out b e.symm; omega))
  have HP := Lib.hid (HP.out.touch t7 (fun g hg e => by have := UP.out g hg; have := KB.out g e.symm; omega))
  have HG := Lib.hid (HG.out.touch t7 (fun g hg e => by have := UG.out g hg; have := KB.out g e.symm; omega))
  have T7 := Lib.hid (T6.out.trans (t7.mono (fun g h => .inl ⟨by have := KB.out g h.symm; omega, by have := UB.out g h.symm; omega⟩)))
  clear m7 g7 t7 q5
  go_wp2
  go_ret
  refine ⟨ret_i64 (by push_cast; omega), ⟨HC.out, ?_, ?_, ?_, UP.out, UG.out, UB.out, o0, o1, o2, o3⟩, T7.out⟩
  · rw [hl1]; exact HP.out
  · rw [hl1, hl2]; exact HG.out
  · rw [hl1, hl2, hl3]; exact HK.out
end Go.Proofs.YtdhnhgppapkikaaGreatDoor

-- Chg: A change: what it is, when it is one; one that came in; what the laws' helpers and the model's ChangeOk do with it.
namespace Go.Proofs.YtdhnhgppapkikaaGreatDoor
set_option maxRecDepth 20000
set_option linter.unusedVariables false
set_option linter.unusedSimpArgs false
open Go.RowKit Go.ChangeShapes Go.WideShapes Go.Joins Go.Deep

/-- a change. -/
structure MChg where
  kind : Int
  name : Int
  bytes : List Int
/-- the change is right. -/
def ChgOk (x : MChg) : Prop := (¬ x.kind = 1 ∧ 2 ≤ x.kind ∧ x.kind ≤ 11 ∧ 0 ≤ x.name ∧ x.bytes = []) ∨ (x.kind = 1 ∧ (∃ nd, NodeRead x.bytes nd true) ∧ x.name = nameOf x.bytes)
/-- the value of a change whose bytes lie so. -/
def chgV (x : MChg) (A : Option Addr) (n c : Nat) : Value := .agg #[.int .i64 x.kind, .int .i64 x.name, .slice A n c]
/-- the value v is a change x that came in. -/
def ChgArg (w : World) (v : Value) (x : MChg) : Prop :=
  ∃ A n c, v = .agg #[.int .i64 x.kind, .int .i64 x.name, .slice A n c] ∧ n ≤ maxLen ∧ n ≤ c ∧ (A = none → c = 0) ∧ Byts w w.heap.size A n x.bytes
theorem l1In_chg (x : Int) (w : World) :
    Calls Tryz.prog 194 #[.int .i64 x, .int .i64 2, .int .i64 11] w fun e w' => e = .returned (.bool (decide (2 ≤ x ∧ x ≤ 11))) ∧ w' = w := by
  go_enter Tryz.func194, Tryz.ntmps194
  by_cases h : 2 ≤ x
  · go_wp2
    go_ret
    exact ⟨ret_b (decide_eq_decide.2 (by omega)), rfl⟩
  · go_wp2
    go_ret
    exact ⟨ret_b (by simp; omega), rfl⟩

theorem specChangeOk_any (x : MChg) (A : Option Addr) (n c : Nat) (B : Nat) (w : World) (hn : n ≤ 1048576) (hc : n ≤ c) (hB : B ≤ w.heap.size) (hb : Byts w B A n x.bytes) :
    Calls Tryz.prog 155 #[.agg #[.int .i64 x.kind, .int .i64 x.name, .slice A n c]] w fun e w' => ∃ r, e = .returned (.bool r) ∧ (r = true ↔ ChgOk x) ∧ Below w.heap.size w w' := by
  have hlen := hb.1
  obtain ⟨w1, hw1⟩ : ∃ w1, w.alloc (.cells #[.int .i64 x.kind, .int .i64 x.name, .slice A n c] 54) = w1 := ⟨_, rfl⟩
  have x1 : Box w1 w.heap.size _ _ := hw1 ▸ heap_alloc_new _ _
  have b1 : Below w.heap.size w w1 := hw1 ▸ (Below.refl _ _).alloc (Nat.le_refl _) _
  have X1 := Lib.hid x1
  have B1 := Lib.hid b1
  have HB := Lib.hid ((hb.more hB).below b1)
  have HW := Lib.hid hw1
  have q0 := x1.cell 0
  have q1 := x1.cell 1
  have q2 := x1.cell 2
  simp at q0 q1 q2
  have s1 : w.heap.size ≤ w1.heap.size := b1.size
  clear x1 b1 hb
  by_cases hk : x.kind = 1
  · have hb1 : (x.kind != 1) = false := by simp [hk]
    have HK := Lib.hid hk
    clear hk
    go_enter Tryz.func155, Tryz.ntmps155
    go_wp2_with fail
    refine (specNodeFrom_any A n c x.bytes _ w1 hn hc s1 HB.out).mono ?_
    rintro e w2 ⟨v, nd, b, rfl, own, rd, b2⟩
    obtain ⟨Ap, np, cp, Ak, nk, ck, rfl, _⟩ := own
    obtain ⟨w3, hw3⟩ : ∃ w3, w2.alloc (.cells #[.int .i64 nd.kind, .slice Ap np cp, .slice Ak nk ck, .string nd.val] 134) = w3 := ⟨_, rfl⟩
    have b2 : Below w1.heap.size w1 w3 := b2.trans (hw3 ▸ (Below.refl w2.heap.size w2).alloc (Nat.le_refl _) _ |>.mono b2.size)
    have B2 := Lib.hid (B1.out.trans (b2.mono s1))
    have X2 := X1.out.below b2 X1.out.lt
    have HB2 := Lib.hid (HB.out.below (b2.mono s1))
    have RD := Lib.hid rd
    have nm := fun k => (specName_any A n c x.bytes w.heap.size (w3.drewN k) (by omega) (HB2.out.drewN k)).mono (fun e w' (h : _ ∧ _) => And.intro h.1 h.2.symm)
    have NM := Lib.hid nm
    clear q0 q1 q2 b2 rd nm
    have q0 := X2.cell 0
    have q1 := X2.cell 1
    have q2 := X2.cell 2
    simp at q0 q1 q2
    clear X2
    cases b with
    | false =>
      have hno : ¬ ChgOk x := fun h => by
        rcases h with ⟨h, _⟩ | ⟨_, ⟨nd', h⟩, _⟩
        · exact h HK.out
        · have := (RD.out.one h).2; cases this
      have HN := Lib.hid hno
      clear hno
      go_wp2
      go_quiet (first | (go_at_call 86; exact Calls.quiet_of_same (NM.out _)))
      go_wp2
      go_ret
      exact ⟨false, rfl, iff_of_false (by simp) HN.out, below_drewN B2.out _⟩
    | true =>
      by_cases he : x.name = nameOf x.bytes
      · have hb2 : (x.name == nameOf x.bytes) = true := by simpa using he
        have hyes : ChgOk x := .inr ⟨HK.out, ⟨nd, RD.out⟩, he⟩
        have HY := Lib.hid hyes
        clear hyes he
        go_wp2
        go_quiet (first | (go_at_call 86; exact Calls.quiet_of_same (NM.out _)))
        go_wp2
        go_ret
        exact ⟨true, rfl, iff_of_true rfl HY.out, below_drewN B2.out _⟩
      · have hb2 : (x.name == nameOf x.bytes) = false := by simpa using he
        have hno : ¬ ChgOk x := fun h => by
          rcases h with ⟨h, _⟩ | ⟨_, _, h⟩
          · exact h HK.out
          · exact he h
        have HN := Lib.hid hno
        clear hno he
        go_wp2
        go_quiet (first | (go_at_call 86; exact Calls.quiet_of_same (NM.out _)))
        go_wp2
        go_ret
        exact ⟨false, rfl, iff_of_false (by simp) HN.out, below_drewN B2.out _⟩
  · have hb1 : (x.kind != 1) = true := by simpa using hk
    have LI := Lib.hid fun W => l1In_chg x.kind W
    have hiff : ChgOk x ↔ ((2 ≤ x.kind ∧ x.kind ≤ 11) ∧ 0 ≤ x.name ∧ n = 0) := by
      constructor
      · rintro (⟨_, h1, h2, h3, h4⟩ | ⟨h, _⟩)
        · exact ⟨⟨h1, h2⟩, h3, by rw [← hlen, h4]; rfl⟩
        · exact absurd h hk
      · rintro ⟨⟨h1, h2⟩, h3, h4⟩
        exact .inl ⟨hk, h1, h2, h3, List.eq_nil_of_length_eq_zero (by omega)⟩
    have HF := Lib.hid hiff
    clear hiff hk
    have ff : ∀ W, Below w.heap.size w W → ¬ ((2 ≤ x.kind ∧ x.kind ≤ 11) ∧ 0 ≤ x.name ∧ n = 0) → ∃ r, (Ending.returned (.bool false) : Ending) = .returned (.bool r) ∧ (r = true ↔ ChgOk x) ∧ Below w.heap.size w W := fun W hW h => ⟨false, rfl, iff_of_false (by simp) (fun h' => h (HF.out.1 h')), hW⟩
    have FF := Lib.hid ff
    clear ff
    by_cases h1 : 2 ≤ x.kind ∧ x.kind ≤ 11
    case neg =>
      rw [decide_eq_false h1] at LI
      have H1 := Lib.hid h1
      clear h1
      go_enter Tryz.func155, Tryz.ntmps155
      go_wp2_with fail
      refine (LI.out _).mono ?_
      rintro e w' ⟨rfl, hw'⟩
      rw [hw']
      clear hw' w'
      go_wp2
      go_ret
      exact FF.out _ B1.out (fun h => H1.out h.1)
    case pos =>
      rw [decide_eq_true h1] at LI
      have H1 := Lib.hid h1
      clear h1
      by_cases h2 : 0 ≤ x.name
      case neg =>
        have hd0 : decide (0 ≤ x.name) = false := decide_eq_false h2
        have H2 := Lib.hid h2
        clear h2
        go_enter Tryz.func155, Tryz.ntmps155
        go_wp2_with fail
        refine (LI.out _).mono ?_
        rintro e w' ⟨rfl, hw'⟩
        rw [hw']
        clear hw' w'
        go_wp2
        go_ret
        exact FF.out _ B1.out (fun h => by have := H2.out; have := h.2.1; omega)
      case pos =>
        have hd0 : decide (0 ≤ x.name) = true := decide_eq_true h2
        have H2 := Lib.hid h2
        clear h2
        by_cases hz : n = 0
        · obtain rfl := hz
          have hyes := Lib.hid (HF.out.2 ⟨H1.out, H2.out, rfl⟩)
          go_enter Tryz.func155, Tryz.ntmps155
          go_wp2_with fail
          refine (LI.out _).mono ?_
          rintro e w' ⟨rfl, hw'⟩
          rw [hw']
          clear hw' w'
          go_wp2
          go_ret
          exact ⟨true, rfl, iff_of_true rfl hyes.out, B1.out⟩
        · have hd : decide ((n : Int) = 0) = false := decide_eq_false (by omega)
          have hd' : ((n : Int) == 0) = false := by simpa using hz
          have HZ := Lib.hid hz
          go_enter Tryz.func155, Tryz.ntmps155
          go_wp2_with fail
          refine (LI.out _).mono ?_
          rintro e w' ⟨rfl, hw'⟩
          rw [hw']
          clear hw' w'
          go_wp2
          go_ret
          first | exact FF.out _ B1.out (fun h => HZ.out h.2.2) | (refine ⟨_, rfl, ?_, B1.out⟩; simp [hz]; exact fun h => HZ.out (HF.out.1 h).2.2)
theorem eqChange_yes (x : MChg) (A A' : Option Addr) (n c c' : Nat) (B B' : Nat) (w : World) (hn : n ≤ 1048576) (hB : B ≤ w.heap.size) (hB' : B' ≤ w.heap.size) (hb : Byts w B A n x.bytes) (hb' : Byts w B' A' n x.bytes) :
    Calls Tryz.prog 41 #[.agg #[.int .i64 x.kind, .int .i64 x.name, .slice A n c], .agg #[.int .i64 x.kind, .int .i64 x.name, .slice A' n c']] w fun e w' => e = .returned (.bool true) ∧ Below w.heap.size w w' := by
  obtain ⟨k, m, bs⟩ := x
  have HP := Lib.hid (hb.more hB)
  have HP' := Lib.hid (hb'.more hB')
  clear hb hb'
  obtain ⟨w3, hw3⟩ : ∃ w3, ((w.alloc (.cells #[.int .i64 k, .int .i64 m, .slice A n c] 54)).alloc (.cells #[.int .i64 k, .int .i64 m, .slice A' n c'] 54)) = w3 := ⟨_, rfl⟩
  have s3 : w3.heap.size = w.heap.size + 2 := hw3 ▸ size2 _ _ _
  have b3 : Below w.heap.size w w3 := hw3 ▸ below2 _ _ _
  have B3 := Lib.hid b3
  have HW := Lib.hid hw3
  clear b3 hw3
  go_enter Tryz.func41, Tryz.ntmps41
  go_wp2_with fail
  rw [HW.out]
  refine (like_yes _ _ _ _ _ bs _ _ w3 (by omega) (HP.out.below B3.out) (HP'.out.below B3.out)).mono ?_
  rintro e w4 ⟨rfl, q, hq⟩
  have b4 : Below w3.heap.size w3 w4 := by rw [hq]; exact below_drewN (Below.refl _ _) q
  clear hq
  have B4 := Lib.hid (B3.out.trans (b4.mono (by omega)))
  clear b4
  go_wp2
  go_ret
  exact ⟨rfl, B4.out⟩
end Go.Proofs.YtdhnhgppapkikaaGreatDoor

-- Chs: Slices of changes: one that reads as a list; one that the call made and may write into; no statement of the program is proved here.
namespace Go.Proofs.YtdhnhgppapkikaaGreatDoor
set_option maxRecDepth 20000
set_option linter.unusedVariables false
set_option linter.unusedSimpArgs false
open Go.RowKit

/-- no change. -/
def chg0 : MChg := ⟨0, 0, []⟩
/-- the i-th change of a list. -/
def cx (cs : List MChg) (i : Nat) : MChg := cs[i]?.getD chg0
theorem cx_set (cs : List MChg) (k : Nat) (x : MChg) (i : Nat) (hk : k < cs.length) : cx (cs.set k x) i = if i = k then x else cx cs i := by
  unfold cx
  by_cases h : i = k
  · subst h
    rw [if_pos rfl, List.getElem?_set_self hk]; rfl
  · rw [if_neg h, List.getElem?_set_ne (by omega)]
theorem cx_append (cs : List MChg) (x : MChg) (i : Nat) : cx (cs ++ [x]) i = if i = cs.length then x else cx cs i := by
  unfold cx
  by_cases h : i = cs.length
  · subst h
    simp
  · rw [if_neg h]
    rcases Nat.lt_or_ge i cs.length with h1 | h1
    · rw [List.getElem?_append_left h1]
    · rw [List.getElem?_eq_none (by simp; omega), List.getElem?_eq_none (by omega)]
theorem cx_take (cs : List MChg) (k : Nat) (h : k < cs.length) : cs.take (k + 1) = cs.take k ++ [cx cs k] := by
  unfold cx
  rw [List.take_succ_eq_append_getElem h, List.getElem?_eq_getElem h]; rfl

/-- the slice value '.slice A n c' of changes reads as cs, below block B. -/
def Chs (w : World) (B : Nat) (A : Option Addr) (n : Nat) (cs : List MChg) : Prop :=
  cs.length = n ∧ (0 < n → ∃ b off, A = some ⟨b, off, none⟩ ∧ b < B ∧ ∀ i, i < n → w.cell? ⟨b, off + i * 3, none⟩ = some (.int .i64 (cx cs i).kind) ∧ w.cell? ⟨b, off + i * 3 + 1, none⟩ = some (.int .i64 (cx cs i).name) ∧
    ∃ Ai ni ci, w.cell? ⟨b, off + i * 3 + 2, none⟩ = some (.slice Ai ni ci) ∧ ni ≤ ci ∧ (Ai = none → ci = 0) ∧ Byts w B Ai ni (cx cs i).bytes)
section
variable {w w' : World} {B B' n : Nat} {A : Option Addr} {cs : List MChg}
theorem Chs.none_ : Chs w B A 0 [] := ⟨rfl, fun h => absurd h (by omega)⟩
theorem Chs.at_ {k : Nat} (h : Chs w B A n cs) (hk : k < n) : ∃ b off Ai ni ci, A = some ⟨b, off, none⟩ ∧ b < B ∧ w.cell? ⟨b, off + k * 3, none⟩ = some (.int .i64 (cx cs k).kind) ∧ w.cell? ⟨b, off + k * 3 + 1, none⟩ = some (.int .i64 (cx cs k).name) ∧ w.cell? ⟨b, off + k * 3 + 2, none⟩ = some (.slice Ai ni ci) ∧ ni ≤ ci ∧ (Ai = none → ci = 0) ∧ Byts w B Ai ni (cx cs k).bytes := by
  obtain ⟨b, off, e, hb, hc⟩ := h.2 (by omega)
  obtain ⟨h0, hm, Ai, ni, ci, h1, h2, h3, h4⟩ := hc k hk
  exact ⟨b, off, Ai, ni, ci, e, hb, h0, hm, h1, h2, h3, h4⟩
theorem Chs.keep (h : Chs w B A n cs) (hk : ∀ p : Addr, p.block < B → w'.cell? p = w.cell? p) : Chs w' B A n cs :=
  ⟨h.1, fun hn => by
    obtain ⟨b, off, e, hb, hc⟩ := h.2 hn
    refine ⟨b, off, e, hb, fun i hi => ?_⟩
    obtain ⟨h0, hm, Ai, ni, ci, h1, h2, h3, h4⟩ := hc i hi
    exact ⟨(hk _ hb).trans h0, (hk _ hb).trans hm, Ai, ni, ci, (hk _ hb).trans h1, h2, h3, h4.keep hk⟩⟩
theorem Chs.more (h : Chs w B A n cs) (hB : B ≤ B') : Chs w B' A n cs :=
  ⟨h.1, fun hn => by
    obtain ⟨b, off, e, hb, hc⟩ := h.2 hn
    refine ⟨b, off, e, by omega, fun i hi => ?_⟩
    obtain ⟨h0, hm, Ai, ni, ci, h1, h2, h3, h4⟩ := hc i hi
    exact ⟨h0, hm, Ai, ni, ci, h1, h2, h3, h4.more hB⟩⟩
theorem Chs.below (h : Chs w B A n cs) (hb : Below B w w') : Chs w' B A n cs := h.keep fun _ hp => hb.cell hp
theorem Chs.drewN (h : Chs w B A n cs) (k : Nat) : Chs (w.drewN k) B A n cs := h.below (below_drewN (Below.refl _ _) k)
theorem Chs.alloc (h : Chs w B A n cs) (hB : B ≤ w.heap.size) (o : Obj) : Chs (w.alloc o) B A n cs := h.keep fun p hp => World.cell?_alloc_lt w o p (by omega)
end

theorem Tryz.infoCh : (Tryz.prog.info? 54).map (fun i => (i.zero, i.size, i.bytes)) = some (some (.agg #[.int .i64 0, .int .i64 0, .slice none 0 0]), 3, 40) := by kernel_rfl

/-- what stands in a row of changes. -/
def hf (cs : List MChg) (sl : Nat → Sub) (j : Nat) : Value := if j % 3 = 0 then .int .i64 (cx cs (j / 3)).kind else if j % 3 = 1 then .int .i64 (cx cs (j / 3)).name else (sl (j / 3)).v
def hvs (n : Nat) (cs : List MChg) (sl : Nat → Sub) : List Value := (List.range (n * 3)).map (hf cs sl)
theorem hvs_at (n : Nat) (cs : List MChg) (sl : Nat → Sub) (j : Nat) (h : j < n * 3) : (hvs n cs sl)[j]? = some (hf cs sl j) := by simp [hvs, h]
theorem hvs_len (n : Nat) (cs : List MChg) (sl : Nat → Sub) : (hvs n cs sl).length = n * 3 := by simp [hvs]
theorem hf0 (cs : List MChg) (sl : Nat → Sub) (k : Nat) : hf cs sl (k * 3) = .int .i64 (cx cs k).kind := by unfold hf; rw [if_pos (by omega), show k * 3 / 3 = k by omega]
theorem hf1 (cs : List MChg) (sl : Nat → Sub) (k : Nat) : hf cs sl (k * 3 + 1) = .int .i64 (cx cs k).name := by unfold hf; rw [if_neg (by omega), if_pos (by omega), show (k * 3 + 1) / 3 = k by omega]
theorem hf2 (cs : List MChg) (sl : Nat → Sub) (k : Nat) : hf cs sl (k * 3 + 2) = (sl k).v := by unfold hf; rw [if_neg (by omega), if_neg (by omega), show (k * 3 + 2) / 3 = k by omega]
theorem hvs_set (n : Nat) (cs : List MChg) (sl : Nat → Sub) (k : Nat) (a m : Int) (x : Sub) (b : List Int) (hk : k < n) (hl : cs.length = n) :
    (((hvs n cs sl).set (k * 3) (.int .i64 a)).set (k * 3 + 1) (.int .i64 m)).set (k * 3 + 2) x.v = hvs n (cs.set k ⟨a, m, b⟩) (fun i => if i = k then x else sl i) := by
  apply List.ext_getElem?
  intro j
  by_cases hj : j < n * 3
  · rw [hvs_at _ _ _ j hj]
    by_cases h2 : j = k * 3 + 2
    · subst h2
      rw [List.getElem?_set_self (by simp [hvs]; omega), hf2, if_pos rfl]
    · rw [List.getElem?_set_ne (by omega)]
      by_cases h1 : j = k * 3 + 1
      · subst h1
        rw [List.getElem?_set_self (by simp [hvs]; omega), hf1, cx_set _ _ _ _ (by omega), if_pos rfl]
      · rw [List.getElem?_set_ne (by omega)]
        by_cases h0 : j = k * 3
        · subst h0
          rw [List.getElem?_set_self (by simp [hvs]; omega), hf0, cx_set _ _ _ _ (by omega), if_pos rfl]
        · rw [List.getElem?_set_ne (by omega), hvs_at _ _ _ j hj]
          unfold hf
          rw [cx_set _ _ _ _ (by omega), if_neg (show ¬ j / 3 = k by omega)]
          simp only [show ¬ j / 3 = k by omega, if_false]
  · rw [List.getElem?_eq_none (by simp [hvs]; omega), List.getElem?_eq_none (by simp [hvs]; omega)]
theorem hvs_append (n : Nat) (cs : List MChg) (sl : Nat → Sub) (x : Sub) (a m : Int) (b : List Int) (hl : cs.length = n) :
    hvs n cs sl ++ [.int .i64 a, .int .i64 m, x.v] = hvs (n + 1) (cs ++ [⟨a, m, b⟩]) (fun i => if i = n then x else sl i) := by
  apply List.ext_getElem?
  intro j
  by_cases hj : j < n * 3
  · rw [List.getElem?_append_left (by simp [hvs]; omega), hvs_at _ _ _ j hj, hvs_at _ _ _ j (by omega)]
    unfold hf
    rw [cx_append, if_neg (show ¬ j / 3 = cs.length by omega)]
    simp only [show ¬ j / 3 = n by omega, if_false]
  · rw [List.getElem?_append_right (by simp [hvs]; omega), hvs_len]
    by_cases h0 : j = n * 3
    · subst h0
      rw [hvs_at _ _ _ _ (by omega), hf0, cx_append, if_pos hl.symm]; simp
    · by_cases h1 : j = n * 3 + 1
      · subst h1
        rw [hvs_at _ _ _ _ (by omega), hf1, cx_append, if_pos hl.symm, show n * 3 + 1 - n * 3 = 1 by omega]; rfl
      · by_cases h2 : j = n * 3 + 2
        · subst h2
          rw [hvs_at _ _ _ _ (by omega), hf2, if_pos rfl, show n * 3 + 2 - n * 3 = 2 by omega]; rfl
        · rw [List.getElem?_eq_none (by simp; omega), List.getElem?_eq_none (by simp [hvs]; omega)]

/-- the slices in a row of n changes are of the call's own, each in a block of its own, of the blocks from lo to hi, none of them g. -/
structure SubH (w : World) (lo hi : Nat) (g : Option Nat) (n : Nat) (cs : List MChg) (sl : Nat → Sub) : Prop where
  mine : ∀ i, i < n → Mine w lo (sl i).A (sl i).n (sl i).c (cx cs i).bytes
  apart : ∀ i j, i < n → j < n → i ≠ j → ∀ b, (sl i).v.ownBlock = some b → (sl j).v.ownBlock ≠ some b
  other : ∀ i, i < n → ∀ b, (sl i).v.ownBlock = some b → g ≠ some b
  under : ∀ i, i < n → ∀ b, (sl i).v.ownBlock = some b → b < hi
/-- the slice '.slice A n c' of changes is of the call's own, with all that it holds, in blocks from lo to hi, and reads as cs. -/
def OwnCh (w : World) (lo hi : Nat) (A : Option Addr) (n c : Nat) (cs : List MChg) : Prop :=
  cs.length = n ∧ (∀ b, (Value.slice A n c).ownBlock = some b → b < hi) ∧ ∃ sl, w.ownsRow lo 54 3 (.slice A n c) n (hvs n cs sl) ∧ SubH w lo hi (Value.slice A n c).ownBlock n cs sl
section
variable {w w' : World} {lo hi hi' n c g : Nat} {A : Option Addr} {cs : List MChg}
theorem OwnCh.nil (w : World) (lo hi : Nat) : OwnCh w lo hi none 0 0 [] := ⟨rfl, fun b h => by simp [Value.ownBlock] at h, fun _ => ⟨none, 0, 0, []⟩, World.ownsRow_nil _ _ _ _, fun i h => by omega, fun i j h => by omega, fun i h => by omega, fun i h => by omega⟩
theorem OwnCh.len (h : OwnCh w lo hi A n c cs) : cs.length = n := h.1
theorem OwnCh.cap (h : OwnCh w lo hi A n c cs) : n ≤ c := by
  obtain ⟨_, _, sl, hr, _⟩ := h
  rcases hr.2 with ⟨e, hx⟩ | ⟨g', cap, cur, e, _, _, hn, _⟩
  · have e2 : n = 0 := by simpa using hx
    omega
  · cases e; exact hn
theorem OwnCh.nilc (h : OwnCh w lo hi A n c cs) (hA : A = none) : c = 0 := by
  obtain ⟨_, _, sl, hr, _⟩ := h
  rcases hr.2 with ⟨e, hx⟩ | ⟨g', cap, cur, e, _, _, hn, _⟩
  · cases e; rfl
  · subst hA; cases e
theorem OwnCh.touch {S : Nat → Prop} (h : OwnCh w lo hi A n c cs) (t : Touch S w w') (hn : ∀ b, lo ≤ b → b < hi → ¬ S b) : OwnCh w' lo hi A n c cs := by
  obtain ⟨hl, hu, sl, hr, hs⟩ := h
  exact ⟨hl, hu, sl, own_touch hr t (fun b hb => hn b (hr.lt b hb).1 (hu b hb)), fun i hi => (hs.mine i hi).touch t (fun b hb => hn b ((hs.mine i hi).1.lt b hb).1 (hs.under i hi b hb)), hs.apart, hs.other, hs.under⟩
theorem OwnCh.below (h : OwnCh w lo hi A n c cs) (hb : Below hi w w') : OwnCh w' lo hi A n c cs :=
  h.touch (S := fun k => hi ≤ k) ⟨hb.os, hb.tape, hb.output, hb.size, fun k hk hs => hb.block k (by omega)⟩ (fun b _ h1 h2 => by omega)
theorem OwnCh.more (h : OwnCh w lo hi A n c cs) (hh : hi ≤ hi') : OwnCh w lo hi' A n c cs := by
  obtain ⟨hl, hu, sl, hr, hs⟩ := h
  exact ⟨hl, fun b hb => Nat.lt_of_lt_of_le (hu b hb) hh, sl, hr, hs.mine, hs.apart, hs.other, fun i hi b hb => Nat.lt_of_lt_of_le (hs.under i hi b hb) hh⟩
theorem OwnCh.base {lo' : Nat} (h : OwnCh w lo hi A n c cs) (hh : lo' ≤ lo) : OwnCh w lo' hi A n c cs := by
  obtain ⟨hl, hu, sl, hr, hs⟩ := h
  refine ⟨hl, hu, sl, ⟨hr.1, ?_⟩, fun i hi => (hs.mine i hi).base hh, hs.apart, hs.other, hs.under⟩
  rcases hr.2 with h | ⟨g, cap, cur, hv, hg, r⟩
  · exact .inl h
  · exact .inr ⟨g, cap, cur, hv, by omega, r⟩
theorem OwnCh.form (h : OwnCh w lo hi A n c cs) (hn : 0 < n) : ∃ g, A = some ⟨g, 0, none⟩ ∧ lo ≤ g ∧ g < hi ∧ g < w.heap.size := by
  obtain ⟨hl, hu, sl, hr, hs⟩ := h
  obtain ⟨g, cap, hv, h1, h2⟩ := World.ownsRow.form hr hn
  injection hv with hA
  subst hA
  exact ⟨g, rfl, h1, hu g (by simp [Value.ownBlock]), h2⟩
theorem OwnCh.chs (h : OwnCh w lo hi A n c cs) : Chs w hi A n cs := by
  refine ⟨h.1, fun hn => ?_⟩
  obtain ⟨g, rfl, _, h2, _⟩ := h.form hn
  obtain ⟨hl, hu, sl, hr, hs⟩ := h
  refine ⟨g, 0, rfl, h2, fun i hi => ?_⟩
  have m := hs.mine i hi
  refine ⟨?_, ?_, (sl i).A, (sl i).n, (sl i).c, ?_, mine_cap m, mine_none m, m.len, m.2, fun hp => ?_⟩
  · rw [Nat.zero_add, World.ownsRow.cellAt hr _ (by omega), hvs_at _ _ _ _ (by omega), hf0]
  · rw [Nat.zero_add, World.ownsRow.cellAt hr _ (by omega), hvs_at _ _ _ _ (by omega), hf1]
  · rw [Nat.zero_add, World.ownsRow.cellAt hr _ (by omega), hvs_at _ _ _ _ (by omega), hf2]; rfl
  · obtain ⟨b, off, e, hb, hc⟩ := m.byts.2.2 hp
    refine ⟨b, off, e, ?_, hc⟩
    obtain ⟨g', e', _⟩ := m.form hp
    rw [e] at e'
    cases e'
    exact hs.under i hi b (by unfold Sub.v; rw [e]; simp [Value.ownBlock])
theorem OwnCh.free (h : OwnCh w lo hi (some ⟨g, 0, none⟩) n c cs) (k : Nat) : w.frozen? ⟨g, k, none⟩ = false := by
  obtain ⟨hl, hu, sl, hr, hs⟩ := h
  exact World.ownsRow.frozenAt hr k
theorem OwnCh.cell0 {k : Nat} (h : OwnCh w lo hi (some ⟨g, 0, none⟩) n c cs) (hk : k < n) : w.cell? ⟨g, k * 3, none⟩ = some (.int .i64 (cx cs k).kind) := by
  obtain ⟨b, off, _, _, _, e, _, h0, _⟩ := h.chs.at_ hk
  cases e
  simpa using h0
theorem OwnCh.cell1 {k : Nat} (h : OwnCh w lo hi (some ⟨g, 0, none⟩) n c cs) (hk : k < n) : w.cell? ⟨g, k * 3 + 1, none⟩ = some (.int .i64 (cx cs k).name) := by
  obtain ⟨b, off, _, _, _, e, _, _, h0, _⟩ := h.chs.at_ hk
  cases e
  simpa using h0
theorem OwnCh.cell2 {k : Nat} (h : OwnCh w lo hi (some ⟨g, 0, none⟩) n c cs) (hk : k < n) : ∃ Ai ni ci, w.cell? ⟨g, k * 3 + 2, none⟩ = some (.slice Ai ni ci) ∧ ni ≤ ci ∧ (Ai = none → ci = 0) ∧ Byts w hi Ai ni (cx cs k).bytes := by
  obtain ⟨b, off, Ai, ni, ci, e, _, _, _, h1, h2, h3, h4⟩ := h.chs.at_ hk
  cases e
  exact ⟨Ai, ni, ci, by simpa using h1, h2, h3, h4⟩
/-- another change in place of the k-th: its bytes in a block that was made since. -/
theorem OwnCh.put {w0 : World} {A' : Option Addr} {n' c' k : Nat} (x : MChg) (h : OwnCh w0 lo hi (some ⟨g, 0, none⟩) n c cs) (hh : hi ≤ w0.heap.size) (hb : Below w0.heap.size w0 w) (hx : Mine w w0.heap.size A' n' c' x.bytes) (hk : k < n) (hh' : w.heap.size ≤ hi') (hlo : lo ≤ w0.heap.size) :
    OwnCh (((w.setCell ⟨g, k * 3, none⟩ (.int .i64 x.kind)).setCell ⟨g, k * 3 + 1, none⟩ (.int .i64 x.name)).setCell ⟨g, k * 3 + 2, none⟩ (.slice A' n' c')) lo hi' (some ⟨g, 0, none⟩) n c (cs.set k x) ∧
      Touch (fun b => b = g) w (((w.setCell ⟨g, k * 3, none⟩ (.int .i64 x.kind)).setCell ⟨g, k * 3 + 1, none⟩ (.int .i64 x.name)).setCell ⟨g, k * 3 + 2, none⟩ (.slice A' n' c')) := by
  obtain ⟨xk, xm, bs⟩ := x
  have hs0 := hb.size
  have h := h.below (hb.mono hh)
  obtain ⟨hl, hu, sl, hr, hs⟩ := h
  have hg := hr.lt g (by simp [Value.ownBlock])
  have hgu := hu g (by simp [Value.ownBlock])
  obtain ⟨r1, t1⟩ := World.ownsRow.stored hr (k * 3) (.int .i64 xk)
  obtain ⟨r2, t2⟩ := World.ownsRow.stored r1 (k * 3 + 1) (.int .i64 xm)
  obtain ⟨r3, t3⟩ := World.ownsRow.stored r2 (k * 3 + 2) (.slice A' n' c')
  have t : Touch (fun b => b = g) w (((w.setCell ⟨g, k * 3, none⟩ (.int .i64 xk)).setCell ⟨g, k * 3 + 1, none⟩ (.int .i64 xm)).setCell ⟨g, k * 3 + 2, none⟩ (.slice A' n' c')) := ((touch_set (S := fun b => b = g) w g _ _ rfl).trans (touch_set _ g _ _ rfl)).trans (touch_set _ g _ _ rfl)
  refine ⟨⟨by simp [hl], fun b hb' => Nat.lt_of_lt_of_le (hu b hb') (by omega), fun i => if i = k then ⟨A', n', c', bs⟩ else sl i, ?_, ?_, ?_, ?_, ?_⟩, t⟩
  · rw [← hvs_set n cs sl k xk xm ⟨A', n', c', bs⟩ bs hk hl]; exact r3
  · intro i hi1
    rw [cx_set _ _ _ _ (by omega)]
    by_cases h : i = k
    · simp only [h, if_true]
      exact (hx.base hlo).touch t (fun b hb' e => by have := (hx.1.lt b hb').1; omega)
    · simp only [h, if_false]
      exact (hs.mine i hi1).touch t (fun b hb' e => hs.other i hi1 b hb' (by rw [e]; simp [Value.ownBlock]))
  · intro i j hi1 hj hij b
    by_cases h : i = k
    · have h2 : ¬ j = k := by omega
      simp only [h, h2, if_true, if_false]
      intro e1 e2
      have := (hx.1.lt b e1).1
      have := hs.under j hj b e2
      omega
    · by_cases h2 : j = k
      · simp only [h, h2, if_true, if_false]
        intro e1 e2
        have := (hx.1.lt b e2).1
        have := hs.under i hi1 b e1
        omega
      · simp only [h, h2, if_false]
        exact hs.apart i j hi1 hj hij b
  · intro i hi1 b
    by_cases h : i = k
    · simp only [h, if_true]
      intro e1 e2
      have := (hx.1.lt b e1).1
      simp [Value.ownBlock] at e2
      omega
    · simp only [h, if_false]
      exact hs.other i hi1 b
  · intro i hi1 b
    by_cases h : i = k
    · simp only [h, if_true]
      intro e1
      have := (hx.1.lt b e1).2
      omega
    · simp only [h, if_false]
      intro e1
      have := hs.under i hi1 b e1
      omega
theorem hvs_two (cs : List MChg) (sl : Nat → Sub) (k : Nat) (a m : Int) (b : List Int) (hk : k < n) (hl : cs.length = n) : ((hvs n cs sl).set (k * 3) (.int .i64 a)).set (k * 3 + 1) (.int .i64 m) = hvs n (cs.set k ⟨a, m, b⟩) sl := by
  apply List.ext_getElem?
  intro j
  by_cases hj : j < n * 3
  · rw [hvs_at _ _ _ j hj]
    by_cases h1 : j = k * 3 + 1
    · subst h1
      rw [List.getElem?_set_self (by simp [hvs]; omega), hf1, cx_set _ _ _ _ (by omega), if_pos rfl]
    · rw [List.getElem?_set_ne (by omega)]
      by_cases h0 : j = k * 3
      · subst h0
        rw [List.getElem?_set_self (by simp [hvs]; omega), hf0, cx_set _ _ _ _ (by omega), if_pos rfl]
      · rw [List.getElem?_set_ne (by omega), hvs_at _ _ _ j hj]
        unfold hf
        rw [cx_set _ _ _ _ (by omega)]
        by_cases h2 : j % 3 = 2
        · rw [if_neg (by omega), if_neg (by omega), if_neg (by omega), if_neg (by omega)]
        · rw [if_neg (show ¬ j / 3 = k by omega)]
  · rw [List.getElem?_eq_none (by simp [hvs]; omega), List.getElem?_eq_none (by simp [hvs]; omega)]
/-- another kind and name in the k-th change. -/
theorem OwnCh.setTwo {k : Nat} (a m : Int) (h : OwnCh w lo hi (some ⟨g, 0, none⟩) n c cs) (hk : k < n) :
    OwnCh ((w.setCell ⟨g, k * 3, none⟩ (.int .i64 a)).setCell ⟨g, k * 3 + 1, none⟩ (.int .i64 m)) lo hi (some ⟨g, 0, none⟩) n c (cs.set k ⟨a, m, (cx cs k).bytes⟩) := by
  obtain ⟨hl, hu, sl, hr, hs⟩ := h
  have hg := hr.lt g (by simp [Value.ownBlock])
  obtain ⟨r1, t1⟩ := World.ownsRow.stored hr (k * 3) (.int .i64 a)
  obtain ⟨r2, t2⟩ := World.ownsRow.stored r1 (k * 3 + 1) (.int .i64 m)
  have t : Touch (fun b => b = g) w ((w.setCell ⟨g, k * 3, none⟩ (.int .i64 a)).setCell ⟨g, k * 3 + 1, none⟩ (.int .i64 m)) := (touch_set (S := fun b => b = g) w g _ _ rfl).trans (touch_set _ g _ _ rfl)
  refine ⟨by simp [hl], hu, sl, ?_, ⟨fun i hi1 => ?_, hs.apart, hs.other, hs.under⟩⟩
  · rw [← hvs_two cs sl k a m _ hk hl]; exact r2
  · have hm := (hs.mine i hi1).touch t (fun b hb' e => hs.other i hi1 b hb' (by rw [e]; simp [Value.ownBlock]))
    rw [cx_set _ _ _ _ (by omega)]
    by_cases h : i = k
    · subst h; rw [if_pos rfl]; exact hm
    · rw [if_neg h]; exact hm
theorem hvs_same (cs cs' : List MChg) (sl : Nat → Sub) (h : ∀ i, i < n → (cx cs i).kind = (cx cs' i).kind ∧ (cx cs i).name = (cx cs' i).name) : hvs n cs sl = hvs n cs' sl := by
  unfold hvs
  apply List.map_congr_left
  intro j hj
  have hj : j < n * 3 := by simpa using hj
  unfold hf
  rw [(h (j / 3) (by omega)).1, (h (j / 3) (by omega)).2]
/-- other bytes in the k-th change's own slice. -/
theorem OwnCh.inner {k : Nat} (h : OwnCh w lo hi (some ⟨g, 0, none⟩) n c cs) (hk : k < n) :
    ∃ Ai ni ci, w.cell? ⟨g, k * 3 + 2, none⟩ = some (.slice Ai ni ci) ∧ Mine w lo Ai ni ci (cx cs k).bytes ∧ (∀ b, (Value.slice Ai ni ci).ownBlock = some b → lo ≤ b ∧ b < hi) ∧
      ∀ w' bs', Mine w' lo Ai ni ci bs' → w.grownBy w' (Value.slice Ai ni ci).ownBlock → OwnCh w' lo hi (some ⟨g, 0, none⟩) n c (cs.set k ⟨(cx cs k).kind, (cx cs k).name, bs'⟩) := by
  obtain ⟨hl, hu, sl, hr, hs⟩ := h
  refine ⟨(sl k).A, (sl k).n, (sl k).c, ?_, hs.mine k hk, fun b hb => ⟨((hs.mine k hk).1.lt b hb).1, hs.under k hk b hb⟩, fun w' bs' hm hg => ?_⟩
  · rw [World.ownsRow.cellAt hr _ (by omega), hvs_at _ _ _ _ (by omega), hf2]; rfl
  · have t := Touch.of_grown hg
    refine ⟨by simp [hl], hu, sl, ?_, ⟨fun i hi1 => ?_, hs.apart, hs.other, hs.under⟩⟩
    · rw [← hvs_same (n := n) cs (cs.set k ⟨(cx cs k).kind, (cx cs k).name, bs'⟩) sl (fun i hi1 => by
        rw [cx_set _ _ _ _ (by omega)]
        by_cases h : i = k
        · subst h; rw [if_pos rfl]; exact ⟨rfl, rfl⟩
        · rw [if_neg h]; exact ⟨rfl, rfl⟩)]
      refine own_touch hr t (fun b hb e => ?_)
      have : g = b := by simpa [Value.ownBlock] using hb
      subst this
      exact hs.other k hk g e.symm (by simp [Value.ownBlock])
    · rw [cx_set _ _ _ _ (by omega)]
      by_cases h : i = k
      · subst h; rw [if_pos rfl]; exact hm
      · rw [if_neg h]
        exact (hs.mine i hi1).touch t (fun b hb e => hs.apart i k hi1 hk h b hb e.symm)
end
/-- one more change, its bytes made since. -/
theorem OwnCh.pushed {w w' : World} {lo hi hi' n c n' c' g cap : Nat} {A A' : Option Addr} {cs : List MChg} {x : MChg} {sl : Nat → Sub}
    (hl : cs.length = n) (hu : ∀ b, (Value.slice A n c).ownBlock = some b → b < hi) (hs : SubH w lo hi (Value.slice A n c).ownBlock n cs sl) (hx : Mine w lo A' n' c' x.bytes)
    (hxb : ∀ b, (Value.slice A' n' c').ownBlock = some b → hi ≤ b)
    (hr : w'.ownsRow lo 54 3 (.slice (some ⟨g, 0, none⟩) (n + 1) cap) (n + 1) (hvs n cs sl ++ [.int .i64 x.kind, .int .i64 x.name, .slice A' n' c'])) (hg : w.grownBy w' (Value.slice A n c).ownBlock)
    (hgo : (Value.slice A n c).ownBlock = some g ∨ g = w.heap.size) (hh : hi ≤ w.heap.size) (hi1 : w'.heap.size ≤ hi') : OwnCh w' lo hi' (some ⟨g, 0, none⟩) (n + 1) cap (cs ++ [x]) := by
  obtain ⟨xk, xm, bs⟩ := x
  have hsz := hg.size
  have t := Touch.of_grown hg
  refine ⟨by simp [hl], fun b hb => ?_, fun i => if i = n then ⟨A', n', c', bs⟩ else sl i, ?_, ?_⟩
  · have := (World.ownsRow.lt hr b hb).2
    omega
  · rw [← hvs_append n cs sl ⟨A', n', c', bs⟩ xk xm bs hl]; exact hr
  · have hlt : ∀ i, i < n → ∀ b, (sl i).v.ownBlock = some b → b < w.heap.size := fun i hi b hb => (World.ownsRow.lt (hs.mine i hi).1 b hb).2
    have hxl : ∀ b, (Value.slice A' n' c').ownBlock = some b → b < w.heap.size := fun b hb => (World.ownsRow.lt hx.1 b hb).2
    refine ⟨fun i hi => ?_, fun i j hi hj hij b => ?_, fun i hi b => ?_, fun i hi b => ?_⟩
    · rw [cx_append, hl]
      by_cases h : i = n
      · simp only [h, if_true]
        exact hx.touch t (fun b hb e => by have := hxb b hb; have := hu b e.symm; omega)
      · simp only [h, if_false]
        exact (hs.mine i (by omega)).touch t (fun b hb e => hs.other i (by omega) b hb e.symm)
    · by_cases h : i = n
      · have h2 : ¬ j = n := by omega
        simp only [h, h2, if_true, if_false]
        intro e1 e2
        have := hxb b e1
        have := hs.under j (by omega) b e2
        omega
      · by_cases h2 : j = n
        · simp only [h, h2, if_true, if_false]
          intro e1 e2
          have := hxb b e2
          have := hs.under i (by omega) b e1
          omega
        · simp only [h, h2, if_false]
          exact hs.apart i j (by omega) (by omega) hij b
    · have hown : (Value.slice (some (⟨g, 0, none⟩ : Addr)) (n + 1) cap).ownBlock = some g := by simp [Value.ownBlock]
      rw [hown]
      by_cases h : i = n
      · simp only [h, if_true]
        intro e1 e2
        cases e2
        have := hxb _ e1
        have := hxl _ e1
        rcases hgo with e | e
        · have := hu _ e; omega
        · omega
      · simp only [h, if_false]
        intro e1 e2
        cases e2
        rcases hgo with e | e
        · exact hs.other i (by omega) _ e1 e
        · have := hlt i (by omega) _ e1; omega
    · by_cases h : i = n
      · simp only [h, if_true]
        intro e1
        have := hxl b e1
        omega
      · simp only [h, if_false]
        intro e1
        have := hlt i (by omega) b e1
        omega
theorem OwnCh.made0 (w : World) : OwnCh (w.alloc (.cells #[] 54)) w.heap.size (w.heap.size + 1) (some ⟨w.heap.size, 0, none⟩) 0 0 [] := by
  refine ⟨rfl, fun b h => by simp [Value.ownBlock] at h; omega, fun _ => ⟨none, 0, 0, []⟩, ?_, fun i h => by omega, fun i j h => by omega, fun i h => by omega, fun i h => by omega⟩
  exact World.ownsRow_lit w #[] 0 (Nat.le_refl _) (by unfold maxLen; omega) rfl
/-- the call answered with changes of its own. -/
def GaveCh (w : World) (cs : List MChg) (e : Ending) (w' : World) : Prop := ∃ A n c, e = .returned (.slice A n c) ∧ OwnCh w' w.heap.size w'.heap.size A n c cs ∧ Below w.heap.size w w'
end Go.Proofs.YtdhnhgppapkikaaGreatDoor

-- OpenChs: Changes that came in as an argument: what is known of their value.
namespace Go.Proofs.YtdhnhgppapkikaaGreatDoor
set_option maxRecDepth 20000
set_option linter.unusedVariables false
set_option linter.unusedSimpArgs false
open Go.RowKit Go.ChangeShapes Go.WideShapes Go.Joins Go.Deep

instance : Inhabited MChg := ⟨chg0⟩
/-- the value v is a slice of changes cs that came in. -/
def ChsArg (w : World) (v : Value) (cs : List MChg) : Prop :=
  ∃ A n c, v = .slice A n c ∧ n ≤ maxLen ∧ Chs w w.heap.size A n cs ∧ ∀ i, (cx cs i).bytes.length ≤ maxLen

end Go.Proofs.YtdhnhgppapkikaaGreatDoor

-- ChsX: What the helpers of the exact laws do at slices of changes: counted, copied, compared, marked, held against the marks.
namespace Go.Proofs.YtdhnhgppapkikaaGreatDoor
set_option maxRecDepth 20000
set_option linter.unusedVariables false
set_option linter.unusedSimpArgs false
open Go.RowKit

/-- the size of some changes, as the laws count it. -/
def szH : List MChg → Nat
  | [] => 0
  | c :: r => 1 + c.bytes.length + szH r
theorem szH_append (a b : List MChg) : szH (a ++ b) = szH a + szH b := by
  induction a with
  | nil => simp [szH]
  | cons x r ih => simp [szH, ih]; omega
theorem szH_take (cs : List MChg) (k : Nat) (h : k < cs.length) : szH (cs.take (k + 1)) = szH (cs.take k) + 1 + (cx cs k).bytes.length := by
  rw [cx_take cs k h, szH_append]; simp [szH]; omega
theorem szH_take_le (cs : List MChg) (k : Nat) : szH (cs.take k) ≤ szH cs := by
  conv => rhs; rw [← List.take_append_drop k cs, szH_append]
  omega
theorem szH_len (cs : List MChg) : cs.length ≤ szH cs := by
  induction cs with
  | nil => simp
  | cons x r ih => simp [szH]; omega
theorem cx_bd (cs : List MChg) (h : szH cs ≤ 1048576) (i : Nat) : (cx cs i).bytes.length ≤ 1048576 := by
  by_cases hi : i < cs.length
  · have h1 := szH_take cs i hi
    have h2 := szH_take_le cs (i + 1)
    omega
  · have e : cx cs i = chg0 := by unfold cx; rw [List.getElem?_eq_none (by omega)]; rfl
    rw [e]; simp [chg0]

/-- the changes as far as they are filled. -/
def filledH (cs : List MChg) (n k : Nat) : List MChg := cs.take k ++ List.replicate (n - k) chg0
theorem filledH_set (cs : List MChg) (n k : Nat) (hz : cs.length = n) (hk : k < n) : (filledH cs n k).set k (cx cs k) = filledH cs n (k + 1) := by
  unfold filledH
  obtain ⟨m, hm⟩ : ∃ m, n - k = m + 1 := ⟨n - k - 1, by omega⟩
  have hm' : n - (k + 1) = m := by omega
  have hl : min k cs.length = k := by omega
  rw [hm, hm', cx_take cs k (by omega)]
  simp [List.replicate_succ, hl]
theorem filledH_all (cs : List MChg) (n : Nat) (hz : cs.length = n) : filledH cs n n = cs := by
  unfold filledH
  rw [List.take_of_length_le (by omega)]; simp
def noSubH : Sub := ⟨none, 0, 0, []⟩
theorem make_changes (n : Nat) (hn : n ≤ 2199023255552) (W : World) :
    (Instr.makeSlice 30 (.int .i64 (n : Int)) (.int .i64 (n : Int))).run Tryz.prog W = .ok (.slice (some ⟨W.heap.size, 0, none⟩) n n) (W.alloc (.cells (hvs n (List.replicate n chg0) fun _ => noSubH).toArray 54)) := by
  obtain ⟨i0, hi, hz0, hz1, hz2⟩ := info_parts Tryz.infoCh
  have hr := run_make (P := Tryz.prog) W 30 54 i0 (.agg #[.int .i64 0, .int .i64 0, .slice none 0 0]) Tryz.underlying30 hi hz0 .i64 .i64 n n (by omega) (by omega) (by rw [hz2]; omega) (by omega)
  simp only [Int.toNat_natCast] at hr
  rw [hr, hz1]
  have e : madeCells (Value.agg #[.int .i64 0, .int .i64 0, .slice none 0 0]).cells (n * 3) = (hvs n (List.replicate n chg0) fun _ => noSubH).toArray := by
    apply Array.ext
    · simp [madeCells, hvs]
    · intro i h1 h2
      have hn : i < n * 3 := by simpa [madeCells] using h1
      have hd : i / 3 < n := by omega
      simp [madeCells, hvs, Value.cells, hf, cx, hd, Sub.v, noSubH, chg0]
      rcases (show i % 3 = 0 ∨ i % 3 = 1 ∨ i % 3 = 2 by omega) with h | h | h <;> simp [h]
  rw [e]
theorem OwnCh.of_made (w : World) (n : Nat) (hm : n ≤ maxLen) : OwnCh (w.alloc (.cells (hvs n (List.replicate n chg0) fun _ => noSubH).toArray 54)) w.heap.size (w.heap.size + 1) (some ⟨w.heap.size, 0, none⟩) n n (List.replicate n chg0) := by
  refine ⟨by simp, fun b h => by simp [Value.ownBlock] at h; omega, fun _ => noSubH, ?_, ?_⟩
  · refine ⟨by simp [hvs], .inr ⟨w.heap.size, n, _, rfl, Nat.le_refl _, heap_alloc_new _ _, Nat.le_refl _, hm, by simp [hvs], List.take_of_length_le (by simp [hvs])⟩⟩
  · refine ⟨fun i hi => ?_, fun i j _ _ _ b h => by simp [Sub.v, noSubH, Value.ownBlock] at h, fun i _ b h => by simp [Sub.v, noSubH, Value.ownBlock] at h, fun i _ b h => by simp [Sub.v, noSubH, Value.ownBlock] at h⟩
    have e : cx (List.replicate n chg0) i = chg0 := by simp [cx, hi]
    rw [e]
    exact Mine.nil _ _

theorem likeH_yes (A A' : Option Addr) (n c c' : Nat) (cs : List MChg) (B B' : Nat) (w : World) (hn : n ≤ 1048576) (hm : ∀ i, (cx cs i).bytes.length ≤ 1048576) (hB : B ≤ w.heap.size) (hB' : B' ≤ w.heap.size) (hb : Chs w B A n cs) (hb' : Chs w B' A' n cs) :
    Calls Tryz.prog 17 #[.slice A n c, .slice A' n c'] w fun e w' => e = .returned (.bool true) ∧ Below w.heap.size w w' := by
  have HB := Lib.hid (hb.more hB)
  have HB' := Lib.hid (hb'.more hB')
  clear hb hb'
  go_enter Tryz.func17, Tryz.ntmps17
  go_wp2
  go_loopw [5] (fun i wr => ∃ k : Nat, k ≤ n ∧ i = .int .i64 k ∧ Below w.heap.size w wr) (fun i _ => n - (intOf i).toNat)
  case atStart => exact ⟨0, Nat.zero_le _, rfl, Below.refl _ _⟩
  case round =>
    obtain ⟨k, hk, rfl, hbel⟩ := hrel
    by_cases hlt : k < n
    · obtain ⟨b, off, Ai, ni, ci, rfl, hbB, h0, h1, h2, _, _, hy⟩ := (HB.out.below hbel).at_ hlt
      obtain ⟨b', off', Ai', ni', ci', rfl, hbB', h0', h1', h2', _, _, hy'⟩ := (HB'.out.below hbel).at_ hlt
      have hnm := hm k
      have e1 : ni' = ni := hy'.1.symm.trans hy.1
      obtain rfl := e1
      have hl := hy.1
      generalize cx cs k = x at h0 h1 h2 h0' h1' h2' hy hy' hnm hl
      have Y := Lib.hid hy
      have Y' := Lib.hid hy'
      have BR := Lib.hid hbel
      clear hbel hy hy'
      go_wp2
      go_still_tail 8, (by kernel_rfl)
      change wpList _ _ _ _ _ wr.drew
      have BD := Lib.hid BR.out.drew
      have hsz := BR.out.size
      have Y := Lib.hid (Y.out.drewN 1)
      have Y' := Lib.hid (Y'.out.drewN 1)
      have e2 : wr.drewN 1 = wr.drew := rfl
      rw [e2] at Y Y'
      have hsz2 : wr.drew.heap.size = wr.heap.size := rfl
      generalize wr.drew = w2 at BD Y Y' hsz2
      clear h0 h1 h2 h0' h1' h2' e2
      go_wp2_with fail
      refine (eqChange_yes x _ _ _ _ _ _ _ _ (by omega) (by omega) (by omega) Y.out Y'.out).mono ?_
      rintro e w3 ⟨rfl, b3⟩
      have B3 := Lib.hid (BD.out.trans (b3.mono BD.out.size))
      clear b3
      go_wp2
      go_roundw
      case rel => exact ⟨k + 1, by omega, by go_num, B3.out⟩
      case measure => simp [intOf]; omega
    · go_wp2
      go_ret
      exact ⟨rfl, hbel⟩
end Go.Proofs.YtdhnhgppapkikaaGreatDoor

-- ChsY: Slices of changes, marked by the laws and held against the marks.
namespace Go.Proofs.YtdhnhgppapkikaaGreatDoor
set_option maxRecDepth 20000
set_option linter.unusedVariables false
set_option linter.unusedSimpArgs false
open Go.RowKit

/-- how many marks some changes take. -/
def mlH : List MChg → Nat
  | [] => 0
  | c :: r => 2 + c.bytes.length + mlH r
theorem mlH_append (a b : List MChg) : mlH (a ++ b) = mlH a + mlH b := by
  induction a with
  | nil => simp [mlH]
  | cons x r ih => simp [mlH, ih]; omega
theorem mlH_take (cs : List MChg) (k : Nat) (h : k < cs.length) : mlH (cs.take (k + 1)) = mlH (cs.take k) + 2 + (cx cs k).bytes.length := by
  rw [cx_take cs k h, mlH_append]; simp [mlH]; omega
theorem mlH_take_le (cs : List MChg) (k : Nat) : mlH (cs.take k) ≤ mlH cs := by
  conv => rhs; rw [← List.take_append_drop k cs, mlH_append]
  omega
theorem mlH_sz (cs : List MChg) : mlH cs = szH cs + cs.length := by
  induction cs with
  | nil => rfl
  | cons x r ih => simp [mlH, szH, ih]; omega
theorem mlH_le (l : List MChg) (m : Nat) (h : ∀ x ∈ l, x.bytes.length ≤ m) : mlH l ≤ l.length * (2 + m) := by
  induction l with
  | nil => simp [mlH]
  | cons x r ih =>
    have h1 := h x (List.mem_cons_self ..)
    have h2 := ih (fun y hy => h y (List.mem_cons_of_mem _ hy))
    simp only [mlH, List.length_cons, Nat.add_mul, Nat.one_mul]
    omega
/-- the changes as the marks from k0 on leave them. -/
def markH (k0 : Int) : List MChg → List MChg
  | [] => []
  | c :: r => ⟨k0, k0 + 1, marks (k0 + 2) c.bytes.length⟩ :: markH (k0 + 2 + c.bytes.length) r
theorem markH_append (k0 : Int) (a b : List MChg) : markH k0 (a ++ b) = markH k0 a ++ markH (k0 + mlH a) b := by
  induction a generalizing k0 with
  | nil => simp [markH, mlH]
  | cons x r ih =>
    have e : k0 + 2 + (x.bytes.length : Int) + (mlH r : Int) = k0 + ((2 + x.bytes.length + mlH r : Nat) : Int) := by push_cast; omega
    simp only [List.cons_append, markH, ih, mlH, e]
theorem markH_len (k0 : Int) (cs : List MChg) : (markH k0 cs).length = cs.length := by
  induction cs generalizing k0 with
  | nil => rfl
  | cons x r ih => simp [markH, ih]
theorem markH_cx (k0 : Int) (cs : List MChg) (k : Nat) (h : k < cs.length) : cx (markH k0 cs) k = ⟨k0 + mlH (cs.take k), k0 + mlH (cs.take k) + 1, marks (k0 + mlH (cs.take k) + 2) (cx cs k).bytes.length⟩ := by
  have e : cs = cs.take k ++ cx cs k :: cs.drop (k + 1) := by
    conv => lhs; rw [← List.take_append_drop k cs, List.drop_eq_getElem_cons h]
    unfold cx; rw [List.getElem?_eq_getElem h]; rfl
  have hl : (markH k0 (cs.take k)).length = k := by rw [markH_len]; simp; omega
  conv => lhs; unfold cx; rw [e, markH_append]
  rw [List.getElem?_append_right (by omega), hl]
  simp [markH]
/-- the changes, marked as far as the k-th. -/
def markHTo (k0 : Int) (cs : List MChg) (k : Nat) : List MChg := markH k0 (cs.take k) ++ cs.drop k
theorem markHTo_len (k0 : Int) (cs : List MChg) (k : Nat) : (markHTo k0 cs k).length = cs.length := by
  unfold markHTo; rw [List.length_append, markH_len]; simp; omega
theorem markHTo_cx (k0 : Int) (cs : List MChg) (k : Nat) (h : k < cs.length) : cx (markHTo k0 cs k) k = cx cs k := by
  unfold markHTo cx
  have hl : (markH k0 (cs.take k)).length = k := by rw [markH_len]; simp; omega
  rw [List.getElem?_append_right (by omega), hl]
  simp
theorem markHTo_step (k0 : Int) (cs : List MChg) (k : Nat) (h : k < cs.length) : (markHTo k0 cs k).set k ⟨k0 + mlH (cs.take k), k0 + mlH (cs.take k) + 1, marks (k0 + mlH (cs.take k) + 2) (cx cs k).bytes.length⟩ = markHTo k0 cs (k + 1) := by
  unfold markHTo
  have hl : (markH k0 (cs.take k)).length = k := by rw [markH_len]; simp; omega
  have hc : cs[k] = cx cs k := by unfold cx; rw [List.getElem?_eq_getElem h]; rfl
  rw [cx_take cs k h, markH_append, List.set_append, if_neg (by omega), hl, List.drop_eq_getElem_cons h, Nat.sub_self, List.set_cons_zero, List.append_assoc]
  rfl
theorem markHTo_all (k0 : Int) (cs : List MChg) : markHTo k0 cs cs.length = markH k0 cs := by
  unfold markHTo; simp

theorem markH_any (A : Option Addr) (n c lo hi : Nat) (cs : List MChg) (k0 : Int) (w : World) (h0 : 0 ≤ k0) (h1 : k0 + mlH cs ≤ 4611686018427387904) (hn : n ≤ 4194304) (hm : OwnCh w lo hi A n c cs) :
    Calls Tryz.prog 20 #[.slice A n c, .int .i64 k0] w fun e w' => e = .returned (.int .i64 (k0 + mlH cs)) ∧ OwnCh w' lo hi A n c (markH k0 cs) ∧ Touch (fun b => lo ≤ b ∧ b < hi) w w' := by
  have hx := hm.len
  have HM := Lib.hid hm
  clear hm
  go_enter Tryz.func20, Tryz.ntmps20
  go_wp2
  go_loopw [1, 5] (fun q i wr => ∃ k : Nat, k ≤ n ∧ i = .int .i64 k ∧ q = .int .i64 (k0 + mlH (cs.take k)) ∧ OwnCh wr lo hi A n c (markHTo k0 cs k) ∧ Touch (fun b => lo ≤ b ∧ b < hi) w wr) (fun _ i _ => n - (intOf i).toNat)
  case atStart => exact ⟨0, Nat.zero_le _, rfl, by simp [mlH], by simpa [markHTo, markH] using HM.out, Touch.of_below (Below.refl _ _)⟩
  case round =>
    obtain ⟨k, hk, rfl, rfl, hmr, htr⟩ := hrel
    by_cases hlt : k < n
    · obtain ⟨g, rfl, hbg, hgh, hlt'⟩ := hmr.form (by omega)
      have hc0 := hmr.cell0 hlt
      have hc1 := hmr.cell1 hlt
      have hf0 := hmr.free (k * 3)
      have hf1 := hmr.free (k * 3 + 1)
      have hs1 := hmr.setTwo (k0 + mlH (cs.take k)) (k0 + mlH (cs.take k) + 1) hlt
      have hst := mlH_take cs k (by omega)
      have hall := mlH_take_le cs (k + 1)
      rw [markHTo_cx k0 cs k (by omega)] at hs1
      obtain ⟨Ai, ni, ci, hc2, hmi, hui, hin⟩ := hs1.inner hlt
      have hcc : cx ((markHTo k0 cs k).set k ⟨k0 + mlH (cs.take k), k0 + mlH (cs.take k) + 1, (cx cs k).bytes⟩) k = ⟨k0 + mlH (cs.take k), k0 + mlH (cs.take k) + 1, (cx cs k).bytes⟩ := by
        rw [cx_set _ _ _ _ (by rw [markHTo_len]; omega), if_pos rfl]
      rw [hcc] at hmi hin
      have hni : (cx cs k).bytes.length = ni := hmi.len
      have hstep := markHTo_step k0 cs k (by omega)
      have T1 := Lib.hid (htr.trans ((touch_set (S := fun b => lo ≤ b ∧ b < hi) wr g (k * 3) (.int .i64 (k0 + mlH (cs.take k))) ⟨hbg, hgh⟩).trans (touch_set _ g (k * 3 + 1) (.int .i64 (k0 + mlH (cs.take k) + 1)) ⟨hbg, hgh⟩)))
      have MI := Lib.hid hmi
      have IN := Lib.hid hin
      have UI := Lib.hid hui
      have HST := Lib.hid hstep
      have HLN := Lib.hid hni
      have hk2 : k0 + mlH (cs.take k) + 2 + ni ≤ 4611686018427387904 := by omega
      have hkp : 0 ≤ k0 + mlH (cs.take k) + 2 := by omega
      have hfin : k0 + mlH (cs.take k) + 2 + ni = k0 + mlH (cs.take (k + 1)) := by omega
      have HF := Lib.hid hfin
      generalize hq : k0 + (mlH (cs.take k) : Int) = q at *
      clear hmr htr hs1 hmi hin hui hstep hst hfin hall hcc hq
      have hq2 : q + 1 + 1 = q + 2 := by omega
      go_wp2_with fail
      refine (mark_any Ai ni ci lo _ (q + 2) _ hkp hk2 MI.out).mono ?_
      rintro e w1 ⟨rfl, m1, g1⟩
      have hc := IN.out _ _ m1 g1
      rw [List.set_set] at hc
      have hs2 := HST.out
      rw [HLN.out] at hs2
      have hc' : OwnCh w1 lo hi (some ⟨g, 0, none⟩) n c (markHTo k0 cs (k + 1)) := by rw [← hs2]; exact hc
      have O1 := Lib.hid hc'
      have T2 := Lib.hid (T1.out.trans ((Touch.of_grown g1).mono (fun b e => UI.out b e.symm)))
      clear hc m1 g1 hs2 hc' hc0 hc1 hc2 hf0 hf1
      go_wp2
      go_roundw
      case rel => exact ⟨k + 1, by omega, by go_num, by rw [← HF.out], O1.out, T2.out⟩
      case measure => simp [intOf]; omega
    · go_wp2
      go_ret
      obtain rfl : k = n := by omega
      subst hx
      rw [List.take_length, markHTo_all] at *
      exact ⟨rfl, hmr, htr⟩
theorem heldH_yes (A : Option Addr) (n c : Nat) (B : Nat) (cs : List MChg) (k0 : Int) (w : World) (h0 : 0 ≤ k0) (h1 : k0 + mlH cs ≤ 4611686018427387904) (hn : n ≤ 4194304) (hb : Chs w B A n (markH k0 cs)) :
    Calls Tryz.prog 21 #[.slice A n c, .int .i64 k0] w fun e w' => e = .returned (.int .i64 (k0 + mlH cs)) ∧ w = w' := by
  have HB := Lib.hid hb
  have hx : cs.length = n := (markH_len k0 cs).symm.trans hb.1
  clear hb
  go_enter Tryz.func21, Tryz.ntmps21
  go_wp2
  go_loop [1, 5] (fun q i => ∃ k : Nat, k ≤ n ∧ i = .int .i64 k ∧ q = .int .i64 (k0 + mlH (cs.take k))) (fun _ i => n - (intOf i).toNat)
  case atStart => exact ⟨0, Nat.zero_le _, rfl, by simp [mlH]⟩
  case round =>
    obtain ⟨k, hk, rfl, rfl⟩ := hrel
    by_cases hlt : k < n
    · obtain ⟨b, off, Ai, ni, ci, rfl, hbB, hc0, hc1, hc2, _, _, hy⟩ := HB.out.at_ hlt
      rw [markH_cx k0 cs k (by omega)] at hc0 hc1 hy
      have hst := mlH_take cs k (by omega)
      have hall := mlH_take_le cs (k + 1)
      have hni : (cx cs k).bytes.length = ni := (marks_len _ _).symm.trans hy.1
      simp only at hc0 hc1 hy
      rw [hni] at hy hst
      have hk2 : k0 + mlH (cs.take k) + 2 + ni ≤ 4611686018427387904 := by omega
      have hkp : 0 ≤ k0 + mlH (cs.take k) + 2 := by omega
      have hfin : k0 + mlH (cs.take k) + 2 + ni = k0 + mlH (cs.take (k + 1)) := by omega
      have HF := Lib.hid hfin
      have Y := Lib.hid hy
      clear hfin hall hst hy
      generalize hq : k0 + (mlH (cs.take k) : Int) = q at *
      have hd : decide ((q + 2 + (ni : Int)) < 0) = false := decide_eq_false (by omega)
      have hq2 : q + 1 + 1 = q + 2 := by omega
      clear hq
      go_wp2_with fail
      refine (held_yes Ai ni ci B (q + 2) _ hkp hk2 Y.out).mono ?_
      rintro e w' ⟨rfl, rfl⟩
      go_wp2
      go_round
      case rel => exact ⟨k + 1, by omega, by go_num, by rw [← HF.out]⟩
      case measure => simp [intOf]; omega
    · go_wp2
      go_ret
      obtain rfl : k = n := by omega
      subst hx
      rw [List.take_length]
      exact ⟨rfl, rfl⟩
end Go.Proofs.YtdhnhgppapkikaaGreatDoor

-- ReachO: The model's ReachOf.
namespace Go.Proofs.YtdhnhgppapkikaaGreatDoor
set_option maxRecDepth 20000
set_option linter.unusedVariables false
set_option linter.unusedSimpArgs false
open Go.RowKit

end Go.Proofs.YtdhnhgppapkikaaGreatDoor

-- BaseS: The model's base: its helpers.
namespace Go.Proofs.YtdhnhgppapkikaaGreatDoor
set_option maxRecDepth 20000
set_option linter.unusedVariables false
set_option linter.unusedSimpArgs false
open Go.RowKit

theorem rise_of_next (l : List Int) (h : ∀ j, 0 < j → j < l.length → l[j - 1]?.getD 0 < l[j]?.getD 0) : RiseI l := by
  refine List.pairwise_iff_getElem.2 ?_
  intro i j hi hj hij
  have key : ∀ d, i + 1 + d < l.length → l[i]?.getD 0 < l[i + 1 + d]?.getD 0 := by
    intro d
    induction d with
    | zero => intro hd; exact h (i + 1) (by omega) hd
    | succ d ih =>
      intro hd
      have h1 := ih (by omega)
      have h2 := h (i + 1 + (d + 1)) (by omega) hd
      rw [show i + 1 + (d + 1) - 1 = i + 1 + d by omega] at h2
      omega
  have h1 := key (j - i - 1) (by omega)
  rw [show i + 1 + (j - i - 1) = j by omega, List.getElem?_eq_getElem hi, List.getElem?_eq_getElem hj] at h1
  exact h1

theorem l13Rising_any (A : Option Addr) (n c : Nat) (xs : List Int) (B : Nat) (w : World) (hn : n ≤ 1048576) (hB : B ≤ w.heap.size) (hb : Ints w B A n xs) :
    Calls Tryz.prog 57 #[.slice A n c] w fun e w' => ∃ r, e = .returned (.bool r) ∧ (r = true ↔ RiseI xs) ∧ Below w.heap.size w w' := by
  have HB := Lib.hid (hb.more hB)
  have hlen := hb.1
  clear hb
  go_enter Tryz.func57, Tryz.ntmps57
  go_wp2
  go_loopw [3] (fun i wr => ∃ k : Nat, 1 ≤ k ∧ (k ≤ n ∨ k = 1) ∧ i = .int .i64 k ∧ (∀ j, 0 < j → j < k → xs[j - 1]?.getD 0 < xs[j]?.getD 0) ∧ Below w.heap.size w wr) (fun i _ => n - (intOf i).toNat)
  case atStart => exact ⟨1, by omega, by omega, rfl, fun j h1 h2 => by omega, Below.refl _ _⟩
  case round =>
    obtain ⟨k, hk1, hk, rfl, hr, hbel⟩ := hrel
    have BR := Lib.hid hbel
    have HK := Lib.hid (HB.out.below hbel)
    clear hbel
    by_cases hlt : k < n
    · obtain ⟨b, off, rfl, hbB, h0⟩ := HK.out.at_ hlt
      obtain ⟨b', off', e1, _, h1⟩ := HK.out.at_ (k := k - 1) (by omega)
      cases e1
      obtain ⟨x, hx⟩ : ∃ x, xs[k]?.getD 0 = x := ⟨_, rfl⟩
      obtain ⟨y, hy⟩ : ∃ y, xs[k - 1]?.getD 0 = y := ⟨_, rfl⟩
      rw [hx] at h0
      rw [hy] at h1
      have hwk : IntKind.i64.wrap ((k : Int) - 1) = (k : Int) - 1 := by rw [IntKind.wrap_i64]; omega
      by_cases hle : x ≤ y
      · have hd : decide (x ≤ y) = true := decide_eq_true hle
        go_wp2
        go_quiet (fail)
        go_wp2
        go_ret
        exact ⟨false, rfl, iff_of_false (by simp) (fun h => by have := riseI_at xs h (k - 1) k (by omega) (by omega); omega), below_drewN BR.out _⟩
      · have hd : decide (x ≤ y) = false := decide_eq_false hle
        go_wp2
        go_quiet (fail)
        go_wp2
        go_roundw
        case rel =>
          refine ⟨k + 1, by omega, by omega, by go_num, fun j h1 h2 => ?_, below_drewN BR.out _⟩
          rcases Nat.lt_or_ge j k with h | h
          · exact hr j h1 h
          · rw [show j = k by omega, hx, hy]; omega
        case measure => simp [intOf]; omega
    · go_wp2
      go_ret
      exact ⟨true, rfl, iff_of_true rfl (rise_of_next xs fun j h1 h2 => hr j h1 (by omega)), BR.out⟩

/-- the box of a base that is a parameter. -/
def baseBox (L : BLay) (b : MBase) : Array Value := #[.slice L.A L.n L.c, .int .i64 b.head, .slice L.Ap L.np L.cp, .int .i64 b.phase, .slice L.Ag L.ng L.cg, .slice L.Ab L.nb L.cb, .int .i64 b.cursor]

theorem l13Kept_any (L : BLay) (b : MBase) (B : Nat) (w : World) (hn : L.np ≤ 1000000) (hB : B ≤ w.heap.size) (hz : L.Ap = none → L.cp = 0) (hR : RiseI b.pins) (hb : Ints w B L.Ap L.np b.pins) :
    Calls Tryz.prog 52 #[L.v b] w fun e w' => ∃ g n c, e = .returned (.slice (some ⟨g, 0, none⟩) n c) ∧ OwnI w' w.heap.size (some ⟨g, 0, none⟩) n c (keptOf b) ∧ Below w.heap.size w w' := by
  obtain ⟨A, n, c, Ap, np, cp, Ag, ng, cg, Ab, nb, cb⟩ := L
  obtain ⟨cs, head, pins, phase, grey, black, cursor⟩ := b
  simp only at hn hz hR hb
  unfold BLay.v
  simp only
  obtain ⟨w1, hw1⟩ : ∃ w1, w.alloc (.cells #[.slice A n c, .int .i64 head, .slice Ap np cp, .int .i64 phase, .slice Ag ng cg, .slice Ab nb cb, .int .i64 cursor] 27) = w1 := ⟨_, rfl⟩
  have x1 : Box w1 w.heap.size _ _ := hw1 ▸ heap_alloc_new _ _
  have b1 : Below w.heap.size w w1 := hw1 ▸ (Below.refl _ _).alloc (Nat.le_refl _) _
  have X1 := Lib.hid x1
  have B1 := Lib.hid b1
  have HB := Lib.hid ((hb.more hB).below b1)
  have q1 := x1.cell 1
  have q2 := x1.cell 2
  simp at q1 q2
  have s1 : w.heap.size ≤ w1.heap.size := b1.size
  have hlen := hb.1
  have RI := Lib.hid hR
  clear x1 b1 hb hR
  go_enter Tryz.func52, Tryz.ntmps52
  go_wp2_with fail
  refine (l1Copy_any Ap np cp pins w.heap.size w1 (by omega) s1 hz HB.out).mono ?_
  rintro e w2 ⟨g2, c2, rfl, o2, b2⟩
  have B2 := Lib.hid (B1.out.trans (b2.mono s1))
  have X2 := X1.out.below b2 X1.out.lt
  have q1 := X2.cell 1
  simp at q1
  have s2 : w1.heap.size ≤ w2.heap.size := b2.size
  have O2 := Lib.hid o2
  have hcap := o2.cap
  clear X2 b2 o2 q2
  by_cases h0 : head = 0
  · have hb0 : (head != 0) = false := by simp [h0]
    have hk : keptOf ⟨cs, head, pins, phase, grey, black, cursor⟩ = pins := if_pos (.inl h0)
    have HK := Lib.hid hk
    clear h0 hk
    go_wp2
    go_ret
    exact ⟨_, _, _, rfl, by rw [HK.out]; exact O2.out.base s1, B2.out⟩
  · have hb0 : (head != 0) = true := by simpa using h0
    have H0 := Lib.hid h0
    clear h0
    go_wp2_with fail
    refine (l4Into_any g2 np c2 pins head w2.heap.size w2 (by omega) hcap (Nat.le_refl _) O2.out.ints RI.out).mono ?_
    rintro e w3 ⟨b3, h3⟩
    have B3 := Lib.hid (B2.out.trans (b3.mono (by omega)))
    have O3 := Lib.hid (O2.out.below b3)
    clear b3
    rcases h3 with ⟨hin, rfl⟩ | ⟨hin, g3, c3, rfl, o3⟩
    · have hk : keptOf ⟨cs, head, pins, phase, grey, black, cursor⟩ = pins := if_pos (.inr hin)
      have HK := Lib.hid hk
      clear hin hk
      go_wp2
      go_ret
      exact ⟨_, _, _, rfl, by rw [HK.out]; exact O3.out.base s1, B3.out⟩
    · have hk : keptOf ⟨cs, head, pins, phase, grey, black, cursor⟩ = insI pins head := if_neg (fun h => by rcases h with h | h; exact H0.out h; exact hin h)
      have HK := Lib.hid hk
      have O4 := Lib.hid o3
      clear hin hk o3
      go_wp2
      go_ret
      exact ⟨_, _, _, rfl, by rw [HK.out]; exact O4.out.base (by omega), B3.out⟩

theorem l13Names_any (A : Option Addr) (n c : Nat) (cs : List (Int × List Int)) (Al : Option Addr) (nl cl : Nat) (l : List Int) (B : Nat) (w : World) (hn : n ≤ 1048576) (hnl : nl ≤ 1048576) (hcl : nl ≤ cl) (hB : B ≤ w.heap.size) (hb : Cells w B A n cs) (hl : Ints w B Al nl l) :
    Calls Tryz.prog 88 #[.slice A n c, .slice Al nl cl] w fun e w' => ∃ r, e = .returned (.bool r) ∧ (r = true ↔ Named cs l ∧ l.Nodup) ∧ Below w.heap.size w w' := by
  have HB := Lib.hid (hb.more hB)
  have HL := Lib.hid (hl.more hB)
  have hlen := hb.1
  have hll := hl.1
  clear hb hl
  go_enter Tryz.func88, Tryz.ntmps88
  go_wp2
  go_loopw [5] (fun i wr => ∃ k : Nat, k ≤ nl ∧ i = .int .i64 k ∧ Named cs (l.take k) ∧ (l.take k).Nodup ∧ Below w.heap.size w wr) (fun i _ => nl - (intOf i).toNat)
  case atStart => exact ⟨0, Nat.zero_le _, rfl, by simp [Named], by simp, Below.refl _ _⟩
  case round =>
    obtain ⟨k, hk, rfl, hN, hD, hbel⟩ := hrel
    have NN := Lib.hid hN
    have DD := Lib.hid hD
    have BR := Lib.hid hbel
    clear hN hD hbel
    by_cases hlt : k < nl
    · obtain ⟨b, off, rfl, hbB, h0⟩ := (HL.out.below BR.out).at_ hlt
      have hmem := Lib.hid (getD_mem l k (by omega))
      have htk := List.take_succ_eq_append_getElem (l := l) (i := k) (by omega)
      have hgx : l[k]?.getD 0 = l[k]'(by omega) := by rw [List.getElem?_eq_getElem (by omega)]; rfl
      have hnd := nodup_at l k (by omega)
      have hnt := named_take l k (by omega) DD.out
      rw [← hgx] at htk
      obtain ⟨x, hx⟩ : ∃ x, l[k]?.getD 0 = x := ⟨_, rfl⟩
      rw [hx] at h0 hmem htk hnd hnt
      have TK := Lib.hid htk
      have ND := Lib.hid hnd
      have NT := Lib.hid hnt
      have TI := Lib.hid (Ints.takes (HL.out.below BR.out) k hk)
      clear htk hnd hnt hgx hx
      have hFD : ∀ q, Calls Tryz.prog 122 #[.slice A n c, .int .i64 x] (wr.drewN q) fun e w' => e = .returned (.int .i64 (if findC cs x < n then (findC cs x : Int) else -1)) ∧ w' = wr.drewN q :=
        fun q => (l4Find_any A n c cs x w.heap.size (wr.drewN q) hn ((HB.out.below BR.out).drewN q)).mono fun e w' h => ⟨h.1, h.2.symm⟩
      have hIN : ∀ q, Calls Tryz.prog 61 #[.slice (some ⟨b, off, none⟩) k cl, .int .i64 x] (wr.drewN q) fun e w' => e = .returned (.bool (decide (x ∈ l.take k))) ∧ w' = wr.drewN q :=
        fun q => (l4In_any _ k cl (l.take k) x w.heap.size (wr.drewN q) (by omega) (TI.out.drewN q)).mono fun e w' h => ⟨h.1, h.2.symm⟩
      have FD := Lib.hid hFD
      have IN := Lib.hid hIN
      clear hFD hIN
      by_cases hf : findC cs x < n
      · rw [if_pos hf] at FD
        have hd : decide ((findC cs x : Int) < 0) = false := decide_eq_false (by omega)
        have HF := Lib.hid hf
        by_cases hin : x ∈ l.take k
        · rw [decide_eq_true hin] at IN
          have HIN := Lib.hid hin
          clear hin
          go_wp2
          go_quiet (first | (go_at_call 122; exact Calls.quiet_of_same (FD.out _)) | (go_at_call 61; exact Calls.quiet_of_same (IN.out _)))
          go_wp2
          go_ret
          exact ⟨false, rfl, iff_of_false (by simp) (fun h => ND.out h.2 HIN.out), below_drewN BR.out _⟩
        · rw [decide_eq_false hin] at IN
          have HIN := Lib.hid hin
          clear hin
          go_wp2
          go_quiet (first | (go_at_call 122; exact Calls.quiet_of_same (FD.out _)) | (go_at_call 61; exact Calls.quiet_of_same (IN.out _)))
          go_wp2
          go_roundw
          case rel =>
            refine ⟨k + 1, by omega, by go_num, ?_, NT.out HIN.out, below_drewN BR.out _⟩
            rw [TK.out]
            intro y hy
            rcases List.mem_append.1 hy with h | h
            · exact NN.out y h
            · simp at h; subst h; have := HF.out; omega
          case measure => simp [intOf]; omega
      · rw [if_neg hf] at FD
        have HF := Lib.hid hf
        go_wp2
        go_quiet (first | (go_at_call 122; exact Calls.quiet_of_same (FD.out _)) | (go_at_call 61; exact Calls.quiet_of_same (IN.out _)))
        go_wp2
        go_ret
        exact ⟨false, rfl, iff_of_false (by simp) (fun h => HF.out (by have := h.1 x hmem.out; omega)), below_drewN BR.out _⟩
    · obtain rfl : k = nl := by omega
      have h1 := NN.out
      have h2 := DD.out
      rw [List.take_of_length_le (by omega)] at h1 h2
      have H := Lib.hid (And.intro h1 h2)
      clear h1 h2
      go_wp2
      go_ret
      exact ⟨true, rfl, iff_of_true rfl H.out, BR.out⟩
end Go.Proofs.YtdhnhgppapkikaaGreatDoor

-- StepA: A step law: an append of a whole slice in a drawn region; no statement of the program is proved here.
namespace Go.Proofs.YtdhnhgppapkikaaGreatDoor
set_option maxRecDepth 20000
open Go.RowKit

section
variable {P : Program}
/-- at a step of a region that draws: 'append(s, x...)' onto a row of the call's own; x may be empty. -/
theorem step_append_row {ops : Array Oper} {o : Oper} {a : Act} {w : World} {K : Act → World → Prop} {Q : Exit → Act → World → Prop} {E : Prop} (hgd : o.guard = none) (s x : Operand) (t : TypeId)
    (ho : o.op = .call { callee := .builtin .append, args := #[s, x], argTypes := #[t, t] })
    (base : Nat) (e : TypeId) (i : TypeInfo) (z : Value) (size bytes : Nat) (ht : P.underlying t = some (.slice e)) (hi : P.info? e = some i) (hz : i.zero = some z)
    (hsize : i.size = size) (hby : i.bytes = bytes) (hzs : z.cells.size = size) (hsz : 0 < size)
    (v : Value) (n : Nat) (xs : List Value) (hs : a.eval s = v) (hown : w.ownsRow base e size v n xs)
    (ad : Addr) (m c : Nat) (news : List Value) (hx : a.eval x = .slice (some ad) m c) (hl : news.length = m * size) (hnews : ∀ j u, news[j]? = some u → w.cell? (ad.add j) = some u) (h1 : ∀ u ∈ news, u.oneCell' = true)
    (h63 : n + m ≤ maxLen) (hbytes : (n + m) * bytes ≤ 140737488355328) (hbase : base ≤ w.heap.size)
    (h : ∀ v' w', w'.ownsRow base e size v' (n + m) (xs ++ news) → w.grownBy w' v.ownBlock → (v' = .slice none 0 0 ↔ v = .slice none 0 0 ∧ m = 0) → K (a.put o.dst v') w') :
    if Region.wanted o (yielded ops a.tmps) = true then Oper.wp P o a w K Q else E := by
  have hw : Region.wanted o (yielded ops a.tmps) = true := by simp [Region.wanted, hgd]
  rw [if_pos hw]
  obtain ⟨v', w', hr, h2, h3, h4, _⟩ := run_append_own_at (P := P) w base t o.type e i z size bytes ht hi hz hsize hby hzs hsz v n xs hown ad m c news hl hnews h1 h63 hbytes hbase
  unfold Oper.wp execOp
  simp only [ho, resolve, invoke, builtin, Sem.run_bind, Sem.run_pure, Result.andThen_ok, List.map_toArray, List.map_cons, List.map_nil, hs, hx, hr]
  exact h v' w' h2 h3 h4
end
end Go.Proofs.YtdhnhgppapkikaaGreatDoor

-- BaseK: The model's base: right while it marks.
namespace Go.Proofs.YtdhnhgppapkikaaGreatDoor
set_option maxRecDepth 20000
set_option linter.unusedVariables false
set_option linter.unusedSimpArgs false
open Go.RowKit

/-- what must be grey or black, as far as the k-th black one. -/
def NeedIs (b : MBase) (k : Nat) (l : List Int) : Prop := ∀ x, x ∈ l ↔ x ∈ keptOf b ∨ ∃ y, y ∈ b.black.take k ∧ KidOf b.cells y x
theorem kidOf_iff {cs : List (Int × List Int)} {x : Int} {nd : MNode} (h : HitIs cs x nd true) (z : Int) : KidOf cs x z ↔ z ∈ nd.kids.map (·.2) := by
  constructor
  · rintro ⟨nd', a, h', hk⟩
    obtain ⟨rfl, _⟩ := h.one h'
    exact List.mem_map.2 ⟨(a, z), hk, rfl⟩
  · intro hz
    obtain ⟨⟨a, y⟩, hy, rfl⟩ := List.mem_map.1 hz
    exact ⟨nd, a, h, hy⟩
theorem NeedIs.step {b : MBase} {k : Nat} {l : List Int} {nd : MNode} (h : NeedIs b k l) (hk : k < b.black.length) (hit : HitIs b.cells (b.black[k]?.getD 0) nd true) : NeedIs b (k + 1) (l ++ nd.kids.map (·.2)) := by
  intro x
  have ht : b.black.take (k + 1) = b.black.take k ++ [b.black[k]?.getD 0] := by
    rw [List.take_succ_eq_append_getElem hk, List.getElem?_eq_getElem hk]; rfl
  rw [List.mem_append, h x, ht]
  constructor
  · rintro ((h1 | ⟨y, h1, h2⟩) | h1)
    · exact .inl h1
    · exact .inr ⟨y, List.mem_append_left _ h1, h2⟩
    · exact .inr ⟨_, List.mem_append_right _ (by simp), (kidOf_iff hit x).2 h1⟩
  · rintro (h1 | ⟨y, h1, h2⟩)
    · exact .inl (.inl h1)
    · rcases List.mem_append.1 h1 with h3 | h3
      · exact .inl (.inr ⟨y, h3, h2⟩)
      · simp only [List.mem_singleton] at h3
        subst h3
        exact .inr ((kidOf_iff hit x).1 h2)
set_option maxHeartbeats 1600000 in
theorem l13Mark_any (L : BLay) (b : MBase) (B : Nat) (w : World) (fit : BaseFit L b) (hB : B ≤ w.heap.size) (hb : BaseIn w B L b) (hR : Right b.cells) (hP : RiseI b.pins) (hF : b.pins.length ≤ 6) :
    Calls Tryz.prog 59 #[L.v b] w fun e w' => ∃ r, e = .returned (.bool r) ∧ (r = true ↔ MarkOk b) ∧ Below w.heap.size w w' := by
  obtain ⟨A, n, c, Ap, np, cp, Ag, ng, cg, Ab, nb, cb⟩ := L
  obtain ⟨hC, hPi, hG, hBl⟩ := hb
  have hCs : Cells w B A n b.cells := hC
  have hPs : Ints w B Ap np b.pins := hPi
  have hGs : Ints w B Ag ng b.grey := hG
  have hBs : Ints w B Ab nb b.black := hBl
  obtain ⟨hsum, hcell, hc_, hcp_, hcg_, hcb, hz_, hzp, hzg, hzb⟩ := fit
  have hsum : n + np + ng + nb ≤ 1048576 := hsum
  have hcb : nb ≤ cb := hcb
  have hzp : Ap = none → cp = 0 := hzp
  have hzg : Ag = none → cg = 0 := hzg
  have hzb : Ab = none → cb = 0 := hzb
  have CELL := Lib.hid hcell
  have ZP := Lib.hid hzp
  have ZG := Lib.hid hzg
  have ZB := Lib.hid hzb
  have HC0 := Lib.hid (hCs.more hB)
  have HP0 := Lib.hid (hPs.more hB)
  have HG0 := Lib.hid (hGs.more hB)
  have HL0 := Lib.hid (hBs.more hB)
  have hlen : b.cells.length = n := hC.1
  have hlp : b.pins.length = np := hPs.1
  have hlg : b.grey.length = ng := hGs.1
  have hlb : b.black.length = nb := hBs.1
  have RT := Lib.hid hR
  have RP := Lib.hid hP
  clear hC hPi hG hBl hCs hPs hGs hBs hR hP hcell hc_ hcp_ hcg_ hz_ hzp hzg hzb
  obtain ⟨w1, hw1⟩ : ∃ w1, w.alloc (.cells #[.slice A n c, .int .i64 b.head, .slice Ap np cp, .int .i64 b.phase, .slice Ag ng cg, .slice Ab nb cb, .int .i64 b.cursor] 27) = w1 := ⟨_, rfl⟩
  have x1 : Box w1 w.heap.size _ _ := hw1 ▸ heap_alloc_new _ _
  have b1 : Below w.heap.size w w1 := hw1 ▸ (Below.refl _ _).alloc (Nat.le_refl _) _
  have X1 := Lib.hid x1
  have B1 := Lib.hid b1
  have HBC := Lib.hid (HC0.out.below b1)
  have HBP := Lib.hid (HP0.out.below b1)
  have HBG := Lib.hid (HG0.out.below b1)
  have HBL := Lib.hid (HL0.out.below b1)
  have s1 : w.heap.size ≤ w1.heap.size := b1.size
  have hff : ∀ W, Below w.heap.size w W → ¬ MarkOk b → ∃ r, (Ending.returned (.bool false) : Ending) = .returned (.bool r) ∧ (r = true ↔ MarkOk b) ∧ Below w.heap.size w W := fun W hW h => ⟨false, rfl, iff_of_false (by simp) h, hW⟩
  have FF := Lib.hid hff
  have hxl : w.heap.size < w1.heap.size := x1.lt
  have hcell : ∀ W, Below w1.heap.size w1 W → ∀ k, W.cell? ⟨w.heap.size, k, none⟩ = (#[.slice A n c, .int .i64 b.head, .slice Ap np cp, .int .i64 b.phase, .slice Ag ng cg, .slice Ab nb cb, .int .i64 b.cursor] : Array Value)[k]? := fun W hW k => (X1.out.below hW hxl).cell k
  have CE := Lib.hid hcell
  clear x1 b1 HC0 HP0 HG0 HL0 hff hcell
  have hc4 : ∀ W, Below w1.heap.size w1 W → W.cell? ⟨w.heap.size, 4, none⟩ = some (.slice Ag ng cg) := fun W h => by simpa using CE.out W h 4
  have hc5 : ∀ W, Below w1.heap.size w1 W → W.cell? ⟨w.heap.size, 5, none⟩ = some (.slice Ab nb cb) := fun W h => by simpa using CE.out W h 5
  obtain ⟨i0, hi, hz0, hz1, hz2⟩ := info_parts Tryz.infoI
  have HI := Lib.hid hi
  have HZ0 := Lib.hid hz0
  have HZ1 := Lib.hid hz1
  have HZ2 := Lib.hid hz2
  clear hi hz0 hz1 hz2
  have q4 := hc4 w1 (Below.refl _ _)
  have q5 := hc5 w1 (Below.refl _ _)
  unfold BLay.v
  go_enter Tryz.func59, Tryz.ntmps59
  go_wp2
  go_cut [3] (fun s wx => ∃ g1 c1, s = .slice (some ⟨g1, 0, none⟩) (ng + nb) c1 ∧ OwnI wx w1.heap.size (some ⟨g1, 0, none⟩) (ng + nb) c1 (b.grey ++ b.black) ∧ Below w1.heap.size w1 wx)
  case first =>
    have hg0 := ZG.out
    have hbI := HBL.out
    have HG := Lib.hid (HBG.out)
    cases Ab with
    | none =>
      obtain rfl : cb = 0 := ZB.out rfl
      obtain rfl : nb = 0 := by omega
      have hbe : b.black = [] := List.eq_nil_of_length_eq_zero (by omega)
      have HE := Lib.hid hbe
      clear hbe hbI
      go_region_law (first
        | (go_simp
           go_at_call 77
           refine (l1Copy_any Ag ng cg b.grey w.heap.size w1.drew (by omega) s1 hg0 (HG.out.below ((Below.refl _ _).drew))).mono ?_
           rintro e w5 ⟨g1, c1, rfl, o1, b5⟩
           have b5 : Below w1.heap.size w1 w5 := (Below.refl _ _).drew.trans b5
           have B5 := Lib.hid b5
           have O5 := Lib.hid (show OwnI w5 w1.heap.size (some ⟨g1, 0, none⟩) ng c1 b.grey from o1)
           have q5 := hc5 w5 b5
           have hc1 := o1.cap_
           clear o1 b5))
      all_goals
        go_wp2
        go_meet
        case rel => exact ⟨g1, c1, rfl, (show OwnI _ w1.heap.size (some ⟨g1, 0, none⟩) (ng + 0) c1 (b.grey ++ b.black) from by rw [HE.out, List.append_nil]; exact O5.out), B5.out⟩
    | some ad =>
      have hrow : ∀ W, Below w1.heap.size w1 W → ∀ j u, (b.black.map (Value.int .i64))[j]? = some u → W.cell? (ad.add j) = some u := by
        intro W hW j u hj
        have h0 : 0 < nb := by
          rcases Nat.eq_zero_or_pos nb with h | h
          · rw [List.getElem?_eq_none (by simp; omega)] at hj; cases hj
          · exact h
        obtain ⟨b', off, e, hbB, hrow⟩ := (hbI.below (hW.mono s1)).row h0
        cases e
        exact hrow j u hj
      have HROW := Lib.hid hrow
      clear hrow
      go_region_law (first
        | (refine step_append_row rfl _ _ 25 rfl w1.heap.size 2 i0 (.int .i64 0) 1 8 Tryz.underlying25 HI.out HZ0.out HZ1.out HZ2.out rfl (by decide) (.slice (some ⟨g1, 0, none⟩) ng c1) ng (b.grey.map (Value.int .i64)) (by simp [Act.eval]) O5.out ad nb cb (b.black.map (Value.int .i64)) (by simp [Act.eval]) (by rw [List.length_map, Nat.mul_one]; exact hlb) (HROW.out w5 B5.out) (by intro u hu; obtain ⟨z, _, rfl⟩ := List.mem_map.1 hu; rfl) (by unfold maxLen; omega) (by omega) B5.out.size ?_
           intro v6 w6 hown6 hgrow6 hnil6
           obtain ⟨g6, c6, rfl⟩ : ∃ g c, v6 = .slice (some ⟨g, 0, none⟩) (ng + nb) c := by
             rcases hown6.2 with ⟨e, _⟩ | ⟨g, cap, cur, e, _⟩
             · exact absurd (hnil6.1 e).1 (by simp)
             · exact ⟨g, cap, e⟩
           have hg1 := (World.ownsRow.lt O5.out g1 (by simp [Value.ownBlock])).1
           have b6 : Below w1.heap.size w1 w6 := B5.out.grown hgrow6 B5.out.size (fun b hb => by simp [Value.ownBlock] at hb; omega)
           have B6 := Lib.hid b6
           have O6 := Lib.hid (show OwnI w6 w1.heap.size (some ⟨g6, 0, none⟩) (ng + nb) c6 (b.grey ++ b.black) from by unfold OwnI; rw [List.map_append]; exact hown6)
           clear hown6 hgrow6 hnil6 b6)
        | (go_simp
           go_at_call 77
           refine (l1Copy_any Ag ng cg b.grey w.heap.size w1.drew (by omega) s1 hg0 (HG.out.below ((Below.refl _ _).drew))).mono ?_
           rintro e w5 ⟨g1, c1, rfl, o1, b5⟩
           have b5 : Below w1.heap.size w1 w5 := (Below.refl _ _).drew.trans b5
           have B5 := Lib.hid b5
           have O5 := Lib.hid (show OwnI w5 w1.heap.size (some ⟨g1, 0, none⟩) ng c1 b.grey from o1)
           have q5 := hc5 w5 b5
           have hc1 := o1.cap_
           clear o1 b5))
      all_goals
        go_wp2
        go_meet
        case rel => exact ⟨g6, c6, rfl, O6.out, B6.out⟩
  case rest =>
    obtain ⟨g1, c1, rfl, o2, b2⟩ := hcut
    have hl2 := o2.len
    have hcap2 := o2.cap_
    have O2 := Lib.hid o2
    have B2 := Lib.hid b2
    have s2 : w1.heap.size ≤ wc.heap.size := b2.size
    have HB2 := Lib.hid (HBC.out.below (b2.mono s1))
    clear o2 hc4 hc5 q4 q5
    have q0 : wc.cell? ⟨w.heap.size, 0, none⟩ = some (.slice A n c) := by simpa using CE.out wc b2 0
    have q6 : wc.cell? ⟨w.heap.size, 6, none⟩ = some (.int .i64 b.cursor) := by simpa using CE.out wc b2 6
    clear b2
    go_wp2_with fail
    refine (l13Names_any A n c b.cells _ _ _ (b.grey ++ b.black) wc.heap.size wc (by omega) (by omega) hcap2 (Nat.le_refl _) (HB2.out.more (by omega)) O2.out.ints).mono ?_
    rintro e w3 ⟨r, rfl, hr, b3⟩
    have HR := Lib.hid hr
    have B3 := Lib.hid (B2.out.trans (b3.mono s2))
    have O3 := Lib.hid (O2.out.below b3)
    have s3 : wc.heap.size ≤ w3.heap.size := b3.size
    have HB3 := Lib.hid (HBC.out.below (B3.out.mono s1))
    have HG3 := Lib.hid (HBG.out.below (B3.out.mono s1))
    clear hr b3 q0 q6 O2 HB2
    have q0 : w3.cell? ⟨w.heap.size, 0, none⟩ = some (.slice A n c) := by simpa using CE.out w3 B3.out 0
    have q1 : w3.cell? ⟨w.heap.size, 1, none⟩ = some (.int .i64 b.head) := by simpa using CE.out w3 B3.out 1
    have q2 : w3.cell? ⟨w.heap.size, 2, none⟩ = some (.slice Ap np cp) := by simpa using CE.out w3 B3.out 2
    have q3 : w3.cell? ⟨w.heap.size, 3, none⟩ = some (.int .i64 b.phase) := by simpa using CE.out w3 B3.out 3
    have q4 : w3.cell? ⟨w.heap.size, 4, none⟩ = some (.slice Ag ng cg) := by simpa using CE.out w3 B3.out 4
    have q5 : w3.cell? ⟨w.heap.size, 5, none⟩ = some (.slice Ab nb cb) := by simpa using CE.out w3 B3.out 5
    have q6 : w3.cell? ⟨w.heap.size, 6, none⟩ = some (.int .i64 b.cursor) := by simpa using CE.out w3 B3.out 6
    have FW := Lib.hid (fun W (h : Below w1.heap.size w1 W) => B1.out.trans (h.mono s1))
    cases r with
    | false =>
      go_wp2
      go_ret
      exact FF.out _ (FW.out _ B3.out) (fun h => absurd (HR.out.2 ⟨h.names, h.apart⟩) (by simp))
    | true =>
      have HN := Lib.hid (HR.out.1 (by trivial))
      have hle := named_len b.cells _ HN.out.2 HN.out.1
      have hR80 := RT.out.1
      have hglb : (b.grey ++ b.black).length = b.grey.length + b.black.length := List.length_append
      clear HR
      by_cases hc : b.cursor = 0
      case neg =>
        have hb0 : (b.cursor != 0) = true := by simpa using hc
        have HC := Lib.hid hc
        clear hc
        go_wp2
        go_ret
        exact FF.out _ (FW.out _ B3.out) (fun h => HC.out h.cursor)
      case pos =>
        have hb0 : (b.cursor != 0) = false := by simp [hc]
        have HC := Lib.hid hc
        clear hc
        go_wp2_with fail
        refine (l4Reach_any A n c b.cells Ag ng cg b.grey w3.heap.size w3 CELL.out RT.out (by omega) ZG.out (Nat.le_refl _) (HB3.out.more (by omega)) (HG3.out.more (by omega))).mono ?_
        rintro e w4 ⟨g4, n4, c4, l4, r4, rfl, hgo, _, b4⟩
        have GW := Lib.hid hgo.whole_
        have B4 := Lib.hid (B3.out.trans (b4.mono (by omega)))
        have O4 := Lib.hid (O3.out.below b4)
        have HP4 := Lib.hid (HBP.out.below (B4.out.mono s1))
        have s4 : w3.heap.size ≤ w4.heap.size := b4.size
        clear hgo b4 q0 q1 q2 q3 q4 q5 q6 O3 HB3 HG3
        have q0 : w4.cell? ⟨w.heap.size, 0, none⟩ = some (.slice A n c) := by simpa using CE.out w4 B4.out 0
        have q1 : w4.cell? ⟨w.heap.size, 1, none⟩ = some (.int .i64 b.head) := by simpa using CE.out w4 B4.out 1
        have q2 : w4.cell? ⟨w.heap.size, 2, none⟩ = some (.slice Ap np cp) := by simpa using CE.out w4 B4.out 2
        have q3 : w4.cell? ⟨w.heap.size, 3, none⟩ = some (.int .i64 b.phase) := by simpa using CE.out w4 B4.out 3
        have q4 : w4.cell? ⟨w.heap.size, 4, none⟩ = some (.slice Ag ng cg) := by simpa using CE.out w4 B4.out 4
        have q5 : w4.cell? ⟨w.heap.size, 5, none⟩ = some (.slice Ab nb cb) := by simpa using CE.out w4 B4.out 5
        have q6 : w4.cell? ⟨w.heap.size, 6, none⟩ = some (.int .i64 b.cursor) := by simpa using CE.out w4 B4.out 6
        cases r4 with
        | false =>
          go_wp2
          go_ret
          exact FF.out _ (FW.out _ B4.out) (fun h => absurd (GW.out.2 h.whole) (by simp))
        | true =>
          have WH := Lib.hid (GW.out.1 (by trivial))
          clear GW
          go_wp2_with fail
          refine (l13Kept_any ⟨A, n, c, Ap, np, cp, Ag, ng, cg, Ab, nb, cb⟩ b w.heap.size w4 (show np ≤ 1000000 by omega) (by omega) ZP.out RP.out HP4.out).mono ?_
          rintro e w5 ⟨g5, n5, c5, rfl, o5, b5⟩
          have hl5 := o5.len
          have hk5 := keptOf_len b
          have hg5 : w4.heap.size ≤ g5 := (World.ownsRow.lt o5 g5 (by simp [Value.ownBlock])).1
          have O5 := Lib.hid (o5.base (show w1.heap.size ≤ w4.heap.size by omega))
          have B5 := Lib.hid (B4.out.trans (b5.mono (by omega)))
          have A5 := Lib.hid (O4.out.below b5)
          have HG1 := Lib.hid (World.ownsRow.lt O4.out g1 (by simp [Value.ownBlock]))
          have s5 : w4.heap.size ≤ w5.heap.size := b5.size
          clear o5 b5 q0 q1 q2 q3 q4 q5 q6 O4 HP4
          go_wp2
          go_loopw [6, 7] (fun nd i wr => ∃ (k gk nk ck : Nat) (l : List Int), k ≤ nb ∧ i = .int .i64 k ∧ nd = .slice (some ⟨gk, 0, none⟩) nk ck ∧ w4.heap.size ≤ gk ∧ nk ≤ 7 + 16 * k ∧ OwnI wr w1.heap.size (some ⟨gk, 0, none⟩) nk ck l ∧ NeedIs b k l ∧ OwnI wr w1.heap.size (some ⟨g1, 0, none⟩) (ng + nb) c1 (b.grey ++ b.black) ∧ Below w1.heap.size w1 wr) (fun _ i _ => nb - (intOf i).toNat)
          case atStart => exact ⟨0, g5, n5, c5, keptOf b, Nat.zero_le _, rfl, rfl, hg5, by omega, O5.out, fun x => by simp, A5.out, B5.out⟩
          case round =>
            obtain ⟨k, gk, nk, ck, l, hk, rfl, rfl, hgk, hnk, hol, hne, hoa, hbel⟩ := hrel
            have OL := Lib.hid hol
            have NE := Lib.hid hne
            have OA := Lib.hid hoa
            have BR := Lib.hid hbel
            have hll := hol.len
            clear hol hne hoa hbel
            have HBR := Lib.hid (HBC.out.below (BR.out.mono s1))
            have HLR := Lib.hid (HBL.out.below (BR.out.mono s1))
            have hsr := BR.out.size
            by_cases hlt : k < nb
            · have hc0 : ∀ W, Below wr.heap.size wr W → W.cell? ⟨w.heap.size, 0, none⟩ = some (.slice A n c) := fun W h => by simpa using CE.out W (BR.out.trans (h.mono hsr)) 0
              have hc5 : ∀ W, Below wr.heap.size wr W → W.cell? ⟨w.heap.size, 5, none⟩ = some (.slice Ab nb cb) := fun W h => by simpa using CE.out W (BR.out.trans (h.mono hsr)) 5
              have hw1r : w.heap.size < wr.heap.size := by omega
              obtain ⟨bb, boff, rfl, hbB, h0⟩ := HLR.out.at_ hlt
              have hmem := Lib.hid (getD_mem b.black k (by omega))
              obtain ⟨x, hx⟩ : ∃ x, b.black[k]?.getD 0 = x := ⟨_, rfl⟩
              rw [hx] at h0 hmem
              have HX := Lib.hid hx
              have hbbr : bb < wr.heap.size := by omega
              have hcx : ∀ W, Below wr.heap.size wr W → W.cell? ⟨bb, boff + k, none⟩ = some (.int .i64 x) := fun W h => (h.cell (p := ⟨bb, boff + k, none⟩) hbbr).trans h0
              have hND : ∀ W, Below wr.heap.size wr W → Calls Tryz.prog 87 #[.slice A n c, .int .i64 x] W fun e w' => ∃ v nd is, e = .returned (.tuple #[v, .bool is]) ∧ OwnN w' W.heap.size v nd ∧ HitIs b.cells x nd is ∧ Below W.heap.size W w' :=
                fun W h => l4Node_any A n c b.cells x w.heap.size W (by omega) CELL.out (by have := h.size; omega) (HBR.out.below (h.mono (by omega)))
              have ND := Lib.hid hND
              have q0 := hc0 wr (Below.refl _ _)
              have q5 := hc5 wr (Below.refl _ _)
              have qx := h0
              clear hx hND h0
              go_wp2
              go_cut [8, 9] (fun s t wx => ∃ q nd is Ap' np' cp' Ak nk' ck', s = .pointer (some ⟨q, 0, none⟩) ∧ t = .bool is ∧ Box wx q 134 #[.int .i64 nd.kind, .slice Ap' np' cp', .slice Ak nk' ck', .string nd.val] ∧ OwnK wx wr.heap.size Ak nk' ck' nd.kids ∧ HitIs b.cells x nd is ∧ wr.heap.size ≤ q ∧ Below wr.heap.size wr wx)
              case first =>
                go_region_law (first
                  | (go_simp
                     go_at_call 87
                     refine (ND.out _ (by first | exact (Below.refl _ _).drew | exact ((Below.refl _ _).alloc (Nat.le_refl _) _).drew | exact (Below.refl _ _).drew.alloc (Nat.le_refl _) _)).mono ?_
                     rintro e w6 ⟨v, nd, is, rfl, own, hit, b6⟩
                     obtain ⟨Ap', np', cp', Ak, nk', ck', rfl, hnp, hnk', hsz, hp, hkk, hap⟩ := own
                     have x0 : Box (wr.alloc (.cells #[.int .i64 0, .slice none 0 0, .slice none 0 0, .string { data := #[] }] 134)).drew wr.heap.size 134 #[.int .i64 0, .slice none 0 0, .slice none 0 0, .string { data := #[] }] := heap_alloc_new wr _
                     have x6 := x0.below b6 (by simp)
                     have y0 := x6.cell 0
                     have y1 := x6.cell 1
                     have y2 := x6.cell 2
                     have y3 := x6.cell 3
                     have f6 := x6.free
                     simp at y0 y1 y2 y3
                     have z6 : Below wr.heap.size wr w6 := ((Below.refl _ _).alloc (Nat.le_refl _) _).drew.trans (b6.mono (by simp))
                     have hlo : wr.heap.size < w6.heap.size := x6.lt
                     have hkb : ∀ g, (Value.slice Ak nk' ck').ownBlock = some g → ¬ g = wr.heap.size := fun g hg e => by have h1 := (World.ownsRow.lt hkk g hg).1; simp at h1; omega)
                  | (go_simp
                     go_at_call 87
                     refine (ND.out _ (by first | exact (Below.refl _ _).drew | exact ((Below.refl _ _).alloc (Nat.le_refl _) _).drew | exact (Below.refl _ _).drew.alloc (Nat.le_refl _) _)).mono ?_
                     rintro e w6 ⟨v, nd, is, rfl, own, hit, b6⟩
                     obtain ⟨Ap', np', cp', Ak, nk', ck', rfl, hnp, hnk', hsz, hp, hkk, hap⟩ := own
                     have x6 : Below wr.drew.heap.size wr.drew w6 := b6
                     have z6 : Below wr.heap.size wr w6 := (Below.refl _ _).drew.trans b6
                     have hlo : wr.heap.size ≤ w6.heap.size := z6.size))
                all_goals
                  go_wp2
                  go_meet
                  case rel =>
                    first
                    | exact ⟨wr.heap.size, nd, is, Ap', np', cp', Ak, nk', ck', rfl, rfl, (set4 x6 _ _ _ _).1, OwnK.base (hkk.touch (set4 x6 _ _ _ _).2 hkb) (by simp), hit, Nat.le_refl _, z6.trans ((set4 x6 _ _ _ _).2.below z6.size (fun g hg e => by omega))⟩
                    | exact ⟨w6.heap.size, nd, is, Ap', np', cp', Ak, nk', ck', rfl, rfl, heap_alloc_new w6 _, OwnK.base (hkk.below ((Below.refl _ _).alloc (Nat.le_refl _) _)) (by simp), hit, z6.size, z6.trans (((Below.refl _ _).alloc (Nat.le_refl _) _).mono z6.size)⟩
              case rest =>
                obtain ⟨q, nd, is, Ap', np', cp', Ak, nk', ck', rfl, rfl, hX, hK, hit, hq, hbc⟩ := hcut
                have hit2 : HitIs b.cells (b.black[k]?.getD 0) nd is := by rw [HX.out]; exact hit
                have his : is = true := (hit_found RT.out hit).2 (HN.out.1 x (List.mem_append_right _ hmem.out))
                subst his
                have NE1 := Lib.hid (NE.out.step (by omega) hit2)
                have h16 := hit_kids hit
                have hkl := hK.len
                have hgk2 : gk < wr.heap.size := (World.ownsRow.lt OL.out gk (by simp [Value.ownBlock])).2
                have hg12 : g1 < wr.heap.size := (World.ownsRow.lt OA.out g1 (by simp [Value.ownBlock])).2
                have hwq : q < wc.heap.size := hX.lt
                have XC := Lib.hid hX
                have KC := Lib.hid hK
                have BC := Lib.hid hbc
                have OLC := Lib.hid (OL.out.below hbc)
                have OAC := Lib.hid (OA.out.below hbc)
                have hsc : wr.heap.size ≤ wc.heap.size := hbc.size
                have HGK := Lib.hid hgk
                have HQ := Lib.hid hq
                clear hX hK hbc hit hit2 hc0 hc5 hcx q0 q5 qx hgk hq
                go_wp2
                go_loopw [6, 10] (fun nd2 i wv => ∃ (j g6 c6 : Nat), j ≤ nk' ∧ i = .int .i64 j ∧ nd2 = .slice (some ⟨g6, 0, none⟩) (nk + j) c6 ∧ (g6 = gk ∨ wc.heap.size ≤ g6) ∧ OwnI wv w1.heap.size (some ⟨g6, 0, none⟩) (nk + j) c6 (l ++ (nd.kids.take j).map (·.2)) ∧ Touch (fun b => b = gk ∨ wc.heap.size ≤ b) wc wv) (fun _ i _ => nk' - (intOf i).toNat)
                case atStart => exact ⟨0, gk, ck, Nat.zero_le _, rfl, rfl, .inl rfl, by simpa using OLC.out, Touch.of_below (Below.refl _ _)⟩
                case round =>
                  obtain ⟨j, g6, c6, hj, rfl, rfl, hg6, ho6, ht6⟩ := hrel
                  have TK := Lib.hid ho6
                  have TT := Lib.hid ht6
                  have hsv : wc.heap.size ≤ wr.heap.size := ht6.size
                  have xv : Box wr q 134 #[.int .i64 nd.kind, .slice Ap' np' cp', .slice Ak nk' ck', .string nd.val] := (ht6.block _ hwq (fun e => by have := HQ.out; rcases e with e | e <;> omega)).trans XC.out
                  have qv := xv.cell 2
                  simp at qv
                  have kv' := KC.out.touch ht6 (fun b hb e => by have h1 := (World.ownsRow.lt KC.out b hb); rcases e with e | e <;> omega)
                  have KV := Lib.hid kv'
                  have XV := Lib.hid xv
                  clear ho6 ht6 xv kv'
                  by_cases hlk : j < nk'
                  · obtain ⟨gb, rfl, _, _⟩ := KV.out.form (by omega)
                    have hk1 := KV.out.cell1 hlk
                    have hst : (nd.kids.take (j + 1)).map (·.2) = (nd.kids.take j).map (·.2) ++ [(nd.kids[j]?.getD (0, 0)).2] := by
                      rw [List.take_succ_eq_append_getElem (by omega), List.map_append, List.getElem?_eq_getElem (by omega)]; rfl
                    have HST := Lib.hid hst
                    obtain ⟨M, hM⟩ : ∃ M, l ++ (nd.kids.take j).map (·.2) = M := ⟨_, rfl⟩
                    have TK := TK.out
                    rw [hM] at TK
                    have TK := Lib.hid TK
                    have HM := Lib.hid hM
                    clear hst hM
                    generalize (nd.kids[j]?.getD (0, 0)).2 = z at hk1 HST
                    go_wp2_with (at_builtin; refine wpList_append_lies _ rfl _ _ 25 rfl w1.heap.size 2 i0 (.int .i64 0) 1 8 Tryz.underlying25 HI.out HZ0.out HZ1.out HZ2.out rfl (by decide) _ _ _ rfl (own_touch (S := fun _ => False) TK.out (Touch.of_below ((Below.refl _ _).alloc (Nat.le_refl _) _)) (fun _ _ h => h)) ⟨wr.heap.size, 0, none⟩ 1 1 [.int .i64 z] rfl ?bq0 ?bq1 ?bq2 (by omega) ?bq3 ?bq4 ?bq5 _ rfl ?_)
                    case bq2 => first | rfl | (intro u hu; simp at hu; subst hu; rfl)
                    case bq3 => unfold maxLen; omega
                    case bq4 => omega
                    case bq5 => first | omega | (simp; omega)
                    intro g7 c7 w7 hown7 hgrow7 hor7 _
                    have t7 : Touch (fun b => b = gk ∨ wc.heap.size ≤ b) wr w7 := (Touch.of_below ((Below.refl wr.heap.size wr).alloc (Nat.le_refl _) _)).trans ((Touch.of_grown hgrow7).mono (fun b e => by simp [Value.ownBlock] at e; omega))
                    have h7 : g7 = gk ∨ wc.heap.size ≤ g7 := by
                      rcases hor7 with e | e <;> (try simp [Value.ownBlock] at e) <;> omega
                    have o7 : OwnI w7 w1.heap.size (some ⟨g7, 0, none⟩) (nk + (j + 1)) c7 (l ++ (nd.kids.take (j + 1)).map (·.2)) := by
                      rw [HST.out, ← List.append_assoc, HM.out]
                      unfold OwnI
                      rw [List.map_append]
                      exact hown7
                    have O7 := Lib.hid o7
                    have T7 := Lib.hid (TT.out.trans t7)
                    have H7 := Lib.hid h7
                    clear hown7 hgrow7 hor7 t7 o7 h7 qv hk1
                    go_wp2
                    go_roundw
                    case rel => exact ⟨j + 1, g7, c7, by omega, by go_num, rfl, H7.out, O7.out, T7.out⟩
                    case measure => simp [intOf]; omega
                  · obtain rfl : j = nk' := by omega
                    have tk8 := TK.out
                    rw [List.take_of_length_le (by omega)] at tk8
                    have T8 := Lib.hid tk8
                    have A8 := Lib.hid (OAC.out.touch TT.out (fun b hb e => by
                      have h1 : g1 = b := by simpa [Value.ownBlock] using hb
                      have := HG1.out
                      have := HGK.out
                      rcases e with e | e <;> omega))
                    have B8 := Lib.hid (BR.out.trans ((BC.out.mono hsr).trans (TT.out.below (show w1.heap.size ≤ wc.heap.size by omega) (fun b hb e => by have := HGK.out; rcases e with e | e <;> omega))))
                    clear tk8
                    go_wp2
                    go_roundw
                    case rel => exact ⟨k + 1, g6, nk + j, c6, l ++ nd.kids.map (·.2), by omega, by go_num, rfl, by have := HGK.out; rcases hg6 with e | e <;> omega, by omega, T8.out, NE1.out, A8.out, B8.out⟩
                    case measure => simp [intOf]; omega
            · obtain rfl : k = nb := by omega
              have hne := NE.out
              unfold NeedIs at hne
              rw [List.take_of_length_le (by omega)] at hne
              have NE := Lib.hid hne
              have q5 : wr.cell? ⟨w.heap.size, 5, none⟩ = some (.slice Ab k cb) := by simpa using CE.out wr BR.out 5
              clear hne
              go_wp2
              go_loopw [11] (fun i wv => ∃ j : Nat, j ≤ nk ∧ i = .int .i64 j ∧ (∀ m, m < j → l[m]?.getD 0 ∈ b.grey ++ b.black) ∧ Below wr.heap.size wr wv) (fun i _ => nk - (intOf i).toNat)
              case atStart => exact ⟨0, Nat.zero_le _, rfl, fun m hm => by omega, Below.refl _ _⟩
              case round =>
                obtain ⟨j, hj, rfl, hall, hbel⟩ := hrel
                have AL := Lib.hid hall
                have B9 := Lib.hid (BR.out.trans (hbel.mono hsr))
                have A9 := Lib.hid (OA.out.below hbel)
                have L9 := Lib.hid (OL.out.below hbel)
                have BV := Lib.hid hbel
                clear hall hbel
                by_cases hlt2 : j < nk
                · have h0 := L9.out.cell hlt2
                  have hmem := Lib.hid (getD_mem l j (by omega))
                  obtain ⟨x, hx⟩ : ∃ x, l[j]?.getD 0 = x := ⟨_, rfl⟩
                  rw [hx] at h0 hmem
                  have HX := Lib.hid hx
                  clear hx
                  go_wp2_with fail
                  refine (l4In_any _ (ng + k) c1 (b.grey ++ b.black) x wr.heap.size wr (by omega) A9.out.ints).mono ?_
                  rintro e w' ⟨rfl, rfl⟩
                  by_cases hin : x ∈ b.grey ++ b.black
                  · rw [decide_eq_true hin]
                    have HIN := Lib.hid hin
                    clear hin
                    go_wp2
                    go_roundw
                    case rel =>
                      refine ⟨j + 1, by omega, by go_num, fun m hm => ?_, BV.out⟩
                      rcases Nat.lt_or_ge m j with h | h
                      · exact AL.out m h
                      · rw [show m = j by omega, HX.out]; exact HIN.out
                    case measure => simp [intOf]; omega
                  · rw [decide_eq_false hin]
                    have HIN := Lib.hid hin
                    clear hin
                    go_wp2
                    go_ret
                    exact FF.out _ (FW.out _ B9.out) (fun h => HIN.out (by
                      rcases (NE.out x).1 hmem.out with h1 | ⟨y, h1, h2⟩
                      · exact h.kept x h1
                      · exact h.kids y x h1 h2))
                · obtain rfl : j = nk := by omega
                  have hyes : MarkOk b := by
                    have hmm : ∀ x, x ∈ l → x ∈ b.grey ++ b.black := fun x hx => by
                      obtain ⟨i, hi, e⟩ := List.mem_iff_getElem.1 hx
                      have h2 := AL.out i (by omega)
                      rw [List.getElem?_eq_getElem hi, e] at h2
                      exact h2
                    exact ⟨HN.out.1, HN.out.2, HC.out, WH.out, fun x hx => hmm x ((NE.out x).2 (.inl hx)), fun y k hy hk => hmm k ((NE.out k).2 (.inr ⟨y, hy, hk⟩))⟩
                  have HY := Lib.hid hyes
                  clear hyes
                  go_wp2
                  go_ret
                  exact ⟨true, rfl, iff_of_true rfl HY.out, FW.out _ B9.out⟩
end Go.Proofs.YtdhnhgppapkikaaGreatDoor

-- BaseW: The model's base: right while it sweeps.
namespace Go.Proofs.YtdhnhgppapkikaaGreatDoor
set_option maxRecDepth 20000
set_option linter.unusedVariables false
set_option linter.unusedSimpArgs false
open Go.RowKit

theorem l13Sweep_any (L : BLay) (b : MBase) (B : Nat) (w : World) (fit : BaseFit L b) (hB : B ≤ w.heap.size) (hb : BaseIn w B L b) (hR : Right b.cells) (hP : RiseI b.pins) (hBl : RiseI b.black) (hF : b.pins.length ≤ 6) :
    Calls Tryz.prog 60 #[L.v b] w fun e w' => ∃ r, e = .returned (.bool r) ∧ (r = true ↔ SweepOk b) ∧ Below w.heap.size w w' := by
  have HB0 := Lib.hid (hb.more hB)
  have hlen := hb.cells.1
  have hlp := hb.pins.1
  have hlg := hb.grey.1
  have hlb := hb.black.1
  have RT := Lib.hid hR
  have RP := Lib.hid hP
  have RB := Lib.hid (riseI_nodup _ hBl)
  have FIT := Lib.hid fit
  clear hb hR hP hBl fit
  obtain ⟨w1, hw1⟩ : ∃ w1, w.alloc (.cells #[.slice L.A L.n L.c, .int .i64 b.head, .slice L.Ap L.np L.cp, .int .i64 b.phase, .slice L.Ag L.ng L.cg, .slice L.Ab L.nb L.cb, .int .i64 b.cursor] 27) = w1 := ⟨_, rfl⟩
  have x1 : Box w1 w.heap.size _ _ := hw1 ▸ heap_alloc_new _ _
  have b1 : Below w.heap.size w w1 := hw1 ▸ (Below.refl _ _).alloc (Nat.le_refl _) _
  have X1 := Lib.hid x1
  have B1 := Lib.hid b1
  have HB := Lib.hid (HB0.out.below b1)
  have q0 := x1.cell 0
  have q1 := x1.cell 1
  have q2 := x1.cell 2
  have q3 := x1.cell 3
  have q4 := x1.cell 4
  have q5 := x1.cell 5
  have q6 := x1.cell 6
  simp at q0 q1 q2 q3 q4 q5 q6
  have s1 : w.heap.size ≤ w1.heap.size := b1.size
  have hsum := FIT.out.sum
  have hcb := FIT.out.cb
  have hff : ∀ W, Below w.heap.size w W → ¬ SweepOk b → ∃ r, (Ending.returned (.bool false) : Ending) = .returned (.bool r) ∧ (r = true ↔ SweepOk b) ∧ Below w.heap.size w W := fun W hW h => ⟨false, rfl, iff_of_false (by simp) h, hW⟩
  have FF := Lib.hid hff
  clear x1 b1 HB0 hff
  unfold BLay.v
  by_cases hg : 0 < L.ng
  · have hd : decide (0 < L.ng) = true := decide_eq_true (by omega)
    have HG := Lib.hid hg
    clear hg
    go_enter Tryz.func60, Tryz.ntmps60
    go_wp2
    go_ret
    exact FF.out _ B1.out (fun h => by have := h.grey; have := HG.out; rw [h.grey] at hlg; simp at hlg; omega)
  have NG := Lib.hid (show L.ng = 0 by omega)
  have hd : decide (0 < L.ng) = false := decide_eq_false (by omega)
  by_cases hc : b.cursor < 0
  · have hd2 : decide (b.cursor < 0) = true := decide_eq_true hc
    have HC := Lib.hid hc
    clear hc
    go_enter Tryz.func60, Tryz.ntmps60
    go_wp2
    go_ret
    exact FF.out _ B1.out (fun h => by have := h.cursor; have := HC.out; omega)
  have hd2 : decide (b.cursor < 0) = false := decide_eq_false hc
  have HC := Lib.hid hc
  clear hc
  go_enter Tryz.func60, Tryz.ntmps60
  go_wp2_with fail
  refine (l13Names_any L.A L.n L.c b.cells L.Ab L.nb L.cb b.black w.heap.size w1 (by omega) (by omega) hcb s1 HB.out.cells HB.out.black).mono ?_
  rintro e w2 ⟨r, rfl, hr, b2⟩
  have HR := Lib.hid hr
  have B2 := Lib.hid (B1.out.trans (b2.mono s1))
  have HB2 := Lib.hid (HB.out.below (b2.mono s1))
  have X2 := X1.out.below b2 X1.out.lt
  have s2 : w1.heap.size ≤ w2.heap.size := b2.size
  clear hr b2 q0 q1 q2 q3 q4 q5 q6
  have q0 := X2.cell 0
  have q1 := X2.cell 1
  have q2 := X2.cell 2
  have q3 := X2.cell 3
  have q4 := X2.cell 4
  have q5 := X2.cell 5
  have q6 := X2.cell 6
  simp at q0 q1 q2 q3 q4 q5 q6
  have X2 := Lib.hid X2
  cases r with
  | false =>
    go_wp2
    go_ret
    exact FF.out _ B2.out (fun h => absurd (HR.out.2 ⟨h.names, RB.out⟩) (by simp))
  | true =>
    have HN := Lib.hid (HR.out.1 (by trivial))
    clear HR
    have hc0 : ∀ W, Below w2.heap.size w2 W → W.cell? ⟨w.heap.size, 0, none⟩ = some (.slice L.A L.n L.c) := fun W h => (h.cell (p := ⟨w.heap.size, 0, none⟩) X2.out.lt).trans q0
    have hc1 : ∀ W, Below w2.heap.size w2 W → W.cell? ⟨w.heap.size, 1, none⟩ = some (.int .i64 b.head) := fun W h => (h.cell (p := ⟨w.heap.size, 1, none⟩) X2.out.lt).trans q1
    have hc2 : ∀ W, Below w2.heap.size w2 W → W.cell? ⟨w.heap.size, 2, none⟩ = some (.slice L.Ap L.np L.cp) := fun W h => (h.cell (p := ⟨w.heap.size, 2, none⟩) X2.out.lt).trans q2
    have hc3 : ∀ W, Below w2.heap.size w2 W → W.cell? ⟨w.heap.size, 3, none⟩ = some (.int .i64 b.phase) := fun W h => (h.cell (p := ⟨w.heap.size, 3, none⟩) X2.out.lt).trans q3
    have hc4 : ∀ W, Below w2.heap.size w2 W → W.cell? ⟨w.heap.size, 4, none⟩ = some (.slice L.Ag L.ng L.cg) := fun W h => (h.cell (p := ⟨w.heap.size, 4, none⟩) X2.out.lt).trans q4
    have hc5 : ∀ W, Below w2.heap.size w2 W → W.cell? ⟨w.heap.size, 5, none⟩ = some (.slice L.Ab L.nb L.cb) := fun W h => (h.cell (p := ⟨w.heap.size, 5, none⟩) X2.out.lt).trans q5
    have hc6 : ∀ W, Below w2.heap.size w2 W → W.cell? ⟨w.heap.size, 6, none⟩ = some (.int .i64 b.cursor) := fun W h => (h.cell (p := ⟨w.heap.size, 6, none⟩) X2.out.lt).trans q6
    have hKP : ∀ W, Below w2.heap.size w2 W → Calls Tryz.prog 52 #[.agg #[.slice L.A L.n L.c, .int .i64 b.head, .slice L.Ap L.np L.cp, .int .i64 b.phase, .slice L.Ag L.ng L.cg, .slice L.Ab L.nb L.cb, .int .i64 b.cursor]] W
        fun e w' => ∃ g n c, e = .returned (.slice (some ⟨g, 0, none⟩) n c) ∧ OwnI w' W.heap.size (some ⟨g, 0, none⟩) n c (keptOf b) ∧ Below W.heap.size W w' :=
      fun W h => l13Kept_any L b w.heap.size W (by omega) (by have := h.size; omega) FIT.out.zp RP.out (HB2.out.below (h.mono (by omega))).pins
    have hRE : ∀ W, Below w2.heap.size w2 W → ∀ g n c, Ints W W.heap.size (some ⟨g, 0, none⟩) n (keptOf b) → Calls Tryz.prog 58 #[.slice L.A L.n L.c, .slice (some ⟨g, 0, none⟩) n c] W
        fun e w' => ∃ g n' c' l b', e = .returned (.tuple #[.slice (some ⟨g, 0, none⟩) n' c', .bool b']) ∧ Going b.cells (keptOf b) l [] b' ∧ OwnI w' W.heap.size (some ⟨g, 0, none⟩) n' c' l ∧ Below W.heap.size W w' :=
      fun W h g n c hi => l4Reach_any L.A L.n L.c b.cells (some ⟨g, 0, none⟩) n c (keptOf b) W.heap.size W FIT.out.cell RT.out (by have := keptOf_len b; omega) (fun h => by cases h) (Nat.le_refl _) ((HB2.out.below (h.mono (by omega))).cells.more (by have := h.size; omega)) hi
    have KP := Lib.hid hKP
    have RE := Lib.hid hRE
    clear q0 q1 q2 q3 q4 q5 q6 hKP hRE
    go_wp2
    go_region_held3 (fun W => Below w2.heap.size w2 W) (first | exact (Below.refl _ _).drew | assumption)
      (first | (go_at_call 52
                refine (KP.out _ (by assumption)).mono ?_
                rintro e w3 ⟨g3, n3, c3, rfl, o3, b3⟩
                have h3 := (by assumption : Below w2.heap.size w2 _).trans (b3.mono (by assumption : Below w2.heap.size w2 _).size))
             | (go_at_call 58
                refine (RE.out _ (by assumption) _ _ _ o3.ints).mono ?_
                rintro e w4 ⟨g4, n4, c4, l, r4, rfl, hgo, o4, b4⟩
                have h4 := (by assumption : Below w2.heap.size w2 _).trans (b4.mono (by assumption : Below w2.heap.size w2 _).size)))
    have hl4 := o4.len
    have hgb := hgo.len
    have hkl := keptOf_len b
    have GO := Lib.hid hgo
    have B4 := Lib.hid (B2.out.trans (h4.mono (by omega)))
    have HB4 := Lib.hid (HB2.out.below (h4.mono (by omega)))
    have X4 := Lib.hid (X2.out.below h4 X2.out.lt)
    have O4 := Lib.hid o4
    have s4 : w2.heap.size ≤ w4.heap.size := h4.size
    have hxl : w.heap.size < w4.heap.size := X4.out.lt
    clear b4 o4 hgo hc0 hc1 hc2 hc3 hc4 hc5 hc6 h4 h3 b3 o3
    go_wp2
    go_loopw [5] (fun i wr => ∃ k : Nat, k ≤ n4 ∧ i = .int .i64 k ∧ (∀ j, j < k → l[j]?.getD 0 ∈ b.black) ∧ Below w4.heap.size w4 wr) (fun i _ => n4 - (intOf i).toNat)
    case atStart => exact ⟨0, Nat.zero_le _, rfl, fun j hj => by omega, by first | exact Below.refl _ _ | exact (Below.refl _ _).drew⟩
    case round =>
      obtain ⟨k, hk, rfl, hall, hbel⟩ := hrel
      have AL := Lib.hid hall
      have B5 := Lib.hid (B4.out.trans (hbel.mono (by omega)))
      have HB5 := Lib.hid (HB4.out.below (hbel.mono (by omega)))
      have X5 := Lib.hid (X4.out.below hbel X4.out.lt)
      have O5 := Lib.hid (O4.out.below hbel)
      have BR := Lib.hid hbel
      clear hall hbel
      by_cases hlt : k < n4
      · have q5 := X5.out.cell 5
        simp at q5
        have h0 := O5.out.cell hlt
        have hmem := Lib.hid (getD_mem l k (by omega))
        obtain ⟨x, hx⟩ : ∃ x, l[k]?.getD 0 = x := ⟨_, rfl⟩
        rw [hx] at h0 hmem
        have hIN : ∀ q, Calls Tryz.prog 61 #[.slice L.Ab L.nb L.cb, .int .i64 x] (wr.drewN q) fun e w' => e = .returned (.bool (decide (x ∈ b.black))) ∧ w' = wr.drewN q :=
          fun q => (l4In_any _ L.nb L.cb b.black x w.heap.size (wr.drewN q) (by omega) (HB5.out.black.drewN q)).mono fun e w' h => ⟨h.1, h.2.symm⟩
        have IN := Lib.hid hIN
        clear hIN
        by_cases hin : x ∈ b.black
        · rw [decide_eq_true hin] at IN
          have HIN := Lib.hid hin
          have HX := Lib.hid hx
          clear hin hx
          go_wp2
          go_quiet (first | (go_at_call 61; exact Calls.quiet_of_same (IN.out _)))
          go_wp2
          go_roundw
          case rel =>
            refine ⟨k + 1, by omega, by go_num, fun j hj => ?_, below_drewN BR.out _⟩
            rcases Nat.lt_or_ge j k with h | h
            · exact AL.out j h
            · rw [show j = k by omega, HX.out]; exact HIN.out
          case measure => simp [intOf]; omega
        · rw [decide_eq_false hin] at IN
          have HIN := Lib.hid hin
          clear hin hx
          go_wp2
          go_quiet (first | (go_at_call 61; exact Calls.quiet_of_same (IN.out _)))
          go_wp2
          go_ret
          exact FF.out _ (below_drewN B5.out _) (fun h => HIN.out (h.all x ((GO.out.done x).1 hmem.out)))
      · obtain rfl : k = n4 := by omega
        have hyes : SweepOk b := by
          refine ⟨List.eq_nil_of_length_eq_zero (by have := NG.out; omega), by have := HC.out; omega, HN.out.1, fun x hx => ?_⟩
          have h1 := (GO.out.done x).2 hx
          obtain ⟨i, hi, e⟩ := List.mem_iff_getElem.1 h1
          have h2 := AL.out i (by omega)
          rw [List.getElem?_eq_getElem hi, e] at h2
          exact h2
        have HY := Lib.hid hyes
        clear hyes
        go_wp2
        go_ret
        exact ⟨true, rfl, iff_of_true rfl HY.out, B5.out⟩
end Go.Proofs.YtdhnhgppapkikaaGreatDoor
