/- ChangedAll of a base and changes answers as the document's model, leaves both as they are, and its answer is new memory. -/
import Derived.Test.YtigdcmfmaehjfaaGreatRows
import Derived.Test.YtigdcmfmaehjfaaGreatPkM
import Derived.WalkKit
import Derived.ProofKit
import Derived.OpenShut
import Derived.ShutString
import Derived.ChangeOld
import Derived.Below
import Derived.WalkSmall
import Derived.Deep.RegionHeld3
import Derived.Outline
namespace Go.Proofs.YtigdcmfmaehjfaaGreat.fnExactChangedAll
set_option maxRecDepth 20000
set_option linter.unusedSimpArgs false
open Go.ChangeShapes Go.WideShapes Go.ChangeAt Go.RowKit
open Go.ChangeMaps (open_string shut_string)
set_option linter.unusedVariables false

theorem own : ownKnob Tryz.prog.godebug = none := by kernel_rfl
theorem laidOut : laidOutB Tryz.prog = true := by kernel_rfl

set_option maxHeartbeats 6400000 in
theorem walk (v0 : Value) (x0 : MBase) (v1 : Value) (x1 : List MChg) (w : World) (w0 : BaseArg w v0 x0) (w1 : ChsArg w v1 x1) :
    Calls Tryz.prog 5 #[v0, v1] w fun e w' => e = .returned (.bool true) ∧ Below w.heap.size w w' := by
  obtain ⟨L, rfl, hI, hn, hp, hg, hb, hm⟩ := w0
  obtain ⟨Al, nl, cl, rfl, hnl, hJ, hml⟩ := w1
  have HI := Lib.hid hI
  have HJ := Lib.hid hJ
  have hlj := hJ.1
  obtain ⟨W0, hW0⟩ : ∃ z, w.alloc (.cells #[.slice L.A L.n L.c, .int .i64 x0.head, .slice L.Ap L.np L.cp, .int .i64 x0.phase, .slice L.Ag L.ng L.cg, .slice L.Ab L.nb L.cb, .int .i64 x0.cursor] 25) = z := ⟨_, rfl⟩
  have xb : Box W0 w.heap.size _ _ := hW0 ▸ heap_alloc_new _ _
  have b0 : Below w.heap.size w W0 := hW0 ▸ (Below.refl _ _).alloc (Nat.le_refl _) _
  have XB := Lib.hid xb
  have B0 := Lib.hid b0
  have hxl : w.heap.size < W0.heap.size := xb.lt
  have q0 : W0.cell? ⟨w.heap.size, 0, none⟩ = some (.slice L.A L.n L.c) := by simpa using XB.out.cell 0
  have q1 : W0.cell? ⟨w.heap.size, 1, none⟩ = some (.int .i64 x0.head) := by simpa using XB.out.cell 1
  have q2 : W0.cell? ⟨w.heap.size, 2, none⟩ = some (.slice L.Ap L.np L.cp) := by simpa using XB.out.cell 2
  have q3 : W0.cell? ⟨w.heap.size, 3, none⟩ = some (.int .i64 x0.phase) := by simpa using XB.out.cell 3
  have q4 : W0.cell? ⟨w.heap.size, 4, none⟩ = some (.slice L.Ag L.ng L.cg) := by simpa using XB.out.cell 4
  have q5 : W0.cell? ⟨w.heap.size, 5, none⟩ = some (.slice L.Ab L.nb L.cb) := by simpa using XB.out.cell 5
  have q6 : W0.cell? ⟨w.heap.size, 6, none⟩ = some (.int .i64 x0.cursor) := by simpa using XB.out.cell 6
  clear hI hJ xb b0
  unfold BLay.v
  go_enter Tryz.func5, Tryz.ntmps5
  go_wp2_with fail
  refine (szBase_any L x0 W0 hn hp hg hb hm ((HI.out.below B0.out).more B0.out.size)).mono ?_
  rintro e w1 ⟨rfl, b1⟩
  have B1 := Lib.hid (B0.out.trans (b1.mono B0.out.size))
  have s1 : W0.heap.size ≤ w1.heap.size := b1.size
  have XB := Lib.hid (XB.out.below b1 hxl)
  clear b1 q0 q1 q2 q3 q4 q5 q6
  by_cases hs : szB x0 ≤ 1048576
  case neg =>
    rw [show leftOf 1048576 (szB x0) = -1 from if_neg hs]
    go_wp2
    go_ret
    exact ⟨rfl, B1.out⟩
  rw [show leftOf 1048576 (szB x0) = ((1048576 - szB x0 : Nat) : Int) from if_pos hs]
  have hd : decide ((((1048576 - szB x0 : Nat) : Int)) < 0) = false := decide_eq_false (by omega)
  clear hn hp hg hb hm
  have HS := Lib.hid hs
  obtain ⟨left, hleft⟩ : ∃ left, 1048576 - szB x0 = left := ⟨_, rfl⟩
  rw [hleft] at hd ⊢
  go_wp2_with fail
  refine (szChangesL_any left Al nl cl x1 w1 (by omega) hnl hml ((HJ.out.below B1.out).more B1.out.size)).mono ?_
  rintro e w1' ⟨rfl, b1⟩
  have B1' := Lib.hid (B1.out.trans (b1.mono B1.out.size))
  have s1' : w1.heap.size ≤ w1'.heap.size := b1.size
  have XB := Lib.hid (XB.out.below b1 (by omega))
  clear b1 hd
  by_cases hsh : szH x1 ≤ left
  case neg =>
    rw [show leftOf left (szH x1) = -1 from if_neg hsh]
    go_wp2
    go_ret
    exact ⟨rfl, B1'.out⟩
  rw [show leftOf left (szH x1) = ((left - szH x1 : Nat) : Int) from if_pos hsh]
  have hd : decide ((((left - szH x1 : Nat) : Int)) < 0) = false := decide_eq_false (by omega)
  have hlen1 := szH_len x1
  have hnl : nl ≤ 1048576 := by omega
  have CX := Lib.hid (cx_bd x1 (by omega))
  clear hml
  have q0 : w1'.cell? ⟨w.heap.size, 0, none⟩ = some (.slice L.A L.n L.c) := by simpa using XB.out.cell 0
  have q1 : w1'.cell? ⟨w.heap.size, 1, none⟩ = some (.int .i64 x0.head) := by simpa using XB.out.cell 1
  have q2 : w1'.cell? ⟨w.heap.size, 2, none⟩ = some (.slice L.Ap L.np L.cp) := by simpa using XB.out.cell 2
  have q3 : w1'.cell? ⟨w.heap.size, 3, none⟩ = some (.int .i64 x0.phase) := by simpa using XB.out.cell 3
  have q4 : w1'.cell? ⟨w.heap.size, 4, none⟩ = some (.slice L.Ag L.ng L.cg) := by simpa using XB.out.cell 4
  have q5 : w1'.cell? ⟨w.heap.size, 5, none⟩ = some (.slice L.Ab L.nb L.cb) := by simpa using XB.out.cell 5
  have q6 : w1'.cell? ⟨w.heap.size, 6, none⟩ = some (.int .i64 x0.cursor) := by simpa using XB.out.cell 6
  go_wp2_with fail
  refine (toBase_any L x0 w.heap.size w1' HS.out B1'.out.size (HI.out.below B1'.out)).mono ?_
  rintro e wa ⟨L2, i1, i2, i3, rfl, oa, ba⟩
  have Ba := Lib.hid (B1'.out.trans (ba.mono B1'.out.size))
  have sa : w1'.heap.size ≤ wa.heap.size := ba.size
  have XB := Lib.hid (XB.out.below ba (by omega))
  have OA := Lib.hid oa
  clear ba oa q0 q1 q2 q3 q4 q5 q6
  go_wp2_with fail
  refine (copyH_any Al nl cl x1 w.heap.size wa (by omega) CX.out Ba.out.size (HJ.out.below Ba.out)).mono ?_
  rintro e w2 ⟨A2, n2, c2, rfl, o2, b2⟩
  obtain rfl : n2 = nl := o2.len.symm.trans hlj
  have B2 := Lib.hid (Ba.out.trans (b2.mono Ba.out.size))
  have s2 : wa.heap.size ≤ w2.heap.size := b2.size
  have XB := Lib.hid (XB.out.below b2 (by omega))
  have OA := Lib.hid (OA.out.below b2)
  have C2 := Lib.hid o2
  clear b2 o2 hd
  -- the model's answer
  go_wp2_with fail
  refine (specChangedAll_any L2 x0 A2 n2 c2 x1 w2.heap.size w2 (OA.out.fit HS.out) (Nat.le_refl _) (OA.out.inn.more (by omega)) hnl C2.out.cap CX.out C2.out.chs).mono ?_
  rintro e w3 ⟨Lz, y, r, rfl, hr, oz, b3⟩
  have HR := Lib.hid hr
  have hsy := allIs_sz hr
  have B3 := Lib.hid (B2.out.trans (b3.mono B2.out.size))
  have s3 : w2.heap.size ≤ w3.heap.size := b3.size
  have XB := Lib.hid (XB.out.below b3 (by omega))
  have Z := Lib.hid oz.u
  clear b3 hr oz OA C2
  have HSY : Hid (szB y ≤ 1048576) := Lib.hid (by omega)
  unfold BLay.v
  obtain ⟨w3b, hw3b⟩ : ∃ z, w3.alloc (.cells #[.slice Lz.A Lz.n Lz.c, .int .i64 y.head, .slice Lz.Ap Lz.np Lz.cp, .int .i64 y.phase, .slice Lz.Ag Lz.ng Lz.cg, .slice Lz.Ab Lz.nb Lz.cb, .int .i64 y.cursor] 30) = z := ⟨_, rfl⟩
  have xw3b : Box w3b w3.heap.size _ _ := hw3b ▸ heap_alloc_new _ _
  have bw3b : Below w3.heap.size w3 w3b := hw3b ▸ (Below.refl _ _).alloc (Nat.le_refl _) _
  have sw3b : w3.heap.size < w3b.heap.size := xw3b.lt
  have B3b := Lib.hid (B3.out.trans (bw3b.mono B3.out.size))
  have XB := Lib.hid (XB.out.below bw3b (by omega))
  have XZ := Lib.hid xw3b
  have Z := Lib.hid (Z.out.below bw3b)
  clear xw3b bw3b
  have q0 : w3b.cell? ⟨w.heap.size, 0, none⟩ = some (.slice L.A L.n L.c) := by simpa using XB.out.cell 0
  have q1 : w3b.cell? ⟨w.heap.size, 1, none⟩ = some (.int .i64 x0.head) := by simpa using XB.out.cell 1
  have q2 : w3b.cell? ⟨w.heap.size, 2, none⟩ = some (.slice L.Ap L.np L.cp) := by simpa using XB.out.cell 2
  have q3 : w3b.cell? ⟨w.heap.size, 3, none⟩ = some (.int .i64 x0.phase) := by simpa using XB.out.cell 3
  have q4 : w3b.cell? ⟨w.heap.size, 4, none⟩ = some (.slice L.Ag L.ng L.cg) := by simpa using XB.out.cell 4
  have q5 : w3b.cell? ⟨w.heap.size, 5, none⟩ = some (.slice L.Ab L.nb L.cb) := by simpa using XB.out.cell 5
  have q6 : w3b.cell? ⟨w.heap.size, 6, none⟩ = some (.int .i64 x0.cursor) := by simpa using XB.out.cell 6
  -- the arguments, and the program's answer
  go_wp2_with fail
  refine (toBase_any L x0 w.heap.size w3b HS.out B3b.out.size (HI.out.below B3b.out)).mono ?_
  rintro e w4 ⟨L4, j1, j2, j3, rfl, o4, b4⟩
  have B4 := Lib.hid (B3b.out.trans (b4.mono B3b.out.size))
  have s4 : w3b.heap.size ≤ w4.heap.size := b4.size
  have XB := Lib.hid (XB.out.below b4 (by omega))
  have XZ := Lib.hid (XZ.out.below b4 (by omega))
  have X := Lib.hid o4
  have Z := Lib.hid (Z.out.below (b4.mono (by omega)))
  clear b4 o4 q0 q1 q2 q3 q4 q5 q6
  unfold BLay.v
  obtain ⟨w5, hw5⟩ : ∃ z, w4.alloc (.cells #[.slice L4.A L4.n L4.c, .int .i64 x0.head, .slice L4.Ap L4.np L4.cp, .int .i64 x0.phase, .slice L4.Ag L4.ng L4.cg, .slice L4.Ab L4.nb L4.cb, .int .i64 x0.cursor] 30) = z := ⟨_, rfl⟩
  have xw5 : Box w5 w4.heap.size _ _ := hw5 ▸ heap_alloc_new _ _
  have bw5 : Below w4.heap.size w4 w5 := hw5 ▸ (Below.refl _ _).alloc (Nat.le_refl _) _
  have sw5 : w4.heap.size < w5.heap.size := xw5.lt
  have B5 := Lib.hid (B4.out.trans (bw5.mono B4.out.size))
  have X5 := Lib.hid xw5
  have XB := Lib.hid (XB.out.below bw5 (by omega))
  have XZ := Lib.hid (XZ.out.below bw5 (by omega))
  have X := Lib.hid (X.out.below bw5)
  have Z := Lib.hid (Z.out.below (bw5.mono (by omega)))
  clear xw5 bw5
  go_wp2_with fail
  refine (copyH_any Al n2 cl x1 w.heap.size w5 (by omega) CX.out B5.out.size (HJ.out.below B5.out)).mono ?_
  rintro e w6 ⟨A6, n6, c6, rfl, o6, b6⟩
  obtain rfl : n6 = n2 := o6.len.symm.trans hlj
  have B6 := Lib.hid (B5.out.trans (b6.mono B5.out.size))
  have s6 : w5.heap.size ≤ w6.heap.size := b6.size
  have XB := Lib.hid (XB.out.below b6 (by omega))
  have XZ := Lib.hid (XZ.out.below b6 (by omega))
  have X5 := Lib.hid (X5.out.below b6 (by omega))
  have X := Lib.hid (X.out.below (b6.mono (by omega)))
  have Z := Lib.hid (Z.out.below (b6.mono (by omega)))
  have C := Lib.hid o6
  clear b6 o6
  have p0 : w6.cell? ⟨w4.heap.size, 0, none⟩ = some (.slice L4.A L4.n L4.c) := by simpa using X5.out.cell 0
  have p1 : w6.cell? ⟨w4.heap.size, 1, none⟩ = some (.int .i64 x0.head) := by simpa using X5.out.cell 1
  have p2 : w6.cell? ⟨w4.heap.size, 2, none⟩ = some (.slice L4.Ap L4.np L4.cp) := by simpa using X5.out.cell 2
  have p3 : w6.cell? ⟨w4.heap.size, 3, none⟩ = some (.int .i64 x0.phase) := by simpa using X5.out.cell 3
  have p4 : w6.cell? ⟨w4.heap.size, 4, none⟩ = some (.slice L4.Ag L4.ng L4.cg) := by simpa using X5.out.cell 4
  have p5 : w6.cell? ⟨w4.heap.size, 5, none⟩ = some (.slice L4.Ab L4.nb L4.cb) := by simpa using X5.out.cell 5
  have p6 : w6.cell? ⟨w4.heap.size, 6, none⟩ = some (.int .i64 x0.cursor) := by simpa using X5.out.cell 6
  go_wp2_with fail
  refine (implChangedAll_any L4 x0 A6 n6 c6 x1 w6.heap.size w6 (X.out.fit HS.out) (Nat.le_refl _) (X.out.inn.more (by omega)) hnl C.out.cap C.out.nilc CX.out C.out.chs).mono ?_
  rintro e w7 ⟨Lg, y', r', rfl, hr', og, b7⟩
  obtain ⟨rfl, rfl⟩ := hr'.one HR.out
  have B7 := Lib.hid (B6.out.trans (b7.mono B6.out.size))
  have s7 : w6.heap.size ≤ w7.heap.size := b7.size
  have XB := Lib.hid (XB.out.below b7 (by omega))
  have XZ := Lib.hid (XZ.out.below b7 (by omega))
  have X5 := Lib.hid (X5.out.below b7 (by omega))
  have X := Lib.hid (X.out.below (b7.mono (by omega)))
  have Z := Lib.hid (Z.out.below (b7.mono (by omega)))
  have C := Lib.hid (C.out.below b7)
  have G := Lib.hid og.u
  clear b7 hr' og p0 p1 p2 p3 p4 p5 p6
  unfold BLay.v
  obtain ⟨w8, hw8⟩ : ∃ z, w7.alloc (.cells #[.slice Lg.A Lg.n Lg.c, .int .i64 y'.head, .slice Lg.Ap Lg.np Lg.cp, .int .i64 y'.phase, .slice Lg.Ag Lg.ng Lg.cg, .slice Lg.Ab Lg.nb Lg.cb, .int .i64 y'.cursor] 30) = z := ⟨_, rfl⟩
  have xw8 : Box w8 w7.heap.size _ _ := hw8 ▸ heap_alloc_new _ _
  have bw8 : Below w7.heap.size w7 w8 := hw8 ▸ (Below.refl _ _).alloc (Nat.le_refl _) _
  have sw8 : w7.heap.size < w8.heap.size := xw8.lt
  have B8 := Lib.hid (B7.out.trans (bw8.mono B7.out.size))
  have XG := Lib.hid xw8
  have XB := Lib.hid (XB.out.below bw8 (by omega))
  have XZ := Lib.hid (XZ.out.below bw8 (by omega))
  have X5 := Lib.hid (X5.out.below bw8 (by omega))
  have X := Lib.hid (X.out.below (bw8.mono (by omega)))
  have Z := Lib.hid (Z.out.below (bw8.mono (by omega)))
  have C := Lib.hid (C.out.below (bw8.mono (by omega)))
  have G := Lib.hid (G.out.below bw8)
  have hne : (r' != r') = false := by simp
  clear xw8 bw8
  have u0 : w8.cell? ⟨w7.heap.size, 0, none⟩ = some (.slice Lg.A Lg.n Lg.c) := by simpa using XG.out.cell 0
  have u1 : w8.cell? ⟨w7.heap.size, 1, none⟩ = some (.int .i64 y'.head) := by simpa using XG.out.cell 1
  have u2 : w8.cell? ⟨w7.heap.size, 2, none⟩ = some (.slice Lg.Ap Lg.np Lg.cp) := by simpa using XG.out.cell 2
  have u3 : w8.cell? ⟨w7.heap.size, 3, none⟩ = some (.int .i64 y'.phase) := by simpa using XG.out.cell 3
  have u4 : w8.cell? ⟨w7.heap.size, 4, none⟩ = some (.slice Lg.Ag Lg.ng Lg.cg) := by simpa using XG.out.cell 4
  have u5 : w8.cell? ⟨w7.heap.size, 5, none⟩ = some (.slice Lg.Ab Lg.nb Lg.cb) := by simpa using XG.out.cell 5
  have u6 : w8.cell? ⟨w7.heap.size, 6, none⟩ = some (.int .i64 y'.cursor) := by simpa using XG.out.cell 6
  have v0 : w8.cell? ⟨w3.heap.size, 0, none⟩ = some (.slice Lz.A Lz.n Lz.c) := by simpa using XZ.out.cell 0
  have v1 : w8.cell? ⟨w3.heap.size, 1, none⟩ = some (.int .i64 y'.head) := by simpa using XZ.out.cell 1
  have v2 : w8.cell? ⟨w3.heap.size, 2, none⟩ = some (.slice Lz.Ap Lz.np Lz.cp) := by simpa using XZ.out.cell 2
  have v3 : w8.cell? ⟨w3.heap.size, 3, none⟩ = some (.int .i64 y'.phase) := by simpa using XZ.out.cell 3
  have v4 : w8.cell? ⟨w3.heap.size, 4, none⟩ = some (.slice Lz.Ag Lz.ng Lz.cg) := by simpa using XZ.out.cell 4
  have v5 : w8.cell? ⟨w3.heap.size, 5, none⟩ = some (.slice Lz.Ab Lz.nb Lz.cb) := by simpa using XZ.out.cell 5
  have v6 : w8.cell? ⟨w3.heap.size, 6, none⟩ = some (.int .i64 y'.cursor) := by simpa using XZ.out.cell 6
  go_wp2_with fail
  refine (eqBase_yes Lg Lz y' w7.heap.size w3.heap.size w8 HSY.out (by omega) (by omega) G.out.inn Z.out.inn).mono ?_
  rintro e w9 ⟨rfl, b9⟩
  have XB := Lib.hid (XB.out.below b9 (by omega))
  have XZ := Lib.hid (XZ.out.below b9 (by omega))
  have X5 := Lib.hid (X5.out.below b9 (by omega))
  have XG := Lib.hid (XG.out.below b9 (by omega))
  have X := Lib.hid (X.out.below (b9.mono (by omega)))
  have Z := Lib.hid (Z.out.below (b9.mono (by omega)))
  have C := Lib.hid (C.out.below (b9.mono (by omega)))
  have G := Lib.hid (G.out.below (b9.mono (by omega)))
  have B9 := Lib.hid (B8.out.trans (b9.mono B8.out.size))
  have sw9 : w8.heap.size ≤ w9.heap.size := b9.size
  clear b9 u0 u1 u2 u3 u4 u5 u6 v0 v1 v2 v3 v4 v5 v6
  have h5l : w4.heap.size < w9.heap.size := X5.out.lt
  have hbl : w.heap.size < w9.heap.size := XB.out.lt
  have p0 : ∀ W, Below w9.heap.size w9 W → W.cell? ⟨w4.heap.size, 0, none⟩ = some (.slice L4.A L4.n L4.c) := fun W hW => by simpa using (X5.out.below hW h5l).cell 0
  have p1 : ∀ W, Below w9.heap.size w9 W → W.cell? ⟨w4.heap.size, 1, none⟩ = some (.int .i64 x0.head) := fun W hW => by simpa using (X5.out.below hW h5l).cell 1
  have p2 : ∀ W, Below w9.heap.size w9 W → W.cell? ⟨w4.heap.size, 2, none⟩ = some (.slice L4.Ap L4.np L4.cp) := fun W hW => by simpa using (X5.out.below hW h5l).cell 2
  have p3 : ∀ W, Below w9.heap.size w9 W → W.cell? ⟨w4.heap.size, 3, none⟩ = some (.int .i64 x0.phase) := fun W hW => by simpa using (X5.out.below hW h5l).cell 3
  have p4 : ∀ W, Below w9.heap.size w9 W → W.cell? ⟨w4.heap.size, 4, none⟩ = some (.slice L4.Ag L4.ng L4.cg) := fun W hW => by simpa using (X5.out.below hW h5l).cell 4
  have p5 : ∀ W, Below w9.heap.size w9 W → W.cell? ⟨w4.heap.size, 5, none⟩ = some (.slice L4.Ab L4.nb L4.cb) := fun W hW => by simpa using (X5.out.below hW h5l).cell 5
  have p6 : ∀ W, Below w9.heap.size w9 W → W.cell? ⟨w4.heap.size, 6, none⟩ = some (.int .i64 x0.cursor) := fun W hW => by simpa using (X5.out.below hW h5l).cell 6
  have q0 : ∀ W, Below w9.heap.size w9 W → W.cell? ⟨w.heap.size, 0, none⟩ = some (.slice L.A L.n L.c) := fun W hW => by simpa using (XB.out.below hW hbl).cell 0
  have q1 : ∀ W, Below w9.heap.size w9 W → W.cell? ⟨w.heap.size, 1, none⟩ = some (.int .i64 x0.head) := fun W hW => by simpa using (XB.out.below hW hbl).cell 1
  have q2 : ∀ W, Below w9.heap.size w9 W → W.cell? ⟨w.heap.size, 2, none⟩ = some (.slice L.Ap L.np L.cp) := fun W hW => by simpa using (XB.out.below hW hbl).cell 2
  have q3 : ∀ W, Below w9.heap.size w9 W → W.cell? ⟨w.heap.size, 3, none⟩ = some (.int .i64 x0.phase) := fun W hW => by simpa using (XB.out.below hW hbl).cell 3
  have q4 : ∀ W, Below w9.heap.size w9 W → W.cell? ⟨w.heap.size, 4, none⟩ = some (.slice L.Ag L.ng L.cg) := fun W hW => by simpa using (XB.out.below hW hbl).cell 4
  have q5 : ∀ W, Below w9.heap.size w9 W → W.cell? ⟨w.heap.size, 5, none⟩ = some (.slice L.Ab L.nb L.cb) := fun W hW => by simpa using (XB.out.below hW hbl).cell 5
  have q6 : ∀ W, Below w9.heap.size w9 W → W.cell? ⟨w.heap.size, 6, none⟩ = some (.int .i64 x0.cursor) := fun W hW => by simpa using (XB.out.below hW hbl).cell 6
  have hTO : ∀ W, Below w9.heap.size w9 W → Calls Tryz.prog 9 #[.agg #[.slice L.A L.n L.c, .int .i64 x0.head, .slice L.Ap L.np L.cp, .int .i64 x0.phase, .slice L.Ag L.ng L.cg, .slice L.Ab L.nb L.cb, .int .i64 x0.cursor]] W fun e w' => ∃ L' h1 h2 h3, e = .returned (.agg #[.slice L'.A L'.n L'.c, .int .i64 x0.head, .slice L'.Ap L'.np L'.cp, .int .i64 x0.phase, .slice L'.Ag L'.ng L'.cg, .slice L'.Ab L'.nb L'.cb, .int .i64 x0.cursor]) ∧ OwnBase w' W.heap.size h1 h2 h3 w'.heap.size L' x0 ∧ Below W.heap.size W w' :=
    fun W h => (toBase_any L x0 w.heap.size W HS.out (by have := h.size; omega) (HI.out.below (B9.out.trans (h.mono (by omega))))).mono fun e w' h => h
  have hEQ : ∀ W, Below w9.heap.size w9 W → ∀ L' h1 h2 h3 lo, OwnBase W lo h1 h2 h3 W.heap.size L' x0 → Calls Tryz.prog 11 #[.agg #[.slice L4.A L4.n L4.c, .int .i64 x0.head, .slice L4.Ap L4.np L4.cp, .int .i64 x0.phase, .slice L4.Ag L4.ng L4.cg, .slice L4.Ab L4.nb L4.cb, .int .i64 x0.cursor], .agg #[.slice L'.A L'.n L'.c, .int .i64 x0.head, .slice L'.Ap L'.np L'.cp, .int .i64 x0.phase, .slice L'.Ag L'.ng L'.cg, .slice L'.Ab L'.nb L'.cb, .int .i64 x0.cursor]] W fun e w' => e = .returned (.bool true) ∧ Below W.heap.size W w' :=
    fun W h L' h1 h2 h3 lo hO => eqBase_yes L4 L' x0 w4.heap.size W.heap.size W HS.out (by have := h.size; omega) (Nat.le_refl _) ((X.out.below (h.mono (by omega))).inn) hO.inn
  have TO := Lib.hid hTO
  have EQ := Lib.hid hEQ
  clear hTO hEQ
  go_wp2
  go_region_held3 (fun W => Below w9.heap.size w9 W) (first | exact (Below.refl _ _).drew | assumption)
    (first
      | (go_at_call 9
         refine (TO.out _ (by assumption)).mono ?_
         rintro e wc ⟨L8, i4, i5, i6, rfl, oc, bc⟩
         have hc : Below w9.heap.size w9 wc := Below.trans (by assumption) (Below.mono bc (Below.size (B := w9.heap.size) (w := w9) (by assumption))))
      | (go_at_call 11
         refine (EQ.out _ (by assumption) L8 _ _ _ _ oc).mono ?_
         rintro e w11 ⟨rfl, b11⟩
         have h11 : Below w9.heap.size w9 w11 := hc.trans (b11.mono hc.size)))
  clear p0 p1 p2 p3 p4 p5 p6 q0 q1 q2 q3 q4 q5 q6 TO EQ
  have XB := Lib.hid (XB.out.below h11 (by omega))
  have XZ := Lib.hid (XZ.out.below h11 (by omega))
  have X5 := Lib.hid (X5.out.below h11 (by omega))
  have XG := Lib.hid (XG.out.below h11 (by omega))
  have X := Lib.hid (X.out.below (h11.mono (by omega)))
  have Z := Lib.hid (Z.out.below (h11.mono (by omega)))
  have C := Lib.hid (C.out.below (h11.mono (by omega)))
  have G := Lib.hid (G.out.below (h11.mono (by omega)))
  have B11 := Lib.hid (B9.out.trans (h11.mono B9.out.size))
  have sw11 : w9.heap.size ≤ w11.heap.size := h11.size
  clear hc bc b11 oc h11
  go_wp2_with fail
  refine (copyH_any Al n6 cl x1 w.heap.size w11 (by omega) CX.out B11.out.size (HJ.out.below B11.out)).mono ?_
  rintro e w12 ⟨Aq, nq, dq, rfl, oq, b12⟩
  obtain rfl : nq = n6 := oq.len.symm.trans hlj
  have XB := Lib.hid (XB.out.below b12 (by omega))
  have XZ := Lib.hid (XZ.out.below b12 (by omega))
  have X5 := Lib.hid (X5.out.below b12 (by omega))
  have XG := Lib.hid (XG.out.below b12 (by omega))
  have X := Lib.hid (X.out.below (b12.mono (by omega)))
  have Z := Lib.hid (Z.out.below (b12.mono (by omega)))
  have C := Lib.hid (C.out.below (b12.mono (by omega)))
  have G := Lib.hid (G.out.below (b12.mono (by omega)))
  have B12 := Lib.hid (B11.out.trans (b12.mono B11.out.size))
  have sw12 : w11.heap.size ≤ w12.heap.size := b12.size
  have CQ := Lib.hid oq
  clear b12 oq
  go_wp2_with fail
  refine (likeH_yes _ _ _ _ _ x1 _ _ w12 (by omega) CX.out (show w6.heap.size ≤ w12.heap.size by omega) (show w12.heap.size ≤ w12.heap.size by omega) C.out.chs CQ.out.chs).mono ?_
  rintro e w13 ⟨rfl, b13⟩
  have XB := Lib.hid (XB.out.below b13 (by omega))
  have XZ := Lib.hid (XZ.out.below b13 (by omega))
  have X5 := Lib.hid (X5.out.below b13 (by omega))
  have XG := Lib.hid (XG.out.below b13 (by omega))
  have X := Lib.hid (X.out.below (b13.mono (by omega)))
  have Z := Lib.hid (Z.out.below (b13.mono (by omega)))
  have C := Lib.hid (C.out.below (b13.mono (by omega)))
  have G := Lib.hid (G.out.below (b13.mono (by omega)))
  have B13 := Lib.hid (B12.out.trans (b13.mono B12.out.size))
  have sw13 : w12.heap.size ≤ w13.heap.size := b13.size
  clear b13 CQ
  have p0 : w13.cell? ⟨w4.heap.size, 0, none⟩ = some (.slice L4.A L4.n L4.c) := by simpa using X5.out.cell 0
  have p1 : w13.cell? ⟨w4.heap.size, 1, none⟩ = some (.int .i64 x0.head) := by simpa using X5.out.cell 1
  have p2 : w13.cell? ⟨w4.heap.size, 2, none⟩ = some (.slice L4.Ap L4.np L4.cp) := by simpa using X5.out.cell 2
  have p3 : w13.cell? ⟨w4.heap.size, 3, none⟩ = some (.int .i64 x0.phase) := by simpa using X5.out.cell 3
  have p4 : w13.cell? ⟨w4.heap.size, 4, none⟩ = some (.slice L4.Ag L4.ng L4.cg) := by simpa using X5.out.cell 4
  have p5 : w13.cell? ⟨w4.heap.size, 5, none⟩ = some (.slice L4.Ab L4.nb L4.cb) := by simpa using X5.out.cell 5
  have p6 : w13.cell? ⟨w4.heap.size, 6, none⟩ = some (.int .i64 x0.cursor) := by simpa using X5.out.cell 6
  -- the arguments are marked
  go_wp2_with fail
  refine (markBase_any L4 x0 _ _ _ _ _ 1 w13 (by omega) (by omega) (by omega) X.out (by omega)).mono ?_
  rintro e w14 ⟨rfl, _, t14⟩
  have xb : Box w14 w.heap.size _ _ := (t14.block _ (by omega) (fun h => by omega)).trans XB.out
  have xz : Box w14 w3.heap.size _ _ := (t14.block _ (by omega) (fun h => by omega)).trans XZ.out
  have xg : Box w14 w7.heap.size _ _ := (t14.block _ (by omega) (fun h => by omega)).trans XG.out
  have XB := Lib.hid xb
  have XZ := Lib.hid xz
  have XG := Lib.hid xg
  have Z := Lib.hid (Z.out.touch t14 (fun g h1 h2 h => by omega))
  have G := Lib.hid (G.out.touch t14 (fun g h1 h2 h => by omega))
  have B14 := Lib.hid (B13.out.trans (t14.below B13.out.size (fun k hk h => by omega)))
  have sw14 : w13.heap.size ≤ w14.heap.size := t14.size
  clear xb xz xg
  have C := Lib.hid (C.out.touch t14 (fun g h1 h2 h => by omega))
  clear t14 X p0 p1 p2 p3 p4 p5 p6
  have hmlH := mlH_sz x1
  go_wp2_with fail
  refine (markH_any _ _ _ _ _ x1 (1 + szB x0) w14 (by omega) (by omega) (by omega) C.out).mono ?_
  rintro e w15 ⟨rfl, _, t15⟩
  have xb : Box w15 w.heap.size _ _ := (t15.block _ (by omega) (fun h => by omega)).trans XB.out
  have xz : Box w15 w3.heap.size _ _ := (t15.block _ (by omega) (fun h => by omega)).trans XZ.out
  have xg : Box w15 w7.heap.size _ _ := (t15.block _ (by omega) (fun h => by omega)).trans XG.out
  have XB := Lib.hid xb
  have XZ := Lib.hid xz
  have XG := Lib.hid xg
  have Z := Lib.hid (Z.out.touch t15 (fun g h1 h2 h => by omega))
  have G := Lib.hid (G.out.touch t15 (fun g h1 h2 h => by omega))
  have B15 := Lib.hid (B14.out.trans (t15.below B14.out.size (fun k hk h => by omega)))
  have sw15 : w14.heap.size ≤ w15.heap.size := t15.size
  clear xb xz xg
  clear t15 C
  have hd : decide ((1 : Int) + (szB x0 : Int) + (mlH x1 : Int) < 0) = false := decide_eq_false (by omega)
  have u0 : w15.cell? ⟨w7.heap.size, 0, none⟩ = some (.slice Lg.A Lg.n Lg.c) := by simpa using XG.out.cell 0
  have u1 : w15.cell? ⟨w7.heap.size, 1, none⟩ = some (.int .i64 y'.head) := by simpa using XG.out.cell 1
  have u2 : w15.cell? ⟨w7.heap.size, 2, none⟩ = some (.slice Lg.Ap Lg.np Lg.cp) := by simpa using XG.out.cell 2
  have u3 : w15.cell? ⟨w7.heap.size, 3, none⟩ = some (.int .i64 y'.phase) := by simpa using XG.out.cell 3
  have u4 : w15.cell? ⟨w7.heap.size, 4, none⟩ = some (.slice Lg.Ag Lg.ng Lg.cg) := by simpa using XG.out.cell 4
  have u5 : w15.cell? ⟨w7.heap.size, 5, none⟩ = some (.slice Lg.Ab Lg.nb Lg.cb) := by simpa using XG.out.cell 5
  have u6 : w15.cell? ⟨w7.heap.size, 6, none⟩ = some (.int .i64 y'.cursor) := by simpa using XG.out.cell 6
  have v0 : w15.cell? ⟨w3.heap.size, 0, none⟩ = some (.slice Lz.A Lz.n Lz.c) := by simpa using XZ.out.cell 0
  have v1 : w15.cell? ⟨w3.heap.size, 1, none⟩ = some (.int .i64 y'.head) := by simpa using XZ.out.cell 1
  have v2 : w15.cell? ⟨w3.heap.size, 2, none⟩ = some (.slice Lz.Ap Lz.np Lz.cp) := by simpa using XZ.out.cell 2
  have v3 : w15.cell? ⟨w3.heap.size, 3, none⟩ = some (.int .i64 y'.phase) := by simpa using XZ.out.cell 3
  have v4 : w15.cell? ⟨w3.heap.size, 4, none⟩ = some (.slice Lz.Ag Lz.ng Lz.cg) := by simpa using XZ.out.cell 4
  have v5 : w15.cell? ⟨w3.heap.size, 5, none⟩ = some (.slice Lz.Ab Lz.nb Lz.cb) := by simpa using XZ.out.cell 5
  have v6 : w15.cell? ⟨w3.heap.size, 6, none⟩ = some (.int .i64 y'.cursor) := by simpa using XZ.out.cell 6
  go_wp2_with fail
  refine (eqBase_yes Lg Lz y' w7.heap.size w3.heap.size w15 HSY.out (by omega) (by omega) G.out.inn Z.out.inn).mono ?_
  rintro e w16 ⟨rfl, b16⟩
  have G := Lib.hid (G.out.below (b16.mono (by omega)))
  have Z := Lib.hid (Z.out.below (b16.mono (by omega)))
  have XG := Lib.hid (XG.out.below b16 (by omega))
  have XZ := Lib.hid (XZ.out.below b16 (by omega))
  have XB := Lib.hid (XB.out.below b16 (by omega))
  have B16 := Lib.hid (B15.out.trans (b16.mono B15.out.size))
  have s16 : w15.heap.size ≤ w16.heap.size := b16.size
  clear b16 hd u0 u1 u2 u3 u4 u5 u6 v0 v1 v2 v3 v4 v5 v6
  have u0 : w16.cell? ⟨w7.heap.size, 0, none⟩ = some (.slice Lg.A Lg.n Lg.c) := by simpa using XG.out.cell 0
  have u1 : w16.cell? ⟨w7.heap.size, 1, none⟩ = some (.int .i64 y'.head) := by simpa using XG.out.cell 1
  have u2 : w16.cell? ⟨w7.heap.size, 2, none⟩ = some (.slice Lg.Ap Lg.np Lg.cp) := by simpa using XG.out.cell 2
  have u3 : w16.cell? ⟨w7.heap.size, 3, none⟩ = some (.int .i64 y'.phase) := by simpa using XG.out.cell 3
  have u4 : w16.cell? ⟨w7.heap.size, 4, none⟩ = some (.slice Lg.Ag Lg.ng Lg.cg) := by simpa using XG.out.cell 4
  have u5 : w16.cell? ⟨w7.heap.size, 5, none⟩ = some (.slice Lg.Ab Lg.nb Lg.cb) := by simpa using XG.out.cell 5
  have u6 : w16.cell? ⟨w7.heap.size, 6, none⟩ = some (.int .i64 y'.cursor) := by simpa using XG.out.cell 6
  -- the answer is marked, and held against the marks
  go_wp2_with fail
  refine (markBU_any Lg y' _ _ 1 w16 (by have := HSY.out; omega) (by omega) (by omega) G.out (by omega)).mono ?_
  rintro e w17 ⟨rfl, g17, t17⟩
  have Z := Lib.hid (Z.out.touch t17 (fun g h1 h2 h => by omega))
  have xg : Box w17 w7.heap.size _ _ := (t17.block _ (by omega) (fun h => by omega)).trans XG.out
  have xz : Box w17 w3.heap.size _ _ := (t17.block _ (by omega) (fun h => by omega)).trans XZ.out
  have xb : Box w17 w.heap.size _ _ := (t17.block _ (by omega) (fun h => by omega)).trans XB.out
  have XG := Lib.hid xg
  have XZ := Lib.hid xz
  have XB := Lib.hid xb
  have G := Lib.hid g17
  have B17 := Lib.hid (B16.out.trans (t17.below B16.out.size (fun k hk h => by omega)))
  have s17 : w16.heap.size ≤ w17.heap.size := t17.size
  clear t17 g17 xg xz xb u0 u1 u2 u3 u4 u5 u6
  have hsy2 := HSY.out
  have hd2 : decide ((1 : Int) + (szB y' : Int) < 0) = false := decide_eq_false (by omega)
  have u0 : w17.cell? ⟨w7.heap.size, 0, none⟩ = some (.slice Lg.A Lg.n Lg.c) := by simpa using XG.out.cell 0
  have u1 : w17.cell? ⟨w7.heap.size, 1, none⟩ = some (.int .i64 y'.head) := by simpa using XG.out.cell 1
  have u2 : w17.cell? ⟨w7.heap.size, 2, none⟩ = some (.slice Lg.Ap Lg.np Lg.cp) := by simpa using XG.out.cell 2
  have u3 : w17.cell? ⟨w7.heap.size, 3, none⟩ = some (.int .i64 y'.phase) := by simpa using XG.out.cell 3
  have u4 : w17.cell? ⟨w7.heap.size, 4, none⟩ = some (.slice Lg.Ag Lg.ng Lg.cg) := by simpa using XG.out.cell 4
  have u5 : w17.cell? ⟨w7.heap.size, 5, none⟩ = some (.slice Lg.Ab Lg.nb Lg.cb) := by simpa using XG.out.cell 5
  have u6 : w17.cell? ⟨w7.heap.size, 6, none⟩ = some (.int .i64 y'.cursor) := by simpa using XG.out.cell 6
  go_wp2_with fail
  refine (heldBase_yes Lg y' w7.heap.size 1 w17 (by omega) (by omega) (by omega) (by omega) G.out.inn).mono ?_
  rintro e w18 ⟨rfl, b18⟩
  have G := Lib.hid (G.out.below (b18.mono (by omega)))
  have Z := Lib.hid (Z.out.below (b18.mono (by omega)))
  have XG := Lib.hid (XG.out.below b18 (by omega))
  have XZ := Lib.hid (XZ.out.below b18 (by omega))
  have XB := Lib.hid (XB.out.below b18 (by omega))
  have B18 := Lib.hid (B17.out.trans (b18.mono B17.out.size))
  have s18 : w17.heap.size ≤ w18.heap.size := b18.size
  clear b18 u0 u1 u2 u3 u4 u5 u6
  have q0 : w18.cell? ⟨w.heap.size, 0, none⟩ = some (.slice L.A L.n L.c) := by simpa using XB.out.cell 0
  have q1 : w18.cell? ⟨w.heap.size, 1, none⟩ = some (.int .i64 x0.head) := by simpa using XB.out.cell 1
  have q2 : w18.cell? ⟨w.heap.size, 2, none⟩ = some (.slice L.Ap L.np L.cp) := by simpa using XB.out.cell 2
  have q3 : w18.cell? ⟨w.heap.size, 3, none⟩ = some (.int .i64 x0.phase) := by simpa using XB.out.cell 3
  have q4 : w18.cell? ⟨w.heap.size, 4, none⟩ = some (.slice L.Ag L.ng L.cg) := by simpa using XB.out.cell 4
  have q5 : w18.cell? ⟨w.heap.size, 5, none⟩ = some (.slice L.Ab L.nb L.cb) := by simpa using XB.out.cell 5
  have q6 : w18.cell? ⟨w.heap.size, 6, none⟩ = some (.int .i64 x0.cursor) := by simpa using XB.out.cell 6
  go_wp2_with fail
  refine (toBase_any L x0 w.heap.size w18 HS.out B18.out.size (HI.out.below B18.out)).mono ?_
  rintro e w19 ⟨L9, k1, k2, k3, rfl, o19, b19⟩
  have G := Lib.hid (G.out.below (b19.mono (by omega)))
  have Z := Lib.hid (Z.out.below (b19.mono (by omega)))
  have XG := Lib.hid (XG.out.below b19 (by omega))
  have XZ := Lib.hid (XZ.out.below b19 (by omega))
  have B19 := Lib.hid (B18.out.trans (b19.mono B18.out.size))
  have s19 : w18.heap.size ≤ w19.heap.size := b19.size
  have Y := Lib.hid o19
  clear b19 o19 q0 q1 q2 q3 q4 q5 q6
  go_wp2_with fail
  refine (copyH_any Al nq cl x1 w.heap.size w19 (by omega) CX.out B19.out.size (HJ.out.below B19.out)).mono ?_
  rintro e w20 ⟨Ar, nr, dr, rfl, o20, b20⟩
  obtain rfl : nr = nq := o20.len.symm.trans hlj
  have G := Lib.hid (G.out.below (b20.mono (by omega)))
  have Z := Lib.hid (Z.out.below (b20.mono (by omega)))
  have XG := Lib.hid (XG.out.below b20 (by omega))
  have XZ := Lib.hid (XZ.out.below b20 (by omega))
  have Y := Lib.hid (Y.out.below b20)
  have B20 := Lib.hid (B19.out.trans (b20.mono B19.out.size))
  have s20 : w19.heap.size ≤ w20.heap.size := b20.size
  have CR := Lib.hid o20
  clear b20 o20
  go_wp2_with fail
  refine (implChangedAll_any L9 x0 Ar nr dr x1 w20.heap.size w20 (Y.out.fit HS.out) (Nat.le_refl _) (Y.out.inn.more (by omega)) hnl CR.out.cap CR.out.nilc CX.out CR.out.chs).mono ?_
  rintro e w21 ⟨Lh, yh, rh, rfl, hrh, oh, b21⟩
  obtain ⟨rfl, rfl⟩ := hrh.one HR.out
  have G := Lib.hid (G.out.below (b21.mono (by omega)))
  have Z := Lib.hid (Z.out.below (b21.mono (by omega)))
  have XG := Lib.hid (XG.out.below b21 (by omega))
  have XZ := Lib.hid (XZ.out.below b21 (by omega))
  have B21 := Lib.hid (B20.out.trans (b21.mono B20.out.size))
  have s21 : w20.heap.size ≤ w21.heap.size := b21.size
  have H := Lib.hid oh.u
  clear b21 hrh oh Y CR
  unfold BLay.v
  obtain ⟨w22, hw22⟩ : ∃ z, w21.alloc (.cells #[.slice Lh.A Lh.n Lh.c, .int .i64 yh.head, .slice Lh.Ap Lh.np Lh.cp, .int .i64 yh.phase, .slice Lh.Ag Lh.ng Lh.cg, .slice Lh.Ab Lh.nb Lh.cb, .int .i64 yh.cursor] 30) = z := ⟨_, rfl⟩
  have xw22 : Box w22 w21.heap.size _ _ := hw22 ▸ heap_alloc_new _ _
  have bw22 : Below w21.heap.size w21 w22 := hw22 ▸ (Below.refl _ _).alloc (Nat.le_refl _) _
  have sw22 : w21.heap.size < w22.heap.size := xw22.lt
  have G := Lib.hid (G.out.below (bw22.mono (by omega)))
  have Z := Lib.hid (Z.out.below (bw22.mono (by omega)))
  have H := Lib.hid (H.out.below bw22)
  have XG := Lib.hid (XG.out.below bw22 (by omega))
  have XZ := Lib.hid (XZ.out.below bw22 (by omega))
  have B22 := Lib.hid (B21.out.trans (bw22.mono B21.out.size))
  have XH := Lib.hid xw22
  have hne2 : (rh != rh) = false := by simp
  clear bw22 xw22
  have v0 : w22.cell? ⟨w3.heap.size, 0, none⟩ = some (.slice Lz.A Lz.n Lz.c) := by simpa using XZ.out.cell 0
  have v1 : w22.cell? ⟨w3.heap.size, 1, none⟩ = some (.int .i64 yh.head) := by simpa using XZ.out.cell 1
  have v2 : w22.cell? ⟨w3.heap.size, 2, none⟩ = some (.slice Lz.Ap Lz.np Lz.cp) := by simpa using XZ.out.cell 2
  have v3 : w22.cell? ⟨w3.heap.size, 3, none⟩ = some (.int .i64 yh.phase) := by simpa using XZ.out.cell 3
  have v4 : w22.cell? ⟨w3.heap.size, 4, none⟩ = some (.slice Lz.Ag Lz.ng Lz.cg) := by simpa using XZ.out.cell 4
  have v5 : w22.cell? ⟨w3.heap.size, 5, none⟩ = some (.slice Lz.Ab Lz.nb Lz.cb) := by simpa using XZ.out.cell 5
  have v6 : w22.cell? ⟨w3.heap.size, 6, none⟩ = some (.int .i64 yh.cursor) := by simpa using XZ.out.cell 6
  have p0 : w22.cell? ⟨w21.heap.size, 0, none⟩ = some (.slice Lh.A Lh.n Lh.c) := by simpa using XH.out.cell 0
  have p1 : w22.cell? ⟨w21.heap.size, 1, none⟩ = some (.int .i64 yh.head) := by simpa using XH.out.cell 1
  have p2 : w22.cell? ⟨w21.heap.size, 2, none⟩ = some (.slice Lh.Ap Lh.np Lh.cp) := by simpa using XH.out.cell 2
  have p3 : w22.cell? ⟨w21.heap.size, 3, none⟩ = some (.int .i64 yh.phase) := by simpa using XH.out.cell 3
  have p4 : w22.cell? ⟨w21.heap.size, 4, none⟩ = some (.slice Lh.Ag Lh.ng Lh.cg) := by simpa using XH.out.cell 4
  have p5 : w22.cell? ⟨w21.heap.size, 5, none⟩ = some (.slice Lh.Ab Lh.nb Lh.cb) := by simpa using XH.out.cell 5
  have p6 : w22.cell? ⟨w21.heap.size, 6, none⟩ = some (.int .i64 yh.cursor) := by simpa using XH.out.cell 6
  go_wp2_with fail
  refine (eqBase_yes Lh Lz yh w21.heap.size w3.heap.size w22 HSY.out (by omega) (by omega) H.out.inn Z.out.inn).mono ?_
  rintro e w23 ⟨rfl, b23⟩
  have G := Lib.hid (G.out.below (b23.mono (by omega)))
  have XG := Lib.hid (XG.out.below b23 (by omega))
  have B23 := Lib.hid (B22.out.trans (b23.mono B22.out.size))
  have s23 : w22.heap.size ≤ w23.heap.size := b23.size
  clear b23 v0 v1 v2 v3 v4 v5 v6 p0 p1 p2 p3 p4 p5 p6 H Z
  have u0 : w23.cell? ⟨w7.heap.size, 0, none⟩ = some (.slice Lg.A Lg.n Lg.c) := by simpa using XG.out.cell 0
  have u1 : w23.cell? ⟨w7.heap.size, 1, none⟩ = some (.int .i64 yh.head) := by simpa using XG.out.cell 1
  have u2 : w23.cell? ⟨w7.heap.size, 2, none⟩ = some (.slice Lg.Ap Lg.np Lg.cp) := by simpa using XG.out.cell 2
  have u3 : w23.cell? ⟨w7.heap.size, 3, none⟩ = some (.int .i64 yh.phase) := by simpa using XG.out.cell 3
  have u4 : w23.cell? ⟨w7.heap.size, 4, none⟩ = some (.slice Lg.Ag Lg.ng Lg.cg) := by simpa using XG.out.cell 4
  have u5 : w23.cell? ⟨w7.heap.size, 5, none⟩ = some (.slice Lg.Ab Lg.nb Lg.cb) := by simpa using XG.out.cell 5
  have u6 : w23.cell? ⟨w7.heap.size, 6, none⟩ = some (.int .i64 yh.cursor) := by simpa using XG.out.cell 6
  go_wp2_with fail
  refine (heldBase_yes Lg yh w7.heap.size 1 w23 (by omega) (by omega) (by omega) (by omega) G.out.inn).mono ?_
  rintro e w24 ⟨rfl, b24⟩
  have B24 := Lib.hid (B23.out.trans (b24.mono B23.out.size))
  clear b24
  go_wp2
  go_ret
  exact ⟨rfl, B24.out⟩

/-! ### THE ROW's STEP -/
set_option maxRecDepth 100000 in
theorem lifted (os : Os) (started : os.Started) (H : Type) (enc : TypeId × Value → H) :
    ReturnsInHanded {} Tryz.checked os 5 .any (Rows.fnExactChangedAllSpec.pre6 enc Tryz.prog Tryz.f5 Rows.fnExactChangedAllRow.domain false) (Rows.fnExactChangedAllSpec.post enc Tryz.prog Tryz.f5 false true false false) := by
  refine returnsInHanded_of_change (C := Tryz.checked) own started (by kernel_rfl) Tryz.func5
    (ChangeSpec.witness6 (enc := enc) (C := Tryz.checked) false ⟨#[], #[.agg #[.slice none 0 0, .int .i64 0, .slice none 0 0, .int .i64 0, .slice none 0 0, .slice none 0 0, .int .i64 0], .slice none 0 0], []⟩ 8 (by kernel_rfl) (by kernel_rfl) (by kernel_rfl) (by kernel_rfl)) ?_
  intro W base args ds gs before hval0 hW hcnd _
  have hval : ∀ (j : Nat) t v, Tryz.f5.params[j]? = some t → args[j]? = some v → Value.okWide Tryz.prog W .any base t v := hval0
  have hW' := hW
  obtain ⟨p, q, hA0, hV, rfl, hfz, hnd⟩ := hW
  have hA : DataW.TrodAll enc Tryz.prog W 0 (fun _ => true) true Tryz.f5.params.toList args.toList ds p := hA0
  rw [Tryz.params5] at hA hval
  obtain ⟨v0, vs0, d0, ds0, p0, q0, hargs, rfl, rfl, h0, r0⟩ := trodAll_cons hA
  obtain ⟨v1, vs1, d1, ds1, p1, q1, rfl, rfl, rfl, h1, r1⟩ := trodAll_cons r0
  obtain ⟨rfl, rfl, rfl⟩ := trodAll_nil r1
  obtain rfl : args = #[v0, v1] := by cases args; simp_all
  obtain ⟨rfl, rfl⟩ := trodVars_none hV
  have k0 := h0
  have lt0 : ∀ x ∈ p0, x.block < W.heap.size := by obtain ⟨m, hm⟩ := k0; exact DataW.trod_lt m _ _ _ hm
  obtain ⟨x0, w0⟩ := open_base (hval 0 25 v0 rfl rfl) h0
  have k1 := h1
  have lt1 : ∀ x ∈ p1, x.block < W.heap.size := by obtain ⟨m, hm⟩ := k1; exact DataW.trod_lt m _ _ _ hm
  obtain ⟨a1, len1, cap1, rfl⟩ := okWide_slice Tryz.underlying38 (hval 1 38 v1 rfl rfl)
  obtain ⟨x1, w1⟩ := open_chs (hval 1 38 _ rfl rfl) h1 ⟨_, _, _, rfl⟩
  clear hA0 hval0
  refine (walk v0 x0 (.slice a1 len1 cap1) x1 W w0 w1).mono fun e W' ⟨he, bel⟩ => ?_
  subst he
  exact ⟨_, rfl, _, _, _, [], _, [], hW', trodAll_mk1 (shut_bool Tryz.underlying4 _), (trodAll_cons_mk (Below.trod laidOut (by kernel_rfl) (of_decide_eq_true (by kernel_rfl)) k0 bel lt0) (trodAll_cons_mk (Below.trod laidOut (by kernel_rfl) (of_decide_eq_true (by kernel_rfl)) k1 bel lt1) trodAll_mk0)), rfl, bel.frame _, fun h => by cases h⟩

theorem over : Rows.fnExactChangedAllRow.holds Tryz.pinned (OpenSpec.ofChange Rows.fnExactChangedAllSpec) :=
  OpenClaim.holds_of_wide 5 Tryz.f5 rfl rfl rfl rfl rfl rfl rfl ⟨rfl, rfl, rfl, rfl, rfl⟩ rfl rfl rfl rfl rfl (by kernel_rfl) Tryz.func5 (by kernel_rfl)
    (of_decide_eq_true (by kernel_rfl)) (by unfold Func.isWrapper; first | (rw [if_pos (by decide +kernel)]; kernel_rfl) | (rw [if_neg (by decide +kernel)]; exact ⟨rfl, rfl⟩))
    (fun os started H enc _ => lifted os started H enc)

/-- THE STATEMENT -/
theorem proved : Rows.FnExactChangedAllSaid := over
#print axioms proved
end Go.Proofs.YtigdcmfmaehjfaaGreat.fnExactChangedAll
