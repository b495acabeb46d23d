/- At all cells and all nodes that can be given, the law that holds WithNode to its model answers true. -/
import Derived.Test.YtdhnhgppapkikaaRows
import Derived.Test.YtdhnhgppapkikaaPkF
import Derived.WalkKit
import Derived.ProofKit
import Derived.OpenShut
import Derived.ShutString
import Derived.ChangeOld
import Derived.Below
import Derived.WalkSmall
import Derived.Deep.RegionHeld3
import Derived.Outline
namespace Go.Proofs.Ytdhnhgppapkikaa.fnExactWithNode
set_option maxRecDepth 20000
set_option linter.unusedSimpArgs false
open Go.ChangeShapes Go.WideShapes Go.ChangeAt Go.RowKit
open Go.ChangeMaps (open_string shut_string)
set_option linter.unusedVariables false

theorem own : ownKnob Try.prog.godebug = none := by kernel_rfl
theorem laidOut : laidOutB Try.prog = true := by kernel_rfl

set_option maxHeartbeats 3200000 in
theorem walk (v0 : Value) (x0 : List (Int × List Int)) (v1 : Value) (x1 : MNode) (w : World) (w0 : CellsArg w v0 x0) (w1 : NodeArg w v1 x1) :
    Calls Try.prog 3 #[v0, v1] w fun e w' => e = .returned (.bool true) ∧ Below w.heap.size w w' := by
  obtain ⟨A, n, c, rfl, hn, hI, hm⟩ := w0
  obtain ⟨Ap, np, cp, Ak, nk, ck, rfl, hnp, hnk, hsz, hp, hk⟩ := w1
  have HI := Lib.hid hI
  have hlen := hI.1
  have b0 := (Below.refl w.heap.size w).alloc (Nat.le_refl _) (.cells #[.int .i64 x1.kind, .slice Ap np cp, .slice Ak nk ck, .string x1.val] 26)
  have xb : Box (w.alloc (.cells #[.int .i64 x1.kind, .slice Ap np cp, .slice Ak nk ck, .string x1.val] 26)) w.heap.size _ _ := heap_alloc_new _ _
  have XB := Lib.hid xb
  have B0 := Lib.hid b0
  have HP := Lib.hid hp
  have HK := Lib.hid hk
  clear b0 xb hp hk hI
  go_enter Try.func3, Try.ntmps3
  go_wp2_with fail
  refine (szCells_any A n c x0 _ hn hm ((HI.out.below B0.out).more (by simp))).mono ?_
  rintro e w1 ⟨rfl, b1⟩
  have s1 := b1.size
  simp at s1
  have XB := Lib.hid (XB.out.below b1 (by simp))
  have B1 := Lib.hid (B0.out.trans (b1.mono (by simp)))
  clear b1
  by_cases hs : szC x0 ≤ 1048576
  case neg =>
    rw [show leftOf 1048576 (szC x0) = -1 from if_neg hs]
    go_wp2
    go_ret
    exact ⟨rfl, B1.out⟩
  rw [show leftOf 1048576 (szC x0) = ((1048576 - szC x0 : Nat) : Int) from if_pos hs]
  have hm := cel_bd x0 hs
  have hn : n ≤ 1048576 := by have := szC_len x0; omega
  have M := Lib.hid hm
  clear hm
  obtain ⟨lf, hlf⟩ : ∃ lf, 1048576 - szC x0 = lf := ⟨_, rfl⟩
  have hlf' : lf ≤ 1048576 := by omega
  rw [hlf]
  have HLF := Lib.hid hlf
  have hd0 : decide (((lf : Nat) : Int) < 0) = false := decide_eq_false (by omega)
  clear hlf
  have q0 := XB.out.cell 0
  have q1 := XB.out.cell 1
  have q2 := XB.out.cell 2
  have q3 := XB.out.cell 3
  simp at q0 q1 q2 q3
  go_wp2_with fail
  refine (szNode_any _ _ _ _ _ _ _ _ lf _ hnp hnk hsz hlf').mono ?_
  rintro e w2 ⟨rfl, b2⟩
  clear q0 q1 q2 q3 hd0
  have XB := Lib.hid (XB.out.below b2 XB.out.lt)
  have B2 := Lib.hid (B1.out.trans (b2.mono B1.out.size))
  have s2 : w1.heap.size ≤ w2.heap.size := b2.size
  clear b2
  by_cases hm : np + nk + x1.val.size ≤ lf
  case neg =>
    rw [show leftOf lf (np + nk + x1.val.size) = -1 from if_neg hm]
    go_wp2
    go_ret
    exact ⟨rfl, B2.out⟩
  have hleft : leftOf lf (np + nk + x1.val.size) = ((lf - (np + nk + x1.val.size) : Nat) : Int) := if_pos hm
  rw [hleft]
  have hd1 : decide (((lf - (np + nk + x1.val.size) : Nat) : Int) < 0) = false := decide_eq_false (by omega)
  generalize lf - (np + nk + x1.val.size) = left at hd1 ⊢
  have HN : ∀ W : World, Below w.heap.size w W → NodeIn W w.heap.size (.agg #[.int .i64 x1.kind, .slice Ap np cp, .slice Ak nk ck, .string x1.val]) x1 :=
    fun W hb => ⟨Ap, np, cp, Ak, nk, ck, rfl, by omega, by omega, by omega, HP.out.below hb, HK.out.below hb⟩
  have HN := Lib.hid HN
  clear hleft
  have q0 := XB.out.cell 0
  have q1 := XB.out.cell 1
  have q2 := XB.out.cell 2
  have q3 := XB.out.cell 3
  simp at q0 q1 q2 q3
  go_wp2
  go_region_law (first
    | (go_simp
       refine (copyC_any _ _ _ x0 _ _ (by omega) (fun i => M.out i) B2.out.drew.size ((HI.out.below B2.out).drewN 1)).mono ?_
       rintro e w3 ⟨A_w3, n_w3, c_w3, rfl, o_w3, b_w3⟩
       obtain rfl : n_w3 = n := o_w3.len.symm.trans hlen
       have z_w3 : Below w2.heap.size w2 w3 := (below_drewN (Below.refl _ _) 1).trans b_w3
       have k_w3 : Below w.heap.size w w3 := B2.out.trans (z_w3.mono B2.out.size)
       have t_w3 : w2.heap.size ≤ w3.heap.size := b_w3.size
       have x_w3 : Box w3 w.heap.size 26 #[.int .i64 x1.kind, .slice Ap np cp, .slice Ak nk ck, .string x1.val] := XB.out.below z_w3 XB.out.lt
       have r0 := x_w3.cell 0
       have r1 := x_w3.cell 1
       have r2 := x_w3.cell 2
       have r3 := x_w3.cell 3
       simp at r0 r1 r2 r3)
    | (go_simp
       refine (toNode_any _ x1 _ _ k_w3.size (HN.out _ k_w3)).mono ?_
       rintro e w4 ⟨v_w4, rfl, m_w4, b_w4⟩
       have k_w4 : Below w.heap.size w w4 := k_w3.trans (b_w4.mono k_w3.size)
       have t_w4 : w3.heap.size ≤ w4.heap.size := b_w4.size)
    | (go_simp
       refine (specWithNode_any _ _ _ x0 _ x1 _ w4 hn M.out (Nat.le_refl _) ((o_w3.below b_w4).cells.more t_w4) m_w4.node).mono ?_
       rintro e w5 ⟨AZ, nZ, cZ, l, r, rfl, hl, z5, b_w5⟩))
  all_goals
    have b5 : Below w2.heap.size w2 w5 := (z_w3.trans (b_w4.mono t_w3)).trans (b_w5.mono (Nat.le_trans t_w3 t_w4))
    obtain ⟨hlb, hln, hlm⟩ := with_bd hl hs
    have LM := Lib.hid hlm
    obtain rfl : l.length = nZ := z5.len
    have HL := Lib.hid hl
    have XB := Lib.hid (XB.out.below b5 XB.out.lt)
    have B_w5 := Lib.hid (B2.out.trans (b5.mono B2.out.size))
    have s_w5 : w2.heap.size ≤ w5.heap.size := b5.size
    have Z := Lib.hid z5
    clear b5 hl z5 hlm q0 q1 q2 q3 r0 r1 r2 r3 x_w3 z_w3 k_w3 k_w4 o_w3 m_w4 b_w3 b_w4 b_w5
    clear hd1
    go_wp2_with fail
    refine (copyC_any _ _ _ x0 _ w5 (by omega) (fun i => M.out i) B_w5.out.size (HI.out.below B_w5.out)).mono ?_
    rintro e w6 ⟨A_w6, n_w6, c_w6, rfl, o_w6, b_w6⟩
    obtain rfl : n_w6 = n_w3 := o_w6.len.symm.trans hlen
    have XB := Lib.hid (XB.out.below b_w6 XB.out.lt)
    have Z := Lib.hid (Z.out.below (b_w6.mono (show w5.heap.size ≤ w5.heap.size by omega)))
    have B_w6 := Lib.hid (B_w5.out.trans (b_w6.mono B_w5.out.size))
    have s_w6 : w5.heap.size ≤ w6.heap.size := b_w6.size
    have X := Lib.hid o_w6
    clear b_w6 o_w6
    have q0 := XB.out.cell 0
    have q1 := XB.out.cell 1
    have q2 := XB.out.cell 2
    have q3 := XB.out.cell 3
    simp at q0 q1 q2 q3
    go_wp2_with fail
    refine (toNode_any _ x1 _ _ B_w6.out.size (HN.out _ B_w6.out)).mono ?_
    rintro e w7 ⟨v_w7, rfl, m_w7, b_w7⟩
    clear q0 q1 q2 q3
    have XB := Lib.hid (XB.out.below b_w7 XB.out.lt)
    have Z := Lib.hid (Z.out.below (b_w7.mono (show w5.heap.size ≤ w6.heap.size by omega)))
    have X := Lib.hid (X.out.below (b_w7.mono (show w6.heap.size ≤ w6.heap.size by omega)))
    have B_w7 := Lib.hid (B_w6.out.trans (b_w7.mono B_w6.out.size))
    have s_w7 : w6.heap.size ≤ w7.heap.size := b_w7.size
    have N := Lib.hid m_w7
    have NB := Lib.hid (fun g (hg : NodeBlk v_w7 g) => m_w7.blk hg)
    clear b_w7 m_w7
    obtain ⟨Ap4, np4, cp4, Ak4, nk4, ck4, rfl, _⟩ := N.out
    obtain ⟨w8, hw_w8⟩ : ∃ W, w7.alloc (.cells #[.int .i64 x1.kind, .slice Ap4 np4 cp4, .slice Ak4 nk4 ck4, .string x1.val] 35) = W := ⟨_, rfl⟩
    have x5 : Box w8 w7.heap.size _ _ := hw_w8 ▸ heap_alloc_new _ _
    have b5 : Below w7.heap.size w7 w8 := hw_w8 ▸ (Below.refl _ _).alloc (Nat.le_refl _) _
    have HW5 := Lib.hid hw_w8
    clear hw_w8
    have XB := Lib.hid (XB.out.below b5 XB.out.lt)
    have Z := Lib.hid (Z.out.below (b5.mono (show w5.heap.size ≤ w7.heap.size by omega)))
    have X := Lib.hid (X.out.below (b5.mono (show w6.heap.size ≤ w7.heap.size by omega)))
    have N := Lib.hid (N.out.below b5)
    have B_w8 := Lib.hid (B_w7.out.trans (b5.mono B_w7.out.size))
    have s_w8 : w7.heap.size ≤ w8.heap.size := b5.size
    have X5 := Lib.hid x5
    clear x5 b5
    go_wp2_with fail
    rw [HW5.out]
    refine (implWithNode_any _ _ _ x0 _ x1 _ w8 hn X.out.cap X.out.nilc M.out (Nat.le_refl _) (X.out.cells.more (show w6.heap.size ≤ w8.heap.size by omega)) N.out.node).mono ?_
    rintro e w9 ⟨AG, nG, cG, l', r', rfl, hl', g5, b_w9⟩
    obtain ⟨rfl, rfl⟩ := hl'.one HL.out
    obtain rfl : l'.length = nG := g5.len
    have XB := Lib.hid (XB.out.below b_w9 XB.out.lt)
    have Z := Lib.hid (Z.out.below (b_w9.mono (show w5.heap.size ≤ w8.heap.size by omega)))
    have X := Lib.hid (X.out.below (b_w9.mono (show w6.heap.size ≤ w8.heap.size by omega)))
    have N := Lib.hid (N.out.below b_w9)
    have X5 := Lib.hid (X5.out.below b_w9 X5.out.lt)
    have B_w9 := Lib.hid (B_w8.out.trans (b_w9.mono B_w8.out.size))
    have s_w9 : w8.heap.size ≤ w9.heap.size := b_w9.size
    have G := Lib.hid g5
    have hrr : (r' != r') = false := by simp
    clear b_w9 g5 hl'
    go_wp2_with fail
    refine (likeC_yes _ _ _ _ _ l' _ _ w9 (by omega) LM.out (show w9.heap.size ≤ w9.heap.size by omega) (show w5.heap.size ≤ w9.heap.size by omega) G.out.cells Z.out.cells).mono ?_
    rintro e w10 ⟨rfl, b_w10⟩
    have XB := Lib.hid (XB.out.below b_w10 XB.out.lt)
    have Z := Lib.hid (Z.out.below (b_w10.mono (show w5.heap.size ≤ w9.heap.size by omega)))
    have X := Lib.hid (X.out.below (b_w10.mono (show w6.heap.size ≤ w9.heap.size by omega)))
    have N := Lib.hid (N.out.below b_w10)
    have X5 := Lib.hid (X5.out.below b_w10 X5.out.lt)
    have G := Lib.hid (G.out.below (b_w10.mono (show w9.heap.size ≤ w9.heap.size by omega)))
    have B_w10 := Lib.hid (B_w9.out.trans (b_w10.mono B_w9.out.size))
    have s_w10 : w9.heap.size ≤ w10.heap.size := b_w10.size
    clear b_w10
    go_wp2_with fail
    refine (copyC_any _ _ _ x0 _ w10 (by omega) (fun i => M.out i) B_w10.out.size (HI.out.below B_w10.out)).mono ?_
    rintro e w11 ⟨A_w11, n_w11, c_w11, rfl, o_w11, b_w11⟩
    obtain rfl : n_w11 = n_w6 := o_w11.len.symm.trans hlen
    have XB := Lib.hid (XB.out.below b_w11 XB.out.lt)
    have Z := Lib.hid (Z.out.below (b_w11.mono (show w5.heap.size ≤ w10.heap.size by omega)))
    have X := Lib.hid (X.out.below (b_w11.mono (show w6.heap.size ≤ w10.heap.size by omega)))
    have N := Lib.hid (N.out.below b_w11)
    have X5 := Lib.hid (X5.out.below b_w11 X5.out.lt)
    have G := Lib.hid (G.out.below (b_w11.mono (show w9.heap.size ≤ w10.heap.size by omega)))
    have B_w11 := Lib.hid (B_w10.out.trans (b_w11.mono B_w10.out.size))
    have s_w11 : w10.heap.size ≤ w11.heap.size := b_w11.size
    have Y := Lib.hid o_w11
    clear b_w11 o_w11
    go_wp2_with fail
    refine (likeC_yes _ _ _ _ _ x0 _ _ w11 hn M.out (show w6.heap.size ≤ w11.heap.size by omega) (show w11.heap.size ≤ w11.heap.size by omega) X.out.cells Y.out.cells).mono ?_
    rintro e w12 ⟨rfl, b_w12⟩
    have XB := Lib.hid (XB.out.below b_w12 XB.out.lt)
    have Z := Lib.hid (Z.out.below (b_w12.mono (show w5.heap.size ≤ w11.heap.size by omega)))
    have X := Lib.hid (X.out.below (b_w12.mono (show w6.heap.size ≤ w11.heap.size by omega)))
    have N := Lib.hid (N.out.below b_w12)
    have X5 := Lib.hid (X5.out.below b_w12 X5.out.lt)
    have G := Lib.hid (G.out.below (b_w12.mono (show w9.heap.size ≤ w11.heap.size by omega)))
    have Y := Lib.hid (Y.out.below (b_w12.mono (show w11.heap.size ≤ w11.heap.size by omega)))
    have B_w12 := Lib.hid (B_w11.out.trans (b_w12.mono B_w11.out.size))
    have s_w12 : w11.heap.size ≤ w12.heap.size := b_w12.size
    clear b_w12
    clear Y
    have q0 := XB.out.cell 0
    have q1 := XB.out.cell 1
    have q2 := XB.out.cell 2
    have q3 := XB.out.cell 3
    simp at q0 q1 q2 q3
    have p0 := X5.out.cell 0
    have p1 := X5.out.cell 1
    have p2 := X5.out.cell 2
    have p3 := X5.out.cell 3
    simp at p0 p1 p2 p3
    go_wp2
    go_region_law (first
      | (go_simp
         refine (toNode_any _ x1 _ _ B_w12.out.drew.size (HN.out _ B_w12.out.drew)).mono ?_
         rintro e w13 ⟨v_w13, rfl, m_w13, b_w13⟩
         have z_w13 : Below w12.heap.size w12 w13 := (below_drewN (Below.refl _ _) 1).trans b_w13
         have x_w13 := X5.out.below z_w13 X5.out.lt
         have r0 := x_w13.cell 0
         have r1 := x_w13.cell 1
         have r2 := x_w13.cell 2
         have r3 := x_w13.cell 3
         simp at r0 r1 r2 r3)
      | (go_simp
         refine (eqNode_yes _ _ x1 _ _ w13 (Nat.le_refl _) (Nat.le_refl _) (N.out.below z_w13).node m_w13.node).mono ?_
         rintro e w14 ⟨rfl, b_w14⟩))
    all_goals
      have b5 : Below w12.heap.size w12 w14 := z_w13.trans (b_w14.mono z_w13.size)
      have XB := Lib.hid (XB.out.below b5 XB.out.lt)
      have Z := Lib.hid (Z.out.below (b5.mono (show w5.heap.size ≤ w12.heap.size by omega)))
      have X := Lib.hid (X.out.below (b5.mono (show w6.heap.size ≤ w12.heap.size by omega)))
      have N := Lib.hid (N.out.below b5)
      have X5 := Lib.hid (X5.out.below b5 X5.out.lt)
      have G := Lib.hid (G.out.below (b5.mono (show w9.heap.size ≤ w12.heap.size by omega)))
      have B_w14 := Lib.hid (B_w12.out.trans (b5.mono B_w12.out.size))
      have s_w14 : w12.heap.size ≤ w14.heap.size := b5.size
      clear b5 q0 q1 q2 q3 p0 p1 p2 p3 r0 r1 r2 r3 x_w13 z_w13 m_w13 b_w13 b_w14
      go_wp2_with fail
      refine (markC_any _ _ _ _ _ x0 1 w14 (by omega) (by omega) X.out).mono ?_
      rintro e w15 ⟨rfl, _, tA⟩
      have B_w15 := Lib.hid (B_w14.out.trans (tA.below B_w14.out.size (fun k hk h => by have := B_w5.out.size; omega)))
      have Z := Lib.hid (Z.out.touch tA (fun b h1 h2 h => by omega))
      have G := Lib.hid (G.out.touch tA (fun b h1 h2 h => by omega))
      have N := Lib.hid (N.out.touch tA (fun g hg h => by have := NB.out g hg; omega))
      have X5 := Lib.hid (show Box w15 w7.heap.size _ _ from (tA.block _ X5.out.lt (fun h => by omega)).trans X5.out)
      have XB := Lib.hid (show Box w15 w.heap.size _ _ from (tA.block _ XB.out.lt (fun h => by have := s1; omega)).trans XB.out)
      have s_w15 : w14.heap.size ≤ w15.heap.size := tA.size
      clear tA X
      have p0 := X5.out.cell 0
      have p1 := X5.out.cell 1
      have p2 := X5.out.cell 2
      have p3 := X5.out.cell 3
      simp at p0 p1 p2 p3
      go_wp2_with fail
      refine (markNode_any _ x1 _ _ w15 (by omega) (by omega) N.out).mono ?_
      rintro e w16 ⟨k1, hk0, hk1, rfl, _, _, tC⟩
      clear p0 p1 p2 p3
      have B_w16 := Lib.hid (B_w15.out.trans (tC.below B_w15.out.size (fun k hk h => by have := NB.out _ h; have := B_w5.out.size; omega)))
      have Z := Lib.hid (Z.out.touch tC (fun b h1 h2 h => by have := NB.out _ h; omega))
      have G := Lib.hid (G.out.touch tC (fun b h1 h2 h => by have := NB.out _ h; omega))
      have XB := Lib.hid (show Box w16 w.heap.size _ _ from (tC.block _ XB.out.lt (fun h => by have := NB.out _ h; have := s1; omega)).trans XB.out)
      have s_w16 : w15.heap.size ≤ w16.heap.size := tC.size
      clear tC N X5
      have hd : decide (k1 < 0) = false := decide_eq_false (by omega)
      go_wp2_with fail
      refine (likeC_yes _ _ _ _ _ l' _ _ w16 (by omega) LM.out (show w9.heap.size ≤ w16.heap.size by omega) (show w5.heap.size ≤ w16.heap.size by omega) G.out.cells Z.out.cells).mono ?_
      rintro e w17 ⟨rfl, b_w17⟩
      have XB := Lib.hid (XB.out.below b_w17 XB.out.lt)
      have Z := Lib.hid (Z.out.below (b_w17.mono (show w5.heap.size ≤ w16.heap.size by omega)))
      have G := Lib.hid (G.out.below (b_w17.mono (show w9.heap.size ≤ w16.heap.size by omega)))
      have B_w17 := Lib.hid (B_w16.out.trans (b_w17.mono B_w16.out.size))
      have s_w17 : w16.heap.size ≤ w17.heap.size := b_w17.size
      clear b_w17
      go_wp2_with fail
      refine (markC_any _ _ _ _ _ l' 1 w17 (by omega) (by omega) G.out).mono ?_
      rintro e w18 ⟨rfl, gB, tB⟩
      have B_w18 := Lib.hid (B_w17.out.trans (tB.below B_w17.out.size (fun k hk h => by have := B_w5.out.size; omega)))
      have Z := Lib.hid (Z.out.touch tB (fun b h1 h2 h => by omega))
      have XB := Lib.hid (show Box w18 w.heap.size _ _ from (tB.block _ XB.out.lt (fun h => by have := s1; omega)).trans XB.out)
      have G := Lib.hid gB
      have s_w18 : w17.heap.size ≤ w18.heap.size := tB.size
      clear tB gB
      have hd2 : decide ((1 : Int) + (szC l' : Int) < 0) = false := decide_eq_false (by omega)
      go_wp2_with fail
      refine (heldC_yes _ _ _ _ l' 1 w18 (by omega) (by omega) G.out.cells).mono ?_
      rintro e w' ⟨rfl, rfl⟩
      have q0 := XB.out.cell 0
      have q1 := XB.out.cell 1
      have q2 := XB.out.cell 2
      have q3 := XB.out.cell 3
      simp at q0 q1 q2 q3
      go_wp2
      go_region_law (first
        | (go_simp
           refine (copyC_any _ _ _ x0 _ _ (by omega) (fun i => M.out i) B_w18.out.drew.size ((HI.out.below B_w18.out).drewN 1)).mono ?_
           rintro e w19 ⟨A_w19, n_w19, c_w19, rfl, o_w19, b_w19⟩
           obtain rfl : n_w19 = n_w11 := o_w19.len.symm.trans hlen
           have z_w19 : Below w18.heap.size w18 w19 := (below_drewN (Below.refl _ _) 1).trans b_w19
           have k_w19 : Below w.heap.size w w19 := B_w18.out.trans (z_w19.mono B_w18.out.size)
           have t_w19 : w18.heap.size ≤ w19.heap.size := b_w19.size
           have x_w19 : Box w19 w.heap.size 26 #[.int .i64 x1.kind, .slice Ap np cp, .slice Ak nk ck, .string x1.val] := XB.out.below z_w19 XB.out.lt
           have r0 := x_w19.cell 0
           have r1 := x_w19.cell 1
           have r2 := x_w19.cell 2
           have r3 := x_w19.cell 3
           simp at r0 r1 r2 r3)
        | (go_simp
           refine (toNode_any _ x1 _ _ k_w19.size (HN.out _ k_w19)).mono ?_
           rintro e w20 ⟨v_w20, rfl, m_w20, b_w20⟩
           have k_w20 : Below w.heap.size w w20 := k_w19.trans (b_w20.mono k_w19.size)
           have t_w20 : w19.heap.size ≤ w20.heap.size := b_w20.size)
        | (go_simp
           refine (implWithNode_any _ _ _ x0 _ x1 _ w20 hn o_w19.cap o_w19.nilc M.out (Nat.le_refl _) ((o_w19.below b_w20).cells.more t_w20) m_w20.node).mono ?_
           rintro e w21 ⟨AH, nH, cH, l, r, rfl, hl', z5, b_w21⟩))
      all_goals
        have b5 : Below w18.heap.size w18 w21 := (z_w19.trans (b_w20.mono t_w19)).trans (b_w21.mono (Nat.le_trans t_w19 t_w20))
        obtain ⟨rfl, rfl⟩ := hl'.one HL.out
        obtain rfl : l.length = nH := z5.len
        have XB := Lib.hid (XB.out.below b5 XB.out.lt)
        have Z := Lib.hid (Z.out.below (b5.mono (show w5.heap.size ≤ w18.heap.size by omega)))
        have G := Lib.hid (G.out.below (b5.mono (show w9.heap.size ≤ w18.heap.size by omega)))
        have B_w21 := Lib.hid (B_w18.out.trans (b5.mono B_w18.out.size))
        have s_w21 : w18.heap.size ≤ w21.heap.size := b5.size
        have H := Lib.hid z5
        clear b5 hl' z5  q0 q1 q2 q3 r0 r1 r2 r3 x_w19 z_w19 k_w19 k_w20 o_w19 m_w20 b_w19 b_w20 b_w21
        go_wp2_with fail
        refine (likeC_yes _ _ _ _ _ l _ _ w21 (by omega) LM.out (show w21.heap.size ≤ w21.heap.size by omega) (show w5.heap.size ≤ w21.heap.size by omega) H.out.cells Z.out.cells).mono ?_
        rintro e w22 ⟨rfl, b_w22⟩
        have XB := Lib.hid (XB.out.below b_w22 XB.out.lt)
        have Z := Lib.hid (Z.out.below (b_w22.mono (show w5.heap.size ≤ w21.heap.size by omega)))
        have G := Lib.hid (G.out.below (b_w22.mono (show w9.heap.size ≤ w21.heap.size by omega)))
        have H := Lib.hid (H.out.below (b_w22.mono (show w21.heap.size ≤ w21.heap.size by omega)))
        have B_w22 := Lib.hid (B_w21.out.trans (b_w22.mono B_w21.out.size))
        have s_w22 : w21.heap.size ≤ w22.heap.size := b_w22.size
        clear b_w22
        go_wp2_with fail
        refine (heldC_yes _ _ _ _ l 1 w22 (by omega) (by omega) G.out.cells).mono ?_
        rintro e w' ⟨rfl, rfl⟩
        go_wp2
        go_ret
        exact ⟨rfl, B_w22.out⟩

/-! ### THE ROW's STEP -/
set_option maxRecDepth 100000 in
theorem lifted (os : Os) (started : os.Started) (H : Type) (enc : TypeId × Value → H) :
    ReturnsInHanded {} Try.checked os 3 .any (Rows.fnExactWithNodeSpec.pre6 enc Try.prog Try.f3 Rows.fnExactWithNodeRow.domain false) (Rows.fnExactWithNodeSpec.post enc Try.prog Try.f3 false true false false) := by
  refine returnsInHanded_of_change (C := Try.checked) own started (by kernel_rfl) Try.func3
    (ChangeSpec.witness6 (enc := enc) (C := Try.checked) false ⟨#[], #[.slice none 0 0, .agg #[.int .i64 0, .slice none 0 0, .slice none 0 0, .string ⟨#[]⟩]], []⟩ 8 (by kernel_rfl) (by kernel_rfl) (by kernel_rfl) (by kernel_rfl)) ?_
  intro W base args ds gs before hval0 hW hcnd _
  have hval : ∀ (j : Nat) t v, Try.f3.params[j]? = some t → args[j]? = some v → Value.okWide Try.prog W .any base t v := hval0
  have hW' := hW
  obtain ⟨p, q, hA0, hV, rfl, hfz, hnd⟩ := hW
  have hA : DataW.TrodAll enc Try.prog W 0 (fun _ => true) true Try.f3.params.toList args.toList ds p := hA0
  rw [Try.params3] at hA hval
  obtain ⟨v0, vs0, d0, ds0, p0, q0, hargs, rfl, rfl, h0, r0⟩ := trodAll_cons hA
  obtain ⟨v1, vs1, d1, ds1, p1, q1, rfl, rfl, rfl, h1, r1⟩ := trodAll_cons r0
  obtain ⟨rfl, rfl, rfl⟩ := trodAll_nil r1
  obtain rfl : args = #[v0, v1] := by cases args; simp_all
  obtain ⟨rfl, rfl⟩ := trodVars_none hV
  have k0 := h0
  have lt0 : ∀ x ∈ p0, x.block < W.heap.size := by obtain ⟨m, hm⟩ := k0; exact DataW.trod_lt m _ _ _ hm
  obtain ⟨a0, len0, cap0, rfl⟩ := okWide_slice Try.underlying22 (hval 0 22 v0 rfl rfl)
  obtain ⟨x0, w0⟩ := open_cells (hval 0 22 _ rfl rfl) h0 ⟨_, _, _, rfl⟩
  have k1 := h1
  have lt1 : ∀ x ∈ p1, x.block < W.heap.size := by obtain ⟨m, hm⟩ := k1; exact DataW.trod_lt m _ _ _ hm
  obtain ⟨x1, w1⟩ := open_node (hval 1 26 v1 rfl rfl) h1
  clear hA0 hval0
  refine (walk (.slice a0 len0 cap0) x0 v1 x1 W w0 w1).mono fun e W' ⟨he, bel⟩ => ?_
  subst he
  exact ⟨_, rfl, _, _, _, [], _, [], hW', trodAll_mk1 (shut_bool Try.underlying4 _), (trodAll_cons_mk (Below.trod laidOut (by kernel_rfl) (of_decide_eq_true (by kernel_rfl)) k0 bel lt0) (trodAll_cons_mk (Below.trod laidOut (by kernel_rfl) (of_decide_eq_true (by kernel_rfl)) k1 bel lt1) trodAll_mk0)), rfl, bel.frame _, fun h => by cases h⟩

theorem over : Rows.fnExactWithNodeRow.holds Try.pinned (OpenSpec.ofChange Rows.fnExactWithNodeSpec) :=
  OpenClaim.holds_of_wide 3 Try.f3 rfl rfl rfl rfl rfl rfl rfl ⟨rfl, rfl, rfl, rfl, rfl⟩ rfl rfl rfl rfl rfl (by kernel_rfl) Try.func3 (by kernel_rfl)
    (of_decide_eq_true (by kernel_rfl)) (by unfold Func.isWrapper; first | (rw [if_pos (by decide +kernel)]; kernel_rfl) | (rw [if_neg (by decide +kernel)]; exact ⟨rfl, rfl⟩))
    (fun os started H enc _ => lifted os started H enc)

/-- THE STATEMENT -/
theorem proved : Rows.FnExactWithNodeSaid := over
#print axioms proved
end Go.Proofs.Ytdhnhgppapkikaa.fnExactWithNode
