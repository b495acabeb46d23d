/- At all cells and all roots that can be given, the law that holds ReachOf to its model answers true. -/
import Derived.Test.YtopaobjpcafjlaaRows
import Derived.Test.YtopaobjpcafjlaaPkF
import Derived.WalkKit
import Derived.ProofKit
import Derived.OpenShut
import Derived.ShutString
import Derived.ChangeOld
import Derived.Below
import Derived.WalkSmall
import Derived.Deep.RegionHeld3
import Derived.Outline
namespace Go.Proofs.Ytopaobjpcafjlaa.fnExactReachOf
set_option maxRecDepth 20000
set_option linter.unusedSimpArgs false
open Go.ChangeShapes Go.WideShapes Go.ChangeAt Go.RowKit
open Go.ChangeMaps (open_string shut_string)
set_option linter.unusedVariables false

theorem own : ownKnob Try.prog.godebug = none := by kernel_rfl
theorem laidOut : laidOutB Try.prog = true := by kernel_rfl

set_option maxHeartbeats 1600000 in
theorem walk (v0 : Value) (x0 : List (Int × List Int)) (a1 : Option Addr) (len1 cap1 : Nat) (z1 : List Int) (w : World) (w0 : CellsArg w v0 x0) (w1 : IsRow .i64 w a1 len1 cap1 z1) :
    Calls Try.prog 3 #[v0, .slice a1 len1 cap1] w fun e w' => e = .returned (.bool true) ∧ Below w.heap.size w w' := by
  obtain ⟨A, n, c, rfl, hn, hI, hm⟩ := w0
  have HL1 := w1.len_le
  have HJ := Lib.hid w1.ints
  have HI := Lib.hid hI
  have hlen := hI.1
  clear hI w1
  by_cases hbig1 : 1048576 < len1
  · go_enter Try.func3, Try.ntmps3
    go_wp2
    go_ret
    exact ⟨rfl, Below.refl _ _⟩
  generalize z1.take len1 = rs at HJ
  have hn1 : len1 ≤ 1048576 := by omega
  have hlr := HJ.out.1
  go_enter Try.func3, Try.ntmps3
  go_wp2_with fail
  refine (szCells_any A n c x0 w hn hm HI.out).mono ?_
  rintro e w1 ⟨rfl, b1⟩
  have B1 := Lib.hid b1
  clear b1 hbig1
  by_cases hs : szC x0 ≤ 1048576
  case neg =>
    rw [show leftOf 1048576 (szC x0) = -1 from if_neg hs]
    go_wp2
    go_ret
    exact ⟨rfl, B1.out⟩
  rw [show leftOf 1048576 (szC x0) = ((1048576 - szC x0 : Nat) : Int) from if_pos hs]
  have hm := cel_bd x0 hs
  have hn : n ≤ 1048576 := by have := szC_len x0; omega
  have hd : decide ((((1048576 - szC x0 : Nat) : Int)) < 0) = false := decide_eq_false (by omega)
  have M := Lib.hid hm
  clear hm
  go_wp2_with fail
  refine (copyC_any _ _ _ x0 _ w1 (by omega) (fun i => M.out i) B1.out.size (HI.out.below B1.out)).mono ?_
  rintro e w2 ⟨A2, n2, c2, rfl, o2, b2⟩
  obtain rfl : n2 = n := o2.len.symm.trans hlen
  have B2 := Lib.hid (B1.out.trans (b2.mono B1.out.size))
  have O2 := Lib.hid o2
  have s2 : w1.heap.size ≤ w2.heap.size := b2.size
  clear b2 o2 hd
  go_wp2_with fail
  refine (copyI_any _ _ _ rs _ w2 (by omega) B2.out.size (HJ.out.below B2.out)).mono ?_
  rintro e w2' ⟨I2, m2, d2, rfl, i2, b2⟩
  obtain rfl : m2 = len1 := i2.len.symm.trans hlr
  have B2 := Lib.hid (B2.out.trans (b2.mono B2.out.size))
  have O2 := Lib.hid (O2.out.below b2)
  have J2 := Lib.hid i2
  have s2' : w2.heap.size ≤ w2'.heap.size := b2.size
  clear b2 i2
  -- the model's answer
  go_wp2_with fail
  refine (specReachOf_any _ _ _ x0 _ _ _ rs _ w2' hn hn1 M.out J2.out.nilc (Nat.le_refl _) (O2.out.cells.more s2') J2.out.ints).mono ?_
  rintro e w3 ⟨A3, n3, c3, l, r, rfl, hl, z3, b3⟩
  have hlb := reach_bd hl
  obtain rfl : l.length = n3 := z3.len
  have HL := Lib.hid hl
  have ZB := Lib.hid (fun g (hg : (Value.slice A3 l.length c3).ownBlock = some g) => (World.ownsRow.lt z3 g hg).2)
  have Z := Lib.hid z3
  have B3 := Lib.hid (B2.out.trans (b3.mono B2.out.size))
  have s3 : w2'.heap.size ≤ w3.heap.size := b3.size
  clear b3 hl z3 O2 J2
  -- the arguments, and the program's answer
  go_wp2_with fail
  refine (copyC_any _ _ _ x0 _ w3 (by omega) (fun i => M.out i) B3.out.size (HI.out.below B3.out)).mono ?_
  rintro e w4 ⟨A4, n4, c4, rfl, o4, b4⟩
  obtain rfl : n4 = n2 := o4.len.symm.trans hlen
  have B4 := Lib.hid (B3.out.trans (b4.mono B3.out.size))
  have X := Lib.hid o4
  have Z := Lib.hid (Z.out.below b4)
  have s4 : w3.heap.size ≤ w4.heap.size := b4.size
  clear b4 o4
  go_wp2_with fail
  refine (copyI_any _ _ _ rs _ w4 (by omega) B4.out.size (HJ.out.below B4.out)).mono ?_
  rintro e w4' ⟨I4, m4, d4, rfl, i4, b4⟩
  obtain rfl : m4 = m2 := i4.len.symm.trans hlr
  have B4 := Lib.hid (B4.out.trans (b4.mono B4.out.size))
  have X := Lib.hid (X.out.below b4)
  have Z := Lib.hid (Z.out.below b4)
  have JB := Lib.hid (fun g (hg : (Value.slice I4 m4 d4).ownBlock = some g) => World.ownsRow.lt i4 g hg)
  have J := Lib.hid i4
  have s4' : w4.heap.size ≤ w4'.heap.size := b4.size
  clear b4 i4
  go_wp2_with fail
  refine (implReachOf_any _ _ _ x0 _ _ _ rs _ w4' hn X.out.cap X.out.nilc hn1 J.out.cap_ J.out.nilc M.out (Nat.le_refl _) (X.out.cells.more s4') J.out.ints).mono ?_
  rintro e w5 ⟨A5, n5, c5, l', r', rfl, hl', g5, b5⟩
  obtain ⟨rfl, rfl⟩ := hl'.one HL.out
  obtain rfl : l'.length = n5 := g5.len
  have B5 := Lib.hid (B4.out.trans (b5.mono B4.out.size))
  have X := Lib.hid (X.out.below (b5.mono s4'))
  have Z := Lib.hid (Z.out.below b5)
  have J := Lib.hid (J.out.below b5)
  have GB := Lib.hid (fun g (hg : (Value.slice A5 l'.length c5).ownBlock = some g) => World.ownsRow.lt g5 g hg)
  have G := Lib.hid g5
  have s5 : w4'.heap.size ≤ w5.heap.size := b5.size
  have hrr : (r' != r') = false := by simp
  clear b5 g5 hl'
  go_wp2_with fail
  refine (likeI_yes _ _ _ _ _ l' _ _ w5 (by omega) G.out.ints Z.out.ints).mono ?_
  rintro e w6 ⟨rfl, h6⟩
  have b6 : Below w5.heap.size w5 w6 := by obtain ⟨q, rfl⟩ := h6; exact below_drewN (Below.refl _ _) q
  have B6 := Lib.hid (B5.out.trans (b6.mono B5.out.size))
  have X := Lib.hid (X.out.below (b6.mono (show w4.heap.size ≤ w5.heap.size by omega)))
  have Z := Lib.hid (Z.out.below b6)
  have J := Lib.hid (J.out.below b6)
  have G := Lib.hid (G.out.below b6)
  have s6 : w5.heap.size ≤ w6.heap.size := b6.size
  clear b6 h6
  go_wp2_with fail
  refine (copyC_any _ _ _ x0 _ w6 (by omega) (fun i => M.out i) B6.out.size (HI.out.below B6.out)).mono ?_
  rintro e w7 ⟨A7, n7, c7, rfl, o7, b7⟩
  obtain rfl : n7 = n4 := o7.len.symm.trans hlen
  have B7 := Lib.hid (B6.out.trans (b7.mono B6.out.size))
  have Y := Lib.hid o7
  have X := Lib.hid (X.out.below (b7.mono (show w4.heap.size ≤ w6.heap.size by omega)))
  have Z := Lib.hid (Z.out.below b7)
  have J := Lib.hid (J.out.below b7)
  have G := Lib.hid (G.out.below b7)
  have s7 : w6.heap.size ≤ w7.heap.size := b7.size
  clear b7 o7
  go_wp2_with fail
  refine (likeC_yes _ _ _ _ _ x0 _ _ w7 hn M.out (show w4.heap.size ≤ w7.heap.size by omega) (Nat.le_refl _) X.out.cells Y.out.cells).mono ?_
  rintro e w8 ⟨rfl, b8⟩
  have B8 := Lib.hid (B7.out.trans (b8.mono B7.out.size))
  have X := Lib.hid (X.out.below (b8.mono (show w4.heap.size ≤ w7.heap.size by omega)))
  have Z := Lib.hid (Z.out.below b8)
  have J := Lib.hid (J.out.below b8)
  have G := Lib.hid (G.out.below b8)
  have s8 : w7.heap.size ≤ w8.heap.size := b8.size
  clear b8 Y
  go_wp2_with fail
  refine (copyI_any _ _ _ rs _ w8 (by omega) B8.out.size (HJ.out.below B8.out)).mono ?_
  rintro e w8' ⟨I8, m8, d8, rfl, i8, b8⟩
  obtain rfl : m8 = m4 := i8.len.symm.trans hlr
  have B8 := Lib.hid (B8.out.trans (b8.mono B8.out.size))
  have X := Lib.hid (X.out.below (b8.mono (show w4.heap.size ≤ w8.heap.size by omega)))
  have Z := Lib.hid (Z.out.below b8)
  have J := Lib.hid (J.out.below b8)
  have G := Lib.hid (G.out.below b8)
  have Y := Lib.hid i8
  have s8' : w8.heap.size ≤ w8'.heap.size := b8.size
  clear b8 i8
  go_wp2_with fail
  refine (likeI_yes _ _ _ _ _ rs _ _ w8' (by omega) J.out.ints Y.out.ints).mono ?_
  rintro e w9 ⟨rfl, h9⟩
  have b9 : Below w8'.heap.size w8' w9 := by obtain ⟨q, rfl⟩ := h9; exact below_drewN (Below.refl _ _) q
  have B9 := Lib.hid (B8.out.trans (b9.mono B8.out.size))
  have X := Lib.hid (X.out.below (b9.mono (show w4.heap.size ≤ w8'.heap.size by omega)))
  have Z := Lib.hid (Z.out.below b9)
  have J := Lib.hid (J.out.below b9)
  have G := Lib.hid (G.out.below b9)
  have s9 : w8'.heap.size ≤ w9.heap.size := b9.size
  clear b9 h9 Y
  -- the arguments are marked
  go_wp2_with fail
  refine (markC_any _ _ _ _ _ x0 1 w9 (by omega) (by omega) X.out).mono ?_
  rintro e wA ⟨rfl, _, tA⟩
  have BA := Lib.hid (B9.out.trans (tA.below B9.out.size (fun k hk h => by have := B3.out.size; omega)))
  have Z := Lib.hid (Z.out.touch tA (fun b h1 h => by have := ZB.out b h1; omega))
  have J := Lib.hid (J.out.touch tA (fun b h1 h => by have := JB.out b h1; omega))
  have G := Lib.hid (G.out.touch tA (fun b h1 h => by have := GB.out b h1; omega))
  have sA : w9.heap.size ≤ wA.heap.size := tA.size
  clear tA X
  go_wp2_with fail
  refine (markI_any _ _ _ _ rs _ wA (by omega) (by omega) J.out).mono ?_
  rintro e wB ⟨rfl, _, gB⟩
  have tB := Touch.of_grown gB
  have BB := Lib.hid (BA.out.trans (tB.below BA.out.size (fun k hk h => by have := JB.out k h.symm; have := B4.out.size; have := B3.out.size; omega)))
  have Z := Lib.hid (Z.out.touch tB (fun b h1 h => by have := ZB.out b h1; have := JB.out b h.symm; omega))
  have G := Lib.hid (G.out.touch tB (fun b h1 h => by have := GB.out b h1; have := JB.out b h.symm; omega))
  have sB : wA.heap.size ≤ wB.heap.size := gB.size
  have hd : decide ((1 : Int) + (szC x0 : Int) + (m8 : Int) < 0) = false := decide_eq_false (by omega)
  clear tB gB J
  go_wp2_with fail
  refine (likeI_yes _ _ _ _ _ l' _ _ wB (by omega) G.out.ints Z.out.ints).mono ?_
  rintro e wC ⟨rfl, hC⟩
  have bC : Below wB.heap.size wB wC := by obtain ⟨q, rfl⟩ := hC; exact below_drewN (Below.refl _ _) q
  have BC := Lib.hid (BB.out.trans (bC.mono BB.out.size))
  have Z := Lib.hid (Z.out.below bC)
  have G := Lib.hid (G.out.below bC)
  have sC : wB.heap.size ≤ wC.heap.size := bC.size
  clear bC hC
  -- the answer is marked, and held against the marks
  go_wp2_with fail
  refine (markI_any _ _ _ _ l' 1 wC (by omega) (by omega) G.out).mono ?_
  rintro e wD ⟨rfl, gD, gE⟩
  have tD := Touch.of_grown gE
  have BD := Lib.hid (BC.out.trans (tD.below BC.out.size (fun k hk h => by have := GB.out k h.symm; have := B4.out.size; have := B3.out.size; omega)))
  have Z := Lib.hid (Z.out.touch tD (fun b h1 h => by have := ZB.out b h1; have := GB.out b h.symm; omega))
  have G := Lib.hid gD
  have sD : wC.heap.size ≤ wD.heap.size := gE.size
  clear tD gD gE
  have hd2 : decide ((1 : Int) + (l'.length : Int) < 0) = false := decide_eq_false (by omega)
  go_wp2_with fail
  refine (heldI_yes _ _ _ _ 1 wD (by omega) (by omega) G.out.ints).mono ?_
  rintro e w' ⟨rfl, rfl⟩
  go_wp2_with fail
  refine (copyC_any _ _ _ x0 _ wD (by omega) (fun i => M.out i) BD.out.size (HI.out.below BD.out)).mono ?_
  rintro e wE ⟨AE, nE, cE, rfl, oE, bE⟩
  obtain rfl : nE = n7 := oE.len.symm.trans hlen
  have BE := Lib.hid (BD.out.trans (bE.mono BD.out.size))
  have Y := Lib.hid oE
  have Z := Lib.hid (Z.out.below bE)
  have G := Lib.hid (G.out.below bE)
  have sE : wD.heap.size ≤ wE.heap.size := bE.size
  clear bE oE
  go_wp2_with fail
  refine (copyI_any _ _ _ rs _ wE (by omega) BE.out.size (HJ.out.below BE.out)).mono ?_
  rintro e wE' ⟨IE, mE, dE, rfl, iE, bE⟩
  obtain rfl : mE = m8 := iE.len.symm.trans hlr
  have BE := Lib.hid (BE.out.trans (bE.mono BE.out.size))
  have Y := Lib.hid (Y.out.below bE)
  have Z := Lib.hid (Z.out.below bE)
  have G := Lib.hid (G.out.below bE)
  have J := Lib.hid iE
  have sE' : wE.heap.size ≤ wE'.heap.size := bE.size
  clear bE iE
  go_wp2_with fail
  refine (implReachOf_any _ _ _ x0 _ _ _ rs _ wE' hn Y.out.cap Y.out.nilc hn1 J.out.cap_ J.out.nilc M.out (Nat.le_refl _) (Y.out.cells.more sE') J.out.ints).mono ?_
  rintro e wF ⟨AF, nF, cF, l, r, rfl, hl', hF, bF⟩
  obtain ⟨rfl, rfl⟩ := hl'.one HL.out
  obtain rfl : l.length = nF := hF.len
  have BF := Lib.hid (BE.out.trans (bF.mono BE.out.size))
  have Z := Lib.hid (Z.out.below bF)
  have G := Lib.hid (G.out.below bF)
  have H := Lib.hid hF
  clear bF hF hl' Y J
  go_wp2_with fail
  refine (likeI_yes _ _ _ _ _ l _ _ wF (by omega) H.out.ints Z.out.ints).mono ?_
  rintro e wG ⟨rfl, hG⟩
  have bG : Below wF.heap.size wF wG := by obtain ⟨q, rfl⟩ := hG; exact below_drewN (Below.refl _ _) q
  have BG := Lib.hid (BF.out.trans (bG.mono BF.out.size))
  have G := Lib.hid (G.out.below bG)
  clear bG hG H Z
  go_wp2_with fail
  refine (heldI_yes _ _ _ _ 1 wG (by omega) (by omega) G.out.ints).mono ?_
  rintro e w' ⟨rfl, rfl⟩
  go_wp2
  go_ret
  exact ⟨rfl, BG.out⟩

/-! ### THE ROW's STEP -/
set_option maxRecDepth 100000 in
theorem lifted (os : Os) (started : os.Started) (H : Type) (enc : TypeId × Value → H) :
    ReturnsInHanded {} Try.checked os 3 .any (Rows.fnExactReachOfSpec.pre6 enc Try.prog Try.f3 Rows.fnExactReachOfRow.domain false) (Rows.fnExactReachOfSpec.post enc Try.prog Try.f3 false true false false) := by
  refine returnsInHanded_of_change (C := Try.checked) own started (by kernel_rfl) Try.func3
    (ChangeSpec.witness6 (enc := enc) (C := Try.checked) false ⟨#[], #[.slice none 0 0, .slice none 0 0], []⟩ 8 (by kernel_rfl) (by kernel_rfl) (by kernel_rfl) (by kernel_rfl)) ?_
  intro W base args ds gs before hval0 hW hcnd _
  have hval : ∀ (j : Nat) t v, Try.f3.params[j]? = some t → args[j]? = some v → Value.okWide Try.prog W .any base t v := hval0
  have hW' := hW
  obtain ⟨p, q, hA0, hV, rfl, hfz, hnd⟩ := hW
  have hA : DataW.TrodAll enc Try.prog W 0 (fun _ => true) true Try.f3.params.toList args.toList ds p := hA0
  rw [Try.params3] at hA hval
  obtain ⟨v0, vs0, d0, ds0, p0, q0, hargs, rfl, rfl, h0, r0⟩ := trodAll_cons hA
  obtain ⟨v1, vs1, d1, ds1, p1, q1, rfl, rfl, rfl, h1, r1⟩ := trodAll_cons r0
  obtain ⟨rfl, rfl, rfl⟩ := trodAll_nil r1
  obtain rfl : args = #[v0, v1] := by cases args; simp_all
  obtain ⟨rfl, rfl⟩ := trodVars_none hV
  have k0 := h0
  have lt0 : ∀ x ∈ p0, x.block < W.heap.size := by obtain ⟨m, hm⟩ := k0; exact DataW.trod_lt m _ _ _ hm
  obtain ⟨a0, len0, cap0, rfl⟩ := okWide_slice Try.underlying22 (hval 0 22 v0 rfl rfl)
  obtain ⟨x0, w0⟩ := open_cells (hval 0 22 _ rfl rfl) h0 ⟨_, _, _, rfl⟩
  have k1 := h1
  have lt1 : ∀ x ∈ p1, x.block < W.heap.size := by obtain ⟨m, hm⟩ := k1; exact DataW.trod_lt m _ _ _ hm
  obtain ⟨a1, len1, cap1, rfl⟩ := okWide_slice Try.underlying23 (hval 1 23 v1 rfl rfl)
  obtain ⟨z1, w1⟩ : ∃ zs, IsRow .i64 W a1 len1 cap1 zs := by
    obtain ⟨fuel, hf⟩ := h1
    obtain ⟨a, l, c, zs, e, hr⟩ := row_of_trod Try.underlying23 Try.underlying2 (by kernel_rfl) (by simpa [Value.cells] using hf)
    cases e
    exact ⟨zs, hr⟩
  clear hA0 hval0
  refine (walk (.slice a0 len0 cap0) x0 a1 len1 cap1 z1 W w0 w1).mono fun e W' ⟨he, bel⟩ => ?_
  subst he
  exact ⟨_, rfl, _, _, _, [], _, [], hW', trodAll_mk1 (shut_bool Try.underlying4 _), (trodAll_cons_mk (Below.trod laidOut (by kernel_rfl) (of_decide_eq_true (by kernel_rfl)) k0 bel lt0) (trodAll_cons_mk (Below.trod laidOut (by kernel_rfl) (of_decide_eq_true (by kernel_rfl)) k1 bel lt1) trodAll_mk0)), rfl, bel.frame _, fun h => by cases h⟩

theorem over : Rows.fnExactReachOfRow.holds Try.pinned (OpenSpec.ofChange Rows.fnExactReachOfSpec) :=
  OpenClaim.holds_of_wide 3 Try.f3 rfl rfl rfl rfl rfl rfl rfl ⟨rfl, rfl, rfl, rfl, rfl⟩ rfl rfl rfl rfl rfl (by kernel_rfl) Try.func3 (by kernel_rfl)
    (of_decide_eq_true (by kernel_rfl)) (by unfold Func.isWrapper; first | (rw [if_pos (by decide +kernel)]; kernel_rfl) | (rw [if_neg (by decide +kernel)]; exact ⟨rfl, rfl⟩))
    (fun os started H enc _ => lifted os started H enc)

/-- THE STATEMENT -/
theorem proved : Rows.FnExactReachOfSaid := over
#print axioms proved
end Go.Proofs.Ytopaobjpcafjlaa.fnExactReachOf
