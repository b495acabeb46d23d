/- At all cells and all names that can be given, the law that holds Without to its model answers true. -/
import Derived.Test.YtpgmiokdlloinaaRows
import Derived.Test.YtpgmiokdlloinaaPkI
import Derived.WalkKit
import Derived.ProofKit
import Derived.OpenShut
import Derived.ShutString
import Derived.ChangeOld
import Derived.Below
import Derived.WalkSmall
import Derived.Deep.RegionHeld3
import Derived.Outline
namespace Go.Proofs.Ytpgmiokdlloinaa.fnExactWithout
set_option maxRecDepth 20000
set_option linter.unusedSimpArgs false
open Go.ChangeShapes Go.WideShapes Go.ChangeAt Go.RowKit
open Go.ChangeMaps (open_string shut_string)
set_option linter.unusedVariables false

theorem own : ownKnob Try.prog.godebug = none := by kernel_rfl
theorem laidOut : laidOutB Try.prog = true := by kernel_rfl

set_option maxHeartbeats 1600000 in
theorem walk (v0 : Value) (x0 : List (Int × List Int)) (a1 : Int) (w : World) (w0 : CellsArg w v0 x0) (w1 : (Lit.int .i64 a1).wf = true) :
    Calls Try.prog 6 #[v0, .int .i64 a1] w fun e w' => e = .returned (.bool true) ∧ Below w.heap.size w w' := by
  obtain ⟨A, n, c, rfl, hn, hI, hm⟩ := w0
  clear w1
  have HI := Lib.hid hI
  have hlen := hI.1
  clear hI
  go_enter Try.func6, Try.ntmps6
  go_wp2_with fail
  refine (szCells_any A n c x0 w hn hm HI.out).mono ?_
  rintro e w1 ⟨rfl, b1⟩
  have B1 := Lib.hid b1
  clear b1
  by_cases hs : szC x0 ≤ 1048576
  case neg =>
    rw [show leftOf 1048576 (szC x0) = -1 from if_neg hs]
    go_wp2
    go_ret
    exact ⟨rfl, B1.out⟩
  rw [show leftOf 1048576 (szC x0) = ((1048576 - szC x0 : Nat) : Int) from if_pos hs]
  have hm := cel_bd x0 hs
  have hn : n ≤ 1048576 := by have := szC_len x0; omega
  have hd : decide ((((1048576 - szC x0 : Nat) : Int)) < 0) = false := decide_eq_false (by omega)
  have M := Lib.hid hm
  clear hm
  go_wp2_with fail
  refine (copyC_any _ _ _ x0 _ w1 (by omega) (fun i => M.out i) B1.out.size (HI.out.below B1.out)).mono ?_
  rintro e w2 ⟨A2, n2, c2, rfl, o2, b2⟩
  obtain rfl : n2 = n := o2.len.symm.trans hlen
  have B2 := Lib.hid (B1.out.trans (b2.mono B1.out.size))
  have O2 := Lib.hid o2
  clear b2 o2 hd
  -- the model's answer
  go_wp2_with fail
  refine (specWithout_any _ _ _ x0 a1 _ w2 hn M.out (Nat.le_refl _) O2.out.cells).mono ?_
  rintro e w3 ⟨A3, n3, c3, l, r, rfl, hl, z3, b3⟩
  have hlb := less_bd hl hs
  have hlm := cel_bd l hlb
  have LM := Lib.hid hlm
  obtain rfl : l.length = n3 := z3.len
  have hln : l.length ≤ 1048576 := by have := szC_len l; omega
  have HL := Lib.hid hl
  have Z := Lib.hid z3
  have B3 := Lib.hid (B2.out.trans (b3.mono B2.out.size))
  have s3 : w2.heap.size ≤ w3.heap.size := b3.size
  clear b3 hl z3 hlm O2
  -- the argument, and the program's answer
  go_wp2_with fail
  refine (copyC_any _ _ _ x0 _ w3 (by omega) (fun i => M.out i) B3.out.size (HI.out.below B3.out)).mono ?_
  rintro e w4 ⟨A4, n4, c4, rfl, o4, b4⟩
  obtain rfl : n4 = n2 := o4.len.symm.trans hlen
  have B4 := Lib.hid (B3.out.trans (b4.mono B3.out.size))
  have X := Lib.hid o4
  have Z := Lib.hid (Z.out.below b4)
  have s4 : w3.heap.size ≤ w4.heap.size := b4.size
  clear b4 o4
  go_wp2_with fail
  refine (implWithout_any _ _ _ x0 a1 _ w4 hn X.out.cap X.out.nilc M.out (Nat.le_refl _) X.out.cells).mono ?_
  rintro e w5 ⟨A5, n5, c5, l', r', rfl, hl', g5, b5⟩
  obtain ⟨rfl, rfl⟩ := hl'.one HL.out
  obtain rfl : l'.length = n5 := g5.len
  have B5 := Lib.hid (B4.out.trans (b5.mono B4.out.size))
  have X := Lib.hid (X.out.below b5)
  have Z := Lib.hid (Z.out.below (b5.mono s4))
  have G := Lib.hid g5
  have s5 : w4.heap.size ≤ w5.heap.size := b5.size
  have hrr : (r' != r') = false := by simp
  clear b5 g5 hl'
  go_wp2_with fail
  refine (likeC_yes _ _ _ _ _ l' _ _ w5 hln LM.out (Nat.le_refl _) (show w3.heap.size ≤ w5.heap.size by omega) G.out.cells Z.out.cells).mono ?_
  rintro e w6 ⟨rfl, b6⟩
  have B6 := Lib.hid (B5.out.trans (b6.mono B5.out.size))
  have X := Lib.hid (X.out.below (b6.mono s5))
  have Z := Lib.hid (Z.out.below (b6.mono (show w3.heap.size ≤ w5.heap.size by omega)))
  have G := Lib.hid (G.out.below b6)
  have s6 : w5.heap.size ≤ w6.heap.size := b6.size
  clear b6
  go_wp2_with fail
  refine (copyC_any _ _ _ x0 _ w6 (by omega) (fun i => M.out i) B6.out.size (HI.out.below B6.out)).mono ?_
  rintro e w7 ⟨A7, n7, c7, rfl, o7, b7⟩
  obtain rfl : n7 = n4 := o7.len.symm.trans hlen
  have B7 := Lib.hid (B6.out.trans (b7.mono B6.out.size))
  have Y := Lib.hid o7
  have X := Lib.hid (X.out.below (b7.mono (show w4.heap.size ≤ w6.heap.size by omega)))
  have Z := Lib.hid (Z.out.below (b7.mono (show w3.heap.size ≤ w6.heap.size by omega)))
  have G := Lib.hid (G.out.below (b7.mono s6))
  have s7 : w6.heap.size ≤ w7.heap.size := b7.size
  clear b7 o7
  go_wp2_with fail
  refine (likeC_yes _ _ _ _ _ x0 _ _ w7 hn M.out (show w4.heap.size ≤ w7.heap.size by omega) (Nat.le_refl _) X.out.cells Y.out.cells).mono ?_
  rintro e w8 ⟨rfl, b8⟩
  have B8 := Lib.hid (B7.out.trans (b8.mono B7.out.size))
  have X := Lib.hid (X.out.below (b8.mono (show w4.heap.size ≤ w7.heap.size by omega)))
  have Z := Lib.hid (Z.out.below (b8.mono (show w3.heap.size ≤ w7.heap.size by omega)))
  have G := Lib.hid (G.out.below (b8.mono (show w5.heap.size ≤ w7.heap.size by omega)))
  have s8 : w7.heap.size ≤ w8.heap.size := b8.size
  clear b8 Y
  -- the argument is marked
  go_wp2_with fail
  refine (markC_any _ _ _ _ _ x0 1 w8 (by omega) (by omega) X.out).mono ?_
  rintro e w9 ⟨rfl, _, t9⟩
  have B9 := Lib.hid (B8.out.trans (t9.below B8.out.size (fun k hk h => by have := B3.out.size; omega)))
  have Z := Lib.hid (Z.out.touch t9 (fun b h1 h2 h => by omega))
  have G := Lib.hid (G.out.touch t9 (fun b h1 h2 h => by omega))
  have s9 : w8.heap.size ≤ w9.heap.size := t9.size
  have hd : decide ((1 : Int) + (szC x0 : Int) < 0) = false := decide_eq_false (by omega)
  clear t9 X
  go_wp2_with fail
  refine (likeC_yes _ _ _ _ _ l' _ _ w9 hln LM.out (show w5.heap.size ≤ w9.heap.size by omega) (show w3.heap.size ≤ w9.heap.size by omega) G.out.cells Z.out.cells).mono ?_
  rintro e wA ⟨rfl, bA⟩
  have BA := Lib.hid (B9.out.trans (bA.mono B9.out.size))
  have Z := Lib.hid (Z.out.below (bA.mono (show w3.heap.size ≤ w9.heap.size by omega)))
  have G := Lib.hid (G.out.below (bA.mono (show w5.heap.size ≤ w9.heap.size by omega)))
  have sA : w9.heap.size ≤ wA.heap.size := bA.size
  clear bA
  -- the answer is marked, and held against the marks
  go_wp2_with fail
  refine (markC_any _ _ _ _ _ l' 1 wA (by omega) (by omega) G.out).mono ?_
  rintro e wB ⟨rfl, gB, tB⟩
  have BB := Lib.hid (BA.out.trans (tB.below BA.out.size (fun k hk h => by have := B4.out.size; omega)))
  have Z := Lib.hid (Z.out.touch tB (fun b h1 h2 h => by omega))
  have G := Lib.hid gB
  have sB : wA.heap.size ≤ wB.heap.size := tB.size
  clear tB gB
  have hd2 : decide ((1 : Int) + (szC l' : Int) < 0) = false := decide_eq_false (by omega)
  go_wp2_with fail
  refine (heldC_yes _ _ _ _ l' 1 wB (by omega) (by omega) G.out.cells).mono ?_
  rintro e w' ⟨rfl, rfl⟩
  go_wp2_with fail
  refine (copyC_any _ _ _ x0 _ wB (by omega) (fun i => M.out i) BB.out.size (HI.out.below BB.out)).mono ?_
  rintro e wC ⟨AC, nC, cC, rfl, oC, bC⟩
  obtain rfl : nC = n7 := oC.len.symm.trans hlen
  have BC := Lib.hid (BB.out.trans (bC.mono BB.out.size))
  have Y := Lib.hid oC
  have Z := Lib.hid (Z.out.below (bC.mono (show w3.heap.size ≤ wB.heap.size by omega)))
  have G := Lib.hid (G.out.below (bC.mono (show w5.heap.size ≤ wB.heap.size by omega)))
  have sC : wB.heap.size ≤ wC.heap.size := bC.size
  clear bC oC
  go_wp2_with fail
  refine (implWithout_any _ _ _ x0 a1 _ wC hn Y.out.cap Y.out.nilc M.out (Nat.le_refl _) Y.out.cells).mono ?_
  rintro e wD ⟨AD, nD, cD, l, r, rfl, hl', hD, bD⟩
  obtain ⟨rfl, rfl⟩ := hl'.one HL.out
  obtain rfl : l.length = nD := hD.len
  have BD := Lib.hid (BC.out.trans (bD.mono BC.out.size))
  have Z := Lib.hid (Z.out.below (bD.mono (show w3.heap.size ≤ wC.heap.size by omega)))
  have G := Lib.hid (G.out.below (bD.mono (show w5.heap.size ≤ wC.heap.size by omega)))
  have H := Lib.hid hD
  have sD : wC.heap.size ≤ wD.heap.size := bD.size
  clear bD hD hl' Y
  go_wp2_with fail
  refine (likeC_yes _ _ _ _ _ l _ _ wD hln LM.out (Nat.le_refl _) (show w3.heap.size ≤ wD.heap.size by omega) H.out.cells Z.out.cells).mono ?_
  rintro e wE ⟨rfl, bE⟩
  have BE := Lib.hid (BD.out.trans (bE.mono BD.out.size))
  have G := Lib.hid (G.out.below (bE.mono (show w5.heap.size ≤ wD.heap.size by omega)))
  clear bE H Z
  go_wp2_with fail
  refine (heldC_yes _ _ _ _ l 1 wE (by omega) (by omega) G.out.cells).mono ?_
  rintro e w' ⟨rfl, rfl⟩
  go_wp2
  go_ret
  exact ⟨rfl, BE.out⟩

/-! ### THE ROW's STEP -/
set_option maxRecDepth 100000 in
theorem lifted (os : Os) (started : os.Started) (H : Type) (enc : TypeId × Value → H) :
    ReturnsInHanded {} Try.checked os 6 .any (Rows.fnExactWithoutSpec.pre6 enc Try.prog Try.f6 Rows.fnExactWithoutRow.domain false) (Rows.fnExactWithoutSpec.post enc Try.prog Try.f6 false true false false) := by
  refine returnsInHanded_of_change (C := Try.checked) own started (by kernel_rfl) Try.func6
    (ChangeSpec.witness6 (enc := enc) (C := Try.checked) false ⟨#[], #[.slice none 0 0, .int .i64 0], []⟩ 8 (by kernel_rfl) (by kernel_rfl) (by kernel_rfl) (by kernel_rfl)) ?_
  intro W base args ds gs before hval0 hW hcnd _
  have hval : ∀ (j : Nat) t v, Try.f6.params[j]? = some t → args[j]? = some v → Value.okWide Try.prog W .any base t v := hval0
  have hW' := hW
  obtain ⟨p, q, hA0, hV, rfl, hfz, hnd⟩ := hW
  have hA : DataW.TrodAll enc Try.prog W 0 (fun _ => true) true Try.f6.params.toList args.toList ds p := hA0
  rw [Try.params6] at hA hval
  obtain ⟨v0, vs0, d0, ds0, p0, q0, hargs, rfl, rfl, h0, r0⟩ := trodAll_cons hA
  obtain ⟨v1, vs1, d1, ds1, p1, q1, rfl, rfl, rfl, h1, r1⟩ := trodAll_cons r0
  obtain ⟨rfl, rfl, rfl⟩ := trodAll_nil r1
  obtain rfl : args = #[v0, v1] := by cases args; simp_all
  obtain ⟨rfl, rfl⟩ := trodVars_none hV
  have k0 := h0
  have lt0 : ∀ x ∈ p0, x.block < W.heap.size := by obtain ⟨m, hm⟩ := k0; exact DataW.trod_lt m _ _ _ hm
  obtain ⟨a0, len0, cap0, rfl⟩ := okWide_slice Try.underlying22 (hval 0 22 v0 rfl rfl)
  obtain ⟨x0, w0⟩ := open_cells (hval 0 22 _ rfl rfl) h0 ⟨_, _, _, rfl⟩
  have k1 := h1
  have lt1 : ∀ x ∈ p1, x.block < W.heap.size := by obtain ⟨m, hm⟩ := k1; exact DataW.trod_lt m _ _ _ hm
  obtain ⟨a1, rfl, rfl, rfl, w1⟩ := open_int Try.underlying2 (hval 1 2 v1 rfl rfl) h1
  clear hA0 hval0
  refine (walk (.slice a0 len0 cap0) x0 a1 W w0 w1).mono fun e W' ⟨he, bel⟩ => ?_
  subst he
  exact ⟨_, rfl, _, _, _, [], _, [], hW', trodAll_mk1 (shut_bool Try.underlying4 _), (trodAll_cons_mk (Below.trod laidOut (by kernel_rfl) (of_decide_eq_true (by kernel_rfl)) k0 bel lt0) (trodAll_cons_mk (Below.trod laidOut (by kernel_rfl) (of_decide_eq_true (by kernel_rfl)) k1 bel lt1) trodAll_mk0)), rfl, bel.frame _, fun h => by cases h⟩

theorem over : Rows.fnExactWithoutRow.holds Try.pinned (OpenSpec.ofChange Rows.fnExactWithoutSpec) :=
  OpenClaim.holds_of_wide 6 Try.f6 rfl rfl rfl rfl rfl rfl rfl ⟨rfl, rfl, rfl, rfl, rfl⟩ rfl rfl rfl rfl rfl (by kernel_rfl) Try.func6 (by kernel_rfl)
    (of_decide_eq_true (by kernel_rfl)) (by unfold Func.isWrapper; first | (rw [if_pos (by decide +kernel)]; kernel_rfl) | (rw [if_neg (by decide +kernel)]; exact ⟨rfl, rfl⟩))
    (fun os started H enc _ => lifted os started H enc)

/-- THE STATEMENT -/
theorem proved : Rows.FnExactWithoutSaid := over
#print axioms proved
end Go.Proofs.Ytpgmiokdlloinaa.fnExactWithout
