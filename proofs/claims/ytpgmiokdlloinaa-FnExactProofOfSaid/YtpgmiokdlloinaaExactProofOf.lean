/- At all cells, every root and every key the program's ProofOf answers as the model's does; its arguments are not written into; its answer is its own. -/
import Derived.Test.YtpgmiokdlloinaaRows
import Derived.Test.YtpgmiokdlloinaaPkI
import Derived.WalkKit
import Derived.ProofKit
import Derived.OpenShut
import Derived.ShutString
import Derived.ChangeOld
import Derived.Below
import Derived.WalkSmall
import Derived.Deep.RegionHeld3
import Derived.Outline
namespace Go.Proofs.Ytpgmiokdlloinaa.fnExactProofOf
set_option maxRecDepth 20000
set_option linter.unusedSimpArgs false
open Go.ChangeShapes Go.WideShapes Go.ChangeAt Go.RowKit
open Go.ChangeMaps (open_string shut_string)
set_option linter.unusedVariables false

theorem own : ownKnob Try.prog.godebug = none := by kernel_rfl
theorem laidOut : laidOutB Try.prog = true := by kernel_rfl

set_option maxHeartbeats 1600000 in
theorem walk (v0 : Value) (x0 : List (Int × List Int)) (a1 : Int) (a2 : ByteArray) (w : World) (w0 : CellsArg w v0 x0) (w1 : (Lit.int .i64 a1).wf = true) (w2 : a2.size ≤ maxLen) :
    Calls Try.prog 9 #[v0, .int .i64 a1, .string a2] w fun e w' => e = .returned (.bool true) ∧ Below w.heap.size w w' := by
  obtain ⟨A, n, c, rfl, hn, hI, hm⟩ := w0
  have HI := Lib.hid hI
  have hlen := hI.1
  clear hI
  unfold maxLen at w2
  by_cases hbig : 1048576 < a2.size
  · go_enter Try.func9, Try.ntmps9
    go_wp2
    go_ret
    exact ⟨rfl, Below.refl _ _⟩
  have hk : a2.size ≤ 1048576 := by omega
  go_enter Try.func9, Try.ntmps9
  go_wp2_with fail
  refine (szCells_any A n c x0 w hn hm HI.out).mono ?_
  rintro e w1 ⟨rfl, b1⟩
  have B1 := Lib.hid b1
  clear b1
  by_cases hs : szC x0 ≤ 1048576
  case neg =>
    rw [show leftOf 1048576 (szC x0) = -1 from if_neg hs]
    go_wp2
    go_ret
    exact ⟨rfl, B1.out⟩
  rw [show leftOf 1048576 (szC x0) = ((1048576 - szC x0 : Nat) : Int) from if_pos hs]
  have hm := cel_bd x0 hs
  have hn : n ≤ 1048576 := by have := szC_len x0; omega
  have hd : decide ((((1048576 - szC x0 : Nat) : Int)) < 0) = false := decide_eq_false (by omega)
  have M := Lib.hid hm
  clear hm
  go_wp2_with fail
  refine (copyC_any _ _ _ x0 _ w1 (by omega) (fun i => M.out i) B1.out.size (HI.out.below B1.out)).mono ?_
  rintro e w2 ⟨A2, n2, c2, rfl, o2, b2⟩
  obtain rfl : n2 = n := o2.len.symm.trans hlen
  have B2 := Lib.hid (B1.out.trans (b2.mono B1.out.size))
  have O2 := Lib.hid o2
  have s1 : w.heap.size ≤ w1.heap.size := B1.out.size
  have s2 : w1.heap.size ≤ w2.heap.size := b2.size
  clear b2 o2 hd
  -- the model's answer
  go_wp2_with fail
  refine (specProofOf_any _ _ _ x0 a1 a2 _ w2 hn M.out hk (Nat.le_refl _) O2.out.cells).mono ?_
  rintro e w3 ⟨A3, n3, c3, l, r, rfl, hl, z3, b3⟩
  obtain ⟨hl9, hlm, hlz⟩ := proof_all hl M.out
  obtain rfl : l.length = n3 := z3.len
  have HL := Lib.hid hl
  have Z := Lib.hid z3
  have B3 := Lib.hid (B2.out.trans (b3.mono B2.out.size))
  have s3 : w2.heap.size ≤ w3.heap.size := b3.size
  clear b3 hl z3 O2
  -- the arguments, and the program's answer
  go_wp2_with fail
  refine (copyC_any _ _ _ x0 _ w3 (by omega) (fun i => M.out i) B3.out.size (HI.out.below B3.out)).mono ?_
  rintro e w4 ⟨A4, n4, c4, rfl, o4, b4⟩
  obtain rfl : n4 = n2 := o4.len.symm.trans hlen
  have B4 := Lib.hid (B3.out.trans (b4.mono B3.out.size))
  have X := Lib.hid o4
  have Z := Lib.hid (Z.out.below b4)
  have s4 : w3.heap.size ≤ w4.heap.size := b4.size
  clear b4 o4
  go_wp2_with fail
  refine (implProofOf_any _ _ _ x0 a1 a2 _ w4 hn X.out.cap X.out.nilc M.out hk (Nat.le_refl _) X.out.cells).mono ?_
  rintro e w5 ⟨A5, n5, c5, l', r', rfl, hl', g5, b5⟩
  obtain ⟨rfl, rfl⟩ := hl'.one HL.out
  obtain rfl : l'.length = n5 := g5.len
  have B5 := Lib.hid (B4.out.trans (b5.mono B4.out.size))
  have X := Lib.hid (X.out.below b5)
  have Z := Lib.hid (Z.out.below (b5.mono s4))
  have G := Lib.hid g5
  have s5 : w4.heap.size ≤ w5.heap.size := b5.size
  have hrr : (r' != r') = false := by simp
  clear b5 g5 hl'
  go_wp2_with fail
  refine (likeBs_yes _ _ _ _ _ l' _ _ w5 (by omega) hlm (Nat.le_refl _) (show w3.heap.size ≤ w5.heap.size by omega) G.out.bss Z.out.bss).mono ?_
  rintro e w6 ⟨rfl, b6⟩
  have B6 := Lib.hid (B5.out.trans (b6.mono B5.out.size))
  have X := Lib.hid (X.out.below (b6.mono s5))
  have Z := Lib.hid (Z.out.below (b6.mono (show w3.heap.size ≤ w5.heap.size by omega)))
  have G := Lib.hid (G.out.below b6)
  have s6 : w5.heap.size ≤ w6.heap.size := b6.size
  clear b6
  go_wp2_with fail
  refine (copyC_any _ _ _ x0 _ w6 (by omega) (fun i => M.out i) B6.out.size (HI.out.below B6.out)).mono ?_
  rintro e w7 ⟨A7, n7, c7, rfl, o7, b7⟩
  obtain rfl : n7 = n4 := o7.len.symm.trans hlen
  have B7 := Lib.hid (B6.out.trans (b7.mono B6.out.size))
  have Y := Lib.hid o7
  have X := Lib.hid (X.out.below (b7.mono (show w4.heap.size ≤ w6.heap.size by omega)))
  have Z := Lib.hid (Z.out.below (b7.mono (show w3.heap.size ≤ w6.heap.size by omega)))
  have G := Lib.hid (G.out.below (b7.mono s6))
  have s7 : w6.heap.size ≤ w7.heap.size := b7.size
  clear b7 o7
  go_wp2_with fail
  refine (likeC_yes _ _ _ _ _ x0 _ _ w7 hn M.out (show w4.heap.size ≤ w7.heap.size by omega) (Nat.le_refl _) X.out.cells Y.out.cells).mono ?_
  rintro e w8 ⟨rfl, b8⟩
  have B8 := Lib.hid (B7.out.trans (b8.mono B7.out.size))
  have X := Lib.hid (X.out.below (b8.mono (show w4.heap.size ≤ w7.heap.size by omega)))
  have Z := Lib.hid (Z.out.below (b8.mono (show w3.heap.size ≤ w7.heap.size by omega)))
  have G := Lib.hid (G.out.below (b8.mono (show w5.heap.size ≤ w7.heap.size by omega)))
  have s8 : w7.heap.size ≤ w8.heap.size := b8.size
  clear b8 Y
  -- the argument is marked
  go_wp2_with fail
  refine (markC_any _ _ _ _ _ x0 1 w8 (by omega) (by omega) X.out).mono ?_
  rintro e wA ⟨rfl, _, tA⟩
  have BA := Lib.hid (B8.out.trans (tA.below B8.out.size (fun k hk h => by omega)))
  have Z := Lib.hid (Z.out.touch tA (fun b h1 h2 h => by omega))
  have G := Lib.hid (G.out.touch tA (fun b h1 h2 h => by omega))
  have sA : w8.heap.size ≤ wA.heap.size := tA.size
  have hd : decide ((1 : Int) + (szC x0 : Int) < 0) = false := decide_eq_false (by omega)
  clear tA X
  go_wp2_with fail
  refine (likeBs_yes _ _ _ _ _ l' _ _ wA (by omega) hlm (show w5.heap.size ≤ wA.heap.size by omega) (show w3.heap.size ≤ wA.heap.size by omega) G.out.bss Z.out.bss).mono ?_
  rintro e wC ⟨rfl, bC⟩
  have BC := Lib.hid (BA.out.trans (bC.mono BA.out.size))
  have Z := Lib.hid (Z.out.below (bC.mono (show w3.heap.size ≤ wA.heap.size by omega)))
  have G := Lib.hid (G.out.below (bC.mono (show w5.heap.size ≤ wA.heap.size by omega)))
  have sC : wA.heap.size ≤ wC.heap.size := bC.size
  clear bC
  -- the answer is marked, and held against the marks
  go_wp2_with fail
  refine (markBs_any _ _ _ _ _ l' 1 wC (by omega) (by omega) (by omega) G.out).mono ?_
  rintro e wD ⟨rfl, gD, tD⟩
  have BD := Lib.hid (BC.out.trans (tD.below BC.out.size (fun k hk h => by omega)))
  have Z := Lib.hid (Z.out.touch tD (fun b h1 h2 h => by omega))
  have G := Lib.hid gD
  have sD : wC.heap.size ≤ wD.heap.size := tD.size
  clear tD gD
  have hd2 : decide ((1 : Int) + (szB l' : Int) < 0) = false := decide_eq_false (by omega)
  go_wp2_with fail
  refine (heldBs_yes _ _ _ _ l' 1 wD (by omega) (by omega) (by omega) G.out.bss).mono ?_
  rintro e w' ⟨rfl, rfl⟩
  go_wp2_with fail
  refine (copyC_any _ _ _ x0 _ wD (by omega) (fun i => M.out i) BD.out.size (HI.out.below BD.out)).mono ?_
  rintro e wE ⟨AE, nE, cE, rfl, oE, bE⟩
  obtain rfl : nE = n7 := oE.len.symm.trans hlen
  have BE := Lib.hid (BD.out.trans (bE.mono BD.out.size))
  have Y := Lib.hid oE
  have Z := Lib.hid (Z.out.below (bE.mono (show w3.heap.size ≤ wD.heap.size by omega)))
  have G := Lib.hid (G.out.below (bE.mono (show w5.heap.size ≤ wD.heap.size by omega)))
  have sE : wD.heap.size ≤ wE.heap.size := bE.size
  clear bE oE
  go_wp2_with fail
  refine (implProofOf_any _ _ _ x0 a1 a2 _ wE hn Y.out.cap Y.out.nilc M.out hk (Nat.le_refl _) Y.out.cells).mono ?_
  rintro e wF ⟨AF, nF, cF, l, r, rfl, hl', hF, bF⟩
  obtain ⟨rfl, rfl⟩ := hl'.one HL.out
  obtain rfl : l.length = nF := hF.len
  have BF := Lib.hid (BE.out.trans (bF.mono BE.out.size))
  have Z := Lib.hid (Z.out.below (bF.mono (show w3.heap.size ≤ wE.heap.size by omega)))
  have G := Lib.hid (G.out.below (bF.mono (show w5.heap.size ≤ wE.heap.size by omega)))
  have H := Lib.hid hF
  have sF : wE.heap.size ≤ wF.heap.size := bF.size
  clear bF hF hl' Y
  go_wp2_with fail
  refine (likeBs_yes _ _ _ _ _ l _ _ wF (by omega) hlm (Nat.le_refl _) (show w3.heap.size ≤ wF.heap.size by omega) H.out.bss Z.out.bss).mono ?_
  rintro e wG ⟨rfl, bG⟩
  have BG := Lib.hid (BF.out.trans (bG.mono BF.out.size))
  have G := Lib.hid (G.out.below (bG.mono (show w5.heap.size ≤ wF.heap.size by omega)))
  clear bG H Z
  go_wp2_with fail
  refine (heldBs_yes _ _ _ _ l 1 wG (by omega) (by omega) (by omega) G.out.bss).mono ?_
  rintro e w' ⟨rfl, rfl⟩
  go_wp2
  go_ret
  exact ⟨rfl, BG.out⟩

/-! ### THE ROW's STEP -/
set_option maxRecDepth 100000 in
theorem lifted (os : Os) (started : os.Started) (H : Type) (enc : TypeId × Value → H) :
    ReturnsInHanded {} Try.checked os 9 .any (Rows.fnExactProofOfSpec.pre6 enc Try.prog Try.f9 Rows.fnExactProofOfRow.domain false) (Rows.fnExactProofOfSpec.post enc Try.prog Try.f9 false true false false) := by
  refine returnsInHanded_of_change (C := Try.checked) own started (by kernel_rfl) Try.func9
    (ChangeSpec.witness6 (enc := enc) (C := Try.checked) false ⟨#[], #[.slice none 0 0, .int .i64 0, .string ⟨#[]⟩], []⟩ 8 (by kernel_rfl) (by kernel_rfl) (by kernel_rfl) (by kernel_rfl)) ?_
  intro W base args ds gs before hval0 hW hcnd _
  have hval : ∀ (j : Nat) t v, Try.f9.params[j]? = some t → args[j]? = some v → Value.okWide Try.prog W .any base t v := hval0
  have hW' := hW
  obtain ⟨p, q, hA0, hV, rfl, hfz, hnd⟩ := hW
  have hA : DataW.TrodAll enc Try.prog W 0 (fun _ => true) true Try.f9.params.toList args.toList ds p := hA0
  rw [Try.params9] at hA hval
  obtain ⟨v0, vs0, d0, ds0, p0, q0, hargs, rfl, rfl, h0, r0⟩ := trodAll_cons hA
  obtain ⟨v1, vs1, d1, ds1, p1, q1, rfl, rfl, rfl, h1, r1⟩ := trodAll_cons r0
  obtain ⟨v2, vs2, d2, ds2, p2, q2, rfl, rfl, rfl, h2, r2⟩ := trodAll_cons r1
  obtain ⟨rfl, rfl, rfl⟩ := trodAll_nil r2
  obtain rfl : args = #[v0, v1, v2] := by cases args; simp_all
  obtain ⟨rfl, rfl⟩ := trodVars_none hV
  have k0 := h0
  have lt0 : ∀ x ∈ p0, x.block < W.heap.size := by obtain ⟨m, hm⟩ := k0; exact DataW.trod_lt m _ _ _ hm
  obtain ⟨a0, len0, cap0, rfl⟩ := okWide_slice Try.underlying22 (hval 0 22 v0 rfl rfl)
  obtain ⟨x0, w0⟩ := open_cells (hval 0 22 _ rfl rfl) h0 ⟨_, _, _, rfl⟩
  have k1 := h1
  have lt1 : ∀ x ∈ p1, x.block < W.heap.size := by obtain ⟨m, hm⟩ := k1; exact DataW.trod_lt m _ _ _ hm
  obtain ⟨a1, rfl, rfl, rfl, w1⟩ := open_int Try.underlying2 (hval 1 2 v1 rfl rfl) h1
  have k2 := h2
  have lt2 : ∀ x ∈ p2, x.block < W.heap.size := by obtain ⟨m, hm⟩ := k2; exact DataW.trod_lt m _ _ _ hm
  obtain ⟨a2, rfl, rfl, rfl, w2⟩ := open_string Try.underlying9 (hval 2 9 v2 rfl rfl) h2
  clear hA0 hval0
  refine (walk (.slice a0 len0 cap0) x0 a1 a2 W w0 w1 w2).mono fun e W' ⟨he, bel⟩ => ?_
  subst he
  exact ⟨_, rfl, _, _, _, [], _, [], hW', trodAll_mk1 (shut_bool Try.underlying4 _), (trodAll_cons_mk (Below.trod laidOut (by kernel_rfl) (of_decide_eq_true (by kernel_rfl)) k0 bel lt0) (trodAll_cons_mk (Below.trod laidOut (by kernel_rfl) (of_decide_eq_true (by kernel_rfl)) k1 bel lt1) (trodAll_cons_mk (Below.trod laidOut (by kernel_rfl) (of_decide_eq_true (by kernel_rfl)) k2 bel lt2) trodAll_mk0))), rfl, bel.frame _, fun h => by cases h⟩

theorem over : Rows.fnExactProofOfRow.holds Try.pinned (OpenSpec.ofChange Rows.fnExactProofOfSpec) :=
  OpenClaim.holds_of_wide 9 Try.f9 rfl rfl rfl rfl rfl rfl rfl ⟨rfl, rfl, rfl, rfl, rfl⟩ rfl rfl rfl rfl rfl (by kernel_rfl) Try.func9 (by kernel_rfl)
    (of_decide_eq_true (by kernel_rfl)) (by unfold Func.isWrapper; first | (rw [if_pos (by decide +kernel)]; kernel_rfl) | (rw [if_neg (by decide +kernel)]; exact ⟨rfl, rfl⟩))
    (fun os started H enc _ => lifted os started H enc)

/-- THE STATEMENT -/
theorem proved : Rows.FnExactProofOfSaid := over
#print axioms proved
end Go.Proofs.Ytpgmiokdlloinaa.fnExactProofOf
