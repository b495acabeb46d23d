/- At every list of changes the program's ChangesBytes answers as the model's does; its argument is not written into; its answer is its own. -/
import Derived.Test.YtebfinedkjlbbaaRows
import Derived.Test.YtebfinedkjlbbaaPkH
import Derived.WalkKit
import Derived.ProofKit
import Derived.OpenShut
import Derived.ShutString
import Derived.ChangeOld
import Derived.Below
import Derived.WalkSmall
import Derived.Deep.RegionHeld3
import Derived.Outline
namespace Go.Proofs.Ytebfinedkjlbbaa.fnExactChangesBytes
set_option maxRecDepth 20000
set_option linter.unusedSimpArgs false
open Go.ChangeShapes Go.WideShapes Go.ChangeAt Go.RowKit
open Go.ChangeMaps (open_string shut_string)
set_option linter.unusedVariables false

theorem own : ownKnob Try.prog.godebug = none := by kernel_rfl
theorem laidOut : laidOutB Try.prog = true := by kernel_rfl

set_option maxHeartbeats 1600000 in
theorem walk (v0 : Value) (x0 : List MChg) (w : World) (w0 : ChsArg w v0 x0) :
    Calls Try.prog 6 #[v0] w fun e w' => e = .returned (.bool true) ∧ Below w.heap.size w w' := by
  obtain ⟨A, n, c, rfl, hn, hI, hm⟩ := w0
  have HI := Lib.hid hI
  have hlen := hI.1
  clear hI
  go_enter Try.func6, Try.ntmps6
  go_wp2_with fail
  refine (szChanges_any A n c x0 w hn hm HI.out).mono ?_
  rintro e w1 ⟨rfl, b1⟩
  have B1 := Lib.hid b1
  clear b1
  by_cases hs : szH x0 ≤ 1048576
  case neg =>
    rw [show leftOf 1048576 (szH x0) = -1 from if_neg hs]
    go_wp2
    go_ret
    exact ⟨rfl, B1.out⟩
  rw [show leftOf 1048576 (szH x0) = ((1048576 - szH x0 : Nat) : Int) from if_pos hs]
  have hm := cx_bd x0 hs
  have hn : n ≤ 1048576 := by have := szH_len x0; omega
  have hml : mlH x0 ≤ 2097152 := by have := mlH_sz x0; omega
  have hd : decide ((((1048576 - szH x0 : Nat) : Int)) < 0) = false := decide_eq_false (by omega)
  have M := Lib.hid hm
  clear hm
  go_wp2_with fail
  refine (copyH_any _ _ _ x0 _ w1 (by omega) (fun i => M.out i) B1.out.size (HI.out.below B1.out)).mono ?_
  rintro e w2 ⟨A2, n2, c2, rfl, o2, b2⟩
  obtain rfl : n2 = n := o2.len.symm.trans hlen
  have s1 : w.heap.size ≤ w1.heap.size := B1.out.size
  have B2 := Lib.hid (B1.out.trans (b2.mono B1.out.size))
  have O2 := Lib.hid o2
  have s2 : w1.heap.size ≤ w2.heap.size := b2.size
  clear b2 o2 hd
  -- the model's answer
  go_wp2_with fail
  refine (specChangesBytes_any _ _ _ x0 _ w2 hn M.out (Nat.le_refl _) O2.out.chs).mono ?_
  rintro e w3 ⟨A3, n3, c3, l, r, rfl, hl, z3, b3⟩
  have hlb := hl.len
  obtain rfl : l.length = n3 := z3.len
  have HL := Lib.hid hl
  have ZB := Lib.hid (fun g (hg : (Value.slice A3 l.length c3).ownBlock = some g) => World.ownsRow.lt z3.1 g hg)
  have Z := Lib.hid z3
  have B3 := Lib.hid (B2.out.trans (b3.mono B2.out.size))
  have s3 : w2.heap.size ≤ w3.heap.size := b3.size
  clear b3 hl z3 O2
  -- the arguments, and the program's answer
  go_wp2_with fail
  refine (copyH_any _ _ _ x0 _ w3 (by omega) (fun i => M.out i) B3.out.size (HI.out.below B3.out)).mono ?_
  rintro e w4 ⟨A4, n4, c4, rfl, o4, b4⟩
  obtain rfl : n4 = n2 := o4.len.symm.trans hlen
  have B4 := Lib.hid (B3.out.trans (b4.mono B3.out.size))
  have X := Lib.hid o4
  have Z := Lib.hid (Z.out.below b4)
  have s4 : w3.heap.size ≤ w4.heap.size := b4.size
  clear b4 o4
  go_wp2_with fail
  refine (implChangesBytes_any _ _ _ x0 _ w4 hn X.out.cap X.out.nilc M.out (Nat.le_refl _) X.out.chs).mono ?_
  rintro e w5 ⟨A5, n5, c5, l', r', rfl, hl', g5, b5⟩
  obtain ⟨rfl, rfl⟩ := hl'.one HL.out
  obtain rfl : l'.length = n5 := g5.len
  have B5 := Lib.hid (B4.out.trans (b5.mono B4.out.size))
  have X := Lib.hid (X.out.below b5)
  have Z := Lib.hid (Z.out.below b5)
  have GB := Lib.hid (fun g (hg : (Value.slice A5 l'.length c5).ownBlock = some g) => World.ownsRow.lt g5.1 g hg)
  have G := Lib.hid g5
  have s5 : w4.heap.size ≤ w5.heap.size := b5.size
  have hrr : (r' != r') = false := by simp
  clear b5 g5 hl'
  go_wp2_with fail
  refine (like_yes _ _ _ _ _ l' _ _ w5 (by omega) G.out.byts Z.out.byts).mono ?_
  rintro e w6 ⟨rfl, h6⟩
  have b6 : Below w5.heap.size w5 w6 := by obtain ⟨q, rfl⟩ := h6; exact below_drewN (Below.refl _ _) q
  clear h6
  have B6 := Lib.hid (B5.out.trans (b6.mono B5.out.size))
  have X := Lib.hid (X.out.below (b6.mono (show w4.heap.size ≤ w5.heap.size by omega)))
  have Z := Lib.hid (Z.out.below b6)
  have G := Lib.hid (G.out.below b6)
  have s6 : w5.heap.size ≤ w6.heap.size := b6.size
  clear b6
  go_wp2_with fail
  refine (copyH_any _ _ _ x0 _ w6 (by omega) (fun i => M.out i) B6.out.size (HI.out.below B6.out)).mono ?_
  rintro e w7 ⟨A7, n7, c7, rfl, o7, b7⟩
  obtain rfl : n7 = n4 := o7.len.symm.trans hlen
  have B7 := Lib.hid (B6.out.trans (b7.mono B6.out.size))
  have Y := Lib.hid o7
  have X := Lib.hid (X.out.below (b7.mono (show w4.heap.size ≤ w6.heap.size by omega)))
  have Z := Lib.hid (Z.out.below b7)
  have G := Lib.hid (G.out.below b7)
  have s7 : w6.heap.size ≤ w7.heap.size := b7.size
  clear b7 o7
  go_wp2_with fail
  refine (likeH_yes _ _ _ _ _ x0 _ _ w7 hn M.out (show w4.heap.size ≤ w7.heap.size by omega) (Nat.le_refl _) X.out.chs Y.out.chs).mono ?_
  rintro e w8 ⟨rfl, b8⟩
  have B8 := Lib.hid (B7.out.trans (b8.mono B7.out.size))
  have X := Lib.hid (X.out.below (b8.mono (show w4.heap.size ≤ w7.heap.size by omega)))
  have Z := Lib.hid (Z.out.below b8)
  have G := Lib.hid (G.out.below b8)
  have s8 : w7.heap.size ≤ w8.heap.size := b8.size
  clear b8 Y
  -- the argument is marked
  go_wp2_with fail
  refine (markH_any _ _ _ _ _ x0 1 w8 (by omega) (by omega) (by omega) X.out).mono ?_
  rintro e wA ⟨rfl, _, tA⟩
  have BA := Lib.hid (B8.out.trans (tA.below B8.out.size (fun k hk h => by have := B3.out.size; omega)))
  have Z := Lib.hid (Z.out.touch tA (fun b h1 h => by have := ZB.out b h1; omega))
  have G := Lib.hid (G.out.touch tA (fun b h1 h => by have := GB.out b h1; omega))
  have sA : w8.heap.size ≤ wA.heap.size := tA.size
  have hd : decide ((1 : Int) + (mlH x0 : Int) < 0) = false := decide_eq_false (by omega)
  clear tA X
  go_wp2_with fail
  refine (like_yes _ _ _ _ _ l' _ _ wA (by omega) G.out.byts Z.out.byts).mono ?_
  rintro e wC ⟨rfl, hC⟩
  have bC : Below wA.heap.size wA wC := by obtain ⟨q, rfl⟩ := hC; exact below_drewN (Below.refl _ _) q
  clear hC
  have BC := Lib.hid (BA.out.trans (bC.mono BA.out.size))
  have Z := Lib.hid (Z.out.below bC)
  have G := Lib.hid (G.out.below bC)
  have sC : wA.heap.size ≤ wC.heap.size := bC.size
  clear bC
  -- the answer is marked, and held against the marks
  go_wp2_with fail
  refine (mark_any _ _ _ _ l' 1 wC (by omega) (by omega) G.out).mono ?_
  rintro e wD ⟨rfl, gD, gE⟩
  have tD := Touch.of_grown gE
  have BD := Lib.hid (BC.out.trans (tD.below BC.out.size (fun k hk h => by have := GB.out k h.symm; omega)))
  have Z := Lib.hid (Z.out.touch tD (fun b h1 h => by have := ZB.out b h1; have := GB.out b h.symm; omega))
  have G := Lib.hid gD
  have sD : wC.heap.size ≤ wD.heap.size := gE.size
  clear tD gD gE
  have hd2 : decide ((1 : Int) + (l'.length : Int) < 0) = false := decide_eq_false (by omega)
  go_wp2_with fail
  refine (held_yes _ _ _ _ 1 wD (by omega) (by omega) G.out.byts).mono ?_
  rintro e w' ⟨rfl, rfl⟩
  go_wp2_with fail
  refine (copyH_any _ _ _ x0 _ wD (by omega) (fun i => M.out i) BD.out.size (HI.out.below BD.out)).mono ?_
  rintro e wE ⟨AE, nE, cE, rfl, oE, bE⟩
  obtain rfl : nE = n7 := oE.len.symm.trans hlen
  have BE := Lib.hid (BD.out.trans (bE.mono BD.out.size))
  have Y := Lib.hid oE
  have Z := Lib.hid (Z.out.below bE)
  have G := Lib.hid (G.out.below bE)
  clear bE oE
  go_wp2_with fail
  refine (implChangesBytes_any _ _ _ x0 _ wE hn Y.out.cap Y.out.nilc M.out (Nat.le_refl _) Y.out.chs).mono ?_
  rintro e wF ⟨AF, nF, cF, l, r, rfl, hl', hF, bF⟩
  obtain ⟨rfl, rfl⟩ := hl'.one HL.out
  obtain rfl : l.length = nF := hF.len
  have BF := Lib.hid (BE.out.trans (bF.mono BE.out.size))
  have Z := Lib.hid (Z.out.below bF)
  have G := Lib.hid (G.out.below bF)
  have H := Lib.hid hF
  clear bF hF hl' Y
  go_wp2_with fail
  refine (like_yes _ _ _ _ _ l _ _ wF (by omega) H.out.byts Z.out.byts).mono ?_
  rintro e wG ⟨rfl, hG⟩
  have bG : Below wF.heap.size wF wG := by obtain ⟨q, rfl⟩ := hG; exact below_drewN (Below.refl _ _) q
  have BG := Lib.hid (BF.out.trans (bG.mono BF.out.size))
  have G := Lib.hid (G.out.below bG)
  clear bG hG H Z
  go_wp2_with fail
  refine (held_yes _ _ _ _ 1 wG (by omega) (by omega) G.out.byts).mono ?_
  rintro e w' ⟨rfl, rfl⟩
  go_wp2
  go_ret
  exact ⟨rfl, BG.out⟩

/-! ### THE ROW's STEP -/
set_option maxRecDepth 100000 in
theorem lifted (os : Os) (started : os.Started) (H : Type) (enc : TypeId × Value → H) :
    ReturnsInHanded {} Try.checked os 6 .any (Rows.fnExactChangesBytesSpec.pre6 enc Try.prog Try.f6 Rows.fnExactChangesBytesRow.domain false) (Rows.fnExactChangesBytesSpec.post enc Try.prog Try.f6 false true false false) := by
  refine returnsInHanded_of_change (C := Try.checked) own started (by kernel_rfl) Try.func6
    (ChangeSpec.witness6 (enc := enc) (C := Try.checked) false ⟨#[], #[.slice none 0 0], []⟩ 8 (by kernel_rfl) (by kernel_rfl) (by kernel_rfl) (by kernel_rfl)) ?_
  intro W base args ds gs before hval0 hW hcnd _
  have hval : ∀ (j : Nat) t v, Try.f6.params[j]? = some t → args[j]? = some v → Value.okWide Try.prog W .any base t v := hval0
  have hW' := hW
  obtain ⟨p, q, hA0, hV, rfl, hfz, hnd⟩ := hW
  have hA : DataW.TrodAll enc Try.prog W 0 (fun _ => true) true Try.f6.params.toList args.toList ds p := hA0
  rw [Try.params6] at hA hval
  obtain ⟨v0, vs0, d0, ds0, p0, q0, hargs, rfl, rfl, h0, r0⟩ := trodAll_cons hA
  obtain ⟨rfl, rfl, rfl⟩ := trodAll_nil r0
  obtain rfl : args = #[v0] := by cases args; simp_all
  obtain ⟨rfl, rfl⟩ := trodVars_none hV
  have k0 := h0
  have lt0 : ∀ x ∈ p0, x.block < W.heap.size := by obtain ⟨m, hm⟩ := k0; exact DataW.trod_lt m _ _ _ hm
  obtain ⟨a0, len0, cap0, rfl⟩ := okWide_slice Try.underlying48 (hval 0 48 v0 rfl rfl)
  obtain ⟨x0, w0⟩ := open_chs (hval 0 48 _ rfl rfl) h0 ⟨_, _, _, rfl⟩
  clear hA0 hval0
  refine (walk (.slice a0 len0 cap0) x0 W w0).mono fun e W' ⟨he, bel⟩ => ?_
  subst he
  exact ⟨_, rfl, _, _, _, [], _, [], hW', trodAll_mk1 (shut_bool Try.underlying4 _), (trodAll_cons_mk (Below.trod laidOut (by kernel_rfl) (of_decide_eq_true (by kernel_rfl)) k0 bel lt0) trodAll_mk0), rfl, bel.frame _, fun h => by cases h⟩

theorem over : Rows.fnExactChangesBytesRow.holds Try.pinned (OpenSpec.ofChange Rows.fnExactChangesBytesSpec) :=
  OpenClaim.holds_of_wide 6 Try.f6 rfl rfl rfl rfl rfl rfl rfl ⟨rfl, rfl, rfl, rfl, rfl⟩ rfl rfl rfl rfl rfl (by kernel_rfl) Try.func6 (by kernel_rfl)
    (of_decide_eq_true (by kernel_rfl)) (by unfold Func.isWrapper; first | (rw [if_pos (by decide +kernel)]; kernel_rfl) | (rw [if_neg (by decide +kernel)]; exact ⟨rfl, rfl⟩))
    (fun os started H enc _ => lifted os started H enc)

/-- THE STATEMENT -/
theorem proved : Rows.FnExactChangesBytesSaid := over
#print axioms proved
end Go.Proofs.Ytebfinedkjlbbaa.fnExactChangesBytes
