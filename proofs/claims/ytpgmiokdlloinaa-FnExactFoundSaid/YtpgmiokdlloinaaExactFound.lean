/- At all cells, roots and keys that can be given, the law that holds Found to its model answers true. -/
import Derived.Test.YtpgmiokdlloinaaRows
import Derived.Test.YtpgmiokdlloinaaPkI
import Derived.WalkKit
import Derived.ProofKit
import Derived.OpenShut
import Derived.ShutString
import Derived.ChangeOld
import Derived.Below
import Derived.WalkSmall
import Derived.Deep.RegionHeld3
import Derived.Outline
namespace Go.Proofs.Ytpgmiokdlloinaa.fnExactFound
set_option maxRecDepth 20000
set_option linter.unusedSimpArgs false
open Go.ChangeShapes Go.WideShapes Go.ChangeAt Go.RowKit
open Go.ChangeMaps (open_string shut_string)
set_option linter.unusedVariables false

theorem own : ownKnob Try.prog.godebug = none := by kernel_rfl
theorem laidOut : laidOutB Try.prog = true := by kernel_rfl

theorem walk (v0 : Value) (x0 : List (Int × List Int)) (a1 : Int) (a2 : ByteArray) (w : World) (w0 : CellsArg w v0 x0) (w1 : (Lit.int .i64 a1).wf = true) (w2 : a2.size ≤ maxLen) :
    Calls Try.prog 8 #[v0, .int .i64 a1, .string a2] w fun e w' => e = .returned (.bool true) ∧ Below w.heap.size w w' := by
  obtain ⟨A, n, c, rfl, hn, hI, hm⟩ := w0
  have HI := Lib.hid hI
  have hlen := hI.1
  have hwf := Lib.hid w1
  clear hI w1
  unfold maxLen at w2
  by_cases hbig : 1048576 < a2.size
  · go_enter Try.func8, Try.ntmps8
    go_wp2
    go_ret
    exact ⟨rfl, Below.refl _ _⟩
  have hk : a2.size ≤ 1048576 := by omega
  go_enter Try.func8, Try.ntmps8
  go_wp2_with fail
  refine (szCells_any A n c x0 w hn hm HI.out).mono ?_
  rintro e w1 ⟨rfl, b1⟩
  have B1 := Lib.hid b1
  clear b1
  by_cases hs : szC x0 ≤ 1048576
  case neg =>
    rw [show leftOf 1048576 (szC x0) = -1 from if_neg hs]
    go_wp2
    go_ret
    exact ⟨rfl, B1.out⟩
  rw [show leftOf 1048576 (szC x0) = ((1048576 - szC x0 : Nat) : Int) from if_pos hs]
  have hm := cel_bd x0 hs
  have hn : n ≤ 1048576 := by have := szC_len x0; omega
  have hd : decide ((((1048576 - szC x0 : Nat) : Int)) < 0) = false := decide_eq_false (by omega)
  have M := Lib.hid hm
  clear hm
  go_wp2_with fail
  refine (copyC_any _ _ _ x0 _ w1 (by omega) (fun i => M.out i) B1.out.size (HI.out.below B1.out)).mono ?_
  rintro e w2 ⟨A2, n2, c2, rfl, o2, b2⟩
  obtain rfl : n2 = n := o2.len.symm.trans hlen
  have B2 := Lib.hid (B1.out.trans (b2.mono B1.out.size))
  have O2 := Lib.hid o2
  clear b2 o2
  go_wp2_with fail
  refine (specFound_any _ _ _ x0 a1 a2 _ w2 hn M.out hk (Nat.le_refl _) O2.out.cells).mono ?_
  rintro e w3 ⟨s3, r3, rfl, hr3, b3⟩
  have R3 := Lib.hid hr3
  have B3 := Lib.hid (B2.out.trans (b3.mono B2.out.size))
  clear b3 hr3 O2
  go_wp2_with fail
  refine (copyC_any _ _ _ x0 _ w3 (by omega) (fun i => M.out i) B3.out.size (HI.out.below B3.out)).mono ?_
  rintro e w4 ⟨A4, n4, c4, rfl, o4, b4⟩
  obtain rfl : n4 = n2 := o4.len.symm.trans hlen
  have B4 := Lib.hid (B3.out.trans (b4.mono B3.out.size))
  have O4 := Lib.hid o4
  clear b4 o4
  go_wp2_with fail
  refine (implFound_any _ _ _ x0 a1 a2 _ w4 hn O4.out.cap O4.out.nilc M.out hk (Nat.le_refl _) O4.out.cells).mono ?_
  rintro e w5 ⟨s5, r5, rfl, hr5, b5⟩
  obtain ⟨rfl, rfl⟩ := hr5.one R3.out
  have B5 := Lib.hid (B4.out.trans (b5.mono B4.out.size))
  have O5 := Lib.hid (O4.out.below b5)
  have s5 : w4.heap.size ≤ w5.heap.size := b5.size
  have hrr : (r5 != r5) = false := by simp
  clear b5 hr5 R3 O4
  go_wp2_with fail
  refine (copyC_any _ _ _ x0 _ w5 (by omega) (fun i => M.out i) B5.out.size (HI.out.below B5.out)).mono ?_
  rintro e w6 ⟨A6, n6, c6, rfl, o6, b6⟩
  obtain rfl : n6 = n4 := o6.len.symm.trans hlen
  have B6 := Lib.hid (B5.out.trans (b6.mono B5.out.size))
  have O6 := Lib.hid o6
  have O5 := Lib.hid (O5.out.below (b6.mono s5))
  have s6 : w5.heap.size ≤ w6.heap.size := b6.size
  clear b6 o6
  go_wp2_with fail
  refine (likeC_yes _ _ _ _ _ x0 _ _ w6 (by omega) M.out (show w4.heap.size ≤ w6.heap.size by omega) (Nat.le_refl _) O5.out.cells O6.out.cells).mono ?_
  rintro e w7 ⟨rfl, b7⟩
  have B7 := Lib.hid (B6.out.trans (b7.mono B6.out.size))
  clear b7
  go_wp2
  go_ret
  exact ⟨rfl, B7.out⟩

/-! ### THE ROW's STEP -/
set_option maxRecDepth 100000 in
theorem lifted (os : Os) (started : os.Started) (H : Type) (enc : TypeId × Value → H) :
    ReturnsInHanded {} Try.checked os 8 .any (Rows.fnExactFoundSpec.pre6 enc Try.prog Try.f8 Rows.fnExactFoundRow.domain false) (Rows.fnExactFoundSpec.post enc Try.prog Try.f8 false true false false) := by
  refine returnsInHanded_of_change (C := Try.checked) own started (by kernel_rfl) Try.func8
    (ChangeSpec.witness6 (enc := enc) (C := Try.checked) false ⟨#[], #[.slice none 0 0, .int .i64 0, .string ⟨#[]⟩], []⟩ 8 (by kernel_rfl) (by kernel_rfl) (by kernel_rfl) (by kernel_rfl)) ?_
  intro W base args ds gs before hval0 hW hcnd _
  have hval : ∀ (j : Nat) t v, Try.f8.params[j]? = some t → args[j]? = some v → Value.okWide Try.prog W .any base t v := hval0
  have hW' := hW
  obtain ⟨p, q, hA0, hV, rfl, hfz, hnd⟩ := hW
  have hA : DataW.TrodAll enc Try.prog W 0 (fun _ => true) true Try.f8.params.toList args.toList ds p := hA0
  rw [Try.params8] at hA hval
  obtain ⟨v0, vs0, d0, ds0, p0, q0, hargs, rfl, rfl, h0, r0⟩ := trodAll_cons hA
  obtain ⟨v1, vs1, d1, ds1, p1, q1, rfl, rfl, rfl, h1, r1⟩ := trodAll_cons r0
  obtain ⟨v2, vs2, d2, ds2, p2, q2, rfl, rfl, rfl, h2, r2⟩ := trodAll_cons r1
  obtain ⟨rfl, rfl, rfl⟩ := trodAll_nil r2
  obtain rfl : args = #[v0, v1, v2] := by cases args; simp_all
  obtain ⟨rfl, rfl⟩ := trodVars_none hV
  have k0 := h0
  have lt0 : ∀ x ∈ p0, x.block < W.heap.size := by obtain ⟨m, hm⟩ := k0; exact DataW.trod_lt m _ _ _ hm
  obtain ⟨a0, len0, cap0, rfl⟩ := okWide_slice Try.underlying22 (hval 0 22 v0 rfl rfl)
  obtain ⟨x0, w0⟩ := open_cells (hval 0 22 _ rfl rfl) h0 ⟨_, _, _, rfl⟩
  have k1 := h1
  have lt1 : ∀ x ∈ p1, x.block < W.heap.size := by obtain ⟨m, hm⟩ := k1; exact DataW.trod_lt m _ _ _ hm
  obtain ⟨a1, rfl, rfl, rfl, w1⟩ := open_int Try.underlying2 (hval 1 2 v1 rfl rfl) h1
  have k2 := h2
  have lt2 : ∀ x ∈ p2, x.block < W.heap.size := by obtain ⟨m, hm⟩ := k2; exact DataW.trod_lt m _ _ _ hm
  obtain ⟨a2, rfl, rfl, rfl, w2⟩ := open_string Try.underlying9 (hval 2 9 v2 rfl rfl) h2
  clear hA0 hval0
  refine (walk (.slice a0 len0 cap0) x0 a1 a2 W w0 w1 w2).mono fun e W' ⟨he, bel⟩ => ?_
  subst he
  exact ⟨_, rfl, _, _, _, [], _, [], hW', trodAll_mk1 (shut_bool Try.underlying4 _), (trodAll_cons_mk (Below.trod laidOut (by kernel_rfl) (of_decide_eq_true (by kernel_rfl)) k0 bel lt0) (trodAll_cons_mk (Below.trod laidOut (by kernel_rfl) (of_decide_eq_true (by kernel_rfl)) k1 bel lt1) (trodAll_cons_mk (Below.trod laidOut (by kernel_rfl) (of_decide_eq_true (by kernel_rfl)) k2 bel lt2) trodAll_mk0))), rfl, bel.frame _, fun h => by cases h⟩

theorem over : Rows.fnExactFoundRow.holds Try.pinned (OpenSpec.ofChange Rows.fnExactFoundSpec) :=
  OpenClaim.holds_of_wide 8 Try.f8 rfl rfl rfl rfl rfl rfl rfl ⟨rfl, rfl, rfl, rfl, rfl⟩ rfl rfl rfl rfl rfl (by kernel_rfl) Try.func8 (by kernel_rfl)
    (of_decide_eq_true (by kernel_rfl)) (by unfold Func.isWrapper; first | (rw [if_pos (by decide +kernel)]; kernel_rfl) | (rw [if_neg (by decide +kernel)]; exact ⟨rfl, rfl⟩))
    (fun os started H enc _ => lifted os started H enc)

/-- THE STATEMENT -/
theorem proved : Rows.FnExactFoundSaid := over
#print axioms proved
end Go.Proofs.Ytpgmiokdlloinaa.fnExactFound
