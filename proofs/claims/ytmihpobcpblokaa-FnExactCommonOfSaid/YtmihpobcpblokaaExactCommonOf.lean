/- At any two lists of numbers the program's CommonOf is the model's number; it writes into no argument. -/
import Derived.Test.YtmihpobcpblokaaRows
import Derived.Test.YtmihpobcpblokaaPathP
import Derived.Test.YtmihpobcpblokaaPathS
import Derived.Test.YtmihpobcpblokaaIntsX
import Derived.WalkKit
import Derived.ProofKit
import Derived.OpenShut
import Derived.ShutString
import Derived.ChangeOld
import Derived.Below
import Derived.WalkSmall
import Derived.Outline
namespace Go.Proofs.Ytmihpobcpblokaa.fnExactCommonOf
open Go.ChangeShapes Go.WideShapes Go.ChangeAt Go.RowKit
open Go.ChangeMaps (open_string shut_string)
set_option linter.unusedVariables false

theorem own : ownKnob Try.prog.godebug = none := by kernel_rfl
theorem laidOut : laidOutB Try.prog = true := by kernel_rfl

theorem walk (a0 : Option Addr) (len0 cap0 : Nat) (z0 : List Int) (a1 : Option Addr) (len1 cap1 : Nat) (z1 : List Int) (w : World) (w0 : IsRow .i64 w a0 len0 cap0 z0) (w1 : IsRow .i64 w a1 len1 cap1 z1) :
    Calls Try.prog 7 #[.slice a0 len0 cap0, .slice a1 len1 cap1] w fun e w' => e = .returned (.bool true) ∧ Below w.heap.size w w' := by
  have HL := w0.len_le
  have HL1 := w1.len_le
  have HI := Lib.hid w0.ints
  have HJ := Lib.hid w1.ints
  clear w0 w1
  by_cases hbig : 1048576 < len0
  · go_enter Try.func7, Try.ntmps7
    go_wp2
    go_ret
    exact ⟨rfl, Below.refl _ _⟩
  by_cases hbig1 : 1048576 < len1
  · go_enter Try.func7, Try.ntmps7
    go_wp2
    go_ret
    exact ⟨rfl, Below.refl _ _⟩
  generalize z0.take len0 = zs at HI
  generalize z1.take len1 = ys at HJ
  have hn : len0 ≤ 1048576 := by omega
  have hn1 : len1 ≤ 1048576 := by omega
  clear hbig hbig1
  go_enter Try.func7, Try.ntmps7
  go_wp2_with fail
  refine (copyI_any _ _ _ zs _ _ (by omega) (Nat.le_refl _) HI.out).mono ?_
  rintro e w1 ⟨A1, n1, c1, rfl, M1, b1⟩
  have e1 : n1 = len0 := M1.len.symm.trans HI.out.1
  obtain rfl := e1
  have B1 := Lib.hid b1
  have M1 := Lib.hid M1
  clear b1
  go_wp2_with fail
  refine (copyI_any _ _ _ ys _ _ (by omega) B1.out.size (HJ.out.below B1.out)).mono ?_
  rintro e w2 ⟨A2, n2, c2, rfl, M2, b2⟩
  have e2 : n2 = len1 := M2.len.symm.trans HJ.out.1
  obtain rfl := e2
  have B2 := Lib.hid (B1.out.trans (b2.mono B1.out.size))
  have M1 := Lib.hid (M1.out.below b2)
  have M2 := Lib.hid M2
  clear b2
  go_wp2_with fail
  refine (specCommon_any _ _ _ _ _ _ zs ys _ _ _ (by omega) (by omega) M1.out.ints M2.out.ints).mono ?_
  rintro e w' ⟨rfl, m, rfl⟩
  have B3 := Lib.hid (below_drewN B2.out m)
  clear M1 M2
  go_wp2_with fail
  refine (copyI_any _ _ _ zs _ _ (by omega) B3.out.size (HI.out.below B3.out)).mono ?_
  rintro e w4 ⟨A4, n4, c4, rfl, M4, b4⟩
  have e4 : n4 = n1 := M4.len.symm.trans HI.out.1
  obtain rfl := e4
  have B4 := Lib.hid (B3.out.trans (b4.mono B3.out.size))
  have M4 := Lib.hid M4
  clear b4
  go_wp2_with fail
  refine (copyI_any _ _ _ ys _ _ (by omega) B4.out.size (HJ.out.below B4.out)).mono ?_
  rintro e w5 ⟨A5, n5, c5, rfl, M5, b5⟩
  have e5 : n5 = n2 := M5.len.symm.trans HJ.out.1
  obtain rfl := e5
  have B5 := Lib.hid (B4.out.trans (b5.mono B4.out.size))
  have M4 := Lib.hid (M4.out.below b5)
  have M5 := Lib.hid M5
  clear b5
  go_wp2_with fail
  refine (common_any _ _ _ _ _ _ zs ys _ _ _ (by omega) (by omega) M4.out.ints M5.out.ints).mono ?_
  rintro e w' ⟨rfl, m5, rfl⟩
  have B6 := Lib.hid (below_drewN B5.out m5)
  have M4 := Lib.hid (M4.out.drewN m5)
  have M5 := Lib.hid (M5.out.drewN m5)
  go_wp2_with fail
  refine (copyI_any _ _ _ zs _ _ (by omega) B6.out.size (HI.out.below B6.out)).mono ?_
  rintro e w7 ⟨A7, n7, c7, rfl, M7, b7⟩
  have e7 : n7 = n4 := M7.len.symm.trans HI.out.1
  obtain rfl := e7
  have B7 := Lib.hid (B6.out.trans (b7.mono B6.out.size))
  have M4 := Lib.hid (M4.out.below b7)
  have M5 := Lib.hid (M5.out.below b7)
  have M7 := Lib.hid M7
  clear b7
  go_wp2_with fail
  refine (likeI_yes _ _ _ _ _ zs _ _ _ (by omega) M4.out.ints M7.out.ints).mono ?_
  rintro e w' ⟨rfl, m7, rfl⟩
  have B8 := Lib.hid (below_drewN B7.out m7)
  have M5 := Lib.hid (M5.out.drewN m7)
  clear M4 M7
  go_wp2_with fail
  refine (copyI_any _ _ _ ys _ _ (by omega) B8.out.size (HJ.out.below B8.out)).mono ?_
  rintro e w9 ⟨A9, n9, c9, rfl, M9, b9⟩
  have e9 : n9 = n5 := M9.len.symm.trans HJ.out.1
  obtain rfl := e9
  have B9 := Lib.hid (B8.out.trans (b9.mono B8.out.size))
  have M5 := Lib.hid (M5.out.below b9)
  have M9 := Lib.hid M9
  clear b9
  go_wp2_with fail
  refine (likeI_yes _ _ _ _ _ ys _ _ _ (by omega) M5.out.ints M9.out.ints).mono ?_
  rintro e w' ⟨rfl, m9, rfl⟩
  go_wp2
  go_ret
  exact ⟨rfl, below_drewN B9.out m9⟩

/-! ### THE ROW's STEP: WRITTEN OUT: LEAVE IT -/
set_option maxRecDepth 100000 in
theorem lifted (os : Os) (started : os.Started) (H : Type) (enc : TypeId × Value → H) :
    ReturnsInHanded {} Try.checked os 7 .any (Rows.fnExactCommonOfSpec.pre6 enc Try.prog Try.f7 Rows.fnExactCommonOfRow.domain false) (Rows.fnExactCommonOfSpec.post enc Try.prog Try.f7 false true false false) := by
  refine returnsInHanded_of_change (C := Try.checked) own started (by kernel_rfl) Try.func7
    (ChangeSpec.witness6 (enc := enc) (C := Try.checked) false ⟨#[], #[.slice none 0 0, .slice none 0 0], []⟩ 8 (by kernel_rfl) (by kernel_rfl) (by kernel_rfl) (by kernel_rfl)) ?_
  intro W base args ds gs before hval0 hW hcnd _
  have hval : ∀ (j : Nat) t v, Try.f7.params[j]? = some t → args[j]? = some v → Value.okWide Try.prog W .any base t v := hval0
  have hW' := hW
  obtain ⟨p, q, hA0, hV, rfl, hfz, hnd⟩ := hW
  have hA : DataW.TrodAll enc Try.prog W 0 (fun _ => true) true Try.f7.params.toList args.toList ds p := hA0
  rw [Try.params7] at hA hval
  obtain ⟨v0, vs0, d0, ds0, p0, q0, hargs, rfl, rfl, h0, r0⟩ := trodAll_cons hA
  obtain ⟨v1, vs1, d1, ds1, p1, q1, rfl, rfl, rfl, h1, r1⟩ := trodAll_cons r0
  obtain ⟨rfl, rfl, rfl⟩ := trodAll_nil r1
  obtain rfl : args = #[v0, v1] := by cases args; simp_all
  obtain ⟨rfl, rfl⟩ := trodVars_none hV
  obtain ⟨a0, len0, cap0, rfl⟩ := okWide_slice Try.underlying25 (hval 0 25 v0 rfl rfl)
  have k0 := h0
  have lt0 : ∀ x ∈ p0, x.block < W.heap.size := by obtain ⟨m, hm⟩ := k0; exact DataW.trod_lt m _ _ _ hm
  obtain ⟨z0, w0⟩ : ∃ zs, IsRow .i64 W a0 len0 cap0 zs := by
    obtain ⟨fuel, hf⟩ := h0
    rcases open_ints Try.underlying25 Try.underlying2 (by kernel_rfl) hf with ⟨hcs, _⟩ | ⟨x, l, c, zs, hcs, _, hl, hm, hz, _, hcell, hwz⟩
    · simp [Value.cells] at hcs
      obtain ⟨rfl, rfl, rfl⟩ := hcs
      exact ⟨[], .inl ⟨rfl, rfl, rfl, rfl⟩⟩
    · simp [Value.cells] at hcs
      obtain ⟨rfl, rfl, rfl⟩ := hcs
      exact ⟨zs, .inr ⟨_, rfl, hl, hm, by simpa using hz, hcell, hwz⟩⟩
  obtain ⟨a1, len1, cap1, rfl⟩ := okWide_slice Try.underlying25 (hval 1 25 v1 rfl rfl)
  have k1 := h1
  have lt1 : ∀ x ∈ p1, x.block < W.heap.size := by obtain ⟨m, hm⟩ := k1; exact DataW.trod_lt m _ _ _ hm
  obtain ⟨z1, w1⟩ : ∃ zs, IsRow .i64 W a1 len1 cap1 zs := by
    obtain ⟨fuel, hf⟩ := h1
    rcases open_ints Try.underlying25 Try.underlying2 (by kernel_rfl) hf with ⟨hcs, _⟩ | ⟨x, l, c, zs, hcs, _, hl, hm, hz, _, hcell, hwz⟩
    · simp [Value.cells] at hcs
      obtain ⟨rfl, rfl, rfl⟩ := hcs
      exact ⟨[], .inl ⟨rfl, rfl, rfl, rfl⟩⟩
    · simp [Value.cells] at hcs
      obtain ⟨rfl, rfl, rfl⟩ := hcs
      exact ⟨zs, .inr ⟨_, rfl, hl, hm, by simpa using hz, hcell, hwz⟩⟩
  clear hA0 hval0
  refine (walk a0 len0 cap0 z0 a1 len1 cap1 z1 W w0 w1).mono fun e W' ⟨he, bel⟩ => ?_
  subst he
  exact ⟨_, rfl, _, _, _, [], _, [], hW', trodAll_mk1 (shut_bool Try.underlying4 _), (trodAll_cons_mk (Below.trod laidOut (by kernel_rfl) (of_decide_eq_true (by kernel_rfl)) k0 bel lt0) (trodAll_cons_mk (Below.trod laidOut (by kernel_rfl) (of_decide_eq_true (by kernel_rfl)) k1 bel lt1) trodAll_mk0)), rfl, bel.frame _, fun h => by cases h⟩

theorem over : Rows.fnExactCommonOfRow.holds Try.pinned (OpenSpec.ofChange Rows.fnExactCommonOfSpec) :=
  OpenClaim.holds_of_wide 7 Try.f7 rfl rfl rfl rfl rfl rfl rfl ⟨rfl, rfl, rfl, rfl, rfl⟩ rfl rfl rfl rfl rfl (by kernel_rfl) Try.func7 (by kernel_rfl)
    (of_decide_eq_true (by kernel_rfl)) (by unfold Func.isWrapper; first | (rw [if_pos (by decide +kernel)]; kernel_rfl) | (rw [if_neg (by decide +kernel)]; exact ⟨rfl, rfl⟩))
    (fun os started H enc _ => lifted os started H enc)

/-- ████ THE STATEMENT ████ -/
theorem proved : Rows.FnExactCommonOfSaid := over
#print axioms proved
end Go.Proofs.Ytmihpobcpblokaa.fnExactCommonOf
