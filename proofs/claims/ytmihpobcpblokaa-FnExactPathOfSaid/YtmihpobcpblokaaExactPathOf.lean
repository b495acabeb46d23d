/- At every text the program's PathOf is the model's path, in new memory of its own each time. -/
import Derived.Test.YtmihpobcpblokaaRows
import Derived.Test.YtmihpobcpblokaaPathP
import Derived.Test.YtmihpobcpblokaaPathS
import Derived.Test.YtmihpobcpblokaaIntsX
import Derived.WalkKit
import Derived.ProofKit
import Derived.OpenShut
import Derived.ShutString
namespace Go.Proofs.Ytmihpobcpblokaa.fnExactPathOf
open Go.ChangeShapes Go.WideShapes Go.ChangeAt Go.RowKit
open Go.ChangeMaps (open_string shut_string)
set_option linter.unusedVariables false      -- a walk need not use every 'w<i>' (that an integer argument fits its kind)

theorem own : ownKnob Try.prog.godebug = none := by kernel_rfl

theorem walk (a0 : ByteArray) (w0 : a0.size ≤ maxLen) (w : World) :
    Calls Try.prog 5 #[.string a0] w fun e w' => e = .returned (.bool true) ∧ Below w.heap.size w w' := by
  by_cases hbig : 1048576 < a0.size
  · go_enter Try.func5, Try.ntmps5
    go_wp2
    go_ret
    exact ⟨rfl, Below.refl _ _⟩
  have hsz : a0.size ≤ 1048576 := by omega
  have hle := pathOf_len (sb a0)
  go_enter Try.func5, Try.ntmps5
  go_wp2_with fail
  refine (specPathOf_any a0 _ hsz).mono ?_
  rintro e w1 ⟨A1, n1, c1, rfl, M1, b1⟩
  have H1 := Lib.hid M1.len
  have hn1 : n1 ≤ 8 := by have := H1.out; omega
  go_wp2_with fail
  refine (pathOf_any a0 _ hsz).mono ?_
  rintro e w2 ⟨A2, n2, c2, rfl, M2, b2⟩
  have e2 : n1 = n2 := by have := M2.len; have := H1.out; omega
  obtain rfl := e2
  go_wp2_with fail
  refine (likeI_yes _ _ n1 _ _ _ _ _ _ (by omega) M2.ints (M1.below b2).ints).mono ?_
  rintro e w' ⟨rfl, m, rfl⟩
  have M2' := M2.drewN m
  go_wp2_with fail
  refine (markI_any _ _ _ _ _ 1 _ (by omega) (by omega) M2').mono ?_
  rintro e w3 ⟨rfl, M3, g3⟩
  go_wp2_with fail
  refine (heldI_yes _ _ _ _ 1 _ (by omega) (by omega) M3.ints).mono ?_
  rintro e w' ⟨rfl, rfl⟩
  go_wp2_with fail
  have s1 := b1.size
  have s2 := b2.size
  have hrow : ∀ g, (Value.slice A2 n1 c2).ownBlock = some g → w1.heap.size ≤ g := fun g hg => (M3.lt g hg).1
  have Y3 := ((M1.ints.below b2).drewN m).grown g3 s2 hrow
  have s3 : w2.heap.size ≤ w3.heap.size := g3.size
  have b13 : Below w.heap.size w w3 := (below_drewN (b1.trans (b2.mono s1)) m).grown g3 (by simp; omega) (fun g hg => Nat.le_trans s1 (hrow g hg))
  clear g3 hrow
  refine (pathOf_any a0 _ hsz).mono ?_
  rintro e w4 ⟨A4, n4, c4, rfl, M4, b4⟩
  have e4 : n1 = n4 := by have := M4.len; have := H1.out; omega
  obtain rfl := e4
  have Y4 := (Y3.more (show _ ≤ w3.heap.size by omega)).below b4
  have M34 := M3.below b4
  have b14 : Below w.heap.size w w4 := b13.trans (b4.mono (by omega))
  go_wp2_with fail
  refine (likeI_yes _ _ n1 _ _ _ _ _ _ (by omega) M4.ints Y4).mono ?_
  rintro e w' ⟨rfl, m4, rfl⟩
  go_wp2_with fail
  refine (heldI_yes _ _ _ _ 1 _ (by omega) (by omega) (M34.drewN m4).ints).mono ?_
  rintro e w' ⟨rfl, rfl⟩
  go_wp2
  go_ret
  exact ⟨rfl, below_drewN b14 m4⟩

/-! ### THE ROW's STEP: WRITTEN OUT: LEAVE IT -/
set_option maxRecDepth 100000 in
theorem lifted (os : Os) (started : os.Started) (H : Type) (enc : TypeId × Value → H) :
    ReturnsInHanded {} Try.checked os 5 .any (Rows.fnExactPathOfSpec.pre6 enc Try.prog Try.f5 Rows.fnExactPathOfRow.domain false) (Rows.fnExactPathOfSpec.post enc Try.prog Try.f5 false true false false) := by
  refine returnsInHanded_of_change (C := Try.checked) own started (by kernel_rfl) Try.func5
    (ChangeSpec.witness6 (enc := enc) (C := Try.checked) false ⟨#[], #[.string ByteArray.empty], []⟩ 8 (by kernel_rfl) (by kernel_rfl) (by kernel_rfl) (by kernel_rfl)) ?_
  intro W base args ds gs before hval0 hW hcnd _
  have hval : ∀ (j : Nat) t v, Try.f5.params[j]? = some t → args[j]? = some v → Value.okWide Try.prog W .any base t v := hval0
  have hW' := hW
  obtain ⟨p, q, hA0, hV, rfl, hfz, hnd⟩ := hW
  have hA : DataW.TrodAll enc Try.prog W 0 (fun _ => true) true Try.f5.params.toList args.toList ds p := hA0
  rw [Try.params5] at hA hval
  obtain ⟨v0, vs0, d0, ds0, p0, q0, hargs, rfl, rfl, h0, r0⟩ := trodAll_cons hA
  obtain ⟨rfl, rfl, rfl⟩ := trodAll_nil r0
  obtain rfl : args = #[v0] := by cases args; simp_all
  obtain ⟨rfl, rfl⟩ := trodVars_none hV
  obtain ⟨a0, rfl, rfl, rfl, w0⟩ := open_string Try.underlying9 (hval 0 9 v0 rfl rfl) h0
  clear hA0 hval0
  refine (walk a0 w0 W).mono fun e W' ⟨he, bel⟩ => ?_
  subst he
  exact ⟨_, rfl, _, _, _, [], _, [], hW', trodAll_mk1 (shut_bool Try.underlying4 _), (trodAll_cons_mk (shut_string Try.underlying9 w0) trodAll_mk0), rfl, bel.frame _, fun h => by cases h⟩

theorem over : Rows.fnExactPathOfRow.holds Try.pinned (OpenSpec.ofChange Rows.fnExactPathOfSpec) :=
  OpenClaim.holds_of_wide 5 Try.f5 rfl rfl rfl rfl rfl rfl rfl ⟨rfl, rfl, rfl, rfl, rfl⟩ rfl rfl rfl rfl rfl (by kernel_rfl) Try.func5 (by kernel_rfl)
    (of_decide_eq_true (by kernel_rfl)) (by unfold Func.isWrapper; first | (rw [if_pos (by decide +kernel)]; kernel_rfl) | (rw [if_neg (by decide +kernel)]; exact ⟨rfl, rfl⟩))
    (fun os started H enc _ => lifted os started H enc)

/-- ████ THE STATEMENT ████ -/
theorem proved : Rows.FnExactPathOfSaid :=
  over
#print axioms proved
end Go.Proofs.Ytmihpobcpblokaa.fnExactPathOf
