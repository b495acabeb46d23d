/- At every name the program's NameBytes is the model's eight bytes, in new memory of its own each time. -/
import Derived.Test.YthehhedmdlephaaRows
import Derived.Test.YthehhedmdlephaaNameB
import Derived.WalkKit
import Derived.ProofKit
import Derived.OpenShut
import Derived.ShutString
namespace Go.Proofs.Ythehhedmdlephaa.fnExactNameBytes
open Go.ChangeShapes Go.WideShapes Go.ChangeAt Go.RowKit
open Go.ChangeMaps (open_string shut_string)
set_option linter.unusedVariables false      -- a walk need not use every 'w<i>' (that an integer argument fits its kind)

theorem own : ownKnob Try.prog.godebug = none := by kernel_rfl

theorem nameBytes_len (x : Int) : (nameBytes x).length ≤ 8 := by
  unfold nameBytes
  split <;> simp [nb]

theorem walk (x : Int) (wf0 : (Lit.int .i64 x).wf = true) (w : World) :
    Calls Try.prog 5 #[.int .i64 x] w fun e w' => e = .returned (.bool true) ∧ Below w.heap.size w w' := by
  clear wf0
  go_enter Try.func5, Try.ntmps5
  go_wp2_with fail
  refine (specBytes_any x _).mono ?_
  rintro e w1 ⟨A1, n1, c1, rfl, M1, b1⟩
  have H1 := Lib.hid M1.len
  have hn1 : n1 ≤ 8 := by have := nameBytes_len x; have := H1.out; omega
  go_wp2_with fail
  refine (bytes_any x _).mono ?_
  rintro e w2 ⟨A2, n2, c2, rfl, M2, b2⟩
  have e2 : n1 = n2 := by have := M2.len; have := H1.out; omega
  obtain rfl := e2
  go_wp2_with fail
  refine (like_yes _ _ n1 _ _ _ _ _ _ (by omega) M2.byts (M1.below b2).byts).mono ?_
  rintro e w' ⟨rfl, m, rfl⟩
  have M2' := M2.drewN m
  go_wp2_with fail
  refine (mark_any _ _ _ _ _ 1 _ (by omega) (by omega) M2').mono ?_
  rintro e w3 ⟨rfl, M3, g3⟩
  go_wp2_with fail
  refine (held_yes _ _ _ _ 1 _ (by omega) (by omega) M3.byts).mono ?_
  rintro e w' ⟨rfl, rfl⟩
  go_wp2_with fail
  have s1 := b1.size
  have s2 := b2.size
  have hrow : ∀ g, (Value.slice A2 n1 c2).ownBlock = some g → w1.heap.size ≤ g := fun g hg => (M3.1.lt g hg).1
  have Y3 := ((M1.byts.below b2).drewN m).grown g3 s2 hrow
  have s3 : w2.heap.size ≤ w3.heap.size := g3.size
  have b13 : Below w.heap.size w w3 := (below_drewN (b1.trans (b2.mono s1)) m).grown g3 (by simp; omega) (fun g hg => Nat.le_trans s1 (hrow g hg))
  clear g3 hrow
  refine (bytes_any x _).mono ?_
  rintro e w4 ⟨A4, n4, c4, rfl, M4, b4⟩
  have e4 : n1 = n4 := by have := M4.len; have := H1.out; omega
  obtain rfl := e4
  have Y4 := (Y3.more (show _ ≤ w3.heap.size by omega)).below b4
  have M34 := M3.below b4
  have b14 : Below w.heap.size w w4 := b13.trans (b4.mono (by omega))
  go_wp2_with fail
  refine (like_yes _ _ n1 _ _ _ _ _ _ (by omega) M4.byts Y4).mono ?_
  rintro e w' ⟨rfl, m4, rfl⟩
  go_wp2_with fail
  refine (held_yes _ _ _ _ 1 _ (by omega) (by omega) (M34.drewN m4).byts).mono ?_
  rintro e w' ⟨rfl, rfl⟩
  go_wp2
  go_ret
  exact ⟨rfl, below_drewN b14 m4⟩

/-! ### THE ROW's STEP: WRITTEN OUT: LEAVE IT -/
set_option maxRecDepth 100000 in
theorem lifted (os : Os) (started : os.Started) (H : Type) (enc : TypeId × Value → H) :
    ReturnsInHanded {} Try.checked os 5 .any (Rows.fnExactNameBytesSpec.pre6 enc Try.prog Try.f5 Rows.fnExactNameBytesRow.domain false) (Rows.fnExactNameBytesSpec.post enc Try.prog Try.f5 false true false false) := by
  refine returnsInHanded_of_change (C := Try.checked) own started (by kernel_rfl) Try.func5
    (ChangeSpec.witness6 (enc := enc) (C := Try.checked) false ⟨#[], #[.int .i64 0], []⟩ 8 (by kernel_rfl) (by kernel_rfl) (by kernel_rfl) (by kernel_rfl)) ?_
  intro W base args ds gs before hval0 hW hcnd _
  have hval : ∀ (j : Nat) t v, Try.f5.params[j]? = some t → args[j]? = some v → Value.okWide Try.prog W .any base t v := hval0
  have hW' := hW
  obtain ⟨p, q, hA0, hV, rfl, hfz, hnd⟩ := hW
  have hA : DataW.TrodAll enc Try.prog W 0 (fun _ => true) true Try.f5.params.toList args.toList ds p := hA0
  rw [Try.params5] at hA hval
  obtain ⟨v0, vs0, d0, ds0, p0, q0, hargs, rfl, rfl, h0, r0⟩ := trodAll_cons hA
  obtain ⟨rfl, rfl, rfl⟩ := trodAll_nil r0
  obtain rfl : args = #[v0] := by cases args; simp_all
  obtain ⟨rfl, rfl⟩ := trodVars_none hV
  obtain ⟨a0, rfl, rfl, rfl, w0⟩ := open_int Try.underlying2 (hval 0 2 v0 rfl rfl) h0
  clear hA0 hval0
  refine (walk a0 w0 W).mono fun e W' ⟨he, bel⟩ => ?_
  subst he
  exact ⟨_, rfl, _, _, _, [], _, [], hW', trodAll_mk1 (shut_bool Try.underlying4 _), (trodAll_cons_mk (shut_int Try.underlying2 w0) trodAll_mk0), rfl, bel.frame _, fun h => by cases h⟩

theorem over : Rows.fnExactNameBytesRow.holds Try.pinned (OpenSpec.ofChange Rows.fnExactNameBytesSpec) :=
  OpenClaim.holds_of_wide 5 Try.f5 rfl rfl rfl rfl rfl rfl rfl ⟨rfl, rfl, rfl, rfl, rfl⟩ rfl rfl rfl rfl rfl (by kernel_rfl) Try.func5 (by kernel_rfl)
    (of_decide_eq_true (by kernel_rfl)) (by unfold Func.isWrapper; first | (rw [if_pos (by decide +kernel)]; kernel_rfl) | (rw [if_neg (by decide +kernel)]; exact ⟨rfl, rfl⟩))
    (fun os started H enc _ => lifted os started H enc)

/-- ████ THE STATEMENT ████ -/
theorem proved : Rows.FnExactNameBytesSaid :=
  over
#print axioms proved
end Go.Proofs.Ythehhedmdlephaa.fnExactNameBytes
