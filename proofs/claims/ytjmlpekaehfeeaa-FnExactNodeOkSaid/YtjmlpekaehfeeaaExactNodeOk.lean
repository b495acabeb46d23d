/- At every node the program's NodeOk answers as the model; it writes into no argument. -/
import Derived.Test.YtjmlpekaehfeeaaRows
import Derived.Test.YtjmlpekaehfeeaaOpenNode
import Derived.Test.YtjmlpekaehfeeaaNodeX
import Derived.Test.YtjmlpekaehfeeaaNodeQ
import Derived.WalkKit
import Derived.ProofKit
import Derived.OpenShut
import Derived.ShutString
import Derived.ChangeOld
import Derived.Below
import Derived.WalkSmall
import Derived.Deep.RegionHeld3
import Derived.Outline
namespace Go.Proofs.Ytjmlpekaehfeeaa.fnExactNodeOk
set_option maxRecDepth 20000
open Go.ChangeShapes Go.WideShapes Go.ChangeAt Go.RowKit
open Go.ChangeMaps (open_string shut_string)
set_option linter.unusedVariables false

theorem own : ownKnob Try.prog.godebug = none := by kernel_rfl
theorem laidOut : laidOutB Try.prog = true := by kernel_rfl

theorem walk (v0 : Value) (x0 : MNode) (w : World) (w0 : NodeArg w v0 x0) :
    Calls Try.prog 6 #[v0] w fun e w' => e = .returned (.bool true) ∧ Below w.heap.size w w' := by
  obtain ⟨Ap, np, cp, Ak, nk, ck, rfl, hnp, hnk, hsz, hp, hk⟩ := w0
  have b0 := (Below.refl w.heap.size w).alloc (Nat.le_refl _) (.cells #[.int .i64 x0.kind, .slice Ap np cp, .slice Ak nk ck, .string x0.val] 53)
  have xb : Box (w.alloc (.cells #[.int .i64 x0.kind, .slice Ap np cp, .slice Ak nk ck, .string x0.val] 53)) w.heap.size _ _ := heap_alloc_new _ _
  have XB := Lib.hid xb
  have B0 := Lib.hid b0
  have HP := Lib.hid hp
  have HK := Lib.hid hk
  clear b0 xb hp hk
  go_enter Try.func6, Try.ntmps6
  go_wp2_with fail
  refine (szNode_any _ _ _ _ _ _ _ _ 1048576 _ hnp hnk hsz (by omega)).mono ?_
  rintro e w1 ⟨rfl, b1⟩
  have s1 := b1.size
  simp at s1
  have XB := Lib.hid (XB.out.below b1 (by simp))
  have B1 := Lib.hid (B0.out.trans (b1.mono (by simp)))
  clear b1
  by_cases hm : np + nk + x0.val.size ≤ 1048576
  · have hleft : leftOf 1048576 (np + nk + x0.val.size) = ((1048576 - (np + nk + x0.val.size) : Nat) : Int) := if_pos hm
    rw [hleft]
    generalize 1048576 - (np + nk + x0.val.size) = left
    have HN : ∀ W : World, Below w.heap.size w W → NodeIn W w.heap.size (.agg #[.int .i64 x0.kind, .slice Ap np cp, .slice Ak nk ck, .string x0.val]) x0 :=
      fun W hb => ⟨Ap, np, cp, Ak, nk, ck, rfl, by omega, by omega, by omega, HP.out.below hb, HK.out.below hb⟩
    have HN := Lib.hid HN
    clear hleft
    have q0 := XB.out.cell 0
    have q1 := XB.out.cell 1
    have q2 := XB.out.cell 2
    have q3 := XB.out.cell 3
    simp at q0 q1 q2 q3
    go_wp2_with fail
    refine (toNode_any _ x0 _ _ B1.out.size (HN.out _ B1.out)).mono ?_
    rintro e w2 ⟨v2, rfl, m2, b2⟩
    clear q0 q1 q2 q3
    have M2 := Lib.hid m2
    have XB := Lib.hid (XB.out.below b2 (by omega))
    have B2 := Lib.hid (B1.out.trans (b2.mono B1.out.size))
    clear m2 b2
    go_wp2_with fail
    refine (specNodeOk_any _ x0 _ _ (Nat.le_refl _) M2.out.node).mono ?_
    rintro e w3 ⟨rfl, b3⟩
    have s3 := B2.out.size
    have XB := Lib.hid (XB.out.below b3 XB.out.lt)
    have B3 := Lib.hid (B2.out.trans (b3.mono B2.out.size))
    clear b3
    have q0 := XB.out.cell 0
    have q1 := XB.out.cell 1
    have q2 := XB.out.cell 2
    have q3 := XB.out.cell 3
    simp at q0 q1 q2 q3
    go_wp2_with fail
    refine (toNode_any _ x0 _ _ B3.out.size (HN.out _ B3.out)).mono ?_
    rintro e w4 ⟨v4, rfl, m4, b4⟩
    clear q0 q1 q2 q3
    have M4 := Lib.hid m4
    have XB := Lib.hid (XB.out.below b4 XB.out.lt)
    have B4 := Lib.hid (B3.out.trans (b4.mono B3.out.size))
    clear m4 b4
    obtain ⟨Ap4, np4, cp4, Ak4, nk4, ck4, rfl, _⟩ := M4.out
    go_wp2_with fail
    have x5 : Box (w4.alloc (.cells #[.int .i64 x0.kind, .slice Ap4 np4 cp4, .slice Ak4 nk4 ck4, .string x0.val] 40)) w4.heap.size _ _ := heap_alloc_new _ _
    have X5 := Lib.hid x5
    have b5 : Below w4.heap.size w4 (w4.alloc (.cells #[.int .i64 x0.kind, .slice Ap4 np4 cp4, .slice Ak4 nk4 ck4, .string x0.val] 40)) := (Below.refl _ _).alloc (Nat.le_refl _) _
    have XB := Lib.hid (XB.out.below b5 XB.out.lt)
    have M5 := Lib.hid (M4.out.below b5)
    have B5 := Lib.hid (B4.out.trans (b5.mono B4.out.size))
    clear b5 x5
    refine (progNodeOk_any _ x0 _ _ (Nat.le_refl _) M5.out.node).mono ?_
    rintro e w6 ⟨rfl, b6⟩
    have X5 := Lib.hid (X5.out.below b6 (by simp))
    have XB := Lib.hid (XB.out.below b6 XB.out.lt)
    have M6 := Lib.hid (M5.out.below b6)
    have B6 := Lib.hid (B5.out.trans (b6.mono B5.out.size))
    clear b6
    go_wp2_with fail
    have l5 := X5.out.lt
    have lb := XB.out.lt
    have s6 := B6.out.size
    have p0 : ∀ W, Below w6.heap.size w6 W → W.cell? ⟨w4.heap.size, 0, none⟩ = some (.int .i64 x0.kind) := fun W hW => (X5.out.below hW l5).cell 0
    have p1 : ∀ W, Below w6.heap.size w6 W → W.cell? ⟨w4.heap.size, 1, none⟩ = some (.slice Ap4 np4 cp4) := fun W hW => (X5.out.below hW l5).cell 1
    have p2 : ∀ W, Below w6.heap.size w6 W → W.cell? ⟨w4.heap.size, 2, none⟩ = some (.slice Ak4 nk4 ck4) := fun W hW => (X5.out.below hW l5).cell 2
    have p3 : ∀ W, Below w6.heap.size w6 W → W.cell? ⟨w4.heap.size, 3, none⟩ = some (.string x0.val) := fun W hW => (X5.out.below hW l5).cell 3
    have q0 : ∀ W, Below w6.heap.size w6 W → W.cell? ⟨w.heap.size, 0, none⟩ = some (.int .i64 x0.kind) := fun W hW => (XB.out.below hW lb).cell 0
    have q1 : ∀ W, Below w6.heap.size w6 W → W.cell? ⟨w.heap.size, 1, none⟩ = some (.slice Ap np cp) := fun W hW => (XB.out.below hW lb).cell 1
    have q2 : ∀ W, Below w6.heap.size w6 W → W.cell? ⟨w.heap.size, 2, none⟩ = some (.slice Ak nk ck) := fun W hW => (XB.out.below hW lb).cell 2
    have q3 : ∀ W, Below w6.heap.size w6 W → W.cell? ⟨w.heap.size, 3, none⟩ = some (.string x0.val) := fun W hW => (XB.out.below hW lb).cell 3
    go_region_held3 (fun W => Below w6.heap.size w6 W) (first | exact (Below.refl _ _).drew | assumption)
      (first
        | (go_at_call 41
           refine (toNode_any _ x0 _ _ (Nat.le_trans s6 (Below.size ‹Below w6.heap.size w6 _›)) (HN.out _ (B6.out.trans (Below.mono ‹Below w6.heap.size w6 _› s6)))).mono ?_
           rintro e w7 ⟨v7, rfl, m7, b7⟩
           have h7 : Below w6.heap.size w6 w7 := Below.trans (by assumption) (Below.mono b7 (Below.size (B := w6.heap.size) (w := w6) (by assumption))))
        | (go_at_call 42
           refine (eqNode_yes _ _ x0 _ _ _ (Nat.le_refl _) (Nat.le_refl _) (OwnN.node (OwnN.below M6.out h7)) (OwnN.node m7)).mono ?_
           rintro e w8 ⟨rfl, b8⟩
           have h8 : Below w6.heap.size w6 w8 := h7.trans (b8.mono h7.size)))
    clear p0 p1 p2 p3 q0 q1 q2 q3
    go_wp2
    go_ret
    exact ⟨rfl, B6.out.trans (h8.mono s6)⟩
  · have hleft : leftOf 1048576 (np + nk + x0.val.size) = -1 := if_neg hm
    rw [hleft]
    go_wp2
    go_ret
    exact ⟨rfl, B1.out⟩

/-! ### THE ROW's STEP -/
set_option maxRecDepth 100000 in
theorem lifted (os : Os) (started : os.Started) (H : Type) (enc : TypeId × Value → H) :
    ReturnsInHanded {} Try.checked os 6 .any (Rows.fnExactNodeOkSpec.pre6 enc Try.prog Try.f6 Rows.fnExactNodeOkRow.domain false) (Rows.fnExactNodeOkSpec.post enc Try.prog Try.f6 false true false false) := by
  refine returnsInHanded_of_change (C := Try.checked) own started (by kernel_rfl) Try.func6
    (ChangeSpec.witness6 (enc := enc) (C := Try.checked) false ⟨#[], #[.agg #[.int .i64 0, .slice none 0 0, .slice none 0 0, .string ⟨#[]⟩]], []⟩ 8 (by kernel_rfl) (by kernel_rfl) (by kernel_rfl) (by kernel_rfl)) ?_
  intro W base args ds gs before hval0 hW hcnd _
  have hval : ∀ (j : Nat) t v, Try.f6.params[j]? = some t → args[j]? = some v → Value.okWide Try.prog W .any base t v := hval0
  have hW' := hW
  obtain ⟨p, q, hA0, hV, rfl, hfz, hnd⟩ := hW
  have hA : DataW.TrodAll enc Try.prog W 0 (fun _ => true) true Try.f6.params.toList args.toList ds p := hA0
  rw [Try.params6] at hA hval
  obtain ⟨v0, vs0, d0, ds0, p0, q0, hargs, rfl, rfl, h0, r0⟩ := trodAll_cons hA
  obtain ⟨rfl, rfl, rfl⟩ := trodAll_nil r0
  obtain rfl : args = #[v0] := by cases args; simp_all
  obtain ⟨rfl, rfl⟩ := trodVars_none hV
  have k0 := h0
  have lt0 : ∀ x ∈ p0, x.block < W.heap.size := by obtain ⟨m, hm⟩ := k0; exact DataW.trod_lt m _ _ _ hm
  obtain ⟨x0, w0⟩ := open_node (hval 0 53 v0 rfl rfl) h0
  clear hA0 hval0
  refine (walk v0 x0 W w0).mono fun e W' ⟨he, bel⟩ => ?_
  subst he
  exact ⟨_, rfl, _, _, _, [], _, [], hW', trodAll_mk1 (shut_bool Try.underlying4 _), (trodAll_cons_mk (Below.trod laidOut (by kernel_rfl) (of_decide_eq_true (by kernel_rfl)) k0 bel lt0) trodAll_mk0), rfl, bel.frame _, fun h => by cases h⟩

theorem over : Rows.fnExactNodeOkRow.holds Try.pinned (OpenSpec.ofChange Rows.fnExactNodeOkSpec) :=
  OpenClaim.holds_of_wide 6 Try.f6 rfl rfl rfl rfl rfl rfl rfl ⟨rfl, rfl, rfl, rfl, rfl⟩ rfl rfl rfl rfl rfl (by kernel_rfl) Try.func6 (by kernel_rfl)
    (of_decide_eq_true (by kernel_rfl)) (by unfold Func.isWrapper; first | (rw [if_pos (by decide +kernel)]; kernel_rfl) | (rw [if_neg (by decide +kernel)]; exact ⟨rfl, rfl⟩))
    (fun os started H enc _ => lifted os started H enc)

/-- THE STATEMENT -/
theorem proved : Rows.FnExactNodeOkSaid := over
#print axioms proved
end Go.Proofs.Ytjmlpekaehfeeaa.fnExactNodeOk
