/- At every change the program's ChangeOk answers as the model's does; its argument is not written into. -/
import Derived.Test.YtebfinedkjlbbaaRows
import Derived.Test.YtebfinedkjlbbaaPkH
import Derived.WalkKit
import Derived.ProofKit
import Derived.OpenShut
import Derived.ShutString
import Derived.ChangeOld
import Derived.Below
import Derived.WalkSmall
import Derived.Deep.RegionHeld3
import Derived.Outline
namespace Go.Proofs.Ytebfinedkjlbbaa.fnExactChangeOk
set_option maxRecDepth 20000
set_option linter.unusedSimpArgs false
open Go.ChangeShapes Go.WideShapes Go.ChangeAt Go.RowKit
open Go.ChangeMaps (open_string shut_string)
set_option linter.unusedVariables false

theorem own : ownKnob Try.prog.godebug = none := by kernel_rfl
theorem laidOut : laidOutB Try.prog = true := by kernel_rfl

theorem walk (v0 : Value) (x0 : MChg) (w : World) (w0 : ChgArg w v0 x0) :
    Calls Try.prog 5 #[v0] w fun e w' => e = .returned (.bool true) ∧ Below w.heap.size w w' := by
  obtain ⟨A, n, c, rfl, hn, hc, hA, hb⟩ := w0
  have b0 := (Below.refl w.heap.size w).alloc (Nat.le_refl _) (.cells #[.int .i64 x0.kind, .int .i64 x0.name, .slice A n c] 41)
  have xb : Box (w.alloc (.cells #[.int .i64 x0.kind, .int .i64 x0.name, .slice A n c] 41)) w.heap.size _ _ := heap_alloc_new _ _
  have XB := Lib.hid xb
  have B0 := Lib.hid b0
  have HB := Lib.hid hb
  have hlen := hb.1
  clear b0 xb hb
  go_enter Try.func5, Try.ntmps5
  go_wp2_with fail
  refine (szChange_any x0 A n c 1048576 _ hn (by omega)).mono ?_
  rintro e w1 ⟨rfl, b1⟩
  have s1 := b1.size
  simp at s1
  have XB := Lib.hid (XB.out.below b1 (by simp))
  have B1 := Lib.hid (B0.out.trans (b1.mono (by simp)))
  clear b1
  by_cases hm : n ≤ 1048576
  · rw [if_pos hm]
    have HN := Lib.hid (fun (W : World) (hW : Below w.heap.size w W) => HB.out.below hW)
    generalize 1048576 - n = left
    have q0 := XB.out.cell 0
    have q1 := XB.out.cell 1
    have q2 := XB.out.cell 2
    simp at q0 q1 q2
    go_wp2_with fail
    refine (toChange_any x0 A n c _ _ hm B1.out.size (HN.out _ B1.out)).mono ?_
    rintro e w2 ⟨A2, n2, c2, rfl, m2, b2⟩
    obtain rfl : n2 = n := m2.len.symm.trans hlen
    clear q0 q1 q2
    have M2 := Lib.hid m2
    have XB := Lib.hid (XB.out.below b2 (by omega))
    have B2 := Lib.hid (B1.out.trans (b2.mono B1.out.size))
    clear m2 b2
    go_wp2_with fail
    refine (specChangeOk_any x0 _ _ _ _ _ hm (mine_cap M2.out) (Nat.le_refl _) M2.out.byts).mono ?_
    rintro e w3 ⟨r3, rfl, hr3, b3⟩
    have R3 := Lib.hid hr3
    have s3 := B2.out.size
    have XB := Lib.hid (XB.out.below b3 XB.out.lt)
    have B3 := Lib.hid (B2.out.trans (b3.mono B2.out.size))
    clear b3 hr3
    have q0 := XB.out.cell 0
    have q1 := XB.out.cell 1
    have q2 := XB.out.cell 2
    simp at q0 q1 q2
    go_wp2_with fail
    refine (toChange_any x0 A _ c _ _ hm B3.out.size (HN.out _ B3.out)).mono ?_
    rintro e w4 ⟨A4, n4, c4, rfl, m4, b4⟩
    obtain rfl : n4 = n2 := m4.len.symm.trans hlen
    clear q0 q1 q2
    have M4 := Lib.hid m4
    have XB := Lib.hid (XB.out.below b4 XB.out.lt)
    have B4 := Lib.hid (B3.out.trans (b4.mono B3.out.size))
    clear m4 b4
    go_wp2_with fail
    have x5 : Box (w4.alloc (.cells #[.int .i64 x0.kind, .int .i64 x0.name, .slice A4 n4 c4] 44)) w4.heap.size _ _ := heap_alloc_new _ _
    have X5 := Lib.hid x5
    have b5 : Below w4.heap.size w4 (w4.alloc (.cells #[.int .i64 x0.kind, .int .i64 x0.name, .slice A4 n4 c4] 44)) := (Below.refl _ _).alloc (Nat.le_refl _) _
    have XB := Lib.hid (XB.out.below b5 XB.out.lt)
    have M5 := Lib.hid (M4.out.below b5)
    have B5 := Lib.hid (B4.out.trans (b5.mono B4.out.size))
    clear b5 x5
    refine (implChangeOk_any x0 _ _ _ _ _ hm (mine_cap M5.out) (mine_none M5.out) (Nat.le_refl _) M5.out.byts).mono ?_
    rintro e w6 ⟨r6, rfl, hr6, b6⟩
    have hrr : r6 = r3 := by
      have h := hr6.trans R3.out.symm
      cases r6 <;> cases r3 <;> simp_all
    obtain rfl := hrr
    have X5 := Lib.hid (X5.out.below b6 (by simp))
    have XB := Lib.hid (XB.out.below b6 XB.out.lt)
    have M6 := Lib.hid (M5.out.below b6)
    have B6 := Lib.hid (B5.out.trans (b6.mono B5.out.size))
    clear b6 hr6 R3
    have hne : (r6 != r6) = false := by simp
    have hl5 := X5.out.lt
    have hlb := XB.out.lt
    have s6 := B6.out.size
    cases r6
    all_goals
      go_wp2_with fail
      have p0 : ∀ W, Below w6.heap.size w6 W → W.cell? ⟨w4.heap.size, 0, none⟩ = some (.int .i64 x0.kind) := fun W hW => (X5.out.below hW hl5).cell 0
      have p1 : ∀ W, Below w6.heap.size w6 W → W.cell? ⟨w4.heap.size, 1, none⟩ = some (.int .i64 x0.name) := fun W hW => (X5.out.below hW hl5).cell 1
      have p2 : ∀ W, Below w6.heap.size w6 W → W.cell? ⟨w4.heap.size, 2, none⟩ = some (.slice A4 n4 c4) := fun W hW => (X5.out.below hW hl5).cell 2
      have q0 : ∀ W, Below w6.heap.size w6 W → W.cell? ⟨w.heap.size, 0, none⟩ = some (.int .i64 x0.kind) := fun W hW => (XB.out.below hW hlb).cell 0
      have q1 : ∀ W, Below w6.heap.size w6 W → W.cell? ⟨w.heap.size, 1, none⟩ = some (.int .i64 x0.name) := fun W hW => (XB.out.below hW hlb).cell 1
      have q2 : ∀ W, Below w6.heap.size w6 W → W.cell? ⟨w.heap.size, 2, none⟩ = some (.slice A n4 c) := fun W hW => (XB.out.below hW hlb).cell 2
      go_region_held3 (fun W => Below w6.heap.size w6 W) (first | exact (Below.refl _ _).drew | assumption)
        (first
          | (go_at_call 32
             refine (toChange_any x0 A n4 c _ _ hm (Nat.le_trans s6 (Below.size ‹Below w6.heap.size w6 _›)) (HN.out _ (B6.out.trans (Below.mono ‹Below w6.heap.size w6 _› s6)))).mono ?_
             rintro e w7 ⟨A7, n7, c7, rfl, m7, b7⟩
             obtain rfl : n7 = n4 := m7.len.symm.trans hlen
             have h7 : Below w6.heap.size w6 w7 := Below.trans (by assumption) (Below.mono b7 (Below.size (B := w6.heap.size) (w := w6) (by assumption))))
          | (go_at_call 34
             refine (eqChange_yes x0 _ _ _ _ _ _ _ _ hm (Nat.le_refl _) (Nat.le_refl _) (Mine.byts (Mine.below M6.out h7)) m7.byts).mono ?_
             rintro e w8 ⟨rfl, b8⟩
             have h8 : Below w6.heap.size w6 w8 := h7.trans (b8.mono h7.size)))
      clear p0 p1 p2 q0 q1 q2
      go_wp2
      go_ret
      exact ⟨rfl, B6.out.trans (h8.mono s6)⟩
  · rw [if_neg hm]
    go_wp2
    go_ret
    exact ⟨rfl, B1.out⟩

/-! ### THE ROW's STEP -/
set_option maxRecDepth 100000 in
theorem lifted (os : Os) (started : os.Started) (H : Type) (enc : TypeId × Value → H) :
    ReturnsInHanded {} Try.checked os 5 .any (Rows.fnExactChangeOkSpec.pre6 enc Try.prog Try.f5 Rows.fnExactChangeOkRow.domain false) (Rows.fnExactChangeOkSpec.post enc Try.prog Try.f5 false true false false) := by
  refine returnsInHanded_of_change (C := Try.checked) own started (by kernel_rfl) Try.func5
    (ChangeSpec.witness6 (enc := enc) (C := Try.checked) false ⟨#[], #[.agg #[.int .i64 0, .int .i64 0, .slice none 0 0]], []⟩ 8 (by kernel_rfl) (by kernel_rfl) (by kernel_rfl) (by kernel_rfl)) ?_
  intro W base args ds gs before hval0 hW hcnd _
  have hval : ∀ (j : Nat) t v, Try.f5.params[j]? = some t → args[j]? = some v → Value.okWide Try.prog W .any base t v := hval0
  have hW' := hW
  obtain ⟨p, q, hA0, hV, rfl, hfz, hnd⟩ := hW
  have hA : DataW.TrodAll enc Try.prog W 0 (fun _ => true) true Try.f5.params.toList args.toList ds p := hA0
  rw [Try.params5] at hA hval
  obtain ⟨v0, vs0, d0, ds0, p0, q0, hargs, rfl, rfl, h0, r0⟩ := trodAll_cons hA
  obtain ⟨rfl, rfl, rfl⟩ := trodAll_nil r0
  obtain rfl : args = #[v0] := by cases args; simp_all
  obtain ⟨rfl, rfl⟩ := trodVars_none hV
  have k0 := h0
  have lt0 : ∀ x ∈ p0, x.block < W.heap.size := by obtain ⟨m, hm⟩ := k0; exact DataW.trod_lt m _ _ _ hm
  obtain ⟨x0, w0⟩ := open_chg (hval 0 41 v0 rfl rfl) h0
  clear hA0 hval0
  refine (walk v0 x0 W w0).mono fun e W' ⟨he, bel⟩ => ?_
  subst he
  exact ⟨_, rfl, _, _, _, [], _, [], hW', trodAll_mk1 (shut_bool Try.underlying4 _), (trodAll_cons_mk (Below.trod laidOut (by kernel_rfl) (of_decide_eq_true (by kernel_rfl)) k0 bel lt0) trodAll_mk0), rfl, bel.frame _, fun h => by cases h⟩

theorem over : Rows.fnExactChangeOkRow.holds Try.pinned (OpenSpec.ofChange Rows.fnExactChangeOkSpec) :=
  OpenClaim.holds_of_wide 5 Try.f5 rfl rfl rfl rfl rfl rfl rfl ⟨rfl, rfl, rfl, rfl, rfl⟩ rfl rfl rfl rfl rfl (by kernel_rfl) Try.func5 (by kernel_rfl)
    (of_decide_eq_true (by kernel_rfl)) (by unfold Func.isWrapper; first | (rw [if_pos (by decide +kernel)]; kernel_rfl) | (rw [if_neg (by decide +kernel)]; exact ⟨rfl, rfl⟩))
    (fun os started H enc _ => lifted os started H enc)

/-- THE STATEMENT -/
theorem proved : Rows.FnExactChangeOkSaid := over
#print axioms proved
end Go.Proofs.Ytebfinedkjlbbaa.fnExactChangeOk
