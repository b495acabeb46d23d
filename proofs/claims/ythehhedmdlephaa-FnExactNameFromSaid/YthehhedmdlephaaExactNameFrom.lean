/- At every slice of bytes of at most 2^20 the program's NameFrom is the model's, and the argument is not written into; longer ones the law lets by. -/
import Derived.Test.YthehhedmdlephaaRows
import Derived.Test.YthehhedmdlephaaNameF
import Derived.WalkKit
import Derived.ProofKit
import Derived.OpenShut
import Derived.ShutString
import Derived.ChangeOld
import Derived.Below
import Derived.WalkSmall
import Derived.Outline
namespace Go.Proofs.Ythehhedmdlephaa.fnExactNameFrom
open Go.ChangeShapes Go.WideShapes Go.ChangeAt Go.RowKit
open Go.ChangeMaps (open_string shut_string)
set_option linter.unusedVariables false

theorem own : ownKnob Try.prog.godebug = none := by kernel_rfl
theorem laidOut : laidOutB Try.prog = true := by kernel_rfl

theorem walk0 (A : Option Addr) (n c : Nat) (zs : List Int) (v : Int) (b : Bool) (w : World) (hn : n ≤ 1048576) (hb : Byts w w.heap.size A n zs)
    (hs : ∀ g w1, Byts w1 w1.heap.size (some ⟨g, 0, none⟩) n zs → Calls Try.prog 13 #[.slice (some ⟨g, 0, none⟩) n n] w1 fun e w' => e = .returned (.tuple #[.int .i64 v, .bool b]) ∧ w1 = w')
    (hi : ∀ g w1, Byts w1 w1.heap.size (some ⟨g, 0, none⟩) n zs → Calls Try.prog 12 #[.slice (some ⟨g, 0, none⟩) n n] w1 fun e w' => e = .returned (.tuple #[.int .i64 v, .bool b]) ∧ w1 = w') :
    Calls Try.prog 6 #[.slice A n c] w fun e w' => e = .returned (.bool true) ∧ Below w.heap.size w w' := by
  have HB := Lib.hid hb
  have HZ := Lib.hid hb.1
  have HS := Lib.hid hs
  have HI := Lib.hid hi
  clear hb hs hi
  go_enter Try.func6, Try.ntmps6
  go_wp2_with fail
  refine (copy_own A n c zs _ _ (by omega) (Nat.le_refl _) HB.out).mono ?_
  rintro e w1 ⟨g1, rfl, l1, R1, b1⟩
  go_wp2_with fail
  refine (HS.out g1 _ (R1.byts HZ.out)).mono ?_
  rintro e w' ⟨rfl, rfl⟩
  go_wp2_with fail
  have s1 := b1.size
  refine (copy_own A n c zs w.heap.size _ (by omega) s1 (HB.out.below b1)).mono ?_
  rintro e w2 ⟨g2, rfl, l2, R2, b2⟩
  go_wp2_with fail
  refine (HI.out g2 _ (R2.byts HZ.out)).mono ?_
  rintro e w' ⟨rfl, rfl⟩
  go_wp2_with fail
  have s2 := b2.size
  have b12 := b1.trans (b2.mono s1)
  refine (copy_own A n c zs w.heap.size _ (by omega) (by omega) (HB.out.below b12)).mono ?_
  rintro e w3 ⟨g3, rfl, l3, R3, b3⟩
  go_wp2_with fail
  have b13 := b12.trans (b3.mono (by omega))
  refine (like_yes _ _ n _ _ zs _ _ _ (by omega) ((R2.below b3 R2.lt).byts HZ.out) (R3.byts HZ.out)).mono ?_
  rintro e w' ⟨rfl, m, rfl⟩
  go_wp2
  go_ret
  exact ⟨rfl, below_drewN b13 _⟩

theorem walk (a0 : Option Addr) (len0 cap0 : Nat) (z0 : List Int) (w : World) (w0 : IsRow .u8 w a0 len0 cap0 z0) :
    Calls Try.prog 6 #[.slice a0 len0 cap0] w fun e w' => e = .returned (.bool true) ∧ Below w.heap.size w w' := by
  have hle := w0.len_le
  by_cases hbig : 1048576 < len0
  · clear w0
    go_enter Try.func6, Try.ntmps6
    go_wp2
    go_ret
    exact ⟨rfl, Below.refl _ _⟩
  · have hb := w0.byts
    generalize z0.take len0 = zs at hb
    by_cases h8 : len0 = 8
    · subst h8
      by_cases h7 : zs[7]?.getD 0 ≤ (127 : Int)
      · exact walk0 a0 8 cap0 zs _ _ w (by omega) hb (fun g w1 h => specFrom_yes _ _ zs _ w1 h h7) (fun g w1 h => from_yes _ _ zs _ w1 h h7)
      · exact walk0 a0 8 cap0 zs _ _ w (by omega) hb (fun g w1 h => specFrom_high _ _ zs _ w1 h (by omega)) (fun g w1 h => from_high _ _ zs _ w1 h (by omega))
    · exact walk0 a0 len0 cap0 zs _ _ w (by omega) hb (fun g w1 _ => specFrom_no_len _ _ _ w1 h8) (fun g w1 _ => from_no_len _ _ _ w1 h8)

/-! ### THE ROW's STEP: WRITTEN OUT: LEAVE IT -/
set_option maxRecDepth 100000 in
theorem lifted (os : Os) (started : os.Started) (H : Type) (enc : TypeId × Value → H) :
    ReturnsInHanded {} Try.checked os 6 .any (Rows.fnExactNameFromSpec.pre6 enc Try.prog Try.f6 Rows.fnExactNameFromRow.domain false) (Rows.fnExactNameFromSpec.post enc Try.prog Try.f6 false true false false) := by
  refine returnsInHanded_of_change (C := Try.checked) own started (by kernel_rfl) Try.func6
    (ChangeSpec.witness6 (enc := enc) (C := Try.checked) false ⟨#[], #[.slice none 0 0], []⟩ 8 (by kernel_rfl) (by kernel_rfl) (by kernel_rfl) (by kernel_rfl)) ?_
  intro W base args ds gs before hval0 hW hcnd _
  have hval : ∀ (j : Nat) t v, Try.f6.params[j]? = some t → args[j]? = some v → Value.okWide Try.prog W .any base t v := hval0
  have hW' := hW
  obtain ⟨p, q, hA0, hV, rfl, hfz, hnd⟩ := hW
  have hA : DataW.TrodAll enc Try.prog W 0 (fun _ => true) true Try.f6.params.toList args.toList ds p := hA0
  rw [Try.params6] at hA hval
  obtain ⟨v0, vs0, d0, ds0, p0, q0, hargs, rfl, rfl, h0, r0⟩ := trodAll_cons hA
  obtain ⟨rfl, rfl, rfl⟩ := trodAll_nil r0
  obtain rfl : args = #[v0] := by cases args; simp_all
  obtain ⟨rfl, rfl⟩ := trodVars_none hV
  obtain ⟨a0, len0, cap0, rfl⟩ := okWide_slice Try.underlying22 (hval 0 22 v0 rfl rfl)
  have k0 := h0
  have lt0 : ∀ x ∈ p0, x.block < W.heap.size := by obtain ⟨m, hm⟩ := k0; exact DataW.trod_lt m _ _ _ hm
  obtain ⟨z0, w0⟩ : ∃ zs, IsRow .u8 W a0 len0 cap0 zs := by
    obtain ⟨fuel, hf⟩ := h0
    rcases open_ints Try.underlying22 Try.underlying5 (by kernel_rfl) hf with ⟨hcs, _⟩ | ⟨x, l, c, zs, hcs, _, hl, hm, hz, _, hcell, hwz⟩
    · simp [Value.cells] at hcs
      obtain ⟨rfl, rfl, rfl⟩ := hcs
      exact ⟨[], .inl ⟨rfl, rfl, rfl, rfl⟩⟩
    · simp [Value.cells] at hcs
      obtain ⟨rfl, rfl, rfl⟩ := hcs
      exact ⟨zs, .inr ⟨_, rfl, hl, hm, by simpa using hz, hcell, hwz⟩⟩
  clear hA0 hval0
  refine (walk a0 len0 cap0 z0 W w0).mono fun e W' ⟨he, bel⟩ => ?_
  subst he
  exact ⟨_, rfl, _, _, _, [], _, [], hW', trodAll_mk1 (shut_bool Try.underlying4 _), (trodAll_cons_mk (Below.trod laidOut (by kernel_rfl) (of_decide_eq_true (by kernel_rfl)) k0 bel lt0) trodAll_mk0), rfl, bel.frame _, fun h => by cases h⟩

theorem over : Rows.fnExactNameFromRow.holds Try.pinned (OpenSpec.ofChange Rows.fnExactNameFromSpec) :=
  OpenClaim.holds_of_wide 6 Try.f6 rfl rfl rfl rfl rfl rfl rfl ⟨rfl, rfl, rfl, rfl, rfl⟩ rfl rfl rfl rfl rfl (by kernel_rfl) Try.func6 (by kernel_rfl)
    (of_decide_eq_true (by kernel_rfl)) (by unfold Func.isWrapper; first | (rw [if_pos (by decide +kernel)]; kernel_rfl) | (rw [if_neg (by decide +kernel)]; exact ⟨rfl, rfl⟩))
    (fun os started H enc _ => lifted os started H enc)

/-- ████ THE STATEMENT ████ -/
theorem proved : Rows.FnExactNameFromSaid := over
#print axioms proved
end Go.Proofs.Ythehhedmdlephaa.fnExactNameFrom
