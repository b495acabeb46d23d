/- At every draw the law on paths holds: the program's PathOf, KeyOf, CommonOf and KeyOk answer as the model, and the key of the path of a key is the key. -/
import Derived.Test.YtjmlpekaehfeeaaRows
import Derived.Test.YtjmlpekaehfeeaaPathK
import Derived.Test.YtjmlpekaehfeeaaPathS
import Derived.Test.YtjmlpekaehfeeaaLikeI
import Derived.Test.YtjmlpekaehfeeaaBig
import Derived.Test.YtjmlpekaehfeeaaDraw2C
import Derived.Test.YtjmlpekaehfeeaaKeyDraw
import Derived.WalkKit
import Derived.ProofKit
import Derived.OpenShut
import Derived.ShutString
import Derived.ChangeOld
import Derived.Below
import Derived.WalkSmall
import Derived.Outline
namespace Go.Proofs.Ytjmlpekaehfeeaa.fnPaths
set_option maxRecDepth 20000
open Go.ChangeShapes Go.WideShapes Go.ChangeAt Go.RowKit
open Go.ChangeMaps (open_string shut_string)
set_option linter.unusedVariables false

theorem own : ownKnob Try.prog.godebug = none := by kernel_rfl
theorem laidOut : laidOutB Try.prog = true := by kernel_rfl

/-- a world that only drew is as it was. -/
theorem drew_below {w w' : World} (h : ∃ m, w' = w.drewN m) : Below w.heap.size w w' := by
  obtain ⟨m, rfl⟩ := h
  exact below_drewN (Below.refl _ _) m

theorem walk0 (A : Option Addr) (n c : Nat) (cs : List Int) (w : World) (hn : n ≤ 4096) (hb : Byts w w.heap.size A n cs) :
    Calls Try.prog 3 #[.slice A n c] w fun e w' => e = .returned (.bool true) ∧ Below w.heap.size w w' := by
  have HB := Lib.hid hb
  clear hb
  go_enter Try.func3, Try.ntmps3
  go_wp2_with fail
  refine (big_no _ _ _ _ hn).mono ?_
  rintro e w' ⟨rfl, rfl⟩
  go_wp2_with fail
  refine (drawPathOf_any _ _ _ cs _ hn HB.out).mono ?_
  rintro e w1 ⟨s, hs, rfl, b1⟩
  have hs' : s.size ≤ 1048576 := by omega
  have B1 := Lib.hid b1
  clear b1
  go_wp2_with fail
  refine (pathOf_any s _ hs').mono ?_
  rintro e w2 ⟨A2, n2, c2, rfl, m2, b2⟩
  have M2 := Lib.hid m2
  have hl2 := m2.len
  have hle2 := pathOf_len (sb s)
  have B2 := Lib.hid (B1.out.trans (b2.mono B1.out.size))
  clear m2 b2
  go_wp2_with fail
  refine (drawKeyOf_any _ _ _ cs _ hn ((HB.out.below B2.out).more B2.out.size)).mono ?_
  rintro e w3 ⟨A3, n3, c3, ls, hn3, rfl, m3, b3⟩
  have M2 := Lib.hid (M2.out.below b3)
  have M3 := Lib.hid m3
  have B3 := Lib.hid (B2.out.trans (b3.mono B2.out.size))
  clear m3 b3
  go_wp2_with fail
  refine (drawCommonOf_any _ _ _ cs _ hn ((HB.out.below B3.out).more B3.out.size)).mono ?_
  rintro e w4 ⟨A4, n4, c4, xs, A5, n5, c5, ys, hn4, hn5, rfl, m4, m5, b4⟩
  have M2 := Lib.hid (M2.out.below b4)
  have M3 := Lib.hid (M3.out.below b4)
  have M4 := Lib.hid m4
  have M5 := Lib.hid m5
  have hl4 := m4.len
  have B4 := Lib.hid (B3.out.trans (b4.mono B3.out.size))
  clear m4 m5 b4
  go_wp2_with fail
  refine (roll_any _ _ _ cs _ _ hn ((HB.out.below B4.out).more B4.out.size)).mono ?_
  rintro e w5 ⟨g, rfl, d5, b5⟩
  have D5 := Lib.hid d5
  have hge := d5.ge
  have B5 := Lib.hid b5
  clear d5 b5
  go_wp2_with fail
  refine (key_any _ _ _ D5.out).mono ?_
  rintro e w6 ⟨ks, hk, hk5, hkb, rfl, d6, g6⟩
  have T6 := Lib.hid (B5.out.trans (grown_below g6 B5.out.size hge))
  have B6 := Lib.hid (B4.out.trans (T6.out.mono B4.out.size))
  have M2 := Lib.hid (M2.out.below T6.out)
  have M3 := Lib.hid (M3.out.below T6.out)
  have M4 := Lib.hid (M4.out.below T6.out)
  have M5 := Lib.hid (M5.out.below T6.out)
  have hksz : (strOfNums ks).size ≤ 1048576 := by rw [strOfNums_size]; omega
  have KS := Lib.hid (strOfNums_size ks)
  have SB := Lib.hid (sb_str ks hkb)
  have KP := Lib.hid (keyOf_pathOf ks hk)
  have HK := Lib.hid hk
  have KL : (pathOf ks).length = ks.length := by unfold pathOf; rw [if_pos hk]; simp
  have KL := Lib.hid KL
  clear d6 g6 hk hkb T6 B5 D5
  -- likeInts(p, spec.PathOf(s))
  go_wp2_with fail
  refine (specPathOf_any s _ hs').mono ?_
  rintro e w7 ⟨A7, n7, c7, rfl, m7, b7⟩
  have e7 : n7 = n2 := m7.len.symm.trans hl2
  obtain rfl := e7
  have M2 := Lib.hid (M2.out.below b7)
  have M3 := Lib.hid (M3.out.below b7)
  have M4 := Lib.hid (M4.out.below b7)
  have M5 := Lib.hid (M5.out.below b7)
  have M7 := Lib.hid m7
  have B7 := Lib.hid (B6.out.trans (b7.mono B6.out.size))
  clear m7 b7
  go_wp2_with fail
  refine (likeInts_yes _ _ _ _ _ (pathOf (sb s)) _ _ _ (by omega) M2.out.ints M7.out.ints).mono ?_
  rintro e w8 ⟨rfl, h8⟩
  have b8 := drew_below h8
  clear h8
  have M3 := Lib.hid (M3.out.below b8)
  have M4 := Lib.hid (M4.out.below b8)
  have M5 := Lib.hid (M5.out.below b8)
  have B8 := Lib.hid (B7.out.trans (b8.mono B7.out.size))
  clear M2 M7
  -- impl.KeyOf(l) == spec.KeyOf(l)
  go_wp2_with fail
  refine (keyOf_any _ _ _ ls _ _ (by omega) (Nat.le_refl _) M3.out.ints).mono ?_
  rintro e w9 ⟨rfl, b9⟩
  have M3 := Lib.hid (M3.out.below b9)
  have M4 := Lib.hid (M4.out.below b9)
  have M5 := Lib.hid (M5.out.below b9)
  have B9 := Lib.hid (B8.out.trans (b9.mono B8.out.size))
  clear b9
  go_wp2_with fail
  refine (specKeyOf_any _ _ _ ls _ _ (by omega) M3.out.ints).mono ?_
  rintro e w10 ⟨rfl, h10⟩
  have b10 := drew_below h10
  clear h10
  have M4 := Lib.hid (M4.out.below b10)
  have M5 := Lib.hid (M5.out.below b10)
  have B10 := Lib.hid (B9.out.trans (b10.mono B9.out.size))
  clear M3
  -- impl.CommonOf(a, b) == spec.CommonOf(a, b)
  go_wp2_with fail
  refine (common_any _ _ _ _ _ _ xs ys _ _ _ (by omega) (by omega) M4.out.ints M5.out.ints).mono ?_
  rintro e w11 ⟨rfl, h11⟩
  have b11 := drew_below h11
  clear h11
  have M4 := Lib.hid (M4.out.below b11)
  have M5 := Lib.hid (M5.out.below b11)
  have B11 := Lib.hid (B10.out.trans (b11.mono B10.out.size))
  go_wp2_with fail
  refine (specCommon_any _ _ _ _ _ _ xs ys _ _ _ (by omega) (by omega) M4.out.ints M5.out.ints).mono ?_
  rintro e w12 ⟨rfl, h12⟩
  have b12 := drew_below h12
  clear h12
  have M4 := Lib.hid (M4.out.below b12)
  have B12 := Lib.hid (B11.out.trans (b12.mono B11.out.size))
  clear M5
  -- impl.KeyOk(s) == spec.KeyOk(s)
  go_wp2_with fail
  refine (keyOk_any s _ hs').mono ?_
  rintro e w13 ⟨rfl, b13⟩
  have M4 := Lib.hid (M4.out.below b13)
  have B13 := Lib.hid (B12.out.trans (b13.mono B12.out.size))
  clear b13
  go_wp2_with fail
  refine (specKeyOk_any s _ hs').mono ?_
  rintro e w' ⟨rfl, rfl⟩
  -- impl.KeyOf(impl.PathOf(k)) == k
  go_wp2_with fail
  refine (pathOf_any (strOfNums ks) _ hksz).mono ?_
  rintro e w14 ⟨A14, n14, c14, rfl, m14, b14⟩
  rw [SB.out] at m14
  have M14 := Lib.hid m14
  have e14 : n14 = ks.length := m14.len.symm.trans KL.out
  obtain rfl := e14
  have M4 := Lib.hid (M4.out.below b14)
  have B14 := Lib.hid (B13.out.trans (b14.mono B13.out.size))
  clear m14 b14
  go_wp2_with fail
  refine (keyOf_any _ _ _ (pathOf ks) _ _ (by omega) (Nat.le_refl _) M14.out.ints).mono ?_
  rintro e w15 ⟨rfl, b15⟩
  rw [KP.out]
  have M4 := Lib.hid (M4.out.below b15)
  have B15 := Lib.hid (B14.out.trans (b15.mono B14.out.size))
  clear b15 M14
  -- len(impl.PathOf(k)) == len(k)
  go_wp2_with fail
  refine (pathOf_any (strOfNums ks) _ hksz).mono ?_
  rintro e w16 ⟨A16, n16, c16, rfl, m16, b16⟩
  rw [SB.out] at m16
  have e16 : n16 = ks.length := m16.len.symm.trans KL.out
  obtain rfl := e16
  have M4 := Lib.hid (M4.out.below b16)
  have B16 := Lib.hid (B15.out.trans (b16.mono B15.out.size))
  have hsz16 : (strOfNums ks).size = ks.length := KS.out
  clear m16 b16
  -- impl.CommonOf(a, a) == len(a)
  go_wp2_with fail
  refine (common_any _ _ _ _ _ _ xs xs _ _ _ (by omega) (by omega) M4.out.ints M4.out.ints).mono ?_
  rintro e w' ⟨rfl, m17, rfl⟩
  rw [com_self, hl4]
  go_wp2
  go_ret
  exact ⟨rfl, below_drewN B16.out m17⟩

theorem walk (a0 : Option Addr) (len0 cap0 : Nat) (z0 : List Int) (w : World) (w0 : IsRow .u8 w a0 len0 cap0 z0) :
    Calls Try.prog 3 #[.slice a0 len0 cap0] w fun e w' => e = .returned (.bool true) ∧ Below w.heap.size w w' := by
  by_cases hn : len0 ≤ 4096
  · exact walk0 a0 len0 cap0 _ w hn w0.byts
  · go_enter Try.func3, Try.ntmps3
    go_wp2_with fail
    refine (big_yes _ _ _ _ (by omega)).mono ?_
    rintro e w' ⟨rfl, rfl⟩
    go_wp2
    go_ret
    exact ⟨rfl, Below.refl _ _⟩

/-! ### THE ROW's STEP: WRITTEN OUT: LEAVE IT -/
set_option maxRecDepth 100000 in
theorem lifted (os : Os) (started : os.Started) (H : Type) (enc : TypeId × Value → H) :
    ReturnsInHanded {} Try.checked os 3 .any (Rows.fnPathsSpec.pre6 enc Try.prog Try.f3 Rows.fnPathsRow.domain false) (Rows.fnPathsSpec.post enc Try.prog Try.f3 false true false false) := by
  refine returnsInHanded_of_change (C := Try.checked) own started (by kernel_rfl) Try.func3
    (ChangeSpec.witness6 (enc := enc) (C := Try.checked) false ⟨#[], #[.slice none 0 0], []⟩ 8 (by kernel_rfl) (by kernel_rfl) (by kernel_rfl) (by kernel_rfl)) ?_
  intro W base args ds gs before hval0 hW hcnd _
  have hval : ∀ (j : Nat) t v, Try.f3.params[j]? = some t → args[j]? = some v → Value.okWide Try.prog W .any base t v := hval0
  have hW' := hW
  obtain ⟨p, q, hA0, hV, rfl, hfz, hnd⟩ := hW
  have hA : DataW.TrodAll enc Try.prog W 0 (fun _ => true) true Try.f3.params.toList args.toList ds p := hA0
  rw [Try.params3] at hA hval
  obtain ⟨v0, vs0, d0, ds0, p0, q0, hargs, rfl, rfl, h0, r0⟩ := trodAll_cons hA
  obtain ⟨rfl, rfl, rfl⟩ := trodAll_nil r0
  obtain rfl : args = #[v0] := by cases args; simp_all
  obtain ⟨rfl, rfl⟩ := trodVars_none hV
  obtain ⟨a0, len0, cap0, rfl⟩ := okWide_slice Try.underlying22 (hval 0 22 v0 rfl rfl)
  have k0 := h0
  have lt0 : ∀ x ∈ p0, x.block < W.heap.size := by obtain ⟨m, hm⟩ := k0; exact DataW.trod_lt m _ _ _ hm
  obtain ⟨z0, w0⟩ : ∃ zs, IsRow .u8 W a0 len0 cap0 zs := by
    obtain ⟨fuel, hf⟩ := h0
    rcases open_ints Try.underlying22 Try.underlying5 (by kernel_rfl) hf with ⟨hcs, _⟩ | ⟨x, l, c, zs, hcs, _, hl, hm, hz, _, hcell, hwz⟩
    · simp [Value.cells] at hcs
      obtain ⟨rfl, rfl, rfl⟩ := hcs
      exact ⟨[], .inl ⟨rfl, rfl, rfl, rfl⟩⟩
    · simp [Value.cells] at hcs
      obtain ⟨rfl, rfl, rfl⟩ := hcs
      exact ⟨zs, .inr ⟨_, rfl, hl, hm, by simpa using hz, hcell, hwz⟩⟩
  clear hA0 hval0
  refine (walk a0 len0 cap0 z0 W w0).mono fun e W' ⟨he, bel⟩ => ?_
  subst he
  exact ⟨_, rfl, _, _, _, [], _, [], hW', trodAll_mk1 (shut_bool Try.underlying4 _), (trodAll_cons_mk (Below.trod laidOut (by kernel_rfl) (of_decide_eq_true (by kernel_rfl)) k0 bel lt0) trodAll_mk0), rfl, bel.frame _, fun h => by cases h⟩

theorem over : Rows.fnPathsRow.holds Try.pinned (OpenSpec.ofChange Rows.fnPathsSpec) :=
  OpenClaim.holds_of_wide 3 Try.f3 rfl rfl rfl rfl rfl rfl rfl ⟨rfl, rfl, rfl, rfl, rfl⟩ rfl rfl rfl rfl rfl (by kernel_rfl) Try.func3 (by kernel_rfl)
    (of_decide_eq_true (by kernel_rfl)) (by unfold Func.isWrapper; first | (rw [if_pos (by decide +kernel)]; kernel_rfl) | (rw [if_neg (by decide +kernel)]; exact ⟨rfl, rfl⟩))
    (fun os started H enc _ => lifted os started H enc)

/-- ████ THE STATEMENT ████ -/
theorem proved : Rows.FnPathsSaid := over
#print axioms proved
end Go.Proofs.Ytjmlpekaehfeeaa.fnPaths
