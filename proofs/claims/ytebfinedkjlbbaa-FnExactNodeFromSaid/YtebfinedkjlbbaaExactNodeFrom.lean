/- At every text of bytes the program's NodeFrom answers as the model, writes into no argument, and its answer is its own. -/
import Derived.Test.YtebfinedkjlbbaaRows
import Derived.Test.YtebfinedkjlbbaaPkH
import Derived.WalkKit
import Derived.ProofKit
import Derived.OpenShut
import Derived.ShutString
import Derived.ChangeOld
import Derived.Below
import Derived.WalkSmall
import Derived.Deep.RegionHeld3
import Derived.Outline
namespace Go.Proofs.Ytebfinedkjlbbaa.fnExactNodeFrom
set_option maxRecDepth 20000
set_option linter.unusedSimpArgs false
open Go.ChangeShapes Go.WideShapes Go.ChangeAt Go.RowKit
open Go.ChangeMaps (open_string shut_string)
set_option linter.unusedVariables false

theorem own : ownKnob Try.prog.godebug = none := by kernel_rfl
theorem laidOut : laidOutB Try.prog = true := by kernel_rfl

theorem walk (a0 : Option Addr) (len0 cap0 : Nat) (z0 : List Int) (w : World) (w0 : IsRow .u8 w a0 len0 cap0 z0) :
    Calls Try.prog 3 #[.slice a0 len0 cap0] w fun e w' => e = .returned (.bool true) ∧ Below w.heap.size w w' := by
  have HL := w0.len_le
  have HI := Lib.hid w0.byts
  clear w0
  by_cases hbig : 1048576 < len0
  · go_enter Try.func3, Try.ntmps3
    go_wp2
    go_ret
    exact ⟨rfl, Below.refl _ _⟩
  generalize z0.take len0 = bs at HI
  have hn : len0 ≤ 1048576 := by omega
  clear hbig
  have B0 := Lib.hid (Below.refl w.heap.size w)
  go_enter Try.func3, Try.ntmps3
  go_wp2_with fail
  refine (copy_own _ _ _ bs _ _ (by omega) (Nat.le_refl _) HI.out).mono ?_
  rintro e w1 ⟨r1, rfl, hr1, m1, b1⟩
  have y1 := m1.byts HI.out.1
  have B1 := Lib.hid b1
  clear b1 m1
  go_wp2_with fail
  refine (specNodeFrom_any _ _ _ bs _ _ hn (Nat.le_refl _) (Nat.le_refl _) y1).mono ?_
  rintro e w2 ⟨v2, nd, okb, rfl, m2, hread, b2⟩
  clear y1
  have Z := Lib.hid m2
  have ZB := Lib.hid (fun g (hg : NodeBlk v2 g) => m2.blk hg)
  have RD := Lib.hid hread
  have B2 := Lib.hid (B1.out.trans (b2.mono B1.out.size))
  clear b2 m2 hread
  obtain ⟨Ap2, np2, cp2, Ak2, nk2, ck2, rfl, _⟩ := Z.out
  go_wp2_with fail
  have x3 : Box (w2.alloc (.cells #[.int .i64 nd.kind, .slice Ap2 np2 cp2, .slice Ak2 nk2 ck2, .string nd.val] 26)) w2.heap.size _ _ := heap_alloc_new _ _
  have X3 := Lib.hid x3
  have b3 : Below w2.heap.size w2 (w2.alloc (.cells #[.int .i64 nd.kind, .slice Ap2 np2 cp2, .slice Ak2 nk2 ck2, .string nd.val] 26)) := (Below.refl _ _).alloc (Nat.le_refl _) _
  have Z := Lib.hid (Z.out.below b3)
  have B3 := Lib.hid (B2.out.trans (b3.mono B2.out.size))
  clear b3 x3
  refine (copy_own _ _ _ bs _ _ (by omega) B3.out.size (HI.out.below B3.out)).mono ?_
  rintro e w4 ⟨r4, rfl, hr4, m4, b4⟩
  simp at hr4
  have Z := Lib.hid (Z.out.below b4)
  have B4 := Lib.hid (B3.out.trans (b4.mono B3.out.size))
  have X3 := Lib.hid (X3.out.below b4 (by simp))
  have hX4 : Mine w4 (w2.heap.size + 1) (some ⟨r4, 0, none⟩) len0 len0 bs := row_mine m4 HI.out.1 hr4 (by unfold maxLen; omega)
  have X := hX4
  have Y := Lib.hid hX4
  have lr4 := m4.lt
  clear b4 m4 hX4 X
  go_wp2_with fail
  refine (implNodeFrom_any _ _ _ bs _ _ hn (Nat.le_refl _) (fun h => by cases h) (Nat.le_refl _) Y.out.byts).mono ?_
  rintro e w5 ⟨v5, nd', okb', rfl, m5, hread, b5⟩
  obtain ⟨rfl, rfl⟩ := RD.out.one hread
  have G := Lib.hid m5
  have GB := Lib.hid (fun g (hg : NodeBlk v5 g) => m5.blk hg)
  have HR := Lib.hid hread
  have Z := Lib.hid (Z.out.below b5)
  have X3 := Lib.hid (X3.out.below b5 X3.out.lt)
  have Y := Lib.hid (Y.out.below b5)
  have B5 := Lib.hid (B4.out.trans (b5.mono B4.out.size))
  have s45 := b5.size
  clear b5 m5 hread
  obtain ⟨Ap5, np5, cp5, Ak5, nk5, ck5, rfl, _⟩ := G.out
  have p0 := X3.out.cell 0
  have p1 := X3.out.cell 1
  have p2 := X3.out.cell 2
  have p3 := X3.out.cell 3
  simp at p0 p1 p2 p3
  have l25 : w2.heap.size < w5.heap.size := X3.out.lt
  go_wp2_with fail
  clear p0 p1 p2 p3
  have x6 : Box (w5.alloc (.cells #[.int .i64 nd.kind, .slice Ap5 np5 cp5, .slice Ak5 nk5 ck5, .string nd.val] 26)) w5.heap.size _ _ := heap_alloc_new _ _
  have X6 := Lib.hid x6
  have b6 : Below w5.heap.size w5 (w5.alloc (.cells #[.int .i64 nd.kind, .slice Ap5 np5 cp5, .slice Ak5 nk5 ck5, .string nd.val] 26)) := (Below.refl _ _).alloc (Nat.le_refl _) _
  have Z := Lib.hid (Z.out.below b6)
  have X3 := Lib.hid (X3.out.below b6 X3.out.lt)
  have Y := Lib.hid (Y.out.below b6)
  have G := Lib.hid (G.out.below b6)
  have B6 := Lib.hid (B5.out.trans (b6.mono B5.out.size))
  clear b6 x6
  refine (eqNode_yes _ _ nd _ _ _ (Nat.le_refl _) (Nat.le_refl _) G.out.node Z.out.node).mono ?_
  rintro e w7 ⟨rfl, b7⟩
  have X6 := Lib.hid (X6.out.below b7 (by simp))
  have Z := Lib.hid (Z.out.below b7)
  have X3 := Lib.hid (X3.out.below b7 X3.out.lt)
  have Y := Lib.hid (Y.out.below b7)
  have G := Lib.hid (G.out.below b7)
  have B7 := Lib.hid (B6.out.trans (b7.mono B6.out.size))
  clear b7
  go_wp2_with fail
  refine (copy_own _ _ _ bs _ _ (by omega) B7.out.size (HI.out.below B7.out)).mono ?_
  rintro e w8 ⟨r8, rfl, hr8, m8, b8⟩
  have Z := Lib.hid (Z.out.below b8)
  have X3 := Lib.hid (X3.out.below b8 X3.out.lt)
  have X6 := Lib.hid (X6.out.below b8 X6.out.lt)
  have Y := Lib.hid (Y.out.below b8)
  have G := Lib.hid (G.out.below b8)
  have B8 := Lib.hid (B7.out.trans (b8.mono B7.out.size))
  have y8 := m8.byts HI.out.1
  clear b8 m8
  go_wp2_with fail
  refine (like_yes _ _ len0 _ _ bs _ _ _ (by omega) Y.out.byts y8).mono ?_
  rintro e w9 ⟨rfl, h9⟩
  have b9 : Below w8.heap.size w8 w9 := by obtain ⟨m, rfl⟩ := h9; exact below_drewN (Below.refl _ _) m
  clear h9 y8
  have Z := Lib.hid (Z.out.below b9)
  have X3 := Lib.hid (X3.out.below b9 X3.out.lt)
  have X6 := Lib.hid (X6.out.below b9 X6.out.lt)
  have Y := Lib.hid (Y.out.below b9)
  have G := Lib.hid (G.out.below b9)
  have B9 := Lib.hid (B8.out.trans (b9.mono B8.out.size))
  clear b9
  go_wp2_with fail
  refine (mark_any _ _ _ _ _ 1 _ (by omega) (by omega) Y.out).mono ?_
  rintro e wA ⟨rfl, mA, gA⟩
  have tA := Touch.of_grown gA
  have Z := Lib.hid (Z.out.touch tA (fun g hg h => by have e : g = r4 := own_eq h; have := ZB.out g hg; omega))
  have G := Lib.hid (G.out.touch tA (fun g hg h => by have e : g = r4 := own_eq h; have := GB.out g hg; omega))
  have X3 := Lib.hid (show Box wA w2.heap.size _ _ from (tA.block w2.heap.size X3.out.lt (fun h => by have e := own_eq h; omega)).trans X3.out)
  have X6 := Lib.hid (show Box wA w5.heap.size _ _ from (tA.block w5.heap.size X6.out.lt (fun h => by have e := own_eq h; omega)).trans X6.out)
  have BA := Lib.hid (B9.out.trans (tA.below B9.out.size (fun k hk h => by have e := own_eq h; have := B2.out.size; omega)))
  clear tA gA mA Y
  have p0 := X3.out.cell 0
  have p1 := X3.out.cell 1
  have p2 := X3.out.cell 2
  have p3 := X3.out.cell 3
  simp at p0 p1 p2 p3
  have q0 := X6.out.cell 0
  have q1 := X6.out.cell 1
  have q2 := X6.out.cell 2
  have q3 := X6.out.cell 3
  simp at q0 q1 q2 q3
  have hd : decide ((1 : Int) + (len0 : Int) < 0) = false := decide_eq_false (by omega)
  go_wp2_with fail
  refine (eqNode_yes _ _ nd _ _ _ (Nat.le_refl _) (Nat.le_refl _) G.out.node Z.out.node).mono ?_
  rintro e wB ⟨rfl, bB⟩
  clear p0 p1 p2 p3 q0 q1 q2 q3
  have Z := Lib.hid (Z.out.below bB)
  have X3 := Lib.hid (X3.out.below bB X3.out.lt)
  have X6 := Lib.hid (X6.out.below bB X6.out.lt)
  have G := Lib.hid (G.out.below bB)
  have BB := Lib.hid (BA.out.trans (bB.mono BA.out.size))
  clear bB
  have q0 := X6.out.cell 0
  have q1 := X6.out.cell 1
  have q2 := X6.out.cell 2
  have q3 := X6.out.cell 3
  simp at q0 q1 q2 q3
  go_wp2_with fail
  refine (markNode_any _ nd _ 1 _ (by omega) (by omega) G.out).mono ?_
  rintro e wC ⟨k1, hk0, hk1, rfl, gC, hke, tC⟩
  have Z := Lib.hid (Z.out.touch tC (fun g hg h => by have := ZB.out g hg; have := GB.out g h; omega))
  have X3 := Lib.hid (show Box wC w2.heap.size _ _ from (tC.block w2.heap.size X3.out.lt (fun h => by have := GB.out _ h; omega)).trans X3.out)
  have X6 := Lib.hid (show Box wC w5.heap.size _ _ from (tC.block w5.heap.size X6.out.lt (fun h => by have := GB.out _ h; omega)).trans X6.out)
  have BC := Lib.hid (BB.out.trans (tC.below BB.out.size (fun k hk h => by have := GB.out _ h; have := B4.out.size; omega)))
  have G := Lib.hid gC
  have HK := Lib.hid hke
  clear tC gC q0 q1 q2 q3 hke
  have q0 := X6.out.cell 0
  have q1 := X6.out.cell 1
  have q2 := X6.out.cell 2
  have q3 := X6.out.cell 3
  simp at q0 q1 q2 q3
  go_wp2_with fail
  refine (heldNode_yes _ nd.kind nd.val nd.path.length nd.kids.length _ 1 _ (by omega) (by omega) (Nat.le_refl _) G.out.node).mono ?_
  rintro e wD ⟨rfl, bD⟩
  rw [← HK.out]
  clear q0 q1 q2 q3
  have Z := Lib.hid (Z.out.below bD)
  have X3 := Lib.hid (X3.out.below bD X3.out.lt)
  have X6 := Lib.hid (X6.out.below bD X6.out.lt)
  have G := Lib.hid (G.out.below bD)
  have BD := Lib.hid (BC.out.trans (bD.mono BC.out.size))
  clear bD
  have hd2 : decide (k1 < 0) = false := decide_eq_false (by omega)
  go_wp2_with fail
  refine (copy_own _ _ _ bs _ _ (by omega) BD.out.size (HI.out.below BD.out)).mono ?_
  rintro e wE ⟨rE, rfl, hrE, mE, bE⟩
  have Z := Lib.hid (Z.out.below bE)
  have X3 := Lib.hid (X3.out.below bE X3.out.lt)
  have X6 := Lib.hid (X6.out.below bE X6.out.lt)
  have G := Lib.hid (G.out.below bE)
  have BE := Lib.hid (BD.out.trans (bE.mono BD.out.size))
  have yE := mE.byts HI.out.1
  clear bE mE
  go_wp2_with fail
  refine (implNodeFrom_any _ _ _ bs _ _ hn (Nat.le_refl _) (fun h => by cases h) (Nat.le_refl _) yE).mono ?_
  rintro e wF ⟨vF, nd', okb', rfl, mF, hread, bF⟩
  obtain ⟨rfl, rfl⟩ := HR.out.one hread
  have H := Lib.hid mF
  have Z := Lib.hid (Z.out.below bF)
  have X3 := Lib.hid (X3.out.below bF X3.out.lt)
  have X6 := Lib.hid (X6.out.below bF X6.out.lt)
  have G := Lib.hid (G.out.below bF)
  have BF := Lib.hid (BE.out.trans (bF.mono BE.out.size))
  clear bF mF hread yE
  obtain ⟨ApF, npF, cpF, AkF, nkF, ckF, rfl, _⟩ := H.out
  have p0 := X3.out.cell 0
  have p1 := X3.out.cell 1
  have p2 := X3.out.cell 2
  have p3 := X3.out.cell 3
  simp at p0 p1 p2 p3
  have lF := X3.out.lt
  go_wp2_with fail
  clear p0 p1 p2 p3
  have bG : Below wF.heap.size wF (wF.alloc (.cells #[.int .i64 nd.kind, .slice ApF npF cpF, .slice AkF nkF ckF, .string nd.val] 26)) := (Below.refl _ _).alloc (Nat.le_refl _) _
  have Z := Lib.hid (Z.out.below bG)
  have X3 := Lib.hid (X3.out.below bG X3.out.lt)
  have X6 := Lib.hid (X6.out.below bG X6.out.lt)
  have G := Lib.hid (G.out.below bG)
  have H := Lib.hid (H.out.below bG)
  have BG := Lib.hid (BF.out.trans (bG.mono BF.out.size))
  clear bG
  refine (eqNode_yes _ _ nd _ _ _ (Nat.le_refl _) (Nat.le_refl _) H.out.node Z.out.node).mono ?_
  rintro e wI ⟨rfl, bI⟩
  have X6 := Lib.hid (X6.out.below bI X6.out.lt)
  have G := Lib.hid (G.out.below bI)
  have BI := Lib.hid (BG.out.trans (bI.mono BG.out.size))
  clear bI
  have q0 := X6.out.cell 0
  have q1 := X6.out.cell 1
  have q2 := X6.out.cell 2
  have q3 := X6.out.cell 3
  simp at q0 q1 q2 q3
  go_wp2_with fail
  refine (heldNode_yes _ nd.kind nd.val nd.path.length nd.kids.length _ 1 _ (by omega) (by omega) (Nat.le_refl _) G.out.node).mono ?_
  rintro e wJ ⟨rfl, bJ⟩
  rw [← HK.out]
  clear q0 q1 q2 q3
  have BJ := Lib.hid (BI.out.trans (bJ.mono BI.out.size))
  clear bJ
  go_wp2
  go_ret
  exact ⟨rfl, BJ.out⟩

/-! ### THE ROW's STEP -/
set_option maxRecDepth 100000 in
theorem lifted (os : Os) (started : os.Started) (H : Type) (enc : TypeId × Value → H) :
    ReturnsInHanded {} Try.checked os 3 .any (Rows.fnExactNodeFromSpec.pre6 enc Try.prog Try.f3 Rows.fnExactNodeFromRow.domain false) (Rows.fnExactNodeFromSpec.post enc Try.prog Try.f3 false true false false) := by
  refine returnsInHanded_of_change (C := Try.checked) own started (by kernel_rfl) Try.func3
    (ChangeSpec.witness6 (enc := enc) (C := Try.checked) false ⟨#[], #[.slice none 0 0], []⟩ 8 (by kernel_rfl) (by kernel_rfl) (by kernel_rfl) (by kernel_rfl)) ?_
  intro W base args ds gs before hval0 hW hcnd _
  have hval : ∀ (j : Nat) t v, Try.f3.params[j]? = some t → args[j]? = some v → Value.okWide Try.prog W .any base t v := hval0
  have hW' := hW
  obtain ⟨p, q, hA0, hV, rfl, hfz, hnd⟩ := hW
  have hA : DataW.TrodAll enc Try.prog W 0 (fun _ => true) true Try.f3.params.toList args.toList ds p := hA0
  rw [Try.params3] at hA hval
  obtain ⟨v0, vs0, d0, ds0, p0, q0, hargs, rfl, rfl, h0, r0⟩ := trodAll_cons hA
  obtain ⟨rfl, rfl, rfl⟩ := trodAll_nil r0
  obtain rfl : args = #[v0] := by cases args; simp_all
  obtain ⟨rfl, rfl⟩ := trodVars_none hV
  have k0 := h0
  have lt0 : ∀ x ∈ p0, x.block < W.heap.size := by obtain ⟨m, hm⟩ := k0; exact DataW.trod_lt m _ _ _ hm
  obtain ⟨a0, len0, cap0, rfl⟩ := okWide_slice Try.underlying22 (hval 0 22 v0 rfl rfl)
  obtain ⟨z0, w0⟩ : ∃ zs, IsRow .u8 W a0 len0 cap0 zs := by
    obtain ⟨fuel, hf⟩ := h0
    obtain ⟨a, l, c, zs, e, hr⟩ := row_of_trod Try.underlying22 Try.underlying5 (by kernel_rfl) (by simpa [Value.cells] using hf)
    cases e
    exact ⟨zs, hr⟩
  clear hA0 hval0
  refine (walk a0 len0 cap0 z0 W w0).mono fun e W' ⟨he, bel⟩ => ?_
  subst he
  exact ⟨_, rfl, _, _, _, [], _, [], hW', trodAll_mk1 (shut_bool Try.underlying4 _), (trodAll_cons_mk (Below.trod laidOut (by kernel_rfl) (of_decide_eq_true (by kernel_rfl)) k0 bel lt0) trodAll_mk0), rfl, bel.frame _, fun h => by cases h⟩

theorem over : Rows.fnExactNodeFromRow.holds Try.pinned (OpenSpec.ofChange Rows.fnExactNodeFromSpec) :=
  OpenClaim.holds_of_wide 3 Try.f3 rfl rfl rfl rfl rfl rfl rfl ⟨rfl, rfl, rfl, rfl, rfl⟩ rfl rfl rfl rfl rfl (by kernel_rfl) Try.func3 (by kernel_rfl)
    (of_decide_eq_true (by kernel_rfl)) (by unfold Func.isWrapper; first | (rw [if_pos (by decide +kernel)]; kernel_rfl) | (rw [if_neg (by decide +kernel)]; exact ⟨rfl, rfl⟩))
    (fun os started H enc _ => lifted os started H enc)

/-- THE STATEMENT -/
theorem proved : Rows.FnExactNodeFromSaid := over
#print axioms proved
end Go.Proofs.Ytebfinedkjlbbaa.fnExactNodeFrom
