/- At every slice of bytes of at most 2^20 the program's ChangesFrom answers as the model's does; the argument is not written into; the answer is its own; longer ones the law lets by. -/
import Derived.Test.YtebfinedkjlbbaaRows
import Derived.Test.YtebfinedkjlbbaaPkH
import Derived.WalkKit
import Derived.ProofKit
import Derived.OpenShut
import Derived.ShutString
import Derived.ChangeOld
import Derived.Below
import Derived.WalkSmall
import Derived.Deep.RegionHeld3
import Derived.Outline
namespace Go.Proofs.Ytebfinedkjlbbaa.fnExactChangesFrom
set_option maxRecDepth 20000
set_option linter.unusedSimpArgs false
open Go.ChangeShapes Go.WideShapes Go.ChangeAt Go.RowKit
open Go.ChangeMaps (open_string shut_string)
set_option linter.unusedVariables false

theorem own : ownKnob Try.prog.godebug = none := by kernel_rfl
theorem laidOut : laidOutB Try.prog = true := by kernel_rfl

set_option maxHeartbeats 1600000 in
theorem walk (a0 : Option Addr) (len0 cap0 : Nat) (z0 : List Int) (w : World) (w0 : IsRow .u8 w a0 len0 cap0 z0) :
    Calls Try.prog 7 #[.slice a0 len0 cap0] w fun e w' => e = .returned (.bool true) ∧ Below w.heap.size w w' := by
  have HL := w0.len_le
  have HI := Lib.hid w0.byts
  clear w0
  by_cases hbig : 1048576 < len0
  · go_enter Try.func7, Try.ntmps7
    go_wp2
    go_ret
    exact ⟨rfl, Below.refl _ _⟩
  generalize z0.take len0 = bs at HI
  have hn : len0 ≤ 1048576 := by omega
  have hlb := HI.out.1
  have hrg := HI.out.2.1
  clear hbig
  go_enter Try.func7, Try.ntmps7
  go_wp2_with fail
  refine (copy_own _ _ _ bs _ _ (by omega) (Nat.le_refl _) HI.out).mono ?_
  rintro e w1 ⟨r1, rfl, hr1, m1, b1⟩
  have y1 := m1.byts hlb
  have B1 := Lib.hid b1
  have s1 : w.heap.size ≤ w1.heap.size := b1.size
  clear b1 m1
  go_wp2_with fail
  refine (specChangesFrom_any _ _ _ bs _ w1 hn (Nat.le_refl _) (Nat.le_refl _) y1).mono ?_
  rintro e w2 ⟨A2, n2, c2, L, r, rfl, hl, z2, b2⟩
  clear y1
  obtain ⟨hll, hok⟩ := hl.bd
  have hlb2 : ∀ x ∈ L, x.bytes.length ≤ 168 := fun x hx => ok_len (hok x hx)
  have hlm : ∀ i, (cx L i).bytes.length ≤ 1048576 := fun i => by
    by_cases h : i < L.length
    · have := hlb2 (cx L i) (by unfold cx; rw [List.getElem?_eq_getElem h]; exact List.getElem_mem h)
      omega
    · have e : cx L i = chg0 := by unfold cx; rw [List.getElem?_eq_none (by omega)]; rfl
      rw [e]; simp [chg0]
  have hlz := mlH_le L 168 hlb2
  have hlz : mlH L ≤ 34000 := by omega
  clear hok hlb2
  have hzl := z2.len
  have HL2 := Lib.hid hl
  have Z := Lib.hid z2
  have B2 := Lib.hid (B1.out.trans (b2.mono s1))
  have s2 : w1.heap.size ≤ w2.heap.size := b2.size
  clear b2 z2 hl
  go_wp2_with fail
  refine (copy_own _ _ _ bs _ _ (by omega) B2.out.size (HI.out.below B2.out)).mono ?_
  rintro e w3 ⟨r3, rfl, hr3, m3, b3⟩
  have Z := Lib.hid (Z.out.below (b3.mono (show w2.heap.size ≤ w2.heap.size by omega)))
  have B3 := Lib.hid (B2.out.trans (b3.mono B2.out.size))
  have X := Lib.hid (row_mine m3 hlb hr3 (by unfold maxLen; omega))
  have lr3 := m3.lt
  have s3 : w2.heap.size ≤ w3.heap.size := b3.size
  clear b3 m3
  go_wp2_with fail
  refine (implChangesFrom_any _ _ _ bs _ w3 hn (Nat.le_refl _) (fun h => by cases h) (Nat.le_refl _) X.out.byts).mono ?_
  rintro e w4 ⟨A4, n4, c4, L', r', rfl, hl', g4, b4⟩
  obtain rfl := (hl'.one HL2.out).1.symm
  obtain rfl := (hl'.one HL2.out).2.symm
  clear hl'
  have hrr : (r != r) = false := by simp
  obtain rfl : n4 = n2 := g4.len.symm.trans hzl
  have G := Lib.hid g4
  have Z := Lib.hid (Z.out.below (b4.mono (show w2.heap.size ≤ w3.heap.size by omega)))
  have X := Lib.hid (X.out.below b4)
  have B4 := Lib.hid (B3.out.trans (b4.mono B3.out.size))
  have s4 : w3.heap.size ≤ w4.heap.size := b4.size
  clear b4 g4
  go_wp2_with fail
  refine (likeH_yes _ _ _ _ _ L _ _ w4 (by omega) hlm (Nat.le_refl _) (show w2.heap.size ≤ w4.heap.size by omega) G.out.chs Z.out.chs).mono ?_
  rintro e w5 ⟨rfl, b5⟩
  have Z := Lib.hid (Z.out.below (b5.mono (show w2.heap.size ≤ w4.heap.size by omega)))
  have X := Lib.hid (X.out.below b5)
  have G := Lib.hid (G.out.below (b5.mono (show w4.heap.size ≤ w4.heap.size by omega)))
  have B5 := Lib.hid (B4.out.trans (b5.mono B4.out.size))
  have s5 : w4.heap.size ≤ w5.heap.size := b5.size
  clear b5
  go_wp2_with fail
  refine (copy_own _ _ _ bs _ _ (by omega) B5.out.size (HI.out.below B5.out)).mono ?_
  rintro e w6 ⟨r6, rfl, hr6, m6, b6⟩
  have Z := Lib.hid (Z.out.below (b6.mono (show w2.heap.size ≤ w5.heap.size by omega)))
  have X := Lib.hid (X.out.below b6)
  have G := Lib.hid (G.out.below (b6.mono (show w4.heap.size ≤ w5.heap.size by omega)))
  have B6 := Lib.hid (B5.out.trans (b6.mono B5.out.size))
  have y6 := m6.byts hlb
  have s6 : w5.heap.size ≤ w6.heap.size := b6.size
  clear b6 m6
  go_wp2_with fail
  refine (like_yes _ _ len0 _ _ bs _ _ _ (by omega) X.out.byts y6).mono ?_
  rintro e w7 ⟨rfl, h7⟩
  have b7 : Below w6.heap.size w6 w7 := by obtain ⟨q, rfl⟩ := h7; exact below_drewN (Below.refl _ _) q
  clear h7 y6
  have Z := Lib.hid (Z.out.below (b7.mono (show w2.heap.size ≤ w6.heap.size by omega)))
  have X := Lib.hid (X.out.below b7)
  have G := Lib.hid (G.out.below (b7.mono (show w4.heap.size ≤ w6.heap.size by omega)))
  have B7 := Lib.hid (B6.out.trans (b7.mono B6.out.size))
  have s7 : w6.heap.size ≤ w7.heap.size := b7.size
  clear b7
  go_wp2_with fail
  refine (mark_any _ _ _ _ _ 1 _ (by omega) (by omega) X.out).mono ?_
  rintro e w8 ⟨rfl, mA, gA⟩
  have tA := Touch.of_grown gA
  have Z := Lib.hid (Z.out.touch tA (fun b h1 h2 h => by have e : b = r3 := own_eq h; omega))
  have G := Lib.hid (G.out.touch tA (fun b h1 h2 h => by have e : b = r3 := own_eq h; omega))
  have B8 := Lib.hid (B7.out.trans (tA.below B7.out.size (fun k hk h => by have e := own_eq h; omega)))
  have s8 : w7.heap.size ≤ w8.heap.size := gA.size
  clear tA gA mA X
  have hd : decide ((1 : Int) + (len0 : Int) < 0) = false := decide_eq_false (by omega)
  go_wp2_with fail
  refine (likeH_yes _ _ _ _ _ L _ _ w8 (by omega) hlm (show w4.heap.size ≤ w8.heap.size by omega) (show w2.heap.size ≤ w8.heap.size by omega) G.out.chs Z.out.chs).mono ?_
  rintro e w9 ⟨rfl, b9⟩
  have Z := Lib.hid (Z.out.below (b9.mono (show w2.heap.size ≤ w8.heap.size by omega)))
  have G := Lib.hid (G.out.below (b9.mono (show w4.heap.size ≤ w8.heap.size by omega)))
  have B9 := Lib.hid (B8.out.trans (b9.mono B8.out.size))
  have s9 : w8.heap.size ≤ w9.heap.size := b9.size
  clear b9
  go_wp2_with fail
  refine (markH_any _ _ _ _ _ L 1 w9 (by omega) (by omega) (by omega) G.out).mono ?_
  rintro e wA ⟨rfl, mA, tA⟩
  have BA := Lib.hid (B9.out.trans (tA.below B9.out.size (fun k hk h => by omega)))
  have Z := Lib.hid (Z.out.touch tA (fun b h1 h2 h => by omega))
  have G := Lib.hid mA
  have sA : w9.heap.size ≤ wA.heap.size := tA.size
  clear tA mA
  have hd2 : decide ((1 : Int) + (mlH L : Int) < 0) = false := decide_eq_false (by omega)
  go_wp2_with fail
  refine (heldH_yes _ _ _ _ L 1 wA (by omega) (by omega) (by omega) G.out.chs).mono ?_
  rintro e w' ⟨rfl, rfl⟩
  go_wp2_with fail
  refine (copy_own _ _ _ bs _ _ (by omega) BA.out.size (HI.out.below BA.out)).mono ?_
  rintro e wB ⟨rB, rfl, hrB, mB, bB⟩
  have Z := Lib.hid (Z.out.below (bB.mono (show w2.heap.size ≤ wA.heap.size by omega)))
  have G := Lib.hid (G.out.below (bB.mono (show w4.heap.size ≤ wA.heap.size by omega)))
  have BB := Lib.hid (BA.out.trans (bB.mono BA.out.size))
  have yB := mB.byts hlb
  have sB : wA.heap.size ≤ wB.heap.size := bB.size
  clear bB mB
  go_wp2_with fail
  refine (implChangesFrom_any _ _ _ bs _ wB hn (Nat.le_refl _) (fun h => by cases h) (Nat.le_refl _) yB).mono ?_
  rintro e wC ⟨AC, nC, cC, L', r', rfl, hl', gC, bC⟩
  clear yB
  obtain rfl := (hl'.one HL2.out).1.symm
  obtain rfl := (hl'.one HL2.out).2.symm
  clear hl'
  obtain rfl : nC = n4 := gC.len.symm.trans hzl
  have H := Lib.hid gC
  have Z := Lib.hid (Z.out.below (bC.mono (show w2.heap.size ≤ wB.heap.size by omega)))
  have G := Lib.hid (G.out.below (bC.mono (show w4.heap.size ≤ wB.heap.size by omega)))
  have BC := Lib.hid (BB.out.trans (bC.mono BB.out.size))
  have sC : wB.heap.size ≤ wC.heap.size := bC.size
  clear bC gC
  go_wp2_with fail
  refine (likeH_yes _ _ _ _ _ L _ _ wC (by omega) hlm (Nat.le_refl _) (show w2.heap.size ≤ wC.heap.size by omega) H.out.chs Z.out.chs).mono ?_
  rintro e wD ⟨rfl, bD⟩
  have G := Lib.hid (G.out.below (bD.mono (show w4.heap.size ≤ wC.heap.size by omega)))
  have BD := Lib.hid (BC.out.trans (bD.mono BC.out.size))
  clear bD H Z
  go_wp2_with fail
  refine (heldH_yes _ _ _ _ L 1 wD (by omega) (by omega) (by omega) G.out.chs).mono ?_
  rintro e w' ⟨rfl, rfl⟩
  go_wp2
  go_ret
  exact ⟨rfl, BD.out⟩

/-! ### THE ROW's STEP -/
set_option maxRecDepth 100000 in
theorem lifted (os : Os) (started : os.Started) (H : Type) (enc : TypeId × Value → H) :
    ReturnsInHanded {} Try.checked os 7 .any (Rows.fnExactChangesFromSpec.pre6 enc Try.prog Try.f7 Rows.fnExactChangesFromRow.domain false) (Rows.fnExactChangesFromSpec.post enc Try.prog Try.f7 false true false false) := by
  refine returnsInHanded_of_change (C := Try.checked) own started (by kernel_rfl) Try.func7
    (ChangeSpec.witness6 (enc := enc) (C := Try.checked) false ⟨#[], #[.slice none 0 0], []⟩ 8 (by kernel_rfl) (by kernel_rfl) (by kernel_rfl) (by kernel_rfl)) ?_
  intro W base args ds gs before hval0 hW hcnd _
  have hval : ∀ (j : Nat) t v, Try.f7.params[j]? = some t → args[j]? = some v → Value.okWide Try.prog W .any base t v := hval0
  have hW' := hW
  obtain ⟨p, q, hA0, hV, rfl, hfz, hnd⟩ := hW
  have hA : DataW.TrodAll enc Try.prog W 0 (fun _ => true) true Try.f7.params.toList args.toList ds p := hA0
  rw [Try.params7] at hA hval
  obtain ⟨v0, vs0, d0, ds0, p0, q0, hargs, rfl, rfl, h0, r0⟩ := trodAll_cons hA
  obtain ⟨rfl, rfl, rfl⟩ := trodAll_nil r0
  obtain rfl : args = #[v0] := by cases args; simp_all
  obtain ⟨rfl, rfl⟩ := trodVars_none hV
  have k0 := h0
  have lt0 : ∀ x ∈ p0, x.block < W.heap.size := by obtain ⟨m, hm⟩ := k0; exact DataW.trod_lt m _ _ _ hm
  obtain ⟨a0, len0, cap0, rfl⟩ := okWide_slice Try.underlying22 (hval 0 22 v0 rfl rfl)
  obtain ⟨z0, w0⟩ : ∃ zs, IsRow .u8 W a0 len0 cap0 zs := by
    obtain ⟨fuel, hf⟩ := h0
    obtain ⟨a, l, c, zs, e, hr⟩ := row_of_trod Try.underlying22 Try.underlying5 (by kernel_rfl) (by simpa [Value.cells] using hf)
    cases e
    exact ⟨zs, hr⟩
  clear hA0 hval0
  refine (walk a0 len0 cap0 z0 W w0).mono fun e W' ⟨he, bel⟩ => ?_
  subst he
  exact ⟨_, rfl, _, _, _, [], _, [], hW', trodAll_mk1 (shut_bool Try.underlying4 _), (trodAll_cons_mk (Below.trod laidOut (by kernel_rfl) (of_decide_eq_true (by kernel_rfl)) k0 bel lt0) trodAll_mk0), rfl, bel.frame _, fun h => by cases h⟩

theorem over : Rows.fnExactChangesFromRow.holds Try.pinned (OpenSpec.ofChange Rows.fnExactChangesFromSpec) :=
  OpenClaim.holds_of_wide 7 Try.f7 rfl rfl rfl rfl rfl rfl rfl ⟨rfl, rfl, rfl, rfl, rfl⟩ rfl rfl rfl rfl rfl (by kernel_rfl) Try.func7 (by kernel_rfl)
    (of_decide_eq_true (by kernel_rfl)) (by unfold Func.isWrapper; first | (rw [if_pos (by decide +kernel)]; kernel_rfl) | (rw [if_neg (by decide +kernel)]; exact ⟨rfl, rfl⟩))
    (fun os started H enc _ => lifted os started H enc)

/-- THE STATEMENT -/
theorem proved : Rows.FnExactChangesFromSaid := over
#print axioms proved
end Go.Proofs.Ytebfinedkjlbbaa.fnExactChangesFrom
