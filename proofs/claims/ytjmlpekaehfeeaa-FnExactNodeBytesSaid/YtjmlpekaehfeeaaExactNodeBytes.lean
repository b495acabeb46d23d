/- At every node the program's NodeBytes answers as the model, writes into no part of it, and its answer is its own. -/
import Derived.Test.YtjmlpekaehfeeaaRows
import Derived.Test.YtjmlpekaehfeeaaOpenNode
import Derived.Test.YtjmlpekaehfeeaaNodeX
import Derived.Test.YtjmlpekaehfeeaaNodeY
import Derived.Test.YtjmlpekaehfeeaaLike
import Derived.Test.YtjmlpekaehfeeaaMine
import Derived.WalkKit
import Derived.ProofKit
import Derived.OpenShut
import Derived.ShutString
import Derived.ChangeOld
import Derived.Below
import Derived.WalkSmall
import Derived.Deep.RegionHeld3
import Derived.Outline
namespace Go.Proofs.Ytjmlpekaehfeeaa.fnExactNodeBytes
set_option maxRecDepth 20000
set_option linter.unusedSimpArgs false
open Go.ChangeShapes Go.WideShapes Go.ChangeAt Go.RowKit
open Go.ChangeMaps (open_string shut_string)
set_option linter.unusedVariables false

theorem own : ownKnob Try.prog.godebug = none := by kernel_rfl
theorem laidOut : laidOutB Try.prog = true := by kernel_rfl

theorem walk (v0 : Value) (x0 : MNode) (w : World) (w0 : NodeArg w v0 x0) :
    Calls Try.prog 8 #[v0] w fun e w' => e = .returned (.bool true) ∧ Below w.heap.size w w' := by
  obtain ⟨Ap, np, cp, Ak, nk, ck, rfl, hnp, hnk, hsz, hp, hk⟩ := w0
  have b0 := (Below.refl w.heap.size w).alloc (Nat.le_refl _) (.cells #[.int .i64 x0.kind, .slice Ap np cp, .slice Ak nk ck, .string x0.val] 53)
  have xb : Box (w.alloc (.cells #[.int .i64 x0.kind, .slice Ap np cp, .slice Ak nk ck, .string x0.val] 53)) w.heap.size _ _ := heap_alloc_new _ _
  have XB := Lib.hid xb
  have B0 := Lib.hid b0
  have HP := Lib.hid hp
  have HK := Lib.hid hk
  clear b0 xb hp hk
  go_enter Try.func8, Try.ntmps8
  go_wp2_with fail
  refine (szNode_any _ _ _ _ _ _ _ _ 1048576 _ hnp hnk hsz (by omega)).mono ?_
  rintro e w1 ⟨rfl, b1⟩
  have s1 := b1.size
  simp at s1
  have XB := Lib.hid (XB.out.below b1 (by simp))
  have B1 := Lib.hid (B0.out.trans (b1.mono (by simp)))
  clear b1
  by_cases hm : np + nk + x0.val.size ≤ 1048576
  · have hleft : leftOf 1048576 (np + nk + x0.val.size) = ((1048576 - (np + nk + x0.val.size) : Nat) : Int) := if_pos hm
    rw [hleft]
    generalize 1048576 - (np + nk + x0.val.size) = left
    have HN : ∀ W : World, Below w.heap.size w W → NodeIn W w.heap.size (.agg #[.int .i64 x0.kind, .slice Ap np cp, .slice Ak nk ck, .string x0.val]) x0 :=
      fun W hb => ⟨Ap, np, cp, Ak, nk, ck, rfl, by omega, by omega, by omega, HP.out.below hb, HK.out.below hb⟩
    have HN := Lib.hid HN
    clear hleft
    have q0 := XB.out.cell 0
    have q1 := XB.out.cell 1
    have q2 := XB.out.cell 2
    have q3 := XB.out.cell 3
    simp at q0 q1 q2 q3
    go_wp2_with fail
    refine (toNode_any _ x0 _ _ B1.out.size (HN.out _ B1.out)).mono ?_
    rintro e w2 ⟨v2, rfl, m2, b2⟩
    clear q0 q1 q2 q3
    have M2 := Lib.hid m2
    have XB := Lib.hid (XB.out.below b2 (by omega))
    have B2 := Lib.hid (B1.out.trans (b2.mono B1.out.size))
    clear m2 b2
    go_wp2_with fail
    refine (specNodeBytes_any _ x0 _ _ (Nat.le_refl _) M2.out.node).mono ?_
    rintro e w3 ⟨g0, n0, c0, rfl, z3, b3⟩
    have Z := Lib.hid z3
    have hz0 := z3.len
    have XB := Lib.hid (XB.out.below b3 XB.out.lt)
    have B3 := Lib.hid (B2.out.trans (b3.mono B2.out.size))
    have ZB := Lib.hid (fun g hg => (World.ownsRow.lt z3.1 g hg).2)
    have lb3 := XB.out.lt
    clear b3 M2 z3
    have q0 := XB.out.cell 0
    have q1 := XB.out.cell 1
    have q2 := XB.out.cell 2
    have q3 := XB.out.cell 3
    simp at q0 q1 q2 q3
    go_wp2_with fail
    refine (toNode_any _ x0 _ _ B3.out.size (HN.out _ B3.out)).mono ?_
    rintro e w4 ⟨v4, rfl, m4, b4⟩
    clear q0 q1 q2 q3
    have M := Lib.hid m4
    have XB := Lib.hid (XB.out.below b4 XB.out.lt)
    have Z := Lib.hid (Z.out.below b4)
    have NB := Lib.hid (fun g (hg : NodeBlk v4 g) => m4.blk hg)
    have B4 := Lib.hid (B3.out.trans (b4.mono B3.out.size))
    have s34 := b4.size
    clear m4 b4
    obtain ⟨Ap4, np4, cp4, Ak4, nk4, ck4, rfl, _⟩ := M.out
    go_wp2_with fail
    have x5 : Box (w4.alloc (.cells #[.int .i64 x0.kind, .slice Ap4 np4 cp4, .slice Ak4 nk4 ck4, .string x0.val] 40)) w4.heap.size _ _ := heap_alloc_new _ _
    have X5 := Lib.hid x5
    have b5 : Below w4.heap.size w4 (w4.alloc (.cells #[.int .i64 x0.kind, .slice Ap4 np4 cp4, .slice Ak4 nk4 ck4, .string x0.val] 40)) := (Below.refl _ _).alloc (Nat.le_refl _) _
    have XB := Lib.hid (XB.out.below b5 XB.out.lt)
    have M := Lib.hid (M.out.below b5)
    have Z := Lib.hid (Z.out.below b5)
    have B5 := Lib.hid (B4.out.trans (b5.mono B4.out.size))
    clear b5 x5
    refine (implNodeBytes_any _ x0 _ _ (Nat.le_refl _) M.out.node).mono ?_
    rintro e w6 ⟨A6, n6, c6, rfl, g6, b6⟩
    have e6 : n6 = n0 := g6.len.symm.trans hz0
    obtain rfl := e6
    have G := Lib.hid g6
    have GB : ∀ g, (Value.slice A6 n6 c6).ownBlock = some g → w4.heap.size < g := fun g hg => by have := (World.ownsRow.lt g6.1 g hg).1; simp at this; omega
    have GB := Lib.hid GB
    have X5 := Lib.hid (X5.out.below b6 (by simp))
    have XB := Lib.hid (XB.out.below b6 XB.out.lt)
    have M := Lib.hid (M.out.below b6)
    have Z := Lib.hid (Z.out.below b6)
    have B6 := Lib.hid (B5.out.trans (b6.mono B5.out.size))
    clear b6 g6
    have hn6 : n6 ≤ 20000000 := by
      have h1 := nodeBytes_len x0
      have h2 := HP.out.1
      have h3 := HK.out.1
      omega
    go_wp2_with fail
    refine (like_yes _ _ n6 _ _ (nodeBytes x0) _ _ _ (by omega) G.out.byts Z.out.byts).mono ?_
    rintro e w7 ⟨rfl, h7⟩
    have b7 : Below w6.heap.size w6 w7 := by obtain ⟨m, rfl⟩ := h7; exact below_drewN (Below.refl _ _) m
    clear h7
    have X5 := Lib.hid (X5.out.below b7 X5.out.lt)
    have XB := Lib.hid (XB.out.below b7 XB.out.lt)
    have M := Lib.hid (M.out.below b7)
    have Z := Lib.hid (Z.out.below b7)
    have G := Lib.hid (G.out.below b7)
    have B7 := Lib.hid (B6.out.trans (b7.mono B6.out.size))
    clear b7
    go_wp2_with fail
    have l5 := X5.out.lt
    have lb := XB.out.lt
    have s7 := B7.out.size
    have p0 : ∀ W, Below w7.heap.size w7 W → W.cell? ⟨w4.heap.size, 0, none⟩ = some (.int .i64 x0.kind) := fun W hW => (X5.out.below hW l5).cell 0
    have p1 : ∀ W, Below w7.heap.size w7 W → W.cell? ⟨w4.heap.size, 1, none⟩ = some (.slice Ap4 np4 cp4) := fun W hW => (X5.out.below hW l5).cell 1
    have p2 : ∀ W, Below w7.heap.size w7 W → W.cell? ⟨w4.heap.size, 2, none⟩ = some (.slice Ak4 nk4 ck4) := fun W hW => (X5.out.below hW l5).cell 2
    have p3 : ∀ W, Below w7.heap.size w7 W → W.cell? ⟨w4.heap.size, 3, none⟩ = some (.string x0.val) := fun W hW => (X5.out.below hW l5).cell 3
    have q0 : ∀ W, Below w7.heap.size w7 W → W.cell? ⟨w.heap.size, 0, none⟩ = some (.int .i64 x0.kind) := fun W hW => (XB.out.below hW lb).cell 0
    have q1 : ∀ W, Below w7.heap.size w7 W → W.cell? ⟨w.heap.size, 1, none⟩ = some (.slice Ap np cp) := fun W hW => (XB.out.below hW lb).cell 1
    have q2 : ∀ W, Below w7.heap.size w7 W → W.cell? ⟨w.heap.size, 2, none⟩ = some (.slice Ak nk ck) := fun W hW => (XB.out.below hW lb).cell 2
    have q3 : ∀ W, Below w7.heap.size w7 W → W.cell? ⟨w.heap.size, 3, none⟩ = some (.string x0.val) := fun W hW => (XB.out.below hW lb).cell 3
    go_region_held3 (fun W => Below w7.heap.size w7 W) (first | exact (Below.refl _ _).drew | assumption)
      (first
        | (go_at_call 41
           refine (toNode_any _ x0 _ _ (Nat.le_trans s7 (Below.size ‹Below w7.heap.size w7 _›)) (HN.out _ (B7.out.trans (Below.mono ‹Below w7.heap.size w7 _› s7)))).mono ?_
           rintro e w8 ⟨v8, rfl, m8, b8⟩
           have h8 : Below w7.heap.size w7 w8 := Below.trans (by assumption) (Below.mono b8 (Below.size (B := w7.heap.size) (w := w7) (by assumption))))
        | (go_at_call 42
           refine (eqNode_yes _ _ x0 _ _ _ (Nat.le_refl _) (Nat.le_refl _) (OwnN.node (OwnN.below M.out h8)) (OwnN.node m8)).mono ?_
           rintro e w9 ⟨rfl, b9⟩
           have h9 : Below w7.heap.size w7 w9 := h8.trans (b9.mono h8.size)))
    clear p0 p1 p2 p3 q0 q1 q2 q3
    have X5 := Lib.hid (X5.out.below h9 X5.out.lt)
    have XB := Lib.hid (XB.out.below h9 XB.out.lt)
    have M := Lib.hid (M.out.below h9)
    have Z := Lib.hid (Z.out.below h9)
    have G := Lib.hid (G.out.below h9)
    have B9 := Lib.hid (B7.out.trans (h9.mono B7.out.size))
    clear h9 h8 m8 b8 b9
    have p0 := X5.out.cell 0
    have p1 := X5.out.cell 1
    have p2 := X5.out.cell 2
    have p3 := X5.out.cell 3
    simp at p0 p1 p2 p3
    go_wp2_with fail
    refine (markNode_any _ x0 _ 1 _ (by omega) (by omega) M.out).mono ?_
    rintro e wA ⟨k1, hk0, hk1, rfl, _, _, tA⟩
    have Z := Lib.hid (Z.out.touch tA (fun g hg h => by have := ZB.out g hg; have := NB.out g h; omega))
    have G := Lib.hid (G.out.touch tA (fun g hg h => by have := GB.out g hg; have := NB.out g h; omega))
    have XB := Lib.hid (show Box wA w.heap.size _ _ from (tA.block w.heap.size XB.out.lt (fun h => by have := NB.out _ h; omega)).trans XB.out)
    have BA := Lib.hid (B9.out.trans (tA.below B9.out.size (fun k hk h => by have := NB.out _ h; omega)))
    clear tA M X5 p0 p1 p2 p3
    have hd : decide (k1 < 0) = false := decide_eq_false (by omega)
    go_wp2_with fail
    refine (like_yes _ _ n6 _ _ (nodeBytes x0) _ _ _ (by omega) G.out.byts Z.out.byts).mono ?_
    rintro e wB ⟨rfl, hB⟩
    have bB : Below wA.heap.size wA wB := by obtain ⟨m, rfl⟩ := hB; exact below_drewN (Below.refl _ _) m
    clear hB
    have XB := Lib.hid (XB.out.below bB XB.out.lt)
    have Z := Lib.hid (Z.out.below bB)
    have G := Lib.hid (G.out.below bB)
    have BB := Lib.hid (BA.out.trans (bB.mono BA.out.size))
    clear bB
    go_wp2_with fail
    refine (mark_any _ _ _ _ _ 1 _ (by omega) (by omega) G.out).mono ?_
    rintro e wC ⟨rfl, mC, gC⟩
    have tC := Touch.of_grown gC
    have Z := Lib.hid (Z.out.touch tC (fun g hg h => by have := ZB.out g hg; have := GB.out g h.symm; omega))
    have XB := Lib.hid (show Box wC w.heap.size _ _ from (tC.block w.heap.size XB.out.lt (fun h => by have := GB.out _ h.symm; omega)).trans XB.out)
    have BC := Lib.hid (BB.out.trans (tC.below BB.out.size (fun k hk h => by have := GB.out _ h.symm; omega)))
    have G := Lib.hid mC
    clear mC gC tC
    go_wp2_with fail
    refine (held_yes _ _ _ _ 1 _ (by omega) (by omega) G.out.byts).mono ?_
    rintro e w' ⟨rfl, rfl⟩
    have q0 := XB.out.cell 0
    have q1 := XB.out.cell 1
    have q2 := XB.out.cell 2
    have q3 := XB.out.cell 3
    simp at q0 q1 q2 q3
    go_wp2_with fail
    refine (toNode_any _ x0 _ _ BC.out.size (HN.out _ BC.out)).mono ?_
    rintro e wD ⟨vD, rfl, mD, bD⟩
    clear q0 q1 q2 q3
    have M := Lib.hid mD
    have Z := Lib.hid (Z.out.below bD)
    have G := Lib.hid (G.out.below bD)
    have BD := Lib.hid (BC.out.trans (bD.mono BC.out.size))
    clear mD bD
    go_wp2_with fail
    refine (implNodeBytes_any _ x0 _ _ (Nat.le_refl _) M.out.node).mono ?_
    rintro e wE ⟨AE, nE, cE, rfl, gE, bE⟩
    have eE : nE = n6 := gE.len.symm.trans hz0
    obtain rfl := eE
    have H := Lib.hid gE
    have Z := Lib.hid (Z.out.below bE)
    have G := Lib.hid (G.out.below bE)
    have BE := Lib.hid (BD.out.trans (bE.mono BD.out.size))
    clear bE gE
    go_wp2_with fail
    refine (like_yes _ _ nE _ _ (nodeBytes x0) _ _ _ (by omega) H.out.byts Z.out.byts).mono ?_
    rintro e wF ⟨rfl, hF⟩
    have bF : Below wE.heap.size wE wF := by obtain ⟨m, rfl⟩ := hF; exact below_drewN (Below.refl _ _) m
    clear hF
    have G := Lib.hid (G.out.below bF)
    have BF := Lib.hid (BE.out.trans (bF.mono BE.out.size))
    clear bF
    go_wp2_with fail
    refine (held_yes _ _ _ _ 1 _ (by omega) (by omega) G.out.byts).mono ?_
    rintro e w' ⟨rfl, rfl⟩
    go_wp2
    go_ret
    exact ⟨rfl, BF.out⟩
  · have hleft : leftOf 1048576 (np + nk + x0.val.size) = -1 := if_neg hm
    rw [hleft]
    go_wp2
    go_ret
    exact ⟨rfl, B1.out⟩

/-! ### THE ROW's STEP -/
set_option maxRecDepth 100000 in
theorem lifted (os : Os) (started : os.Started) (H : Type) (enc : TypeId × Value → H) :
    ReturnsInHanded {} Try.checked os 8 .any (Rows.fnExactNodeBytesSpec.pre6 enc Try.prog Try.f8 Rows.fnExactNodeBytesRow.domain false) (Rows.fnExactNodeBytesSpec.post enc Try.prog Try.f8 false true false false) := by
  refine returnsInHanded_of_change (C := Try.checked) own started (by kernel_rfl) Try.func8
    (ChangeSpec.witness6 (enc := enc) (C := Try.checked) false ⟨#[], #[.agg #[.int .i64 0, .slice none 0 0, .slice none 0 0, .string ⟨#[]⟩]], []⟩ 8 (by kernel_rfl) (by kernel_rfl) (by kernel_rfl) (by kernel_rfl)) ?_
  intro W base args ds gs before hval0 hW hcnd _
  have hval : ∀ (j : Nat) t v, Try.f8.params[j]? = some t → args[j]? = some v → Value.okWide Try.prog W .any base t v := hval0
  have hW' := hW
  obtain ⟨p, q, hA0, hV, rfl, hfz, hnd⟩ := hW
  have hA : DataW.TrodAll enc Try.prog W 0 (fun _ => true) true Try.f8.params.toList args.toList ds p := hA0
  rw [Try.params8] at hA hval
  obtain ⟨v0, vs0, d0, ds0, p0, q0, hargs, rfl, rfl, h0, r0⟩ := trodAll_cons hA
  obtain ⟨rfl, rfl, rfl⟩ := trodAll_nil r0
  obtain rfl : args = #[v0] := by cases args; simp_all
  obtain ⟨rfl, rfl⟩ := trodVars_none hV
  have k0 := h0
  have lt0 : ∀ x ∈ p0, x.block < W.heap.size := by obtain ⟨m, hm⟩ := k0; exact DataW.trod_lt m _ _ _ hm
  obtain ⟨x0, w0⟩ := open_node (hval 0 53 v0 rfl rfl) h0
  clear hA0 hval0
  refine (walk v0 x0 W w0).mono fun e W' ⟨he, bel⟩ => ?_
  subst he
  exact ⟨_, rfl, _, _, _, [], _, [], hW', trodAll_mk1 (shut_bool Try.underlying4 _), (trodAll_cons_mk (Below.trod laidOut (by kernel_rfl) (of_decide_eq_true (by kernel_rfl)) k0 bel lt0) trodAll_mk0), rfl, bel.frame _, fun h => by cases h⟩

theorem over : Rows.fnExactNodeBytesRow.holds Try.pinned (OpenSpec.ofChange Rows.fnExactNodeBytesSpec) :=
  OpenClaim.holds_of_wide 8 Try.f8 rfl rfl rfl rfl rfl rfl rfl ⟨rfl, rfl, rfl, rfl, rfl⟩ rfl rfl rfl rfl rfl (by kernel_rfl) Try.func8 (by kernel_rfl)
    (of_decide_eq_true (by kernel_rfl)) (by unfold Func.isWrapper; first | (rw [if_pos (by decide +kernel)]; kernel_rfl) | (rw [if_neg (by decide +kernel)]; exact ⟨rfl, rfl⟩))
    (fun os started H enc _ => lifted os started H enc)

/-- THE STATEMENT -/
theorem proved : Rows.FnExactNodeBytesSaid := over
#print axioms proved
end Go.Proofs.Ytjmlpekaehfeeaa.fnExactNodeBytes
