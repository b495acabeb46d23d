/- UnpinOf of a base and a number answers as the document's model, leaves the base as it is, and its answer is new memory. -/
import Derived.Test.YtdhnhgppapkikaaGreatDoorRows
import Derived.Test.YtdhnhgppapkikaaGreatDoorPkJ
import Derived.Test.YtdhnhgppapkikaaGreatDoorCards
import Derived.Test.YtdhnhgppapkikaaGreatDoorTie
import Derived.WalkKit
import Derived.ProofKit
import Derived.OpenShut
import Derived.ShutString
import Derived.ChangeOld
import Derived.Below
import Derived.WalkSmall
import Derived.Deep.RegionHeld3
import Derived.Outline
import Derived.Handed
import Derived.ChangeVars
import Derived.SevenTiedAt
namespace Go.Proofs.YtdhnhgppapkikaaGreatDoor.fnExactUnpinOf
set_option maxRecDepth 20000
set_option linter.unusedSimpArgs false
open Go.ChangeShapes Go.WideShapes Go.ChangeAt Go.RowKit
open Go.ChangeMaps (open_string shut_string)
set_option linter.unusedVariables false

theorem own : ownKnob Tryz.prog.godebug = none := by kernel_rfl
theorem laidOut : laidOutB Tryz.prog = true := by kernel_rfl

set_option maxHeartbeats 3200000 in
theorem walk (v0 : Value) (x0 : MBase) (a1 : Int) (w : World) (w0 : BaseArg w v0 x0) (w1 : (Lit.int .i64 a1).wf = true) (hg0 : Listed w) :
    Calls Tryz.prog 5 #[v0, .int .i64 a1] w fun e w' => e = .returned (.bool true) ∧ Below w.heap.size w w' := by
  have HGL := Lib.hid hg0
  clear hg0
  obtain ⟨L, rfl, hI, hn, hp, hg, hb, hm⟩ := w0
  have HI := Lib.hid hI
  obtain ⟨W0, hW0⟩ : ∃ z, w.alloc (.cells #[.slice L.A L.n L.c, .int .i64 x0.head, .slice L.Ap L.np L.cp, .int .i64 x0.phase, .slice L.Ag L.ng L.cg, .slice L.Ab L.nb L.cb, .int .i64 x0.cursor] 39) = z := ⟨_, rfl⟩
  have xb : Box W0 w.heap.size _ _ := hW0 ▸ heap_alloc_new _ _
  have b0 : Below w.heap.size w W0 := hW0 ▸ (Below.refl _ _).alloc (Nat.le_refl _) _
  have XB := Lib.hid xb
  have B0 := Lib.hid b0
  have hxl : w.heap.size < W0.heap.size := xb.lt
  have q0 : W0.cell? ⟨w.heap.size, 0, none⟩ = some (.slice L.A L.n L.c) := by simpa using XB.out.cell 0
  have q1 : W0.cell? ⟨w.heap.size, 1, none⟩ = some (.int .i64 x0.head) := by simpa using XB.out.cell 1
  have q2 : W0.cell? ⟨w.heap.size, 2, none⟩ = some (.slice L.Ap L.np L.cp) := by simpa using XB.out.cell 2
  have q3 : W0.cell? ⟨w.heap.size, 3, none⟩ = some (.int .i64 x0.phase) := by simpa using XB.out.cell 3
  have q4 : W0.cell? ⟨w.heap.size, 4, none⟩ = some (.slice L.Ag L.ng L.cg) := by simpa using XB.out.cell 4
  have q5 : W0.cell? ⟨w.heap.size, 5, none⟩ = some (.slice L.Ab L.nb L.cb) := by simpa using XB.out.cell 5
  have q6 : W0.cell? ⟨w.heap.size, 6, none⟩ = some (.int .i64 x0.cursor) := by simpa using XB.out.cell 6
  clear hI xb b0
  unfold BLay.v
  go_enter Tryz.func5, Tryz.ntmps5
  go_wp2_with fail
  refine (szBase_any L x0 W0 hn hp hg hb hm ((HI.out.below B0.out).more B0.out.size)).mono ?_
  rintro e w1 ⟨rfl, b1⟩
  have B1 := Lib.hid (B0.out.trans (b1.mono B0.out.size))
  have s1 : W0.heap.size ≤ w1.heap.size := b1.size
  have XB := Lib.hid (XB.out.below b1 hxl)
  clear b1 q0 q1 q2 q3 q4 q5 q6
  by_cases hs : szB x0 ≤ 1048576
  case neg =>
    rw [show leftOf 1048576 (szB x0) = -1 from if_neg hs]
    go_wp2
    go_ret
    exact ⟨rfl, B1.out⟩
  rw [show leftOf 1048576 (szB x0) = ((1048576 - szB x0 : Nat) : Int) from if_pos hs]
  have hd : decide ((((1048576 - szB x0 : Nat) : Int)) < 0) = false := decide_eq_false (by omega)
  clear hn hp hg hb hm
  have HS := Lib.hid hs
  have q0 : w1.cell? ⟨w.heap.size, 0, none⟩ = some (.slice L.A L.n L.c) := by simpa using XB.out.cell 0
  have q1 : w1.cell? ⟨w.heap.size, 1, none⟩ = some (.int .i64 x0.head) := by simpa using XB.out.cell 1
  have q2 : w1.cell? ⟨w.heap.size, 2, none⟩ = some (.slice L.Ap L.np L.cp) := by simpa using XB.out.cell 2
  have q3 : w1.cell? ⟨w.heap.size, 3, none⟩ = some (.int .i64 x0.phase) := by simpa using XB.out.cell 3
  have q4 : w1.cell? ⟨w.heap.size, 4, none⟩ = some (.slice L.Ag L.ng L.cg) := by simpa using XB.out.cell 4
  have q5 : w1.cell? ⟨w.heap.size, 5, none⟩ = some (.slice L.Ab L.nb L.cb) := by simpa using XB.out.cell 5
  have q6 : w1.cell? ⟨w.heap.size, 6, none⟩ = some (.int .i64 x0.cursor) := by simpa using XB.out.cell 6
  go_wp2_with fail
  refine (toBase_any L x0 w.heap.size w1 HS.out B1.out.size (HI.out.below B1.out)).mono ?_
  rintro e w2 ⟨L2, i1, i2, i3, rfl, o2, b2⟩
  have B2 := Lib.hid (B1.out.trans (b2.mono B1.out.size))
  have s2 : w1.heap.size ≤ w2.heap.size := b2.size
  have XB := Lib.hid (XB.out.below b2 (by omega))
  have O2 := Lib.hid o2
  clear b2 o2 hd q0 q1 q2 q3 q4 q5 q6
  -- the model's answer
  go_wp2_with fail
  refine (specUnpinOf_any L2 x0 a1 w2.heap.size w2 (O2.out.fit HS.out) (Nat.le_refl _) O2.out.inn).mono ?_
  rintro e w3 ⟨A3, n3, c3, l, k, rfl, hr, z3, b3⟩
  have HR := Lib.hid hr
  obtain rfl : l.length = n3 := z3.len
  have Z := Lib.hid z3
  have B3 := Lib.hid (B2.out.trans (b3.mono B2.out.size))
  have s3 : w2.heap.size ≤ w3.heap.size := b3.size
  have XB := Lib.hid (XB.out.below b3 (by omega))
  obtain ⟨hlb, hcb⟩ := unpinOf_bd HR.out HS.out
  have HCB := Lib.hid hcb
  clear b3 hr z3 O2 hcb
  have q0 : w3.cell? ⟨w.heap.size, 0, none⟩ = some (.slice L.A L.n L.c) := by simpa using XB.out.cell 0
  have q1 : w3.cell? ⟨w.heap.size, 1, none⟩ = some (.int .i64 x0.head) := by simpa using XB.out.cell 1
  have q2 : w3.cell? ⟨w.heap.size, 2, none⟩ = some (.slice L.Ap L.np L.cp) := by simpa using XB.out.cell 2
  have q3 : w3.cell? ⟨w.heap.size, 3, none⟩ = some (.int .i64 x0.phase) := by simpa using XB.out.cell 3
  have q4 : w3.cell? ⟨w.heap.size, 4, none⟩ = some (.slice L.Ag L.ng L.cg) := by simpa using XB.out.cell 4
  have q5 : w3.cell? ⟨w.heap.size, 5, none⟩ = some (.slice L.Ab L.nb L.cb) := by simpa using XB.out.cell 5
  have q6 : w3.cell? ⟨w.heap.size, 6, none⟩ = some (.int .i64 x0.cursor) := by simpa using XB.out.cell 6
  -- the argument, and the program's answer
  go_wp2_with fail
  refine (toBase_any L x0 w.heap.size w3 HS.out B3.out.size (HI.out.below B3.out)).mono ?_
  rintro e w4 ⟨L4, j1, j2, j3, rfl, o4, b4⟩
  have B4 := Lib.hid (B3.out.trans (b4.mono B3.out.size))
  have s4 : w3.heap.size ≤ w4.heap.size := b4.size
  have XB := Lib.hid (XB.out.below b4 (by omega))
  have X := Lib.hid o4
  have Z := Lib.hid (Z.out.below (b4.mono (by omega)))
  clear b4 o4 q0 q1 q2 q3 q4 q5 q6
  unfold BLay.v
  obtain ⟨w5, hw5⟩ : ∃ z, w4.alloc (.cells #[.slice L4.A L4.n L4.c, .int .i64 x0.head, .slice L4.Ap L4.np L4.cp, .int .i64 x0.phase, .slice L4.Ag L4.ng L4.cg, .slice L4.Ab L4.nb L4.cb, .int .i64 x0.cursor] 27) = z := ⟨_, rfl⟩
  have x5 : Box w5 w4.heap.size _ _ := hw5 ▸ heap_alloc_new _ _
  have b5 : Below w4.heap.size w4 w5 := hw5 ▸ (Below.refl _ _).alloc (Nat.le_refl _) _
  have X5 := Lib.hid x5
  have B5 := Lib.hid (B4.out.trans (b5.mono B4.out.size))
  have XB := Lib.hid (XB.out.below b5 (by omega))
  have X := Lib.hid (X.out.below b5)
  have Z := Lib.hid (Z.out.below (b5.mono (by omega)))
  have s5 : w4.heap.size < w5.heap.size := x5.lt
  clear x5 b5
  have p0 : w5.cell? ⟨w4.heap.size, 0, none⟩ = some (.slice L4.A L4.n L4.c) := by simpa using X5.out.cell 0
  have p1 : w5.cell? ⟨w4.heap.size, 1, none⟩ = some (.int .i64 x0.head) := by simpa using X5.out.cell 1
  have p2 : w5.cell? ⟨w4.heap.size, 2, none⟩ = some (.slice L4.Ap L4.np L4.cp) := by simpa using X5.out.cell 2
  have p3 : w5.cell? ⟨w4.heap.size, 3, none⟩ = some (.int .i64 x0.phase) := by simpa using X5.out.cell 3
  have p4 : w5.cell? ⟨w4.heap.size, 4, none⟩ = some (.slice L4.Ag L4.ng L4.cg) := by simpa using X5.out.cell 4
  have p5 : w5.cell? ⟨w4.heap.size, 5, none⟩ = some (.slice L4.Ab L4.nb L4.cb) := by simpa using X5.out.cell 5
  have p6 : w5.cell? ⟨w4.heap.size, 6, none⟩ = some (.int .i64 x0.cursor) := by simpa using X5.out.cell 6
  go_wp2_with fail
  refine (implUnpinOf_any L4 x0 a1 w5.heap.size w5 (HGL.out.below B5.out rfl) (X.out.fit HS.out) (Nat.le_refl _) (X.out.inn.more (by omega))).mono ?_
  rintro e w6 ⟨A6, n6, c6, l', k', rfl, hr', g6, b6⟩
  obtain ⟨rfl, rfl⟩ := hr'.one HR.out
  have hne : (k' != k') = false := by simp
  obtain rfl : l'.length = n6 := g6.len
  have G := Lib.hid g6
  clear hr' g6
  have B6 := Lib.hid (B5.out.trans (b6.mono B5.out.size))
  have X := Lib.hid (X.out.below (b6.mono (by omega)))
  have X5 := Lib.hid (X5.out.below b6 s5)
  have XB := Lib.hid (XB.out.below b6 (by omega))
  have s6 : w5.heap.size ≤ w6.heap.size := b6.size
  have Z := Lib.hid (Z.out.below (b6.mono (by omega)))
  clear b6 p0 p1 p2 p3 p4 p5 p6
  go_wp2_with fail
  refine (likeH_yes _ _ _ _ _ l' _ _ w6 hlb HCB.out (show w6.heap.size ≤ w6.heap.size by omega) (show w3.heap.size ≤ w6.heap.size by omega) G.out.chs Z.out.chs).mono ?_
  rintro e w7 ⟨rfl, b7⟩
  have B7 := Lib.hid (B6.out.trans (b7.mono B6.out.size))
  have X := Lib.hid (X.out.below (b7.mono (by omega)))
  have X5 := Lib.hid (X5.out.below b7 (by omega))
  have XB := Lib.hid (XB.out.below b7 (by omega))
  have s7 : w6.heap.size ≤ w7.heap.size := b7.size
  have Z := Lib.hid (Z.out.below (b7.mono (by omega)))
  have G := Lib.hid (G.out.below (b7.mono (by omega)))
  clear b7
  have h5l : w4.heap.size < w7.heap.size := X5.out.lt
  have hbl : w.heap.size < w7.heap.size := XB.out.lt
  have p0 : ∀ W, Below w7.heap.size w7 W → W.cell? ⟨w4.heap.size, 0, none⟩ = some (.slice L4.A L4.n L4.c) := fun W hW => by simpa using (X5.out.below hW h5l).cell 0
  have p1 : ∀ W, Below w7.heap.size w7 W → W.cell? ⟨w4.heap.size, 1, none⟩ = some (.int .i64 x0.head) := fun W hW => by simpa using (X5.out.below hW h5l).cell 1
  have p2 : ∀ W, Below w7.heap.size w7 W → W.cell? ⟨w4.heap.size, 2, none⟩ = some (.slice L4.Ap L4.np L4.cp) := fun W hW => by simpa using (X5.out.below hW h5l).cell 2
  have p3 : ∀ W, Below w7.heap.size w7 W → W.cell? ⟨w4.heap.size, 3, none⟩ = some (.int .i64 x0.phase) := fun W hW => by simpa using (X5.out.below hW h5l).cell 3
  have p4 : ∀ W, Below w7.heap.size w7 W → W.cell? ⟨w4.heap.size, 4, none⟩ = some (.slice L4.Ag L4.ng L4.cg) := fun W hW => by simpa using (X5.out.below hW h5l).cell 4
  have p5 : ∀ W, Below w7.heap.size w7 W → W.cell? ⟨w4.heap.size, 5, none⟩ = some (.slice L4.Ab L4.nb L4.cb) := fun W hW => by simpa using (X5.out.below hW h5l).cell 5
  have p6 : ∀ W, Below w7.heap.size w7 W → W.cell? ⟨w4.heap.size, 6, none⟩ = some (.int .i64 x0.cursor) := fun W hW => by simpa using (X5.out.below hW h5l).cell 6
  have q0 : ∀ W, Below w7.heap.size w7 W → W.cell? ⟨w.heap.size, 0, none⟩ = some (.slice L.A L.n L.c) := fun W hW => by simpa using (XB.out.below hW hbl).cell 0
  have q1 : ∀ W, Below w7.heap.size w7 W → W.cell? ⟨w.heap.size, 1, none⟩ = some (.int .i64 x0.head) := fun W hW => by simpa using (XB.out.below hW hbl).cell 1
  have q2 : ∀ W, Below w7.heap.size w7 W → W.cell? ⟨w.heap.size, 2, none⟩ = some (.slice L.Ap L.np L.cp) := fun W hW => by simpa using (XB.out.below hW hbl).cell 2
  have q3 : ∀ W, Below w7.heap.size w7 W → W.cell? ⟨w.heap.size, 3, none⟩ = some (.int .i64 x0.phase) := fun W hW => by simpa using (XB.out.below hW hbl).cell 3
  have q4 : ∀ W, Below w7.heap.size w7 W → W.cell? ⟨w.heap.size, 4, none⟩ = some (.slice L.Ag L.ng L.cg) := fun W hW => by simpa using (XB.out.below hW hbl).cell 4
  have q5 : ∀ W, Below w7.heap.size w7 W → W.cell? ⟨w.heap.size, 5, none⟩ = some (.slice L.Ab L.nb L.cb) := fun W hW => by simpa using (XB.out.below hW hbl).cell 5
  have q6 : ∀ W, Below w7.heap.size w7 W → W.cell? ⟨w.heap.size, 6, none⟩ = some (.int .i64 x0.cursor) := fun W hW => by simpa using (XB.out.below hW hbl).cell 6
  have hTO : ∀ W, Below w7.heap.size w7 W → Calls Tryz.prog 16 #[.agg #[.slice L.A L.n L.c, .int .i64 x0.head, .slice L.Ap L.np L.cp, .int .i64 x0.phase, .slice L.Ag L.ng L.cg, .slice L.Ab L.nb L.cb, .int .i64 x0.cursor]] W fun e w' => ∃ L' h1 h2 h3, e = .returned (.agg #[.slice L'.A L'.n L'.c, .int .i64 x0.head, .slice L'.Ap L'.np L'.cp, .int .i64 x0.phase, .slice L'.Ag L'.ng L'.cg, .slice L'.Ab L'.nb L'.cb, .int .i64 x0.cursor]) ∧ OwnBase w' W.heap.size h1 h2 h3 w'.heap.size L' x0 ∧ Below W.heap.size W w' :=
    fun W h => (toBase_any L x0 w.heap.size W HS.out (by have := h.size; omega) (HI.out.below (B7.out.trans (h.mono (by omega))))).mono fun e w' h => h
  have hEQ : ∀ W, Below w7.heap.size w7 W → ∀ L' h1 h2 h3 lo, OwnBase W lo h1 h2 h3 W.heap.size L' x0 → Calls Tryz.prog 18 #[.agg #[.slice L4.A L4.n L4.c, .int .i64 x0.head, .slice L4.Ap L4.np L4.cp, .int .i64 x0.phase, .slice L4.Ag L4.ng L4.cg, .slice L4.Ab L4.nb L4.cb, .int .i64 x0.cursor], .agg #[.slice L'.A L'.n L'.c, .int .i64 x0.head, .slice L'.Ap L'.np L'.cp, .int .i64 x0.phase, .slice L'.Ag L'.ng L'.cg, .slice L'.Ab L'.nb L'.cb, .int .i64 x0.cursor]] W fun e w' => e = .returned (.bool true) ∧ Below W.heap.size W w' :=
    fun W h L' h1 h2 h3 lo hO => eqBase_yes L4 L' x0 w4.heap.size W.heap.size W HS.out (by have := h.size; omega) (Nat.le_refl _) ((X.out.below (h.mono (by omega))).inn) hO.inn
  have TO := Lib.hid hTO
  have EQ := Lib.hid hEQ
  clear hTO hEQ
  go_wp2
  go_region_held3 (fun W => Below w7.heap.size w7 W) (first | exact (Below.refl _ _).drew | assumption)
    (first
      | (go_at_call 16
         refine (TO.out _ (by assumption)).mono ?_
         rintro e w8 ⟨L8, i4, i5, i6, rfl, o8, b8⟩
         have h8 : Below w7.heap.size w7 w8 := Below.trans (by assumption) (Below.mono b8 (Below.size (B := w7.heap.size) (w := w7) (by assumption))))
      | (go_at_call 18
         refine (EQ.out _ (by assumption) L8 _ _ _ _ o8).mono ?_
         rintro e w9 ⟨rfl, b9⟩
         have h9 : Below w7.heap.size w7 w9 := h8.trans (b9.mono h8.size)))
  clear p0 p1 p2 p3 p4 p5 p6 q0 q1 q2 q3 q4 q5 q6
  have B9 := Lib.hid (B7.out.trans (h9.mono (by omega)))
  have X := Lib.hid (X.out.below (h9.mono (by omega)))
  have X5 := Lib.hid (X5.out.below h9 h5l)
  have XB := Lib.hid (XB.out.below h9 hbl)
  have s9 : w7.heap.size ≤ w9.heap.size := h9.size
  have Z := Lib.hid (Z.out.below (h9.mono (by omega)))
  have G := Lib.hid (G.out.below (h9.mono (by omega)))
  clear h9 h8 b8 b9 o8
  have p0 : w9.cell? ⟨w4.heap.size, 0, none⟩ = some (.slice L4.A L4.n L4.c) := by simpa using X5.out.cell 0
  have p1 : w9.cell? ⟨w4.heap.size, 1, none⟩ = some (.int .i64 x0.head) := by simpa using X5.out.cell 1
  have p2 : w9.cell? ⟨w4.heap.size, 2, none⟩ = some (.slice L4.Ap L4.np L4.cp) := by simpa using X5.out.cell 2
  have p3 : w9.cell? ⟨w4.heap.size, 3, none⟩ = some (.int .i64 x0.phase) := by simpa using X5.out.cell 3
  have p4 : w9.cell? ⟨w4.heap.size, 4, none⟩ = some (.slice L4.Ag L4.ng L4.cg) := by simpa using X5.out.cell 4
  have p5 : w9.cell? ⟨w4.heap.size, 5, none⟩ = some (.slice L4.Ab L4.nb L4.cb) := by simpa using X5.out.cell 5
  have p6 : w9.cell? ⟨w4.heap.size, 6, none⟩ = some (.int .i64 x0.cursor) := by simpa using X5.out.cell 6
  -- the argument is marked
  go_wp2_with fail
  refine (markBase_any L4 x0 _ _ _ _ _ 1 w9 (by omega) (by omega) (by omega) X.out (by omega)).mono ?_
  rintro e wA ⟨rfl, _, tA⟩
  have BA := Lib.hid (B9.out.trans (tA.below B9.out.size (fun k hk h => by omega)))
  have xb : Box wA w.heap.size _ _ := (tA.block _ XB.out.lt (fun h => by omega)).trans XB.out
  have XB := Lib.hid xb
  clear xb
  have sA : w9.heap.size ≤ wA.heap.size := tA.size
  clear X
  have Z := Lib.hid (Z.out.touch tA (fun g h1 h2 h => by omega))
  have G := Lib.hid (G.out.touch tA (fun g h1 h2 h => by omega))
  have hd : decide ((1 : Int) + (szB x0 : Int) < 0) = false := decide_eq_false (by omega)
  clear tA p0 p1 p2 p3 p4 p5 p6
  go_wp2_with fail
  refine (likeH_yes _ _ _ _ _ l' _ _ wA hlb HCB.out (show w6.heap.size ≤ wA.heap.size by omega) (show w3.heap.size ≤ wA.heap.size by omega) G.out.chs Z.out.chs).mono ?_
  rintro e wC ⟨rfl, bC⟩
  have BC := Lib.hid (BA.out.trans (bC.mono BA.out.size))
  have xb : Box wC w.heap.size _ _ := XB.out.below bC XB.out.lt
  have XB := Lib.hid xb
  have Z := Lib.hid (Z.out.below (bC.mono (by omega)))
  have G := Lib.hid (G.out.below (bC.mono (by omega)))
  have sC : wA.heap.size ≤ wC.heap.size := bC.size
  clear bC xb
  -- the answer is marked, and held against the marks
  have hml := mlH_le l' 1048576 (fun x hx => by
    obtain ⟨i, hi, rfl⟩ := List.mem_iff_getElem.1 hx
    have h := HCB.out i
    unfold cx at h
    rw [List.getElem?_eq_getElem hi] at h
    exact h)
  go_wp2_with fail
  refine (markH_any _ _ _ _ _ l' 1 wC (by omega) (by omega) (by omega) G.out).mono ?_
  rintro e wD ⟨rfl, gD, tD⟩
  have BD := Lib.hid (BC.out.trans (tD.below BC.out.size (fun k hk h => by omega)))
  have xb : Box wD w.heap.size _ _ := (tD.block _ (by omega) (fun h => by omega)).trans XB.out
  have XB := Lib.hid xb
  have Z := Lib.hid (Z.out.touch tD (fun b h1 h2 h => by omega))
  have G := Lib.hid gD
  have sD : wC.heap.size ≤ wD.heap.size := tD.size
  clear tD gD xb
  have hd2 : decide ((1 : Int) + (mlH l' : Int) < 0) = false := decide_eq_false (by omega)
  have q0 : wD.cell? ⟨w.heap.size, 0, none⟩ = some (.slice L.A L.n L.c) := by simpa using XB.out.cell 0
  have q1 : wD.cell? ⟨w.heap.size, 1, none⟩ = some (.int .i64 x0.head) := by simpa using XB.out.cell 1
  have q2 : wD.cell? ⟨w.heap.size, 2, none⟩ = some (.slice L.Ap L.np L.cp) := by simpa using XB.out.cell 2
  have q3 : wD.cell? ⟨w.heap.size, 3, none⟩ = some (.int .i64 x0.phase) := by simpa using XB.out.cell 3
  have q4 : wD.cell? ⟨w.heap.size, 4, none⟩ = some (.slice L.Ag L.ng L.cg) := by simpa using XB.out.cell 4
  have q5 : wD.cell? ⟨w.heap.size, 5, none⟩ = some (.slice L.Ab L.nb L.cb) := by simpa using XB.out.cell 5
  have q6 : wD.cell? ⟨w.heap.size, 6, none⟩ = some (.int .i64 x0.cursor) := by simpa using XB.out.cell 6
  go_wp2_with fail
  refine (heldH_yes _ _ _ _ l' 1 wD (by omega) (by omega) (by omega) G.out.chs).mono ?_
  rintro e w' ⟨rfl, rfl⟩
  go_wp2_with fail
  refine (toBase_any L x0 w.heap.size wD HS.out (by omega) (HI.out.below BD.out)).mono ?_
  rintro e wE ⟨LE, k1, k2, k3, rfl, oE, bE⟩
  have BE := Lib.hid (BD.out.trans (bE.mono BD.out.size))
  have Y := Lib.hid oE
  have Z := Lib.hid (Z.out.below (bE.mono (by omega)))
  have G := Lib.hid (G.out.below (bE.mono (by omega)))
  have sE : wD.heap.size ≤ wE.heap.size := bE.size
  clear bE oE q0 q1 q2 q3 q4 q5 q6
  go_wp2_with fail
  refine (implUnpinOf_any LE x0 a1 wE.heap.size wE (HGL.out.below BE.out rfl) (Y.out.fit HS.out) (Nat.le_refl _) Y.out.inn).mono ?_
  rintro e wF ⟨AF, nF, cF, l, k, rfl, hr', hF, bF⟩
  obtain ⟨rfl, rfl⟩ := hr'.one HR.out
  have hne2 : (k != k) = false := by simp
  obtain rfl : l.length = nF := hF.len
  have BF := Lib.hid (BE.out.trans (bF.mono BE.out.size))
  have Z := Lib.hid (Z.out.below (bF.mono (by omega)))
  have G := Lib.hid (G.out.below (bF.mono (by omega)))
  have H := Lib.hid hF
  have sF : wE.heap.size ≤ wF.heap.size := bF.size
  clear bF hF hr' Y
  go_wp2_with fail
  refine (likeH_yes _ _ _ _ _ l _ _ wF hlb HCB.out (show wF.heap.size ≤ wF.heap.size by omega) (show w3.heap.size ≤ wF.heap.size by omega) H.out.chs Z.out.chs).mono ?_
  rintro e wG ⟨rfl, bG⟩
  have BG := Lib.hid (BF.out.trans (bG.mono BF.out.size))
  have G := Lib.hid (G.out.below (bG.mono (by omega)))
  clear bG H Z
  go_wp2_with fail
  refine (heldH_yes _ _ _ _ l 1 wG (by omega) (by omega) (by omega) G.out.chs).mono ?_
  rintro e w' ⟨rfl, rfl⟩
  go_wp2
  go_ret
  exact ⟨rfl, BG.out⟩

/-! ### THE ROW's STEP -/
set_option maxRecDepth 100000 in
theorem lifted (os : Os) (started : os.Started) (H : Type) (enc : TypeId × Value → H) :
    ReturnsInHanded {} Tryz.checked os 5 .any (fun w args => (Rows.fnExactUnpinOfSpec.pre enc Tryz.prog Tryz.f5 Rows.fnExactUnpinOfRow.domain false w args ∧ laidMetH Tryz.prog Rows.fnExactUnpinOfRow.laid w) ∧ sizedMet enc Tryz.prog Tryz.f5 (OpenSpec.ofChange Rows.fnExactUnpinOfSpec) false w args)
      (Rows.fnExactUnpinOfSpec.post enc Tryz.prog Tryz.f5 false true false false) := by
  refine returnsInHanded_of_change_and (C := Tryz.checked) (X := fun w _ => laidMetH Tryz.prog Rows.fnExactUnpinOfRow.laid w) (fun _ _ _ hh h => h.of_heap hh) own started (by kernel_rfl) Tryz.func5
    (ChangeSpec.witness_at (enc := enc) (C := Tryz.checked) (os := os) (X := fun w _ => laidMetH Tryz.prog Rows.fnExactUnpinOfRow.laid w) false (lstWorld os) #[.agg #[.slice none 0 0, .int .i64 0, .slice none 0 0, .int .i64 0, .slice none 0 0, .slice none 0 0, .int .i64 0], .int .i64 0] 8 rfl (by kernel_rfl) (by kernel_rfl) (by kernel_rfl) (by kernel_rfl) (by kernel_rfl) (lstWorld_met os _)) ?_
  intro W base args ds gs before hval0 hW hcnd _ hLd _
  have hval : ∀ (j : Nat) t v, Tryz.f5.params[j]? = some t → args[j]? = some v → Value.okWide Tryz.prog W .any base t v := hval0
  have hW' := hW
  obtain ⟨p, q, hA0, hV, rfl, hfz, hnd⟩ := hW
  have hA : DataW.TrodAll enc Tryz.prog W 0 (fun _ => true) true Tryz.f5.params.toList args.toList ds p := hA0
  rw [Tryz.params5] at hA hval
  obtain ⟨v0, vs0, d0, ds0, p0, q0, hargs, rfl, rfl, h0, r0⟩ := trodAll_cons hA
  obtain ⟨v1, vs1, d1, ds1, p1, q1, rfl, rfl, rfl, h1, r1⟩ := trodAll_cons r0
  obtain ⟨rfl, rfl, rfl⟩ := trodAll_nil r1
  obtain rfl : args = #[v0, v1] := by cases args; simp_all
  obtain ⟨rfl, rfl⟩ := trodVars_none hV
  have k0 := h0
  have lt0 : ∀ x ∈ p0, x.block < W.heap.size := by obtain ⟨m, hm⟩ := k0; exact DataW.trod_lt m _ _ _ hm
  obtain ⟨x0, w0⟩ := open_base (hval 0 39 v0 rfl rfl) h0
  have k1 := h1
  have lt1 : ∀ x ∈ p1, x.block < W.heap.size := by obtain ⟨m, hm⟩ := k1; exact DataW.trod_lt m _ _ _ hm
  obtain ⟨a1, rfl, rfl, rfl, w1⟩ := open_int Tryz.underlying2 (hval 1 2 v1 rfl rfl) h1
  clear hA0 hval0
  refine (walk v0 x0 a1 W w0 w1 (listed_of_laid hLd)).mono fun e W' ⟨he, bel⟩ => ?_
  subst he
  exact ⟨_, rfl, _, _, _, [], _, [], hW', trodAll_mk1 (shut_bool Tryz.underlying4 _), (trodAll_cons_mk (Below.trod laidOut (by kernel_rfl) (of_decide_eq_true (by kernel_rfl)) k0 bel lt0) (trodAll_cons_mk (Below.trod laidOut (by kernel_rfl) (of_decide_eq_true (by kernel_rfl)) k1 bel lt1) trodAll_mk0)), rfl, bel.frame _, fun h => by cases h⟩

theorem over : Rows.fnExactUnpinOfRow.holds Tryz.pinned (OpenSpec.ofChange Rows.fnExactUnpinOfSpec) :=
  OpenClaim.holds_of_wide 5 Tryz.f5 rfl rfl rfl rfl rfl rfl rfl ⟨rfl, rfl, rfl, rfl, rfl⟩ rfl rfl rfl rfl rfl (by kernel_rfl) Tryz.func5 (by kernel_rfl)
    (of_decide_eq_true (by kernel_rfl)) (by unfold Func.isWrapper; first | (rw [if_pos (by decide +kernel)]; kernel_rfl) | (rw [if_neg (by decide +kernel)]; exact ⟨rfl, rfl⟩))
    (fun os started H enc _ => lifted os started H enc)

theorem said : Rows.FnExactUnpinOfSaid := over
/-- no parameter wants a stand-in; the program's own looks are off. -/
theorem plain (f : FuncId) (fn : Func) (hf : Tryz.pinned.checked.prog.funcNamed "loop.example/g00754/laws.FnExactUnpinOf" = some f) (hfn : Tryz.pinned.checked.prog.funcs[f]? = some fn) :
    true = Tryz.pinned.checked.prog.looks [] ∧ ∀ (j : Nat) t, fn.params[j]? = some t → Tryz.pinned.checked.prog.wantsStandIn t = false := by
  obtain rfl : f = 5 := Option.some.inj ((show Tryz.prog.funcNamed "loop.example/g00754/laws.FnExactUnpinOf" = some 5 by kernel_rfl).symm.trans hf) |>.symm
  obtain rfl : fn = Tryz.f5 := (Option.some.inj (Tryz.func5.symm.trans hfn)).symm
  refine ⟨by kernel_rfl, fun j t ht => ?_⟩
  rw [Tryz.params5] at ht
  have hm := Array.mem_of_getElem? ht
  simp at hm
  rcases hm with rfl | rfl
  · exact (show Tryz.prog.wantsStandIn 39 = false by kernel_rfl)
  · exact (show Tryz.prog.wantsStandIn 2 = false by kernel_rfl)
/-- THE STATEMENT, TIED -/
theorem proved : Rows.FnExactUnpinOfCardSaid :=
  Claim7.holds_tied_plain_at .later [] _ _ _ _ said (fun _ h => by cases h) (by kernel_rfl) (fun _ h => by cases h) fnExactUnpinOf_row_tie rfl ⟨rfl, rfl⟩ (by kernel_rfl) rfl plain (by kernel_rfl)
#print axioms proved
end Go.Proofs.YtdhnhgppapkikaaGreatDoor.fnExactUnpinOf
