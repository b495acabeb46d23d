/- At every code the law of chapter 3 holds: what is written of a drawn node is read as it, and what is read is written as it was; the program answers as the model. -/
import Derived.Test.YtebfinedkjlbbaaRows
import Derived.Test.YtebfinedkjlbbaaPkH
import Derived.WalkKit
import Derived.ProofKit
import Derived.OpenShut
import Derived.ShutString
import Derived.ChangeOld
import Derived.Below
import Derived.WalkSmall
import Derived.Deep.RegionHeld3
import Derived.Outline
namespace Go.Proofs.Ytebfinedkjlbbaa.fnNodes
set_option maxRecDepth 20000
set_option linter.unusedSimpArgs false
open Go.ChangeShapes Go.WideShapes Go.ChangeAt Go.RowKit
open Go.ChangeMaps (open_string shut_string)
set_option linter.unusedVariables false

theorem own : ownKnob Try.prog.godebug = none := by kernel_rfl
theorem laidOut : laidOutB Try.prog = true := by kernel_rfl

theorem drew_below {w w' : World} (h : ∃ m, w' = w.drewN m) : Below w.heap.size w w' := by
  obtain ⟨m, rfl⟩ := h
  exact below_drewN (Below.refl _ _) m

set_option maxHeartbeats 4000000 in
theorem walk0 (A : Option Addr) (n c : Nat) (cs : List Int) (w : World) (hn : n ≤ 4096) (hb : Byts w w.heap.size A n cs) :
    Calls Try.prog 4 #[.slice A n c] w fun e w' => e = .returned (.bool true) ∧ Below w.heap.size w w' := by
  have HB := Lib.hid hb
  clear hb
  go_enter Try.func4, Try.ntmps4
  go_wp2_with fail
  refine (big_no _ _ _ _ hn).mono ?_
  rintro e w' ⟨rfl, rfl⟩
  go_wp2_with fail
  refine (drawNodeBytes_any _ _ _ cs _ hn HB.out).mono ?_
  rintro e w1 ⟨v1, nd, rfl, o1, wf, e1, e2, e3, b1⟩
  have VN := Lib.hid o1
  have B1 := Lib.hid b1
  have hbl := Lib.hid (nodeBytes_len nd)
  obtain ⟨Ap, np, cp, Ak, nk, ck, rfl, _⟩ := o1
  have s1 := b1.size
  clear b1
  obtain ⟨w2, hw2⟩ : ∃ w2, w1.alloc (.cells #[.int .i64 nd.kind, .slice Ap np cp, .slice Ak nk ck, .string nd.val] 26) = w2 := ⟨_, rfl⟩
  obtain ⟨gn, hgn⟩ : ∃ gn, w1.heap.size = gn := ⟨_, rfl⟩
  have n2 : Box w2 gn 26 #[.int .i64 nd.kind, .slice Ap np cp, .slice Ak nk ck, .string nd.val] := by rw [← hw2, ← hgn]; exact heap_alloc_new _ _
  have b2 : Below w1.heap.size w1 w2 := hw2 ▸ (Below.refl _ _).alloc (Nat.le_refl _) _
  have NB := Lib.hid n2
  have VN := Lib.hid (VN.out.below b2)
  have B2 := Lib.hid (B1.out.trans (b2.mono s1))
  have HW2 := Lib.hid hw2
  clear n2 b2 hw2
  go_wp2_with fail
  rw [HW2.out]
  refine (implNodeBytes_any _ nd _ w2 (Nat.le_refl _) VN.out.node).mono ?_
  rintro e w3 ⟨A3, n3, c3, rfl, m3, b3⟩
  have hn3 : (nodeBytes nd).length = n3 := m3.len
  have hc3 := mine_cap m3
  have hA3 := fun h => mine_none m3 h
  have MB := Lib.hid m3
  have VN := Lib.hid (VN.out.below b3)
  have NB := Lib.hid (NB.out.below b3 NB.out.lt)
  have B3 := Lib.hid (B2.out.trans (b3.mono B2.out.size))
  clear m3 b3
  go_wp2_with fail
  refine (drawNodeFrom_any _ _ _ cs _ hn ((HB.out.below B3.out).more B3.out.size)).mono ?_
  rintro e w4 ⟨A4, n4, c4, fs, hn4, hc4, hA4, rfl, f4, b4⟩
  have FB := Lib.hid f4
  have MB := Lib.hid (MB.out.below b4)
  have VN := Lib.hid (VN.out.below b4)
  have NB := Lib.hid (NB.out.below b4 NB.out.lt)
  have B4 := Lib.hid (B3.out.trans (b4.mono B3.out.size))
  clear f4 b4
  go_wp2_with fail
  refine (implNodeFrom_any _ _ _ fs _ _ (by omega) hc4 hA4 (Nat.le_refl _) FB.out).mono ?_
  rintro e w5 ⟨v5, x, bk, rfl, o5, rd5, b5⟩
  have VX := Lib.hid o5
  have RD := Lib.hid rd5
  have FB := Lib.hid (FB.out.below b5)
  have MB := Lib.hid (MB.out.below b5)
  have VN := Lib.hid (VN.out.below b5)
  have NB := Lib.hid (NB.out.below b5 NB.out.lt)
  have B5 := Lib.hid (B4.out.trans (b5.mono B4.out.size))
  have s5 := b5.size
  obtain ⟨Ax, nx, cx, Ay, ny, cy, rfl, _⟩ := o5
  clear rd5 b5
  obtain ⟨w6, hw6⟩ : ∃ w6, w5.alloc (.cells #[.int .i64 x.kind, .slice Ax nx cx, .slice Ay ny cy, .string x.val] 26) = w6 := ⟨_, rfl⟩
  obtain ⟨gx, hgx⟩ : ∃ gx, w5.heap.size = gx := ⟨_, rfl⟩
  have n6 : Box w6 gx 26 #[.int .i64 x.kind, .slice Ax nx cx, .slice Ay ny cy, .string x.val] := by rw [← hw6, ← hgx]; exact heap_alloc_new _ _
  have b6 : Below w5.heap.size w5 w6 := hw6 ▸ (Below.refl _ _).alloc (Nat.le_refl _) _
  have XB := Lib.hid n6
  have VX := Lib.hid (VX.out.below b6)
  have FB := Lib.hid (FB.out.below (b6.mono s5))
  have MB := Lib.hid (MB.out.below b6)
  have VN := Lib.hid (VN.out.below b6)
  have NB := Lib.hid (NB.out.below b6 NB.out.lt)
  have B6 := Lib.hid (B5.out.trans (b6.mono B5.out.size))
  have s6 := b6.size
  have HW6 := Lib.hid hw6
  clear n6 b6 hw6
  go_wp2_with fail
  rw [HW6.out]
  refine (specNodeFrom_any _ _ _ fs _ w6 (by omega) hc4 (by omega) FB.out).mono ?_
  rintro e w7 ⟨v7, y, bk', rfl, o7, rd7, b7⟩
  obtain ⟨rfl, rfl⟩ := RD.out.one rd7
  have VY := Lib.hid o7
  have XB := Lib.hid (XB.out.below b7 XB.out.lt)
  have VX := Lib.hid (VX.out.below b7)
  have FB := Lib.hid (FB.out.below (b7.mono (by omega)))
  have MB := Lib.hid (MB.out.below b7)
  have VN := Lib.hid (VN.out.below b7)
  have NB := Lib.hid (NB.out.below b7 NB.out.lt)
  have B7 := Lib.hid (B6.out.trans (b7.mono B6.out.size))
  have s7 := b7.size
  obtain ⟨Ap7, np7, cp7, Ak7, nk7, ck7, rfl, _⟩ := o7
  clear rd7 b7
  obtain ⟨w8, hw8⟩ : ∃ w8, w7.alloc (.cells #[.int .i64 x.kind, .slice Ap7 np7 cp7, .slice Ak7 nk7 ck7, .string x.val] 26) = w8 := ⟨_, rfl⟩
  obtain ⟨gy, hgy⟩ : ∃ gy, w7.heap.size = gy := ⟨_, rfl⟩
  have n8 : Box w8 gy 26 #[.int .i64 x.kind, .slice Ap7 np7 cp7, .slice Ak7 nk7 ck7, .string x.val] := by rw [← hw8, ← hgy]; exact heap_alloc_new _ _
  have b8 : Below w7.heap.size w7 w8 := hw8 ▸ (Below.refl _ _).alloc (Nat.le_refl _) _
  have YB := Lib.hid n8
  have VY := Lib.hid (VY.out.below b8)
  have XB := Lib.hid (XB.out.below b8 XB.out.lt)
  have VX := Lib.hid (VX.out.below b8)
  have FB := Lib.hid (FB.out.below (b8.mono (by omega)))
  have MB := Lib.hid (MB.out.below b8)
  have VN := Lib.hid (VN.out.below b8)
  have NB := Lib.hid (NB.out.below b8 NB.out.lt)
  have B8 := Lib.hid (B7.out.trans (b8.mono B7.out.size))
  have s8 := b8.size
  have HW8 := Lib.hid hw8
  clear n8 b8 hw8
  go_wp2_with fail
  rw [HW8.out]
  refine (drawValueOk_any _ _ _ cs w8 hn ((HB.out.below B8.out).more B8.out.size)).mono ?_
  rintro e w9 ⟨s, hs, rfl, b9⟩
  have YB := Lib.hid (YB.out.below b9 YB.out.lt)
  have VY := Lib.hid (VY.out.below b9)
  have XB := Lib.hid (XB.out.below b9 XB.out.lt)
  have VX := Lib.hid (VX.out.below b9)
  have FB := Lib.hid (FB.out.below (b9.mono (by omega)))
  have MB := Lib.hid (MB.out.below b9)
  have VN := Lib.hid (VN.out.below b9)
  have NB := Lib.hid (NB.out.below b9 NB.out.lt)
  have B9 := Lib.hid (B8.out.trans (b9.mono B8.out.size))
  have s9 := B9.out.size
  have s89 := b9.size
  have hs' : s.size ≤ 1048576 := by omega
  clear b9
  go_wp2
  have hok2 : ∀ b : Bool, (b != b) = false := fun b => by simp
  have ln := NB.out.lt
  have lx := XB.out.lt
  have ly := YB.out.lt
  have pn0 : ∀ W, Below w9.heap.size w9 W → W.cell? ⟨gn, 0, none⟩ = some (.int .i64 nd.kind) := fun W hW => (NB.out.below hW ln).cell 0
  have pn1 : ∀ W, Below w9.heap.size w9 W → W.cell? ⟨gn, 1, none⟩ = some (.slice Ap np cp) := fun W hW => (NB.out.below hW ln).cell 1
  have pn2 : ∀ W, Below w9.heap.size w9 W → W.cell? ⟨gn, 2, none⟩ = some (.slice Ak nk ck) := fun W hW => (NB.out.below hW ln).cell 2
  have pn3 : ∀ W, Below w9.heap.size w9 W → W.cell? ⟨gn, 3, none⟩ = some (.string nd.val) := fun W hW => (NB.out.below hW ln).cell 3
  have px0 : ∀ W, Below w9.heap.size w9 W → W.cell? ⟨gx, 0, none⟩ = some (.int .i64 x.kind) := fun W hW => (XB.out.below hW lx).cell 0
  have px1 : ∀ W, Below w9.heap.size w9 W → W.cell? ⟨gx, 1, none⟩ = some (.slice Ax nx cx) := fun W hW => (XB.out.below hW lx).cell 1
  have px2 : ∀ W, Below w9.heap.size w9 W → W.cell? ⟨gx, 2, none⟩ = some (.slice Ay ny cy) := fun W hW => (XB.out.below hW lx).cell 2
  have px3 : ∀ W, Below w9.heap.size w9 W → W.cell? ⟨gx, 3, none⟩ = some (.string x.val) := fun W hW => (XB.out.below hW lx).cell 3
  have py0 : ∀ W, Below w9.heap.size w9 W → W.cell? ⟨gy, 0, none⟩ = some (.int .i64 x.kind) := fun W hW => (YB.out.below hW ly).cell 0
  have py1 : ∀ W, Below w9.heap.size w9 W → W.cell? ⟨gy, 1, none⟩ = some (.slice Ap7 np7 cp7) := fun W hW => (YB.out.below hW ly).cell 1
  have py2 : ∀ W, Below w9.heap.size w9 W → W.cell? ⟨gy, 2, none⟩ = some (.slice Ak7 nk7 ck7) := fun W hW => (YB.out.below hW ly).cell 2
  have py3 : ∀ W, Below w9.heap.size w9 W → W.cell? ⟨gy, 3, none⟩ = some (.string x.val) := fun W hW => (YB.out.below hW ly).cell 3
  go_region_held3 (fun W => Below w9.heap.size w9 W) (first | exact (Below.refl _ _).drew | assumption)
    (first
      | (go_at_call 24
         refine (specNodeBytes_any _ nd _ _ (Nat.le_refl _) (VN.out.below ‹Below w9.heap.size w9 _›).node).mono ?_
         rintro e wa ⟨ga, na, ca, rfl, ma, ba⟩
         have ha : Below w9.heap.size w9 wa := Below.trans (by assumption) (Below.mono ba (Below.size (B := w9.heap.size) (w := w9) (by assumption))))
      | (go_at_call 23
         refine (likeBytes_yes _ _ _ _ _ _ (nodeBytes nd) _ _ _ (MB.out.below ha).byts ma.byts).mono ?_
         rintro e w' ⟨rfl, rfl⟩)
      | (go_at_call 25
         refine (likeNode_yes _ _ x _ _ _ (Nat.le_refl _) (Nat.le_refl _) (VX.out.below ha).node (VY.out.below ha).node).mono ?_
         rintro e wb ⟨rfl, bb⟩
         have hb : Below w9.heap.size w9 wb := Below.trans ha (Below.mono bb (Below.size ha)))
      | (go_at_call 26
         refine (progNodeOk_any _ nd _ _ (Nat.le_refl _) (VN.out.below hb).node).mono ?_
         rintro e wc ⟨rfl, bc⟩
         have hc : Below w9.heap.size w9 wc := Below.trans hb (Below.mono bc (Below.size hb)))
      | (go_at_call 27
         refine (specNodeOk_any _ nd _ _ (Nat.le_refl _) (VN.out.below hc).node).mono ?_
         rintro e wd ⟨rfl, bd⟩
         have hd : Below w9.heap.size w9 wd := Below.trans hc (Below.mono bd (Below.size hc)))
      | (go_at_call 28
         refine (valueOk_any s _ hs').mono ?_
         rintro e w' ⟨rfl, rfl⟩)
      | (go_at_call 29
         refine (specValueOk_any s _ hs').mono ?_
         rintro e we ⟨rfl, he⟩
         have h10 : Below w9.heap.size w9 we := Below.trans hd (Below.mono (drew_below he) (Below.size hd))))
  clear pn0 pn1 pn2 pn3 px0 px1 px2 px3 py0 py1 py2 py3 YB VY hok2
  have hn3b : n3 ≤ 1048576 := by have := hbl.out; omega
  have XB := Lib.hid (XB.out.below h10 XB.out.lt)
  have VX := Lib.hid (VX.out.below h10)
  have FB := Lib.hid (FB.out.below (h10.mono (by omega)))
  have MB := Lib.hid (MB.out.below h10)
  have VN := Lib.hid (VN.out.below h10)
  have NB := Lib.hid (NB.out.below h10 NB.out.lt)
  have T := Lib.hid (B9.out.trans (h10.mono s9))
  cases bk
  · skip
    have qn0 := NB.out.cell 0
    have qn1 := NB.out.cell 1
    have qn2 := NB.out.cell 2
    have qn3 := NB.out.cell 3
    simp at qn0 qn1 qn2 qn3
    go_wp2_with fail
    refine (specNodeOk_any _ nd _ _ (Nat.le_refl _) VN.out.node).mono ?_
    rintro e wg ⟨rfl, bg⟩
    clear qn0 qn1 qn2 qn3
    have VN := Lib.hid (VN.out.below bg)
    have MB := Lib.hid (MB.out.below bg)
    have NB := Lib.hid (NB.out.below bg NB.out.lt)
    have T := Lib.hid (T.out.trans (bg.mono T.out.size))
    clear bg
    by_cases hok : nodeOk nd = true
    · rw [hok]
      go_wp2_with fail
      refine (implNodeFrom_any _ _ _ (nodeBytes nd) _ _ hn3b hc3 hA3 (Nat.le_refl _) MB.out.byts).mono ?_
      rintro e wh ⟨vh, nh, bh, rfl, oh, rh, bwh⟩
      obtain ⟨rfl, rfl⟩ := NodeRead.one rh (.inl ⟨rfl, hok, wf, rfl⟩)
      have VH := Lib.hid oh
      have VN := Lib.hid (VN.out.below bwh)
      have NB := Lib.hid (NB.out.below bwh NB.out.lt)
      have T := Lib.hid (T.out.trans (bwh.mono T.out.size))
      have hlen4 : (4 : Int) ≤ (n3 : Int) := by
        have h1 := (rawBytes_len nh).1
        have h2 : nodeBytes nh = rawBytes nh := if_pos hok
        rw [h2] at hn3
        omega
      have hd4 : decide ((4 : Int) ≤ (n3 : Int)) = true := decide_eq_true hlen4
      obtain ⟨Aq, nq, cq, Ar, nr, cr, rfl, _⟩ := oh
      clear rh bwh hlen4
      obtain ⟨wi, hwi⟩ : ∃ wi, wh.alloc (.cells #[.int .i64 nh.kind, .slice Aq nq cq, .slice Ar nr cr, .string nh.val] 26) = wi := ⟨_, rfl⟩
      obtain ⟨gh, hgh⟩ : ∃ gh, wh.heap.size = gh := ⟨_, rfl⟩
      have ni : Box wi gh 26 #[.int .i64 nh.kind, .slice Aq nq cq, .slice Ar nr cr, .string nh.val] := by rw [← hwi, ← hgh]; exact heap_alloc_new _ _
      have bi : Below wh.heap.size wh wi := hwi ▸ (Below.refl _ _).alloc (Nat.le_refl _) _
      have IB := Lib.hid ni
      have VH := Lib.hid (VH.out.below bi)
      have VN := Lib.hid (VN.out.below bi)
      have NB := Lib.hid (NB.out.below bi NB.out.lt)
      have T := Lib.hid (T.out.trans (bi.mono T.out.size))
      clear ni bi
      have qn0 := NB.out.cell 0
      have qn1 := NB.out.cell 1
      have qn2 := NB.out.cell 2
      have qn3 := NB.out.cell 3
      simp at qn0 qn1 qn2 qn3
      have qi0 := IB.out.cell 0
      have qi1 := IB.out.cell 1
      have qi2 := IB.out.cell 2
      have qi3 := IB.out.cell 3
      simp at qi0 qi1 qi2 qi3
      go_wp2_with fail
      refine (likeNode_yes _ _ nh _ _ wi (Nat.le_refl _) (Nat.le_refl _) VH.out.node VN.out.node).mono ?_
      rintro e wj ⟨rfl, bj⟩
      have T := Lib.hid (T.out.trans (bj.mono T.out.size))
      clear bj qn0 qn1 qn2 qn3 qi0 qi1 qi2 qi3
      go_wp2
      go_ret
      exact ⟨rfl, T.out⟩
    · have hok' : nodeOk nd = false := by simpa using hok
      rw [hok']
      have h0 : n3 = 0 := by
        have h2 : nodeBytes nd = [] := if_neg hok
        rw [h2] at hn3
        exact hn3.symm
      have hd0 : decide ((n3 : Int) = 0) = true := decide_eq_true (by omega)
      have hd1 : ((n3 : Int) == 0) = true := hd0
      go_wp2
      go_ret
      exact ⟨ret_b (by simp [h0]), T.out⟩
  · have hxb : nodeBytes x = fs := by
      rcases RD.out with ⟨_, _, _, h⟩ | ⟨h, _⟩
      · exact h
      · cases h
    have qx0 := XB.out.cell 0
    have qx1 := XB.out.cell 1
    have qx2 := XB.out.cell 2
    have qx3 := XB.out.cell 3
    simp at qx0 qx1 qx2 qx3
    go_wp2_with fail
    refine (implNodeBytes_any _ x _ _ (Nat.le_refl _) VX.out.node).mono ?_
    rintro e wf_ ⟨Az, nz, cz, rfl, mz, bz⟩
    rw [hxb] at mz
    have MB := Lib.hid (MB.out.below bz)
    have VN := Lib.hid (VN.out.below bz)
    have NB := Lib.hid (NB.out.below bz NB.out.lt)
    have FB := Lib.hid (FB.out.below (bz.mono (by have := h10.size; omega)))
    have T := Lib.hid (T.out.trans (bz.mono T.out.size))
    clear qx0 qx1 qx2 qx3 bz
    go_wp2_with fail
    refine (likeBytes_yes _ _ _ _ _ _ fs _ _ _ mz.byts FB.out).mono ?_
    rintro e w' ⟨rfl, rfl⟩
    clear mz
    have qn0 := NB.out.cell 0
    have qn1 := NB.out.cell 1
    have qn2 := NB.out.cell 2
    have qn3 := NB.out.cell 3
    simp at qn0 qn1 qn2 qn3
    go_wp2_with fail
    refine (specNodeOk_any _ nd _ _ (Nat.le_refl _) VN.out.node).mono ?_
    rintro e wg ⟨rfl, bg⟩
    clear qn0 qn1 qn2 qn3
    have VN := Lib.hid (VN.out.below bg)
    have MB := Lib.hid (MB.out.below bg)
    have NB := Lib.hid (NB.out.below bg NB.out.lt)
    have T := Lib.hid (T.out.trans (bg.mono T.out.size))
    clear bg
    by_cases hok : nodeOk nd = true
    · rw [hok]
      go_wp2_with fail
      refine (implNodeFrom_any _ _ _ (nodeBytes nd) _ _ hn3b hc3 hA3 (Nat.le_refl _) MB.out.byts).mono ?_
      rintro e wh ⟨vh, nh, bh, rfl, oh, rh, bwh⟩
      obtain ⟨rfl, rfl⟩ := NodeRead.one rh (.inl ⟨rfl, hok, wf, rfl⟩)
      have VH := Lib.hid oh
      have VN := Lib.hid (VN.out.below bwh)
      have NB := Lib.hid (NB.out.below bwh NB.out.lt)
      have T := Lib.hid (T.out.trans (bwh.mono T.out.size))
      have hlen4 : (4 : Int) ≤ (n3 : Int) := by
        have h1 := (rawBytes_len nh).1
        have h2 : nodeBytes nh = rawBytes nh := if_pos hok
        rw [h2] at hn3
        omega
      have hd4 : decide ((4 : Int) ≤ (n3 : Int)) = true := decide_eq_true hlen4
      obtain ⟨Aq, nq, cq, Ar, nr, cr, rfl, _⟩ := oh
      clear rh bwh hlen4
      obtain ⟨wi, hwi⟩ : ∃ wi, wh.alloc (.cells #[.int .i64 nh.kind, .slice Aq nq cq, .slice Ar nr cr, .string nh.val] 26) = wi := ⟨_, rfl⟩
      obtain ⟨gh, hgh⟩ : ∃ gh, wh.heap.size = gh := ⟨_, rfl⟩
      have ni : Box wi gh 26 #[.int .i64 nh.kind, .slice Aq nq cq, .slice Ar nr cr, .string nh.val] := by rw [← hwi, ← hgh]; exact heap_alloc_new _ _
      have bi : Below wh.heap.size wh wi := hwi ▸ (Below.refl _ _).alloc (Nat.le_refl _) _
      have IB := Lib.hid ni
      have VH := Lib.hid (VH.out.below bi)
      have VN := Lib.hid (VN.out.below bi)
      have NB := Lib.hid (NB.out.below bi NB.out.lt)
      have T := Lib.hid (T.out.trans (bi.mono T.out.size))
      clear ni bi
      have qn0 := NB.out.cell 0
      have qn1 := NB.out.cell 1
      have qn2 := NB.out.cell 2
      have qn3 := NB.out.cell 3
      simp at qn0 qn1 qn2 qn3
      have qi0 := IB.out.cell 0
      have qi1 := IB.out.cell 1
      have qi2 := IB.out.cell 2
      have qi3 := IB.out.cell 3
      simp at qi0 qi1 qi2 qi3
      go_wp2_with fail
      refine (likeNode_yes _ _ nh _ _ wi (Nat.le_refl _) (Nat.le_refl _) VH.out.node VN.out.node).mono ?_
      rintro e wj ⟨rfl, bj⟩
      have T := Lib.hid (T.out.trans (bj.mono T.out.size))
      clear bj qn0 qn1 qn2 qn3 qi0 qi1 qi2 qi3
      go_wp2
      go_ret
      exact ⟨rfl, T.out⟩
    · have hok' : nodeOk nd = false := by simpa using hok
      rw [hok']
      have h0 : n3 = 0 := by
        have h2 : nodeBytes nd = [] := if_neg hok
        rw [h2] at hn3
        exact hn3.symm
      have hd0 : decide ((n3 : Int) = 0) = true := decide_eq_true (by omega)
      have hd1 : ((n3 : Int) == 0) = true := hd0
      go_wp2
      go_ret
      exact ⟨ret_b (by simp [h0]), T.out⟩

theorem walk (a0 : Option Addr) (len0 cap0 : Nat) (z0 : List Int) (w : World) (w0 : IsRow .u8 w a0 len0 cap0 z0) :
    Calls Try.prog 4 #[.slice a0 len0 cap0] w fun e w' => e = .returned (.bool true) ∧ Below w.heap.size w w' := by
  by_cases hn : len0 ≤ 4096
  · exact walk0 a0 len0 cap0 _ w hn w0.byts
  · go_enter Try.func4, Try.ntmps4
    go_wp2_with fail
    refine (big_yes _ _ _ _ (by omega)).mono ?_
    rintro e w' ⟨rfl, rfl⟩
    go_wp2
    go_ret
    exact ⟨rfl, Below.refl _ _⟩

/-! ### THE ROW's STEP -/
set_option maxRecDepth 100000 in
theorem lifted (os : Os) (started : os.Started) (H : Type) (enc : TypeId × Value → H) :
    ReturnsInHanded {} Try.checked os 4 .any (Rows.fnNodesSpec.pre6 enc Try.prog Try.f4 Rows.fnNodesRow.domain false) (Rows.fnNodesSpec.post enc Try.prog Try.f4 false true false false) := by
  refine returnsInHanded_of_change (C := Try.checked) own started (by kernel_rfl) Try.func4
    (ChangeSpec.witness6 (enc := enc) (C := Try.checked) false ⟨#[], #[.slice none 0 0], []⟩ 8 (by kernel_rfl) (by kernel_rfl) (by kernel_rfl) (by kernel_rfl)) ?_
  intro W base args ds gs before hval0 hW hcnd _
  have hval : ∀ (j : Nat) t v, Try.f4.params[j]? = some t → args[j]? = some v → Value.okWide Try.prog W .any base t v := hval0
  have hW' := hW
  obtain ⟨p, q, hA0, hV, rfl, hfz, hnd⟩ := hW
  have hA : DataW.TrodAll enc Try.prog W 0 (fun _ => true) true Try.f4.params.toList args.toList ds p := hA0
  rw [Try.params4] at hA hval
  obtain ⟨v0, vs0, d0, ds0, p0, q0, hargs, rfl, rfl, h0, r0⟩ := trodAll_cons hA
  obtain ⟨rfl, rfl, rfl⟩ := trodAll_nil r0
  obtain rfl : args = #[v0] := by cases args; simp_all
  obtain ⟨rfl, rfl⟩ := trodVars_none hV
  have k0 := h0
  have lt0 : ∀ x ∈ p0, x.block < W.heap.size := by obtain ⟨m, hm⟩ := k0; exact DataW.trod_lt m _ _ _ hm
  obtain ⟨a0, len0, cap0, rfl⟩ := okWide_slice Try.underlying22 (hval 0 22 v0 rfl rfl)
  obtain ⟨z0, w0⟩ : ∃ zs, IsRow .u8 W a0 len0 cap0 zs := by
    obtain ⟨fuel, hf⟩ := h0
    obtain ⟨a, l, c, zs, e, hr⟩ := row_of_trod Try.underlying22 Try.underlying5 (by kernel_rfl) (by simpa [Value.cells] using hf)
    cases e
    exact ⟨zs, hr⟩
  clear hA0 hval0
  refine (walk a0 len0 cap0 z0 W w0).mono fun e W' ⟨he, bel⟩ => ?_
  subst he
  exact ⟨_, rfl, _, _, _, [], _, [], hW', trodAll_mk1 (shut_bool Try.underlying4 _), (trodAll_cons_mk (Below.trod laidOut (by kernel_rfl) (of_decide_eq_true (by kernel_rfl)) k0 bel lt0) trodAll_mk0), rfl, bel.frame _, fun h => by cases h⟩

theorem over : Rows.fnNodesRow.holds Try.pinned (OpenSpec.ofChange Rows.fnNodesSpec) :=
  OpenClaim.holds_of_wide 4 Try.f4 rfl rfl rfl rfl rfl rfl rfl ⟨rfl, rfl, rfl, rfl, rfl⟩ rfl rfl rfl rfl rfl (by kernel_rfl) Try.func4 (by kernel_rfl)
    (of_decide_eq_true (by kernel_rfl)) (by unfold Func.isWrapper; first | (rw [if_pos (by decide +kernel)]; kernel_rfl) | (rw [if_neg (by decide +kernel)]; exact ⟨rfl, rfl⟩))
    (fun os started H enc _ => lifted os started H enc)

/-- THE STATEMENT -/
theorem proved : Rows.FnNodesSaid := over
#print axioms proved
end Go.Proofs.Ytebfinedkjlbbaa.fnNodes
