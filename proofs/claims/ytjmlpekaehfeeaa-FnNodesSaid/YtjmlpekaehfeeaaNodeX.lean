/- What the helpers of the exact laws do at nodes. -/
import Derived.Test.YtjmlpekaehfeeaaTouch
import Derived.Test.YtjmlpekaehfeeaaNodeK
import Derived.Test.YtjmlpekaehfeeaaKidsX
import Derived.Test.YtjmlpekaehfeeaaIntsX
namespace Go.Proofs.Ytjmlpekaehfeeaa
set_option maxRecDepth 20000
open Go.RowKit

theorem szInt64S_any (A : Option Addr) (n c left : Nat) (w : World) (hn : n ≤ maxLen) (hl : left ≤ 1048576) :
    Calls Try.prog 77 #[.slice A n c, .int .i64 left] w fun e w' => e = .returned (.int .i64 (if n ≤ left then ((left - n : Nat) : Int) else -1)) ∧ w = w' := by
  unfold maxLen at hn
  by_cases h : n ≤ left
  · rw [if_pos h]
    go_enter Try.func77, Try.ntmps77
    go_wp2
    go_ret
    exact ⟨ret_i64 (by omega), rfl⟩
  · rw [if_neg h]
    go_enter Try.func77, Try.ntmps77
    go_wp2
    go_ret
    exact ⟨rfl, rfl⟩
theorem szKidS_any (A : Option Addr) (n c left : Nat) (w : World) (hn : n ≤ maxLen) (hl : left ≤ 1048576) :
    Calls Try.prog 78 #[.slice A n c, .int .i64 left] w fun e w' => e = .returned (.int .i64 (if n ≤ left then ((left - n : Nat) : Int) else -1)) ∧ w = w' := by
  unfold maxLen at hn
  by_cases h : n ≤ left
  · rw [if_pos h]
    go_enter Try.func78, Try.ntmps78
    go_wp2
    go_ret
    exact ⟨ret_i64 (by omega), rfl⟩
  · rw [if_neg h]
    go_enter Try.func78, Try.ntmps78
    go_wp2
    go_ret
    exact ⟨rfl, rfl⟩
/-- what is left behind a node's size. -/
def leftOf (left m : Nat) : Int := if m ≤ left then ((left - m : Nat) : Int) else -1
theorem szNode_any (kind : Int) (Ap : Option Addr) (np cp : Nat) (Ak : Option Addr) (nk ck : Nat) (val : ByteArray) (left : Nat) (w : World) (h1 : np ≤ maxLen) (h2 : nk ≤ maxLen) (h3 : val.size ≤ maxLen) (hl : left ≤ 1048576) :
    Calls Try.prog 40 #[.agg #[.int .i64 kind, .slice Ap np cp, .slice Ak nk ck, .string val], .int .i64 left] w fun e w' => e = .returned (.int .i64 (leftOf left (np + nk + val.size))) ∧ Below w.heap.size w w' := by
  have b1 := (Below.refl w.heap.size w).alloc (Nat.le_refl _) (.cells #[.int .i64 kind, .slice Ap np cp, .slice Ak nk ck, .string val] 53)
  have B1 := Lib.hid b1
  clear b1
  have hv : val.size ≤ 9223372036854775807 := by unfold maxLen at h3; omega
  go_enter Try.func40, Try.ntmps40
  go_wp2_with fail
  refine (szInt64S_any _ _ _ _ _ h1 hl).mono ?_
  rintro e w' ⟨rfl, rfl⟩
  by_cases c1 : np ≤ left
  · rw [if_pos c1]
    go_wp2_with fail
    refine (szKidS_any _ _ _ (left - np) _ h2 (by omega)).mono ?_
    rintro e w' ⟨rfl, rfl⟩
    by_cases c2 : nk ≤ left - np
    · rw [if_pos c2]
      by_cases c3 : val.size ≤ left - np - nk
      · go_wp2
        go_ret
        exact ⟨ret_i64 (by unfold leftOf; rw [if_pos (by omega)]; omega), B1.out⟩
      · go_wp2
        go_ret
        exact ⟨ret_i64 (by unfold leftOf; rw [if_neg (by omega)]), B1.out⟩
    · rw [if_neg c2]
      go_wp2
      go_ret
      exact ⟨ret_i64 (by unfold leftOf; rw [if_neg (by omega)]), B1.out⟩
  · rw [if_neg c1]
    go_wp2
    go_ret
    exact ⟨ret_i64 (by unfold leftOf; rw [if_neg (by omega)]), B1.out⟩

/-- the value v is a node of the call's own: its lists lie in blocks of their own, from base on. -/
def OwnN (w : World) (base : Nat) (v : Value) (nd : MNode) : Prop :=
  ∃ Ap np cp Ak nk ck, v = .agg #[.int .i64 nd.kind, .slice Ap np cp, .slice Ak nk ck, .string nd.val] ∧ np ≤ 1048576 ∧ nk ≤ 1048576 ∧ nd.val.size ≤ 1048576 ∧ OwnI w base Ap np cp nd.path ∧ OwnK w base Ak nk ck nd.kids ∧
    ∀ g, (Value.slice Ap np cp).ownBlock = some g → (Value.slice Ak nk ck).ownBlock ≠ some g
theorem OwnN.node {w : World} {base : Nat} {v : Value} {nd : MNode} (h : OwnN w base v nd) : NodeIn w w.heap.size v nd := by
  obtain ⟨Ap, np, cp, Ak, nk, ck, rfl, h1, h2, h3, h4, h5, _⟩ := h
  exact ⟨Ap, np, cp, Ak, nk, ck, rfl, h1, h2, h3, h4.ints, h5.kids⟩
theorem OwnN.below {w w' : World} {base : Nat} {v : Value} {nd : MNode} (h : OwnN w base v nd) (hb : Below w.heap.size w w') : OwnN w' base v nd := by
  obtain ⟨Ap, np, cp, Ak, nk, ck, rfl, h1, h2, h3, h4, h5, h6⟩ := h
  exact ⟨Ap, np, cp, Ak, nk, ck, rfl, h1, h2, h3, h4.below hb, h5.below hb, h6⟩
theorem toNode_any (v : Value) (nd : MNode) (B : Nat) (w : World) (hB : B ≤ w.heap.size) (hv : NodeIn w B v nd) :
    Calls Try.prog 41 #[v] w fun e w' => ∃ v', e = .returned v' ∧ OwnN w' w.heap.size v' nd ∧ Below w.heap.size w w' := by
  obtain ⟨Ap, np, cp, Ak, nk, ck, rfl, hnp, hnk, hsz, hp, hk⟩ := hv
  obtain ⟨kind, path, kids, val⟩ := nd
  have HP := Lib.hid (hp.more hB)
  have HK := Lib.hid (hk.more hB)
  clear hp hk
  obtain ⟨w3, hw3⟩ : ∃ w3, (((w.alloc (.cells #[.int .i64 kind, .slice Ap np cp, .slice Ak nk ck, .string val] 53)).alloc (.cells #[.int .i64 0, .slice none 0 0, .slice none 0 0, .string { data := #[] }] 40)).alloc
    (.cells #[.int .i64 kind, .slice none 0 0, .slice none 0 0, .string { data := #[] }] 40)) = w3 := ⟨_, rfl⟩
  have x0 : Box w3 w.heap.size _ _ := hw3 ▸ heap3_0 _ _ _ _
  have x1 : Box w3 (w.heap.size + 1) _ _ := hw3 ▸ heap3_1 _ _ _ _
  have x2 : Box w3 (w.heap.size + 1 + 1) _ _ := hw3 ▸ heap3_2 _ _ _ _
  have s3 : w3.heap.size = w.heap.size + 3 := hw3 ▸ size3 _ _ _ _
  have b3 : Below w.heap.size w w3 := hw3 ▸ below3 _ _ _ _
  have X0 := Lib.hid x0
  have X1 := Lib.hid x1
  have X2 := Lib.hid x2
  have B3 := Lib.hid b3
  have HW := Lib.hid hw3
  clear x0 x1 x2 b3 hw3
  go_enter Try.func41, Try.ntmps41
  go_wp2_with fail
  rw [HW.out]
  refine (copyI_any _ _ _ path _ w3 (by omega) B3.out.size (HP.out.below B3.out)).mono ?_
  rintro e w4 ⟨A4, n4, c4, rfl, m4, b4⟩
  have e4 : n4 = np := m4.len.symm.trans HP.out.1
  obtain rfl := e4
  have s4 := b4.size
  have M4 := Lib.hid m4
  have X0 := Lib.hid (X0.out.below b4 (by omega))
  have X1 := Lib.hid (X1.out.below b4 (by omega))
  have X2 := Lib.hid (X2.out.below b4 (by omega))
  have B4 := Lib.hid (B3.out.trans (b4.mono (by omega)))
  clear m4 b4
  have q02 := X0.out.cell 2
  have q21 := X2.out.cell 1
  have f21 := X2.out.free 1
  simp at q02 q21
  go_wp2_with fail
  have gs := grown_set w4 (w.heap.size + 1 + 1) 1 (.slice A4 n4 c4)
  have M5 := Lib.hid (M4.out.grown gs (fun r h => by cases h; omega))
  have X0 := Lib.hid (X0.out.other (g' := w.heap.size + 1 + 1) (by omega) 1 (.slice A4 n4 c4))
  have X1 := Lib.hid (X1.out.other (g' := w.heap.size + 1 + 1) (by omega) 1 (.slice A4 n4 c4))
  have X2 := Lib.hid (X2.out.set_ 1 (.slice A4 n4 c4))
  have B5 := Lib.hid (B4.out.trans (grown_below gs B4.out.size (by omega)))
  clear gs q02 q21 f21
  generalize w4.setCell ⟨w.heap.size + 1 + 1, 1, none⟩ (.slice A4 n4 c4) = w5 at M5 X0 X1 X2 B5
  have s5 := B5.out.size
  refine (copyK_any _ _ _ kids _ w5 (by omega) s5 (HK.out.below B5.out)).mono ?_
  rintro e w6 ⟨A6, n6, c6, rfl, m6, b6⟩
  have e6 : n6 = nk := m6.len.symm.trans HK.out.1
  obtain rfl := e6
  have l1 := X1.out.lt
  have l2 := X2.out.lt
  have hA : ∀ g, (Value.slice A4 n4 c4).ownBlock = some g → g < w5.heap.size := fun g hg => (World.ownsRow.lt M5.out g hg).2
  have hA := Lib.hid hA
  have M6 := Lib.hid m6
  have M5 := Lib.hid (M5.out.below b6)
  have X0 := Lib.hid (X0.out.below b6 (by omega))
  have X1 := Lib.hid (X1.out.below b6 (by omega))
  have X2 := Lib.hid (X2.out.below b6 (by omega))
  have B6 := Lib.hid (B5.out.trans (b6.mono s5))
  clear m6 b6
  have q03 := X0.out.cell 3
  have q10 := X1.out.cell 0
  have q11 := X1.out.cell 1
  have q12 := X1.out.cell 2
  have q13 := X1.out.cell 3
  have q20 := X2.out.cell 0
  have q21 := X2.out.cell 1
  have q22 := X2.out.cell 2
  have q23 := X2.out.cell 3
  have f1 := X1.out.free
  have f2 := X2.out.free
  simp at q03 q10 q11 q12 q13 q20 q21 q22 q23
  go_wp2
  have hX := (((((X1.out.other (g' := w.heap.size + 1 + 1) (by omega) 2 (.slice A6 n6 c6)).other (g' := w.heap.size + 1 + 1) (by omega) 3 (.string val)).set_ 0 (.int .i64 kind)).set_ 1 (.slice A4 n4 c4)).set_ 2 (.slice A6 n6 c6)).set_ 3 (.string val)
  have hS : Touch (fun k => w.heap.size ≤ k ∧ k < w.heap.size + 3) w6 _ :=
    (((((touch_set w6 (w.heap.size + 1 + 1) 2 (.slice A6 n6 c6) ⟨by omega, by omega⟩).trans (touch_set _ (w.heap.size + 1 + 1) 3 (.string val) ⟨by omega, by omega⟩)).trans (touch_set _ (w.heap.size + 1) 0 (.int .i64 kind) ⟨by omega, by omega⟩)).trans
      (touch_set _ (w.heap.size + 1) 1 (.slice A4 n4 c4) ⟨by omega, by omega⟩)).trans (touch_set _ (w.heap.size + 1) 2 (.slice A6 n6 c6) ⟨by omega, by omega⟩)).trans (touch_set _ (w.heap.size + 1) 3 (.string val) ⟨by omega, by omega⟩)
  refine bodyPost_ret (v := .agg #[.int .i64 kind, .slice A4 n4 c4, .slice A6 n6 c6, .string val]) (results_cell_row Try.results41 _ _ (w.heap.size + 1) _ _ _ _ rfl hX Try.underlying40 rfl (by kernel_rfl)) rfl ?_
  have hle := B6.out.size
  exact ⟨_, rfl, ⟨A4, n4, c4, A6, n6, c6, rfl, hnp, hnk, hsz,
    (M5.out.touch hS (fun g hg h => by have := (World.ownsRow.lt M5.out g hg).1; omega)).base (by omega),
    (M6.out.touch hS (fun g hg h => by have := (World.ownsRow.lt M6.out g hg).1; omega)).base s5,
    fun g hg h => by have := hA.out g hg; have := (World.ownsRow.lt M6.out g h).1; omega⟩,
    B6.out.trans (hS.below hle (fun k hk h => by omega))⟩

theorem eqNode_yes (v v' : Value) (nd : MNode) (B B' : Nat) (w : World) (hB : B ≤ w.heap.size) (hB' : B' ≤ w.heap.size) (hv : NodeIn w B v nd) (hv' : NodeIn w B' v' nd) :
    Calls Try.prog 42 #[v, v'] w fun e w' => e = .returned (.bool true) ∧ Below w.heap.size w w' := by
  obtain ⟨Ap, np, cp, Ak, nk, ck, rfl, hnp, hnk, hsz, hp, hk⟩ := hv
  obtain ⟨Ap', np', cp', Ak', nk', ck', rfl, hnp', hnk', hsz', hp', hk'⟩ := hv'
  obtain ⟨kind, path, kids, val⟩ := nd
  have e1 : np' = np := hp'.1.symm.trans hp.1
  have e2 : nk' = nk := hk'.1.symm.trans hk.1
  obtain rfl := e1
  obtain rfl := e2
  have HP := Lib.hid (hp.more hB)
  have HK := Lib.hid (hk.more hB)
  have HP' := Lib.hid (hp'.more hB')
  have HK' := Lib.hid (hk'.more hB')
  clear hp hk hp' hk'
  obtain ⟨w3, hw3⟩ : ∃ w3, ((w.alloc (.cells #[.int .i64 kind, .slice Ap np' cp, .slice Ak nk' ck, .string val] 40)).alloc (.cells #[.int .i64 kind, .slice Ap' np' cp', .slice Ak' nk' ck', .string val] 40)) = w3 := ⟨_, rfl⟩
  have x0 : Box w3 w.heap.size _ _ := hw3 ▸ heap2_0 _ _ _
  have x1 : Box w3 (w.heap.size + 1) _ _ := hw3 ▸ heap2_1 _ _ _
  have s3 : w3.heap.size = w.heap.size + 2 := hw3 ▸ size2 _ _ _
  have b3 : Below w.heap.size w w3 := hw3 ▸ below2 _ _ _
  have X0 := Lib.hid x0
  have X1 := Lib.hid x1
  have B3 := Lib.hid b3
  have HW := Lib.hid hw3
  clear x0 x1 b3 hw3
  go_enter Try.func42, Try.ntmps42
  go_wp2_with fail
  rw [HW.out]
  refine (likeI_yes _ _ _ _ _ path _ _ w3 (by omega) (HP.out.below B3.out) (HP'.out.below B3.out)).mono ?_
  rintro e w4 ⟨rfl, m, hm⟩
  have b4 : Below w3.heap.size w3 w4 := by rw [hm]; exact below_drewN (Below.refl _ _) m
  clear hm
  have X0 := Lib.hid (X0.out.below b4 (by omega))
  have X1 := Lib.hid (X1.out.below b4 (by omega))
  have s4 := b4.size
  have B4 := Lib.hid (B3.out.trans (b4.mono (by omega)))
  clear b4
  have q02 := X0.out.cell 2
  have q12 := X1.out.cell 2
  simp at q02 q12
  go_wp2_with fail
  refine (likeK_yes _ _ _ _ _ kids _ _ w4 (by omega) B4.out.size B4.out.size (HK.out.below B4.out) (HK'.out.below B4.out)).mono ?_
  rintro e w5 ⟨rfl, b5⟩
  have X0 := Lib.hid (X0.out.below b5 (by omega))
  have X1 := Lib.hid (X1.out.below b5 (by omega))
  have B5 := Lib.hid (B4.out.trans (b5.mono (by omega)))
  clear b5 q02 q12
  have q03 := X0.out.cell 3
  have q13 := X1.out.cell 3
  simp at q03 q13
  go_wp2
  go_ret
  exact ⟨rfl, B5.out⟩

/-- block g holds one of the lists of the node v. -/
def NodeBlk (v : Value) (g : Nat) : Prop := ∃ k Ap np cp Ak nk ck s, v = .agg #[k, .slice Ap np cp, .slice Ak nk ck, s] ∧ ((Value.slice Ap np cp).ownBlock = some g ∨ (Value.slice Ak nk ck).ownBlock = some g)
theorem OwnN.blk {w : World} {base : Nat} {v : Value} {nd : MNode} (h : OwnN w base v nd) {g : Nat} (hg : NodeBlk v g) : base ≤ g ∧ g < w.heap.size := by
  obtain ⟨Ap, np, cp, Ak, nk, ck, rfl, _, _, _, h4, h5, _⟩ := h
  obtain ⟨k, Ap', np', cp', Ak', nk', ck', s, e, hg⟩ := hg
  cases e
  rcases hg with hg | hg
  · exact World.ownsRow.lt h4 g hg
  · exact World.ownsRow.lt h5 g hg
theorem OwnN.touch {S : Nat → Prop} {w w' : World} {base : Nat} {v : Value} {nd : MNode} (h : OwnN w base v nd) (t : Touch S w w') (hn : ∀ g, NodeBlk v g → ¬ S g) : OwnN w' base v nd := by
  obtain ⟨Ap, np, cp, Ak, nk, ck, rfl, h1, h2, h3, h4, h5, h6⟩ := h
  exact ⟨Ap, np, cp, Ak, nk, ck, rfl, h1, h2, h3, h4.touch t (fun g hg => hn g ⟨_, _, _, _, _, _, _, _, rfl, .inl hg⟩), h5.touch t (fun g hg => hn g ⟨_, _, _, _, _, _, _, _, rfl, .inr hg⟩), h6⟩
theorem OwnN.base {w : World} {base base' : Nat} {v : Value} {nd : MNode} (h : OwnN w base v nd) (hb : base' ≤ base) : OwnN w base' v nd := by
  obtain ⟨Ap, np, cp, Ak, nk, ck, rfl, h1, h2, h3, h4, h5, h6⟩ := h
  exact ⟨Ap, np, cp, Ak, nk, ck, rfl, h1, h2, h3, h4.base hb, h5.base hb, h6⟩
theorem markNode_any (v : Value) (nd : MNode) (base : Nat) (k0 : Int) (w : World) (h0 : 0 ≤ k0) (h1 : k0 ≤ 1000000000) (hv : OwnN w base v nd) :
    Calls Try.prog 44 #[v, .int .i64 k0] w fun e w' => ∃ k1, k0 ≤ k1 ∧ k1 ≤ k0 + 4000000 ∧ e = .returned (.int .i64 k1) ∧
      OwnN w' base v ⟨nd.kind, marksI k0 nd.path.length, marksK (k0 + nd.path.length) nd.kids.length, nd.val⟩ ∧ k1 = k0 + nd.path.length + 2 * nd.kids.length ∧
      Touch (NodeBlk v) w w' := by
  obtain ⟨Ap, np, cp, Ak, nk, ck, rfl, hnp, hnk, hsz, hp, hk, hne⟩ := hv
  obtain ⟨kind, path, kids, val⟩ := nd
  have lp : path.length = np := hp.len
  have lk : kids.length = nk := hk.len
  have HP := Lib.hid hp
  have HK := Lib.hid hk
  have HN := Lib.hid hne
  have LP := Lib.hid lp
  have LK := Lib.hid lk
  clear hp hk hne lp lk
  obtain ⟨w3, hw3⟩ : ∃ w3, w.alloc (.cells #[.int .i64 kind, .slice Ap np cp, .slice Ak nk ck, .string val] 40) = w3 := ⟨_, rfl⟩
  have x0 : Box w3 w.heap.size _ _ := hw3 ▸ heap_alloc_new _ _
  have s3 : w3.heap.size = w.heap.size + 1 := hw3 ▸ by simp
  have b3 : Below w.heap.size w w3 := hw3 ▸ (Below.refl _ _).alloc (Nat.le_refl _) _
  have X0 := Lib.hid x0
  have B3 := Lib.hid b3
  have HW := Lib.hid hw3
  clear x0 b3 hw3
  go_enter Try.func44, Try.ntmps44
  go_wp2_with fail
  rw [HW.out]
  refine (markI_any Ap np cp base path k0 w3 h0 (by omega) (HP.out.below B3.out)).mono ?_
  rintro e w4 ⟨rfl, m4, g4⟩
  have t4 := Touch.of_grown g4
  have X0 := Lib.hid (show Box w4 _ _ _ from (g4.block w.heap.size (by omega) (fun e => by have := (World.ownsRow.lt HP.out w.heap.size e.symm).2; omega)).trans X0.out)
  have K4 := Lib.hid ((HK.out.below B3.out).touch t4 (fun g hg h => HN.out g h.symm hg))
  have M4 := Lib.hid m4
  have T4 := Lib.hid ((Touch.of_below (S := NodeBlk (.agg #[.int .i64 kind, .slice Ap np cp, .slice Ak nk ck, .string val])) B3.out).trans (t4.mono (fun g h => ⟨_, _, _, _, _, _, _, _, rfl, .inl h.symm⟩)))
  have q2 := X0.out.cell 2
  simp at q2
  clear m4 g4 t4
  go_wp2_with fail
  refine (markK_any Ak nk ck base kids (k0 + np) w4 (by omega) (by omega) K4.out).mono ?_
  rintro e w5 ⟨rfl, m5, g5⟩
  have t5 := Touch.of_grown g5
  have M5 := Lib.hid (M4.out.touch t5 (fun g hg h => HN.out g hg h.symm))
  have K5 := Lib.hid m5
  have T5 := Lib.hid (T4.out.trans (t5.mono (fun g h => ⟨_, _, _, _, _, _, _, _, rfl, .inr h.symm⟩)))
  clear m5 g5 t5
  go_wp2
  go_ret
  refine ⟨k0 + np + 2 * nk, by omega, by omega, rfl, ⟨Ap, np, cp, Ak, nk, ck, rfl, hnp, hnk, hsz, ?_, ?_, HN.out⟩, ?_, T5.out⟩
  · show OwnI w5 base Ap np cp (marksI k0 path.length); rw [LP.out]; exact M5.out
  · show OwnK w5 base Ak nk ck (marksK (k0 + path.length) kids.length); rw [LP.out, LK.out]; exact K5.out
  · show k0 + np + 2 * nk = k0 + path.length + 2 * kids.length; rw [LP.out, LK.out]

theorem heldNode_yes (v : Value) (kind : Int) (val : ByteArray) (np nk : Nat) (B : Nat) (k0 : Int) (w : World) (h0 : 0 ≤ k0) (h1 : k0 ≤ 1000000000) (hB : B ≤ w.heap.size) (hv : NodeIn w B v ⟨kind, marksI k0 np, marksK (k0 + np) nk, val⟩) :
    Calls Try.prog 48 #[v, .int .i64 k0] w fun e w' => e = .returned (.int .i64 (k0 + np + 2 * nk)) ∧ Below w.heap.size w w' := by
  obtain ⟨Ap, np', cp, Ak, nk', ck, rfl, hnp, hnk, hsz, hp, hk⟩ := hv
  have e1 : np' = np := hp.1.symm.trans (marksI_len k0 np)
  have e2 : nk' = nk := hk.1.symm.trans (marksK_len (k0 + np) nk)
  obtain rfl := e1
  obtain rfl := e2
  have HP := Lib.hid (hp.more hB)
  have HK := Lib.hid (hk.more hB)
  clear hp hk
  have b3 : Below w.heap.size w (w.alloc (.cells #[.int .i64 kind, .slice Ap np' cp, .slice Ak nk' ck, .string val] 40)) := (Below.refl _ _).alloc (Nat.le_refl _) _
  have B3 := Lib.hid b3
  clear b3
  go_enter Try.func48, Try.ntmps48
  go_wp2_with fail
  refine (heldI_yes _ _ _ _ k0 _ h0 (by omega) (HP.out.below B3.out)).mono ?_
  rintro e w' ⟨rfl, rfl⟩
  go_wp2_with fail
  refine (heldK_yes _ _ _ _ (k0 + np') _ (by omega) (by omega) (HK.out.below B3.out)).mono ?_
  rintro e w' ⟨rfl, rfl⟩
  go_wp2
  go_ret
  exact ⟨rfl, B3.out⟩
end Go.Proofs.Ytjmlpekaehfeeaa
