/- Several texts in one, in build order: PinP. -/
import Derived.Test.YtdhnhgppapkikaaGreatDoorPkI
-- PinP: The program's PinOf and UnpinOf: for all bases and roots, where the listed variable of Go's package errors holds what it is laid.
namespace Go.Proofs.YtdhnhgppapkikaaGreatDoor
set_option maxRecDepth 100000
set_option linter.unusedVariables false
set_option linter.unusedSimpArgs false
open Go.RowKit

/-- a refusal with no reason behind it. -/
def refV (k : Int) : Value := .iface 89 (.agg #[.int .i64 k, .nilIface])
set_option maxHeartbeats 1600000 in
theorem codeOf_any (k : Int) (w : World) (hg : Listed w) :
    Calls Tryz.prog 26 #[refV k] w fun e w' => e = .returned (.int .i64 k) ∧ Below w.heap.size w w' := by
  unfold refV
  obtain ⟨w1, hw1⟩ : ∃ w1, w.alloc (.cells #[.int .i64 0, .nilIface] 89) = w1 := ⟨_, rfl⟩
  have x1 : Box w1 w.heap.size 89 #[.int .i64 0, .nilIface] := hw1 ▸ heap_alloc_new _ _
  have b1 : Below w.heap.size w w1 := hw1 ▸ (Below.refl _ _).alloc (Nat.le_refl _) _
  have G1 := Lib.hid (hg.below b1 rfl)
  have X1 := Lib.hid x1
  have s1 : w1.heap.size = w.heap.size + 1 := hw1 ▸ by simp
  have B1 := Lib.hid b1
  clear b1 x1 hg
  go_enter Tryz.func26, Tryz.ntmps26
  go_wp2_with fail
  clear hw1
  refine (as_hit w.heap.size (.int .i64 k) .nilIface (.int .i64 0) .nilIface w1 rfl rfl G1.out X1.out).mono ?_
  rintro e w2 ⟨rfl, hw2⟩
  have hb : Below w.heap.size w w2 ∧ Box w2 w.heap.size 89 #[.int .i64 k, .nilIface] := by
    obtain ⟨v, hv⟩ : ∃ v, ((((w1.alloc (.cells #[.pointer (some ⟨w.heap.size, 0, none⟩)] 93)).alloc (.cells #[.pointer (some ⟨1, 93, none⟩), .pointer (some ⟨w1.heap.size, 0, none⟩), .int .u64 150] 123)).alloc (.cells #[.pointer (some ⟨1, 93, none⟩), .pointer (some ⟨w1.heap.size, 0, none⟩), .int .u64 150] 123)).alloc (.cells #[.int .i64 k, .nilIface] 89)) = v := ⟨_, rfl⟩
    have bv : Below w1.heap.size w1 v := hv ▸ ((((Below.refl _ _).alloc (Nat.le_refl _) _).alloc (by simp) _).alloc (by simp; omega) _).alloc (by simp; omega) _
    rw [hv] at hw2
    have xv := X1.out.below bv (by omega)
    subst hw2
    have x2 := (xv.set_ 0 (.int .i64 k)).set_ 1 .nilIface
    have t2 : Touch (fun b => b = w.heap.size) v ((v.setCell ⟨w.heap.size, 0, none⟩ (.int .i64 k)).setCell ⟨w.heap.size, 1, none⟩ .nilIface) := (touch_set (S := fun b => b = w.heap.size) v w.heap.size 0 _ rfl).trans (touch_set _ w.heap.size 1 _ rfl)
    have bw := B1.out.trans (bv.mono (by omega))
    exact ⟨bw.trans (t2.below bw.size (fun k hk e => by omega)), x2⟩
  have X2 := Lib.hid hb.2
  have B2 := Lib.hid hb.1
  clear hb hw2
  have q0 := X2.out.cell 0
  simp at q0
  go_wp2
  go_ret
  exact ⟨rfl, B2.out⟩

/-- what pinnable answers: nothing, or a refusal with its code. -/
def RefIs (k : Int) (w : World) (e : Ending) (w' : World) : Prop := e = .returned (if k = 0 then .nilIface else refV k) ∧ Below w.heap.size w w'
set_option maxHeartbeats 3200000 in
theorem pinnable_any (L : BLay) (b : MBase) (root : Int) (B : Nat) (w : World) (fit : BaseFit L b) (hB : B ≤ w.heap.size) (hb : BaseIn w B L b) :
    Calls Tryz.prog 25 #[L.v b, .int .i64 root] w fun e w' => ∃ l k, PinIs b root l k ∧ (k = 0 → l = [ch1 4 root]) ∧ (k ≠ 0 → l = []) ∧ RefIs k w e w' := by
  have FIT := Lib.hid fit
  obtain ⟨w1, hw1⟩ : ∃ w1, w.alloc (.cells #[.slice L.A L.n L.c, .int .i64 b.head, .slice L.Ap L.np L.cp, .int .i64 b.phase, .slice L.Ag L.ng L.cg, .slice L.Ab L.nb L.cb, .int .i64 b.cursor] 27) = w1 := ⟨_, rfl⟩
  have x1 : Box w1 w.heap.size 27 #[.slice L.A L.n L.c, .int .i64 b.head, .slice L.Ap L.np L.cp, .int .i64 b.phase, .slice L.Ag L.ng L.cg, .slice L.Ab L.nb L.cb, .int .i64 b.cursor] := hw1 ▸ heap_alloc_new _ _
  have b1 : Below w.heap.size w w1 := hw1 ▸ (Below.refl _ _).alloc (Nat.le_refl _) _
  have s1 := b1.size
  have q0 := x1.cell 0
  have q1 := x1.cell 1
  have q2 := x1.cell 2
  have q3 := x1.cell 3
  have q4 := x1.cell 4
  have q5 := x1.cell 5
  have q6 := x1.cell 6
  simp at q0 q1 q2 q3 q4 q5 q6
  have B1 := Lib.hid b1
  have HB := Lib.hid ((hb.more hB).below b1)
  clear x1 b1 hb fit
  unfold BLay.v
  go_enter Tryz.func25, Tryz.ntmps25
  go_wp2_with fail
  refine (opened_any L b w.heap.size w1 FIT.out s1 HB.out).mono ?_
  rintro e w2 ⟨OL, k, b0, r, rfl, b2, hor⟩
  have OR := Lib.hid hor
  have B2 := Lib.hid (B1.out.trans (b2.mono s1))
  have s2 := b2.size
  clear hor b2 q0 q1 q2 q3 q4 q5 q6 hw1
  unfold OLay.cells
  obtain ⟨w3, hw3⟩ : ∃ w3, w2.alloc (.cells #[.slice OL.R.Ak k OL.R.ck, .slice OL.R.Av k OL.R.cv, .int .i64 b0.head, .slice OL.Ap OL.np OL.cp, .int .i64 b0.phase, .slice OL.Ag OL.ng OL.cg, .slice OL.Ab OL.nb OL.cb, .int .i64 b0.cursor] 63) = w3 := ⟨_, rfl⟩
  have X3 := Lib.hid (show Box w3 w2.heap.size 63 (OL.cells k b0) from hw3 ▸ heap_alloc_new _ _)
  have b3 : Below w2.heap.size w2 w3 := hw3 ▸ (Below.refl _ _).alloc (Nat.le_refl _) _
  have B3 := Lib.hid (B2.out.trans (b3.mono (by omega)))
  have B23 := Lib.hid b3
  have s3 : w3.heap.size = w2.heap.size + 1 := hw3 ▸ by simp
  clear b3
  cases r with
  | false =>
    go_wp2
    clear hw3
    go_ret
    exact ⟨[], 1, .inr ⟨(OR.out.elim (fun h => by simp at h) (fun h => h.2)), rfl, rfl⟩, (fun h => by cases h), (fun _ => rfl), rfl, B3.out⟩
  | true =>
    obtain ⟨_, hg, hb0, ps, lo, hk, _, _, how⟩ : true = true ∧ BaseGood b ∧ b0 = b ∧ ∃ ps lo, k = ps.length ∧ w1.heap.size ≤ lo ∧ lo ≤ w2.heap.size ∧ OwnO w2 lo OL ps b := OR.out.elim id (fun h => by simp at h)
    subst hb0
    subst hk
    have GD := Lib.hid hg
    have O3 := Lib.hid ((how.below B23.out).inn X3.out)
    have h6 : OL.np ≤ 6 := by have := hg.1.few; have := how.pins.len; omega
    have hpl : b0.pins.length = OL.np := how.pins.len
    clear how hg OR
    go_wp2_with fail
    clear hw3
    refine (kept_any w2.heap.size lo OL ps b0 w3 O3.out GD.out.1.rise h6).mono ?_
    rintro e w4 ⟨A4, n4, c4, rfl, o4, hn4, b4⟩
    have O4 := Lib.hid o4
    have B4 := Lib.hid (B3.out.trans (b4.mono (by omega)))
    have OB4 := Lib.hid (O3.out.below b4)
    clear o4 b4
    go_wp2_with fail
    refine (containsI_any A4 n4 c4 (keptOf b0) root w4.heap.size w4 (by omega) O4.out.ints).mono ?_
    rintro e w5 ⟨rfl, q, rfl⟩
    obtain ⟨r1, hr1⟩ : ∃ r1, decide (root ∈ keptOf b0) = r1 := ⟨_, rfl⟩
    have R1 := Lib.hid hr1
    rw [hr1]
    clear hr1
    cases r1 with
    | false =>
      go_wp2
      go_ret
      refine ⟨[], 2, .inl ⟨GD.out, ?_, ?_⟩, (fun h => by cases h), (fun _ => rfl), rfl, B4.out.trans (below_drewN (Below.refl _ _) _)⟩
      · unfold pinOf; rw [if_pos (of_decide_eq_false R1.out)]
      · unfold pinOf; rw [if_pos (of_decide_eq_false R1.out)]
    | true =>
      have p3 := (OB4.out.drewN q).box.cell 3
      simp at p3
      have hk5 : ¬ ¬ root ∈ keptOf b0 := fun h => h (of_decide_eq_true R1.out)
      have HK5 := Lib.hid hk5
      clear hk5
      go_wp2_with fail
      refine (containsI_any OL.Ap OL.np OL.cp b0.pins root w4.heap.size (w4.drewN q) (by omega) (OB4.out.drewN q).pins).mono ?_
      rintro e w6 ⟨rfl, q2, rfl⟩
      obtain ⟨r2, hr2⟩ : ∃ r2, decide (root ∈ b0.pins) = r2 := ⟨_, rfl⟩
      have R2 := Lib.hid hr2
      rw [hr2]
      clear hr2
      cases r2 with
      | true =>
        go_wp2
        go_ret
        refine ⟨[], 4, .inl ⟨GD.out, ?_, ?_⟩, (fun h => by cases h), (fun _ => rfl), rfl, B4.out.trans (below_drewN (Below.refl _ _) _)⟩
        · unfold pinOf; rw [if_neg HK5.out, if_pos (of_decide_eq_true R2.out)]
        · unfold pinOf; rw [if_neg HK5.out, if_pos (of_decide_eq_true R2.out)]
      | false =>
        have p3 := ((OB4.out.drewN q).drewN q2).box.cell 3
        simp at p3
        rcases Nat.lt_or_ge OL.np 6 with h5 | h5
        · have hd : decide ((6 : Int) ≤ (OL.np : Int)) = false := decide_eq_false (by omega)
          have H5 := Lib.hid h5
          have HPL := Lib.hid hpl
          clear h5 hpl
          go_wp2
          go_ret
          have hlt : ¬ 6 ≤ b0.pins.length := by have := H5.out; have := HPL.out; omega
          refine ⟨[ch1 4 root], 0, .inl ⟨GD.out, ?_, ?_⟩, (fun _ => rfl), (fun h => absurd rfl h), rfl, B4.out.trans (below_drewN (Below.refl _ _) _)⟩
          · unfold pinOf; rw [if_neg HK5.out, if_neg (of_decide_eq_false R2.out), if_neg hlt]
          · unfold pinOf; rw [if_neg HK5.out, if_neg (of_decide_eq_false R2.out), if_neg hlt]
        · have hd : decide ((6 : Int) ≤ (OL.np : Int)) = true := decide_eq_true (by omega)
          have H5 := Lib.hid h5
          have HPL := Lib.hid hpl
          clear h5 hpl
          go_wp2
          go_ret
          have hlt : 6 ≤ b0.pins.length := by have := H5.out; have := HPL.out; omega
          refine ⟨[], 3, .inl ⟨GD.out, ?_, ?_⟩, (fun h => by cases h), (fun _ => rfl), rfl, B4.out.trans (below_drewN (Below.refl _ _) _)⟩
          · unfold pinOf; rw [if_neg HK5.out, if_neg (of_decide_eq_false R2.out), if_pos hlt]
          · unfold pinOf; rw [if_neg HK5.out, if_neg (of_decide_eq_false R2.out), if_pos hlt]
set_option maxHeartbeats 3200000 in
theorem unpinnable_any (L : BLay) (b : MBase) (root : Int) (B : Nat) (w : World) (fit : BaseFit L b) (hB : B ≤ w.heap.size) (hb : BaseIn w B L b) :
    Calls Tryz.prog 29 #[L.v b, .int .i64 root] w fun e w' => ∃ l k, UnpinIs b root l k ∧ (k = 0 → l = [ch1 5 root]) ∧ (k ≠ 0 → l = []) ∧ RefIs k w e w' := by
  have FIT := Lib.hid fit
  obtain ⟨w1, hw1⟩ : ∃ w1, w.alloc (.cells #[.slice L.A L.n L.c, .int .i64 b.head, .slice L.Ap L.np L.cp, .int .i64 b.phase, .slice L.Ag L.ng L.cg, .slice L.Ab L.nb L.cb, .int .i64 b.cursor] 27) = w1 := ⟨_, rfl⟩
  have x1 : Box w1 w.heap.size 27 #[.slice L.A L.n L.c, .int .i64 b.head, .slice L.Ap L.np L.cp, .int .i64 b.phase, .slice L.Ag L.ng L.cg, .slice L.Ab L.nb L.cb, .int .i64 b.cursor] := hw1 ▸ heap_alloc_new _ _
  have b1 : Below w.heap.size w w1 := hw1 ▸ (Below.refl _ _).alloc (Nat.le_refl _) _
  have s1 := b1.size
  have q0 := x1.cell 0
  have q1 := x1.cell 1
  have q2 := x1.cell 2
  have q3 := x1.cell 3
  have q4 := x1.cell 4
  have q5 := x1.cell 5
  have q6 := x1.cell 6
  simp at q0 q1 q2 q3 q4 q5 q6
  have B1 := Lib.hid b1
  have HB := Lib.hid ((hb.more hB).below b1)
  clear x1 b1 hb fit
  unfold BLay.v
  go_enter Tryz.func29, Tryz.ntmps29
  go_wp2_with fail
  refine (opened_any L b w.heap.size w1 FIT.out s1 HB.out).mono ?_
  rintro e w2 ⟨OL, k, b0, r, rfl, b2, hor⟩
  have OR := Lib.hid hor
  have B2 := Lib.hid (B1.out.trans (b2.mono s1))
  have s2 := b2.size
  clear hor b2 q0 q1 q2 q3 q4 q5 q6 hw1
  unfold OLay.cells
  obtain ⟨w3, hw3⟩ : ∃ w3, w2.alloc (.cells #[.slice OL.R.Ak k OL.R.ck, .slice OL.R.Av k OL.R.cv, .int .i64 b0.head, .slice OL.Ap OL.np OL.cp, .int .i64 b0.phase, .slice OL.Ag OL.ng OL.cg, .slice OL.Ab OL.nb OL.cb, .int .i64 b0.cursor] 63) = w3 := ⟨_, rfl⟩
  have X3 := Lib.hid (show Box w3 w2.heap.size 63 (OL.cells k b0) from hw3 ▸ heap_alloc_new _ _)
  have b3 : Below w2.heap.size w2 w3 := hw3 ▸ (Below.refl _ _).alloc (Nat.le_refl _) _
  have B3 := Lib.hid (B2.out.trans (b3.mono (by omega)))
  have B23 := Lib.hid b3
  have s3 : w3.heap.size = w2.heap.size + 1 := hw3 ▸ by simp
  clear b3
  cases r with
  | false =>
    go_wp2
    clear hw3
    go_ret
    exact ⟨[], 1, .inr ⟨(OR.out.elim (fun h => by simp at h) (fun h => h.2)), rfl, rfl⟩, (fun h => by cases h), (fun _ => rfl), rfl, B3.out⟩
  | true =>
    obtain ⟨_, hg, hb0, ps, lo, hk, _, _, how⟩ : true = true ∧ BaseGood b ∧ b0 = b ∧ ∃ ps lo, k = ps.length ∧ w1.heap.size ≤ lo ∧ lo ≤ w2.heap.size ∧ OwnO w2 lo OL ps b := OR.out.elim id (fun h => by simp at h)
    subst hb0
    subst hk
    have GD := Lib.hid hg
    have O3 := Lib.hid ((how.below B23.out).inn X3.out)
    have h6 : OL.np ≤ 6 := by have := hg.1.few; have := how.pins.len; omega
    clear how hg OR
    have p3 := O3.out.box.cell 3
    simp at p3
    go_wp2_with fail
    clear hw3
    refine (containsI_any OL.Ap OL.np OL.cp b0.pins root w3.heap.size w3 (by omega) O3.out.pins).mono ?_
    rintro e w6 ⟨rfl, q2, rfl⟩
    obtain ⟨r2, hr2⟩ : ∃ r2, decide (root ∈ b0.pins) = r2 := ⟨_, rfl⟩
    have R2 := Lib.hid hr2
    rw [hr2]
    clear hr2
    cases r2 with
    | true =>
      go_wp2
      go_ret
      refine ⟨[ch1 5 root], 0, .inl ⟨GD.out, ?_, ?_⟩, (fun _ => rfl), (fun h => absurd rfl h), rfl, B3.out.trans (below_drewN (Below.refl _ _) _)⟩
      · unfold unpinOf; rw [if_neg (fun h => h (of_decide_eq_true R2.out))]
      · unfold unpinOf; rw [if_neg (fun h => h (of_decide_eq_true R2.out))]
    | false =>
      go_wp2
      go_ret
      refine ⟨[], 5, .inl ⟨GD.out, ?_, ?_⟩, (fun h => by cases h), (fun _ => rfl), rfl, B3.out.trans (below_drewN (Below.refl _ _) _)⟩
      · unfold unpinOf; rw [if_pos (of_decide_eq_false R2.out)]
      · unfold unpinOf; rw [if_pos (of_decide_eq_false R2.out)]
set_option maxHeartbeats 1600000 in
theorem implPinOf_any (L : BLay) (b : MBase) (root : Int) (B : Nat) (w : World) (hg : Listed w) (fit : BaseFit L b) (hB : B ≤ w.heap.size) (hb : BaseIn w B L b) :
    Calls Tryz.prog 8 #[L.v b, .int .i64 root] w (GavePin b root w) := by
  have FIT := Lib.hid fit
  obtain ⟨w1, hw1⟩ : ∃ w1, w.alloc (.cells #[.slice L.A L.n L.c, .int .i64 b.head, .slice L.Ap L.np L.cp, .int .i64 b.phase, .slice L.Ag L.ng L.cg, .slice L.Ab L.nb L.cb, .int .i64 b.cursor] 27) = w1 := ⟨_, rfl⟩
  have x1 : Box w1 w.heap.size 27 #[.slice L.A L.n L.c, .int .i64 b.head, .slice L.Ap L.np L.cp, .int .i64 b.phase, .slice L.Ag L.ng L.cg, .slice L.Ab L.nb L.cb, .int .i64 b.cursor] := hw1 ▸ heap_alloc_new _ _
  have b1 : Below w.heap.size w w1 := hw1 ▸ (Below.refl _ _).alloc (Nat.le_refl _) _
  have s1 := b1.size
  have q0 := x1.cell 0
  have q1 := x1.cell 1
  have q2 := x1.cell 2
  have q3 := x1.cell 3
  have q4 := x1.cell 4
  have q5 := x1.cell 5
  have q6 := x1.cell 6
  simp at q0 q1 q2 q3 q4 q5 q6
  have B1 := Lib.hid b1
  have HB := Lib.hid ((hb.more hB).below b1)
  have G1 := Lib.hid (hg.below b1 rfl)
  clear x1 b1 hb fit hg
  unfold BLay.v
  go_enter Tryz.func8, Tryz.ntmps8
  go_wp2_with fail
  refine (pinnable_any L b root w.heap.size w1 FIT.out s1 HB.out).mono ?_
  rintro e w2 ⟨l, k, hp, hl0, hl1, rfl, b2⟩
  have HP := Lib.hid hp
  have B2 := Lib.hid (B1.out.trans (b2.mono s1))
  have G2 := Lib.hid (G1.out.below b2 rfl)
  have s2 := b2.size
  clear hp b2 q0 q1 q2 q3 q4 q5 q6 hw1
  by_cases hk : k = 0
  · subst hk
    have hl := hl0 rfl
    subst hl
    clear hl0 hl1
    simp only [if_true]
    obtain ⟨W, hW⟩ : ∃ W, w2.alloc (.cells #[.int .i64 4, .int .i64 root, .slice none 0 0] 54) = W := ⟨_, rfl⟩
    have hf := OwnCh.lit1 w2 4 root
    rw [hW] at hf
    have hsz : W.heap.size = w2.heap.size + 1 := hW ▸ by simp
    have OF := Lib.hid hf
    clear hf
    go_wp2
    go_ret2
    exact ⟨_, _, _, _, _, rfl, HP.out, ((OF.out.base (by omega)).more (by omega)), B2.out.trans ((show Below w2.heap.size w2 W from hW ▸ (Below.refl _ _).alloc (Nat.le_refl _) _).mono (by omega))⟩
  · have hl := hl1 hk
    subst hl
    clear hl0 hl1
    rw [if_neg hk]
    unfold refV
    go_wp2_with fail
    refine (codeOf_any k w2 G2.out).mono ?_
    rintro e w3 ⟨rfl, b3⟩
    have B3 := Lib.hid (B2.out.trans (b3.mono (by omega)))
    clear b3
    go_wp2
    go_ret2
    exact ⟨none, 0, 0, [], k, rfl, HP.out, OwnCh.nil _ _ _, B3.out⟩
set_option maxHeartbeats 1600000 in
theorem implUnpinOf_any (L : BLay) (b : MBase) (root : Int) (B : Nat) (w : World) (hg : Listed w) (fit : BaseFit L b) (hB : B ≤ w.heap.size) (hb : BaseIn w B L b) :
    Calls Tryz.prog 10 #[L.v b, .int .i64 root] w (GaveUnpin b root w) := by
  have FIT := Lib.hid fit
  obtain ⟨w1, hw1⟩ : ∃ w1, w.alloc (.cells #[.slice L.A L.n L.c, .int .i64 b.head, .slice L.Ap L.np L.cp, .int .i64 b.phase, .slice L.Ag L.ng L.cg, .slice L.Ab L.nb L.cb, .int .i64 b.cursor] 27) = w1 := ⟨_, rfl⟩
  have x1 : Box w1 w.heap.size 27 #[.slice L.A L.n L.c, .int .i64 b.head, .slice L.Ap L.np L.cp, .int .i64 b.phase, .slice L.Ag L.ng L.cg, .slice L.Ab L.nb L.cb, .int .i64 b.cursor] := hw1 ▸ heap_alloc_new _ _
  have b1 : Below w.heap.size w w1 := hw1 ▸ (Below.refl _ _).alloc (Nat.le_refl _) _
  have s1 := b1.size
  have q0 := x1.cell 0
  have q1 := x1.cell 1
  have q2 := x1.cell 2
  have q3 := x1.cell 3
  have q4 := x1.cell 4
  have q5 := x1.cell 5
  have q6 := x1.cell 6
  simp at q0 q1 q2 q3 q4 q5 q6
  have B1 := Lib.hid b1
  have HB := Lib.hid ((hb.more hB).below b1)
  have G1 := Lib.hid (hg.below b1 rfl)
  clear x1 b1 hb fit hg
  unfold BLay.v
  go_enter Tryz.func10, Tryz.ntmps10
  go_wp2_with fail
  refine (unpinnable_any L b root w.heap.size w1 FIT.out s1 HB.out).mono ?_
  rintro e w2 ⟨l, k, hp, hl0, hl1, rfl, b2⟩
  have HP := Lib.hid hp
  have B2 := Lib.hid (B1.out.trans (b2.mono s1))
  have G2 := Lib.hid (G1.out.below b2 rfl)
  have s2 := b2.size
  clear hp b2 q0 q1 q2 q3 q4 q5 q6 hw1
  by_cases hk : k = 0
  · subst hk
    have hl := hl0 rfl
    subst hl
    clear hl0 hl1
    simp only [if_true]
    obtain ⟨W, hW⟩ : ∃ W, w2.alloc (.cells #[.int .i64 5, .int .i64 root, .slice none 0 0] 54) = W := ⟨_, rfl⟩
    have hf := OwnCh.lit1 w2 5 root
    rw [hW] at hf
    have hsz : W.heap.size = w2.heap.size + 1 := hW ▸ by simp
    have OF := Lib.hid hf
    clear hf
    go_wp2
    go_ret2
    exact ⟨_, _, _, _, _, rfl, HP.out, ((OF.out.base (by omega)).more (by omega)), B2.out.trans ((show Below w2.heap.size w2 W from hW ▸ (Below.refl _ _).alloc (Nat.le_refl _) _).mono (by omega))⟩
  · have hl := hl1 hk
    subst hl
    clear hl0 hl1
    rw [if_neg hk]
    unfold refV
    go_wp2_with fail
    refine (codeOf_any k w2 G2.out).mono ?_
    rintro e w3 ⟨rfl, b3⟩
    have B3 := Lib.hid (B2.out.trans (b3.mono (by omega)))
    clear b3
    go_wp2
    go_ret2
    exact ⟨none, 0, 0, [], k, rfl, HP.out, OwnCh.nil _ _ _, B3.out⟩
end Go.Proofs.YtdhnhgppapkikaaGreatDoor
