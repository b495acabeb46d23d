/- Several texts in one, in build order: ReachP, FindM, PathS, FindS, FindO, Below, Shape, StepAt, FoundBy, FoundP, Bss. -/
import Derived.Test.YtpgmiokdlloinaaPkG
import Derived.WalkLawsBesides
import Derived.WalkSpells
-- ReachP: The program's ReachOf: for all cells and roots.
namespace Go.Proofs.Ytpgmiokdlloinaa
set_option maxRecDepth 100000
set_option linter.unusedVariables false
set_option linter.unusedSimpArgs false
open Go.RowKit Go.Shelf
attribute [local go_sem] Oper.semAt_some

theorem OwnI.abide {X Y : World} {row : Option Nat} {lo n c : Nat} {A : Option Addr} {xs : List Int} (h : OwnI X lo A n c xs) (hg : X.grownBy Y row) (hr : ∀ r, row = some r → ∃ o : Obj, X.heap[r]? = some o ∧ o.isCells = false) : OwnI Y lo A n c xs :=
  own_touch h (Touch.of_grown hg) fun g hv e => by
    obtain ⟨o, h1, h2⟩ := hr g e.symm
    obtain ⟨cur, z, h3⟩ := own_cells h g hv
    rw [h1] at h3; cases h3; cases h2
theorem kbs_range (bs : List (Int × Bool)) : (List.range bs.length).map (fun k => (bAt bs k).1) = kbs bs := by
  apply List.ext_getElem?
  intro i
  unfold kbs bAt
  by_cases h : i < bs.length
  · simp [h]
  · simp [h]
theorem allB_range (bs : List (Int × Bool)) : (List.range bs.length).all (fun k => (bAt bs k).2) = allB bs := by
  have h : (List.range bs.length).map (fun k => (bAt bs k).2) = bs.map (·.2) := by
    apply List.ext_getElem?
    intro i
    unfold bAt
    by_cases h : i < bs.length
    · simp [h]
    · simp [h]
  unfold allB
  have e1 := congrArg (fun l => l.all id) h
  simp only [List.all_map] at e1
  exact e1
/-- one more number behind the others, within a round. -/
theorem names_push {W w7 : World} {cn cw n₀ b0 q c c7 : Nat} {A A7 : Option Addr} {L : List Int} {z : Int} {b : Bool} (hn : cn < n₀) (hw : cw < n₀) (hne : cn ≠ cw) (hb0 : b0 ≤ cn) (hW : n₀ ≤ W.heap.size)
    (bn : Boxed W cn 29 (.slice A q c)) (bw : Boxed W cw 4 (.bool b)) (hrow : OwnI W n₀ A q c L)
    (h7 : w7.ownsRow n₀ 2 1 (.slice A7 (q + 1) c7) (q + 1) (L.map (Value.int .i64) ++ [.int .i64 z])) (hg : (W.alloc (.cells #[.int .i64 z] 2)).grownBy w7 (Value.slice A q c).ownBlock) (d : Bool) :
    Boxed w7 cn 29 (.slice A q c) ∧ Boxed (w7.setCell ⟨cn, 0, none⟩ (.slice A7 (q + 1) c7)) cw 4 (.bool b) ∧
    (∀ B, KeepsFrom B W ((w7.setCell ⟨cn, 0, none⟩ (.slice A7 (q + 1) c7)).setCell ⟨cw, 0, none⟩ (.bool d))) ∧
    KpT cn cw n₀ W ((w7.setCell ⟨cn, 0, none⟩ (.slice A7 (q + 1) c7)).setCell ⟨cw, 0, none⟩ (.bool d)) ∧
    Boxed ((w7.setCell ⟨cn, 0, none⟩ (.slice A7 (q + 1) c7)).setCell ⟨cw, 0, none⟩ (.bool d)) cn 29 (.slice A7 (q + 1) c7) ∧
    OwnI ((w7.setCell ⟨cn, 0, none⟩ (.slice A7 (q + 1) c7)).setCell ⟨cw, 0, none⟩ (.bool d)) n₀ A7 (q + 1) c7 (L ++ [z]) ∧
    Boxed ((w7.setCell ⟨cn, 0, none⟩ (.slice A7 (q + 1) c7)).setCell ⟨cw, 0, none⟩ (.bool d)) cw 4 (.bool d) ∧
    (b0 ≤ cw → Below b0 W ((w7.setCell ⟨cn, 0, none⟩ (.slice A7 (q + 1) c7)).setCell ⟨cw, 0, none⟩ (.bool d))) := by
  have b2 : Below W.heap.size W (W.alloc (.cells #[.int .i64 z] 2)) := (Below.refl _ _).alloc (Nat.le_refl _) _
  have t6 := Touch.of_grown hg
  have hng : ∀ g, (Value.slice A q c).ownBlock = some g → n₀ ≤ g := fun g hv => (hrow.lt g hv).1
  have t06 : Touch (fun g => (Value.slice A q c).ownBlock = some g) W w7 := (Touch.of_below b2).trans (t6.mono (fun k hk => hk.symm))
  have bn7 : Boxed w7 cn 29 (.slice A q c) := (t06.block cn bn.lt (fun e => by have := hng _ e; omega)).trans bn
  have bw7 : Boxed w7 cw 4 (.bool b) := (t06.block cw bw.lt (fun e => by have := hng _ e; omega)).trans bw
  obtain ⟨w8, hw8⟩ : ∃ w8, w7.setCell ⟨cn, 0, none⟩ (.slice A7 (q + 1) c7) = w8 := ⟨_, rfl⟩
  have t8 : Touch (fun g => g = cn) w7 w8 := by rw [← hw8]; exact touch_set w7 cn 0 _ rfl
  have bn8 : Boxed w8 cn 29 (.slice A7 (q + 1) c7) := by rw [← hw8]; exact bn7.set _
  have bw8 : Boxed w8 cw 4 (.bool b) := (t8.block cw bw7.lt (fun e => hne e.symm)).trans bw7
  rw [hw8]
  obtain ⟨w9, hw9⟩ : ∃ w9, w8.setCell ⟨cw, 0, none⟩ (.bool d) = w9 := ⟨_, rfl⟩
  have t9 : Touch (fun g => g = cw) w8 w9 := by rw [← hw9]; exact touch_set w8 cw 0 _ rfl
  have bw9 : Boxed w9 cw 4 (.bool d) := by rw [← hw9]; exact bw8.set _
  have bn9 : Boxed w9 cn 29 (.slice A7 (q + 1) c7) := (t9.block cn bn8.lt hne).trans bn8
  rw [hw9]
  have h7' : OwnI w7 n₀ A7 (q + 1) c7 (L ++ [z]) := by unfold OwnI; rw [List.map_append]; exact h7
  have o9 : OwnI w9 n₀ A7 (q + 1) c7 (L ++ [z]) := (h7'.touch t8 (fun g hv e => by have := (h7'.lt g hv).1; omega)).touch t9 (fun g hv e => by have := (h7'.lt g hv).1; omega)
  have tt : Touch (fun g => g = cn ∨ g = cw ∨ (Value.slice A q c).ownBlock = some g) W w9 := ((t06.mono (fun k hk => .inr (.inr hk))).trans (t8.mono (fun k hk => .inl hk))).trans (t9.mono (fun k hk => .inr (.inl hk)))
  refine ⟨bn7, bw8, fun B => ⟨tt.size, fun k o hk ho hnc => ?_⟩, ⟨tt.size, fun k hk hc => tt.block k (by omega) (fun e => by rcases e with e | e | e <;> first | exact hc.1 e | exact hc.2 e | (have := hng _ e; omega))⟩, bn9, o9, bw9, fun hb => tt.below (by omega) (fun k hk e => by rcases e with e | e | e <;> first | omega | (have := hng _ e; omega))⟩
  refine (tt.block k (Array.getElem?_eq_some_iff.1 ho).1 (fun e => ?_)).trans ho
  rcases e with e | e | e
  · subst e
    rw [show W.heap[k]? = _ from bn] at ho; cases ho; cases hnc
  · subst e
    rw [show W.heap[k]? = _ from bw] at ho; cases ho; cases hnc
  · obtain ⟨cur, zz, h3⟩ := own_cells hrow k e
    rw [h3] at ho; cases ho; cases hnc
set_option maxHeartbeats 4000000 in
theorem implReachOf_any (A : Option Addr) (n c : Nat) (cs : List (Int × List Int)) (Ar : Option Addr) (nr cr : Nat) (roots : List Int) (B : Nat) (w : World) (hn : n ≤ 1048576) (hc : n ≤ c) (hA : A = none → c = 0) (hnr : nr ≤ 1048576) (hcr : nr ≤ cr) (hAr : Ar = none → cr = 0) (hm : ∀ i, (cel cs i).2.length ≤ 1048576) (hB : B ≤ w.heap.size) (hb : Cells w B A n cs) (hbr : Ints w B Ar nr roots) :
    Calls Try.prog 30 #[.slice A n c, .slice Ar nr cr] w fun e w' => ∃ A' n' c' l b, e = .returned (.tuple #[.slice A' n' c', .bool b]) ∧ ReachIs cs roots l b ∧ OwnI w' w.heap.size A' n' c' l ∧ Below w.heap.size w w' := by
  have HB := Lib.hid hb
  have HBR := Lib.hid hbr
  have hlr := hbr.1
  clear hb hbr
  obtain ⟨i0, hi, hz0, hz1, hz2⟩ := info_parts Try.infoI
  have HI := Lib.hid hi
  have HZ0 := Lib.hid hz0
  have HZ1 := Lib.hid hz1
  have HZ2 := Lib.hid hz2
  clear hi hz0 hz1 hz2
  refine (callsIn_wide (n := 6)).1 ?_
  refine callsIn_of_wp_marks Try.func30 rfl trivial ?_ rfl
  simp only [Try.ntmps30, List.size_toArray, List.length_cons, List.length_nil, Nat.reduceAdd, Nat.reduceSub, Array.replicate_succ, Array.replicate_zero, List.push_toArray, List.append_toArray, List.nil_append, List.cons_append]
  gi_wp2_with fail
  refine ⟨trivial, ?_⟩
  refine (callsIn_wide.2 (nodesOf_any A n c cs B w hn hc hA hm hB HB.out)).mono ?_
  rintro e w2 ⟨R, ps, b, rfl, b2, hor⟩
  have s2 := b2.size
  have B2 := Lib.hid b2
  have hbr2 := HBR.out.below (b2.mono hB)
  have HBR := Lib.hid hbr2
  rcases hor with ⟨rfl, hR, hnd⟩ | ⟨rfl, hno, hR0, hp0⟩
  · obtain ⟨w3, hw3⟩ : ∃ w3, w2.alloc (.cells #[R.kv ps.length, R.vv ps.length] 73) = w3 := ⟨_, rfl⟩
    have b3 : Below w2.heap.size w2 w3 := hw3 ▸ (Below.refl _ _).alloc (Nat.le_refl _) _
    have P3 := Lib.hid (show Box w3 w2.heap.size 73 #[R.kv ps.length, R.vv ps.length] from hw3 ▸ heap_alloc_new _ _)
    have s3 : w3.heap.size = w2.heap.size + 1 := hw3 ▸ by simp
    have B3 := Lib.hid (B2.out.trans (b3.mono (by omega)))
    unfold SR.kv SR.vv at hw3
    have D3 := Lib.hid (hnd.below b3)
    have RT := Lib.hid hR
    have p0 := P3.out.cell 0
    have p1 := P3.out.cell 1
    unfold SR.kv at p0
    unfold SR.vv at p1
    simp at p0 p1
    have HBR := Lib.hid (HBR.out.below (b3.mono (show B ≤ w2.heap.size by omega)))
    clear hnd hR b2 b3 hbr2
    by_cases h80 : nr ≤ 80
    · have hd : decide ((80 : Int) < (nr : Int)) = false := decide_eq_false (by omega)
      unfold SR.kv SR.vv
      gi_wp2_with fail
      clear hw3 p0 p1
      refine ⟨trivial, ?_⟩
      refine (callsIn_wide.2 (reachedFrom_any w.heap.size R ps cs Ar nr cr roots B w3 D3.out RT.out h80 hcr hAr (by omega) HBR.out)).mono ?_
      rintro e w4 ⟨R', bs, rfl, hsl, hgo, b4⟩
      have s4 := b4.size
      have S4 := Lib.hid hsl
      have GO := Lib.hid hgo
      have B4 := Lib.hid (B3.out.trans (b4.mono (by omega)))
      clear hsl hgo b4
      unfold SR.kv SR.vv
      gi_wp2_with (refine ⟨trivial, ?_⟩; gi_at_call 68; refine (callsIn_wide.2 (allB_any _ _)).mono ?_; rintro e w' ⟨rfl, rfl⟩)
      obtain ⟨W3, hW3⟩ : ∃ W3, ((w4.alloc (.cells #[.slice R'.Ak bs.length R'.ck, .slice R'.Av bs.length R'.cv] 95)).alloc (.cells #[.slice none 0 0] 29)).alloc (.cells #[.bool true] 4) = W3 := ⟨_, rfl⟩
      have bR3 : Box W3 w4.heap.size 95 #[R'.kv bs.length, R'.vv bs.length] := hW3 ▸ heap3_0 _ _ _ _
      have bN3 : Boxed W3 (w4.heap.size + 1) 29 (.slice none 0 0) := hW3 ▸ heap3_1 _ _ _ _
      have bW3 : Boxed W3 (w4.heap.size + 1 + 1) 4 (.bool true) := hW3 ▸ heap3_2 _ _ _ _
      have hs3 : W3.heap.size = w4.heap.size + 3 := hW3 ▸ size3 _ _ _ _
      have hB3 : Below w4.heap.size w4 W3 := hW3 ▸ below3 _ _ _ _
      rw [hW3]
      clear hW3
      obtain ⟨W0, hW0⟩ : ∃ W0, W3.alloc (.cells #[.pointer (some ⟨w4.heap.size, 0, none⟩)] 134) = W0 := ⟨_, rfl⟩
      have hB30 : Below W3.heap.size W3 W0 := hW0 ▸ (Below.refl _ _).alloc (Nat.le_refl _) _
      have bP : Box W0 (w4.heap.size + 1 + 1 + 1) 134 #[.pointer (some ⟨w4.heap.size, 0, none⟩)] := by
        have h := heap_alloc_new W3 (.cells #[.pointer (some ⟨w4.heap.size, 0, none⟩)] 134)
        rw [hW0, hs3] at h
        exact h
      have hsz : W0.heap.size = w4.heap.size + 4 := by rw [← hW0]; simp [hs3]
      have bR := bR3.below hB30 (by omega)
      have bN : Boxed W0 (w4.heap.size + 1) 29 (.slice none 0 0) := (hB30.block _ (by omega)).trans bN3
      have bW : Boxed W0 (w4.heap.size + 1 + 1) 4 (.bool true) := (hB30.block _ (by omega)).trans bW3
      have hB4 : Below w4.heap.size w4 W0 := hB3.trans (hB30.mono (by omega))
      have hB0 : Below w.heap.size w W0 := B4.out.trans (hB4.mono (by omega))
      rw [hW0]
      clear hW0 bR3 bN3 bW3 hB3 hB30
      refine wpIn_rangeFunc_ownH rfl (by omega) (gf := 101) (lb := #[.pointer (some ⟨w4.heap.size + 1 + 1 + 1, 0, none⟩)]) rfl trivial (enters_of Try.func101 (by kernel_rfl) rfl)
        (allB_stops 5 (by omega) (w4.heap.size + 1 + 1 + 1) (w4.heap.size + 4) (w4.heap.size + 1) (w4.heap.size + 1 + 1) w4.heap.size w3.heap.size R' bs W0 (by omega) bP (by omega) (by omega) bR (by omega) (by omega) (S4.out.below hB4) (fun g hg => by have := (S4.out.lt g hg).2; omega))
        (fun h k => h.trans k) (KpT.put (by omega)) (Below.refl _ _) (fun _ => rfl)
        (fun pre W => ∃ A q c, Boxed W (w4.heap.size + 1) 29 (.slice A q c) ∧ OwnI W (w4.heap.size + 4) A q c (pre.map (fun k => (bAt bs k).1)) ∧ Boxed W (w4.heap.size + 1 + 1) 4 (.bool (pre.all (fun k => (bAt bs k).2))) ∧ KpT (w4.heap.size + 1) (w4.heap.size + 1 + 1) (w4.heap.size + 4) W0 W ∧ Below w.heap.size w W)
        (fun _ _ _ => False)
        (fun pre X Y row hs hg hr => by
          obtain ⟨A, q, c, h1, h2, h3, h4, h5⟩ := hs
          refine ⟨A, q, c, h1.kept hg (fun e => ?_), h2.abide hg (fun r e => (hr r e).2), h3.kept hg (fun e => ?_), h4.trans ⟨hg.size, fun k hk _ => hg.block k (by have := h4.1; omega) (fun e => by have := (hr k e.symm).1; omega)⟩, h5.grown hg (by have := h5.size; omega) (fun k e => by have := (hr k e).1; omega)⟩
          · obtain ⟨_, o, ho, hc⟩ := hr _ e.symm
            rw [show X.heap[w4.heap.size + 1]? = _ from h1] at ho; cases ho; cases hc
          · obtain ⟨_, o, ho, hc⟩ := hr _ e.symm
            rw [show X.heap[w4.heap.size + 1 + 1]? = _ from h3] at ho; cases ho; cases hc)
        (fun _ _ _ _ _ hs _ _ => hs)
        ⟨none, 0, 0, bN, OwnI.nil _ _, bW, KpT.refl _ _ _ _, hB0⟩
        (fun x a' W => a' = { tmps := #[.slice A n c, .slice Ar nr cr, undef, undef, .slice none 0 0, .bool false,
          .pointer (some ⟨w2.heap.size, 0, none⟩), .bool true,
          .pointer (some ⟨w4.heap.size, 0, none⟩),
          .pointer (some ⟨w4.heap.size + 1, 0, none⟩),
          .pointer (some ⟨w4.heap.size + 1 + 1, 0, none⟩), .int .i64 (bAt bs x).1, .bool (bAt bs x).2,
          .tuple #[.agg #[.slice R.Ak ps.length R.ck, .slice R.Av ps.length R.cv], .bool true],
          .slice A n c,
          .tuple #[.agg #[.slice R.Ak ps.length R.ck, .slice R.Av ps.length R.cv], .bool true],
          .agg #[.slice R.Ak ps.length R.ck, .slice R.Av ps.length R.cv], .bool true,
          .bool true, .bool false, .bool false, .slice Ar nr cr, .int .i64 nr,
          .bool false, .bool false,
          .agg #[.slice R.Ak ps.length R.ck, .slice R.Av ps.length R.cv], .slice Ar nr cr,
          .agg #[.slice R'.Ak bs.length R'.ck, .slice R'.Av bs.length R'.cv],
          .func (.func 101) #[] #[.pointer (some ⟨w4.heap.size + 1 + 1 + 1, 0, none⟩)], .int .i64 (bAt bs x).1, .bool (bAt bs x).2,
          undef, undef, undef, undef, undef, undef, undef, undef, undef, undef], defers := [] })
        (fun x a' _ X Y row hs hg hr => hs)
        ?assign ?body ?done ?stop
      case assign =>
        rintro l pre x W K hJ hK
        unfold encB
        gi_wp2
        exact hK _ _ (KeepsFrom.refl _ _) (KpT.refl _ _ _ _) hJ rfl
      case body =>
        rintro l pre x a' W hl ⟨r, hr⟩ ⟨A1, q, c1, hbn, hoi, hbw, hkp, hbel⟩ rfl hlt
        have hql := hoi.len
        simp at hql
        have hbl := S4.out.len
        have hWs : w4.heap.size + 4 ≤ W.heap.size := by have := hkp.1; omega
        have cn := hbn.cell
        have BN := Lib.hid hbn
        have BW := Lib.hid hbw
        have OI := Lib.hid hoi
        have KP := Lib.hid hkp
        have BE := Lib.hid hbel
        clear hbn hbw hoi hkp hbel hr
        obtain ⟨L, hL⟩ : ∃ L, pre.map (fun k => (bAt bs k).1) = L := ⟨_, rfl⟩
        obtain ⟨bb, hbb⟩ : ∃ bb, pre.all (fun k => (bAt bs k).2) = bb := ⟨_, rfl⟩
        have HL := Lib.hid hL
        have HBB := Lib.hid hbb
        rw [hL] at OI
        rw [hbb] at BW
        clear hL hbb
        gi_wp2_with (gi_at_builtin; refine wpListIn_append_own _ rfl _ _ 29 rfl (w4.heap.size + 4) 2 i0 (.int .i64 0) 1 8 Try.underlying29 HI.out HZ0.out HZ1.out HZ2.out rfl (by decide) (.slice A1 q c1) q (L.map (Value.int .i64)) (by simp [Act.eval]) (own_touch (S := fun _ => False) OI.out (Touch.of_below ((Below.refl W.heap.size W).alloc (Nat.le_refl _) _)) (fun _ _ h => h)) ⟨W.heap.size, 0, none⟩ 1 1 [.int .i64 (bAt bs x).1] (by simp [Act.eval]) rfl ?q1 ?q2 ?q3 ?q4 ?q5 ?_)
        case q1 =>
          intro j u hj
          match j, hj with
          | 0, hj => simp at hj; subst hj; simp [Addr.add]
        case q2 => intro u hu; simp at hu; subst hu; rfl
        case q3 => unfold maxLen; omega
        case q4 => omega
        case q5 => simp; omega
        intro v7 w7 hown7 hgrow7 _
        obtain ⟨A7, c7, rfl⟩ := own_slice hown7
        have PF := fun d => names_push (cn := w4.heap.size + 1) (cw := w4.heap.size + 1 + 1) (n₀ := w4.heap.size + 4) (b0 := w.heap.size) (by omega) (by omega) (by omega) (by omega) hWs BN.out BW.out OI.out hown7 hgrow7 d
        have q6 := (PF true).1.cell
        have f6 := (PF true).1.frozen
        have q7 := (PF true).2.1.cell
        have f7 := (PF true).2.1.frozen
        have PF := Lib.hid (fun d => (PF d).2.2)
        clear hown7 hgrow7 cn
        have hend : ∀ d, d = (bb && (bAt bs x).2) → KeepsFrom W0.heap.size W ((w7.setCell ⟨w4.heap.size + 1, 0, none⟩ (.slice A7 (q + 1) c7)).setCell ⟨w4.heap.size + 1 + 1, 0, none⟩ (.bool d)) ∧ KpT (w4.heap.size + 1) (w4.heap.size + 1 + 1) (w4.heap.size + 4) W ((w7.setCell ⟨w4.heap.size + 1, 0, none⟩ (.slice A7 (q + 1) c7)).setCell ⟨w4.heap.size + 1 + 1, 0, none⟩ (.bool d)) ∧
            ∃ A q' c, Boxed ((w7.setCell ⟨w4.heap.size + 1, 0, none⟩ (.slice A7 (q + 1) c7)).setCell ⟨w4.heap.size + 1 + 1, 0, none⟩ (.bool d)) (w4.heap.size + 1) 29 (.slice A q' c) ∧ OwnI ((w7.setCell ⟨w4.heap.size + 1, 0, none⟩ (.slice A7 (q + 1) c7)).setCell ⟨w4.heap.size + 1 + 1, 0, none⟩ (.bool d)) (w4.heap.size + 4) A q' c ((pre ++ [x]).map (fun k => (bAt bs k).1)) ∧ Boxed ((w7.setCell ⟨w4.heap.size + 1, 0, none⟩ (.slice A7 (q + 1) c7)).setCell ⟨w4.heap.size + 1 + 1, 0, none⟩ (.bool d)) (w4.heap.size + 1 + 1) 4 (.bool ((pre ++ [x]).all (fun k => (bAt bs k).2))) ∧
              KpT (w4.heap.size + 1) (w4.heap.size + 1 + 1) (w4.heap.size + 4) W0 ((w7.setCell ⟨w4.heap.size + 1, 0, none⟩ (.slice A7 (q + 1) c7)).setCell ⟨w4.heap.size + 1 + 1, 0, none⟩ (.bool d)) ∧ Below w.heap.size w ((w7.setCell ⟨w4.heap.size + 1, 0, none⟩ (.slice A7 (q + 1) c7)).setCell ⟨w4.heap.size + 1 + 1, 0, none⟩ (.bool d)) := fun d hd => by
          obtain ⟨p1, p2, p3, p4, p5, p6⟩ := PF.out d
          refine ⟨p1 _, p2, _, _, _, p3, by rw [List.map_append, HL.out]; exact p4, ?_, KP.out.trans p2, BE.out.trans (p6 (by omega))⟩
          have e : (pre ++ [x]).all (fun k => (bAt bs k).2) = d := by
            rw [List.all_append, HBB.out, hd]
            simp
          rw [e]
          exact p5
        have HE := Lib.hid hend
        clear hend
        obtain ⟨fl, hfl⟩ : ∃ fl, (bAt bs x).2 = fl := ⟨_, rfl⟩
        rw [hfl] at HE ⊢
        clear hfl
        cases bb with
        | true =>
          gi_wp2
          exact HE.out _ rfl
        | false =>
          gi_wp2
          exact HE.out _ rfl
      case done =>
        rintro D ys W hD rfl ⟨A1, q, c1, h1, h2, h3, h4, h5⟩ hK
        have c0 := h1.cell
        have c1 := h3.cell
        rw [kbs_range] at h2
        rw [allB_range] at c1
        have H2 := Lib.hid h2
        have H5 := Lib.hid h5
        clear h1 h2 h3 h4 h5
        gi_wp2
        gi_quiet (fail)
        have hKq : (W.drewN nq).heap[D]? = some (.deferred (some [])) := hK
        have O2 := Lib.hid ((H2.out.drewN nq).abide (grownBy_putObj' (W.drewN nq) D (.deferred none)) (fun r e => by cases e; exact ⟨_, hKq, rfl⟩))
        have B2 := Lib.hid ((below_drewN H5.out nq).trans (belowK_b (w := w) (Nat.le_refl _) (W.drewN nq) D _ (.deferred none) (by omega) hKq rfl rfl))
        gi_wp2
        refine ⟨by simp, .inl ⟨_, _, rfl, run_takeDeferred hKq, ?_⟩⟩
        exact ⟨_, results_tmp2 rfl _ _ _, _, _, _, kbs bs, allB bs, rfl, .inr ⟨⟨RT.out, by omega⟩, GO.out.rise, GO.out.done, GO.out.whole⟩, O2.out.base (by omega), B2.out⟩
      case stop =>
        rintro D cx pre W hD _ h
        exact h.elim
    · have hd : decide ((80 : Int) < (nr : Int)) = true := decide_eq_true (by omega)
      unfold SR.kv SR.vv
      gi_wp2_with fail
      exact ⟨_, results_tmp2 rfl _ _ _, none, 0, 0, [], false, rfl, .inl ⟨fun h => absurd h.2 (by omega), rfl, rfl⟩, OwnI.nil _ _, B3.out⟩
  · subst hR0
    subst hp0
    unfold SR.kv SR.vv
    simp only [SR0, List.length_nil]
    gi_wp2
    exact ⟨_, results_tmp2 rfl _ _ _, none, 0, 0, [], false, rfl, .inl ⟨fun h => hno h.1, rfl, rfl⟩, OwnI.nil _ _, B2.out.trans (((Below.refl _ _).alloc (Nat.le_refl _) _).mono s2)⟩
end Go.Proofs.Ytpgmiokdlloinaa

-- FindM: Plain facts on the way down a path. No statement of the program is proved here.
namespace Go.Proofs.Ytpgmiokdlloinaa
set_option maxRecDepth 20000
set_option linter.unusedVariables false
set_option linter.unusedSimpArgs false
open Go.RowKit

theorem com_le (a b : List Int) : com a b ≤ a.length ∧ com a b ≤ b.length := by
  induction a generalizing b with
  | nil => cases b <;> simp [com]
  | cons x r ih =>
    cases b with
    | nil => simp [com]
    | cons y s =>
      have := ih s
      simp only [com]
      split
      · simp; omega
      · simp
/-- the empty text. -/
def noStr : ByteArray := { data := #[] }
/-- the name of the kid at a number; 0 where there is none. -/
def kidAt (ks : List (Int × Int)) (a : Int) : Int := match ks.find? (fun k => k.1 == a) with
  | some k => k.2
  | none => 0
theorem kidAt_at (ks : List (Int × Int)) (a : Int) (k : Nat) (hk : k < ks.length) (he : (ks[k]?.getD (0, 0)).1 = a) (h : ∀ j, j < k → (ks[j]?.getD (0, 0)).1 ≠ a) : kidAt ks a = (ks[k]?.getD (0, 0)).2 := by
  induction ks generalizing k with
  | nil => simp at hk
  | cons x r ih =>
    unfold kidAt
    rw [List.find?_cons]
    cases k with
    | zero => simp at he; simp [he]
    | succ k =>
      have h0 := h 0 (by omega)
      simp at h0
      have hx : (x.1 == a) = false := by simpa using h0
      rw [hx]
      have := ih k (by simpa using hk) (by simpa using he) (fun j hj => by have := h (j + 1) (by omega); simpa using this)
      unfold kidAt at this
      simpa using this
theorem kidAt_none (ks : List (Int × Int)) (a : Int) (h : ∀ j, j < ks.length → (ks[j]?.getD (0, 0)).1 ≠ a) : kidAt ks a = 0 := by
  unfold kidAt
  have : ks.find? (fun k => k.1 == a) = none := by
    rw [List.find?_eq_none]
    intro x hx
    obtain ⟨i, hi, rfl⟩ := List.mem_iff_getElem.1 hx
    have := h i hi
    rw [List.getElem?_eq_getElem hi] at this
    simpa using this
  rw [this]
/-- what a node on the way says: the value and the code, or where to go on. -/
def stepAt (nd : MNode) (path : List Int) : (ByteArray × Int) ⊕ (Int × List Int) :=
  if com nd.path path < nd.path.length ∨ (nd.kind = 1 ∧ com nd.path path < path.length) then .inl (noStr, 1)
  else if nd.kind = 1 then .inl (nd.val, 0)
  else if nd.kind = 2 then .inr ((nd.kids[0]?.getD (0, 0)).2, path.drop (com nd.path path))
  else match path.drop (com nd.path path) with
    | [] => if hasVal nd then .inl (nd.val, 0) else .inl (noStr, 1)
    | a :: r => .inr (kidAt nd.kids a, r)
/-- down a path: the value, the code, and the names of the nodes on the way. -/
def DownIs (cs : List (Int × List Int)) : Nat → Int → List Int → ByteArray → Int → List Int → Prop
  | 0, _, _, _, _, _ => False
  | f + 1, root, path, v, k, way =>
    (root = 0 ∧ v = noStr ∧ k = 1 ∧ way = []) ∨
    (root ≠ 0 ∧ ∃ nd b, HitIs cs root nd b ∧
      ((b = false ∧ v = noStr ∧ k = 2 ∧ way = []) ∨
       (b = true ∧ ∃ way', way = root :: way' ∧
         ((∃ r, stepAt nd path = .inl r ∧ v = r.1 ∧ k = r.2 ∧ way' = []) ∨ (∃ r, stepAt nd path = .inr r ∧ DownIs cs f r.1 r.2 v k way')))))
theorem DownIs.one {cs : List (Int × List Int)} (f f' : Nat) {root : Int} {path : List Int} {v v' : ByteArray} {k k' : Int} {way way' : List Int} (h : DownIs cs f root path v k way) (h' : DownIs cs f' root path v' k' way') : v = v' ∧ k = k' ∧ way = way' := by
  induction f generalizing f' root path way way' with
  | zero => exact h.elim
  | succ f ih =>
    cases f' with
    | zero => exact h'.elim
    | succ f' =>
      unfold DownIs at h h'
      rcases h with ⟨h0, rfl, rfl, rfl⟩ | ⟨h0, nd, b, hit, h⟩ <;> rcases h' with ⟨h0', rfl, rfl, rfl⟩ | ⟨h0', nd', b', hit', h'⟩
      · exact ⟨rfl, rfl, rfl⟩
      · exact absurd h0 h0'
      · exact absurd h0' h0
      · obtain ⟨rfl, rfl⟩ := hit.one hit'
        rcases h with ⟨hb, rfl, rfl, rfl⟩ | ⟨hb, w1, rfl, h⟩ <;> rcases h' with ⟨hb', rfl, rfl, rfl⟩ | ⟨hb', w1', rfl, h'⟩
        · exact ⟨rfl, rfl, rfl⟩
        · rw [hb] at hb'; cases hb'
        · rw [hb] at hb'; cases hb'
        · rcases h with ⟨r, e, rfl, rfl, rfl⟩ | ⟨r, e, h⟩ <;> rcases h' with ⟨r', e', rfl, rfl, rfl⟩ | ⟨r', e', h'⟩
          · rw [e] at e'; cases e'; exact ⟨rfl, rfl, rfl⟩
          · rw [e] at e'; cases e'
          · rw [e] at e'; cases e'
          · rw [e] at e'; cases e'
            obtain ⟨a, b, c⟩ := ih f' h h'
            exact ⟨a, b, by rw [c]⟩
/-- the answer of Found. -/
def FoundIs (cs : List (Int × List Int)) (root : Int) (key : ByteArray) (v : ByteArray) (k : Int) : Prop :=
  (¬ (Right cs ∧ isKey (sb key) = true ∧ 0 ≤ root) ∧ v = noStr ∧ k = 3) ∨ ((Right cs ∧ isKey (sb key) = true ∧ 0 ≤ root) ∧ ∃ f way, DownIs cs f root (pathOf (sb key)) v k way)
theorem FoundIs.one {cs : List (Int × List Int)} {root : Int} {key v v' : ByteArray} {k k' : Int} (h : FoundIs cs root key v k) (h' : FoundIs cs root key v' k') : v = v' ∧ k = k' := by
  rcases h with ⟨a, rfl, rfl⟩ | ⟨a, f, way, h⟩ <;> rcases h' with ⟨a', rfl, rfl⟩ | ⟨a', f', way', h'⟩
  · exact ⟨rfl, rfl⟩
  · exact absurd a' a
  · exact absurd a a'
  · have := h.one f f' h'
    exact ⟨this.1, this.2.1⟩
end Go.Proofs.Ytpgmiokdlloinaa

-- PathS: What the model's KeyOk, PathOf, KeyOf and CommonOf answer: for every text, every list.
namespace Go.Proofs.Ytpgmiokdlloinaa
set_option maxRecDepth 20000
open Go.RowKit

theorem l2Worth_any (c : Int) (w : World) (hc : 0 ≤ c ∧ c ≤ 255) :
    Calls Try.prog 105 #[.int .u8 c] w fun e w' => e = .returned (.int .i64 (wd c)) ∧ w = w' := by
  obtain ⟨hc0, hc1⟩ := hc
  by_cases h1 : 48 ≤ c ∧ c ≤ 57
  · obtain ⟨h1a, h1b⟩ := h1
    have e : wd c = c - 48 := if_pos ⟨h1a, h1b⟩
    rw [e]
    clear e
    go_enter Try.func105, Try.ntmps105
    go_wp2
    go_ret
    exact ⟨rfl, rfl⟩
  · by_cases h2 : 97 ≤ c ∧ c ≤ 102
    · have e : wd c = c - 97 + 10 := by unfold wd; rw [if_neg h1, if_pos h2]; omega
      rw [e]
      obtain ⟨h2a, h2b⟩ := h2
      clear e h1
      go_enter Try.func105, Try.ntmps105
      go_wp2
      go_ret
      exact ⟨rfl, rfl⟩
    · have e : wd c = -1 := by unfold wd; rw [if_neg h1, if_neg h2]
      rw [e]
      have h1 : c < 48 ∨ 57 < c := by omega
      have h2 : c < 97 ∨ 102 < c := by omega
      clear e
      go_enter Try.func105, Try.ntmps105
      rcases h1 with h1 | h1
      · go_wp2
        go_ret
        exact ⟨rfl, rfl⟩
      · rcases h2 with h2 | h2
        · go_wp2
          go_ret
          exact ⟨rfl, rfl⟩
        · go_wp2
          go_ret
          exact ⟨rfl, rfl⟩
theorem specKeyOk_any (s : ByteArray) (w : World) (hs : s.size ≤ 1048576) :
    Calls Try.prog 102 #[.string s] w fun e w' => e = .returned (.bool (isKey (sb s))) ∧ w = w' := by
  have hlen := sb_len s
  go_enter Try.func102, Try.ntmps102
  go_wp2
  go_loop [3] (fun i => ∃ k : Nat, k ≤ s.size ∧ i = .int .i64 k ∧ (∀ z ∈ (sb s).take k, 0 ≤ wd z)) (fun i => s.size - (intOf i).toNat)
  case atStart => exact ⟨0, Nat.zero_le _, rfl, by simp⟩
  case round =>
    obtain ⟨k, hk, rfl, hgood⟩ := hrel
    by_cases hlt : k < s.size
    · have hat := sb_at s k hlt
      have hr := (s[k]'hlt).toNat_lt
      by_cases hw : 0 ≤ wd ((s[k]'hlt).toNat)
      · go_wp2_with fail
        refine (l2Worth_any _ _ (by omega)).mono ?_
        rintro e w' ⟨rfl, rfl⟩
        go_wp2
        go_round
        case rel => exact ⟨k + 1, by omega, by go_num, good_step (sb s) k (by omega) hgood (by rw [hat]; exact hw)⟩
        case measure => simp [intOf]; omega
      · go_wp2_with fail
        refine (l2Worth_any _ _ (by omega)).mono ?_
        rintro e w' ⟨rfl, rfl⟩
        go_wp2
        go_ret
        exact ⟨by rw [isKey_bad (sb s) k (by omega) (by rw [hat]; omega)]; rfl, rfl⟩
    · have e : (sb s).take k = sb s := List.take_of_length_le (by omega)
      rw [e] at hgood
      have HG := Lib.hid (isKey_good (sb s) hgood)
      by_cases h1 : 1 ≤ s.size
      · go_wp2
        go_ret
        exact ⟨by rw [HG.out]; exact ret_b (by rw [hlen]; first | exact decide_eq_decide.2 (by omega) | exact (decide_eq_false (by omega)).symm), rfl⟩
      · go_wp2
        go_ret
        exact ⟨by rw [HG.out]; exact ret_b (by rw [hlen]; first | exact decide_eq_decide.2 (by omega) | exact (decide_eq_false (by omega)).symm), rfl⟩

theorem specPathOf_any (s : ByteArray) (w : World) (hs : s.size ≤ 1048576) :
    Calls Try.prog 71 #[.string s] w (GaveI w (pathOf (sb s))) := by
  have hlen := sb_len s
  by_cases hkey : isKey (sb s) = true
  · have HK := Lib.hid hkey
    have h8 := ((isKey_iff _).1 hkey).1
    have hgood := ((isKey_iff _).1 hkey).2
    have hr : pathOf (sb s) = (sb s).map wd := pathOf_good (sb s) (by omega) hgood
    clear hkey
    obtain ⟨i0, hi, hz0, hz1, hz2⟩ := info_parts Try.infoI
    have HI := Lib.hid hi
    have HZ0 := Lib.hid hz0
    have HZ1 := Lib.hid hz1
    have HZ2 := Lib.hid hz2
    have HR := Lib.hid hr
    clear hi hz0 hz1 hz2 hr
    go_enter Try.func71, Try.ntmps71
    go_wp2
    go_loopw [3, 4] (fun v i wr => ∃ k : Nat, k ≤ s.size ∧ i = .int .i64 k ∧ wr.ownsRow w.heap.size 2 1 v k ((((sb s).take k).map wd).map (Value.int .i64)) ∧ Below w.heap.size w wr) (fun _ i _ => s.size - (intOf i).toNat)
    case atStart => exact ⟨0, Nat.zero_le _, rfl, OwnI.empty w _ (Nat.le_refl _), (Below.refl _ _).alloc (Nat.le_refl _) _⟩
    case round =>
      obtain ⟨k, hk, rfl, hown, hbel⟩ := hrel
      have hsz := hbel.size
      by_cases hlt : k < s.size
      · have hat := sb_at s k hlt
        have hrg := (s[k]'hlt).toNat_lt
        go_wp2_with fail
        refine (specKeyOk_any s _ hs).mono ?_
        rintro e w' ⟨rfl, rfl⟩
        rw [HK.out]
        go_wp2_with fail
        refine (l2Worth_any _ _ (by omega)).mono ?_
        rintro e w' ⟨rfl, rfl⟩
        go_wp2_with (at_builtin; refine wpList_append_own _ rfl _ _ 29 rfl w.heap.size 2 i0 (.int .i64 0) 1 8 Try.underlying29 HI.out HZ0.out HZ1.out HZ2.out rfl (by decide) _ _ _ rfl (hown.alloc _) ⟨wr.heap.size, 0, none⟩ 1 1 [.int .i64 (wd ((s[k]'hlt).toNat))] rfl rfl ?c1 ?c2 ?c3 ?c4 ?c5 ?_)
        case c1 =>
          intro j u hj
          match j, hj with
          | 0, hj => simp at hj; subst hj; simp [Addr.add]
        case c2 => intro u hu; simp at hu; subst hu; rfl
        case c3 => unfold maxLen; omega
        case c4 => omega
        case c5 => simp; omega
        intro v' w1 hown' hgrow _
        have hown2 : w1.ownsRow w.heap.size 2 1 v' (k + 1) ((((sb s).take (k + 1)).map wd).map (Value.int .i64)) := by
          rw [map_take_step wd (sb s) k (by omega), hat]
          simpa using hown'
        have hb1 : Below w.heap.size w w1 := (hbel.alloc hsz _).grown hgrow (by simp; omega) (fun g hg => (hown.lt g hg).1)
        clear hgrow hown hbel hown'
        go_wp2
        go_roundw
        case rel => exact ⟨k + 1, by omega, by go_num, hown2, hb1⟩
        case measure => simp [intOf]; omega
      · obtain rfl : k = s.size := by omega
        obtain ⟨A, c, rfl⟩ := own_slice hown
        have e : (sb s).take s.size = sb s := List.take_of_length_le (by omega)
        rw [e] at hown
        go_wp2
        go_ret
        exact ⟨A, s.size, c, rfl, by rw [HR.out]; exact hown, hbel⟩
  · have hkey : isKey (sb s) = false := by simpa using hkey
    have hr : pathOf (sb s) = [] := by unfold pathOf; rw [if_neg (by rw [hkey]; decide)]
    have HK := Lib.hid hkey
    have HR := Lib.hid hr
    clear hr hkey
    go_enter Try.func71, Try.ntmps71
    go_wp2
    go_loopw [3, 4] (fun v i wr => i = .int .i64 0 ∧ wr.ownsRow w.heap.size 2 1 v 0 [] ∧ Below w.heap.size w wr) (fun _ _ _ => 0)
    case atStart => exact ⟨rfl, OwnI.empty w _ (Nat.le_refl _), (Below.refl _ _).alloc (Nat.le_refl _) _⟩
    case round =>
      obtain ⟨rfl, hown, hbel⟩ := hrel
      obtain ⟨A, c, rfl⟩ := own_slice hown
      by_cases hlt : 0 < s.size
      · go_wp2_with fail
        refine (specKeyOk_any s _ hs).mono ?_
        rintro e w' ⟨rfl, rfl⟩
        rw [HK.out]
        go_wp2
        go_ret
        exact ⟨A, 0, c, rfl, by rw [HR.out]; exact hown, hbel⟩
      · go_wp2
        go_ret
        exact ⟨A, 0, c, rfl, by rw [HR.out]; exact hown, hbel⟩

theorem specCommon_any (A A' : Option Addr) (n n' c c' : Nat) (xs ys : List Int) (B B' : Nat) (w : World) (hn : n ≤ 9223372036854775807) (_hn' : n' ≤ 9223372036854775807) (hx : Ints w B A n xs) (hy : Ints w B' A' n' ys) :
    Calls Try.prog 103 #[.slice A n c, .slice A' n' c'] w fun e w' => e = .returned (.int .i64 (com xs ys)) ∧ ∃ m, w' = w.drewN m := by
  have HX := Lib.hid hx
  have HY := Lib.hid hy
  clear hx hy
  go_enter Try.func103, Try.ntmps103
  go_wp2
  go_loopw [5] (fun i wr => ∃ k q : Nat, k ≤ n ∧ k ≤ n' ∧ i = .int .i64 k ∧ (∀ j, j < k → xs[j]?.getD 0 = ys[j]?.getD 0) ∧ wr = w.drewN q) (fun i _ => n - (intOf i).toNat)
  case atStart => exact ⟨0, 0, Nat.zero_le _, Nat.zero_le _, rfl, fun j hj => absurd hj (by omega), rfl⟩
  case round =>
    obtain ⟨k, q, hk, hk', rfl, hal, rfl⟩ := hrel
    by_cases hlt : k < n
    · by_cases hlt' : k < n'
      · obtain ⟨b, off, rfl, hbB, hc⟩ := HX.out.at_ (k := k) (by omega)
        obtain ⟨b', off', rfl, hbB', hc'⟩ := HY.out.at_ (k := k) (by omega)
        by_cases hq : xs[k]?.getD 0 = ys[k]?.getD 0
        · go_wp2
          go_quiet (fail)
          go_wp2
          go_roundw
          case rel => exact ⟨k + 1, _, by omega, by omega, by go_num, fun j hj => by rcases Nat.lt_or_ge j k with h | h; exact hal j h; rw [show j = k by omega]; exact hq, rfl⟩
          case measure => simp [intOf]; omega
        · go_wp2
          go_quiet (fail)
          go_wp2
          go_ret
          exact ⟨ret_i64 (by rw [com_is xs ys k (by have := HX.out.1; omega) (by have := HY.out.1; omega) hal (.inr (.inr hq))]), _, World.drewN_drewN _ _ _⟩
      · go_wp2
        go_quiet (fail)
        go_wp2
        go_ret
        exact ⟨ret_i64 (by rw [com_is xs ys k (by have := HX.out.1; omega) (by have := HY.out.1; omega) hal (.inr (.inl (by have := HY.out.1; omega)))]), _, World.drewN_drewN _ _ _⟩
    · go_wp2
      go_quiet (fail)
      go_wp2
      go_ret
      exact ⟨ret_i64 (by rw [com_is xs ys k (by have := HX.out.1; omega) (by have := HY.out.1; omega) hal (.inl (by have := HX.out.1; omega))]), _, World.drewN_drewN _ _ _⟩

end Go.Proofs.Ytpgmiokdlloinaa

-- FindS: The model's way down a path, and its Found.
namespace Go.Proofs.Ytpgmiokdlloinaa
set_option maxRecDepth 20000
set_option linter.unusedVariables false
set_option linter.unusedSimpArgs false
open Go.RowKit

theorem l5Kid_any (v : Value) (nd : MNode) (a : Int) (B : Nat) (w : World) (hB : B ≤ w.heap.size) (hv : NodeIn w B v nd) :
    Calls Try.prog 104 #[v, .int .i64 a] w fun e w' => e = .returned (.int .i64 (kidAt nd.kids a)) ∧ Below w.heap.size w w' := by
  obtain ⟨Ap, np, cp, Ak, nk, ck, rfl, hnp, hnk, hsz, hp, hk⟩ := hv
  have hkl := hk.1
  have HK := Lib.hid (hk.more hB)
  clear hp hk
  obtain ⟨w1, hw1⟩ : ∃ w1, w.alloc (.cells #[.int .i64 nd.kind, .slice Ap np cp, .slice Ak nk ck, .string nd.val] 32) = w1 := ⟨_, rfl⟩
  have x1 : Box w1 w.heap.size _ _ := hw1 ▸ heap_alloc_new _ _
  have b1 : Below w.heap.size w w1 := hw1 ▸ (Below.refl _ _).alloc (Nat.le_refl _) _
  have B1 := Lib.hid b1
  have HK := Lib.hid (HK.out.below b1)
  have q2 := x1.cell 2
  simp at q2
  obtain ⟨R, hR⟩ : ∃ R, kidAt nd.kids a = R := ⟨_, rfl⟩
  rw [hR]
  have HR := Lib.hid hR
  clear x1 b1 hR
  go_enter Try.func104, Try.ntmps104
  go_wp2
  go_loopw [5] (fun i wr => ∃ k : Nat, k ≤ nk ∧ i = .int .i64 k ∧ (∀ j, j < k → (nd.kids[j]?.getD (0, 0)).1 ≠ a) ∧ ∃ q, wr = w1.drewN q) (fun i _ => nk - (intOf i).toNat)
  case atStart => exact ⟨0, Nat.zero_le _, rfl, fun j hj => by omega, 0, rfl⟩
  case round =>
    obtain ⟨k, hkn, rfl, hno, q, hwr⟩ := hrel
    have hK := HK.out.drewN q
    have hB1 := below_drewN B1.out q
    have hq2 : (w1.drewN q).cell? ⟨w.heap.size, 2, none⟩ = some (.slice Ak nk ck) := q2
    rw [← hwr] at hK hB1 hq2
    have BR := Lib.hid hB1
    have KR := Lib.hid hK
    have NO := Lib.hid hno
    have HWR := Lib.hid hwr
    clear hB1 hK hno hwr q2
    by_cases hlt : k < nk
    · obtain ⟨b, off, rfl, hbB, h0, h1⟩ := KR.out.at_ hlt
      obtain ⟨x, hx⟩ : ∃ x, nd.kids[k]?.getD (0, 0) = x := ⟨_, rfl⟩
      rw [hx] at h0 h1
      by_cases he : x.1 = a
      · have hr : x.2 = R := by rw [← HR.out, kidAt_at nd.kids a k (by omega) (by rw [hx]; exact he) NO.out, hx]
        have hb0 : (x.1 == a) = true := by simpa using he
        have HE := Lib.hid he
        have hr := Lib.hid hr
        clear he
        go_wp2
        go_ret
        exact ⟨rfl, BR.out⟩
      · have hb0 : (x.1 == a) = false := by simpa using he
        go_wp2
        go_roundw
        case rel =>
          refine ⟨k + 1, by omega, by go_num, fun j hj => ?_, q, HWR.out⟩
          rcases Nat.lt_or_ge j k with h | h
          · exact NO.out j h
          · rw [show j = k by omega, hx]; exact he
        case measure => simp [intOf]; omega
    · have hr : 0 = R := by rw [← HR.out, kidAt_none nd.kids a (fun j hj => NO.out j (by omega))]
      subst hr
      clear HR
      go_wp2
      go_ret
      exact ⟨rfl, BR.out⟩

theorem Ints.drops {w : World} {B n b off : Nat} {zs : List Int} (h : Ints w B (some ⟨b, off, none⟩) n zs) (k : Nat) (hk : k ≤ n) (off' : Nat) (ho : k < n → off' = off + k) : Ints w B (some ⟨b, off', none⟩) (n - k) (zs.drop k) := by
  have hl := h.1
  refine ⟨by simp; omega, fun hp => ?_⟩
  obtain ⟨b', o, e, hb, hc⟩ := h.2 (by omega)
  cases e
  have e1 := ho (by omega)
  subst e1
  refine ⟨b, off + k, rfl, hb, fun i hi => ?_⟩
  have h1 := hc (k + i) (by omega)
  rw [Nat.add_assoc, h1]
  simp [List.getElem?_drop]
/-- what is still to be shown of a way down, where it has come to r with the rest ps behind the names ways. -/
def DownTo (cs : List (Int × List Int)) (root : Int) (path : List Int) (r : Int) (ps ways : List Int) : Prop :=
  ∀ v k wy f, DownIs cs f r ps v k wy → ∃ f', DownIs cs f' root path v k (ways ++ wy)
theorem DownTo.start (cs : List (Int × List Int)) (root : Int) (path : List Int) : DownTo cs root path root path [] := fun v k wy f h => ⟨f, by simpa using h⟩
theorem DownTo.step {cs : List (Int × List Int)} {root r r' : Int} {path ps ps' ways : List Int} {nd : MNode} (h : DownTo cs root path r ps ways) (h0 : r ≠ 0) (hit : HitIs cs r nd true) (hs : stepAt nd ps = .inr (r', ps')) : DownTo cs root path r' ps' (ways ++ [r]) := by
  intro v k wy f hd
  obtain ⟨f', h'⟩ := h v k (r :: wy) (f + 1) (.inr ⟨h0, nd, true, hit, .inr ⟨rfl, wy, rfl, .inr ⟨(r', ps'), hs, hd⟩⟩⟩)
  exact ⟨f', by simpa using h'⟩
theorem DownTo.stop {cs : List (Int × List Int)} {root r : Int} {path ps ways : List Int} {nd : MNode} {v : ByteArray} {k : Int} (h : DownTo cs root path r ps ways) (h0 : r ≠ 0) (hit : HitIs cs r nd true) (hs : stepAt nd ps = .inl (v, k)) : ∃ f, DownIs cs f root path v k (ways ++ [r]) :=
  h v k [r] 1 (.inr ⟨h0, nd, true, hit, .inr ⟨rfl, [], rfl, .inl ⟨(v, k), hs, rfl, rfl, rfl⟩⟩⟩)
theorem DownTo.lost {cs : List (Int × List Int)} {root r : Int} {path ps ways : List Int} {nd : MNode} (h : DownTo cs root path r ps ways) (h0 : r ≠ 0) (hit : HitIs cs r nd false) : ∃ f, DownIs cs f root path noStr 2 ways := by
  obtain ⟨f, hf⟩ := h noStr 2 [] 1 (.inr ⟨h0, nd, false, hit, .inl ⟨rfl, rfl, rfl, rfl⟩⟩)
  exact ⟨f, by simpa using hf⟩
theorem DownTo.none {cs : List (Int × List Int)} {root : Int} {path ps ways : List Int} (h : DownTo cs root path 0 ps ways) : ∃ f, DownIs cs f root path noStr 1 ways := by
  obtain ⟨f, hf⟩ := h noStr 1 [] 1 (.inl ⟨rfl, rfl, rfl, rfl⟩)
  exact ⟨f, by simpa using hf⟩

set_option maxHeartbeats 1600000 in
theorem l5Down_any (A : Option Addr) (n c : Nat) (cs : List (Int × List Int)) (root : Int) (pb po np cp : Nat) (path : List Int) (B : Nat) (w : World) (hn : n ≤ 1048576) (hm : ∀ i, (cel cs i).2.length ≤ 1048576) (hnp : np ≤ 1048576) (hcp : np ≤ cp) (hB : B ≤ w.heap.size) (hb : Cells w B A n cs) (hp : Ints w B (some ⟨pb, po, none⟩) np path) :
    Calls Try.prog 70 #[.slice A n c, .int .i64 root, .slice (some ⟨pb, po, none⟩) np cp] w fun e w' => ∃ v k g nw cw way, e = .returned (.tuple #[.string v, .int .i64 k, .slice (some ⟨g, 0, none⟩) nw cw]) ∧ (∃ f, DownIs cs f root path v k way) ∧ OwnI w' w.heap.size (some ⟨g, 0, none⟩) nw cw way ∧ Below w.heap.size w w' := by
  have HB := Lib.hid (hb.more hB)
  have HP := Lib.hid (hp.more hB)
  have hlp := hp.1
  clear hb hp
  obtain ⟨i0, hi, hz0, hz1, hz2⟩ := info_parts Try.infoI
  have HI := Lib.hid hi
  have HZ0 := Lib.hid hz0
  have HZ1 := Lib.hid hz1
  have HZ2 := Lib.hid hz2
  clear hi hz0 hz1 hz2
  go_enter Try.func70, Try.ntmps70
  go_wp2
  go_loopw [1, 2, 9] (fun r p y wr => ∃ (ri : Int) (qb qo nq cq gw nw cw : Nat) (ps ways : List Int), r = .int .i64 ri ∧ p = .slice (some ⟨qb, qo, none⟩) nq cq ∧ y = .slice (some ⟨gw, 0, none⟩) nw cw ∧ nq ≤ cq ∧ nw + nq ≤ np ∧
    Ints wr w.heap.size (some ⟨qb, qo, none⟩) nq ps ∧ OwnI wr w.heap.size (some ⟨gw, 0, none⟩) nw cw ways ∧ DownTo cs root path ri ps ways ∧ Below w.heap.size w wr) (fun _ p _ _ => lenOf p)
  case atStart => exact ⟨root, pb, po, np, cp, w.heap.size, 0, 0, path, [], rfl, rfl, rfl, hcp, by omega, HP.out.alloc (Nat.le_refl _) _, OwnI.empty w _ (Nat.le_refl _), DownTo.start cs root path, (Below.refl _ _).alloc (Nat.le_refl _) _⟩
  case round =>
    obtain ⟨ri, qb, qo, nq, cq, gw, nw, cw, ps, ways, rfl, rfl, rfl, hcq, hbd, hps, hwy, hto, hbel⟩ := hrel
    have hs0 : w.heap.size ≤ wr.heap.size := hbel.size
    have hlq := hps.1
    have PR := Lib.hid hps
    have WR := Lib.hid hwy
    have TO := Lib.hid hto
    have BR := Lib.hid hbel
    have hgwr : gw < wr.heap.size := (World.ownsRow.lt hwy gw (by simp [Value.ownBlock])).2
    clear hps hwy hto hbel
    by_cases h0 : ri = 0
    · have hb0 : (ri == 0) = true := by simp [h0]
      obtain rfl := h0
      go_wp2
      go_ret3
      exact ⟨_, _, _, _, _, ways, rfl, TO.out.none, WR.out, BR.out⟩
    · have hb0 : (ri == 0) = false := by simpa using h0
      have H0 := Lib.hid h0
      clear h0
      go_wp2_with fail
      refine (l4Node_any A n c cs ri w.heap.size wr hn hm hs0 (HB.out.below BR.out)).mono ?_
      rintro e w1 ⟨v, nd, is, rfl, own, hit, b1⟩
      have B1 := Lib.hid (BR.out.trans (b1.mono hs0))
      have P1 := Lib.hid (PR.out.below (b1.mono hs0))
      have W1 := Lib.hid (WR.out.below b1)
      have hs1 : wr.heap.size ≤ w1.heap.size := b1.size
      have HIT := Lib.hid hit
      have OWN := Lib.hid own
      obtain ⟨Ap, mp, dp, Ak, mk, dk, rfl, hmp, hmk, hsz, hpp, hkk, _⟩ := own
      have hpl := hpp.len
      have hkl := hkk.len
      have PP := Lib.hid hpp
      have KK := Lib.hid hkk
      have hppl := Lib.hid hpp
      have hkkl := Lib.hid hkk
      clear b1 hit hpp hkk PR WR BR
      obtain ⟨w5, hw5⟩ : ∃ w5, w1.alloc (.cells #[.int .i64 0, .slice none 0 0, .slice none 0 0, .string { data := #[] }] 32) = w5 := ⟨_, rfl⟩
      have x5 : Box w5 w1.heap.size _ _ := hw5 ▸ heap_alloc_new _ _
      have b5 : Below w1.heap.size w1 w5 := hw5 ▸ (Below.refl _ _).alloc (Nat.le_refl _) _
      have X5 := Lib.hid x5
      obtain ⟨w6, hw6⟩ : ∃ w6, (((w5.setCell ⟨w1.heap.size, 0, none⟩ (.int .i64 nd.kind)).setCell ⟨w1.heap.size, 1, none⟩ (.slice Ap mp dp)).setCell ⟨w1.heap.size, 2, none⟩ (.slice Ak mk dk)).setCell ⟨w1.heap.size, 3, none⟩ (.string nd.val) = w6 := ⟨_, rfl⟩
      have h4' := set4 x5 (.int .i64 nd.kind) (.slice Ap mp dp) (.slice Ak mk dk) (.string nd.val)
      have t6 : Touch (fun b => b = w1.heap.size) w5 w6 := hw6 ▸ h4'.2
      have x6 : Box w6 w1.heap.size 32 #[.int .i64 nd.kind, .slice Ap mp dp, .slice Ak mk dk, .string nd.val] := hw6 ▸ h4'.1
      have b6 : Below w1.heap.size w1 w6 := b5.trans (t6.below b5.size (fun b hb e => by omega))
      have X6 := Lib.hid x6
      have P6 := Lib.hid (P1.out.below (b6.mono (by omega)))
      have W6 := Lib.hid (W1.out.below b6)
      have PP := Lib.hid (PP.out.below b6)
      have KK := Lib.hid (KK.out.below b6)
      have OWN := Lib.hid (OWN.out.below b6)
      have B6 := Lib.hid (B1.out.trans (b6.mono (by omega)))
      have hs6 : w1.heap.size < w6.heap.size := x6.lt
      have q20 := X5.out.cell 0
      have q21 := X5.out.cell 1
      have q22 := X5.out.cell 2
      have q23 := X5.out.cell 3
      have f2 := X5.out.free
      simp at q20 q21 q22 q23
      clear x5 b5 h4' t6 x6 b6 P1 W1 B1
      cases is with
      | false =>
        go_wp2
        go_ret3
        exact ⟨_, _, _, _, _, ways, rfl, TO.out.lost H0.out HIT.out, W6.out, B6.out⟩
      | true =>
        have h1m : w.heap.size ≤ w6.heap.size := B6.out.size
        go_wp2_with (at_builtin; refine wpList_append_lies _ rfl _ _ 29 rfl w.heap.size 2 i0 (.int .i64 0) 1 8 Try.underlying29 HI.out HZ0.out HZ1.out HZ2.out rfl (by decide) _ _ _ rfl (own_touch (S := fun _ => False) W6.out (Touch.of_below ((Below.refl _ _).alloc (Nat.le_refl _) _)) (fun _ _ h => h)) ⟨w6.heap.size, 0, none⟩ 1 1 [.int .i64 ri] rfl ?Q0 ?Q1 ?Q2 (by omega) ?Q3 ?Q4 ?Q5 _ rfl ?_)
        case Q0 => rfl
        case Q1 =>
          intro j u hj
          match j, hj with
          | 0, hj => simp at hj; subst hj; simp [Addr.add]
        case Q2 => intro u hu; simp at hu; subst hu; rfl
        case Q3 => unfold maxLen; omega
        case Q4 => omega
        case Q5 => first | omega | (simp; omega)
        intro g7 c7 w7 hown7 hgrow7 _ _
        have hgw := World.ownsRow.lt W6.out gw (by simp [Value.ownBlock])
        have hgw1 : gw < wr.heap.size := hgwr
        have t7 : Touch (fun b => b = gw) w6 w7 := (Touch.of_below ((Below.refl w6.heap.size w6).alloc (Nat.le_refl _) _)).trans ((Touch.of_grown hgrow7).mono (fun b e => by simp [Value.ownBlock] at e; omega))
        have o7 : OwnI w7 w.heap.size (some ⟨g7, 0, none⟩) (nw + 1) c7 (ways ++ [ri]) := by
          unfold OwnI
          rw [List.map_append]
          exact hown7
        have x7 : Box w7 w1.heap.size 32 #[.int .i64 nd.kind, .slice Ap mp dp, .slice Ak mk dk, .string nd.val] := (t7.block _ X6.out.lt (fun e => by omega)).trans X6.out
        have bw7 := t7.below h1m (fun k hk e => by omega)
        have PP7 := PP.out.touch t7 (fun g hg e => by have := (World.ownsRow.lt hppl.out g hg).1; omega)
        have KK7 := KK.out.touch t7 (fun g hg e => by have := (World.ownsRow.lt hkkl.out g hg).1; omega)
        have hs7 : w6.heap.size ≤ w7.heap.size := t7.size
        have W7 := Lib.hid o7
        have X7 := Lib.hid x7
        have P7 := Lib.hid (P6.out.below bw7)
        have PP7 := Lib.hid PP7
        have KK7 := Lib.hid KK7
        have B7 := Lib.hid (B6.out.trans bw7)
        have q1 := x7.cell 1
        simp at q1
        clear t7 o7 x7 bw7 hown7 hgrow7 q20 q21 q22 q23 f2 W6 X6 X5 P6 PP KK B6
        go_wp2_with fail
        refine (specCommon_any _ _ _ _ _ _ nd.path ps _ _ w7 (by omega) (by omega) PP7.out.ints P7.out).mono ?_
        rintro e w' ⟨rfl, q, rfl⟩
        have W8 := Lib.hid (W7.out.drewN q)
        have X8 := Lib.hid (X7.out.below (below_drewN (Below.refl _ _) q) X7.out.lt)
        have P8 := Lib.hid (P7.out.drewN q)
        have PP8 := Lib.hid (PP7.out.drewN q)
        have KK8 := Lib.hid (KK7.out.drewN q)
        have B8 := Lib.hid (below_drewN B7.out q)
        have hs8 : w6.heap.size ≤ (w7.drewN q).heap.size := hs7
        generalize w7.drewN q = w8 at W8 X8 P8 PP8 KK8 B8 hs8 ⊢
        obtain ⟨hle1, hle2⟩ := com_le nd.path ps
        have hle2' : com nd.path ps ≤ nq := by omega
        obtain ⟨cm, hcm⟩ : ∃ cm, com nd.path ps = cm := ⟨_, rfl⟩
        rw [hcm] at hle1 hle2 hle2' ⊢
        have CM := Lib.hid hcm
        clear hcm q1 W7 X7 P7 PP7 KK7 B7
        have q0 := X8.out.cell 0
        have q1 := X8.out.cell 1
        have q2 := X8.out.cell 2
        have q3 := X8.out.cell 3
        simp at q0 q1 q2 q3
        by_cases hA : cm < mp
        · have hd1 : decide ((cm : Int) < (mp : Int)) = true := decide_eq_true (by omega)
          have hst : stepAt nd ps = .inl (noStr, 1) := by unfold stepAt; rw [CM.out, if_pos (.inl (by omega))]
          have HST := Lib.hid hst
          clear hst
          go_wp2
          go_ret3
          exact ⟨_, _, _, _, _, ways ++ [ri], rfl, TO.out.stop H0.out HIT.out HST.out, W8.out, B8.out⟩
        · have hd1 : decide ((cm : Int) < (mp : Int)) = false := decide_eq_false (by omega)
          by_cases hB1 : nd.kind = 1 ∧ cm < nq
          · have hk1 : (nd.kind == 1) = true := by simp [hB1.1]
            have hd2 : decide ((cm : Int) < (nq : Int)) = true := decide_eq_true (by omega)
            have hst : stepAt nd ps = .inl (noStr, 1) := by unfold stepAt; rw [CM.out, if_pos (.inr ⟨hB1.1, by omega⟩)]
            have HST := Lib.hid hst
            have hB12 := hB1.2
            clear hst hB1
            go_wp2
            go_ret3
            exact ⟨_, _, _, _, _, ways ++ [ri], rfl, TO.out.stop H0.out HIT.out HST.out, W8.out, B8.out⟩
          · have hgo : ¬ (com nd.path ps < nd.path.length ∨ (nd.kind = 1 ∧ com nd.path ps < ps.length)) := by
              rw [CM.out]
              rintro (h | ⟨h, h2⟩)
              · omega
              · exact hB1 ⟨h, by omega⟩
            have HGO := Lib.hid hgo
            obtain ⟨qo', hof, hofk⟩ : ∃ qo', (if cq = cm then (some ⟨qb, qo, none⟩ : Option Addr) else some ⟨qb, qo + cm, none⟩) = some ⟨qb, qo', none⟩ ∧ (cm < nq → qo' = qo + cm) := by
              by_cases h : cq = cm
              · exact ⟨qo, if_pos h, fun h2 => by omega⟩
              · exact ⟨qo + cm, if_neg h, fun _ => rfl⟩
            have P9 := Lib.hid (Ints.drops P8.out cm hle2' qo' hofk)
            have hld : (ps.drop cm).length = nq - cm := by rw [List.length_drop]; omega
            have hok := hit_ok HIT.out
            have hkok := (nodeOk_parts nd hok).2.2.2
            clear hgo
            by_cases hk1 : nd.kind = 1
            · have hb1 : (nd.kind == 1) = true := by simp [hk1]
              have hst : stepAt nd ps = .inl (nd.val, 0) := by unfold stepAt; rw [if_neg HGO.out, if_pos hk1]
              have hnl : ¬ cm < nq := fun h => hB1 ⟨hk1, h⟩
              have HST := Lib.hid hst
              clear hst hB1 hk1 hkok
              go_wp2
              go_ret3
              exact ⟨_, _, _, _, _, ways ++ [ri], rfl, TO.out.stop H0.out HIT.out HST.out, W8.out, B8.out⟩
            · have hb1 : (nd.kind == 1) = false := by simp [hk1]
              have HK1 := Lib.hid hk1
              clear hB1
              by_cases hk2 : nd.kind = 2
              · have hb2 : (nd.kind == 2) = true := by simp [hk2]
                have hst : stepAt nd ps = .inr ((nd.kids[0]?.getD (0, 0)).2, ps.drop cm) := by unfold stepAt; rw [if_neg HGO.out, if_neg HK1.out, if_pos hk2, CM.out]
                have hpos : 0 < nd.path.length ∧ nd.kids.length = 1 := by
                  unfold kindOk at hkok
                  rw [if_neg HK1.out, if_pos hk2] at hkok
                  simp only [Bool.and_eq_true, decide_eq_true_eq] at hkok
                  exact ⟨hkok.1.1.1, hkok.1.2⟩
                have hmk1 : mk = 1 := by omega
                subst hmk1
                obtain ⟨gk, rfl, _, _⟩ := KK8.out.form (by omega)
                have hk1' := KK8.out.cell1 (k := 0) (by omega)
                simp only [Nat.zero_mul, Nat.zero_add] at hk1'
                have HST := Lib.hid hst
                clear hst hkok hk2 hk1
                generalize (nd.kids[0]?.getD (0, 0)).2 = z at hk1' HST
                go_wp2
                go_roundw
                case rel => exact ⟨z, qb, qo', nq - cm, cq - cm, g7, nw + 1, c7, ps.drop cm, ways ++ [ri], rfl, rfl, rfl, by omega, by omega, P9.out, W8.out, TO.out.step H0.out HIT.out HST.out, B8.out⟩
                case measure => simp [lenOf]; omega
              · have hb2 : (nd.kind == 2) = false := by simp [hk2]
                have HK2 := Lib.hid hk2
                clear hk1 hk2
                by_cases hz : cm < nq
                · have eq' := hofk hz
                  subst eq'
                  clear hofk
                  have hat : (ps.drop cm) = (ps.drop cm)[0]?.getD 0 :: ps.drop (cm + 1) := by
                    have e := List.drop_eq_getElem_cons (show cm < ps.length by omega)
                    rw [List.getElem?_drop, Nat.add_zero, List.getElem?_eq_getElem (by omega)]
                    exact e
                  obtain ⟨b', o', e', hbB, p0⟩ := P9.out.at_ (k := 0) (by omega)
                  cases e'
                  rw [Nat.add_zero] at p0
                  obtain ⟨a, ha⟩ : ∃ a, (ps.drop cm)[0]?.getD 0 = a := ⟨_, rfl⟩
                  rw [ha] at p0 hat
                  have hst : stepAt nd ps = .inr (kidAt nd.kids a, ps.drop (cm + 1)) := by unfold stepAt; rw [if_neg HGO.out, if_neg HK1.out, if_neg HK2.out, CM.out, hat]
                  have HST := Lib.hid hst
                  have hdz : decide (((nq - cm : Nat) : Int) = 0) = false := decide_eq_false (by omega)
                  have hzz : ¬ nq - cm = 0 := by omega
                  have hpz : 0 < nq - cm := by omega
                  have HAT := Lib.hid hat
                  obtain ⟨qo2, hof2, hofk2⟩ : ∃ qo2, (if cq - cm = 1 then (some ⟨qb, qo + cm, none⟩ : Option Addr) else some ⟨qb, qo + cm + 1, none⟩) = some ⟨qb, qo2, none⟩ ∧ (1 < nq - cm → qo2 = qo + cm + 1) := by
                    by_cases h : cq - cm = 1
                    · exact ⟨qo + cm, if_pos h, fun h2 => by omega⟩
                    · exact ⟨qo + cm + 1, if_neg h, fun _ => rfl⟩
                  have P10 := Lib.hid (Ints.drops P9.out 1 (by omega) qo2 hofk2)
                  clear hst hat
                  go_wp2
                  go_still_tail 4, (by kernel_rfl)
                  change wpList _ _ _ _ _ w8.drew
                  have W8 := Lib.hid (W8.out.drewN 1)
                  have P10 := Lib.hid (P10.out.drewN 1)
                  have PP8 := Lib.hid (PP8.out.drewN 1)
                  have KK8 := Lib.hid (KK8.out.drewN 1)
                  have B8 := Lib.hid (below_drewN B8.out 1)
                  have e8 : w8.drewN 1 = w8.drew := rfl
                  rw [e8] at W8 P10 PP8 KK8 B8
                  generalize w8.drew = w9 at W8 P10 PP8 KK8 B8
                  clear p0 q0 q1 q2 q3 e8 X8 P8 P9
                  go_wp2_with fail
                  refine (l5Kid_any _ nd a w9.heap.size w9 (Nat.le_refl _) ⟨Ap, mp, dp, Ak, mk, dk, rfl, hmp, hmk, hsz, PP8.out.ints, KK8.out.kids⟩).mono ?_
                  rintro e wA ⟨rfl, bA⟩
                  have WA := Lib.hid (W8.out.below bA)
                  have PA := Lib.hid (P10.out.below (bA.mono B8.out.size))
                  have BA := Lib.hid (B8.out.trans (bA.mono B8.out.size))
                  clear bA W8 P10 B8
                  go_wp2
                  go_roundw
                  case rel => exact ⟨kidAt nd.kids a, qb, qo2, nq - cm - 1, cq - cm - 1, g7, nw + 1, c7, ps.drop (cm + 1), ways ++ [ri], rfl, rfl, rfl, by omega, by omega, by have h := PA.out; rw [List.drop_drop] at h; exact h, WA.out, TO.out.step H0.out HIT.out HST.out, BA.out⟩
                  case measure => simp [lenOf]; omega
                · have hnz : nq - cm = 0 := by omega
                  have hdn : ps.drop cm = [] := List.drop_eq_nil_of_le (by omega)
                  by_cases hE : nd.val.toList = []
                  · have hve := empty_str nd.val hE
                    have hst : stepAt nd ps = .inl (noStr, 1) := by
                      unfold stepAt; rw [if_neg HGO.out, if_neg HK1.out, if_neg HK2.out, CM.out, hdn]
                      simp [hasVal, hE]
                    have HST := Lib.hid hst
                    have HVE := Lib.hid hve
                    clear hst hdn
                    go_wp2
                    go_ret3
                    exact ⟨_, _, _, _, _, ways ++ [ri], rfl, TO.out.stop H0.out HIT.out HST.out, W8.out, B8.out⟩
                  · have hst : stepAt nd ps = .inl (nd.val, 0) := by
                      unfold stepAt; rw [if_neg HGO.out, if_neg HK1.out, if_neg HK2.out, CM.out, hdn]
                      simp [hasVal, hE]
                    have HST := Lib.hid hst
                    have hE2 : nd.val.toList.isEmpty = false := by simpa using hE
                    clear hst hdn hE
                    go_wp2
                    go_ret3
                    exact ⟨_, _, _, _, _, ways ++ [ri], rfl, TO.out.stop H0.out HIT.out HST.out, W8.out, B8.out⟩
end Go.Proofs.Ytpgmiokdlloinaa

-- FindO: The model's Found.
namespace Go.Proofs.Ytpgmiokdlloinaa
set_option maxRecDepth 20000
set_option linter.unusedVariables false
set_option linter.unusedSimpArgs false
open Go.RowKit

theorem l5Ok_any (A : Option Addr) (n c : Nat) (cs : List (Int × List Int)) (root : Int) (key : ByteArray) (B : Nat) (w : World) (hn : n ≤ 1048576) (hm : ∀ i, (cel cs i).2.length ≤ 1048576) (hk : key.size ≤ 1048576) (hB : B ≤ w.heap.size) (hb : Cells w B A n cs) :
    Calls Try.prog 69 #[.slice A n c, .int .i64 root, .string key] w fun e w' => ∃ b, e = .returned (.bool b) ∧ (b = true ↔ Right cs ∧ isKey (sb key) = true ∧ 0 ≤ root) ∧ Below w.heap.size w w' := by
  have HB := Lib.hid (hb.more hB)
  clear hb
  go_enter Try.func69, Try.ntmps69
  go_wp2_with fail
  refine (specCellsOk_any A n c cs w.heap.size w hn hm (Nat.le_refl _) HB.out).mono ?_
  rintro e w1 ⟨r, rfl, hr, b1⟩
  have HR := Lib.hid hr
  have B1 := Lib.hid b1
  clear hr b1
  cases r with
  | false =>
    go_wp2
    go_ret
    exact ⟨false, rfl, iff_of_false (by simp) (fun h => absurd (HR.out.2 h.1) (by simp)), B1.out⟩
  | true =>
    go_wp2_with fail
    refine (specKeyOk_any key w1 hk).mono ?_
    rintro e w' ⟨rfl, rfl⟩
    obtain ⟨ik, hik⟩ : ∃ ik, isKey (sb key) = ik := ⟨_, rfl⟩
    rw [hik]
    have IK := Lib.hid hik
    clear hik
    cases ik with
    | false =>
      go_wp2
      go_ret
      exact ⟨false, rfl, iff_of_false (by simp) (fun h => by have := h.2.1; rw [IK.out] at this; cases this), B1.out⟩
    | true =>
      go_wp2
      go_ret
      refine ⟨decide (0 ≤ root), rfl, ⟨fun h => ⟨HR.out.1 (by trivial), IK.out, of_decide_eq_true h⟩, fun h => decide_eq_true h.2.2⟩, B1.out⟩

theorem OwnI.cap_' {w : World} {base n c : Nat} {A : Option Addr} {xs : List Int} (h : OwnI w base A n c xs) : n ≤ c := by
  rcases h.2 with ⟨e, hx⟩ | ⟨g', cap, cur, e, _, _, hn, _⟩
  · have e2 : n = 0 := by simpa using hx
    omega
  · cases e; exact hn
theorem specFound_any (A : Option Addr) (n c : Nat) (cs : List (Int × List Int)) (root : Int) (key : ByteArray) (B : Nat) (w : World) (hn : n ≤ 1048576) (hm : ∀ i, (cel cs i).2.length ≤ 1048576) (hk : key.size ≤ 1048576) (hB : B ≤ w.heap.size) (hb : Cells w B A n cs) :
    Calls Try.prog 34 #[.slice A n c, .int .i64 root, .string key] w fun e w' => ∃ v k, e = .returned (.tuple #[.string v, .int .i64 k]) ∧ FoundIs cs root key v k ∧ Below w.heap.size w w' := by
  have HB := Lib.hid (hb.more hB)
  clear hb
  go_enter Try.func34, Try.ntmps34
  go_wp2_with fail
  refine (l5Ok_any A n c cs root key w.heap.size w hn hm hk (Nat.le_refl _) HB.out).mono ?_
  rintro e w1 ⟨r, rfl, hr, b1⟩
  have HR := Lib.hid hr
  have B1 := Lib.hid b1
  have hs1 : w.heap.size ≤ w1.heap.size := b1.size
  clear hr b1
  cases r with
  | false =>
    have hno := Lib.hid (fun h => absurd (HR.out.2 h) (by simp) : ¬ (Right cs ∧ isKey (sb key) = true ∧ 0 ≤ root))
    go_wp2
    go_ret2
    exact ⟨noStr, 3, rfl, .inl ⟨hno.out, rfl, rfl⟩, B1.out⟩
  | true =>
    have OK := Lib.hid (HR.out.1 (by trivial))
    go_wp2_with fail
    refine (specPathOf_any key w1 hk).mono ?_
    rintro e w2 ⟨A2, n2, c2, rfl, o2, b2⟩
    have hl2 := o2.len
    have hpos : 0 < n2 := by
      have h1 := OK.out.2.1
      have h2 : pathOf (sb key) = (sb key).map wd := if_pos h1
      rw [h2] at hl2
      unfold isKey at h1
      simp at h1 hl2
      omega
    have hcap := o2.cap_'
    obtain ⟨g2, rfl, _, hg2⟩ := o2.form hpos
    have hle : n2 ≤ 1048576 := by
      have h1 := OK.out.2.1
      have h2 : pathOf (sb key) = (sb key).map wd := if_pos h1
      have h3 := sb_len key
      rw [h2] at hl2
      simp at hl2
      omega
    have O2 := Lib.hid o2
    have B2 := Lib.hid (B1.out.trans (b2.mono hs1))
    have hs2 : w1.heap.size ≤ w2.heap.size := b2.size
    clear o2 b2
    go_wp2_with fail
    refine (l5Down_any A n c cs root g2 0 n2 c2 (pathOf (sb key)) w2.heap.size w2 hn hm hle hcap (Nat.le_refl _) ((HB.out.below B2.out).more B2.out.size) O2.out.ints).mono ?_
    rintro e w3 ⟨v, k, g, nw, cw, way, rfl, hd, _, b3⟩
    have HD := Lib.hid hd
    have B3 := Lib.hid (B2.out.trans (b3.mono B2.out.size))
    clear hd b3
    go_wp2
    go_ret2
    exact ⟨v, k, rfl, .inr ⟨OK.out, by obtain ⟨f, hf⟩ := HD.out; exact ⟨f, way, hf⟩⟩, B3.out⟩
end Go.Proofs.Ytpgmiokdlloinaa

-- Below: The program's ways down from a leaf, a stem, a fork: for all of them and all rests of a path.
namespace Go.Proofs.Ytpgmiokdlloinaa
set_option maxRecDepth 20000
set_option linter.unusedVariables false
set_option linter.unusedSimpArgs false
open Go.RowKit

theorem leafBelow_any (Ap : Option Addr) (np cp : Nat) (val : ByteArray) (A : Option Addr) (n c : Nat) (w : World) :
    Calls Try.prog 166 #[.agg #[.slice Ap np cp, .string val], .slice A n c] w fun e w' => e = .returned (.tuple #[.int .i64 0, .slice none 0 0, .bool false]) ∧ Below w.heap.size w w' := by
  go_enter Try.func166, Try.ntmps166
  go_wp2
  go_ret3
  exact ⟨rfl, (Below.refl _ _).alloc (Nat.le_refl _) _⟩

theorem stemBelow_any (Ap : Option Addr) (np cp : Nat) (kid : Int) (path : List Int) (qb qo n c : Nat) (ps : List Int) (B B2 : Nat) (w : World) (hB : B ≤ w.heap.size) (hB2 : B2 ≤ w.heap.size) (hnp : np ≤ 1048576) (hn : n ≤ 1048576) (hc : n ≤ c) (hp : Ints w B Ap np path) (hq : Ints w B2 (some ⟨qb, qo, none⟩) n ps) :
    Calls Try.prog 167 #[.agg #[.slice Ap np cp, .int .i64 kid], .slice (some ⟨qb, qo, none⟩) n c] w fun e w' => ∃ r A' n' c' b, e = .returned (.tuple #[.int .i64 r, .slice A' n' c', .bool b]) ∧
      ((b = false ∧ com path ps < np) ∨ (b = true ∧ com path ps = np ∧ np ≤ n ∧ r = kid ∧ n' = n - np ∧ n' ≤ c' ∧ ∃ qo', A' = some ⟨qb, qo', none⟩ ∧ Ints w' B2 A' n' (ps.drop np))) ∧ Below w.heap.size w w' := by
  have HP := Lib.hid (hp.more hB)
  have HQ := Lib.hid (hq.more hB2)
  have HQ0 := Lib.hid hq
  have hlp := hp.1
  have hlq := hq.1
  clear hp hq
  obtain ⟨w1, hw1⟩ : ∃ w1, w.alloc (.cells #[.slice Ap np cp, .int .i64 kid] 162) = w1 := ⟨_, rfl⟩
  have b1 : Below w.heap.size w w1 := hw1 ▸ (Below.refl _ _).alloc (Nat.le_refl _) _
  have x1 : Box w1 w.heap.size 162 #[.slice Ap np cp, .int .i64 kid] := hw1 ▸ heap_alloc_new _ _
  have X1 := Lib.hid x1
  have B1 := Lib.hid b1
  have q0 := x1.cell 0
  have q1 := x1.cell 1
  simp at q0 q1
  clear x1 b1
  go_enter Try.func167, Try.ntmps167
  go_wp2_with fail
  refine (common_any Ap (some ⟨qb, qo, none⟩) np n cp c path ps w.heap.size w.heap.size w1 (by omega) (by omega) (HP.out.below B1.out) (HQ.out.below B1.out)).mono ?_
  rintro e w' ⟨rfl, q, rfl⟩
  obtain ⟨hle1, hle2⟩ := com_le path ps
  obtain ⟨cm, hcm⟩ : ∃ cm, com path ps = cm := ⟨_, rfl⟩
  rw [hcm] at hle1 hle2 ⊢
  by_cases hA : cm < np
  · have hd1 : decide ((cm : Int) < (np : Int)) = true := decide_eq_true (by omega)
    go_wp2
    go_ret3
    exact ⟨_, _, _, _, _, rfl, .inl ⟨rfl, by omega⟩, below_drewN B1.out q⟩
  · have hd1 : decide ((cm : Int) < (np : Int)) = false := decide_eq_false (by omega)
    have hnn : np ≤ n := by omega
    obtain ⟨qo', hof, hofk⟩ : ∃ qo', (if c = np then (some ⟨qb, qo, none⟩ : Option Addr) else some ⟨qb, qo + np, none⟩) = some ⟨qb, qo', none⟩ ∧ (np < n → qo' = qo + np) := by
      by_cases h : c = np
      · exact ⟨qo, if_pos h, fun h2 => by omega⟩
      · exact ⟨qo + np, if_neg h, fun _ => rfl⟩
    go_wp2
    go_quiet (fail)
    go_wp2
    go_ret3
    exact ⟨_, _, _, _, _, rfl, .inr ⟨rfl, by omega, hnn, rfl, rfl, by omega, qo', rfl, Ints.drops (HQ0.out.below ((below_drewN (below_drewN B1.out q) _).mono hB2)) np hnn qo' hofk⟩, below_drewN (below_drewN B1.out q) _⟩

theorem forkBelow_any (Ak : Option Addr) (nk ck : Nat) (val : ByteArray) (kids : List (Int × Int)) (qb qo n c : Nat) (ps : List Int) (B B2 : Nat) (w : World) (hB : B ≤ w.heap.size) (hB2 : B2 ≤ w.heap.size) (hnk : nk ≤ 1048576) (hn : n ≤ 1048576) (hc : n ≤ c) (hk : Kids w B Ak nk kids) (hq : Ints w B2 (some ⟨qb, qo, none⟩) n ps) :
    Calls Try.prog 169 #[.agg #[.slice Ak nk ck, .string val], .slice (some ⟨qb, qo, none⟩) n c] w fun e w' => ∃ r A' n' c' b, e = .returned (.tuple #[.int .i64 r, .slice A' n' c', .bool b]) ∧
      ((b = false ∧ (ps = [] ∨ ∀ j, j < nk → (kids[j]?.getD (0, 0)).1 ≠ ps[0]?.getD 0)) ∨ (b = true ∧ 0 < n ∧ (∃ k, k < nk ∧ r = (kids[k]?.getD (0, 0)).2 ∧ kidAt kids (ps[0]?.getD 0) = r) ∧ n' = n - 1 ∧ n' ≤ c' ∧ ∃ qo', A' = some ⟨qb, qo', none⟩ ∧ Ints w' B2 A' n' (ps.drop 1))) ∧ Below w.heap.size w w' := by
  have HK := Lib.hid (hk.more hB)
  have HQ := Lib.hid (hq.more hB2)
  have HQ0 := Lib.hid hq
  have hlk := hk.1
  have hlq := hq.1
  clear hk hq
  obtain ⟨w1, hw1⟩ : ∃ w1, w.alloc (.cells #[.slice Ak nk ck, .string val] 164) = w1 := ⟨_, rfl⟩
  have b1 : Below w.heap.size w w1 := hw1 ▸ (Below.refl _ _).alloc (Nat.le_refl _) _
  have x1 : Box w1 w.heap.size 164 #[.slice Ak nk ck, .string val] := hw1 ▸ heap_alloc_new _ _
  have X1 := Lib.hid x1
  have B1 := Lib.hid b1
  have q0 := x1.cell 0
  simp at q0
  clear x1 b1
  go_enter Try.func169, Try.ntmps169
  by_cases hz : n = 0
  · have hps : ps = [] := List.eq_nil_of_length_eq_zero (by omega)
    have hd : decide ((n : Int) = 0) = true := decide_eq_true (by omega)
    subst hz
    go_wp2
    go_ret3
    exact ⟨_, _, _, _, _, rfl, .inl ⟨rfl, .inl hps⟩, B1.out⟩
  · have hd : decide ((n : Int) = 0) = false := decide_eq_false (by omega)
    have hpos : 0 < n := by omega
    obtain ⟨a, ha⟩ : ∃ a, ps[0]?.getD 0 = a := ⟨_, rfl⟩
    obtain ⟨qo', hof, hofk⟩ : ∃ qo', (if c = 1 then (some ⟨qb, qo, none⟩ : Option Addr) else some ⟨qb, qo + 1, none⟩) = some ⟨qb, qo', none⟩ ∧ (1 < n → qo' = qo + 1) := by
      by_cases h : c = 1
      · exact ⟨qo, if_pos h, fun h2 => by omega⟩
      · exact ⟨qo + 1, if_neg h, fun _ => rfl⟩
    rw [ha]
    go_wp2
    go_loopw [15] (fun i wr => ∃ k : Nat, k ≤ nk ∧ i = .int .i64 k ∧ (∀ j, j < k → (kids[j]?.getD (0, 0)).1 ≠ a) ∧ Below w.heap.size w wr) (fun i _ => nk - (intOf i).toNat)
    case atStart => exact ⟨0, Nat.zero_le _, rfl, fun j hj => absurd hj (by omega), B1.out⟩
    case round =>
      obtain ⟨k, hkn, rfl, hno, hbel⟩ := hrel
      have BR := Lib.hid hbel
      have hs0 := hbel.size
      have NO := Lib.hid hno
      clear hbel hno q0
      by_cases hlt : k < nk
      · obtain ⟨b, off, rfl, hbB, h0, h1⟩ := (HK.out.below BR.out).at_ hlt
        obtain ⟨b', o', e', _, p0⟩ := (HQ.out.below BR.out).at_ (k := 0) hpos
        cases e'
        rw [Nat.add_zero, ha] at p0
        obtain ⟨x, hx⟩ : ∃ x, kids[k]?.getD (0, 0) = x := ⟨_, rfl⟩
        rw [hx] at h0 h1
        have HX := Lib.hid hx
        obtain ⟨w2, hw2⟩ : ∃ w2, wr.alloc (.cells #[.int .i64 x.1, .int .i64 x.2] 115) = w2 := ⟨_, rfl⟩
        have x2 : Box w2 wr.heap.size 115 #[.int .i64 x.1, .int .i64 x.2] := hw2 ▸ heap_alloc_new _ _
        have b2 : Below wr.heap.size wr w2 := hw2 ▸ (Below.refl _ _).alloc (Nat.le_refl _) _
        have B2 := Lib.hid (BR.out.trans (b2.mono hs0))
        have y0 := x2.cell 0
        have y1 := x2.cell 1
        simp at y0 y1
        have p2 := (b2.cell (p := ⟨qb, qo, none⟩) (by simp; omega)).trans p0
        clear x2 b2 hx
        by_cases he : x.1 = a
        · have hb0 : (x.1 == a) = true := by simpa using he
          have hr : kidAt kids a = x.2 := by rw [kidAt_at kids a k (by omega) (by rw [HX.out]; exact he) NO.out, HX.out]
          have HR := Lib.hid hr
          clear hr he
          go_wp2
          go_quiet (fail)
          go_wp2
          go_quiet (fail)
          go_wp2
          go_ret3
          exact ⟨_, _, _, _, _, rfl, .inr ⟨rfl, hpos, ⟨k, hlt, by rw [HX.out], HR.out⟩, rfl, by omega, qo', rfl, Ints.drops (HQ0.out.below ((below_drewN (below_drewN B2.out _) _).mono hB2)) 1 (by omega) qo' hofk⟩, below_drewN (below_drewN B2.out _) _⟩
        · have hb0 : (x.1 == a) = false := by simpa using he
          go_wp2
          go_quiet (fail)
          go_wp2
          go_roundw
          case rel =>
            refine ⟨k + 1, by omega, by go_num, fun j hj => ?_, below_drewN B2.out _⟩
            rcases Nat.lt_or_ge j k with h | h
            · exact NO.out j h
            · rw [show j = k by omega, HX.out]; exact he
          case measure => simp [intOf]; omega
      · go_wp2
        go_ret3
        exact ⟨_, _, _, _, _, rfl, .inl ⟨rfl, .inr (fun j hj => NO.out j (by omega))⟩, BR.out⟩
end Go.Proofs.Ytpgmiokdlloinaa

-- Shape: What the program takes a node for, and the value with which a way ends at it.
namespace Go.Proofs.Ytpgmiokdlloinaa
set_option maxRecDepth 20000
set_option linter.unusedVariables false
set_option linter.unusedSimpArgs false
open Go.RowKit

theorem shapeLeaf_any (nd : MNode) (Ap Ak : Option Addr) (np cp nk ck : Nat) (w : World) (h1 : nd.kind = 1) :
    Calls Try.prog 106 #[.agg #[.int .i64 nd.kind, .slice Ap np cp, .slice Ak nk ck, .string nd.val]] w fun e w' => e = .returned (.iface 160 (.agg #[.slice Ap np cp, .string nd.val])) ∧ Below w.heap.size w w' := by
  obtain ⟨w1, hw1⟩ : ∃ w1, w.alloc (.cells #[.int .i64 nd.kind, .slice Ap np cp, .slice Ak nk ck, .string nd.val] 32) = w1 := ⟨_, rfl⟩
  have x1 : Box w1 w.heap.size _ _ := hw1 ▸ heap_alloc_new _ _
  have b1 : Below w.heap.size w w1 := hw1 ▸ (Below.refl _ _).alloc (Nat.le_refl _) _
  have q0 := x1.cell 0
  have q1 := x1.cell 1
  have q2 := x1.cell 2
  have q3 := x1.cell 3
  simp at q0 q1 q2 q3
  go_enter Try.func106, Try.ntmps106
  have hb : (nd.kind == 1) = true := by simp [h1]
  clear h1
  go_wp2
  go_ret
  exact ⟨rfl, b1⟩
theorem shapeStem_any (nd : MNode) (Ap Ak : Option Addr) (np cp nk ck : Nat) (kid : Int) (w : World) (h1 : ¬ nd.kind = 1) (h2 : nd.kind = 2) (hnk : 0 < nk) (hk : OwnK w 0 Ak nk ck nd.kids) (hkid : (nd.kids[0]?.getD (0, 0)).2 = kid) :
    Calls Try.prog 106 #[.agg #[.int .i64 nd.kind, .slice Ap np cp, .slice Ak nk ck, .string nd.val]] w fun e w' => e = .returned (.iface 162 (.agg #[.slice Ap np cp, .int .i64 kid])) ∧ Below w.heap.size w w' := by
  obtain ⟨w1, hw1⟩ : ∃ w1, w.alloc (.cells #[.int .i64 nd.kind, .slice Ap np cp, .slice Ak nk ck, .string nd.val] 32) = w1 := ⟨_, rfl⟩
  have x1 : Box w1 w.heap.size _ _ := hw1 ▸ heap_alloc_new _ _
  have b1 : Below w.heap.size w w1 := hw1 ▸ (Below.refl _ _).alloc (Nat.le_refl _) _
  have q0 := x1.cell 0
  have q1 := x1.cell 1
  have q2 := x1.cell 2
  have q3 := x1.cell 3
  simp at q0 q1 q2 q3
  go_enter Try.func106, Try.ntmps106
  have hb : (nd.kind == 1) = false := by simp [h1]
  have hb2 : (nd.kind == 2) = true := by simp [h2]
  obtain ⟨gk, rfl, _, hgk⟩ := hk.form hnk
  have hc := (hk.below b1).cell1 (k := 0) hnk
  simp only [Nat.zero_mul, Nat.zero_add] at hc
  rw [hkid] at hc
  clear h1 h2 hk hkid
  go_wp2
  go_quiet (fail)
  go_wp2
  go_ret
  exact ⟨rfl, below_drewN b1 _⟩
theorem shapeFork_any (nd : MNode) (Ap Ak : Option Addr) (np cp nk ck : Nat) (w : World) (h1 : ¬ nd.kind = 1) (h2 : ¬ nd.kind = 2) :
    Calls Try.prog 106 #[.agg #[.int .i64 nd.kind, .slice Ap np cp, .slice Ak nk ck, .string nd.val]] w fun e w' => e = .returned (.iface 164 (.agg #[.slice Ak nk ck, .string nd.val])) ∧ Below w.heap.size w w' := by
  obtain ⟨w1, hw1⟩ : ∃ w1, w.alloc (.cells #[.int .i64 nd.kind, .slice Ap np cp, .slice Ak nk ck, .string nd.val] 32) = w1 := ⟨_, rfl⟩
  have x1 : Box w1 w.heap.size _ _ := hw1 ▸ heap_alloc_new _ _
  have b1 : Below w.heap.size w w1 := hw1 ▸ (Below.refl _ _).alloc (Nat.le_refl _) _
  have q0 := x1.cell 0
  have q1 := x1.cell 1
  have q2 := x1.cell 2
  have q3 := x1.cell 3
  simp at q0 q1 q2 q3
  go_enter Try.func106, Try.ntmps106
  have hb : (nd.kind == 1) = false := by simp [h1]
  have hb2 : (nd.kind == 2) = false := by simp [h2]
  clear h1 h2
  go_wp2
  go_ret
  exact ⟨rfl, b1⟩

/-- two rows of numbers, alike as far as they are looked at. -/
theorem slicesEqual_any (A A' : Option Addr) (n n' c c' : Nat) (xs ys : List Int) (B B' : Nat) (w : World) (hn : n ≤ 1048576) (hn' : n' ≤ 1048576) (hx : Ints w B A n xs) (hy : Ints w B' A' n' ys) :
    Calls Try.prog 123 #[.slice A n c, .slice A' n' c'] w fun e w' => e = .returned (.bool (decide (xs = ys))) ∧ ∃ m, w' = w.drewN m := by
  have HX := Lib.hid hx
  have HY := Lib.hid hy
  have hlx := hx.1
  have hly := hy.1
  clear hx hy
  go_enter Try.func123, Try.ntmps123
  by_cases hl : n = n'
  case neg =>
    have hd : (((n : Int)) != ((n' : Int))) = true := by simp; omega
    have hno : decide (xs = ys) = false := decide_eq_false (fun e => by subst e; omega)
    rw [hno]
    go_wp2
    go_ret
    exact ⟨rfl, 0, rfl⟩
  subst hl
  have hd : (((n : Int)) != ((n : Int))) = false := by simp
  obtain ⟨R, hR⟩ : ∃ R, decide (xs = ys) = R := ⟨_, rfl⟩
  rw [hR]
  have RR := Lib.hid hR
  clear hR
  go_wp2
  go_loopw [13] (fun i wr => ∃ k q : Nat, k ≤ n ∧ i = .int .i64 k ∧ (∀ j, j < k → xs[j]?.getD 0 = ys[j]?.getD 0) ∧ wr = w.drewN q) (fun i _ => n - (intOf i).toNat)
  case atStart => exact ⟨0, 0, Nat.zero_le _, rfl, fun j hj => absurd hj (by omega), rfl⟩
  case round =>
    obtain ⟨k, q, hk, rfl, hal, rfl⟩ := hrel
    by_cases hlt : k < n
    · obtain ⟨b, off, rfl, hbB, hc⟩ := HX.out.at_ (k := k) (by omega)
      obtain ⟨b', off', rfl, hbB', hc'⟩ := HY.out.at_ (k := k) (by omega)
      have AL := Lib.hid hal
      clear hal
      by_cases hq : xs[k]?.getD 0 = ys[k]?.getD 0
      · have hr : ((xs[k]?.getD 0) != (ys[k]?.getD 0)) = false := by simp [hq]
        have HQ := Lib.hid hq
        clear hq
        generalize xs[k]?.getD 0 = x at hc hr
        generalize ys[k]?.getD 0 = y at hc' hr
        go_wp2
        go_quiet (fail)
        go_wp2
        go_roundw
        case rel => exact ⟨k + 1, _, by omega, by go_num, fun j hj => by rcases Nat.lt_or_ge j k with h | h; exact AL.out j h; rw [show j = k by omega]; exact HQ.out, rfl⟩
        case measure => simp [intOf]; omega
      · have hr : ((xs[k]?.getD 0) != (ys[k]?.getD 0)) = true := by simpa using hq
        have hno : R = false := by rw [← RR.out]; exact decide_eq_false (fun e => hq (by rw [e]))
        subst hno
        clear RR hq
        generalize xs[k]?.getD 0 = x at hc hr
        generalize ys[k]?.getD 0 = y at hc' hr
        go_wp2
        go_quiet (fail)
        go_wp2
        go_ret
        exact ⟨rfl, _, World.drewN_drewN _ _ _⟩
    · have hyes : R = true := by
        rw [← RR.out]
        refine decide_eq_true (List.ext_getElem (by omega) fun i h1 h2 => ?_)
        have := hal i (by omega)
        rw [List.getElem?_eq_getElem h1, List.getElem?_eq_getElem h2] at this
        exact this
      subst hyes
      clear RR hal
      go_wp2
      go_ret
      exact ⟨rfl, _, rfl⟩

theorem as_leaf_leaf (xs : Value) (y : Value) (W : World) : (Instr.typeAssert (.iface 160 (.agg #[xs, y])) 139 160 true).run Try.prog W = .ok (.tuple #[.agg #[xs, y], .bool true]) W := by kernel_rfl
theorem as_stem_leaf (xs : Value) (y : Value) (W : World) : (Instr.typeAssert (.iface 162 (.agg #[xs, y])) 139 160 true).run Try.prog W = .ok (.tuple #[.agg #[.slice none 0 0, .string noStr], .bool false]) W := by kernel_rfl
theorem as_stem_fork (xs : Value) (y : Value) (W : World) : (Instr.typeAssert (.iface 162 (.agg #[xs, y])) 139 164 true).run Try.prog W = .ok (.tuple #[.agg #[.slice none 0 0, .string noStr], .bool false]) W := by kernel_rfl
theorem as_fork_leaf (xs : Value) (y : Value) (W : World) : (Instr.typeAssert (.iface 164 (.agg #[xs, y])) 139 160 true).run Try.prog W = .ok (.tuple #[.agg #[.slice none 0 0, .string noStr], .bool false]) W := by kernel_rfl
theorem as_fork_fork (xs : Value) (y : Value) (W : World) : (Instr.typeAssert (.iface 164 (.agg #[xs, y])) 139 164 true).run Try.prog W = .ok (.tuple #[.agg #[xs, y], .bool true]) W := by kernel_rfl
/-- the value with which a way ends at a leaf. -/
theorem valueLeaf_any (Ap : Option Addr) (np cp : Nat) (val : ByteArray) (path : List Int) (A : Option Addr) (n c : Nat) (ps : List Int) (B : Nat) (w : World) (hB : B ≤ w.heap.size) (hnp : np ≤ 1048576) (hn : n ≤ 1048576) (hp : Ints w B Ap np path) (hq : Ints w B A n ps) :
    Calls Try.prog 107 #[.iface 160 (.agg #[.slice Ap np cp, .string val]), .slice A n c] w fun e w' => e = .returned (.string (if path = ps then val else noStr)) ∧ Below w.heap.size w w' := by
  have HP := Lib.hid (hp.more hB)
  have HQ := Lib.hid (hq.more hB)
  clear hp hq
  have f1 := fun x y W => as_leaf_leaf x y W
  obtain ⟨V, hV⟩ : ∃ V, (if path = ps then val else noStr) = V := ⟨_, rfl⟩
  rw [hV]
  obtain ⟨w1, hw1⟩ : ∃ w1, w.alloc (.cells #[.slice Ap np cp, .string val] 160) = w1 := ⟨_, rfl⟩
  have x1 : Box w1 w.heap.size _ _ := hw1 ▸ heap_alloc_new _ _
  have b1 : Below w.heap.size w w1 := hw1 ▸ (Below.refl _ _).alloc (Nat.le_refl _) _
  have q0 := x1.cell 0
  have q1 := x1.cell 1
  simp at q0 q1
  go_enter Try.func107, Try.ntmps107
  go_wp2_with fail
  refine (slicesEqual_any Ap A np n cp c path ps w.heap.size w.heap.size w1 hnp hn (HP.out.below b1) (HQ.out.below b1)).mono ?_
  rintro e w' ⟨rfl, q, rfl⟩
  by_cases he : path = ps
  · have hd : decide (path = ps) = true := decide_eq_true he
    rw [if_pos he] at hV
    subst hV
    rw [hd]
    go_wp2
    go_ret
    exact ⟨rfl, below_drewN b1 q⟩
  · have hd : decide (path = ps) = false := decide_eq_false he
    rw [if_neg he] at hV
    subst hV
    rw [hd]
    go_wp2
    go_ret
    exact ⟨rfl, below_drewN b1 q⟩
theorem valueStem_any (Ap : Option Addr) (np cp : Nat) (kid : Int) (A : Option Addr) (n c : Nat) (w : World) :
    Calls Try.prog 107 #[.iface 162 (.agg #[.slice Ap np cp, .int .i64 kid]), .slice A n c] w fun e w' => e = .returned (.string noStr) ∧ Below w.heap.size w w' := by
  have f1 := fun x y W => as_stem_leaf x y W
  have f2 := fun x y W => as_stem_fork x y W
  unfold noStr at f1 f2
  go_enter Try.func107, Try.ntmps107
  go_wp2
  go_ret
  exact ⟨rfl, Below.refl _ _⟩
theorem valueFork_any (Ak : Option Addr) (nk ck : Nat) (val : ByteArray) (A : Option Addr) (n c : Nat) (w : World) (hn : n ≤ 1048576) :
    Calls Try.prog 107 #[.iface 164 (.agg #[.slice Ak nk ck, .string val]), .slice A n c] w fun e w' => e = .returned (.string (if n = 0 then val else noStr)) ∧ Below w.heap.size w w' := by
  have f1 := fun x y W => as_fork_leaf x y W
  have f2 := fun x y W => as_fork_fork x y W
  unfold noStr at f1
  by_cases hz : n = 0
  · subst hz
    go_enter Try.func107, Try.ntmps107
    go_wp2
    go_ret
    exact ⟨rfl, (Below.refl _ _).alloc (Nat.le_refl _) _⟩
  · have hd : decide ((n : Int) = 0) = false := decide_eq_false (by omega)
    rw [if_neg hz]
    go_enter Try.func107, Try.ntmps107
    go_wp2
    go_ret
    exact ⟨rfl, (Below.refl _ _).alloc (Nat.le_refl _) _⟩
end Go.Proofs.Ytpgmiokdlloinaa

-- StepAt: Plain facts on what a node on the way says, by its kind. No statement of the program is proved here.
namespace Go.Proofs.Ytpgmiokdlloinaa
set_option maxRecDepth 20000
set_option linter.unusedVariables false
set_option linter.unusedSimpArgs false
open Go.RowKit

theorem com_whole (a b : List Int) (h1 : com a b = a.length) (h2 : com a b = b.length) : a = b := by
  induction a generalizing b with
  | nil => cases b with
    | nil => rfl
    | cons y s => simp [com] at h2
  | cons x r ih =>
    cases b with
    | nil => simp [com] at h1
    | cons y s =>
      simp only [com] at h1 h2
      split at h1
      · rename_i e
        rw [if_pos e] at h2
        subst e
        simp at h1 h2
        rw [ih s (by omega) (by omega)]
      · simp at h1
theorem stepAt_leaf (nd : MNode) (ps : List Int) (h : nd.kind = 1) : stepAt nd ps = .inl (if nd.path = ps then (nd.val, 0) else (noStr, 1)) := by
  unfold stepAt
  obtain ⟨h1, h2⟩ := com_le nd.path ps
  by_cases e : nd.path = ps
  · rw [if_pos e, if_neg, if_pos h]
    rw [← e, com_self]
    rintro (h3 | ⟨_, h3⟩) <;> omega
  · rw [if_neg e, if_pos]
    by_cases h3 : com nd.path ps < nd.path.length
    · exact .inl h3
    · refine .inr ⟨h, ?_⟩
      rcases Nat.lt_or_ge (com nd.path ps) ps.length with h4 | h4
      · exact h4
      · exact absurd (com_whole nd.path ps (by omega) (by omega)) e
theorem stepAt_stem_no (nd : MNode) (ps : List Int) (h2 : com nd.path ps < nd.path.length) : stepAt nd ps = .inl (noStr, 1) := by
  unfold stepAt
  rw [if_pos (.inl h2)]
theorem stepAt_stem (nd : MNode) (ps : List Int) (h : nd.kind = 2) (h2 : com nd.path ps = nd.path.length) : stepAt nd ps = .inr ((nd.kids[0]?.getD (0, 0)).2, ps.drop nd.path.length) := by
  unfold stepAt
  rw [if_neg, if_neg (by omega), if_pos h, h2]
  rintro (h3 | ⟨h3, _⟩) <;> omega
theorem stepAt_fork (nd : MNode) (ps : List Int) (h1 : ¬ nd.kind = 1) (h2 : ¬ nd.kind = 2) (hp : nd.path = []) : stepAt nd ps = match ps with
    | [] => if hasVal nd then .inl (nd.val, 0) else .inl (noStr, 1)
    | a :: r => .inr (kidAt nd.kids a, r) := by
  have hc : com nd.path ps = 0 := by rw [hp]; simp [com]
  have hn : ¬ (com nd.path ps < nd.path.length ∨ (nd.kind = 1 ∧ com nd.path ps < ps.length)) := by
    rintro (h3 | ⟨h3, _⟩)
    · rw [hc, hp] at h3; simp at h3
    · exact h1 h3
  unfold stepAt
  rw [if_neg hn, if_neg h1, if_neg h2, hc, List.drop_zero]
  all_goals (cases ps <;> rfl)
theorem leaf_val (nd : MNode) (h : kindOk nd = true) (h1 : nd.kind = 1) : hasVal nd = true := by
  unfold kindOk at h
  rw [if_pos h1] at h
  simp only [Bool.and_eq_true] at h
  exact h.2
theorem stem_parts (nd : MNode) (h : kindOk nd = true) (h1 : ¬ nd.kind = 1) (h2 : nd.kind = 2) : 0 < nd.path.length ∧ nd.kids.length = 1 := by
  unfold kindOk at h
  rw [if_neg h1, if_pos h2] at h
  simp only [Bool.and_eq_true, decide_eq_true_eq] at h
  exact ⟨h.1.1.1, h.1.2⟩
theorem fork_path (nd : MNode) (h : kindOk nd = true) (h1 : ¬ nd.kind = 1) (h2 : ¬ nd.kind = 2) : nd.path = [] := by
  unfold kindOk at h
  rw [if_neg h1, if_neg h2] at h
  split at h
  · simp only [Bool.and_eq_true, decide_eq_true_eq] at h
    exact List.eq_nil_of_length_eq_zero h.1
  · cases h
theorem kid_pos (nd : MNode) (h : kidsOk nd.kids = true) (k : Nat) (hk : k < nd.kids.length) : (nd.kids[k]?.getD (0, 0)).2 ≠ 0 := by
  have := (kidsOk_at nd.kids h k hk).2.1
  omega
theorem hasVal_ne (nd : MNode) (h : hasVal nd = true) : nd.val ≠ noStr := by
  intro e
  unfold hasVal at h
  rw [e, show noStr.toList = [] from ByteArray.toList_mk []] at h
  simp at h
theorem hasVal_eq (nd : MNode) (h : hasVal nd = false) : nd.val = noStr := by
  unfold hasVal at h
  exact empty_str _ (by simpa using h)
theorem leaf_no (nd : MNode) (ps : List Int) (h1 : nd.kind = 1) (hk : kindOk nd = true) (hV : (if nd.path = ps then nd.val else noStr) = noStr) : stepAt nd ps = .inl (noStr, 1) := by
  rw [stepAt_leaf nd ps h1]
  by_cases e : nd.path = ps
  · rw [if_pos e] at hV
    exact absurd hV (hasVal_ne nd (leaf_val nd hk h1))
  · rw [if_neg e]
theorem leaf_yes (nd : MNode) (ps : List Int) (V : ByteArray) (h1 : nd.kind = 1) (hV : (if nd.path = ps then nd.val else noStr) = V) (he : ¬ V = noStr) : stepAt nd ps = .inl (V, 0) := by
  rw [stepAt_leaf nd ps h1]
  by_cases e : nd.path = ps
  · rw [if_pos e] at hV
    rw [if_pos e, hV]
  · rw [if_neg e] at hV
    exact absurd hV.symm he
theorem fork_no (nd : MNode) (h1 : ¬ nd.kind = 1) (h2 : ¬ nd.kind = 2) (hk : kindOk nd = true) (hV : nd.val = noStr) : stepAt nd [] = .inl (noStr, 1) := by
  rw [stepAt_fork nd [] h1 h2 (fork_path nd hk h1 h2)]
  have h : ¬ hasVal nd = true := fun h => hasVal_ne nd h hV
  simp [h]
theorem fork_yes (nd : MNode) (h1 : ¬ nd.kind = 1) (h2 : ¬ nd.kind = 2) (hk : kindOk nd = true) (hV : ¬ nd.val = noStr) : stepAt nd [] = .inl (nd.val, 0) := by
  rw [stepAt_fork nd [] h1 h2 (fork_path nd hk h1 h2)]
  have h : hasVal nd = true := by
    cases h : hasVal nd with
    | true => rfl
    | false => exact absurd (hasVal_eq nd h) hV
  simp [h]
theorem fork_on (nd : MNode) (ps : List Int) (h1 : ¬ nd.kind = 1) (h2 : ¬ nd.kind = 2) (hk : kindOk nd = true) (hp : 0 < ps.length) : stepAt nd ps = .inr (kidAt nd.kids (ps[0]?.getD 0), ps.drop 1) := by
  rw [stepAt_fork nd ps h1 h2 (fork_path nd hk h1 h2)]
  cases ps with
  | nil => simp at hp
  | cons a r => rfl
theorem str_ne (V : ByteArray) (he : ¬ V = noStr) : V.toList.isEmpty = false := by
  cases h : V.toList.isEmpty with
  | false => rfl
  | true => exact absurd (empty_str V (by simpa using h)) he
end Go.Proofs.Ytpgmiokdlloinaa

-- FoundBy: The program's way down a path, by whatever tells the nodes.
namespace Go.Proofs.Ytpgmiokdlloinaa
set_option maxRecDepth 100000
set_option linter.unusedVariables false
set_option linter.unusedSimpArgs false
open Go.RowKit

theorem OwnN.parts {w : World} {lo : Nat} {nd : MNode} {Ap Ak : Option Addr} {mp dp mk dk : Nat} (h : OwnN w lo (.agg #[.int .i64 nd.kind, .slice Ap mp dp, .slice Ak mk dk, .string nd.val]) nd) : mp ≤ 1048576 ∧ mk ≤ 1048576 ∧ OwnI w lo Ap mp dp nd.path ∧ OwnK w lo Ak mk dk nd.kids := by
  obtain ⟨Ap', np, cp, Ak', nk, ck, ev, h1, h2, h3, h4, h5, _⟩ := h
  cases ev
  exact ⟨h1, h2, h4, h5⟩
theorem below_leaf (x y : Value) (f : Nat) (W : World) : (method (f + 1) 160 (.agg #[x, y]) "loop.example/g00754/impl.below").run Try.prog W = .ok (166, .agg #[x, y]) W := by kernel_rfl
theorem below_stem (x y : Value) (f : Nat) (W : World) : (method (f + 1) 162 (.agg #[x, y]) "loop.example/g00754/impl.below").run Try.prog W = .ok (167, .agg #[x, y]) W := by kernel_rfl
theorem below_fork (x y : Value) (f : Nat) (W : World) : (method (f + 1) 164 (.agg #[x, y]) "loop.example/g00754/impl.below").run Try.prog W = .ok (169, .agg #[x, y]) W := by kernel_rfl
theorem touch_refl (S : Nat → Prop) (w : World) : Touch S w w := ⟨rfl, rfl, rfl, Nat.le_refl _, fun _ _ _ => rfl⟩
/-- the old blocks, but p, are as they were. -/
theorem touch_out {w wr w' : World} {p : Nat} (h : Touch (fun g => g = p) w wr) (h' : Touch (fun g => g = p ∨ w.heap.size ≤ g) wr w') : Touch (fun g => g = p) w w' :=
  ⟨h'.os.trans h.os, h'.tape.trans h.tape, h'.output.trans h.output, Nat.le_trans h.size h'.size, fun k hk hs => (h'.block k (Nat.lt_of_lt_of_le hk h.size) (fun e => by rcases e with e | e; exact hs e; omega)).trans (h.block k hk hs)⟩
theorem touch_more {w wr w' : World} {p B : Nat} (h : Touch (fun g => g = p) w wr) (h' : Below B wr w') (hB : w.heap.size ≤ B) : Touch (fun g => g = p) w w' :=
  touch_out h ⟨h'.os, h'.tape, h'.output, h'.size, fun k hk hs => h'.block k (by rcases Nat.lt_or_ge k B with h | h; exact h; exact absurd (.inr (by omega)) hs)⟩
/-- calls of function K, with block p ahead, tell the node under a name, in cells; I holds of the names that were told, whatever is made beside. -/
structure Tells (cs : List (Int × List Int)) (lo : Nat) (K : FuncId) (p W : Nat) (I : List Int → World → Prop) : Prop where
  keep : ∀ ways w w', I ways w → W ≤ w.heap.size → Below w.heap.size w w' → I ways w'
  call : ∀ ways ri w, I ways w → W ≤ w.heap.size → ways.length ≤ 1048576 → Calls Try.prog K #[.pointer (some ⟨p, 0, none⟩), .int .i64 ri] w fun e w' => ∃ (x : NV) (b : Bool), e = .returned (.tuple #[x.v, .bool b]) ∧ HitIs cs ri x.nd b ∧ (b = true → OwnN w' lo x.v x.nd) ∧ I (if b then ways ++ [ri] else ways) w' ∧ Touch (fun g => g = p ∨ W ≤ g) w w'
/-- where the way is: the old blocks, and what holds of the names that were told. -/
def At (p : Nat) (I : List Int → World → Prop) (ways : List Int) (w w' : World) : Prop := Touch (fun g => g = p) w w' ∧ I ways w'
theorem At.more {cs : List (Int × List Int)} {lo p : Nat} {K : FuncId} {I : List Int → World → Prop} {ways : List Int} {w w' w'' : World} (h : At p I ways w w') (hT : Tells cs lo K p w.heap.size I) (b : Below w'.heap.size w' w'') : At p I ways w w'' :=
  ⟨touch_more h.1 b h.1.size, hT.keep ways w' w'' h.2 h.1.size b⟩
set_option maxHeartbeats 4000000 in
theorem foundBy_any (K : FuncId) (p : Nat) (I : List Int → World → Prop) (cs : List (Int × List Int)) (root : Int) (pb po np cp lo : Nat) (path : List Int) (B : Nat) (w : World) (hK : ∀ args w, (callFunc K args).run Try.prog w = .ok (.enter K args) w) (hnp : np ≤ 1048576) (hcp : np ≤ cp) (hB : B ≤ w.heap.size) (hpb : pb ≠ p) (hT : Tells cs lo K p w.heap.size I) (hI : I [] w) (hp : Ints w B (some ⟨pb, po, none⟩) np path) :
    Calls Try.prog 73 #[.func (.func K) #[.pointer (some ⟨p, 0, none⟩)] #[], .int .i64 root, .slice (some ⟨pb, po, none⟩) np cp] w fun e w' => ∃ v k, e = .returned (.tuple #[.string v, .int .i64 k]) ∧ (∃ f way, DownIs cs f root path v k way ∧ I way w') ∧ Touch (fun g => g = p) w w' := by
  have HT := Lib.hid hT
  have HI := Lib.hid hI
  have HP := Lib.hid (hp.more hB)
  have hlp := hp.1
  have hKK := Lib.hid hK
  have HPB := Lib.hid (show pb < w.heap.size ∨ np = 0 from (Nat.eq_zero_or_pos np).elim .inr fun h => .inl (by obtain ⟨b, off, e, hb, _⟩ := HP.out.2 h; cases e; exact hb))
  clear hT hI hp
  go_enter Try.func73, Try.ntmps73
  by_cases h0 : root = 0
  · subst h0
    go_wp2
    go_ret2
    obtain ⟨f, hf⟩ := DownTo.none (DownTo.start cs 0 path)
    exact ⟨_, _, rfl, ⟨f, _, hf, HI.out⟩, touch_refl _ _⟩
  · have hb0 : (root == 0) = false := by simpa using h0
    go_wp2
    go_loopw [8, 9] (fun r p' wr => ∃ (ri : Int) (qo nq cq : Nat) (ps ways : List Int), r = .int .i64 ri ∧ p' = .slice (some ⟨pb, qo, none⟩) nq cq ∧ ri ≠ 0 ∧ nq ≤ cq ∧ ways.length + nq ≤ np ∧
      Ints wr w.heap.size (some ⟨pb, qo, none⟩) nq ps ∧ DownTo cs root path ri ps ways ∧ Touch (fun g => g = p) w wr ∧ I ways wr) (fun _ p' _ => lenOf p')
    case atStart => exact ⟨root, po, np, cp, path, [], rfl, rfl, h0, hcp, by simp, HP.out, DownTo.start cs root path, touch_refl _ _, HI.out⟩
    case round =>
      obtain ⟨ri, qo, nq, cq, ps, ways, rfl, rfl, hi0, hcq, hbd, hps, hto, htc, hin⟩ := hrel
      have hs0 : w.heap.size ≤ wr.heap.size := htc.size
      have hlq := hps.1
      have PR := Lib.hid hps
      have TO := Lib.hid hto
      have TC := Lib.hid htc
      have IR := Lib.hid hin
      have I0 := Lib.hid hi0
      clear hps hto htc hin hi0 hb0 h0
      go_wp2_with fail
      refine (HT.out.call ways ri wr IR.out hs0 (by omega)).mono ?_
      rintro e w2 ⟨x, b, rfl, hit, own, hin, htc⟩
      have s2 := htc.size
      have HIT := Lib.hid hit
      have OWN := Lib.hid own
      have B2 := Lib.hid (show At p I (if b then ways ++ [ri] else ways) w w2 from ⟨touch_out TC.out htc, hin⟩)
      have P2 := Lib.hid (PR.out.touch htc hs0 (fun h0 a ha e => by cases ha; rcases e with e | e; exact hpb e; rcases HPB.out with h | h; exact absurd h (Nat.not_lt.2 e); omega))
      clear hit own hin htc
      obtain ⟨Ap, mp, dp, Ak, mk, dk, nd⟩ := x
      unfold NV.v
      have HIT := Lib.hid (show HitIs cs ri nd b from HIT.out)
      obtain ⟨w5, hw5⟩ : ∃ w5, w2.alloc (.cells #[.int .i64 0, .slice none 0 0, .slice none 0 0, .string { data := #[] }] 32) = w5 := ⟨_, rfl⟩
      have x5 : Box w5 w2.heap.size 32 _ := hw5 ▸ heap_alloc_new _ _
      have b5 : Below w2.heap.size w2 w5 := hw5 ▸ (Below.refl _ _).alloc (Nat.le_refl _) _
      have q20 := x5.cell 0
      have q21 := x5.cell 1
      have q22 := x5.cell 2
      have q23 := x5.cell 3
      have f2 := x5.free
      simp at q20 q21 q22 q23
      obtain ⟨w6, hw6⟩ : ∃ w6, (((w5.setCell ⟨w2.heap.size, 0, none⟩ (.int .i64 nd.kind)).setCell ⟨w2.heap.size, 1, none⟩ (.slice Ap mp dp)).setCell ⟨w2.heap.size, 2, none⟩ (.slice Ak mk dk)).setCell ⟨w2.heap.size, 3, none⟩ (.string nd.val) = w6 := ⟨_, rfl⟩
      have h4' := set4 x5 (.int .i64 nd.kind) (.slice Ap mp dp) (.slice Ak mk dk) (.string nd.val)
      have t6 : Touch (fun b => b = w2.heap.size) w5 w6 := hw6 ▸ h4'.2
      have x6 : Box w6 w2.heap.size 32 #[.int .i64 nd.kind, .slice Ap mp dp, .slice Ak mk dk, .string nd.val] := hw6 ▸ h4'.1
      have b6 : Below w2.heap.size w2 w6 := b5.trans (t6.below b5.size (fun b hb e => by omega))
      have X6 := Lib.hid x6
      have B6 := Lib.hid (B2.out.more HT.out b6)
      have P6 := Lib.hid (P2.out.below (b6.mono (by omega)))
      have hs6 : w2.heap.size < w6.heap.size := x6.lt
      have OWN := Lib.hid (fun e => (OWN.out e).below b6 : b = true → OwnN w6 lo (.agg #[.int .i64 nd.kind, .slice Ap mp dp, .slice Ak mk dk, .string nd.val]) nd)
      clear x5 b5 h4' t6 x6 b6 B2 P2 PR TC IR
      cases b with
      | false =>
        go_wp2
        go_ret2
        exact ⟨_, _, rfl, by obtain ⟨f, h⟩ := TO.out.lost I0.out HIT.out; exact ⟨f, _, h, B6.out.2⟩, B6.out.1⟩
      | true =>
        have hok := hit_ok HIT.out
        have hkok := (nodeOk_parts nd hok).2.2.2
        have O6 := Lib.hid (OWN.out rfl)
        have q0 := X6.out.cell 0
        have q1 := X6.out.cell 1
        have q2 := X6.out.cell 2
        have q3 := X6.out.cell 3
        simp at q0 q1 q2 q3
        have hkk := (nodeOk_parts nd hok).2.1
        have KKO := Lib.hid hkk
        have KOK := Lib.hid hkok
        clear hkk hkok hok
        by_cases hk1 : nd.kind = 1
        · have HK1 := Lib.hid hk1
          clear hk1
          go_wp2_with fail
          refine (shapeLeaf_any nd Ap Ak mp dp mk dk w6 HK1.out).mono ?_
          rintro e w7 ⟨rfl, b7⟩
          have B7 := Lib.hid (B6.out.more HT.out b7)
          have P7 := Lib.hid (P6.out.below (b7.mono (by omega)))
          have O7 := Lib.hid (O6.out.below b7)
          have s7 := b7.size
          clear b7 B6 P6 O6 X6 OWN q0 q1 q2 q3 q20 q21 q22 q23 f2
          have fm := fun x y f W => below_leaf x y f W
          go_wp2_with fail
          refine (leafBelow_any Ap mp dp nd.val (some ⟨pb, qo, none⟩) nq cq w7).mono ?_
          rintro e w8 ⟨rfl, b8⟩
          have B8 := Lib.hid (B7.out.more HT.out b8)
          have P8 := Lib.hid (P7.out.below (b8.mono (by omega)))
          have O8 := Lib.hid (O7.out.below b8)
          have s8 := b8.size
          clear b8 B7 P7 O7
          go_wp2_with fail
          obtain ⟨hmp, hmk, hpp, hkk⟩ := O8.out.parts
          refine (valueLeaf_any Ap mp dp nd.val nd.path (some ⟨pb, qo, none⟩) nq cq ps w8.heap.size w8 (Nat.le_refl _) hmp (by omega) hpp.ints (P8.out.more (by omega))).mono ?_
          rintro e w9 ⟨rfl, b9⟩
          have B9 := Lib.hid (B8.out.more HT.out b9)
          obtain ⟨V, hV⟩ : ∃ V, (if nd.path = ps then nd.val else noStr) = V := ⟨_, rfl⟩
          rw [hV]
          clear b9 B8 P8 O8 hpp hkk
          by_cases he : V = noStr
          · subst he
            have HST := Lib.hid (leaf_no nd ps HK1.out KOK.out hV)
            clear hV
            unfold noStr
            go_wp2
            go_ret2
            exact ⟨noStr, 1, rfl, by obtain ⟨f, h⟩ := TO.out.stop I0.out HIT.out HST.out; exact ⟨f, _, h, B9.out.2⟩, B9.out.1⟩
          · have HST := Lib.hid (leaf_yes nd ps V HK1.out hV he)
            have hE2 := str_ne V he
            clear hV he
            go_wp2
            go_ret2
            exact ⟨V, 0, rfl, by obtain ⟨f, h⟩ := TO.out.stop I0.out HIT.out HST.out; exact ⟨f, _, h, B9.out.2⟩, B9.out.1⟩
        · by_cases hk2 : nd.kind = 2
          · obtain ⟨hpl, hkl⟩ := stem_parts nd KOK.out hk1 hk2
            have hmk : mk = 1 := O6.out.parts.2.2.2.len.symm.trans hkl
            subst hmk
            have HK1 := Lib.hid hk1
            have HK2 := Lib.hid hk2
            have hz := kid_pos nd KKO.out 0 (by omega)
            obtain ⟨z, hzz⟩ : ∃ z, (nd.kids[0]?.getD (0, 0)).2 = z := ⟨_, rfl⟩
            have ZZ := Lib.hid hzz
            rw [hzz] at hz
            have Z0 := Lib.hid hz
            clear hk1 hk2 hzz hz
            go_wp2_with fail
            refine (shapeStem_any nd Ap Ak mp dp 1 dk z w6 HK1.out HK2.out (by omega) (O6.out.parts.2.2.2.base (Nat.zero_le _)) ZZ.out).mono ?_
            rintro e w7 ⟨rfl, b7⟩
            have B7 := Lib.hid (B6.out.more HT.out b7)
            have P7 := Lib.hid (P6.out.below (b7.mono (by omega)))
            have O7 := Lib.hid (O6.out.below b7)
            have s7 := b7.size
            clear b7 B6 P6 O6 X6 OWN q0 q1 q2 q3 q20 q21 q22 q23 f2
            have fm := fun x y f W => below_stem x y f W
            obtain ⟨hmp, _, hpp, _⟩ := O7.out.parts
            have hpl2 := hpp.len
            go_wp2_with fail
            refine (stemBelow_any Ap mp dp z nd.path pb qo nq cq ps w7.heap.size w.heap.size w7 (Nat.le_refl _) (by omega) hmp (by omega) hcq hpp.ints P7.out).mono ?_
            rintro e w8 ⟨r, A', n', c', b, rfl, hor, b8⟩
            have B8 := Lib.hid (B7.out.more HT.out b8)
            have s8 := b8.size
            clear b8 B7 P7 O7 hpp
            rcases hor with ⟨rfl, hlt⟩ | ⟨rfl, hcm, hle, rfl, rfl, hcc, qo', rfl, hI⟩
            · have HST := Lib.hid (stepAt_stem_no nd ps (by omega))
              go_wp2_with fail
              refine (valueStem_any Ap mp dp z (some ⟨pb, qo, none⟩) nq cq w8).mono ?_
              rintro e w9 ⟨rfl, b9⟩
              have B9 := Lib.hid (B8.out.more HT.out b9)
              clear b9 B8
              unfold noStr
              go_wp2
              go_ret2
              exact ⟨noStr, 1, rfl, by obtain ⟨f, h⟩ := TO.out.stop I0.out HIT.out HST.out; exact ⟨f, _, h, B9.out.2⟩, B9.out.1⟩
            · have HST := Lib.hid (stepAt_stem nd ps HK2.out (by omega))
              have hst : stepAt nd ps = .inr (r, ps.drop mp) := by rw [HST.out, ZZ.out, hpl2]
              have HST := Lib.hid hst
              have HI := Lib.hid hI
              clear hst hI
              go_wp2
              go_roundw
              case rel => exact ⟨r, qo', nq - mp, c', ps.drop mp, ways ++ [ri], rfl, rfl, Z0.out, hcc, by simp; omega, HI.out, TO.out.step I0.out HIT.out HST.out, B8.out.1, B8.out.2⟩
              case measure => simp [lenOf]; omega
          · have hmf := fork_path nd KOK.out hk1 hk2
            have HK1 := Lib.hid hk1
            have HK2 := Lib.hid hk2
            clear hk1 hk2 hmf
            go_wp2_with fail
            refine (shapeFork_any nd Ap Ak mp dp mk dk w6 HK1.out HK2.out).mono ?_
            rintro e w7 ⟨rfl, b7⟩
            have B7 := Lib.hid (B6.out.more HT.out b7)
            have P7 := Lib.hid (P6.out.below (b7.mono (by omega)))
            have O7 := Lib.hid (O6.out.below b7)
            have s7 := b7.size
            clear b7 B6 P6 O6 X6 OWN q0 q1 q2 q3 q20 q21 q22 q23 f2
            have fm := fun x y f W => below_fork x y f W
            obtain ⟨_, hmk, _, hkk⟩ := O7.out.parts
            have hkl := hkk.len
            go_wp2_with fail
            refine (forkBelow_any Ak mk dk nd.val nd.kids pb qo nq cq ps w7.heap.size w.heap.size w7 (Nat.le_refl _) (by omega) hmk (by omega) hcq hkk.kids P7.out).mono ?_
            rintro e w8 ⟨r, A', n', c', b, rfl, hor, b8⟩
            have B8 := Lib.hid (B7.out.more HT.out b8)
            have s8 := b8.size
            clear b8 B7 P7 O7 hkk
            rcases hor with ⟨rfl, hno⟩ | ⟨rfl, hpos, ⟨k, hk, hrk, hrr⟩, rfl, hcc, qo', rfl, hI⟩
            · have NO := Lib.hid hno
              clear hno
              go_wp2_with fail
              refine (valueFork_any Ak mk dk nd.val (some ⟨pb, qo, none⟩) nq cq w8 (by omega)).mono ?_
              rintro e w9 ⟨rfl, b9⟩
              have B9 := Lib.hid (B8.out.more HT.out b9)
              clear b9 B8
              by_cases hq0 : nq = 0
              · rw [if_pos hq0]
                have hps : ps = [] := List.eq_nil_of_length_eq_zero (by omega)
                subst hps
                obtain ⟨V, hV⟩ : ∃ V, nd.val = V := ⟨_, rfl⟩
                rw [hV]
                by_cases he : V = noStr
                · subst he
                  have HST := Lib.hid (fork_no nd HK1.out HK2.out KOK.out hV)
                  clear hV
                  unfold noStr
                  go_wp2
                  go_ret2
                  exact ⟨noStr, 1, rfl, by obtain ⟨f, h⟩ := TO.out.stop I0.out HIT.out HST.out; exact ⟨f, _, h, B9.out.2⟩, B9.out.1⟩
                · have HST := Lib.hid (show stepAt nd [] = .inl (V, 0) by rw [fork_yes nd HK1.out HK2.out KOK.out (by rw [hV]; exact he), hV])
                  have hE2 := str_ne V he
                  clear hV he
                  go_wp2
                  go_ret2
                  exact ⟨V, 0, rfl, by obtain ⟨f, h⟩ := TO.out.stop I0.out HIT.out HST.out; exact ⟨f, _, h, B9.out.2⟩, B9.out.1⟩
              · rw [if_neg hq0]
                have hst := fork_on nd ps HK1.out HK2.out KOK.out (by omega)
                have hz : kidAt nd.kids (ps[0]?.getD 0) = 0 := by
                  rcases NO.out with h | h
                  · rw [h] at hlq; simp at hlq; omega
                  · exact kidAt_none nd.kids _ (fun j hj => h j (by omega))
                rw [hz] at hst
                have HST := Lib.hid hst
                clear hst hz
                unfold noStr
                go_wp2
                go_ret2
                exact ⟨noStr, 1, rfl, by obtain ⟨f, h⟩ := DownTo.none (TO.out.step I0.out HIT.out HST.out); exact ⟨f, _, h, B9.out.2⟩, B9.out.1⟩
            · have hst := fork_on nd ps HK1.out HK2.out KOK.out (by omega)
              rw [hrr] at hst
              have HST := Lib.hid hst
              have hr0 : r ≠ 0 := by rw [hrk]; exact kid_pos nd KKO.out k (by omega)
              have HR0 := Lib.hid hr0
              have HI := Lib.hid hI
              clear hst hI hr0 hrk hrr
              go_wp2
              go_roundw
              case rel => exact ⟨r, qo', nq - 1, c', ps.drop 1, ways ++ [ri], rfl, rfl, HR0.out, hcc, by simp; omega, HI.out, TO.out.step I0.out HIT.out HST.out, B8.out.1, B8.out.2⟩
              case measure => simp [lenOf]; omega
end Go.Proofs.Ytpgmiokdlloinaa

-- FoundP: The program's Found: for all cells, roots and keys.
namespace Go.Proofs.Ytpgmiokdlloinaa
set_option maxRecDepth 100000
set_option linter.unusedVariables false
set_option linter.unusedSimpArgs false
open Go.RowKit

theorem Try.enterAt (args : Array Value) (w : World) : (callFunc 48 args).run Try.prog w = .ok (.enter 48 args) w := by kernel_rfl
/-- what the list's method tells, in cells. -/
theorem at_cells {T : TypeId} {zs : Array Value} (p lo : Nat) (R : SR) (ns : List (Int × NV)) (cs : List (Int × List Int)) (m : Int) (w : World) (hr : Right cs) (hx : Box w p T zs) (hz0 : zs[0]? = some (R.kv ns.length)) (hz1 : zs[1]? = some (R.vv ns.length)) (hn : NodesIs w lo R ns cs) :
    Calls Try.prog 48 #[.pointer (some ⟨p, 0, none⟩), .int .i64 m] w fun e w' => ∃ (x : NV) (b : Bool), e = .returned (.tuple #[x.v, .bool b]) ∧ HitIs cs m x.nd b ∧ (b = true → ∃ y ∈ ns, y.2 = x) ∧ Below w.heap.size w w' := by
  refine (at_box p lo R ns m w hx hz0 hz1 hn.sl).mono ?_
  rintro e w2 ⟨x, b, rfl, hat, b2⟩
  have hf := hn.find hr m
  rcases hat with ⟨ht, rfl, hi, he⟩ | ⟨ht, rfl, rfl⟩
  · obtain ⟨hi2, hfe⟩ := hf.1 ht
    refine ⟨x, true, rfl, .inl ⟨by omega, ?_⟩, fun _ => ⟨(m, x), by rw [← he]; exact List.getElem_mem hi, rfl⟩, b2⟩
    have h1 := (hn.at_ _ hi).2
    rw [List.getElem?_eq_getElem hi, he] at h1
    rw [hfe]
    exact h1
  · exact ⟨nv0, false, rfl, .inr ⟨hf.2 ht, rfl, rfl⟩, (fun e => by cases e), b2⟩
theorem tells_at (p lo W : Nat) (R : SR) (ns : List (Int × NV)) (cs : List (Int × List Int)) (hr : Right cs) :
    Tells cs lo 48 p W (fun _ w => Box w p 73 #[R.kv ns.length, R.vv ns.length] ∧ NodesIs w lo R ns cs) :=
  ⟨fun _ w w' h _ b => ⟨h.1.below b h.1.lt, h.2.below b⟩, fun ways ri w h hW _ => (at_cells p lo R ns cs ri w hr h.1 rfl rfl h.2).mono fun e w' ⟨x, b, he, h1, h2, h3⟩ =>
    ⟨x, b, he, h1, (fun hb => by obtain ⟨y, hy, e⟩ := h2 hb; exact e ▸ (h.2.own y hy).below h3), ⟨h.1.below h3 h.1.lt, h.2.below h3⟩, ⟨h3.os, h3.tape, h3.output, h3.size, fun k hk _ => h3.block k hk⟩⟩⟩
set_option maxHeartbeats 1000000 in
theorem implFound_any (A : Option Addr) (n c : Nat) (cs : List (Int × List Int)) (root : Int) (key : ByteArray) (B : Nat) (w : World) (hn : n ≤ 1048576) (hc : n ≤ c) (hA : A = none → c = 0) (hm : ∀ i, (cel cs i).2.length ≤ 1048576) (hk : key.size ≤ 1048576) (hB : B ≤ w.heap.size) (hb : Cells w B A n cs) :
    Calls Try.prog 35 #[.slice A n c, .int .i64 root, .string key] w fun e w' => ∃ v k, e = .returned (.tuple #[.string v, .int .i64 k]) ∧ FoundIs cs root key v k ∧ Below w.heap.size w w' := by
  have HB := Lib.hid hb
  clear hb
  go_enter Try.func35, Try.ntmps35
  go_wp2_with fail
  refine (nodesOf_any A n c cs B w hn hc hA hm hB HB.out).mono ?_
  rintro e w2 ⟨R, ns, b, rfl, b2, hor⟩
  have s2 := b2.size
  have B2 := Lib.hid b2
  clear b2
  obtain ⟨w3, hw3⟩ : ∃ w3, w2.alloc (.cells #[R.kv ns.length, R.vv ns.length] 73) = w3 := ⟨_, rfl⟩
  have b3 : Below w2.heap.size w2 w3 := hw3 ▸ (Below.refl _ _).alloc (Nat.le_refl _) _
  have P3 := Lib.hid (show Box w3 w2.heap.size 73 #[R.kv ns.length, R.vv ns.length] from hw3 ▸ heap_alloc_new _ _)
  have s3 : w3.heap.size = w2.heap.size + 1 := hw3 ▸ by simp
  have B3 := Lib.hid (B2.out.trans (b3.mono s2))
  unfold SR.kv SR.vv at hw3
  unfold SR.kv SR.vv
  rcases hor with ⟨rfl, hR, hnd⟩ | ⟨rfl, hno, hR0, hp0⟩
  · have D3 := Lib.hid (hnd.below b3)
    have RT := Lib.hid hR
    clear hnd hR b3
    go_wp2_with fail
    refine (keyOk_any key w3 hk).mono ?_
    rintro e w4 ⟨rfl, b4⟩
    have s4 := b4.size
    have B4 := Lib.hid (B3.out.trans (b4.mono (by omega)))
    have P4 := Lib.hid (P3.out.below b4 (by omega))
    have D4 := Lib.hid (D3.out.below b4)
    clear b4 B3 P3 D3
    obtain ⟨ik, hik⟩ : ∃ ik, isKey (sb key) = ik := ⟨_, rfl⟩
    rw [hik]
    have IK := Lib.hid hik
    clear hik
    cases ik with
    | false =>
      go_wp2
      go_ret2
      exact ⟨noStr, 3, rfl, .inl ⟨(fun h => by have := h.2.1; rw [IK.out] at this; cases this), rfl, rfl⟩, B4.out⟩
    | true =>
      by_cases hr : root < 0
      · have hd : decide (root < 0) = true := decide_eq_true hr
        have HR := Lib.hid hr
        clear hr
        go_wp2
        go_ret2
        exact ⟨noStr, 3, rfl, .inl ⟨fun h => by have := h.2.2; have := HR.out; omega, rfl, rfl⟩, B4.out⟩
      · have hd : decide (root < 0) = false := decide_eq_false hr
        have HR := Lib.hid hr
        clear hr
        have p40 := P4.out.cell 0
        have p41 := P4.out.cell 1
        unfold SR.kv at p40
        unfold SR.vv at p41
        simp at p40 p41
        have lp4 := P4.out.lt
        have hmf : ∀ (fn : Fn) (first cap : Array Value) (w : World), (Instr.makeFunc fn first cap).run Try.prog w = .ok (.func fn first cap) w := fun _ _ _ _ => rfl
        go_wp2_with fail
        refine (pathOf_any key w4 hk).mono ?_
        rintro e w5 ⟨A5, n5, c5, rfl, o5, b5⟩
        have t5 : w4.heap.size ≤ w5.heap.size := b5.size
        have P5 := Lib.hid (P4.out.below b5 lp4)
        have D5 := Lib.hid (D4.out.below b5)
        have B5 := Lib.hid (B4.out.trans (b5.mono (by omega)))
        obtain ⟨g5, a5, i5, l5, gl5, y5⟩ : ∃ g5, A5 = some ⟨g5, 0, none⟩ ∧ n5 ≤ c5 ∧ n5 ≤ 1048576 ∧ w4.heap.size ≤ g5 ∧ Ints w5 w5.heap.size A5 n5 (pathOf (sb key)) := by
          have hl2 := o5.len
          have h2 : pathOf (sb key) = (sb key).map wd := if_pos IK.out
          have h3 := sb_len key
          rw [h2] at hl2
          have h1 := IK.out
          unfold isKey at h1
          simp at h1 hl2
          obtain ⟨g5, rfl, hg, _⟩ := o5.form (by omega)
          exact ⟨g5, rfl, o5.cap_', by omega, hg, o5.ints⟩
        subst a5
        clear b5 P4 D4 B4 p40 p41
        go_wp2_with fail
        refine (foundBy_any _ _ _ cs root g5 0 n5 c5 w.heap.size (pathOf (sb key)) w5.heap.size w5 Try.enterAt l5 i5 (Nat.le_refl _) (by omega) (tells_at w2.heap.size w.heap.size w5.heap.size R ns cs RT.out) ⟨P5.out, D5.out⟩ y5).mono ?_
        rintro e w6 ⟨v, k, rfl, ⟨f, way, hd6, _⟩, t6⟩
        have B6 : Below w.heap.size w w6 := B5.out.trans (t6.below B5.out.size (fun k hk e => by omega))
        clear t6
        go_wp2
        go_ret2
        exact ⟨v, k, rfl, .inr ⟨⟨RT.out, IK.out, by have := HR.out; omega⟩, ⟨f, way, hd6⟩⟩, B6⟩
  · subst hR0
    subst hp0
    clear b3
    have p30 := P3.out.cell 0
    have p31 := P3.out.cell 1
    have pf := P3.out.free
    unfold SR.kv at p30
    unfold SR.vv at p31
    simp [SR0] at p30 p31
    have hno := Lib.hid hno
    simp only [SR0, List.length_nil] at hw3 ⊢
    go_wp2
    go_ret2
    have s5 := set2 P3.out (.slice none 0 0) (.slice none 0 0)
    exact ⟨noStr, 3, rfl, .inl ⟨fun h => hno.out h.1, rfl, rfl⟩, B3.out.trans (s5.2.below (by omega) (fun k hk e => by omega))⟩
end Go.Proofs.Ytpgmiokdlloinaa

-- Bss: Slices of slices of bytes: one that reads as a list of texts of bytes; one that the call made and may write into; no statement of the program is proved here.
namespace Go.Proofs.Ytpgmiokdlloinaa
set_option maxRecDepth 20000
set_option linter.unusedVariables false
set_option linter.unusedSimpArgs false
open Go.RowKit

/-- the i-th of some rows of bytes. -/
def be (bs : List (List Int)) (i : Nat) : List Int := bs[i]?.getD []
theorem be_set (bs : List (List Int)) (k : Nat) (x : List Int) (i : Nat) (hk : k < bs.length) : be (bs.set k x) i = if i = k then x else be bs i := by
  unfold be
  by_cases h : i = k
  · subst h
    rw [if_pos rfl, List.getElem?_set_self hk]; rfl
  · rw [if_neg h, List.getElem?_set_ne (by omega)]
theorem be_append (bs : List (List Int)) (x : List Int) (i : Nat) : be (bs ++ [x]) i = if i = bs.length then x else be bs i := by
  unfold be
  by_cases h : i = bs.length
  · subst h
    simp
  · rw [if_neg h]
    rcases Nat.lt_or_ge i bs.length with h1 | h1
    · rw [List.getElem?_append_left h1]
    · rw [List.getElem?_eq_none (by simp; omega), List.getElem?_eq_none (by omega)]
theorem be_take (bs : List (List Int)) (k : Nat) (h : k < bs.length) : bs.take (k + 1) = bs.take k ++ [be bs k] := by
  unfold be
  rw [List.take_succ_eq_append_getElem h, List.getElem?_eq_getElem h]; rfl

/-- the slice value '.slice A n c' of slices of bytes reads as bs, below block B. -/
def Bss (w : World) (B : Nat) (A : Option Addr) (n : Nat) (bs : List (List Int)) : Prop :=
  bs.length = n ∧ (0 < n → ∃ b off, A = some ⟨b, off, none⟩ ∧ b < B ∧ ∀ i, i < n → ∃ Ai ni ci, w.cell? ⟨b, off + i, none⟩ = some (.slice Ai ni ci) ∧ ni ≤ ci ∧ (Ai = none → ci = 0) ∧ Byts w B Ai ni (be bs i))
section
variable {w w' : World} {B B' n : Nat} {A : Option Addr} {bs : List (List Int)}
theorem Bss.none_ : Bss w B A 0 [] := ⟨rfl, fun h => absurd h (by omega)⟩
theorem Bss.at_ {k : Nat} (h : Bss w B A n bs) (hk : k < n) : ∃ b off Ai ni ci, A = some ⟨b, off, none⟩ ∧ b < B ∧ w.cell? ⟨b, off + k, none⟩ = some (.slice Ai ni ci) ∧ ni ≤ ci ∧ (Ai = none → ci = 0) ∧ Byts w B Ai ni (be bs k) := by
  obtain ⟨b, off, e, hb, hc⟩ := h.2 (by omega)
  obtain ⟨Ai, ni, ci, h1, h2, h3, h4⟩ := hc k hk
  exact ⟨b, off, Ai, ni, ci, e, hb, h1, h2, h3, h4⟩
theorem Bss.keep (h : Bss w B A n bs) (hk : ∀ p : Addr, p.block < B → w'.cell? p = w.cell? p) : Bss w' B A n bs :=
  ⟨h.1, fun hn => by
    obtain ⟨b, off, e, hb, hc⟩ := h.2 hn
    refine ⟨b, off, e, hb, fun i hi => ?_⟩
    obtain ⟨Ai, ni, ci, h1, h2, h3, h4⟩ := hc i hi
    exact ⟨Ai, ni, ci, (hk _ hb).trans h1, h2, h3, h4.keep hk⟩⟩
theorem Bss.more (h : Bss w B A n bs) (hB : B ≤ B') : Bss w B' A n bs :=
  ⟨h.1, fun hn => by
    obtain ⟨b, off, e, hb, hc⟩ := h.2 hn
    refine ⟨b, off, e, by omega, fun i hi => ?_⟩
    obtain ⟨Ai, ni, ci, h1, h2, h3, h4⟩ := hc i hi
    exact ⟨Ai, ni, ci, h1, h2, h3, h4.more hB⟩⟩
theorem Bss.below (h : Bss w B A n bs) (hb : Below B w w') : Bss w' B A n bs := h.keep fun _ hp => hb.cell hp
theorem Bss.drewN (h : Bss w B A n bs) (k : Nat) : Bss (w.drewN k) B A n bs := h.below (below_drewN (Below.refl _ _) k)
theorem Bss.alloc (h : Bss w B A n bs) (hB : B ≤ w.heap.size) (o : Obj) : Bss (w.alloc o) B A n bs := h.keep fun p hp => World.cell?_alloc_lt w o p (by omega)
end

theorem Try.infoBs : (Try.prog.info? 64).map (fun i => (i.zero, i.size, i.bytes)) = some (some (.slice none 0 0), 1, 24) := by kernel_rfl

/-- what stands in a row of slices. -/
def bvs (n : Nat) (sl : Nat → Sub) : List Value := (List.range n).map fun i => (sl i).v
theorem bvs_at (n : Nat) (sl : Nat → Sub) (j : Nat) (h : j < n) : (bvs n sl)[j]? = some (sl j).v := by simp [bvs, h]
theorem bvs_append (n : Nat) (sl : Nat → Sub) (x : Sub) : bvs n sl ++ [x.v] = bvs (n + 1) (fun i => if i = n then x else sl i) := by
  apply List.ext_getElem?
  intro j
  by_cases hj : j < n
  · rw [List.getElem?_append_left (by simp [bvs]; omega), bvs_at _ _ j hj, bvs_at _ _ j (by omega)]
    simp only [show ¬ j = n by omega, if_false]
  · rw [List.getElem?_append_right (by simp [bvs]; omega)]
    have hl2 : (bvs n sl).length = n := by simp [bvs]
    rw [hl2]
    by_cases h0 : j = n
    · subst h0
      rw [bvs_at _ _ _ (by omega)]; simp
    · rw [List.getElem?_eq_none (by simp; omega), List.getElem?_eq_none (by simp [bvs]; omega)]

/-- the slices in a row of n are of the call's own, each in a block of its own, of the blocks from lo to hi, none of them g. -/
structure SubB (w : World) (lo hi : Nat) (g : Option Nat) (n : Nat) (bs : List (List Int)) (sl : Nat → Sub) : Prop where
  mine : ∀ i, i < n → Mine w lo (sl i).A (sl i).n (sl i).c (be bs i)
  apart : ∀ i j, i < n → j < n → i ≠ j → ∀ b, (sl i).v.ownBlock = some b → (sl j).v.ownBlock ≠ some b
  other : ∀ i, i < n → ∀ b, (sl i).v.ownBlock = some b → g ≠ some b
  under : ∀ i, i < n → ∀ b, (sl i).v.ownBlock = some b → b < hi
/-- the slice '.slice A n c' of slices of bytes is of the call's own, with all that it holds, in blocks from lo to hi, and reads as bs. -/
def OwnBs (w : World) (lo hi : Nat) (A : Option Addr) (n c : Nat) (bs : List (List Int)) : Prop :=
  bs.length = n ∧ (∀ b, (Value.slice A n c).ownBlock = some b → b < hi) ∧ ∃ sl, w.ownsRow lo 64 1 (.slice A n c) n (bvs n sl) ∧ SubB w lo hi (Value.slice A n c).ownBlock n bs sl
section
variable {w w' : World} {lo hi hi' n c g : Nat} {A : Option Addr} {bs : List (List Int)}
theorem OwnBs.nil (w : World) (lo hi : Nat) : OwnBs w lo hi none 0 0 [] := ⟨rfl, fun b h => by simp [Value.ownBlock] at h, fun _ => ⟨none, 0, 0, []⟩, World.ownsRow_nil _ _ _ _, fun i h => by omega, fun i j h => by omega, fun i h => by omega, fun i h => by omega⟩
theorem OwnBs.len (h : OwnBs w lo hi A n c bs) : bs.length = n := h.1
theorem OwnBs.touch {S : Nat → Prop} (h : OwnBs w lo hi A n c bs) (t : Touch S w w') (hn : ∀ b, lo ≤ b → b < hi → ¬ S b) : OwnBs w' lo hi A n c bs := by
  obtain ⟨hl, hu, sl, hr, hs⟩ := h
  exact ⟨hl, hu, sl, own_touch hr t (fun b hb => hn b (hr.lt b hb).1 (hu b hb)), fun i hi => (hs.mine i hi).touch t (fun b hb => hn b ((hs.mine i hi).1.lt b hb).1 (hs.under i hi b hb)), hs.apart, hs.other, hs.under⟩
theorem OwnBs.below (h : OwnBs w lo hi A n c bs) (hb : Below hi w w') : OwnBs w' lo hi A n c bs :=
  h.touch (S := fun k => hi ≤ k) ⟨hb.os, hb.tape, hb.output, hb.size, fun k hk hs => hb.block k (by omega)⟩ (fun b _ h1 h2 => by omega)
theorem OwnBs.more (h : OwnBs w lo hi A n c bs) (hh : hi ≤ hi') : OwnBs w lo hi' A n c bs := by
  obtain ⟨hl, hu, sl, hr, hs⟩ := h
  exact ⟨hl, fun b hb => Nat.lt_of_lt_of_le (hu b hb) hh, sl, hr, hs.mine, hs.apart, hs.other, fun i hi b hb => Nat.lt_of_lt_of_le (hs.under i hi b hb) hh⟩
theorem OwnBs.base {lo' : Nat} (h : OwnBs w lo hi A n c bs) (hh : lo' ≤ lo) : OwnBs w lo' hi A n c bs := by
  obtain ⟨hl, hu, sl, hr, hs⟩ := h
  refine ⟨hl, hu, sl, ⟨hr.1, ?_⟩, fun i hi => (hs.mine i hi).base hh, hs.apart, hs.other, hs.under⟩
  rcases hr.2 with h | ⟨g, cap, cur, hv, hg, r⟩
  · exact .inl h
  · exact .inr ⟨g, cap, cur, hv, by omega, r⟩
theorem OwnBs.form (h : OwnBs w lo hi A n c bs) (hn : 0 < n) : ∃ g, A = some ⟨g, 0, none⟩ ∧ lo ≤ g ∧ g < hi ∧ g < w.heap.size := by
  obtain ⟨hl, hu, sl, hr, hs⟩ := h
  obtain ⟨g, cap, hv, h1, h2⟩ := World.ownsRow.form hr hn
  injection hv with hA
  subst hA
  exact ⟨g, rfl, h1, hu g (by simp [Value.ownBlock]), h2⟩
theorem OwnBs.bss (h : OwnBs w lo hi A n c bs) : Bss w hi A n bs := by
  refine ⟨h.1, fun hn => ?_⟩
  obtain ⟨g, rfl, _, h2, _⟩ := h.form hn
  obtain ⟨hl, hu, sl, hr, hs⟩ := h
  refine ⟨g, 0, rfl, h2, fun i hi => ?_⟩
  have m := hs.mine i hi
  refine ⟨(sl i).A, (sl i).n, (sl i).c, ?_, mine_cap m, mine_none m, m.len, m.2, fun hp => ?_⟩
  · rw [Nat.zero_add, World.ownsRow.cellAt hr _ (by omega), bvs_at _ _ _ (by omega)]; rfl
  · obtain ⟨b, off, e, hb, hc⟩ := m.byts.2.2 hp
    refine ⟨b, off, e, ?_, hc⟩
    obtain ⟨g', e', _⟩ := m.form hp
    rw [e] at e'
    cases e'
    exact hs.under i hi b (by unfold Sub.v; rw [e]; simp [Value.ownBlock])
theorem OwnBs.free (h : OwnBs w lo hi (some ⟨g, 0, none⟩) n c bs) (k : Nat) : w.frozen? ⟨g, k, none⟩ = false := by
  obtain ⟨hl, hu, sl, hr, hs⟩ := h
  exact World.ownsRow.frozenAt hr k
/-- other bytes in the k-th slice. -/
theorem OwnBs.inner {k : Nat} (h : OwnBs w lo hi (some ⟨g, 0, none⟩) n c bs) (hk : k < n) :
    ∃ Ai ni ci, w.cell? ⟨g, k, none⟩ = some (.slice Ai ni ci) ∧ Mine w lo Ai ni ci (be bs k) ∧ (∀ b, (Value.slice Ai ni ci).ownBlock = some b → lo ≤ b ∧ b < hi) ∧
      ∀ w' bs', Mine w' lo Ai ni ci bs' → w.grownBy w' (Value.slice Ai ni ci).ownBlock → OwnBs w' lo hi (some ⟨g, 0, none⟩) n c (bs.set k bs') := by
  obtain ⟨hl, hu, sl, hr, hs⟩ := h
  refine ⟨(sl k).A, (sl k).n, (sl k).c, ?_, hs.mine k hk, fun b hb => ⟨((hs.mine k hk).1.lt b hb).1, hs.under k hk b hb⟩, fun w' bs' hm hg => ?_⟩
  · rw [World.ownsRow.cellAt hr _ (by omega), bvs_at _ _ _ (by omega)]; rfl
  · have t := Touch.of_grown hg
    refine ⟨by simp [hl], hu, sl, ?_, ⟨fun i hi1 => ?_, hs.apart, hs.other, hs.under⟩⟩
    · refine own_touch hr t (fun b hb e => ?_)
      have : g = b := by simpa [Value.ownBlock] using hb
      subst this
      exact hs.other k hk g e.symm (by simp [Value.ownBlock])
    · rw [be_set _ _ _ _ (by omega)]
      by_cases h : i = k
      · subst h; rw [if_pos rfl]; exact hm
      · rw [if_neg h]
        exact (hs.mine i hi1).touch t (fun b hb e => hs.apart i k hi1 hk h b hb e.symm)
end
/-- one more slice, made since. -/
theorem OwnBs.pushed {w w' : World} {lo hi hi' n c n' c' g cap : Nat} {A A' : Option Addr} {cs : List (List Int)} {bs : List Int} {sl : Nat → Sub}
    (hl : cs.length = n) (hu : ∀ b, (Value.slice A n c).ownBlock = some b → b < hi) (hs : SubB w lo hi (Value.slice A n c).ownBlock n cs sl) (hx : Mine w lo A' n' c' bs)
    (hxb : ∀ b, (Value.slice A' n' c').ownBlock = some b → hi ≤ b)
    (hr : w'.ownsRow lo 64 1 (.slice (some ⟨g, 0, none⟩) (n + 1) cap) (n + 1) (bvs n sl ++ [.slice A' n' c'])) (hg : w.grownBy w' (Value.slice A n c).ownBlock)
    (hgo : (Value.slice A n c).ownBlock = some g ∨ g = w.heap.size) (hh : hi ≤ w.heap.size) (hi1 : w'.heap.size ≤ hi') : OwnBs w' lo hi' (some ⟨g, 0, none⟩) (n + 1) cap (cs ++ [bs]) := by
  have hsz := hg.size
  have t := Touch.of_grown hg
  refine ⟨by simp [hl], fun b hb => ?_, fun i => if i = n then ⟨A', n', c', bs⟩ else sl i, ?_, ?_⟩
  · have := (World.ownsRow.lt hr b hb).2
    omega
  · rw [← bvs_append n sl ⟨A', n', c', bs⟩]; exact hr
  · have hlt : ∀ i, i < n → ∀ b, (sl i).v.ownBlock = some b → b < w.heap.size := fun i hi b hb => (World.ownsRow.lt (hs.mine i hi).1 b hb).2
    have hxl : ∀ b, (Value.slice A' n' c').ownBlock = some b → b < w.heap.size := fun b hb => (World.ownsRow.lt hx.1 b hb).2
    refine ⟨fun i hi => ?_, fun i j hi hj hij b => ?_, fun i hi b => ?_, fun i hi b => ?_⟩
    · rw [be_append, hl]
      by_cases h : i = n
      · simp only [h, if_true]
        exact hx.touch t (fun b hb e => by have := hxb b hb; have := hu b e.symm; omega)
      · simp only [h, if_false]
        exact (hs.mine i (by omega)).touch t (fun b hb e => hs.other i (by omega) b hb e.symm)
    · by_cases h : i = n
      · have h2 : ¬ j = n := by omega
        simp only [h, h2, if_true, if_false]
        intro e1 e2
        have := hxb b e1
        have := hs.under j (by omega) b e2
        omega
      · by_cases h2 : j = n
        · simp only [h, h2, if_true, if_false]
          intro e1 e2
          have := hxb b e2
          have := hs.under i (by omega) b e1
          omega
        · simp only [h, h2, if_false]
          exact hs.apart i j (by omega) (by omega) hij b
    · have hown : (Value.slice (some (⟨g, 0, none⟩ : Addr)) (n + 1) cap).ownBlock = some g := by simp [Value.ownBlock]
      rw [hown]
      by_cases h : i = n
      · simp only [h, if_true]
        intro e1 e2
        cases e2
        have := hxb _ e1
        have := hxl _ e1
        rcases hgo with e | e
        · have := hu _ e; omega
        · omega
      · simp only [h, if_false]
        intro e1 e2
        cases e2
        rcases hgo with e | e
        · exact hs.other i (by omega) _ e1 e
        · have := hlt i (by omega) _ e1; omega
    · by_cases h : i = n
      · simp only [h, if_true]
        intro e1
        have := hxl b e1
        omega
      · simp only [h, if_false]
        intro e1
        have := hlt i (by omega) b e1
        omega
theorem OwnBs.made0 (w : World) : OwnBs (w.alloc (.cells #[] 64)) w.heap.size (w.heap.size + 1) (some ⟨w.heap.size, 0, none⟩) 0 0 [] := by
  refine ⟨rfl, fun b h => by simp [Value.ownBlock] at h; omega, fun _ => ⟨none, 0, 0, []⟩, ?_, fun i h => by omega, fun i j h => by omega, fun i h => by omega, fun i h => by omega⟩
  exact World.ownsRow_lit w #[] 0 (Nat.le_refl _) (by unfold maxLen; omega) rfl
/-- the call answered with slices of bytes of its own. -/
def GaveBs (w : World) (bs : List (List Int)) (e : Ending) (w' : World) : Prop := ∃ A n c, e = .returned (.slice A n c) ∧ OwnBs w' w.heap.size w'.heap.size A n c bs ∧ Below w.heap.size w w'
end Go.Proofs.Ytpgmiokdlloinaa
