/- Several texts in one, in build order: CellsOf, CellQ, CellR, CellT, CellU, ReachS, ReachL, ReachO, InsB. -/
import Derived.Test.YtbepfgmonadadaaPkE
-- CellsOf: What the program makes of its list of nodes: cells.
namespace Go.Proofs.Ytbepfgmonadadaa
set_option maxRecDepth 20000
set_option linter.unusedVariables false
set_option linter.unusedSimpArgs false
open Go.RowKit Go.Shelf
attribute [local go_sem] Oper.semAt_some

def cellAt (ps : List (Int × NV)) (k : Nat) : Int × List Int := ((pAt ps k).1, nodeBytes (pAt ps k).2.nd)
/-- the cells of a list. -/
def cellsL (ps : List (Int × NV)) : List (Int × List Int) := ps.map fun p => (p.1, nodeBytes p.2.nd)
theorem cells_range (ps : List (Int × NV)) : (List.range ps.length).map (cellAt ps) = cellsL ps := by
  apply List.ext_getElem?
  intro i
  unfold cellsL cellAt pAt
  by_cases h : i < ps.length
  · simp [h]
  · simp [h]
theorem own_cells {w : World} {lo size n : Nat} {e : TypeId} {v : Value} {xs : List Value} (h : w.ownsRow lo e size v n xs) (g : Nat) (hg : v.ownBlock = some g) : ∃ cur z, w.heap[g]? = some (.cells cur e z) := by
  rcases h.2 with ⟨rfl, _⟩ | ⟨g', cap, cur, rfl, _, h2, _⟩
  · simp [Value.ownBlock] at hg
  · simp [Value.ownBlock] at hg
    subst hg
    exact ⟨_, _, h2⟩
/-- cells of the call's own abide the turn of what is no cells. -/
theorem OwnC.abide {X Y : World} {row : Option Nat} {lo n c : Nat} {A : Option Addr} {cs : List (Int × List Int)} (h : OwnC X lo X.heap.size A n c cs) (hg : X.grownBy Y row) (hr : ∀ r, row = some r → ∃ o : Obj, X.heap[r]? = some o ∧ o.isCells = false) : OwnC Y lo Y.heap.size A n c cs := by
  obtain ⟨hl, hu, sl, hrow, hs⟩ := h
  have t := Touch.of_grown hg
  have no : ∀ {size k : Nat} {e : TypeId} {v : Value} {xs : List Value}, X.ownsRow lo e size v k xs → ∀ g, v.ownBlock = some g → ¬ (some g = row) := fun ho g hv e => by
    obtain ⟨o, h1, h2⟩ := hr g e.symm
    obtain ⟨cur, z, h3⟩ := own_cells ho g hv
    rw [h1] at h3; cases h3; cases h2
  exact ⟨hl, fun b hb => Nat.lt_of_lt_of_le (hu b hb) hg.size, sl, own_touch hrow t (no hrow), fun i hi => (hs.mine i hi).touch t (no (hs.mine i hi).1), hs.apart, hs.other, fun i hi b hb => Nat.lt_of_lt_of_le (hs.under i hi b hb) hg.size⟩
theorem cells_push {W w1 w6 : World} {cb n₀ b0 q c n1 c1 g6 c6 : Nat} {A A1 : Option Addr} {cs : List (Int × List Int)} {bs : List Int} {m : Int} {sl : Nat → Sub} {C : Obj} (hcb : cb < n₀) (hb0 : b0 ≤ cb) (hW : n₀ ≤ W.heap.size)
    (bC : Boxed W cb 25 (.slice A q c)) (hl : cs.length = q) (hu : ∀ b, (Value.slice A q c).ownBlock = some b → b < W.heap.size) (hrow : W.ownsRow n₀ 60 2 (.slice A q c) q (cvs q cs sl)) (hs : Subs W n₀ W.heap.size (Value.slice A q c).ownBlock q cs sl)
    (b1 : Below W.heap.size W w1) (mx : Mine w1 W.heap.size A1 n1 c1 bs)
    (hr6 : w6.ownsRow n₀ 60 2 (.slice (some ⟨g6, 0, none⟩) (q + 1) c6) (q + 1) (cvs q cs sl ++ [.int .i64 m, .slice A1 n1 c1])) (hg6 : (w1.alloc C).grownBy w6 (Value.slice A q c).ownBlock)
    (hw6 : (Value.slice A q c).ownBlock = some g6 ∨ g6 = (w1.alloc C).heap.size) :
    Boxed w6 cb 25 (.slice A q c) ∧ (∀ B, KeepsFrom B W (w6.setCell ⟨cb, 0, none⟩ (.slice (some ⟨g6, 0, none⟩) (q + 1) c6))) ∧ KpB cb n₀ W (w6.setCell ⟨cb, 0, none⟩ (.slice (some ⟨g6, 0, none⟩) (q + 1) c6)) ∧
      Below b0 W (w6.setCell ⟨cb, 0, none⟩ (.slice (some ⟨g6, 0, none⟩) (q + 1) c6)) ∧ Boxed (w6.setCell ⟨cb, 0, none⟩ (.slice (some ⟨g6, 0, none⟩) (q + 1) c6)) cb 25 (.slice (some ⟨g6, 0, none⟩) (q + 1) c6) ∧
      OwnC (w6.setCell ⟨cb, 0, none⟩ (.slice (some ⟨g6, 0, none⟩) (q + 1) c6)) n₀ (w6.setCell ⟨cb, 0, none⟩ (.slice (some ⟨g6, 0, none⟩) (q + 1) c6)).heap.size (some ⟨g6, 0, none⟩) (q + 1) c6 (cs ++ [(m, bs)]) := by
  have s1 := b1.size
  have ba : Below w1.heap.size w1 (w1.alloc C) := (Below.refl _ _).alloc (Nat.le_refl _) _
  have b2 : Below W.heap.size W (w1.alloc C) := b1.trans (ba.mono s1)
  have s2 : (w1.alloc C).heap.size = w1.heap.size + 1 := by simp
  have t6 := Touch.of_grown hg6
  have s6 := hg6.size
  have hng : ∀ b, (Value.slice A q c).ownBlock = some b → n₀ ≤ b := fun b hb => (hrow.lt b hb).1
  have bC6 : Boxed w6 cb 25 (.slice A q c) := (t6.block cb (by have := bC.lt; omega) (fun e => by have := hng _ e.symm; omega)).trans ((b2.block cb bC.lt).trans bC)
  obtain ⟨w7, hw7⟩ : ∃ w7, w6.setCell ⟨cb, 0, none⟩ (.slice (some ⟨g6, 0, none⟩) (q + 1) c6) = w7 := ⟨_, rfl⟩
  have t7 : Touch (fun g => g = cb) w6 w7 := by rw [← hw7]; exact touch_set w6 cb 0 _ rfl
  have s7 := t7.size
  have bC7 : Boxed w7 cb 25 (.slice (some ⟨g6, 0, none⟩) (q + 1) c6) := by rw [← hw7]; exact bC6.set _
  have tt : Touch (fun g => g = cb ∨ (Value.slice A q c).ownBlock = some g) W w7 := ((Touch.of_below b2).trans (t6.mono (fun k hk => .inr hk.symm))).trans (t7.mono (fun k hk => .inl hk))
  have hs2 : Subs (w1.alloc C) n₀ W.heap.size (Value.slice A q c).ownBlock q cs sl := ⟨fun i hi => (hs.mine i hi).below b2, hs.apart, hs.other, hs.under⟩
  have o6 := OwnC.pushed hl hu hs2 ((mx.below ba).base hW) (fun b hb => (mx.1.lt b hb).1) hr6 hg6 hw6 (by omega) (Nat.le_refl _)
  have o7 : OwnC w7 n₀ w7.heap.size (some ⟨g6, 0, none⟩) (q + 1) c6 (cs ++ [(m, bs)]) := (o6.touch t7 (fun b h1 h2 e => by omega)).more s7
  rw [hw7]
  refine ⟨bC6, fun B => ⟨tt.size, fun k o hk ho hn => ?_⟩, ⟨tt.size, fun k hk hc => tt.block k (by omega) (fun e => e.elim hc (fun e => by have := hng _ e; omega))⟩, tt.below (by omega) (fun k hk e => e.elim (fun e => by omega) (fun e => by have := hng _ e; omega)), bC7, o7⟩
  refine (tt.block k (Array.getElem?_eq_some_iff.1 ho).1 (fun e => ?_)).trans ho
  rcases e with e | e
  · subst e
    rw [show W.heap[k]? = _ from bC] at ho; cases ho; cases hn
  · obtain ⟨cur, z, h3⟩ := own_cells hrow k e
    rw [h3] at ho; cases ho; cases hn
set_option maxHeartbeats 4000000 in
theorem cellsOf_any (lo : Nat) (R : SR) (ps : List (Int × NV)) (w : World) (hS : SLN w lo R ps) :
    Calls Try.prog 52 #[.agg #[R.kv ps.length, R.vv ps.length]] w fun e w' => ∃ A n c, e = .returned (.slice A n c) ∧ OwnC w' w.heap.size w'.heap.size A n c (cellsL ps) ∧ Below w.heap.size w w' := by
  have hlen := hS.len
  have HS := Lib.hid hS
  have hn0 : ∀ x, NodeIn w w.heap.size (pAt ps x).2.v (pAt ps x).2.nd := fun x => by
    by_cases h : x < ps.length
    · exact hS.nodes _ (pAt_mem ps x h)
    · have e : pAt ps x = (0, nv0) := by unfold pAt; rw [List.getElem?_eq_none (by omega)]; rfl
      rw [e]
      exact ⟨none, 0, 0, none, 0, 0, rfl, by omega, by omega, by decide, Ints.none_, Kids.none_⟩
  have HN := Lib.hid hn0
  clear hS hn0
  obtain ⟨i0, hi0, hz0, hz1, hz2⟩ := info_parts Try.infoC
  refine (callsIn_wide (n := 6)).1 ?_
  refine callsIn_of_wp_marks Try.func52 rfl trivial ?_ rfl
  simp only [Try.ntmps52, List.size_toArray, List.length_cons, List.length_nil, Nat.reduceAdd, Nat.reduceSub, Array.replicate_succ, Array.replicate_zero, List.push_toArray, List.append_toArray, List.nil_append, List.cons_append]
  gi_wp2_with (refine ⟨trivial, ?_⟩; gi_at_call 77; refine (callsIn_wide.2 (allN_any _ _)).mono ?_; rintro e w' ⟨rfl, rfl⟩)
  obtain ⟨W0, hW0⟩ : ∃ W0, ((w.alloc (.cells #[R.kv ps.length, R.vv ps.length] 65)).alloc (.cells #[.slice none 0 0] 25)).alloc (.cells #[.pointer (some ⟨w.heap.size, 0, none⟩)] 80) = W0 := ⟨_, rfl⟩
  have bR : Box W0 w.heap.size 65 #[R.kv ps.length, R.vv ps.length] := hW0 ▸ heap3_0 _ _ _ _
  have bC : Boxed W0 (w.heap.size + 1) 25 (.slice none 0 0) := hW0 ▸ heap3_1 _ _ _ _
  have bP : Box W0 (w.heap.size + 1 + 1) 80 #[.pointer (some ⟨w.heap.size, 0, none⟩)] := hW0 ▸ heap3_2 _ _ _ _
  have hsz : W0.heap.size = w.heap.size + 3 := hW0 ▸ size3 _ _ _ _
  have hB0 : Below w.heap.size w W0 := hW0 ▸ below3 _ _ _ _
  rw [hW0]
  clear hW0
  refine wpIn_rangeFunc_ownH rfl (by omega) (gf := 101) (lb := #[.pointer (some ⟨w.heap.size + 1 + 1, 0, none⟩)]) rfl trivial (enters_of Try.func101 (by kernel_rfl) rfl)
    (allN_stops 5 (by omega) (w.heap.size + 1 + 1) (w.heap.size + 3) (w.heap.size + 1) w.heap.size lo R ps W0 (by omega) bP (by omega) (by omega) bR (by omega) (by omega) (HS.out.below hB0) (fun g hg => by have := (HS.out.lt g hg).2; omega))
    (fun h k => h.trans k) (KpB.put (by omega)) (Below.refl _ _) (fun _ => rfl)
    (fun pre W => ∃ A q c, Boxed W (w.heap.size + 1) 25 (.slice A q c) ∧ OwnC W (w.heap.size + 3) W.heap.size A q c (pre.map (cellAt ps)) ∧ KpB (w.heap.size + 1) (w.heap.size + 3) W0 W ∧ Below w.heap.size w W)
    (fun _ _ _ => False)
    (fun pre X Y row hs hg hr => by
      obtain ⟨A, q, c, h1, h2, h3, h4⟩ := hs
      refine ⟨A, q, c, h1.kept hg (fun e => ?_), h2.abide hg (fun r e => (hr r e).2), h3.trans ⟨hg.size, fun k hk _ => hg.block k (by have := h3.1; omega) (fun e => by have := (hr k e.symm).1; omega)⟩, h4.grown hg (by have := h4.size; omega) (fun k e => by have := (hr k e).1; omega)⟩
      obtain ⟨_, o, ho, hc⟩ := hr _ e.symm
      rw [show X.heap[w.heap.size + 1]? = _ from h1] at ho; cases ho; cases hc)
    (fun _ _ _ _ _ hs _ _ => hs)
    ⟨none, 0, 0, bC, OwnC.nil _ _ _, KpB.refl _ _ _, hB0⟩
    (fun x a' W => ∃ Bx, w.heap.size + 1 + 1 < Bx ∧ Box W Bx 32 #[.int .i64 (pAt ps x).2.nd.kind, .slice (pAt ps x).2.Ap (pAt ps x).2.np (pAt ps x).2.cp, .slice (pAt ps x).2.Ak (pAt ps x).2.nk (pAt ps x).2.ck, .string (pAt ps x).2.nd.val] ∧ a' = { tmps := #[.agg #[R.kv ps.length, R.vv ps.length], .pointer (some ⟨w.heap.size, 0, none⟩), .slice none 0 0, .pointer (some ⟨w.heap.size + 1, 0, none⟩), .int .i64 (pAt ps x).1, .pointer (some ⟨Bx, 0, none⟩), .func (.func 101) #[] #[.pointer (some ⟨w.heap.size + 1 + 1, 0, none⟩)], .int .i64 (pAt ps x).1, .agg #[.int .i64 (pAt ps x).2.nd.kind, .slice (pAt ps x).2.Ap (pAt ps x).2.np (pAt ps x).2.cp, .slice (pAt ps x).2.Ak (pAt ps x).2.nk (pAt ps x).2.ck, .string (pAt ps x).2.nd.val], undef, undef, undef, undef, undef, undef, undef, undef], defers := [] })
    (fun x a' _ X Y row hs hg hr => by obtain ⟨Bx, h1, h2, h3⟩ := hs; exact ⟨Bx, h1, (hg.block Bx h2.lt (fun e => by obtain ⟨_, o, ho, hc⟩ := hr Bx e.symm; rw [show X.heap[Bx]? = _ from h2] at ho; cases ho; cases hc)).trans h2, h3⟩)
    ?assign ?body ?done ?stop
  case assign =>
    rintro l pre x W K ⟨A, q, c, h1, h2, h3, h4⟩ hK
    have hbx : w.heap.size + 3 ≤ W.heap.size := by have := h3.1; omega
    unfold encN NV.v
    gi_wp2
    exact hK _ _ ((KeepsOthers.alloc _ _).from _) ⟨by simp, fun k hk _ => ((Below.refl W.heap.size W).alloc (Nat.le_refl _) _).block k (by omega)⟩ ⟨A, q, c, h1.alloc _, (h2.below ((Below.refl _ _).alloc (Nat.le_refl _) _)).more (by simp), h3.trans ⟨by simp, fun k hk _ => ((Below.refl W.heap.size W).alloc (Nat.le_refl _) _).block k (by omega)⟩, h4.alloc (by omega) _⟩ ⟨W.heap.size, by omega, heap_alloc_new _ _, rfl⟩
  case body =>
    rintro l pre x a' W hl ⟨r, hr⟩ ⟨A, q, c, hbc, hoc, hkp, hbw⟩ ⟨Bx, hBx, xb, rfl⟩ hlt
    have hW3 : w.heap.size + 3 ≤ W.heap.size := by have := hkp.1; omega
    have c0 := hbc.cell
    have f0 := hbc.frozen
    have x0 := xb.cell 0
    have x1 := xb.cell 1
    have x2 := xb.cell 2
    have x3 := xb.cell 3
    have hlb := hbc.lt
    have hlx := xb.lt
    simp at x0 x1 x2 x3
    have BC := Lib.hid hbc
    have KP := Lib.hid hkp
    have BW := Lib.hid hbw
    have NX := Lib.hid (show NodeIn W.drew w.heap.size (pAt ps x).2.v (pAt ps x).2.nd from (HN.out x).below hbw.drew)
    have hql := hoc.len
    simp at hql
    obtain ⟨h1, h2, sl, h3, h4⟩ := hoc
    have HL := Lib.hid h1
    have HU := Lib.hid h2
    have HROW := Lib.hid h3
    have HSUB := Lib.hid h4
    clear h1 h2 h3 h4 hbc hkp hbw xb hr
    gi_wp2
    refine region_round (by kernel_rfl) (by kernel_rfl) (by rintro ⟨_, _, h⟩; exact h) ?_
    change wpAny _ _ _ _ _ _ _ _
    refine wpAny_take (i := 1) (v := ?tv) rfl (by kernel_rfl) (by kernel_rfl) (by kernel_rfl) (fun _ _ _ h => h) (Or.inl ⟨by rfl, ?ty⟩) ?tk
    case ty =>
      intro w
      go_simp
      try (with_reducible rfl)
    refine wpAny_ready (rs := [0, 2]) (by kernel_rfl) (by simp) ?_
    refine AllReady.cons rfl (fun K hK => ?_) ?_
    · go_simp
      refine hK _ _ ?_
      clear hK K
      refine wpAny_ready (rs := [2]) (by kernel_rfl) (by simp) ?_
      refine AllReady.cons rfl (fun K hK => ?_) AllReady.nil
      go_simp
      refine hK _ _ ?_
      clear hK K
      refine wpAny_ready (rs := [3]) (by kernel_rfl) (by simp) ?_
      refine AllReady.cons rfl (fun K hK => ?_) AllReady.nil
      go_simp
      refine (implNodeBytes_any _ _ w.heap.size W.drew (Nat.le_trans BW.out.size (Nat.le_refl _)) NX.out).mono ?_
      rintro e w1 ⟨A1, n1, c1, rfl, m1, b1⟩
      have b1 : Below W.heap.size W w1 := (show Below W.heap.size W W.drew from (Below.refl _ _).drew).trans b1
      have hs1 : W.heap.size ≤ w1.heap.size := b1.size
      have c1' : w1.cell? ⟨w.heap.size + 1, 0, none⟩ = some (.slice A q c) := (b1.cell (p := ⟨w.heap.size + 1, 0, none⟩) BC.out.lt).trans BC.out.cell
      have hlb1 : w.heap.size + 1 < w1.heap.size := by omega
      have B1 := Lib.hid b1
      have M1 := Lib.hid (show Mine w1 W.heap.size A1 n1 c1 (nodeBytes (pAt ps x).2.nd) from m1)
      clear b1 m1
      refine hK _ _ ?_
      clear hK K
      refine wpAny_ready (rs := [4]) (by kernel_rfl) (by simp) ?_
      refine AllReady.cons rfl (fun K hK => ?_) AllReady.nil
      go_simp
      refine hK _ _ ?_
      clear hK K
      refine wpAny_ready (rs := [5]) (by kernel_rfl) (by simp) ?_
      refine AllReady.cons rfl (fun K hK => ?_) AllReady.nil
      go_simp
      refine hK _ _ ?_
      clear hK K
      refine wpAny_ready (rs := [6]) (by kernel_rfl) (by simp) ?_
      refine AllReady.cons rfl (fun K hK => ?_) AllReady.nil
      refine step_append_lies _ rfl _ _ 25 rfl (w.heap.size + 3) 60 i0 (.agg #[.int .i64 0, .slice none 0 0]) 2 32 Try.underlying25 hi0 hz0 hz1 hz2 rfl (by decide) (.slice A q c) q (cvs q (pre.map (cellAt ps)) sl) (by simp [Act.eval]) (own_touch (S := fun _ => False) HROW.out (Touch.of_below (B1.out.trans (((Below.refl w1.heap.size w1).alloc (Nat.le_refl _) _).mono hs1))) (fun _ _ h => h)) ⟨w1.heap.size, 0, none⟩ 1 1 [.int .i64 (pAt ps x).1, .slice A1 n1 c1] (by simp [Act.eval]) rfl (by
          intro j u hj
          match j, hj with
          | 0, hj => simp at hj; subst hj; simp [Addr.add]
          | 1, hj => simp at hj; subst hj; simp [Addr.add]) (by intro u hu; simp at hu; rcases hu with rfl | rfl <;> rfl) (by omega) (by unfold maxLen; omega) (by omega) (by simp; omega) _ rfl ?_
      intro g6 c6 w6 hown6 hgrow6 hwh6 hlt6
      have PF := cells_push (W := W) (w1 := w1) (b0 := w.heap.size) (n₀ := w.heap.size + 3) (cb := w.heap.size + 1) (by omega) (by omega) hW3 BC.out HL.out HU.out HROW.out HSUB.out B1.out M1.out hown6 hgrow6 hwh6
      have q6 := PF.1.cell
      have f6 := PF.1.frozen
      have PF := Lib.hid PF.2
      clear hown6 hgrow6 hwh6 hlt6
      go_simp
      refine hK _ _ ?_
      clear hK K
      refine wpAny_ready (rs := [7]) (by kernel_rfl) (by simp) ?_
      refine AllReady.cons rfl (fun K hK => ?_) AllReady.nil
      go_simp
      refine hK _ _ ?_
      clear hK K
      refine wpAny_done (by kernel_rfl) ?_ _
      exact ⟨PF.out.1 _, PF.out.2.1, _, _, _, PF.out.2.2.2.1, by rw [List.map_append]; exact PF.out.2.2.2.2, KP.out.trans PF.out.2.1, BW.out.trans PF.out.2.2.1⟩
    refine AllReady.cons rfl (fun K hK => ?_) AllReady.nil
    go_simp
    refine hK _ _ ?_
    clear hK K
    refine wpAny_ready (rs := [0, 3]) (by kernel_rfl) (by simp) ?_
    refine AllReady.cons rfl (fun K hK => ?_) ?_
    · go_simp
      refine hK _ _ ?_
      clear hK K
      refine wpAny_ready (rs := [3]) (by kernel_rfl) (by simp) ?_
      refine AllReady.cons rfl (fun K hK => ?_) AllReady.nil
      go_simp
      refine (implNodeBytes_any _ _ w.heap.size W.drew (Nat.le_trans BW.out.size (Nat.le_refl _)) NX.out).mono ?_
      rintro e w1 ⟨A1, n1, c1, rfl, m1, b1⟩
      have b1 : Below W.heap.size W w1 := (show Below W.heap.size W W.drew from (Below.refl _ _).drew).trans b1
      have hs1 : W.heap.size ≤ w1.heap.size := b1.size
      have c1' : w1.cell? ⟨w.heap.size + 1, 0, none⟩ = some (.slice A q c) := (b1.cell (p := ⟨w.heap.size + 1, 0, none⟩) BC.out.lt).trans BC.out.cell
      have hlb1 : w.heap.size + 1 < w1.heap.size := by omega
      have B1 := Lib.hid b1
      have M1 := Lib.hid (show Mine w1 W.heap.size A1 n1 c1 (nodeBytes (pAt ps x).2.nd) from m1)
      clear b1 m1
      refine hK _ _ ?_
      clear hK K
      refine wpAny_ready (rs := [4]) (by kernel_rfl) (by simp) ?_
      refine AllReady.cons rfl (fun K hK => ?_) AllReady.nil
      go_simp
      refine hK _ _ ?_
      clear hK K
      refine wpAny_ready (rs := [5]) (by kernel_rfl) (by simp) ?_
      refine AllReady.cons rfl (fun K hK => ?_) AllReady.nil
      go_simp
      refine hK _ _ ?_
      clear hK K
      refine wpAny_ready (rs := [6]) (by kernel_rfl) (by simp) ?_
      refine AllReady.cons rfl (fun K hK => ?_) AllReady.nil
      refine step_append_lies _ rfl _ _ 25 rfl (w.heap.size + 3) 60 i0 (.agg #[.int .i64 0, .slice none 0 0]) 2 32 Try.underlying25 hi0 hz0 hz1 hz2 rfl (by decide) (.slice A q c) q (cvs q (pre.map (cellAt ps)) sl) (by simp [Act.eval]) (own_touch (S := fun _ => False) HROW.out (Touch.of_below (B1.out.trans (((Below.refl w1.heap.size w1).alloc (Nat.le_refl _) _).mono hs1))) (fun _ _ h => h)) ⟨w1.heap.size, 0, none⟩ 1 1 [.int .i64 (pAt ps x).1, .slice A1 n1 c1] (by simp [Act.eval]) rfl (by
          intro j u hj
          match j, hj with
          | 0, hj => simp at hj; subst hj; simp [Addr.add]
          | 1, hj => simp at hj; subst hj; simp [Addr.add]) (by intro u hu; simp at hu; rcases hu with rfl | rfl <;> rfl) (by omega) (by unfold maxLen; omega) (by omega) (by simp; omega) _ rfl ?_
      intro g6 c6 w6 hown6 hgrow6 hwh6 hlt6
      have PF := cells_push (W := W) (w1 := w1) (b0 := w.heap.size) (n₀ := w.heap.size + 3) (cb := w.heap.size + 1) (by omega) (by omega) hW3 BC.out HL.out HU.out HROW.out HSUB.out B1.out M1.out hown6 hgrow6 hwh6
      have q6 := PF.1.cell
      have f6 := PF.1.frozen
      have PF := Lib.hid PF.2
      clear hown6 hgrow6 hwh6 hlt6
      go_simp
      refine hK _ _ ?_
      clear hK K
      refine wpAny_ready (rs := [7]) (by kernel_rfl) (by simp) ?_
      refine AllReady.cons rfl (fun K hK => ?_) AllReady.nil
      go_simp
      refine hK _ _ ?_
      clear hK K
      refine wpAny_done (by kernel_rfl) ?_ _
      exact ⟨PF.out.1 _, PF.out.2.1, _, _, _, PF.out.2.2.2.1, by rw [List.map_append]; exact PF.out.2.2.2.2, KP.out.trans PF.out.2.1, BW.out.trans PF.out.2.2.1⟩
    refine AllReady.cons rfl (fun K hK => ?_) AllReady.nil
    go_simp
    refine (implNodeBytes_any _ _ w.heap.size W.drew (Nat.le_trans BW.out.size (Nat.le_refl _)) NX.out).mono ?_
    rintro e w1 ⟨A1, n1, c1, rfl, m1, b1⟩
    have b1 : Below W.heap.size W w1 := (show Below W.heap.size W W.drew from (Below.refl _ _).drew).trans b1
    have hs1 : W.heap.size ≤ w1.heap.size := b1.size
    have c1' : w1.cell? ⟨w.heap.size + 1, 0, none⟩ = some (.slice A q c) := (b1.cell (p := ⟨w.heap.size + 1, 0, none⟩) BC.out.lt).trans BC.out.cell
    have hlb1 : w.heap.size + 1 < w1.heap.size := by omega
    have B1 := Lib.hid b1
    have M1 := Lib.hid (show Mine w1 W.heap.size A1 n1 c1 (nodeBytes (pAt ps x).2.nd) from m1)
    clear b1 m1
    refine hK _ _ ?_
    clear hK K
    refine wpAny_ready (rs := [0, 4]) (by kernel_rfl) (by simp) ?_
    refine AllReady.cons rfl (fun K hK => ?_) ?_
    · go_simp
      refine hK _ _ ?_
      clear hK K
      refine wpAny_ready (rs := [4]) (by kernel_rfl) (by simp) ?_
      refine AllReady.cons rfl (fun K hK => ?_) AllReady.nil
      go_simp
      refine hK _ _ ?_
      clear hK K
      refine wpAny_ready (rs := [5]) (by kernel_rfl) (by simp) ?_
      refine AllReady.cons rfl (fun K hK => ?_) AllReady.nil
      go_simp
      refine hK _ _ ?_
      clear hK K
      refine wpAny_ready (rs := [6]) (by kernel_rfl) (by simp) ?_
      refine AllReady.cons rfl (fun K hK => ?_) AllReady.nil
      refine step_append_lies _ rfl _ _ 25 rfl (w.heap.size + 3) 60 i0 (.agg #[.int .i64 0, .slice none 0 0]) 2 32 Try.underlying25 hi0 hz0 hz1 hz2 rfl (by decide) (.slice A q c) q (cvs q (pre.map (cellAt ps)) sl) (by simp [Act.eval]) (own_touch (S := fun _ => False) HROW.out (Touch.of_below (B1.out.trans (((Below.refl w1.heap.size w1).alloc (Nat.le_refl _) _).mono hs1))) (fun _ _ h => h)) ⟨w1.heap.size, 0, none⟩ 1 1 [.int .i64 (pAt ps x).1, .slice A1 n1 c1] (by simp [Act.eval]) rfl (by
          intro j u hj
          match j, hj with
          | 0, hj => simp at hj; subst hj; simp [Addr.add]
          | 1, hj => simp at hj; subst hj; simp [Addr.add]) (by intro u hu; simp at hu; rcases hu with rfl | rfl <;> rfl) (by omega) (by unfold maxLen; omega) (by omega) (by simp; omega) _ rfl ?_
      intro g6 c6 w6 hown6 hgrow6 hwh6 hlt6
      have PF := cells_push (W := W) (w1 := w1) (b0 := w.heap.size) (n₀ := w.heap.size + 3) (cb := w.heap.size + 1) (by omega) (by omega) hW3 BC.out HL.out HU.out HROW.out HSUB.out B1.out M1.out hown6 hgrow6 hwh6
      have q6 := PF.1.cell
      have f6 := PF.1.frozen
      have PF := Lib.hid PF.2
      clear hown6 hgrow6 hwh6 hlt6
      go_simp
      refine hK _ _ ?_
      clear hK K
      refine wpAny_ready (rs := [7]) (by kernel_rfl) (by simp) ?_
      refine AllReady.cons rfl (fun K hK => ?_) AllReady.nil
      go_simp
      refine hK _ _ ?_
      clear hK K
      refine wpAny_done (by kernel_rfl) ?_ _
      exact ⟨PF.out.1 _, PF.out.2.1, _, _, _, PF.out.2.2.2.1, by rw [List.map_append]; exact PF.out.2.2.2.2, KP.out.trans PF.out.2.1, BW.out.trans PF.out.2.2.1⟩
    refine AllReady.cons rfl (fun K hK => ?_) AllReady.nil
    go_simp
    refine hK _ _ ?_
    clear hK K
    refine wpAny_ready (rs := [0, 5]) (by kernel_rfl) (by simp) ?_
    refine AllReady.cons rfl (fun K hK => ?_) ?_
    · go_simp
      refine hK _ _ ?_
      clear hK K
      refine wpAny_ready (rs := [5]) (by kernel_rfl) (by simp) ?_
      refine AllReady.cons rfl (fun K hK => ?_) AllReady.nil
      go_simp
      refine hK _ _ ?_
      clear hK K
      refine wpAny_ready (rs := [6]) (by kernel_rfl) (by simp) ?_
      refine AllReady.cons rfl (fun K hK => ?_) AllReady.nil
      refine step_append_lies _ rfl _ _ 25 rfl (w.heap.size + 3) 60 i0 (.agg #[.int .i64 0, .slice none 0 0]) 2 32 Try.underlying25 hi0 hz0 hz1 hz2 rfl (by decide) (.slice A q c) q (cvs q (pre.map (cellAt ps)) sl) (by simp [Act.eval]) (own_touch (S := fun _ => False) HROW.out (Touch.of_below (B1.out.trans (((Below.refl w1.heap.size w1).alloc (Nat.le_refl _) _).mono hs1))) (fun _ _ h => h)) ⟨w1.heap.size, 0, none⟩ 1 1 [.int .i64 (pAt ps x).1, .slice A1 n1 c1] (by simp [Act.eval]) rfl (by
          intro j u hj
          match j, hj with
          | 0, hj => simp at hj; subst hj; simp [Addr.add]
          | 1, hj => simp at hj; subst hj; simp [Addr.add]) (by intro u hu; simp at hu; rcases hu with rfl | rfl <;> rfl) (by omega) (by unfold maxLen; omega) (by omega) (by simp; omega) _ rfl ?_
      intro g6 c6 w6 hown6 hgrow6 hwh6 hlt6
      have PF := cells_push (W := W) (w1 := w1) (b0 := w.heap.size) (n₀ := w.heap.size + 3) (cb := w.heap.size + 1) (by omega) (by omega) hW3 BC.out HL.out HU.out HROW.out HSUB.out B1.out M1.out hown6 hgrow6 hwh6
      have q6 := PF.1.cell
      have f6 := PF.1.frozen
      have PF := Lib.hid PF.2
      clear hown6 hgrow6 hwh6 hlt6
      go_simp
      refine hK _ _ ?_
      clear hK K
      refine wpAny_ready (rs := [7]) (by kernel_rfl) (by simp) ?_
      refine AllReady.cons rfl (fun K hK => ?_) AllReady.nil
      go_simp
      refine hK _ _ ?_
      clear hK K
      refine wpAny_done (by kernel_rfl) ?_ _
      exact ⟨PF.out.1 _, PF.out.2.1, _, _, _, PF.out.2.2.2.1, by rw [List.map_append]; exact PF.out.2.2.2.2, KP.out.trans PF.out.2.1, BW.out.trans PF.out.2.2.1⟩
    refine AllReady.cons rfl (fun K hK => ?_) AllReady.nil
    go_simp
    refine hK _ _ ?_
    clear hK K
    refine wpAny_ready (rs := [0]) (by kernel_rfl) (by simp) ?_
    refine AllReady.cons rfl (fun K hK => ?_) AllReady.nil
    go_simp
    refine hK _ _ ?_
    clear hK K
    refine wpAny_ready (rs := [6]) (by kernel_rfl) (by simp) ?_
    refine AllReady.cons rfl (fun K hK => ?_) AllReady.nil
    refine step_append_lies _ rfl _ _ 25 rfl (w.heap.size + 3) 60 i0 (.agg #[.int .i64 0, .slice none 0 0]) 2 32 Try.underlying25 hi0 hz0 hz1 hz2 rfl (by decide) (.slice A q c) q (cvs q (pre.map (cellAt ps)) sl) (by simp [Act.eval]) (own_touch (S := fun _ => False) HROW.out (Touch.of_below (B1.out.trans (((Below.refl w1.heap.size w1).alloc (Nat.le_refl _) _).mono hs1))) (fun _ _ h => h)) ⟨w1.heap.size, 0, none⟩ 1 1 [.int .i64 (pAt ps x).1, .slice A1 n1 c1] (by simp [Act.eval]) rfl (by
        intro j u hj
        match j, hj with
        | 0, hj => simp at hj; subst hj; simp [Addr.add]
        | 1, hj => simp at hj; subst hj; simp [Addr.add]) (by intro u hu; simp at hu; rcases hu with rfl | rfl <;> rfl) (by omega) (by unfold maxLen; omega) (by omega) (by simp; omega) _ rfl ?_
    intro g6 c6 w6 hown6 hgrow6 hwh6 hlt6
    have PF := cells_push (W := W) (w1 := w1) (b0 := w.heap.size) (n₀ := w.heap.size + 3) (cb := w.heap.size + 1) (by omega) (by omega) hW3 BC.out HL.out HU.out HROW.out HSUB.out B1.out M1.out hown6 hgrow6 hwh6
    have q6 := PF.1.cell
    have f6 := PF.1.frozen
    have PF := Lib.hid PF.2
    clear hown6 hgrow6 hwh6 hlt6
    go_simp
    refine hK _ _ ?_
    clear hK K
    refine wpAny_ready (rs := [7]) (by kernel_rfl) (by simp) ?_
    refine AllReady.cons rfl (fun K hK => ?_) AllReady.nil
    go_simp
    refine hK _ _ ?_
    clear hK K
    refine wpAny_done (by kernel_rfl) ?_ _
    exact ⟨PF.out.1 _, PF.out.2.1, _, _, _, PF.out.2.2.2.1, by rw [List.map_append]; exact PF.out.2.2.2.2, KP.out.trans PF.out.2.1, BW.out.trans PF.out.2.2.1⟩
  case done =>
    rintro D ys W hD rfl ⟨A, q, c, h1, h2, h3, h4⟩ hK
    have c0 := h1.cell
    rw [cells_range] at h2
    have O2 := Lib.hid (h2.abide (grownBy_putObj' W D (.deferred none)) (fun r e => by cases e; exact ⟨_, hK, rfl⟩))
    have B2 := Lib.hid (h4.trans (belowK_b (w := w) (Nat.le_refl _) W D _ (.deferred none) (by omega) hK rfl rfl))
    clear h1 h2 h3 h4
    gi_wp2
    refine ⟨by simp, .inl ⟨_, _, rfl, run_takeDeferred hK, ?_⟩⟩
    exact ⟨_, results_tmp rfl _ _ _, _, _, _, rfl, O2.out.base (by omega), B2.out⟩
  case stop =>
    rintro D cx pre W hD _ h
    exact h.elim
end Go.Proofs.Ytbepfgmonadadaa

-- CellQ: The program's CellsOk, NodeAt, Without and WithNode: for all cells.
namespace Go.Proofs.Ytbepfgmonadadaa
set_option maxRecDepth 100000
set_option linter.unusedVariables false
set_option linter.unusedSimpArgs false
open Go.RowKit

theorem implCellsOk_any (A : Option Addr) (n c : Nat) (cs : List (Int × List Int)) (B : Nat) (w : World) (hn : n ≤ 1048576) (hc : n ≤ c) (hA : A = none → c = 0) (hm : ∀ i, (cel cs i).2.length ≤ 1048576) (hB : B ≤ w.heap.size) (hb : Cells w B A n cs) :
    Calls Try.prog 11 #[.slice A n c] w fun e w' => ∃ b, e = .returned (.bool b) ∧ (b = true ↔ Right cs) ∧ Below w.heap.size w w' := by
  have HB := Lib.hid hb
  clear hb
  go_enter Try.func11, Try.ntmps11
  go_wp2_with fail
  refine (nodesOf_any A n c cs B w hn hc hA hm hB HB.out).mono ?_
  rintro e w2 ⟨R, ps, b, rfl, b2, hor⟩
  have H := Lib.hid hor
  have B2 := Lib.hid b2
  clear hor b2
  unfold SR.kv SR.vv
  go_wp2
  go_ret
  refine ⟨b, rfl, ?_, B2.out.trans (((Below.refl _ _).alloc (Nat.le_refl _) _).mono B2.out.size)⟩
  rcases H.out with ⟨rfl, h, _⟩ | ⟨rfl, h, _⟩
  · exact ⟨fun _ => h, fun _ => rfl⟩
  · exact ⟨fun e => (by cases e), fun e => absurd e h⟩
/-- where a name stands in the list, as in the cells. -/
theorem NodesIs.find {w : World} {lo : Nat} {R : SR} {ps : List (Int × NV)} {cs : List (Int × List Int)} (h : NodesIs w lo R ps cs) (hr : Right cs) (m : Int) :
    (hitI (kvs ps) m = true → lowI (kvs ps) m < cs.length ∧ findC cs m = lowI (kvs ps) m) ∧ (hitI (kvs ps) m = false → ¬ findC cs m < cs.length) := by
  have key : ∀ i, i < ps.length → ps[i]?.getD (0, nv0) = (ps[i]?.getD (0, nv0)) := fun _ _ => rfl
  have hk : ∀ i (hi : i < ps.length), ps[i].1 = (cel cs i).1 := fun i hi => by
    have := (h.at_ i hi).1
    rw [List.getElem?_eq_getElem hi] at this
    exact this
  have hl := h.len
  refine ⟨fun ht => ?_, fun ht hf => ?_⟩
  · obtain ⟨hi, he⟩ := hit_parts ps m ht
    refine ⟨by omega, ?_⟩
    have := hr.find (lowI (kvs ps) m) (by omega)
    rw [← hk _ hi, he] at this
    exact this
  · have h1 := findC_is cs m hf
    have h2 := kvs_not ps m h.sl.rise ht
    refine h2 ?_
    rw [← h1, ← hk _ (by omega)]
    exact List.mem_map_of_mem (List.getElem_mem _)
theorem implNodeAt_any (A : Option Addr) (n c : Nat) (cs : List (Int × List Int)) (m : Int) (B : Nat) (w : World) (hn : n ≤ 1048576) (hc : n ≤ c) (hA : A = none → c = 0) (hm : ∀ i, (cel cs i).2.length ≤ 1048576) (hB : B ≤ w.heap.size) (hb : Cells w B A n cs) :
    Calls Try.prog 14 #[.slice A n c, .int .i64 m] w fun e w' => ∃ v nd b, e = .returned (.tuple #[v, .bool b]) ∧ OwnN w' w.heap.size v nd ∧ NodeAtIs cs m nd b ∧ Below w.heap.size w w' := by
  have HB := Lib.hid (hb.more hB)
  clear hb
  obtain ⟨w1, hw1⟩ : ∃ w1, w.alloc (.cells #[.int .i64 0, .slice none 0 0, .slice none 0 0, .string { data := #[] }] 32) = w1 := ⟨_, rfl⟩
  have x1 : Box w1 w.heap.size 32 #[.int .i64 0, .slice none 0 0, .slice none 0 0, .string { data := #[] }] := hw1 ▸ heap_alloc_new _ _
  have s1 : w1.heap.size = w.heap.size + 1 := hw1 ▸ by simp
  have b1 : Below w.heap.size w w1 := hw1 ▸ (Below.refl _ _).alloc (Nat.le_refl _) _
  have X1 := Lib.hid x1
  have B1 := Lib.hid b1
  clear x1 b1
  go_enter Try.func14, Try.ntmps14
  go_wp2_with fail
  clear hw1
  refine (nodesOf_any A n c cs w.heap.size w1 hn hc hA hm (by omega) (HB.out.below B1.out)).mono ?_
  rintro e w2 ⟨R, ps, b, rfl, b2, hor⟩
  have s2 := b2.size
  have X2 := Lib.hid (X1.out.below b2 (by omega))
  have B2 := Lib.hid (B1.out.trans (b2.mono (by omega)))
  clear b2
  obtain ⟨w3, hw3⟩ : ∃ w3, w2.alloc (.cells #[R.kv ps.length, R.vv ps.length] 65) = w3 := ⟨_, rfl⟩
  have b3 : Below w2.heap.size w2 w3 := hw3 ▸ (Below.refl _ _).alloc (Nat.le_refl _) _
  have P3 := Lib.hid (show Box w3 w2.heap.size 65 #[R.kv ps.length, R.vv ps.length] from hw3 ▸ heap_alloc_new _ _)
  have s3 : w3.heap.size = w2.heap.size + 1 := hw3 ▸ by simp
  have X3 := Lib.hid (X2.out.below b3 (by omega))
  have B3 := Lib.hid (B2.out.trans (b3.mono (by omega)))
  unfold SR.kv SR.vv at hw3
  rcases hor with ⟨rfl, hR, hnd⟩ | ⟨rfl, hno, hR0, hp0⟩
  · have D3 := Lib.hid (hnd.below b3)
    have RT := Lib.hid hR
    clear hnd hR b3
    unfold SR.kv SR.vv
    go_wp2_with fail
    clear hw3
    refine (at_any w2.heap.size w1.heap.size R ps m w3 P3.out D3.out.sl).mono ?_
    rintro e w4 ⟨x, r, rfl, hat, b4⟩
    have X4 := Lib.hid (X3.out.below b4 (by omega))
    have B4 := Lib.hid (B3.out.trans (b4.mono (by omega)))
    have own : OwnN w4 w1.heap.size x.v x.nd ∧ HitIs cs m x.nd r := by
      have hf := D3.out.find RT.out m
      rcases hat with ⟨ht, rfl, hi, he⟩ | ⟨ht, rfl, rfl⟩
      · obtain ⟨hi2, hfe⟩ := hf.1 ht
        refine ⟨((D3.out.own (m, x) (by rw [← he]; exact List.getElem_mem hi)).below b4), .inl ⟨by omega, ?_⟩⟩
        have h1 := (D3.out.at_ _ hi).2
        rw [List.getElem?_eq_getElem hi, he] at h1
        rw [hfe]
        exact h1
      · exact ⟨node0_own _ _, .inr ⟨hf.2 ht, rfl, rfl⟩⟩
    have O4 := Lib.hid own.1
    have HT := Lib.hid own.2
    clear own hat b4
    obtain ⟨Ap, np, cp, Ak, nk, ck, nd⟩ := x
    unfold NV.v
    have q20 := X4.out.cell 0
    have q21 := X4.out.cell 1
    have q22 := X4.out.cell 2
    have q23 := X4.out.cell 3
    have f2 := X4.out.free
    simp at q20 q21 q22 q23
    have s4 := set4 X4.out (.int .i64 nd.kind) (.slice Ap np cp) (.slice Ak nk ck) (.string nd.val)
    have S4 := Lib.hid s4
    clear s4
    go_wp2
    refine bodyPost_ret (v := .tuple #[.agg #[.int .i64 nd.kind, .slice Ap np cp, .slice Ak nk ck, .string nd.val], .bool r]) (results_box2 Try.results14 _ _ w.heap.size _ _ _ _ rfl rfl S4.out.1 Try.underlying32 rfl (by kernel_rfl)) rfl ?_
    have hs4 := B4.out.size
    refine ⟨_, nd, r, rfl, (O4.out.touch S4.out.2 (fun g hg e => ?_)).base (by omega), .inl ⟨RT.out, HT.out⟩, B4.out.trans (S4.out.2.below hs4 (fun k hk e => by omega))⟩
    have := (O4.out.blk hg).1
    omega
  · subst hR0
    subst hp0
    clear b3
    have p30 := P3.out.cell 0
    have p31 := P3.out.cell 1
    have pf := P3.out.free
    unfold SR.kv at p30
    unfold SR.vv at p31
    simp [SR0] at p30 p31
    have s5 := set2 P3.out (.slice none 0 0) (.slice none 0 0)
    have X5 := Lib.hid (show Box ((w3.setCell ⟨w2.heap.size, 0, none⟩ (.slice none 0 0)).setCell ⟨w2.heap.size, 1, none⟩ (.slice none 0 0)) w.heap.size 32 _ from (X3.out.other (by omega) 0 _).other (by omega) 1 _)
    have B5 := Lib.hid (B3.out.trans (s5.2.below B3.out.size (fun k hk e => by omega)))
    have q20 := X3.out.cell 0
    have q21 := X3.out.cell 1
    have q22 := X3.out.cell 2
    have q23 := X3.out.cell 3
    have f2 := X3.out.free
    simp at q20 q21 q22 q23
    have s4 := set4 X5.out (.int .i64 0) (.slice none 0 0) (.slice none 0 0) (.string { data := #[] })
    have S4 := Lib.hid s4
    clear s4 s5
    have hwl : ¬ (w.heap.size = w2.heap.size) := by omega
    unfold SR.kv SR.vv
    simp only [SR0, List.length_nil] at hw3 ⊢
    go_wp2
    refine bodyPost_ret (v := .tuple #[node0V, .bool false]) (results_box2 Try.results14 _ _ w.heap.size _ _ _ _ rfl rfl S4.out.1 Try.underlying32 rfl (by kernel_rfl)) rfl ?_
    exact ⟨_, node0, false, rfl, node0_own _ _, .inr ⟨hno, rfl, rfl⟩, B5.out.trans (S4.out.2.below (by have := B5.out.size; omega) (fun k hk e => by omega))⟩
end Go.Proofs.Ytbepfgmonadadaa

-- CellR: The program's Without and WithNode: for all cells.
namespace Go.Proofs.Ytbepfgmonadadaa
set_option maxRecDepth 100000
set_option linter.unusedVariables false
set_option linter.unusedSimpArgs false
open Go.RowKit

theorem NodesIs.cells {w : World} {lo : Nat} {R : SR} {ps : List (Int × NV)} {cs : List (Int × List Int)} (h : NodesIs w lo R ps cs) : cellsL ps = cs := by
  apply List.ext_getElem?
  intro i
  unfold cellsL
  have hl := h.len
  by_cases hi : i < ps.length
  · have h1 := h.at_ i hi
    rw [List.getElem?_map, List.getElem?_eq_getElem hi, List.getElem?_eq_getElem (by omega)]
    rw [List.getElem?_eq_getElem hi] at h1
    unfold cel at h1
    rw [List.getElem?_eq_getElem (by omega)] at h1
    obtain ⟨h1, h2⟩ := h1
    have h3 : nodeBytes ps[i].2.nd = cs[i].2 := by
      rcases h2 with ⟨_, _, _, h2⟩ | ⟨h2, _⟩
      · exact h2
      · cases h2
    have h1 : ps[i].1 = cs[i].1 := h1
    simp only [Option.map_some, Option.some.injEq]
    exact Prod.ext h1 h3
  · rw [List.getElem?_eq_none (by simp; omega), List.getElem?_eq_none (by omega)]
theorem cellsL_del (ps : List (Int × NV)) (i : Nat) : cellsL (delP ps i) = delP (cellsL ps) i := by unfold cellsL delP; simp [List.map_take, List.map_drop]
theorem cellsL_ins (ps : List (Int × NV)) (i : Nat) (q : Int × NV) : cellsL (insP ps i q) = insP (cellsL ps) i (q.1, nodeBytes q.2.nd) := insP_map _ _ _ _
theorem cel_get (cs : List (Int × List Int)) (i : Nat) (h : i < cs.length) : cs[i] = cel cs i := by unfold cel; rw [List.getElem?_eq_getElem h]; rfl
theorem less_del (cs : List (Int × List Int)) (m : Int) (i : Nat) (hr : Right cs) (hi : i < cs.length) (hm : (cel cs i).1 = m) : lessC cs m = delP cs i := by
  unfold lessC delP
  conv => lhs; rw [← List.take_append_drop i cs]
  rw [List.drop_eq_getElem_cons hi, List.filter_append, List.filter_cons, if_neg (by rw [cel_get cs i hi]; simp [hm])]
  congr 1
  · refine List.filter_eq_self.2 fun c hc => ?_
    obtain ⟨j, hj, rfl⟩ := List.mem_iff_getElem.1 hc
    have hj2 : j < i := by simp at hj; omega
    rw [List.getElem_take, cel_get cs j (by omega)]
    have := hr.rise j i hj2 hi
    exact decide_eq_true (by omega)
  · refine List.filter_eq_self.2 fun c hc => ?_
    obtain ⟨j, hj, rfl⟩ := List.mem_iff_getElem.1 hc
    have hj2 : i + 1 + j < cs.length := by simp at hj; omega
    rw [List.getElem_drop, cel_get cs _ hj2]
    have := hr.rise i (i + 1 + j) (by omega) hj2
    exact decide_eq_true (by omega)
theorem less_none (cs : List (Int × List Int)) (m : Int) (h : ¬ findC cs m < cs.length) : lessC cs m = cs := by
  unfold lessC
  refine List.filter_eq_self.2 fun c hc => ?_
  obtain ⟨j, hj, rfl⟩ := List.mem_iff_getElem.1 hc
  rw [cel_get cs j hj]
  exact decide_eq_true (findC_not cs m j (by have := findC_le cs m; omega))
theorem ins_place (ps : List (Int × NV)) (cs : List (Int × List Int)) (m : Int) (bs : List Int) (w : World) (lo : Nat) (R : SR) (h : NodesIs w lo R ps cs) (ht : hitI (kvs ps) m = false) : insP cs (lowI (kvs ps) m) (m, bs) = insC cs m bs := by
  have hl := h.len
  have hk : ∀ i (hi : i < ps.length), (kvs ps)[i]?.getD 0 = (cel cs i).1 := fun i hi => by
    have := (h.at_ i hi).1
    rw [List.getElem?_eq_getElem hi] at this
    rw [kvs_at ps i hi]
    exact this
  have hp : placeC cs m = lowI (kvs ps) m := placeC_at cs m _ (by have := lowI_len ps m; omega) (fun j hj => by
    have h1 := lowI_below (kvs ps) m j hj
    have h2 := lowI_len ps m
    rw [hk j (by omega)] at h1; omega) (fun hlt => by
    have h1 := lowI_above (kvs ps) m (by rw [kvs_len]; omega)
    rw [hk _ (by omega)] at h1
    rcases Int.lt_or_eq_of_le h1 with h2 | h2
    · exact h2
    · exact absurd (show hitI (kvs ps) m = true from decide_eq_true ⟨by rw [kvs_len]; omega, by rw [hk _ (by omega)]; exact h2.symm⟩) (by rw [ht]; simp))
  unfold insP insC
  rw [hp]
theorem implWithout_any (A : Option Addr) (n c : Nat) (cs : List (Int × List Int)) (m : Int) (B : Nat) (w : World) (hn : n ≤ 1048576) (hc : n ≤ c) (hA : A = none → c = 0) (hm : ∀ i, (cel cs i).2.length ≤ 1048576) (hB : B ≤ w.heap.size) (hb : Cells w B A n cs) :
    Calls Try.prog 25 #[.slice A n c, .int .i64 m] w fun e w' => ∃ A' n' c' l b, e = .returned (.tuple #[.slice A' n' c', .bool b]) ∧ LessIs cs m l b ∧ OwnC w' w.heap.size w'.heap.size A' n' c' l ∧ Below w.heap.size w w' := by
  have HB := Lib.hid hb
  clear hb
  go_enter Try.func25, Try.ntmps25
  go_wp2_with fail
  refine (nodesOf_any A n c cs B w hn hc hA hm hB HB.out).mono ?_
  rintro e w2 ⟨R, ps, b, rfl, b2, hor⟩
  have s2 := b2.size
  have B2 := Lib.hid b2
  rcases hor with ⟨rfl, hR, hnd⟩ | ⟨rfl, hno, hR0, hp0⟩
  · obtain ⟨w3, hw3⟩ : ∃ w3, w2.alloc (.cells #[R.kv ps.length, R.vv ps.length] 65) = w3 := ⟨_, rfl⟩
    have b3 : Below w2.heap.size w2 w3 := hw3 ▸ (Below.refl _ _).alloc (Nat.le_refl _) _
    have P3 := Lib.hid (show Box w3 w2.heap.size 65 #[R.kv ps.length, R.vv ps.length] from hw3 ▸ heap_alloc_new _ _)
    have s3 : w3.heap.size = w2.heap.size + 1 := hw3 ▸ by simp
    have B3 := Lib.hid (B2.out.trans (b3.mono (by omega)))
    unfold SR.kv SR.vv at hw3
    have D3 := Lib.hid (hnd.below b3)
    have RT := Lib.hid hR
    have hpp : ∀ y ∈ ps, ∀ g, y.2.use g → g ≠ w2.heap.size := fun y hy g hg => by have := ((hnd.own y hy).blk (NV.use_blk hg)).2; omega
    have PP := Lib.hid hpp
    clear hnd hR b2 b3 hpp
    unfold SR.kv SR.vv
    go_wp2_with fail
    clear hw3
    refine (drop_any w2.heap.size w.heap.size R ps m w3 P3.out D3.out.sl PP.out).mono ?_
    rintro e w4 h4
    have hf := D3.out.find RT.out m
    have key : ∃ b ps', e = .returned (.bool b) ∧ Box w4 w2.heap.size 65 #[R.kv ps'.length, R.vv ps'.length] ∧ SLN w4 w.heap.size R ps' ∧ cellsL ps' = lessC cs m ∧ (b = true ↔ findC cs m < cs.length) ∧ Below w.heap.size w w4 := by
      have hce := D3.out.cells
      rcases h4 with ⟨ht, rfl, b4⟩ | ⟨ht, rfl, hbx, hsl, t4⟩
      · exact ⟨false, ps, rfl, P3.out.below b4 (by omega), D3.out.sl.below b4, by rw [hce, less_none cs m (hf.2 ht)], ⟨fun h => (by cases h), fun h => absurd h (hf.2 ht)⟩, B3.out.trans (b4.mono (by omega))⟩
      · obtain ⟨hi, hfe⟩ := hf.1 ht
        have hpl := D3.out.len
        refine ⟨true, delP ps (lowI (kvs ps) m), rfl, by rw [delP_len ps _ (by omega)]; exact hbx, hsl, ?_, ⟨fun _ => by omega, fun _ => rfl⟩, B3.out.trans (t4.below (by omega) (fun k hk e => e.elim (fun e => by omega) (fun e => by have := (D3.out.sl.lt k e).1; omega)))⟩
        rw [cellsL_del, hce, less_del cs m _ RT.out hi (by rw [← hfe]; exact findC_is cs m (by omega))]
    obtain ⟨b, ps', rfl, bx4, sl4, hcl, hbf, b4⟩ := key
    have S4 := Lib.hid sl4
    have CL := Lib.hid hcl
    have BF := Lib.hid hbf
    have B4 := Lib.hid b4
    have q0 := bx4.cell 0
    have q1 := bx4.cell 1
    unfold SR.kv at q0
    unfold SR.vv at q1
    simp at q0 q1
    clear h4 hf sl4 hcl hbf b4 bx4
    go_wp2_with fail
    refine (cellsOf_any w.heap.size R ps' w4 S4.out).mono ?_
    rintro e w5 ⟨A5, n5, c5, rfl, o5, b5⟩
    have O5 := Lib.hid o5
    have s4 := B4.out.size
    have B5 := Lib.hid (B4.out.trans (b5.mono s4))
    clear o5 b5 q0 q1
    go_wp2
    go_ret2
    exact ⟨_, _, _, _, b, rfl, .inr ⟨RT.out, CL.out, BF.out⟩, O5.out.base s4, B5.out⟩
  · subst hR0
    subst hp0
    clear b2
    unfold SR.kv SR.vv
    simp only [SR0, List.length_nil]
    go_wp2
    go_ret2
    exact ⟨none, 0, 0, [], false, rfl, .inl ⟨hno, rfl, rfl⟩, OwnC.nil _ _ _, B2.out.trans (((Below.refl _ _).alloc (Nat.le_refl _) _).mono s2)⟩
end Go.Proofs.Ytbepfgmonadadaa

-- CellT: The program's WithNode: for all cells and nodes.
namespace Go.Proofs.Ytbepfgmonadadaa
set_option maxRecDepth 100000
set_option linter.unusedVariables false
set_option linter.unusedSimpArgs false
open Go.RowKit

theorem nodeBytes_pos (nd : MNode) : (nodeOk nd = true → 0 < (nodeBytes nd).length) ∧ (nodeOk nd = false → nodeBytes nd = []) := by
  refine ⟨fun h => ?_, fun h => by unfold nodeBytes; rw [if_neg (by simp [h])]⟩
  rw [nodeBytes_raw nd h]
  simp [rawBytes]
/-- what adding a node says and leaves. -/
def AddIs (w : World) (p lo : Nat) (R : SR) (ps : List (Int × NV)) (x : NV) (e : Ending) (w' : World) : Prop :=
  (nodeOk x.nd = false ∧ e = .returned (.int .i64 (-1)) ∧ Below w.heap.size w w') ∨
  (nodeOk x.nd = true ∧ hitI (kvs ps) (nameOf (nodeBytes x.nd)) = true ∧ e = .returned (.int .i64 (nameOf (nodeBytes x.nd))) ∧ Below w.heap.size w w') ∨
  (nodeOk x.nd = true ∧ hitI (kvs ps) (nameOf (nodeBytes x.nd)) = false ∧ 80 ≤ ps.length ∧ e = .returned (.int .i64 (-1)) ∧ Below w.heap.size w w') ∨
  (nodeOk x.nd = true ∧ hitI (kvs ps) (nameOf (nodeBytes x.nd)) = false ∧ ps.length < 80 ∧ e = .returned (.int .i64 (nameOf (nodeBytes x.nd))) ∧
    ∃ R', Box w' p 65 #[R'.kv (ps.length + 1), R'.vv (ps.length + 1)] ∧ SLN w' lo R' (insP ps (lowI (kvs ps) (nameOf (nodeBytes x.nd))) (nameOf (nodeBytes x.nd), x)) ∧ Touch (fun g => g = p ∨ R.at_ g) w w')
set_option maxHeartbeats 2000000 in
theorem addNode_any (p lo : Nat) (R : SR) (ps : List (Int × NV)) (x : NV) (w : World) (hx : Box w p 65 #[R.kv ps.length, R.vv ps.length]) (h : SLN w lo R ps) (hlo : lo ≤ w.heap.size)
    (hn : NodeIn w w.heap.size x.v x.nd) (hu : ∀ g, x.use g → ¬ R.at_ g) (hup : ∀ g, x.use g → g ≠ p) (hpp : ∀ y ∈ ps, ∀ g, y.2.use g → g ≠ p) (hl : ps.length ≤ 80) :
    Calls Try.prog 51 #[.pointer (some ⟨p, 0, none⟩), x.v] w (AddIs w p lo R ps x) := by
  have hp := hx.lt
  obtain ⟨Ap, np, cp, Ak, nk, ck, nd⟩ := x
  have hbl : (nodeBytes nd).length ≤ 9223372036854775807 := by
    have h1 := nodeBytes_len nd
    obtain ⟨_, _, _, _, _, _, e, h2, h3, h4, h5, h6⟩ := hn
    have h7 := h5.1
    have h8 := h6.1
    simp only at h1 h4 h7 h8
    omega
  obtain ⟨w1, hw1⟩ : ∃ w1, w.alloc (.cells #[.int .i64 nd.kind, .slice Ap np cp, .slice Ak nk ck, .string nd.val] 32) = w1 := ⟨_, rfl⟩
  have b1 : Below w.heap.size w w1 := hw1 ▸ (Below.refl _ _).alloc (Nat.le_refl _) _
  have X1 := Lib.hid (show Box w1 w.heap.size 32 #[.int .i64 nd.kind, .slice Ap np cp, .slice Ak nk ck, .string nd.val] from hw1 ▸ heap_alloc_new _ _)
  have s1 : w1.heap.size = w.heap.size + 1 := hw1 ▸ by simp
  have B1 := Lib.hid b1
  have P1 := Lib.hid (hx.below b1 hp)
  have H1 := Lib.hid (h.below b1)
  have N1 := Lib.hid (hn.below b1)
  clear hx h hn b1
  have q0 := X1.out.cell 0
  have q1 := X1.out.cell 1
  have q2 := X1.out.cell 2
  have q3 := X1.out.cell 3
  simp at q0 q1 q2 q3
  unfold NV.v
  go_enter Try.func51, Try.ntmps51
  go_wp2_with fail
  clear hw1
  refine (implNodeBytes_any _ nd w.heap.size w1 (by omega) N1.out).mono ?_
  rintro e w2 ⟨A2, n2, c2, rfl, m2, b2⟩
  have hn2 : (nodeBytes nd).length = n2 := m2.len
  have s2 := b2.size
  have B2 := Lib.hid (B1.out.trans (b2.mono (by omega)))
  have BY := Lib.hid m2.byts
  have X2 := Lib.hid (X1.out.below b2 (by omega))
  have P2 := Lib.hid (P1.out.below b2 (by omega))
  have H2 := Lib.hid (H1.out.below b2)
  have N2 := Lib.hid (N1.out.below (b2.mono (by omega)))
  clear m2 b2 q0 q1 q2 q3
  obtain ⟨ok, hok⟩ : ∃ ok, nodeOk nd = ok := ⟨_, rfl⟩
  have OK := Lib.hid hok
  cases ok with
  | false =>
    have h0 : n2 = 0 := by rw [← hn2, (nodeBytes_pos nd).2 hok]; rfl
    subst h0
    clear hok
    go_wp2
    go_ret
    exact .inl ⟨OK.out, rfl, B2.out⟩
  | true =>
    have hn0 : 0 < n2 := by rw [← hn2]; exact (nodeBytes_pos nd).1 hok
    have hne : ¬ ((n2 : Int) = 0) := by omega
    clear hok
    obtain ⟨nm, hnm⟩ : ∃ nm, nameOf (nodeBytes nd) = nm := ⟨_, rfl⟩
    have NM := Lib.hid hnm
    go_wp2_with fail
    refine (name_any A2 n2 c2 (nodeBytes nd) _ w2 (by omega) BY.out).mono ?_
    rintro e w' ⟨rfl, rfl⟩
    rw [hnm]
    clear hnm
    go_wp2_with fail
    refine (at_any p lo R ps nm w2 P2.out H2.out).mono ?_
    rintro e w3 ⟨y, r, rfl, hat, b3⟩
    have s3 := b3.size
    have P3 := Lib.hid (P2.out.below b3 (by omega))
    have X3 := Lib.hid (X2.out.below b3 (by omega))
    have H3 := Lib.hid (H2.out.below b3)
    have N3 := Lib.hid (N2.out.below (b3.mono (by omega)))
    have B3 := Lib.hid (B2.out.trans (b3.mono (by omega)))
    have hr : r = hitI (kvs ps) nm := by
      rcases hat with ⟨h1, h2, _⟩ | ⟨h1, h2, _⟩
      · rw [h1, h2]
      · rw [h1, h2]
    obtain ⟨Ay, ny, cy, Az, nz, cz, ndy⟩ := y
    unfold NV.v
    clear hat b3
    obtain ⟨w4, hw4⟩ : ∃ w4, w3.alloc (.cells #[.int .i64 ndy.kind, .slice Ay ny cy, .slice Az nz cz, .string ndy.val] 32) = w4 := ⟨_, rfl⟩
    have b4 : Below w3.heap.size w3 w4 := hw4 ▸ (Below.refl _ _).alloc (Nat.le_refl _) _
    have P4 := Lib.hid (P3.out.below b4 (by omega))
    have X4 := Lib.hid (X3.out.below b4 (by omega))
    have H4 := Lib.hid (H3.out.below b4)
    have N4 := Lib.hid (N3.out.below (b4.mono (by omega)))
    have B4 := Lib.hid (B3.out.trans (b4.mono (by omega)))
    have s4 := b4.size
    clear b4
    have q0 := P4.out.cell 0
    have q20 := X4.out.cell 0
    have q21 := X4.out.cell 1
    have q22 := X4.out.cell 2
    have q23 := X4.out.cell 3
    unfold SR.kv at q0
    simp at q0 q20 q21 q22 q23
    have HR := Lib.hid hr
    by_cases h80 : 80 ≤ ps.length
    · have hd : decide ((80 : Int) ≤ (ps.length : Int)) = true := decide_eq_true (by omega)
      cases r with
      | false =>
        clear hr
        go_wp2
        go_ret
        exact .inr (.inr (.inl ⟨OK.out, by rw [NM.out]; exact HR.out.symm, h80, rfl, B4.out⟩))
      | true =>
        clear hr
        go_wp2_with fail
        clear hw4
        refine (put_any p lo R ps nm ⟨Ap, np, cp, Ak, nk, ck, nd⟩ w4 P4.out H4.out (by omega) (N4.out.more (by omega)) hu hup hpp (by omega)).mono ?_
        rintro e w5 (⟨h5, rfl, b5⟩ | ⟨h5, rfl, R', p5, l5, _, t5⟩)
        · have B5 := Lib.hid (B4.out.trans (b5.mono (by omega)))
          have H5 := Lib.hid h5
          clear b5 h5
          go_wp2
          go_ret
          exact .inr (.inl ⟨OK.out, by rw [NM.out]; exact H5.out, by first | (rw [NM.out]; done) | (rw [NM.out]; rfl), B5.out⟩)
        · exact absurd (HR.out.trans h5) (by simp)
    · have hd : decide ((80 : Int) ≤ (ps.length : Int)) = false := decide_eq_false (by omega)
      cases r with
      | false =>
        clear hr
        go_wp2_with fail
        clear hw4
        refine (put_any p lo R ps nm ⟨Ap, np, cp, Ak, nk, ck, nd⟩ w4 P4.out H4.out (by omega) (N4.out.more (by omega)) hu hup hpp (by omega)).mono ?_
        rintro e w5 (⟨h5, rfl, b5⟩ | ⟨h5, rfl, R', p5, l5, _, t5⟩)
        · have B5 := Lib.hid (B4.out.trans (b5.mono (by omega)))
          have H5 := Lib.hid h5
          clear b5 h5
          go_wp2
          go_ret
          exact .inr (.inl ⟨OK.out, by rw [NM.out]; exact H5.out, by first | (rw [NM.out]; done) | (rw [NM.out]; rfl), B5.out⟩)
        · have H5 := Lib.hid h5
          have P5 := Lib.hid p5
          have L5 := Lib.hid l5
          have T5 := Lib.hid (show Touch (fun g => g = p ∨ R.at_ g) w w5 from (Touch.of_below B4.out).trans t5)
          clear h5 p5 l5 t5
          go_wp2
          go_ret
          exact .inr (.inr (.inr ⟨OK.out, by rw [NM.out]; exact H5.out, by omega, by first | (rw [NM.out]; done) | (rw [NM.out]; rfl), R', P5.out, by rw [NM.out]; exact L5.out, T5.out⟩))
      | true =>
        clear hr
        go_wp2_with fail
        clear hw4
        refine (put_any p lo R ps nm ⟨Ap, np, cp, Ak, nk, ck, nd⟩ w4 P4.out H4.out (by omega) (N4.out.more (by omega)) hu hup hpp (by omega)).mono ?_
        rintro e w5 (⟨h5, rfl, b5⟩ | ⟨h5, rfl, R', p5, l5, _, t5⟩)
        · have B5 := Lib.hid (B4.out.trans (b5.mono (by omega)))
          have H5 := Lib.hid h5
          clear b5 h5
          go_wp2
          go_ret
          exact .inr (.inl ⟨OK.out, by rw [NM.out]; exact H5.out, by first | (rw [NM.out]; done) | (rw [NM.out]; rfl), B5.out⟩)
        · exact absurd (HR.out.trans h5) (by simp)
end Go.Proofs.Ytbepfgmonadadaa

-- CellU: The program's WithNode: for all cells and nodes.
namespace Go.Proofs.Ytbepfgmonadadaa
set_option maxRecDepth 100000
set_option linter.unusedVariables false
set_option linter.unusedSimpArgs false
open Go.RowKit

set_option maxHeartbeats 1000000 in
theorem implWithNode_any (A : Option Addr) (n c : Nat) (cs : List (Int × List Int)) (v : Value) (nd : MNode) (B : Nat) (w : World) (hn : n ≤ 1048576) (hc : n ≤ c) (hA : A = none → c = 0) (hm : ∀ i, (cel cs i).2.length ≤ 1048576) (hB : B ≤ w.heap.size) (hb : Cells w B A n cs) (hv : NodeIn w B v nd) :
    Calls Try.prog 22 #[.slice A n c, v] w fun e w' => ∃ A' n' c' l m, e = .returned (.tuple #[.slice A' n' c', .int .i64 m]) ∧ WithIs cs nd l m ∧ OwnC w' w.heap.size w'.heap.size A' n' c' l ∧ Below w.heap.size w w' := by
  obtain ⟨x, rfl, rfl⟩ := NV.of hv
  have HB := Lib.hid hb
  have HV := Lib.hid (hv.more hB)
  clear hb hv
  obtain ⟨Ap, np, cp, Ak, nk, ck, nd⟩ := x
  obtain ⟨x, hxe⟩ : ∃ x : NV, (⟨Ap, np, cp, Ak, nk, ck, nd⟩ : NV) = x := ⟨_, rfl⟩
  have hxn : x.nd = nd := by rw [← hxe]
  have hxv : x.v = .agg #[.int .i64 nd.kind, .slice Ap np cp, .slice Ak nk ck, .string nd.val] := by rw [← hxe]; rfl
  rw [hxe] at HV
  obtain ⟨w1, hw1⟩ : ∃ w1, w.alloc (.cells #[.int .i64 nd.kind, .slice Ap np cp, .slice Ak nk ck, .string nd.val] 32) = w1 := ⟨_, rfl⟩
  have b1 : Below w.heap.size w w1 := hw1 ▸ (Below.refl _ _).alloc (Nat.le_refl _) _
  have X1 := Lib.hid (show Box w1 w.heap.size 32 #[.int .i64 nd.kind, .slice Ap np cp, .slice Ak nk ck, .string nd.val] from hw1 ▸ heap_alloc_new _ _)
  have s1 : w1.heap.size = w.heap.size + 1 := hw1 ▸ by simp
  have B1 := Lib.hid b1
  have HB := Lib.hid (HB.out.below (b1.mono hB))
  have HXV := Lib.hid hxv
  have HXN := Lib.hid hxn
  clear b1 hxe hxv hxn
  unfold NV.v
  simp only
  go_enter Try.func22, Try.ntmps22
  go_wp2_with fail
  clear hw1
  refine (nodesOf_any A n c cs B w1 hn hc hA hm (by omega) HB.out).mono ?_
  rintro e w2 ⟨R, ps, b, rfl, b2, hor⟩
  have s2 := b2.size
  have X2 := Lib.hid (X1.out.below b2 (by omega))
  have B2 := Lib.hid (B1.out.trans (b2.mono (by omega)))
  rcases hor with ⟨rfl, hR, hnd⟩ | ⟨rfl, hno, hR0, hp0⟩
  · obtain ⟨w3, hw3⟩ : ∃ w3, w2.alloc (.cells #[R.kv ps.length, R.vv ps.length] 65) = w3 := ⟨_, rfl⟩
    have b3 : Below w2.heap.size w2 w3 := hw3 ▸ (Below.refl _ _).alloc (Nat.le_refl _) _
    have P3 := Lib.hid (show Box w3 w2.heap.size 65 #[R.kv ps.length, R.vv ps.length] from hw3 ▸ heap_alloc_new _ _)
    have s3 : w3.heap.size = w2.heap.size + 1 := hw3 ▸ by simp
    have B3 := Lib.hid (B2.out.trans (b3.mono (by omega)))
    unfold SR.kv SR.vv at hw3
    have D3 := Lib.hid (hnd.below b3)
    have RT := Lib.hid hR
    have hpp : ∀ y ∈ ps, ∀ g, y.2.use g → g ≠ w2.heap.size := fun y hy g hg => by have := ((hnd.own y hy).blk (NV.use_blk hg)).2; omega
    have PP := Lib.hid hpp
    have hus : ∀ g, x.use g → g < w.heap.size := fun g hg => NV.use_lt HV.out g hg
    have US := Lib.hid hus
    have X3 := Lib.hid (X2.out.below b3 (by omega))
    have q20 := X3.out.cell 0
    have q21 := X3.out.cell 1
    have q22 := X3.out.cell 2
    have q23 := X3.out.cell 3
    simp at q20 q21 q22 q23
    have hps : ps.length ≤ 80 := by have h1 := hnd.len; have h2 := hR.1; omega
    clear hnd hR b2 b3 hpp hus
    unfold SR.kv SR.vv
    go_wp2_with fail
    clear hw3 q20 q21 q22 q23
    rw [← HXV.out]
    refine (addNode_any w2.heap.size w1.heap.size R ps x w3 P3.out D3.out.sl (by omega) ((HV.out.below B3.out).more (by omega)) (fun g hg e => by have h1 := US.out g hg; have h2 := (D3.out.sl.lt g e).1; omega) (fun g hg => by have h1 := US.out g hg; omega) PP.out hps).mono ?_
    rintro e w4 h4
    unfold AddIs at h4
    rw [HXN.out] at h4
    have hf := D3.out.find RT.out (nameOf (nodeBytes nd))
    have hl3 := D3.out.len
    have key : ∃ m R' ps', e = .returned (.int .i64 m) ∧ Box w4 w2.heap.size 65 #[R'.kv ps'.length, R'.vv ps'.length] ∧ SLN w4 w1.heap.size R' ps' ∧ WithIs cs nd (cellsL ps') m ∧ Below w.heap.size w w4 := by
      have hce := D3.out.cells
      rcases h4 with ⟨hk, rfl, b4⟩ | ⟨hk, ht, rfl, b4⟩ | ⟨hk, ht, h80, rfl, b4⟩ | ⟨hk, ht, h80, rfl, R', hbx, hsl, t4⟩
      · exact ⟨-1, R, ps, rfl, P3.out.below b4 (by omega), D3.out.sl.below b4, .inr (.inl ⟨RT.out, hk, hce, rfl⟩), B3.out.trans (b4.mono (by omega))⟩
      · exact ⟨_, R, ps, rfl, P3.out.below b4 (by omega), D3.out.sl.below b4, .inr (.inr (.inl ⟨RT.out, hk, by have := hf.1 ht; omega, hce, rfl⟩)), B3.out.trans (b4.mono (by omega))⟩
      · exact ⟨-1, R, ps, rfl, P3.out.below b4 (by omega), D3.out.sl.below b4, .inr (.inr (.inr (.inl ⟨RT.out, hk, hf.2 ht, by omega, hce, rfl⟩))), B3.out.trans (b4.mono (by omega))⟩
      · have hli := lowI_len ps (nameOf (nodeBytes nd))
        refine ⟨_, R', _, rfl, by rw [insP_len _ _ _ hli]; exact hbx, hsl, .inr (.inr (.inr (.inr ⟨RT.out, hk, hf.2 ht, by omega, ?_, rfl⟩))), B3.out.trans (t4.below (by omega) (fun k hk e => e.elim (fun e => by omega) (fun e => by have := (D3.out.sl.lt k e).1; omega)))⟩
        rw [cellsL_ins, hce]
        simp only
        rw [HXN.out]
        exact ins_place ps cs _ _ w3 w1.heap.size R D3.out ht
    obtain ⟨m, R', ps', rfl, bx4, sl4, hwi, b4⟩ := key
    have S4 := Lib.hid sl4
    have WI := Lib.hid hwi
    have B4 := Lib.hid b4
    have q0 := bx4.cell 0
    have q1 := bx4.cell 1
    unfold SR.kv at q0
    unfold SR.vv at q1
    simp at q0 q1
    clear h4 hf sl4 hwi b4 bx4
    go_wp2_with fail
    refine (cellsOf_any w1.heap.size R' ps' w4 S4.out).mono ?_
    rintro e w5 ⟨A5, n5, c5, rfl, o5, b5⟩
    have O5 := Lib.hid o5
    have s4 := B4.out.size
    have B5 := Lib.hid (B4.out.trans (b5.mono s4))
    clear o5 b5 q0 q1
    go_wp2
    go_ret2
    exact ⟨_, _, _, _, m, rfl, WI.out, O5.out.base s4, B5.out⟩
  · subst hR0
    subst hp0
    clear b2
    unfold SR.kv SR.vv
    simp only [SR0, List.length_nil]
    go_wp2
    go_ret2
    exact ⟨none, 0, 0, [], -1, rfl, .inl ⟨hno, rfl, rfl⟩, OwnC.nil _ _ _, B2.out.trans (((Below.refl _ _).alloc (Nat.le_refl _) _).mono (by omega))⟩
end Go.Proofs.Ytbepfgmonadadaa

-- ReachS: The model's ReachOf.
namespace Go.Proofs.Ytbepfgmonadadaa
set_option maxRecDepth 20000
set_option linter.unusedVariables false
set_option linter.unusedSimpArgs false
open Go.RowKit

theorem l4In_any (A : Option Addr) (n c : Nat) (xs : List Int) (m : Int) (B : Nat) (w : World) (hn : n ≤ 1048576) (hb : Ints w B A n xs) :
    Calls Try.prog 81 #[.slice A n c, .int .i64 m] w fun e w' => e = .returned (.bool (decide (m ∈ xs))) ∧ w = w' := by
  have HB := Lib.hid hb
  have hlen := hb.1
  clear hb
  obtain ⟨R, hR⟩ : ∃ R : Bool, decide (m ∈ xs) = R := ⟨_, rfl⟩
  rw [hR]
  have HR := Lib.hid hR
  clear hR
  go_enter Try.func81, Try.ntmps81
  go_wp2
  go_loop [5] (fun i => ∃ k : Nat, k ≤ n ∧ i = .int .i64 k ∧ ∀ j, j < k → xs[j]?.getD 0 ≠ m) (fun i => n - (intOf i).toNat)
  case atStart => exact ⟨0, Nat.zero_le _, rfl, fun j hj => absurd hj (by omega)⟩
  case round =>
    obtain ⟨k, hk, rfl, hno⟩ := hrel
    by_cases hlt : k < n
    · obtain ⟨b, off, rfl, hbB, h0⟩ := HB.out.at_ hlt
      have hx : ∃ x, xs[k]?.getD 0 = x := ⟨_, rfl⟩
      obtain ⟨x, hx⟩ := hx
      rw [hx] at h0
      by_cases he : x = m
      · subst he
        have hr : true = R := by
          rw [← HR.out]
          refine (decide_eq_true ?_).symm
          rw [List.getElem?_eq_getElem (by omega)] at hx
          simp at hx
          rw [← hx]
          exact List.getElem_mem _
        subst hr
        clear HR
        go_wp2
        go_ret
        exact ⟨rfl, rfl⟩
      · have hb0 : (x == m) = false := by simpa using he
        go_wp2
        go_round
        case rel =>
          refine ⟨k + 1, by omega, by go_num, fun j hj => ?_⟩
          rcases Nat.lt_or_ge j k with h | h
          · exact hno j h
          · rw [show j = k by omega, hx]; exact he
        case measure => simp [intOf]; omega
    · have hr : false = R := by
        rw [← HR.out]
        refine (decide_eq_false fun h => ?_).symm
        obtain ⟨i, hi, e⟩ := List.mem_iff_getElem.1 h
        have := hno i (by omega)
        rw [List.getElem?_eq_getElem hi, e] at this
        exact this rfl
      subst hr
      clear HR
      go_wp2
      go_ret
      exact ⟨rfl, rfl⟩
theorem Ints.row {w : World} {B n : Nat} {A : Option Addr} {zs : List Int} (h : Ints w B A n zs) (hn : 0 < n) :
    ∃ b off, A = some ⟨b, off, none⟩ ∧ b < B ∧ ∀ j u, (zs.map (Value.int .i64))[j]? = some u → w.cell? ((⟨b, off, none⟩ : Addr).add j) = some u := by
  obtain ⟨b, off, rfl, hb, hc⟩ := h.2 hn
  refine ⟨b, off, rfl, hb, fun j u hj => ?_⟩
  have hadd : (⟨b, off, none⟩ : Addr).add j = ⟨b, off + j, none⟩ := by unfold Addr.add; split <;> simp_all
  have hjl : j < zs.length := by
    rcases Nat.lt_or_ge j zs.length with h | h
    · exact h
    · rw [List.getElem?_eq_none (by simpa using h)] at hj; cases hj
  have hl := h.1
  rw [hadd, hc j (by omega)]
  rw [List.getElem?_map, List.getElem?_eq_getElem hjl] at hj
  simp only [Option.map_some, Option.some.injEq] at hj
  rw [← hj]
  simp [List.getElem?_eq_getElem hjl]
theorem Ints.takes {w : World} {B n : Nat} {A : Option Addr} {zs : List Int} (h : Ints w B A n zs) (k : Nat) (hk : k ≤ n) : Ints w B A k (zs.take k) := by
  have hl := h.1
  refine ⟨by simp; omega, fun hp => ?_⟩
  obtain ⟨b, off, e, hb, hc⟩ := h.2 (by omega)
  refine ⟨b, off, e, hb, fun i hi => ?_⟩
  have h1 := hc i (by omega)
  rw [h1]
  simp [hi]
theorem l1Copy_any (A : Option Addr) (n c : Nat) (xs : List Int) (B : Nat) (w : World) (hn : n ≤ 1048576) (hB : B ≤ w.heap.size) (hA : A = none → c = 0) (hb : Ints w B A n xs) :
    Calls Try.prog 80 #[.slice A n c] w fun e w' => ∃ g c', e = .returned (.slice (some ⟨g, 0, none⟩) n c') ∧ OwnI w' w.heap.size (some ⟨g, 0, none⟩) n c' xs ∧ Below w.heap.size w w' := by
  have hlen := hb.1
  obtain ⟨i0, hi, hz0, hz1, hz2⟩ := info_parts Try.infoI
  have HI := Lib.hid hi
  have HZ0 := Lib.hid hz0
  have HZ1 := Lib.hid hz1
  have HZ2 := Lib.hid hz2
  have E0 := Lib.hid (OwnI.empty w w.heap.size (Nat.le_refl _))
  have B0 := Lib.hid ((Below.refl w.heap.size w).alloc (Nat.le_refl _) (.cells #[] 2))
  clear hi hz0 hz1 hz2
  cases A with
  | none =>
    obtain rfl : c = 0 := hA rfl
    obtain rfl : n = 0 := by
      rcases Nat.eq_zero_or_pos n with h | h
      · exact h
      · obtain ⟨b, off, e, _⟩ := hb.2 h; cases e
    obtain rfl : xs = [] := List.eq_nil_of_length_eq_zero hlen
    go_enter Try.func80, Try.ntmps80
    go_wp2
    go_ret
    exact ⟨_, _, rfl, E0.out, B0.out⟩
  | some a =>
    have hrow : ∀ j u, (xs.map (Value.int .i64))[j]? = some u → (w.alloc (.cells #[] 2)).cell? (a.add j) = some u := by
      intro j u hj
      have h0 : 0 < n := by
        rcases Nat.eq_zero_or_pos n with h | h
        · rw [List.getElem?_eq_none (by simp; omega)] at hj; cases hj
        · exact h
      obtain ⟨b, off, e, hbB, hrow⟩ := (hb.alloc hB (.cells #[] 2)).row h0
      cases e
      exact hrow j u hj
    have HROW := Lib.hid hrow
    clear hrow hb hA
    go_enter Try.func80, Try.ntmps80
    go_wp2_with (at_builtin; refine wpList_append_own _ rfl _ _ 29 rfl w.heap.size 2 i0 (.int .i64 0) 1 8 Try.underlying29 HI.out HZ0.out HZ1.out HZ2.out rfl (by decide) _ _ _ rfl E0.out a n _ (xs.map (Value.int .i64)) rfl ?c0 ?c1 ?c2 ?c3 ?c4 ?c5 ?_)
    case c0 => rw [List.length_map, Nat.mul_one]; exact hlen
    case c1 => exact HROW.out
    case c2 => intro u hu; obtain ⟨z, _, rfl⟩ := List.mem_map.1 hu; rfl
    case c3 => unfold maxLen; omega
    case c4 => omega
    case c5 => simp
    intro v1 w1 hown1 hgrow1 hnil1
    obtain ⟨g1, c1, rfl⟩ : ∃ g c, v1 = .slice (some ⟨g, 0, none⟩) n c := by
      rcases hown1.2 with ⟨e, _⟩ | ⟨g, cap, cur, e, _⟩
      · exact absurd e hnil1
      · exact ⟨g, cap, e⟩
    have hb1 : Below w.heap.size w w1 := B0.out.grown hgrow1 (by simp) (fun g hg => (World.ownsRow.lt E0.out g hg).1)
    have O1 := Lib.hid hown1
    have B1 := Lib.hid hb1
    clear hown1 hb1 hgrow1 hnil1
    go_wp2
    go_ret
    exact ⟨_, _, rfl, by simpa [OwnI] using O1.out, B1.out⟩

theorem l4Into_any (g n c : Nat) (xs : List Int) (m : Int) (B : Nat) (w : World) (hn : n ≤ 1048000) (hc : n ≤ c) (hB : B ≤ w.heap.size) (hb : Ints w B (some ⟨g, 0, none⟩) n xs) (hR : RiseI xs) :
    Calls Try.prog 82 #[.slice (some ⟨g, 0, none⟩) n c, .int .i64 m] w fun e w' => Below w.heap.size w w' ∧
      ((m ∈ xs ∧ e = .returned (.slice (some ⟨g, 0, none⟩) n c)) ∨ (m ∉ xs ∧ ∃ g' c', e = .returned (.slice (some ⟨g', 0, none⟩) (n + 1) c') ∧ OwnI w' w.heap.size (some ⟨g', 0, none⟩) (n + 1) c' (insI xs m))) := by
  have hlen := hb.1
  have HB := Lib.hid (hb.more hB)
  have HR := Lib.hid hR
  clear hb hR
  obtain ⟨i0, hi, hz0, hz1, hz2⟩ := info_parts Try.infoI
  have HI := Lib.hid hi
  have HZ0 := Lib.hid hz0
  have HZ1 := Lib.hid hz1
  have HZ2 := Lib.hid hz2
  clear hi hz0 hz1 hz2
  go_enter Try.func82, Try.ntmps82
  go_wp2_with fail
  refine (l4In_any _ n c xs m _ w (by omega) HB.out).mono ?_
  rintro e w' ⟨rfl, rfl⟩
  by_cases hin : m ∈ xs
  · rw [decide_eq_true hin]
    have HIN := Lib.hid hin
    clear hin
    go_wp2
    go_ret
    exact ⟨Below.refl _ _, .inl ⟨HIN.out, rfl⟩⟩
  · rw [decide_eq_false hin]
    have HIN := Lib.hid hin
    clear hin
    go_wp2
    go_loopw [5] (fun i wr => ∃ k : Nat, k ≤ n ∧ i = .int .i64 k ∧ (∀ j, k ≤ j → j < n → m < xs[j]?.getD 0) ∧ Below w.heap.size w wr) (fun i _ => (intOf i).toNat)
    case atStart => exact ⟨n, Nat.le_refl _, rfl, fun j h1 h2 => by omega, Below.refl _ _⟩
    case round =>
      obtain ⟨k, hk, rfl, hgt, hbr⟩ := hrel
      have BR := Lib.hid hbr
      have GT := Lib.hid hgt
      have HK := Lib.hid (HB.out.below hbr)
      have hsr : w.heap.size ≤ wr.heap.size := hbr.size
      clear hbr hgt
      by_cases hrun : 0 < k ∧ m < xs[k - 1]?.getD 0
      · obtain ⟨hk0, hlt⟩ := hrun
        have hwk : IntKind.i64.wrap ((k : Int) - 1) = (k : Int) - 1 := by rw [IntKind.wrap_i64]; omega
        have hd : decide ((0 : Int) < (k : Int)) = true := decide_eq_true (by omega)
        obtain ⟨b, off, e, hbB, p0⟩ := HK.out.at_ (k := k - 1) (by omega)
        cases e
        obtain ⟨y, hy⟩ : ∃ y, xs[k - 1]?.getD 0 = y := ⟨_, rfl⟩
        rw [hy] at p0 hlt
        rw [Nat.zero_add] at p0
        have hdR : decide (m < y) = true := decide_eq_true hlt
        go_wp2
        go_roundw
        case rel =>
          refine ⟨k - 1, by omega, by go_num, fun j h1 h2 => ?_, BR.out⟩
          rcases Nat.lt_or_ge j k with h | h
          · rw [show j = k - 1 by omega, hy]; exact hlt
          · exact GT.out j h h2
        case measure => simp [intOf]; omega
      · have hpl := placeI_at xs m k (by omega) (fun j hj => by
          rcases Nat.lt_or_ge j (k - 1) with h | h
          · have := riseI_at xs HR.out j (k - 1) h (by omega); omega
          · rw [show j = k - 1 by omega]; omega) (fun h => GT.out k (Nat.le_refl _) (by omega))
        have PL := Lib.hid hpl
        have NR := Lib.hid hrun
        clear hpl hrun
        by_cases hk0 : 0 < k
        · have hwk : IntKind.i64.wrap ((k : Int) - 1) = (k : Int) - 1 := by rw [IntKind.wrap_i64]; omega
          have hd : decide ((0 : Int) < (k : Int)) = true := decide_eq_true (by omega)
          obtain ⟨b, off, e, hbB, p0⟩ := HK.out.at_ (k := k - 1) (by omega)
          cases e
          obtain ⟨y, hy⟩ : ∃ y, xs[k - 1]?.getD 0 = y := ⟨_, rfl⟩
          have hlt := NR.out
          rw [hy] at p0 hlt
          rw [Nat.zero_add] at p0
          have hdR : decide (m < y) = false := decide_eq_false (by omega)
          clear hlt
          have B2 := Lib.hid BR.out
          have K2 := Lib.hid HK.out
          have hs2 : w.heap.size ≤ wr.heap.size := B2.out.size
          obtain ⟨w2, rfl⟩ : ∃ w2, w2 = wr := ⟨_, rfl⟩
          go_wp2_with fail
          refine (l1Copy_any (some ⟨g, 0, none⟩) k c (xs.take k) w.heap.size w2 (by omega) hs2 (fun h => by cases h) (Ints.takes K2.out k hk)).mono ?_
          rintro e w3 ⟨g3, c3, rfl, o3, b3⟩
          have B3 := Lib.hid b3
          have O3 := Lib.hid o3
          have hs3 : w2.heap.size ≤ w3.heap.size := b3.size
          clear o3 b3
          go_wp2_with (at_builtin; refine wpList_append_lies _ rfl _ _ 29 rfl w2.heap.size 2 i0 (.int .i64 0) 1 8 Try.underlying29 HI.out HZ0.out HZ1.out HZ2.out rfl (by decide) _ _ _ rfl (own_touch (S := fun _ => False) O3.out (Touch.of_below ((Below.refl _ _).alloc (Nat.le_refl _) _)) (fun _ _ h => h)) ⟨w3.heap.size, 0, none⟩ 1 1 [.int .i64 m] rfl ?bq0 ?bq1 ?bq2 (by omega) ?bq3 ?bq4 ?bq5 _ rfl ?_)
          case bq0 => rfl
          case bq1 =>
            intro j u hj
            match j, hj with
            | 0, hj => simp at hj; subst hj; simp [Addr.add]
          case bq2 => intro u hu; simp at hu; subst hu; rfl
          case bq3 => unfold maxLen; omega
          case bq4 => omega
          case bq5 => simp; omega
          intro g4 c4 w4 hown4 hgrow4 _ _
          have b4 : Below w2.heap.size w2 w4 := (B3.out.trans (((Below.refl w3.heap.size w3).alloc (Nat.le_refl _) _).mono hs3)).grown hgrow4 (by simp; omega) (fun b hb => (World.ownsRow.lt O3.out b hb).1)
          have hs4 : w2.heap.size ≤ w4.heap.size := b4.size
          have OW4 := Lib.hid hown4
          have B4 := Lib.hid b4
          have K4 := Lib.hid (K2.out.below (b4.mono hs2))
          clear hown4 hgrow4 b4
          obtain ⟨off, hoff, hofk⟩ : ∃ off, (if c = k then (some ⟨g, 0, none⟩ : Option Addr) else some ⟨g, k, none⟩) = some ⟨g, off, none⟩ ∧ (k < n → off = k) := by
            by_cases h : c = k
            · exact ⟨0, if_pos h, fun h2 => by omega⟩
            · exact ⟨k, if_neg h, fun _ => rfl⟩
          go_wp2_with (at_builtin; refine wpList_append_own _ rfl _ _ 29 rfl w2.heap.size 2 i0 (.int .i64 0) 1 8 Try.underlying29 HI.out HZ0.out HZ1.out HZ2.out rfl (by decide) _ _ _ rfl OW4.out ⟨g, off, none⟩ (n - k) _ ((xs.drop k).map (Value.int .i64)) rfl ?br0 ?br1 ?br2 ?br3 ?br4 ?br5 ?_)
          case br0 => rw [List.length_map, List.length_drop]; omega
          case br1 =>
            intro j u hj
            have hadd : (⟨g, off, none⟩ : Addr).add j = ⟨g, off + j, none⟩ := by unfold Addr.add; split <;> simp_all
            have hjl : j < n - k := by
              rcases Nat.lt_or_ge j (n - k) with h | h
              · exact h
              · rw [List.getElem?_eq_none (by rw [List.length_map, List.length_drop]; omega)] at hj; cases hj
            obtain ⟨b, o, e, hbB, p0⟩ := K4.out.at_ (k := k + j) (by omega)
            cases e
            rw [hadd, hofk (by omega)]
            rw [Nat.zero_add] at p0
            rw [p0, ← hj, List.getElem?_map, List.getElem?_drop, List.getElem?_eq_getElem (by omega)]
            rfl
          case br2 => intro u hu; obtain ⟨z, _, rfl⟩ := List.mem_map.1 hu; rfl
          case br3 => unfold maxLen; omega
          case br4 => omega
          case br5 => omega
          intro v5 w5 hown5 hgrow5 hnil5
          obtain ⟨g5, c5, rfl⟩ : ∃ g5 c5, v5 = .slice (some ⟨g5, 0, none⟩) (k + 1 + (n - k)) c5 := by
            rcases hown5.2 with ⟨e, _⟩ | ⟨g, cap, cur, e, _⟩
            · exact absurd e hnil5
            · exact ⟨g, cap, e⟩
          have b5 : Below w2.heap.size w2 w5 := B4.out.grown hgrow5 (by omega) (fun b hb => (OW4.out.lt b hb).1)
          have B5 := Lib.hid b5
          have OW5 := Lib.hid hown5
          clear hown5 hgrow5 hnil5 b5
          rw [show k + 1 + (n - k) = n + 1 by omega] at OW5 ⊢
          go_wp2
          go_ret
          refine ⟨B2.out.trans (B5.out.mono hs2), .inr ⟨HIN.out, g5, c5, rfl, OwnI.base ?_ hs2⟩⟩
          unfold OwnI insI
          rw [PL.out]
          simpa using OW5.out
        · have hd : decide ((0 : Int) < (k : Int)) = false := decide_eq_false (by omega)
          have B2 := Lib.hid BR.out
          have K2 := Lib.hid HK.out
          have hs2 : w.heap.size ≤ wr.heap.size := B2.out.size
          obtain ⟨w2, rfl⟩ : ∃ w2, w2 = wr := ⟨_, rfl⟩
          go_wp2_with fail
          refine (l1Copy_any (some ⟨g, 0, none⟩) k c (xs.take k) w.heap.size w2 (by omega) hs2 (fun h => by cases h) (Ints.takes K2.out k hk)).mono ?_
          rintro e w3 ⟨g3, c3, rfl, o3, b3⟩
          have B3 := Lib.hid b3
          have O3 := Lib.hid o3
          have hs3 : w2.heap.size ≤ w3.heap.size := b3.size
          clear o3 b3
          go_wp2_with (at_builtin; refine wpList_append_lies _ rfl _ _ 29 rfl w2.heap.size 2 i0 (.int .i64 0) 1 8 Try.underlying29 HI.out HZ0.out HZ1.out HZ2.out rfl (by decide) _ _ _ rfl (own_touch (S := fun _ => False) O3.out (Touch.of_below ((Below.refl _ _).alloc (Nat.le_refl _) _)) (fun _ _ h => h)) ⟨w3.heap.size, 0, none⟩ 1 1 [.int .i64 m] rfl ?cq0 ?cq1 ?cq2 (by omega) ?cq3 ?cq4 ?cq5 _ rfl ?_)
          case cq0 => rfl
          case cq1 =>
            intro j u hj
            match j, hj with
            | 0, hj => simp at hj; subst hj; simp [Addr.add]
          case cq2 => intro u hu; simp at hu; subst hu; rfl
          case cq3 => unfold maxLen; omega
          case cq4 => omega
          case cq5 => simp; omega
          intro g4 c4 w4 hown4 hgrow4 _ _
          have b4 : Below w2.heap.size w2 w4 := (B3.out.trans (((Below.refl w3.heap.size w3).alloc (Nat.le_refl _) _).mono hs3)).grown hgrow4 (by simp; omega) (fun b hb => (World.ownsRow.lt O3.out b hb).1)
          have hs4 : w2.heap.size ≤ w4.heap.size := b4.size
          have OW4 := Lib.hid hown4
          have B4 := Lib.hid b4
          have K4 := Lib.hid (K2.out.below (b4.mono hs2))
          clear hown4 hgrow4 b4
          obtain ⟨off, hoff, hofk⟩ : ∃ off, (if c = k then (some ⟨g, 0, none⟩ : Option Addr) else some ⟨g, k, none⟩) = some ⟨g, off, none⟩ ∧ (k < n → off = k) := by
            by_cases h : c = k
            · exact ⟨0, if_pos h, fun h2 => by omega⟩
            · exact ⟨k, if_neg h, fun _ => rfl⟩
          go_wp2_with (at_builtin; refine wpList_append_own _ rfl _ _ 29 rfl w2.heap.size 2 i0 (.int .i64 0) 1 8 Try.underlying29 HI.out HZ0.out HZ1.out HZ2.out rfl (by decide) _ _ _ rfl OW4.out ⟨g, off, none⟩ (n - k) _ ((xs.drop k).map (Value.int .i64)) rfl ?cr0 ?cr1 ?cr2 ?cr3 ?cr4 ?cr5 ?_)
          case cr0 => rw [List.length_map, List.length_drop]; omega
          case cr1 =>
            intro j u hj
            have hadd : (⟨g, off, none⟩ : Addr).add j = ⟨g, off + j, none⟩ := by unfold Addr.add; split <;> simp_all
            have hjl : j < n - k := by
              rcases Nat.lt_or_ge j (n - k) with h | h
              · exact h
              · rw [List.getElem?_eq_none (by rw [List.length_map, List.length_drop]; omega)] at hj; cases hj
            obtain ⟨b, o, e, hbB, p0⟩ := K4.out.at_ (k := k + j) (by omega)
            cases e
            rw [hadd, hofk (by omega)]
            rw [Nat.zero_add] at p0
            rw [p0, ← hj, List.getElem?_map, List.getElem?_drop, List.getElem?_eq_getElem (by omega)]
            rfl
          case cr2 => intro u hu; obtain ⟨z, _, rfl⟩ := List.mem_map.1 hu; rfl
          case cr3 => unfold maxLen; omega
          case cr4 => omega
          case cr5 => omega
          intro v5 w5 hown5 hgrow5 hnil5
          obtain ⟨g5, c5, rfl⟩ : ∃ g5 c5, v5 = .slice (some ⟨g5, 0, none⟩) (k + 1 + (n - k)) c5 := by
            rcases hown5.2 with ⟨e, _⟩ | ⟨g, cap, cur, e, _⟩
            · exact absurd e hnil5
            · exact ⟨g, cap, e⟩
          have b5 : Below w2.heap.size w2 w5 := B4.out.grown hgrow5 (by omega) (fun b hb => (OW4.out.lt b hb).1)
          have B5 := Lib.hid b5
          have OW5 := Lib.hid hown5
          clear hown5 hgrow5 hnil5 b5
          rw [show k + 1 + (n - k) = n + 1 by omega] at OW5 ⊢
          go_wp2
          go_ret
          refine ⟨B2.out.trans (B5.out.mono hs2), .inr ⟨HIN.out, g5, c5, rfl, OwnI.base ?_ hs2⟩⟩
          unfold OwnI insI
          rw [PL.out]
          simpa using OW5.out
end Go.Proofs.Ytbepfgmonadadaa

-- ReachL: The model's ReachOf: its loop.
namespace Go.Proofs.Ytbepfgmonadadaa
set_option maxRecDepth 20000
set_option linter.unusedVariables false
set_option linter.unusedSimpArgs false
open Go.RowKit

def lenOf : Value → Nat
  | .slice _ n _ => n
  | _ => 0
/-- what is told of the names found and of those to be looked at. -/
structure Going (cs : List (Int × List Int)) (roots out todo : List Int) (b : Bool) : Prop where
  rise : RiseI out
  reach : ∀ x, x ∈ out → Reached cs roots x
  todos : ∀ x, x ∈ todo → x = 0 ∨ Reached cs roots x
  root : ∀ r, r ∈ roots → r ≠ 0 → r ∈ out ∨ r ∈ todo
  kid : ∀ y k, y ∈ out → KidOf cs y k → k ∈ out ∨ k ∈ todo
  whole : b = true ↔ ∀ x, x ∈ out → findC cs x < cs.length
theorem Going.start (cs : List (Int × List Int)) (roots : List Int) : Going cs roots [] roots true :=
  ⟨List.Pairwise.nil, fun x h => by simp at h, fun x h => by
    by_cases h0 : x = 0
    · exact .inl h0
    · exact .inr (Reached.root h h0), fun r h _ => .inr h, fun y k h => by simp at h, ⟨fun _ x h => by simp at h, fun _ => rfl⟩⟩
theorem Going.skip {cs : List (Int × List Int)} {roots out todo : List Int} {b : Bool} {m : Int} (h : Going cs roots out (todo ++ [m]) b) (hm : m = 0 ∨ m ∈ out) : Going cs roots out todo b := by
  refine ⟨h.rise, h.reach, fun x hx => h.todos x (List.mem_append_left _ hx), fun r hr h0 => ?_, fun y k hy hk => ?_, h.whole⟩
  · rcases h.root r hr h0 with h1 | h1
    · exact .inl h1
    · rcases List.mem_append.1 h1 with h2 | h2
      · exact .inr h2
      · simp at h2
        subst h2
        rcases hm with e | e
        · exact absurd e h0
        · exact .inl e
  · rcases h.kid y k hy hk with h1 | h1
    · exact .inl h1
    · rcases List.mem_append.1 h1 with h2 | h2
      · exact .inr h2
      · simp at h2
        subst h2
        rcases hm with e | e
        · exact absurd e (kidOf_pos hk)
        · exact .inl e
theorem Going.take {cs : List (Int × List Int)} {roots out todo : List Int} {b is : Bool} {m : Int} {nd : MNode} (hR : Right cs) (h : Going cs roots out (todo ++ [m]) b) (h0 : m ≠ 0) (hm : m ∉ out) (hit : HitIs cs m nd is) :
    Going cs roots (insI out m) (todo ++ nd.kids.map (·.2)) (b && is) := by
  have hr : Reached cs roots m := by
    rcases h.todos m (by simp) with e | e
    · exact absurd e h0
    · exact e
  refine ⟨insI_rise out m h.rise hm, fun x hx => ?_, fun x hx => ?_, fun r hr' hr0 => ?_, fun y k hy hk => ?_, ?_⟩
  · rcases (insI_mem out m x).1 hx with e | e
    · rw [e]; exact hr
    · exact h.reach x e
  · rcases List.mem_append.1 hx with h1 | h1
    · exact h.todos x (List.mem_append_left _ h1)
    · obtain ⟨⟨a, k⟩, hp, rfl⟩ := List.mem_map.1 h1
      right
      cases is with
      | true => exact hr.kid ⟨nd, a, hit, hp⟩
      | false =>
        have hn : nd = node0 := by
          rcases hit with ⟨_, ⟨h, _⟩ | ⟨_, h, _⟩⟩ | ⟨_, h, _⟩
          · cases h
          · exact h
          · exact h
        rw [hn] at hp
        simp [node0] at hp
  · rcases h.root r hr' hr0 with h1 | h1
    · exact .inl ((insI_mem out m r).2 (.inr h1))
    · rcases List.mem_append.1 h1 with h2 | h2
      · exact .inr (List.mem_append_left _ h2)
      · simp at h2
        exact .inl ((insI_mem out m r).2 (.inl h2))
  · rcases (insI_mem out m y).1 hy with e | e
    · subst e
      obtain ⟨nd', a, h1, h2⟩ := hk
      obtain ⟨rfl, rfl⟩ := hit.one h1
      exact .inr (List.mem_append_right _ (List.mem_map.2 ⟨(a, k), h2, rfl⟩))
    · rcases h.kid y k e hk with h1 | h1
      · exact .inl ((insI_mem out m k).2 (.inr h1))
      · rcases List.mem_append.1 h1 with h2 | h2
        · exact .inr (List.mem_append_left _ h2)
        · simp at h2
          exact .inl ((insI_mem out m k).2 (.inl h2))
  · have hf := hit_found hR hit
    constructor
    · intro hb x hx
      have hb : b = true ∧ is = true := by simpa using hb
      rcases (insI_mem out m x).1 hx with e | e
      · rw [e]; exact hf.1 hb.2
      · exact h.whole.1 hb.1 x e
    · intro hx
      have h1 : b = true := h.whole.2 fun x hxo => hx x ((insI_mem out m x).2 (.inr hxo))
      have h2 : is = true := hf.2 (hx m ((insI_mem out m m).2 (.inl rfl)))
      simp [h1, h2]
theorem Going.done {cs : List (Int × List Int)} {roots out : List Int} {b : Bool} (h : Going cs roots out [] b) (x : Int) : x ∈ out ↔ Reached cs roots x := by
  refine ⟨h.reach x, fun hx => hx (· ∈ out) (fun r hr h0 => ?_) (fun y k hy hk => ?_)⟩
  · rcases h.root r hr h0 with h1 | h1
    · exact h1
    · simp at h1
  · rcases h.kid y k hy hk with h1 | h1
    · exact h1
    · simp at h1
theorem Going.len {cs : List (Int × List Int)} {roots out todo : List Int} {b : Bool} (h : Going cs roots out todo b) : out.length ≤ roots.length + 16 * cs.length := by
  obtain ⟨u, hu, hx⟩ := reach_bound cs roots
  exact Nat.le_trans (riseI_len out u h.rise fun x hx' => hx x (h.reach x hx')) hu
theorem hit_kids {cs : List (Int × List Int)} {m : Int} {nd : MNode} {b : Bool} (h : HitIs cs m nd b) : nd.kids.length ≤ 16 := by
  cases b with
  | true => exact kidsOk_len nd.kids (nodeOk_parts nd (hit_ok h)).2.1
  | false =>
    have hn : nd = node0 := by
      rcases h with ⟨_, ⟨h, _⟩ | ⟨_, h, _⟩⟩ | ⟨_, h, _⟩
      · cases h
      · exact h
      · exact h
    rw [hn]; simp [node0]

theorem OwnI.short {w : World} {base g q c : Nat} {xs : List Int} (h : OwnI w base (some ⟨g, 0, none⟩) (q + 1) c xs) : OwnI w base (some ⟨g, 0, none⟩) q c (xs.take q) := by
  have hl := h.len
  refine ⟨by simp; omega, ?_⟩
  rcases h.2 with ⟨e, _⟩ | ⟨g', cap, cur, e, hb, hg, hn, hc, hs, ht⟩
  · cases e
  · refine .inr ⟨g', cap, cur, ?_, hb, hg, by omega, hc, hs, ?_⟩
    · cases e; rfl
    · rw [Nat.mul_one] at ht ⊢
      rw [List.map_take, ← ht, List.take_take]
      congr 1; omega
theorem OwnI.last {w : World} {base g q c : Nat} {xs : List Int} (h : OwnI w base (some ⟨g, 0, none⟩) (q + 1) c xs) : xs = xs.take q ++ [xs[q]?.getD 0] := by
  have hl := h.len
  conv => lhs; rw [← List.take_append_drop q xs]
  rw [List.drop_eq_getElem_cons (by omega), List.getElem?_eq_getElem (by omega), List.drop_eq_nil_of_le (by omega)]
  rfl
theorem OwnI.cap {w : World} {base g n c : Nat} {xs : List Int} (h : OwnI w base (some ⟨g, 0, none⟩) n c xs) : n ≤ c := by
  rcases h.2 with ⟨e, _⟩ | ⟨g', cap, cur, e, _, _, hn, _⟩
  · cases e
  · cases e; exact hn
set_option maxHeartbeats 1600000 in
theorem l4Reach_any (A : Option Addr) (n c : Nat) (cs : List (Int × List Int)) (Ar : Option Addr) (nr cr : Nat) (roots : List Int) (B : Nat) (w : World) (hm : ∀ i, (cel cs i).2.length ≤ 1048576) (hR : Right cs) (hr : roots.length ≤ 80) (hA : Ar = none → cr = 0) (hB : B ≤ w.heap.size) (hb : Cells w B A n cs) (hbr : Ints w B Ar nr roots) :
    Calls Try.prog 57 #[.slice A n c, .slice Ar nr cr] w fun e w' => ∃ g n' c' l b, e = .returned (.tuple #[.slice (some ⟨g, 0, none⟩) n' c', .bool b]) ∧ Going cs roots l [] b ∧ OwnI w' w.heap.size (some ⟨g, 0, none⟩) n' c' l ∧ Below w.heap.size w w' := by
  have HB := Lib.hid (hb.more hB)
  have HBR := Lib.hid (hbr.more hB)
  have hlen := hb.1
  have hlr := hbr.1
  have RT := Lib.hid hR
  have hn80 : n ≤ 80 := by have := hR.1; omega
  clear hb hbr hR
  have b1 : Below w.heap.size w (w.alloc (.cells #[] 2)) := (Below.refl _ _).alloc (Nat.le_refl _) _
  have B1 := Lib.hid b1
  have E1 := Lib.hid (OwnI.empty w w.heap.size (Nat.le_refl _))
  clear b1
  obtain ⟨i0, hi, hz0, hz1, hz2⟩ := info_parts Try.infoI
  have HI := Lib.hid hi
  have HZ0 := Lib.hid hz0
  have HZ1 := Lib.hid hz1
  have HZ2 := Lib.hid hz2
  clear hi hz0 hz1 hz2
  go_enter Try.func57, Try.ntmps57
  go_wp2_with fail
  refine (l1Copy_any Ar nr cr roots w.heap.size _ (by omega) (by simp) hA (HBR.out.below B1.out)).mono ?_
  rintro e w2 ⟨g2, c2, rfl, o2, b2⟩
  have B2 := Lib.hid (B1.out.trans (b2.mono (by simp)))
  have E2 := Lib.hid (E1.out.below b2)
  have O2 := Lib.hid o2
  have hg2 : w.heap.size + 1 ≤ g2 := by have := (World.ownsRow.lt o2 g2 (by simp [Value.ownBlock])).1; simpa using this
  clear o2 b2
  go_wp2
  go_loopw [6, 7, 8] (fun o h t wr => ∃ (go no co gt nt ct : Nat) (out todo : List Int) (b : Bool), o = .slice (some ⟨go, 0, none⟩) no co ∧ h = .bool b ∧ t = .slice (some ⟨gt, 0, none⟩) nt ct ∧ go ≠ gt ∧ nt + 17 * (1360 - no) ≤ 23200 ∧
    OwnI wr w.heap.size (some ⟨go, 0, none⟩) no co out ∧ OwnI wr w.heap.size (some ⟨gt, 0, none⟩) nt ct todo ∧ Going cs roots out todo b ∧ Below w.heap.size w wr) (fun o _ t _ => lenOf t + 17 * (1360 - lenOf o))
  case atStart => exact ⟨w.heap.size, 0, 0, g2, nr, c2, [], roots, true, rfl, rfl, rfl, by omega, by omega, E2.out, O2.out.base (by simp), Going.start cs roots, B2.out⟩
  case round =>
    obtain ⟨go, no, co, gt, nt, ct, out, todo, b, rfl, rfl, rfl, hne, hbd, ho, ht, hgo, hbel⟩ := hrel
    have hlo := ho.len
    have hlt := ht.len
    have hgl := hgo.len
    have hs0 := hbel.size
    have BR := Lib.hid hbel
    have OR := Lib.hid ho
    have TR := Lib.hid ht
    have GR := Lib.hid hgo
    clear hbel ho ht hgo
    by_cases h0 : nt = 0
    · obtain rfl := h0
      obtain rfl : todo = [] := List.eq_nil_of_length_eq_zero hlt
      go_wp2
      go_ret2
      exact ⟨_, _, _, out, b, rfl, GR.out, OR.out, BR.out⟩
    · obtain ⟨q, rfl⟩ : ∃ q, nt = q + 1 := ⟨nt - 1, by omega⟩
      have hq0 := TR.out.cell (k := q) (by omega)
      have hlast := TR.out.last
      obtain ⟨m, hmq⟩ : ∃ m, todo[q]?.getD 0 = m := ⟨_, rfl⟩
      rw [hmq] at hq0 hlast
      have G1 := GR.out
      rw [hlast] at G1
      have GR := Lib.hid G1
      have hct := TR.out.cap
      have T1 := Lib.hid TR.out.short
      clear G1 TR hlast hmq
      generalize todo.take q = td at T1 GR
      have hd : decide ((0 : Int) < ((q + 1 : Nat) : Int)) = true := decide_eq_true (by omega)
      have hwk : IntKind.i64.wrap (((q + 1 : Nat) : Int) - 1) = (q : Int) := by rw [IntKind.wrap_i64]; omega
      by_cases hm0 : m = 0
      · have hb0 : (m == 0) = true := by simp [hm0]
        go_wp2
        go_roundw
        case rel => exact ⟨go, no, co, gt, q, ct, out, td, b, rfl, rfl, rfl, hne, by omega, OR.out, T1.out, GR.out.skip (.inl hm0), BR.out⟩
        case measure => simp [lenOf]
      · have hb0 : (m == 0) = false := by simpa using hm0
        have HM0 := Lib.hid hm0
        clear hm0
        have hno : no ≤ 1360 := by omega
        go_wp2_with fail
        refine (l4In_any _ no co out m _ wr (by omega) OR.out.ints).mono ?_
        rintro e w' ⟨rfl, rfl⟩
        by_cases hin : m ∈ out
        · rw [decide_eq_true hin]
          have HIN := Lib.hid hin
          clear hin
          go_wp2
          go_roundw
          case rel => exact ⟨go, no, co, gt, q, ct, out, td, b, rfl, rfl, rfl, hne, by omega, OR.out, T1.out, GR.out.skip (.inr HIN.out), BR.out⟩
          case measure => simp [lenOf]
        · rw [decide_eq_false hin]
          have HIN := Lib.hid hin
          clear hin
          go_wp2_with fail
          refine (l4Into_any go no co out m _ wr (by omega) OR.out.cap (Nat.le_refl _) OR.out.ints GR.out.rise).mono ?_
          rintro e w3 ⟨b3, h3⟩
          rcases h3 with ⟨h3, _⟩ | ⟨_, g3, c3, rfl, o3⟩
          · exact absurd h3 HIN.out
          have O3 := Lib.hid o3
          have T3 := Lib.hid (T1.out.below b3)
          have B3 := Lib.hid (BR.out.trans (b3.mono hs0))
          have hs3 : wr.heap.size ≤ w3.heap.size := b3.size
          have hg3 : wr.heap.size ≤ g3 := (World.ownsRow.lt o3 g3 (by simp [Value.ownBlock])).1
          have hgt : gt < wr.heap.size := (World.ownsRow.lt T1.out gt (by simp [Value.ownBlock])).2
          clear b3 o3 OR
          go_wp2_with fail
          refine (l4Node_any A n c cs m w.heap.size w3 (by omega) hm (by omega) (HB.out.below B3.out)).mono ?_
          rintro e w4 ⟨v, nd, is, rfl, own, hit, b4⟩
          have O4 := Lib.hid (O3.out.below b4)
          have T4 := Lib.hid (T3.out.below b4)
          have B4 := Lib.hid (B3.out.trans (b4.mono (by omega)))
          have hs4 : w3.heap.size ≤ w4.heap.size := b4.size
          have HIT := Lib.hid hit
          obtain ⟨Ap, np, cp, Ak, nk, ck, rfl, hnp, hnk, hsz, hp, hk, hap⟩ := own
          have HKK := Lib.hid hk
          have h16 := hit_kids hit
          have hkl := hk.len
          clear hp hk hap b4 hit O3 T3 T1
          obtain ⟨w5, hw5⟩ : ∃ w5, w4.alloc (.cells #[.int .i64 0, .slice none 0 0, .slice none 0 0, .string { data := #[] }] 32) = w5 := ⟨_, rfl⟩
          have x5 : Box w5 w4.heap.size _ _ := hw5 ▸ heap_alloc_new _ _
          have b5 : Below w4.heap.size w4 w5 := hw5 ▸ (Below.refl _ _).alloc (Nat.le_refl _) _
          have X5 := Lib.hid x5
          obtain ⟨w6, hw6⟩ : ∃ w6, (((w5.setCell ⟨w4.heap.size, 0, none⟩ (.int .i64 nd.kind)).setCell ⟨w4.heap.size, 1, none⟩ (.slice Ap np cp)).setCell ⟨w4.heap.size, 2, none⟩ (.slice Ak nk ck)).setCell ⟨w4.heap.size, 3, none⟩ (.string nd.val) = w6 := ⟨_, rfl⟩
          have h4' := set4 x5 (.int .i64 nd.kind) (.slice Ap np cp) (.slice Ak nk ck) (.string nd.val)
          have t6 : Touch (fun b => b = w4.heap.size) w5 w6 := hw6 ▸ h4'.2
          have x6 : Box w6 w4.heap.size 32 #[.int .i64 nd.kind, .slice Ap np cp, .slice Ak nk ck, .string nd.val] := hw6 ▸ h4'.1
          have b6 : Below w4.heap.size w4 w6 := b5.trans (t6.below b5.size (fun b hb e => by omega))
          have X6 := Lib.hid x6
          have O6 := Lib.hid (O4.out.below b6)
          have T6 := Lib.hid (T4.out.below b6)
          have K6 := Lib.hid (HKK.out.below b6)
          have B6 := Lib.hid (B4.out.trans (b6.mono (by omega)))
          have hs6 : w4.heap.size ≤ w6.heap.size := b6.size
          have q20 := X5.out.cell 0
          have q21 := X5.out.cell 1
          have q22 := X5.out.cell 2
          have q23 := X5.out.cell 3
          have f2 := X5.out.free
          have q62 := X6.out.cell 2
          simp at q20 q21 q22 q23 q62
          clear x5 b5 h4' t6 x6 b6
          cases b with
          | false =>
            have GT := Lib.hid (GR.out.take RT.out HM0.out HIN.out HIT.out)
            have hgtl : w.heap.size ≤ gt := (World.ownsRow.lt T6.out gt (by simp [Value.ownBlock])).1
            have hx4 := X6.out.lt
            go_wp2
            go_loopw [8, 12] (fun t i wr => ∃ (k gk ck' : Nat), k ≤ nk ∧ i = .int .i64 k ∧ t = .slice (some ⟨gk, 0, none⟩) (q + k) ck' ∧ (gk = gt ∨ w6.heap.size ≤ gk) ∧ OwnI wr w.heap.size (some ⟨gk, 0, none⟩) (q + k) ck' (td ++ (nd.kids.take k).map (·.2)) ∧ Touch (fun b => b = gt ∨ w6.heap.size ≤ b) w6 wr) (fun _ i _ => nk - (intOf i).toNat)
            case atStart => exact ⟨0, gt, ct, Nat.zero_le _, rfl, rfl, .inl rfl, by simpa using T6.out, Touch.of_below (Below.refl _ _)⟩
            case round =>
              obtain ⟨k, gk, ck', hkn, rfl, rfl, hgk, htk, htt⟩ := hrel
              have TK := Lib.hid htk
              have TT := Lib.hid htt
              have hsv : w6.heap.size ≤ wr.heap.size := htt.size
              have xv : Box wr w4.heap.size 32 #[.int .i64 nd.kind, .slice Ap np cp, .slice Ak nk ck, .string nd.val] := (htt.block _ hx4 (fun e => by rcases e with e | e <;> omega)).trans X6.out
              have qv := xv.cell 2
              simp at qv
              have kv' := K6.out.touch htt (fun b hb e => by have h1 := (World.ownsRow.lt HKK.out b hb); rcases e with e | e <;> omega)
              have KV := Lib.hid kv'
              have XV := Lib.hid xv
              clear htk htt xv kv' q62
              by_cases hlk : k < nk
              · obtain ⟨gb, rfl, _, _⟩ := KV.out.form (by omega)
                have hk1 := KV.out.cell1 hlk
                have hst : (nd.kids.take (k + 1)).map (·.2) = (nd.kids.take k).map (·.2) ++ [(nd.kids[k]?.getD (0, 0)).2] := by
                  rw [List.take_succ_eq_append_getElem (by omega), List.map_append, List.getElem?_eq_getElem (by omega)]; rfl
                have HST := Lib.hid hst
                obtain ⟨L, hL⟩ : ∃ L, td ++ (nd.kids.take k).map (·.2) = L := ⟨_, rfl⟩
                have TK := TK.out
                rw [hL] at TK
                have TK := Lib.hid TK
                have HL := Lib.hid hL
                clear hst hL
                generalize (nd.kids[k]?.getD (0, 0)).2 = z at hk1 HST
                go_wp2_with (at_builtin; refine wpList_append_lies _ rfl _ _ 29 rfl w.heap.size 2 i0 (.int .i64 0) 1 8 Try.underlying29 HI.out HZ0.out HZ1.out HZ2.out rfl (by decide) _ _ _ rfl (own_touch (S := fun _ => False) TK.out (Touch.of_below ((Below.refl _ _).alloc (Nat.le_refl _) _)) (fun _ _ h => h)) ⟨wr.heap.size, 0, none⟩ 1 1 [.int .i64 z] rfl ?bq0 ?bq1 ?bq2 (by omega) ?bq3 ?bq4 ?bq5 _ rfl ?_)
                case bq2 => first | rfl | (intro u hu; simp at hu; subst hu; rfl)
                case bq3 => unfold maxLen; omega
                case bq4 => omega
                case bq5 => first | omega | (simp; omega)
                intro g7 c7 w7 hown7 hgrow7 hor7 _
                have t7 : Touch (fun b => b = gt ∨ w6.heap.size ≤ b) wr w7 := (Touch.of_below ((Below.refl wr.heap.size wr).alloc (Nat.le_refl _) _)).trans ((Touch.of_grown hgrow7).mono (fun b e => by simp [Value.ownBlock] at e; omega))
                have h7 : g7 = gt ∨ w6.heap.size ≤ g7 := by
                  rcases hor7 with e | e <;> (try simp [Value.ownBlock] at e) <;> omega
                have o7 : OwnI w7 w.heap.size (some ⟨g7, 0, none⟩) (q + (k + 1)) c7 (td ++ (nd.kids.take (k + 1)).map (·.2)) := by
                  rw [HST.out, ← List.append_assoc, HL.out]
                  unfold OwnI
                  rw [List.map_append]
                  exact hown7
                have O7 := Lib.hid o7
                have T7 := Lib.hid (TT.out.trans t7)
                have H7 := Lib.hid h7
                clear hown7 hgrow7 hor7 t7 o7 h7 qv hk1
                go_wp2
                go_roundw
                case rel => exact ⟨k + 1, g7, c7, by omega, by go_num, rfl, H7.out, O7.out, T7.out⟩
                case measure => simp [intOf]; omega
              · obtain rfl : k = nk := by omega
                have o8 := O6.out.touch TT.out (fun b hb e => by
                  have h1 : g3 = b := by simpa [Value.ownBlock] using hb
                  have h2 := (World.ownsRow.lt O6.out b hb).2
                  rcases e with e | e <;> omega)
                have b8 := B6.out.trans (TT.out.below (show w.heap.size ≤ w6.heap.size by omega) (fun b hb e => by rcases e with e | e <;> omega))
                have tk8 := TK.out
                rw [List.take_of_length_le (by omega)] at tk8
                have O8 := Lib.hid (OwnI.base o8 hs0)
                have B8 := Lib.hid b8
                have T8 := Lib.hid tk8
                have hg38 : g3 < w6.heap.size := (World.ownsRow.lt O6.out g3 (by simp [Value.ownBlock])).2
                clear o8 b8 tk8
                have hon := GT.out.len
                have hol := insI_len out m
                go_wp2
                go_roundw
                case rel => exact ⟨g3, no + 1, c3, gk, q + k, ck', insI out m, td ++ nd.kids.map (·.2), _, rfl, rfl, rfl, by rcases hgk with e | e <;> omega, by omega, O8.out, T8.out, GT.out, B8.out⟩
                case measure => simp [lenOf]; omega
          | true =>
            have GT := Lib.hid (GR.out.take RT.out HM0.out HIN.out HIT.out)
            have hgtl : w.heap.size ≤ gt := (World.ownsRow.lt T6.out gt (by simp [Value.ownBlock])).1
            have hx4 := X6.out.lt
            go_wp2
            go_loopw [8, 12] (fun t i wr => ∃ (k gk ck' : Nat), k ≤ nk ∧ i = .int .i64 k ∧ t = .slice (some ⟨gk, 0, none⟩) (q + k) ck' ∧ (gk = gt ∨ w6.heap.size ≤ gk) ∧ OwnI wr w.heap.size (some ⟨gk, 0, none⟩) (q + k) ck' (td ++ (nd.kids.take k).map (·.2)) ∧ Touch (fun b => b = gt ∨ w6.heap.size ≤ b) w6 wr) (fun _ i _ => nk - (intOf i).toNat)
            case atStart => exact ⟨0, gt, ct, Nat.zero_le _, rfl, rfl, .inl rfl, by simpa using T6.out, Touch.of_below (Below.refl _ _)⟩
            case round =>
              obtain ⟨k, gk, ck', hkn, rfl, rfl, hgk, htk, htt⟩ := hrel
              have TK := Lib.hid htk
              have TT := Lib.hid htt
              have hsv : w6.heap.size ≤ wr.heap.size := htt.size
              have xv : Box wr w4.heap.size 32 #[.int .i64 nd.kind, .slice Ap np cp, .slice Ak nk ck, .string nd.val] := (htt.block _ hx4 (fun e => by rcases e with e | e <;> omega)).trans X6.out
              have qv := xv.cell 2
              simp at qv
              have kv' := K6.out.touch htt (fun b hb e => by have h1 := (World.ownsRow.lt HKK.out b hb); rcases e with e | e <;> omega)
              have KV := Lib.hid kv'
              have XV := Lib.hid xv
              clear htk htt xv kv' q62
              by_cases hlk : k < nk
              · obtain ⟨gb, rfl, _, _⟩ := KV.out.form (by omega)
                have hk1 := KV.out.cell1 hlk
                have hst : (nd.kids.take (k + 1)).map (·.2) = (nd.kids.take k).map (·.2) ++ [(nd.kids[k]?.getD (0, 0)).2] := by
                  rw [List.take_succ_eq_append_getElem (by omega), List.map_append, List.getElem?_eq_getElem (by omega)]; rfl
                have HST := Lib.hid hst
                obtain ⟨L, hL⟩ : ∃ L, td ++ (nd.kids.take k).map (·.2) = L := ⟨_, rfl⟩
                have TK := TK.out
                rw [hL] at TK
                have TK := Lib.hid TK
                have HL := Lib.hid hL
                clear hst hL
                generalize (nd.kids[k]?.getD (0, 0)).2 = z at hk1 HST
                go_wp2_with (at_builtin; refine wpList_append_lies _ rfl _ _ 29 rfl w.heap.size 2 i0 (.int .i64 0) 1 8 Try.underlying29 HI.out HZ0.out HZ1.out HZ2.out rfl (by decide) _ _ _ rfl (own_touch (S := fun _ => False) TK.out (Touch.of_below ((Below.refl _ _).alloc (Nat.le_refl _) _)) (fun _ _ h => h)) ⟨wr.heap.size, 0, none⟩ 1 1 [.int .i64 z] rfl ?cq0 ?cq1 ?cq2 (by omega) ?cq3 ?cq4 ?cq5 _ rfl ?_)
                case cq2 => first | rfl | (intro u hu; simp at hu; subst hu; rfl)
                case cq3 => unfold maxLen; omega
                case cq4 => omega
                case cq5 => first | omega | (simp; omega)
                intro g7 c7 w7 hown7 hgrow7 hor7 _
                have t7 : Touch (fun b => b = gt ∨ w6.heap.size ≤ b) wr w7 := (Touch.of_below ((Below.refl wr.heap.size wr).alloc (Nat.le_refl _) _)).trans ((Touch.of_grown hgrow7).mono (fun b e => by simp [Value.ownBlock] at e; omega))
                have h7 : g7 = gt ∨ w6.heap.size ≤ g7 := by
                  rcases hor7 with e | e <;> (try simp [Value.ownBlock] at e) <;> omega
                have o7 : OwnI w7 w.heap.size (some ⟨g7, 0, none⟩) (q + (k + 1)) c7 (td ++ (nd.kids.take (k + 1)).map (·.2)) := by
                  rw [HST.out, ← List.append_assoc, HL.out]
                  unfold OwnI
                  rw [List.map_append]
                  exact hown7
                have O7 := Lib.hid o7
                have T7 := Lib.hid (TT.out.trans t7)
                have H7 := Lib.hid h7
                clear hown7 hgrow7 hor7 t7 o7 h7 qv hk1
                go_wp2
                go_roundw
                case rel => exact ⟨k + 1, g7, c7, by omega, by go_num, rfl, H7.out, O7.out, T7.out⟩
                case measure => simp [intOf]; omega
              · obtain rfl : k = nk := by omega
                have o8 := O6.out.touch TT.out (fun b hb e => by
                  have h1 : g3 = b := by simpa [Value.ownBlock] using hb
                  have h2 := (World.ownsRow.lt O6.out b hb).2
                  rcases e with e | e <;> omega)
                have b8 := B6.out.trans (TT.out.below (show w.heap.size ≤ w6.heap.size by omega) (fun b hb e => by rcases e with e | e <;> omega))
                have tk8 := TK.out
                rw [List.take_of_length_le (by omega)] at tk8
                have O8 := Lib.hid (OwnI.base o8 hs0)
                have B8 := Lib.hid b8
                have T8 := Lib.hid tk8
                have hg38 : g3 < w6.heap.size := (World.ownsRow.lt O6.out g3 (by simp [Value.ownBlock])).2
                clear o8 b8 tk8
                have hon := GT.out.len
                have hol := insI_len out m
                go_wp2
                go_roundw
                case rel => exact ⟨g3, no + 1, c3, gk, q + k, ck', insI out m, td ++ nd.kids.map (·.2), _, rfl, rfl, rfl, by rcases hgk with e | e <;> omega, by omega, O8.out, T8.out, GT.out, B8.out⟩
                case measure => simp [lenOf]; omega
end Go.Proofs.Ytbepfgmonadadaa

-- ReachO: The model's ReachOf.
namespace Go.Proofs.Ytbepfgmonadadaa
set_option maxRecDepth 20000
set_option linter.unusedVariables false
set_option linter.unusedSimpArgs false
open Go.RowKit

theorem specReachOf_any (A : Option Addr) (n c : Nat) (cs : List (Int × List Int)) (Ar : Option Addr) (nr cr : Nat) (roots : List Int) (B : Nat) (w : World) (hn : n ≤ 1048576) (hnr : nr ≤ 1048576) (hm : ∀ i, (cel cs i).2.length ≤ 1048576) (hA : Ar = none → cr = 0) (hB : B ≤ w.heap.size) (hb : Cells w B A n cs) (hbr : Ints w B Ar nr roots) :
    Calls Try.prog 26 #[.slice A n c, .slice Ar nr cr] w fun e w' => ∃ A' n' c' l b, e = .returned (.tuple #[.slice A' n' c', .bool b]) ∧ ReachIs cs roots l b ∧ OwnI w' w.heap.size A' n' c' l ∧ Below w.heap.size w w' := by
  have HB := Lib.hid (hb.more hB)
  have HBR := Lib.hid (hbr.more hB)
  have hlr := hbr.1
  clear hb hbr
  go_enter Try.func26, Try.ntmps26
  go_wp2_with fail
  refine (specCellsOk_any A n c cs w.heap.size w hn hm (by omega) HB.out).mono ?_
  rintro e w2 ⟨r, rfl, hr, b2⟩
  have HR := Lib.hid hr
  have B2 := Lib.hid b2
  have s2 : w.heap.size ≤ w2.heap.size := b2.size
  clear hr b2
  cases r with
  | false =>
    have hno : ¬ Right cs := fun h => absurd (HR.out.2 h) (by simp)
    have HNO := Lib.hid hno
    clear hno
    go_wp2
    go_ret2
    exact ⟨_, _, _, [], false, rfl, .inl ⟨fun h => HNO.out h.1, rfl, rfl⟩, OwnI.base (OwnI.empty w2 w2.heap.size (Nat.le_refl _)) s2, B2.out.trans (((Below.refl _ _).alloc (Nat.le_refl _) _).mono s2)⟩
  | true =>
    have hR : Right cs := HR.out.1 (by trivial)
    have RT := Lib.hid hR
    clear hR HR
    by_cases h80 : nr ≤ 80
    · have hd : decide ((80 : Int) < (nr : Int)) = false := decide_eq_false (by omega)
      go_wp2_with fail
      refine (l4Reach_any A n c cs Ar nr cr roots w.heap.size w2 hm RT.out (by omega) hA s2 (HB.out.below B2.out) (HBR.out.below B2.out)).mono ?_
      rintro e w3 ⟨g, n', c', l, b, rfl, hgo, ho, b3⟩
      have GO := Lib.hid hgo
      have HO := Lib.hid ho
      have B3 := Lib.hid b3
      clear hgo ho b3
      go_wp2
      go_ret2
      exact ⟨_, _, _, l, b, rfl, .inr ⟨⟨RT.out, by omega⟩, GO.out.rise, GO.out.done, GO.out.whole⟩, OwnI.base HO.out s2, B2.out.trans (B3.out.mono s2)⟩
    · have hd : decide ((80 : Int) < (nr : Int)) = true := decide_eq_true (by omega)
      go_wp2
      go_ret2
      exact ⟨_, _, _, [], false, rfl, .inl ⟨fun h => absurd h.2 (by omega), rfl, rfl⟩, OwnI.base (OwnI.empty w2 w2.heap.size (Nat.le_refl _)) s2, B2.out.trans (((Below.refl _ _).alloc (Nat.le_refl _) _).mono s2)⟩
end Go.Proofs.Ytbepfgmonadadaa

-- InsB: slices.Insert of one element, as the program calls it, at one type of element. No statement of the program is proved here.
namespace Go.Proofs.Ytbepfgmonadadaa
set_option maxRecDepth 100000
set_option linter.unusedVariables false
set_option linter.unusedSimpArgs false
open Go.RowKit

theorem Try.infoInsB : (Try.prog.info? 4).map (fun i => (i.zero, i.size, i.bytes)) = some (some (.bool false), 1, 1) := by kernel_rfl
theorem Try.sizeInsB : ∀ w, (Go.sizeOf 4).run Try.prog w = .ok 1 w := by
  intro w
  obtain ⟨i0, hi0, hz0, hz1, hz2⟩ := info_parts Try.infoInsB
  simp [sizeOf, typeInfo, hi0, hz1]
theorem Try.siInsB : (Try.prog.info? 4).map (·.size) = some 1 := by
  obtain ⟨i0, hi0, hz0, hz1, hz2⟩ := info_parts Try.infoInsB
  rw [hi0]; simp [hz1]
/-- what insertion of one element leaves. -/
def InsAtB (base n i : Nat) (v : Value) (xs us : List Value) (w : World) (e : Ending) (w' : World) : Prop :=
  ∃ g' c', e = .returned (.slice (some ⟨g', 0, none⟩) (n + 1) c') ∧ w'.ownsRow base 4 1 (.slice (some ⟨g', 0, none⟩) (n + 1) c') (n + 1) (putAt xs us (i * 1)) ∧ w.grownBy w' v.ownBlock ∧ (v.ownBlock = some g' ∨ w.heap.size ≤ g')
set_option maxHeartbeats 4000000 in
/-- there is no room, and the place is not the last. -/
theorem insB_grow (base n c i vb vc g : Nat) (xs us : List Value) (w : World) (hr : w.ownsRow base 4 1 (.slice (some ⟨g, 0, none⟩) n c) n xs) (hbase : base ≤ w.heap.size) (hi : i < n) (hn : n ≤ 1048576) (hc : c < n + 1)
    (hv : w.heap[vb]? = some (.cells us.toArray 4 (0, 0))) (hu : us.length = 1) (h1u : ∀ u ∈ us, u.oneCell' = true) (h1x : ∀ u ∈ xs, u.oneCell' = true) :
    Calls Try.prog 102 #[.slice (some ⟨g, 0, none⟩) n c, .int .i64 i, .slice (some ⟨vb, 0, none⟩) 1 vc] w fun e w' => InsAtB base n i (.slice (some ⟨g, 0, none⟩) n c) xs us w e w' := by
  obtain ⟨i0, hi0, hz0, hz1, hz2⟩ := info_parts Try.infoInsB
  obtain ⟨cur, hbg, hg, hnc, hcm, hcs, htk⟩ := own_parts hr
  have hxl := hr.1
  have hgw : g < w.heap.size := (Array.getElem?_eq_some_iff.1 hg).1
  have hvw : vb < w.heap.size := (Array.getElem?_eq_some_iff.1 hv).1
  obtain rfl : c = n := by omega
  have hold : (Builtin.firstCells i0.size i (.slice (some ⟨g, 0, none⟩) i c)).run Try.prog w.drew = .ok (xs.take (i * 1)).toArray w.drew := by
    rw [hz1]
    exact run_firstCells_some w.drew 1 i ⟨g, 0, none⟩ i c (xs.take (i * 1)) (by rw [List.length_take]; omega) (fun j v hj => by
      rw [Addr.add_lit, Nat.zero_add]
      rw [List.getElem?_take] at hj
      split at hj
      · exact (World.ownsRow.cellAt hr j (by omega)).trans hj
      · cases hj)
  obtain ⟨G, hG⟩ : ∃ G, G = grownCap w (c + 1) c 4 := ⟨_, rfl⟩
  have hGn : c + 1 ≤ G := by rw [hG]; exact grownCap_ge w _ _ _
  have hGm : G ≤ maxLen := by rw [hG]; exact grownCap_le_maxLen w (c + 1) c _ (by unfold maxLen; omega)
  obtain ⟨ZS, hZS⟩ : ∃ ZS : List Value, ZS = (Builtin.zeroCells (.bool false : Value).cells (c + 1 - i)).toList ++ (Builtin.zeroCells (.bool false : Value).cells (G - (c + 1))).toList := ⟨_, rfl⟩
  have hZl : ZS.length = (G - i) * 1 := by
    rw [hZS]
    simp [Builtin.zeroCells, Value.cells]
    omega
  obtain ⟨W1, hW1⟩ : ∃ W1, W1 = w.drew.alloc (.cells (xs.take (i * 1) ++ ZS).toArray 4) := ⟨_, rfl⟩
  have hrz : ∀ ty, (Builtin.append_ #[85, 3] ty #[.slice (some ⟨g, 0, none⟩) i c, .int .i64 ((c : Int) + 1 - (i : Int))]).run Try.prog w = .ok (.slice (some ⟨w.heap.size, 0, none⟩) (c + 1) G) W1 := fun ty => by
    have h := Lib.run_append_grow_zeros w 85 3 ty 4 i0 _ .i64 .i64 Try.underlying85 Try.underlying3 hi0 hz0 (some ⟨g, 0, none⟩) i c (xs.take (i * 1)) hold (c + 1 - i) (by omega) (by omega) (by omega) (by omega) (by rw [hz2]; omega)
      (by rw [hz2, show i + (c + 1 - i) = c + 1 by omega]; exact growslice_fits (by omega) (by omega))
    rw [show i + (c + 1 - i) = c + 1 by omega, ← hG, show (((c + 1 - i : Nat) : Nat) : Int) = (c : Int) + 1 - (i : Int) by omega] at h
    rw [h, hW1, hZS]
    congr 3
    apply Array.ext'
    simp
  have hg1 : W1.heap[w.heap.size]? = some (.cells (xs.take (i * 1) ++ ZS).toArray 4 (0, 0)) := by rw [hW1]; exact heap_alloc_new w.drew _
  have ho1 : ∀ k, k < w.heap.size → W1.heap[k]? = w.heap[k]? := fun k hk => by rw [hW1]; exact heap_alloc_old w.drew _ hk
  have hs1 : w.grownBy W1 (some w.heap.size) := ⟨by rw [hW1]; rfl, by rw [hW1]; rfl, by rw [hW1]; rfl, by rw [hW1]; simp, fun k hk _ => ho1 k hk⟩
  have lc0 : (xs.take (i * 1) ++ ZS).length = G * 1 := by simp [hZl]; omega
  obtain ⟨c1, hc1⟩ : ∃ c1 : List Value, c1 = (xs.take (i * 1) ++ ZS).take (i * 1) ++ us ++ (xs.take (i * 1) ++ ZS).drop (i * 1 + us.length) := ⟨_, rfl⟩
  have lc1 : c1.length = G * 1 := by rw [hc1]; simp [hZl]; omega
  obtain ⟨W2, hW2⟩ : ∃ W2, W2 = W1.setRow w.heap.size c1.toArray := ⟨_, rfl⟩
  have hcpA : ∀ ty dc, (Builtin.copy_ #[85, 85] ty #[.slice (some ⟨w.heap.size, i, none⟩) (c + 1 - i) dc, .slice (some ⟨vb, 0, none⟩) 1 vc]).run Try.prog W1 = .ok (goInt 1) W2 := fun ty dc => by
    have h := run_copy_wide (P := Try.prog) W1 85 85 ty 4 1 w.heap.size (i * 1) (c + 1 - i) dc 1 ⟨vb, 0, none⟩ 1 vc _ _ us Try.underlying85 Try.siInsB hg1 (by simp only [Nat.min_def]; split <;> omega) (by omega)
      (fun j v hj => by rw [Addr.add_lit, Nat.zero_add, cell_of_row W1 vb j us.toArray _ (0, 0) ((ho1 vb hvw).trans hv)]; simpa using hj) (by simp [hZl]; omega) h1u
    rw [hW2, hc1]
    simpa using h
  have hg2 : W2.heap[w.heap.size]? = some (.cells c1.toArray 4 (0, 0)) := by rw [hW2]; exact setRow_heap W1 _ _ _ _ _ hg1
  have ho2 : ∀ k, k < w.heap.size → W2.heap[k]? = w.heap[k]? := fun k hk => by rw [hW2, setRow_other W1 _ k _ (by omega)]; exact ho1 k hk
  obtain ⟨c2, hc2⟩ : ∃ c2 : List Value, c2 = c1.take (i * 1 + 1) ++ xs.drop (i * 1) ++ c1.drop (i * 1 + 1 + (xs.drop (i * 1)).length) := ⟨_, rfl⟩
  obtain ⟨W3, hW3⟩ : ∃ W3, W3 = W2.drew.setRow w.heap.size c2.toArray := ⟨_, rfl⟩
  have hcpB : ∀ ty dl dc sc, dl = c - i → (Builtin.copy_ #[85, 85] ty #[.slice (some ⟨w.heap.size, (i + 1), none⟩) dl dc, .slice (some ⟨g, i, none⟩) (c - i) sc]).run Try.prog W2.drew = .ok (goInt (c - i : Nat)) W3 := fun ty dl dc sc hdl => by
    subst hdl
    have h := run_copy_wide (P := Try.prog) W2.drew 85 85 ty 4 1 w.heap.size (i * 1 + 1) (c - i) dc (c - i) ⟨g, i * 1, none⟩ (c - i) sc _ _ (xs.drop (i * 1)) Try.underlying85 Try.siInsB hg2 (by simp only [Nat.min_def]; split <;> omega) (by simp; omega)
      (fun j v hj => by
        rw [Addr.add_lit]
        rw [List.getElem?_drop] at hj
        have hj' := (List.getElem?_eq_some_iff.1 hj).1
        rw [show W2.drew.cell? ⟨g, i * 1 + j, none⟩ = W2.cell? ⟨g, i * 1 + j, none⟩ from rfl, cell_of_row W2 g _ cur _ (0, 0) ((ho2 g hgw).trans hg)]
        rw [← cell_of_row w g _ cur _ (0, 0) hg]
        exact (World.ownsRow.cellAt hr _ (by omega)).trans hj) (by simp [lc1]; omega) (fun v hv => h1x v (List.mem_of_mem_drop hv))
    rw [hW3, hc2]
    simpa [Nat.add_mul] using h
  have hgr := grow_row xs us ZS (i * 1) 1 (by omega) hu (by rw [hZl]; omega)
  simp only [← hc1] at hgr
  rw [← hc2, lc0] at hgr
  have hfin : InsAtB base c i (.slice (some ⟨g, 0, none⟩) c c) xs us w (.returned (.slice (some ⟨w.heap.size, 0, none⟩) (c + 1) G)) W3 := by
    refine ⟨w.heap.size, G, rfl, own_mk c2.toArray (by rw [putAt_len]; omega) hbase (by rw [hW3]; exact setRow_heap W2.drew _ _ _ _ _ hg2) hGn hGm (by simpa using hgr.2) (by rw [show (c + 1) * 1 = xs.length + 1 by omega]; exact hgr.1), ?_, .inr (Nat.le_refl _)⟩
    refine ⟨by rw [hW3, hW2]; exact hs1.os, by rw [hW3, hW2]; exact hs1.tape, by rw [hW3, hW2]; exact hs1.output, by rw [hW3, hW2]; simpa using hs1.size, fun k hk _ => ?_⟩
    rw [hW3, setRow_other W2.drew _ k _ (by omega)]; exact ho2 k hk
  have HF := Lib.hid hfin
  have HA := Lib.hid hrz
  have HB := Lib.hid hcpA
  have HC := Lib.hid hcpB
  clear hfin hrz hcpA hcpB hgr hg1 ho1 hs1 hg2 ho2 hold hG hW1 hW2 hW3 hZS hc1 hc2 lc0 lc1 hZl htk hcs hr hz0
  unfold maxLen at hGm
  have mixed : Try.prog.follows .mixedOrders = true := by kernel_rfl
  have hz2' : ¬ ((i : Int) = (c : Int)) := by omega
  have hz3 : (c : Int) < (c : Int) + 1 := by omega
  have hw1 : IntKind.i64.wrap ((i : Int) + 1) = (i : Int) + 1 := by rw [IntKind.wrap_i64]; omega
  have htn : ((i : Int) + 1).toNat = i + 1 := by omega
  have hGi : ¬ (G = i) := by omega
  have hGim : ¬ (G = i + 1) := by omega
  have hci : ¬ (c = i) := by omega
  have hb1 : (0 : Int) ≤ (i : Int) + 1 := by omega
  have hin : i ≤ c := by omega
  have hb3 : (i : Int) ≤ (c : Int) := by omega
  go_enter Try.func102, Try.ntmps102
  go_wp2_with (first
    | (at_builtin; refine Lib.wpList_append_run _ rfl _ _ _ _ rfl _ _ rfl rfl _ _ (HA.out _) ?_)
    | (simp only [HB.out]))
  go_region_law_o (refine step_copy_runI rfl _ _ 85 85 rfl _ _ (by simp [Act.eval, Act.put]) (by simp [Act.eval, Act.put]) (HC.out _ (c - i) (G - (i + 1)) (c - i) rfl) ?_)
  go_wp2
  go_ret
  exact HF.out
set_option maxHeartbeats 4000000 in
/-- there is room, and the place is not the last. -/
theorem insB_room (base n c i vb vc g : Nat) (xs us : List Value) (w : World) (hr : w.ownsRow base 4 1 (.slice (some ⟨g, 0, none⟩) n c) n xs) (hbase : base ≤ w.heap.size) (hi : i < n) (hn : n ≤ 1048576) (hc : n + 1 ≤ c)
    (hv : w.heap[vb]? = some (.cells us.toArray 4 (0, 0))) (hu : us.length = 1) (h1u : ∀ u ∈ us, u.oneCell' = true) (h1x : ∀ u ∈ xs, u.oneCell' = true) (hne : g ≠ vb) :
    Calls Try.prog 102 #[.slice (some ⟨g, 0, none⟩) n c, .int .i64 i, .slice (some ⟨vb, 0, none⟩) 1 vc] w fun e w' => InsAtB base n i (.slice (some ⟨g, 0, none⟩) n c) xs us w e w' := by
  obtain ⟨cur, hbg, hg, hnc, hcm, hcs, htk⟩ := own_parts hr
  have hxl := hr.1
  have hgw : g < w.heap.size := (Array.getElem?_eq_some_iff.1 hg).1
  have hvw : vb < w.heap.size := (Array.getElem?_eq_some_iff.1 hv).1
  have hcl : cur.toList.length = c * 1 := by simpa using hcs
  have hov : ∀ lb cb, (callFunc 113 #[.slice (some ⟨vb, 0, none⟩) 1 vc, .slice (some ⟨g, (i + 1), none⟩) lb cb]).run Try.prog w = .ok (.value (.bool false)) w := fun lb cb => by
    rw [run_callFunc_extern Try.func113 (by kernel_rfl) (by kernel_rfl) (by kernel_rfl) (e := Extern.SlicesOverlaps.overlaps #[85, 85] #[4]) (by kernel_rfl),
      Lib.run_overlaps_apart w 85 4 4 Try.underlying85 1 Try.sizeInsB ⟨vb, 0, none⟩ ⟨g, (i + 1), none⟩ 1 vc lb cb (fun e => hne e.symm) 4 4 1 (c * 1) (by simp [World.shape?, hv, hu]) (by simp [World.shape?, hg, hcs]) (by omega) (frozen_of_row w vb 0 _ _ hv) (frozen_of_row w vb _ _ _ hv)]
    rfl
  obtain ⟨c1, hc1⟩ : ∃ c1 : List Value, c1 = cur.toList.take (i * 1 + 1) ++ xs.drop (i * 1) ++ cur.toList.drop (i * 1 + 1 + (xs.drop (i * 1)).length) := ⟨_, rfl⟩
  have lc1 : c1.length = c * 1 := by rw [hc1]; simp [hcs]; omega
  obtain ⟨W1, hW1⟩ : ∃ W1, W1 = w.drew.setRow g c1.toArray := ⟨_, rfl⟩
  have hcp1 : ∀ ty dl dc sc, dl = n - i → (Builtin.copy_ #[85, 85] ty #[.slice (some ⟨g, (i + 1), none⟩) dl dc, .slice (some ⟨g, i, none⟩) (n + 1 - i) sc]).run Try.prog w.drew = .ok (goInt (n - i : Nat)) W1 := fun ty dl dc sc hdl => by
    subst hdl
    have h := run_copy_wide (P := Try.prog) w.drew 85 85 ty 4 1 g (i * 1 + 1) (n - i) dc (n - i) ⟨g, i * 1, none⟩ (n + 1 - i) sc _ _ (xs.drop (i * 1)) Try.underlying85 Try.siInsB hg (by simp only [Nat.min_def]; split <;> omega) (by simp; omega)
      (fun j v hj => by
        rw [Addr.add_lit]
        rw [List.getElem?_drop] at hj
        have hj' := (List.getElem?_eq_some_iff.1 hj).1
        exact (World.ownsRow.cellAt hr _ (by omega)).trans hj) (by simp [hcs]; omega) (fun v hv => h1x v (List.mem_of_mem_drop hv))
    rw [hW1, hc1]
    simpa [Nat.add_mul] using h
  have hg1 : W1.heap[g]? = some (.cells c1.toArray 4 (0, 0)) := by rw [hW1]; exact setRow_heap w.drew _ _ _ _ _ hg
  have hv1 : W1.heap[vb]? = some (.cells us.toArray 4 (0, 0)) := by rw [hW1, setRow_other w.drew g vb _ (fun e => hne e.symm)]; exact hv
  obtain ⟨c2, hc2⟩ : ∃ c2 : List Value, c2 = c1.take (i * 1) ++ us ++ c1.drop (i * 1 + us.length) := ⟨_, rfl⟩
  obtain ⟨W2, hW2⟩ : ∃ W2, W2 = W1.setRow g c2.toArray := ⟨_, rfl⟩
  have hcp2 : ∀ ty dc, (Builtin.copy_ #[85, 85] ty #[.slice (some ⟨g, i, none⟩) (n + 1 - i) dc, .slice (some ⟨vb, 0, none⟩) 1 vc]).run Try.prog W1 = .ok (goInt 1) W2 := fun ty dc => by
    have h := run_copy_wide (P := Try.prog) W1 85 85 ty 4 1 g (i * 1) (n + 1 - i) dc 1 ⟨vb, 0, none⟩ 1 vc _ _ us Try.underlying85 Try.siInsB hg1 (by simp only [Nat.min_def]; split <;> omega) (by omega)
      (fun j v hj => by rw [Addr.add_lit, Nat.zero_add, cell_of_row W1 vb j us.toArray _ (0, 0) hv1]; simpa using hj) (by simp [lc1]; omega) h1u
    rw [hW2, hc2]
    simpa using h
  have hsr := shift_row cur.toList us xs (i * 1) 1 (by rw [hxl]; exact htk) (by omega) hu (by rw [hcl]; omega)
  simp only [← hc1] at hsr
  rw [← hc2, hcl] at hsr
  have hfin : InsAtB base n i (.slice (some ⟨g, 0, none⟩) n c) xs us w (.returned (.slice (some ⟨g, 0, none⟩) (n + 1) c)) W2 := by
    refine ⟨g, c, rfl, own_mk c2.toArray (by rw [putAt_len]; omega) hbg (by rw [hW2]; exact setRow_heap W1 _ _ _ _ _ hg1) hc hcm (by simpa using hsr.2) (by rw [show (n + 1) * 1 = xs.length + 1 by omega]; exact hsr.1), ?_, .inl rfl⟩
    refine ⟨by rw [hW2, hW1]; rfl, by rw [hW2, hW1]; rfl, by rw [hW2, hW1]; rfl, by rw [hW2, hW1]; simp, fun k hk hkg => ?_⟩
    have hkg : k ≠ g := fun e => hkg (by rw [e]; simp [Value.ownBlock])
    rw [hW2, setRow_other W1 _ k _ hkg, hW1, setRow_other w.drew _ k _ hkg]; rfl
  have HF := Lib.hid hfin
  have HA := Lib.hid hcp1
  have HB := Lib.hid hcp2
  unfold maxLen at hcm
  clear hfin hcp1 hcp2 hsr hg1 hv1 hW1 hW2 hc1 hc2 lc1 hcl htk hcs hr
  have mixed : Try.prog.follows .mixedOrders = true := by kernel_rfl
  have hz2' : ¬ ((i : Int) = (n : Int)) := by omega
  have hw1 : IntKind.i64.wrap ((i : Int) + 1) = (i : Int) + 1 := by rw [IntKind.wrap_i64]; omega
  have hb1 : (0 : Int) ≤ (i : Int) + 1 := by omega
  have hin : i ≤ n := by omega
  have htn : ((i : Int) + 1).toNat = i + 1 := by omega
  have hb2 : ¬ (c = i + 1) := by omega
  have hb3 : (i : Int) ≤ (n : Int) + 1 := by omega
  have hb4 : ¬ (c = i) := by omega
  go_enter Try.func102, Try.ntmps102
  go_wp2_with (simp only [hov])
  go_region_law_o (refine step_copy_runI rfl _ _ 85 85 rfl _ _ (by simp [Act.eval, Act.put]) (by simp [Act.eval, Act.put]) (HA.out _ (n - i) (c - (i + 1)) (c - i) rfl) ?_)
  go_wp2_with (simp only [HB.out])
  go_ret
  exact HF.out
set_option maxHeartbeats 4000000 in
/-- the place is the last. -/
theorem insB_end (base n c vb vc : Nat) (A : Option Addr) (xs us : List Value) (w : World) (hr : w.ownsRow base 4 1 (.slice A n c) n xs) (hbase : base ≤ w.heap.size) (hn : n ≤ 1048576)
    (hv : w.heap[vb]? = some (.cells us.toArray 4 (0, 0))) (hu : us.length = 1) (h1u : ∀ u ∈ us, u.oneCell' = true) :
    Calls Try.prog 102 #[.slice A n c, .int .i64 n, .slice (some ⟨vb, 0, none⟩) 1 vc] w fun e w' => InsAtB base n n (.slice A n c) xs us w e w' := by
  obtain ⟨i0, hi0, hz0, hz1, hz2⟩ := info_parts Try.infoInsB
  obtain ⟨hnc, hcm, hA⟩ := own_cap hr
  unfold maxLen at hcm
  have hxl := hr.1
  have hx : putAt xs us (n * 1) = xs ++ us := by unfold putAt; rw [List.take_of_length_le (by omega), List.drop_of_length_le (by omega), List.append_nil]
  unfold InsAtB
  rw [hx]
  have hnn : ((n : Int) == (n : Int)) = true := by simp
  clear hx
  go_enter Try.func102, Try.ntmps102
  rcases own_none hr with ⟨rfl, rfl, rfl⟩ | ⟨g, rfl⟩
  all_goals
    go_wp2_with (at_builtin; refine wpList_append_lies _ rfl _ _ 85 rfl base 4 i0 (.bool false) 1 1 Try.underlying85 hi0 hz0 hz1 hz2 rfl (by decide) _ _ _ rfl hr ⟨vb, 0, none⟩ 1 vc us rfl (by omega) (fun j u hj => by rw [Addr.add_lit, Nat.zero_add, cell_of_row w vb j us.toArray _ (0, 0) hv]; simpa using hj) h1u (by omega) (by unfold maxLen; omega) (by omega) hbase _ rfl ?_)
    all_goals
      intro g' c' w1 hown hgrow hat hlt
      go_wp2
      go_ret
      refine ⟨g', c', rfl, hown, hgrow, ?_⟩
      rcases hat with h | h
      · exact .inl h
      · exact .inr (by omega)
theorem insB_any (base n c i vb vc : Nat) (A : Option Addr) (xs us : List Value) (w : World) (hr : w.ownsRow base 4 1 (.slice A n c) n xs) (hbase : base ≤ w.heap.size) (hi : i ≤ n) (hn : n ≤ 1048576)
    (hv : w.heap[vb]? = some (.cells us.toArray 4 (0, 0))) (hu : us.length = 1) (h1u : ∀ u ∈ us, u.oneCell' = true) (h1x : ∀ u ∈ xs, u.oneCell' = true) (hne : (Value.slice A n c).ownBlock ≠ some vb) :
    Calls Try.prog 102 #[.slice A n c, .int .i64 i, .slice (some ⟨vb, 0, none⟩) 1 vc] w fun e w' => InsAtB base n i (.slice A n c) xs us w e w' := by
  rcases Nat.lt_or_ge i n with h | h
  · rcases own_none hr with ⟨rfl, rfl, rfl⟩ | ⟨g, rfl⟩
    · omega
    · have hne : g ≠ vb := fun e => hne (by rw [e]; simp [Value.ownBlock])
      rcases Nat.lt_or_ge c (n + 1) with h1 | h1
      · exact insB_grow base n c i vb vc g xs us w hr hbase h hn h1 hv hu h1u h1x
      · exact insB_room base n c i vb vc g xs us w hr hbase h hn h1 hv hu h1u h1x hne
  · obtain rfl : i = n := by omega
    exact insB_end base i c vb vc A xs us w hr hbase hn hv hu h1u
end Go.Proofs.Ytbepfgmonadadaa
