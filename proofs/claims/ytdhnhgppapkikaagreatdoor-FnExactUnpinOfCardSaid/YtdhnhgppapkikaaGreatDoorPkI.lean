/- Several texts in one, in build order: CellsOf, ValI, LaySort, SortedI, RightP, MissP, RightQ, OwnO, Opened, AsH. -/
import Derived.Test.YtdhnhgppapkikaaGreatDoorPkH
import Derived.Shelf.SlGeneric
import Derived.Shelf.SlLaysM
import Derived.Ground.SlgmProg
import Derived.Test.YtdhnhgppapkikaaGreatDoorChecked
import Derived.Shelf.SortM.SortNone
import Derived.Shelf.SortM.AssemblyIn
import Derived.Sort.EveryDepth
import Derived.Sort.OwnSortedInts
import Derived.Deep.RegionHeld3
import Derived.StillTailTactics
import Derived.Deep.QuietTactic
import Derived.BigQuiet
import Derived.Deep.DeepCutAuto
import Derived.WalkKit
-- CellsOf: What the program makes of its list of nodes: cells.
namespace Go.Proofs.YtdhnhgppapkikaaGreatDoor
set_option maxRecDepth 20000
set_option linter.unusedVariables false
set_option linter.unusedSimpArgs false
open Go.RowKit Go.Shelf
attribute [local go_sem] Oper.semAt_some

def cellAt (ps : List (Int × NV)) (k : Nat) : Int × List Int := ((pAt ps k).1, nodeBytes (pAt ps k).2.nd)
/-- the cells of a list. -/
def cellsL (ps : List (Int × NV)) : List (Int × List Int) := ps.map fun p => (p.1, nodeBytes p.2.nd)
theorem cells_range (ps : List (Int × NV)) : (List.range ps.length).map (cellAt ps) = cellsL ps := by
  apply List.ext_getElem?
  intro i
  unfold cellsL cellAt pAt
  by_cases h : i < ps.length
  · simp [h]
  · simp [h]
theorem own_cells {w : World} {lo size n : Nat} {e : TypeId} {v : Value} {xs : List Value} (h : w.ownsRow lo e size v n xs) (g : Nat) (hg : v.ownBlock = some g) : ∃ cur z, w.heap[g]? = some (.cells cur e z) := by
  rcases h.2 with ⟨rfl, _⟩ | ⟨g', cap, cur, rfl, _, h2, _⟩
  · simp [Value.ownBlock] at hg
  · simp [Value.ownBlock] at hg
    subst hg
    exact ⟨_, _, h2⟩
/-- cells of the call's own abide the turn of what is no cells. -/
theorem OwnC.abide {X Y : World} {row : Option Nat} {lo n c : Nat} {A : Option Addr} {cs : List (Int × List Int)} (h : OwnC X lo X.heap.size A n c cs) (hg : X.grownBy Y row) (hr : ∀ r, row = some r → ∃ o : Obj, X.heap[r]? = some o ∧ o.isCells = false) : OwnC Y lo Y.heap.size A n c cs := by
  obtain ⟨hl, hu, sl, hrow, hs⟩ := h
  have t := Touch.of_grown hg
  have no : ∀ {size k : Nat} {e : TypeId} {v : Value} {xs : List Value}, X.ownsRow lo e size v k xs → ∀ g, v.ownBlock = some g → ¬ (some g = row) := fun ho g hv e => by
    obtain ⟨o, h1, h2⟩ := hr g e.symm
    obtain ⟨cur, z, h3⟩ := own_cells ho g hv
    rw [h1] at h3; cases h3; cases h2
  exact ⟨hl, fun b hb => Nat.lt_of_lt_of_le (hu b hb) hg.size, sl, own_touch hrow t (no hrow), fun i hi => (hs.mine i hi).touch t (no (hs.mine i hi).1), hs.apart, hs.other, fun i hi b hb => Nat.lt_of_lt_of_le (hs.under i hi b hb) hg.size⟩
theorem cells_push {W w1 w6 : World} {cb n₀ b0 q c n1 c1 g6 c6 : Nat} {A A1 : Option Addr} {cs : List (Int × List Int)} {bs : List Int} {m : Int} {sl : Nat → Sub} {C : Obj} (hcb : cb < n₀) (hb0 : b0 ≤ cb) (hW : n₀ ≤ W.heap.size)
    (bC : Boxed W cb 24 (.slice A q c)) (hl : cs.length = q) (hu : ∀ b, (Value.slice A q c).ownBlock = some b → b < W.heap.size) (hrow : W.ownsRow n₀ 87 2 (.slice A q c) q (cvs q cs sl)) (hs : Subs W n₀ W.heap.size (Value.slice A q c).ownBlock q cs sl)
    (b1 : Below W.heap.size W w1) (mx : Mine w1 W.heap.size A1 n1 c1 bs)
    (hr6 : w6.ownsRow n₀ 87 2 (.slice (some ⟨g6, 0, none⟩) (q + 1) c6) (q + 1) (cvs q cs sl ++ [.int .i64 m, .slice A1 n1 c1])) (hg6 : (w1.alloc C).grownBy w6 (Value.slice A q c).ownBlock)
    (hw6 : (Value.slice A q c).ownBlock = some g6 ∨ g6 = (w1.alloc C).heap.size) :
    Boxed w6 cb 24 (.slice A q c) ∧ (∀ B, KeepsFrom B W (w6.setCell ⟨cb, 0, none⟩ (.slice (some ⟨g6, 0, none⟩) (q + 1) c6))) ∧ KpB cb n₀ W (w6.setCell ⟨cb, 0, none⟩ (.slice (some ⟨g6, 0, none⟩) (q + 1) c6)) ∧
      Below b0 W (w6.setCell ⟨cb, 0, none⟩ (.slice (some ⟨g6, 0, none⟩) (q + 1) c6)) ∧ Boxed (w6.setCell ⟨cb, 0, none⟩ (.slice (some ⟨g6, 0, none⟩) (q + 1) c6)) cb 24 (.slice (some ⟨g6, 0, none⟩) (q + 1) c6) ∧
      OwnC (w6.setCell ⟨cb, 0, none⟩ (.slice (some ⟨g6, 0, none⟩) (q + 1) c6)) n₀ (w6.setCell ⟨cb, 0, none⟩ (.slice (some ⟨g6, 0, none⟩) (q + 1) c6)).heap.size (some ⟨g6, 0, none⟩) (q + 1) c6 (cs ++ [(m, bs)]) := by
  have s1 := b1.size
  have ba : Below w1.heap.size w1 (w1.alloc C) := (Below.refl _ _).alloc (Nat.le_refl _) _
  have b2 : Below W.heap.size W (w1.alloc C) := b1.trans (ba.mono s1)
  have s2 : (w1.alloc C).heap.size = w1.heap.size + 1 := by simp
  have t6 := Touch.of_grown hg6
  have s6 := hg6.size
  have hng : ∀ b, (Value.slice A q c).ownBlock = some b → n₀ ≤ b := fun b hb => (hrow.lt b hb).1
  have bC6 : Boxed w6 cb 24 (.slice A q c) := (t6.block cb (by have := bC.lt; omega) (fun e => by have := hng _ e.symm; omega)).trans ((b2.block cb bC.lt).trans bC)
  obtain ⟨w7, hw7⟩ : ∃ w7, w6.setCell ⟨cb, 0, none⟩ (.slice (some ⟨g6, 0, none⟩) (q + 1) c6) = w7 := ⟨_, rfl⟩
  have t7 : Touch (fun g => g = cb) w6 w7 := by rw [← hw7]; exact touch_set w6 cb 0 _ rfl
  have s7 := t7.size
  have bC7 : Boxed w7 cb 24 (.slice (some ⟨g6, 0, none⟩) (q + 1) c6) := by rw [← hw7]; exact bC6.set _
  have tt : Touch (fun g => g = cb ∨ (Value.slice A q c).ownBlock = some g) W w7 := ((Touch.of_below b2).trans (t6.mono (fun k hk => .inr hk.symm))).trans (t7.mono (fun k hk => .inl hk))
  have hs2 : Subs (w1.alloc C) n₀ W.heap.size (Value.slice A q c).ownBlock q cs sl := ⟨fun i hi => (hs.mine i hi).below b2, hs.apart, hs.other, hs.under⟩
  have o6 := OwnC.pushed hl hu hs2 ((mx.below ba).base hW) (fun b hb => (mx.1.lt b hb).1) hr6 hg6 hw6 (by omega) (Nat.le_refl _)
  have o7 : OwnC w7 n₀ w7.heap.size (some ⟨g6, 0, none⟩) (q + 1) c6 (cs ++ [(m, bs)]) := (o6.touch t7 (fun b h1 h2 e => by omega)).more s7
  rw [hw7]
  refine ⟨bC6, fun B => ⟨tt.size, fun k o hk ho hn => ?_⟩, ⟨tt.size, fun k hk hc => tt.block k (by omega) (fun e => e.elim hc (fun e => by have := hng _ e; omega))⟩, tt.below (by omega) (fun k hk e => e.elim (fun e => by omega) (fun e => by have := hng _ e; omega)), bC7, o7⟩
  refine (tt.block k (Array.getElem?_eq_some_iff.1 ho).1 (fun e => ?_)).trans ho
  rcases e with e | e
  · subst e
    rw [show W.heap[k]? = _ from bC] at ho; cases ho; cases hn
  · obtain ⟨cur, z, h3⟩ := own_cells hrow k e
    rw [h3] at ho; cases ho; cases hn
set_option maxHeartbeats 4000000 in
theorem cellsOf_any (lo : Nat) (R : SR) (ps : List (Int × NV)) (w : World) (hS : SLN w lo R ps) :
    Calls Tryz.prog 65 #[.agg #[R.kv ps.length, R.vv ps.length]] w fun e w' => ∃ A n c, e = .returned (.slice A n c) ∧ OwnC w' w.heap.size w'.heap.size A n c (cellsL ps) ∧ Below w.heap.size w w' := by
  have hlen := hS.len
  have HS := Lib.hid hS
  have hn0 : ∀ x, NodeIn w w.heap.size (pAt ps x).2.v (pAt ps x).2.nd := fun x => by
    by_cases h : x < ps.length
    · exact hS.nodes _ (pAt_mem ps x h)
    · have e : pAt ps x = (0, nv0) := by unfold pAt; rw [List.getElem?_eq_none (by omega)]; rfl
      rw [e]
      exact ⟨none, 0, 0, none, 0, 0, rfl, by omega, by omega, by decide, Ints.none_, Kids.none_⟩
  have HN := Lib.hid hn0
  clear hS hn0
  obtain ⟨i0, hi0, hz0, hz1, hz2⟩ := info_parts Tryz.infoC
  refine (callsIn_wide (n := 6)).1 ?_
  refine callsIn_of_wp_marks Tryz.func65 rfl trivial ?_ rfl
  simp only [Tryz.ntmps65, List.size_toArray, List.length_cons, List.length_nil, Nat.reduceAdd, Nat.reduceSub, Array.replicate_succ, Array.replicate_zero, List.push_toArray, List.append_toArray, List.nil_append, List.cons_append]
  gi_wp2_with (refine ⟨trivial, ?_⟩; gi_at_call 98; refine (callsIn_wide.2 (allN_any _ _)).mono ?_; rintro e w' ⟨rfl, rfl⟩)
  obtain ⟨W0, hW0⟩ : ∃ W0, ((w.alloc (.cells #[R.kv ps.length, R.vv ps.length] 59)).alloc (.cells #[.slice none 0 0] 24)).alloc (.cells #[.pointer (some ⟨w.heap.size, 0, none⟩)] 188) = W0 := ⟨_, rfl⟩
  have bR : Box W0 w.heap.size 59 #[R.kv ps.length, R.vv ps.length] := hW0 ▸ heap3_0 _ _ _ _
  have bC : Boxed W0 (w.heap.size + 1) 24 (.slice none 0 0) := hW0 ▸ heap3_1 _ _ _ _
  have bP : Box W0 (w.heap.size + 1 + 1) 188 #[.pointer (some ⟨w.heap.size, 0, none⟩)] := hW0 ▸ heap3_2 _ _ _ _
  have hsz : W0.heap.size = w.heap.size + 3 := hW0 ▸ size3 _ _ _ _
  have hB0 : Below w.heap.size w W0 := hW0 ▸ below3 _ _ _ _
  rw [hW0]
  clear hW0
  refine wpIn_rangeFunc_ownH rfl (by omega) (gf := 132) (lb := #[.pointer (some ⟨w.heap.size + 1 + 1, 0, none⟩)]) rfl trivial (enters_of Tryz.func132 (by kernel_rfl) rfl)
    (allN_stops 5 (by omega) (w.heap.size + 1 + 1) (w.heap.size + 3) (w.heap.size + 1) w.heap.size lo R ps W0 (by omega) bP (by omega) (by omega) bR (by omega) (by omega) (HS.out.below hB0) (fun g hg => by have := (HS.out.lt g hg).2; omega))
    (fun h k => h.trans k) (KpB.put (by omega)) (Below.refl _ _) (fun _ => rfl)
    (fun pre W => ∃ A q c, Boxed W (w.heap.size + 1) 24 (.slice A q c) ∧ OwnC W (w.heap.size + 3) W.heap.size A q c (pre.map (cellAt ps)) ∧ KpB (w.heap.size + 1) (w.heap.size + 3) W0 W ∧ Below w.heap.size w W)
    (fun _ _ _ => False)
    (fun pre X Y row hs hg hr => by
      obtain ⟨A, q, c, h1, h2, h3, h4⟩ := hs
      refine ⟨A, q, c, h1.kept hg (fun e => ?_), h2.abide hg (fun r e => (hr r e).2), h3.trans ⟨hg.size, fun k hk _ => hg.block k (by have := h3.1; omega) (fun e => by have := (hr k e.symm).1; omega)⟩, h4.grown hg (by have := h4.size; omega) (fun k e => by have := (hr k e).1; omega)⟩
      obtain ⟨_, o, ho, hc⟩ := hr _ e.symm
      rw [show X.heap[w.heap.size + 1]? = _ from h1] at ho; cases ho; cases hc)
    (fun _ _ _ _ _ hs _ _ => hs)
    ⟨none, 0, 0, bC, OwnC.nil _ _ _, KpB.refl _ _ _, hB0⟩
    (fun x a' W => ∃ Bx, w.heap.size + 1 + 1 < Bx ∧ Box W Bx 134 #[.int .i64 (pAt ps x).2.nd.kind, .slice (pAt ps x).2.Ap (pAt ps x).2.np (pAt ps x).2.cp, .slice (pAt ps x).2.Ak (pAt ps x).2.nk (pAt ps x).2.ck, .string (pAt ps x).2.nd.val] ∧ a' = { tmps := #[.agg #[R.kv ps.length, R.vv ps.length], .pointer (some ⟨w.heap.size, 0, none⟩), .slice none 0 0, .pointer (some ⟨w.heap.size + 1, 0, none⟩), .int .i64 (pAt ps x).1, .pointer (some ⟨Bx, 0, none⟩), .func (.func 132) #[] #[.pointer (some ⟨w.heap.size + 1 + 1, 0, none⟩)], .int .i64 (pAt ps x).1, .agg #[.int .i64 (pAt ps x).2.nd.kind, .slice (pAt ps x).2.Ap (pAt ps x).2.np (pAt ps x).2.cp, .slice (pAt ps x).2.Ak (pAt ps x).2.nk (pAt ps x).2.ck, .string (pAt ps x).2.nd.val], undef, undef, undef, undef, undef, undef, undef, undef], defers := [] })
    (fun x a' _ X Y row hs hg hr => by obtain ⟨Bx, h1, h2, h3⟩ := hs; exact ⟨Bx, h1, (hg.block Bx h2.lt (fun e => by obtain ⟨_, o, ho, hc⟩ := hr Bx e.symm; rw [show X.heap[Bx]? = _ from h2] at ho; cases ho; cases hc)).trans h2, h3⟩)
    ?assign ?body ?done ?stop
  case assign =>
    rintro l pre x W K ⟨A, q, c, h1, h2, h3, h4⟩ hK
    have hbx : w.heap.size + 3 ≤ W.heap.size := by have := h3.1; omega
    unfold encN NV.v
    gi_wp2
    exact hK _ _ ((KeepsOthers.alloc _ _).from _) ⟨by simp, fun k hk _ => ((Below.refl W.heap.size W).alloc (Nat.le_refl _) _).block k (by omega)⟩ ⟨A, q, c, h1.alloc _, (h2.below ((Below.refl _ _).alloc (Nat.le_refl _) _)).more (by simp), h3.trans ⟨by simp, fun k hk _ => ((Below.refl W.heap.size W).alloc (Nat.le_refl _) _).block k (by omega)⟩, h4.alloc (by omega) _⟩ ⟨W.heap.size, by omega, heap_alloc_new _ _, rfl⟩
  case body =>
    rintro l pre x a' W hl ⟨r, hr⟩ ⟨A, q, c, hbc, hoc, hkp, hbw⟩ ⟨Bx, hBx, xb, rfl⟩ hlt
    have hW3 : w.heap.size + 3 ≤ W.heap.size := by have := hkp.1; omega
    have c0 := hbc.cell
    have f0 := hbc.frozen
    have x0 := xb.cell 0
    have x1 := xb.cell 1
    have x2 := xb.cell 2
    have x3 := xb.cell 3
    have hlb := hbc.lt
    have hlx := xb.lt
    simp at x0 x1 x2 x3
    have BC := Lib.hid hbc
    have KP := Lib.hid hkp
    have BW := Lib.hid hbw
    have NX := Lib.hid (show NodeIn W.drew w.heap.size (pAt ps x).2.v (pAt ps x).2.nd from (HN.out x).below hbw.drew)
    have hql := hoc.len
    simp at hql
    obtain ⟨h1, h2, sl, h3, h4⟩ := hoc
    have HL := Lib.hid h1
    have HU := Lib.hid h2
    have HROW := Lib.hid h3
    have HSUB := Lib.hid h4
    clear h1 h2 h3 h4 hbc hkp hbw xb hr
    gi_wp2
    refine region_round (by kernel_rfl) (by kernel_rfl) (by rintro ⟨_, _, h⟩; exact h) ?_
    change wpAny _ _ _ _ _ _ _ _
    refine wpAny_take (i := 1) (v := ?tv) rfl (by kernel_rfl) (by kernel_rfl) (by kernel_rfl) (fun _ _ _ h => h) (Or.inl ⟨by rfl, ?ty⟩) ?tk
    case ty =>
      intro w
      go_simp
      try (with_reducible rfl)
    refine wpAny_ready (rs := [0, 2]) (by kernel_rfl) (by simp) ?_
    refine AllReady.cons rfl (fun K hK => ?_) ?_
    · go_simp
      refine hK _ _ ?_
      clear hK K
      refine wpAny_ready (rs := [2]) (by kernel_rfl) (by simp) ?_
      refine AllReady.cons rfl (fun K hK => ?_) AllReady.nil
      go_simp
      refine hK _ _ ?_
      clear hK K
      refine wpAny_ready (rs := [3]) (by kernel_rfl) (by simp) ?_
      refine AllReady.cons rfl (fun K hK => ?_) AllReady.nil
      go_simp
      refine (implNodeBytes_any _ _ w.heap.size W.drew (Nat.le_trans BW.out.size (Nat.le_refl _)) NX.out).mono ?_
      rintro e w1 ⟨A1, n1, c1, rfl, m1, b1⟩
      have b1 : Below W.heap.size W w1 := (show Below W.heap.size W W.drew from (Below.refl _ _).drew).trans b1
      have hs1 : W.heap.size ≤ w1.heap.size := b1.size
      have c1' : w1.cell? ⟨w.heap.size + 1, 0, none⟩ = some (.slice A q c) := (b1.cell (p := ⟨w.heap.size + 1, 0, none⟩) BC.out.lt).trans BC.out.cell
      have hlb1 : w.heap.size + 1 < w1.heap.size := by omega
      have B1 := Lib.hid b1
      have M1 := Lib.hid (show Mine w1 W.heap.size A1 n1 c1 (nodeBytes (pAt ps x).2.nd) from m1)
      clear b1 m1
      refine hK _ _ ?_
      clear hK K
      refine wpAny_ready (rs := [4]) (by kernel_rfl) (by simp) ?_
      refine AllReady.cons rfl (fun K hK => ?_) AllReady.nil
      go_simp
      refine hK _ _ ?_
      clear hK K
      refine wpAny_ready (rs := [5]) (by kernel_rfl) (by simp) ?_
      refine AllReady.cons rfl (fun K hK => ?_) AllReady.nil
      go_simp
      refine hK _ _ ?_
      clear hK K
      refine wpAny_ready (rs := [6]) (by kernel_rfl) (by simp) ?_
      refine AllReady.cons rfl (fun K hK => ?_) AllReady.nil
      refine step_append_lies _ rfl _ _ 24 rfl (w.heap.size + 3) 87 i0 (.agg #[.int .i64 0, .slice none 0 0]) 2 32 Tryz.underlying24 hi0 hz0 hz1 hz2 rfl (by decide) (.slice A q c) q (cvs q (pre.map (cellAt ps)) sl) (by simp [Act.eval]) (own_touch (S := fun _ => False) HROW.out (Touch.of_below (B1.out.trans (((Below.refl w1.heap.size w1).alloc (Nat.le_refl _) _).mono hs1))) (fun _ _ h => h)) ⟨w1.heap.size, 0, none⟩ 1 1 [.int .i64 (pAt ps x).1, .slice A1 n1 c1] (by simp [Act.eval]) rfl (by
          intro j u hj
          match j, hj with
          | 0, hj => simp at hj; subst hj; simp [Addr.add]
          | 1, hj => simp at hj; subst hj; simp [Addr.add]) (by intro u hu; simp at hu; rcases hu with rfl | rfl <;> rfl) (by omega) (by unfold maxLen; omega) (by omega) (by simp; omega) _ rfl ?_
      intro g6 c6 w6 hown6 hgrow6 hwh6 hlt6
      have PF := cells_push (W := W) (w1 := w1) (b0 := w.heap.size) (n₀ := w.heap.size + 3) (cb := w.heap.size + 1) (by omega) (by omega) hW3 BC.out HL.out HU.out HROW.out HSUB.out B1.out M1.out hown6 hgrow6 hwh6
      have q6 := PF.1.cell
      have f6 := PF.1.frozen
      have PF := Lib.hid PF.2
      clear hown6 hgrow6 hwh6 hlt6
      go_simp
      refine hK _ _ ?_
      clear hK K
      refine wpAny_ready (rs := [7]) (by kernel_rfl) (by simp) ?_
      refine AllReady.cons rfl (fun K hK => ?_) AllReady.nil
      go_simp
      refine hK _ _ ?_
      clear hK K
      refine wpAny_done (by kernel_rfl) ?_ _
      exact ⟨PF.out.1 _, PF.out.2.1, _, _, _, PF.out.2.2.2.1, by rw [List.map_append]; exact PF.out.2.2.2.2, KP.out.trans PF.out.2.1, BW.out.trans PF.out.2.2.1⟩
    refine AllReady.cons rfl (fun K hK => ?_) AllReady.nil
    go_simp
    refine hK _ _ ?_
    clear hK K
    refine wpAny_ready (rs := [0, 3]) (by kernel_rfl) (by simp) ?_
    refine AllReady.cons rfl (fun K hK => ?_) ?_
    · go_simp
      refine hK _ _ ?_
      clear hK K
      refine wpAny_ready (rs := [3]) (by kernel_rfl) (by simp) ?_
      refine AllReady.cons rfl (fun K hK => ?_) AllReady.nil
      go_simp
      refine (implNodeBytes_any _ _ w.heap.size W.drew (Nat.le_trans BW.out.size (Nat.le_refl _)) NX.out).mono ?_
      rintro e w1 ⟨A1, n1, c1, rfl, m1, b1⟩
      have b1 : Below W.heap.size W w1 := (show Below W.heap.size W W.drew from (Below.refl _ _).drew).trans b1
      have hs1 : W.heap.size ≤ w1.heap.size := b1.size
      have c1' : w1.cell? ⟨w.heap.size + 1, 0, none⟩ = some (.slice A q c) := (b1.cell (p := ⟨w.heap.size + 1, 0, none⟩) BC.out.lt).trans BC.out.cell
      have hlb1 : w.heap.size + 1 < w1.heap.size := by omega
      have B1 := Lib.hid b1
      have M1 := Lib.hid (show Mine w1 W.heap.size A1 n1 c1 (nodeBytes (pAt ps x).2.nd) from m1)
      clear b1 m1
      refine hK _ _ ?_
      clear hK K
      refine wpAny_ready (rs := [4]) (by kernel_rfl) (by simp) ?_
      refine AllReady.cons rfl (fun K hK => ?_) AllReady.nil
      go_simp
      refine hK _ _ ?_
      clear hK K
      refine wpAny_ready (rs := [5]) (by kernel_rfl) (by simp) ?_
      refine AllReady.cons rfl (fun K hK => ?_) AllReady.nil
      go_simp
      refine hK _ _ ?_
      clear hK K
      refine wpAny_ready (rs := [6]) (by kernel_rfl) (by simp) ?_
      refine AllReady.cons rfl (fun K hK => ?_) AllReady.nil
      refine step_append_lies _ rfl _ _ 24 rfl (w.heap.size + 3) 87 i0 (.agg #[.int .i64 0, .slice none 0 0]) 2 32 Tryz.underlying24 hi0 hz0 hz1 hz2 rfl (by decide) (.slice A q c) q (cvs q (pre.map (cellAt ps)) sl) (by simp [Act.eval]) (own_touch (S := fun _ => False) HROW.out (Touch.of_below (B1.out.trans (((Below.refl w1.heap.size w1).alloc (Nat.le_refl _) _).mono hs1))) (fun _ _ h => h)) ⟨w1.heap.size, 0, none⟩ 1 1 [.int .i64 (pAt ps x).1, .slice A1 n1 c1] (by simp [Act.eval]) rfl (by
          intro j u hj
          match j, hj with
          | 0, hj => simp at hj; subst hj; simp [Addr.add]
          | 1, hj => simp at hj; subst hj; simp [Addr.add]) (by intro u hu; simp at hu; rcases hu with rfl | rfl <;> rfl) (by omega) (by unfold maxLen; omega) (by omega) (by simp; omega) _ rfl ?_
      intro g6 c6 w6 hown6 hgrow6 hwh6 hlt6
      have PF := cells_push (W := W) (w1 := w1) (b0 := w.heap.size) (n₀ := w.heap.size + 3) (cb := w.heap.size + 1) (by omega) (by omega) hW3 BC.out HL.out HU.out HROW.out HSUB.out B1.out M1.out hown6 hgrow6 hwh6
      have q6 := PF.1.cell
      have f6 := PF.1.frozen
      have PF := Lib.hid PF.2
      clear hown6 hgrow6 hwh6 hlt6
      go_simp
      refine hK _ _ ?_
      clear hK K
      refine wpAny_ready (rs := [7]) (by kernel_rfl) (by simp) ?_
      refine AllReady.cons rfl (fun K hK => ?_) AllReady.nil
      go_simp
      refine hK _ _ ?_
      clear hK K
      refine wpAny_done (by kernel_rfl) ?_ _
      exact ⟨PF.out.1 _, PF.out.2.1, _, _, _, PF.out.2.2.2.1, by rw [List.map_append]; exact PF.out.2.2.2.2, KP.out.trans PF.out.2.1, BW.out.trans PF.out.2.2.1⟩
    refine AllReady.cons rfl (fun K hK => ?_) AllReady.nil
    go_simp
    refine (implNodeBytes_any _ _ w.heap.size W.drew (Nat.le_trans BW.out.size (Nat.le_refl _)) NX.out).mono ?_
    rintro e w1 ⟨A1, n1, c1, rfl, m1, b1⟩
    have b1 : Below W.heap.size W w1 := (show Below W.heap.size W W.drew from (Below.refl _ _).drew).trans b1
    have hs1 : W.heap.size ≤ w1.heap.size := b1.size
    have c1' : w1.cell? ⟨w.heap.size + 1, 0, none⟩ = some (.slice A q c) := (b1.cell (p := ⟨w.heap.size + 1, 0, none⟩) BC.out.lt).trans BC.out.cell
    have hlb1 : w.heap.size + 1 < w1.heap.size := by omega
    have B1 := Lib.hid b1
    have M1 := Lib.hid (show Mine w1 W.heap.size A1 n1 c1 (nodeBytes (pAt ps x).2.nd) from m1)
    clear b1 m1
    refine hK _ _ ?_
    clear hK K
    refine wpAny_ready (rs := [0, 4]) (by kernel_rfl) (by simp) ?_
    refine AllReady.cons rfl (fun K hK => ?_) ?_
    · go_simp
      refine hK _ _ ?_
      clear hK K
      refine wpAny_ready (rs := [4]) (by kernel_rfl) (by simp) ?_
      refine AllReady.cons rfl (fun K hK => ?_) AllReady.nil
      go_simp
      refine hK _ _ ?_
      clear hK K
      refine wpAny_ready (rs := [5]) (by kernel_rfl) (by simp) ?_
      refine AllReady.cons rfl (fun K hK => ?_) AllReady.nil
      go_simp
      refine hK _ _ ?_
      clear hK K
      refine wpAny_ready (rs := [6]) (by kernel_rfl) (by simp) ?_
      refine AllReady.cons rfl (fun K hK => ?_) AllReady.nil
      refine step_append_lies _ rfl _ _ 24 rfl (w.heap.size + 3) 87 i0 (.agg #[.int .i64 0, .slice none 0 0]) 2 32 Tryz.underlying24 hi0 hz0 hz1 hz2 rfl (by decide) (.slice A q c) q (cvs q (pre.map (cellAt ps)) sl) (by simp [Act.eval]) (own_touch (S := fun _ => False) HROW.out (Touch.of_below (B1.out.trans (((Below.refl w1.heap.size w1).alloc (Nat.le_refl _) _).mono hs1))) (fun _ _ h => h)) ⟨w1.heap.size, 0, none⟩ 1 1 [.int .i64 (pAt ps x).1, .slice A1 n1 c1] (by simp [Act.eval]) rfl (by
          intro j u hj
          match j, hj with
          | 0, hj => simp at hj; subst hj; simp [Addr.add]
          | 1, hj => simp at hj; subst hj; simp [Addr.add]) (by intro u hu; simp at hu; rcases hu with rfl | rfl <;> rfl) (by omega) (by unfold maxLen; omega) (by omega) (by simp; omega) _ rfl ?_
      intro g6 c6 w6 hown6 hgrow6 hwh6 hlt6
      have PF := cells_push (W := W) (w1 := w1) (b0 := w.heap.size) (n₀ := w.heap.size + 3) (cb := w.heap.size + 1) (by omega) (by omega) hW3 BC.out HL.out HU.out HROW.out HSUB.out B1.out M1.out hown6 hgrow6 hwh6
      have q6 := PF.1.cell
      have f6 := PF.1.frozen
      have PF := Lib.hid PF.2
      clear hown6 hgrow6 hwh6 hlt6
      go_simp
      refine hK _ _ ?_
      clear hK K
      refine wpAny_ready (rs := [7]) (by kernel_rfl) (by simp) ?_
      refine AllReady.cons rfl (fun K hK => ?_) AllReady.nil
      go_simp
      refine hK _ _ ?_
      clear hK K
      refine wpAny_done (by kernel_rfl) ?_ _
      exact ⟨PF.out.1 _, PF.out.2.1, _, _, _, PF.out.2.2.2.1, by rw [List.map_append]; exact PF.out.2.2.2.2, KP.out.trans PF.out.2.1, BW.out.trans PF.out.2.2.1⟩
    refine AllReady.cons rfl (fun K hK => ?_) AllReady.nil
    go_simp
    refine hK _ _ ?_
    clear hK K
    refine wpAny_ready (rs := [0, 5]) (by kernel_rfl) (by simp) ?_
    refine AllReady.cons rfl (fun K hK => ?_) ?_
    · go_simp
      refine hK _ _ ?_
      clear hK K
      refine wpAny_ready (rs := [5]) (by kernel_rfl) (by simp) ?_
      refine AllReady.cons rfl (fun K hK => ?_) AllReady.nil
      go_simp
      refine hK _ _ ?_
      clear hK K
      refine wpAny_ready (rs := [6]) (by kernel_rfl) (by simp) ?_
      refine AllReady.cons rfl (fun K hK => ?_) AllReady.nil
      refine step_append_lies _ rfl _ _ 24 rfl (w.heap.size + 3) 87 i0 (.agg #[.int .i64 0, .slice none 0 0]) 2 32 Tryz.underlying24 hi0 hz0 hz1 hz2 rfl (by decide) (.slice A q c) q (cvs q (pre.map (cellAt ps)) sl) (by simp [Act.eval]) (own_touch (S := fun _ => False) HROW.out (Touch.of_below (B1.out.trans (((Below.refl w1.heap.size w1).alloc (Nat.le_refl _) _).mono hs1))) (fun _ _ h => h)) ⟨w1.heap.size, 0, none⟩ 1 1 [.int .i64 (pAt ps x).1, .slice A1 n1 c1] (by simp [Act.eval]) rfl (by
          intro j u hj
          match j, hj with
          | 0, hj => simp at hj; subst hj; simp [Addr.add]
          | 1, hj => simp at hj; subst hj; simp [Addr.add]) (by intro u hu; simp at hu; rcases hu with rfl | rfl <;> rfl) (by omega) (by unfold maxLen; omega) (by omega) (by simp; omega) _ rfl ?_
      intro g6 c6 w6 hown6 hgrow6 hwh6 hlt6
      have PF := cells_push (W := W) (w1 := w1) (b0 := w.heap.size) (n₀ := w.heap.size + 3) (cb := w.heap.size + 1) (by omega) (by omega) hW3 BC.out HL.out HU.out HROW.out HSUB.out B1.out M1.out hown6 hgrow6 hwh6
      have q6 := PF.1.cell
      have f6 := PF.1.frozen
      have PF := Lib.hid PF.2
      clear hown6 hgrow6 hwh6 hlt6
      go_simp
      refine hK _ _ ?_
      clear hK K
      refine wpAny_ready (rs := [7]) (by kernel_rfl) (by simp) ?_
      refine AllReady.cons rfl (fun K hK => ?_) AllReady.nil
      go_simp
      refine hK _ _ ?_
      clear hK K
      refine wpAny_done (by kernel_rfl) ?_ _
      exact ⟨PF.out.1 _, PF.out.2.1, _, _, _, PF.out.2.2.2.1, by rw [List.map_append]; exact PF.out.2.2.2.2, KP.out.trans PF.out.2.1, BW.out.trans PF.out.2.2.1⟩
    refine AllReady.cons rfl (fun K hK => ?_) AllReady.nil
    go_simp
    refine hK _ _ ?_
    clear hK K
    refine wpAny_ready (rs := [0]) (by kernel_rfl) (by simp) ?_
    refine AllReady.cons rfl (fun K hK => ?_) AllReady.nil
    go_simp
    refine hK _ _ ?_
    clear hK K
    refine wpAny_ready (rs := [6]) (by kernel_rfl) (by simp) ?_
    refine AllReady.cons rfl (fun K hK => ?_) AllReady.nil
    refine step_append_lies _ rfl _ _ 24 rfl (w.heap.size + 3) 87 i0 (.agg #[.int .i64 0, .slice none 0 0]) 2 32 Tryz.underlying24 hi0 hz0 hz1 hz2 rfl (by decide) (.slice A q c) q (cvs q (pre.map (cellAt ps)) sl) (by simp [Act.eval]) (own_touch (S := fun _ => False) HROW.out (Touch.of_below (B1.out.trans (((Below.refl w1.heap.size w1).alloc (Nat.le_refl _) _).mono hs1))) (fun _ _ h => h)) ⟨w1.heap.size, 0, none⟩ 1 1 [.int .i64 (pAt ps x).1, .slice A1 n1 c1] (by simp [Act.eval]) rfl (by
        intro j u hj
        match j, hj with
        | 0, hj => simp at hj; subst hj; simp [Addr.add]
        | 1, hj => simp at hj; subst hj; simp [Addr.add]) (by intro u hu; simp at hu; rcases hu with rfl | rfl <;> rfl) (by omega) (by unfold maxLen; omega) (by omega) (by simp; omega) _ rfl ?_
    intro g6 c6 w6 hown6 hgrow6 hwh6 hlt6
    have PF := cells_push (W := W) (w1 := w1) (b0 := w.heap.size) (n₀ := w.heap.size + 3) (cb := w.heap.size + 1) (by omega) (by omega) hW3 BC.out HL.out HU.out HROW.out HSUB.out B1.out M1.out hown6 hgrow6 hwh6
    have q6 := PF.1.cell
    have f6 := PF.1.frozen
    have PF := Lib.hid PF.2
    clear hown6 hgrow6 hwh6 hlt6
    go_simp
    refine hK _ _ ?_
    clear hK K
    refine wpAny_ready (rs := [7]) (by kernel_rfl) (by simp) ?_
    refine AllReady.cons rfl (fun K hK => ?_) AllReady.nil
    go_simp
    refine hK _ _ ?_
    clear hK K
    refine wpAny_done (by kernel_rfl) ?_ _
    exact ⟨PF.out.1 _, PF.out.2.1, _, _, _, PF.out.2.2.2.1, by rw [List.map_append]; exact PF.out.2.2.2.2, KP.out.trans PF.out.2.1, BW.out.trans PF.out.2.2.1⟩
  case done =>
    rintro D ys W hD rfl ⟨A, q, c, h1, h2, h3, h4⟩ hK
    have c0 := h1.cell
    rw [cells_range] at h2
    have O2 := Lib.hid (h2.abide (grownBy_putObj' W D (.deferred none)) (fun r e => by cases e; exact ⟨_, hK, rfl⟩))
    have B2 := Lib.hid (h4.trans (belowK_b (w := w) (Nat.le_refl _) W D _ (.deferred none) (by omega) hK rfl rfl))
    clear h1 h2 h3 h4
    gi_wp2
    refine ⟨by simp, .inl ⟨_, _, rfl, run_takeDeferred hK, ?_⟩⟩
    exact ⟨_, results_tmp rfl _ _ _, _, _, _, rfl, O2.out.base (by omega), B2.out⟩
  case stop =>
    rintro D cx pre W hD _ h
    exact h.elim
end Go.Proofs.YtdhnhgppapkikaaGreatDoor

-- ValI: slices.Values, slices.Collect at int64, as the program calls them. No statement of the program is proved here.
namespace Go.Proofs.YtdhnhgppapkikaaGreatDoor
set_option maxRecDepth 20000
set_option linter.unusedVariables false
set_option linter.unusedSimpArgs false
open Go.RowKit Go.Shelf
attribute [local go_sem] Oper.semAt_some

theorem OwnI.abide {X Y : World} {row : Option Nat} {lo n c : Nat} {A : Option Addr} {xs : List Int} (h : OwnI X lo A n c xs) (hg : X.grownBy Y row) (hr : ∀ r, row = some r → ∃ o : Obj, X.heap[r]? = some o ∧ o.isCells = false) : OwnI Y lo A n c xs :=
  own_touch h (Touch.of_grown hg) fun g hv e => by
    obtain ⟨o, h1, h2⟩ := hr g e.symm
    obtain ⟨cur, z, h3⟩ := own_cells h g hv
    rw [h1] at h3; cases h3; cases h2
/-- what the k-th round is handed. -/
def encI (zs : List Int) (k : Nat) : Array Value := #[.int .i64 (zs[k]?.getD 0)]
set_option maxHeartbeats 2000000 in
theorem vals1_in (F : Fence) (n : Nat) (h7 : F.fn 175) (hro : F.round = none) (hn : 1 ≤ n) (l Bs n₀ n₁ cb m c : Nat) (A : Option Addr) (zs : List Int)
    (J Jx : List Nat → World → Prop) (W : World) (hW0 : n₀ ≤ W.heap.size)
    (hY : ∀ pre x W1, J pre W1 → pre.length < zs.length → YieldAt F (n - 1) Tryz.prog l (encI zs x) W1 fun e W' =>
      (e = .returned (.bool true) ∧ J (pre ++ [x]) W' ∧ KpB cb n₀ W1 W') ∨ (e = .returned (.bool false) ∧ Jx (pre ++ [x]) W'))
    (hBs : Box W Bs 25 #[.slice A m c]) (hB0 : Bs < n₀) (hB1 : Bs ≠ cb) (hI : Ints W n₁ A m zs) (hm : m ≤ 1048576) (h01 : n₁ ≤ n₀) (h1c : n₁ ≤ cb) (h0 : J [] W) :
    CallsIn F n Tryz.prog 175 #[.func (.yield l) #[] #[], .pointer (some ⟨Bs, 0, none⟩)] W fun e W' => (∃ v, e = .returned v) ∧
      ((∃ ys, ys = List.range zs.length ∧ J ys W') ∨ (∃ pre, (∃ k, k ≤ zs.length ∧ pre = List.range k) ∧ Jx pre W')) := by
  have hlen := hI.1
  have hrd : ∀ W', KpB cb n₀ W W' → ∀ k, k < m → ∃ b off, A = some ⟨b, off, none⟩ ∧ W'.cell? ⟨b, off + k, none⟩ = some (.int .i64 (zs[k]?.getD 0)) := fun W' hk k hlt => by
    obtain ⟨b, off, e, hb, hc⟩ := hI.2 (by omega)
    exact ⟨b, off, e, by rw [hk.cell (a := ⟨b, off + k, none⟩) (by show b < n₀; omega) (by show b ≠ cb; omega)]; exact hc k hlt⟩
  have q0 := hBs.cell 0
  simp at q0
  have RD := Lib.hid hrd
  clear hrd
  refine callsIn_of_wp Tryz.func175 rfl h7 ?_ hro
  simp only [Tryz.ntmps175, List.size_toArray, List.length_cons, List.length_nil, Nat.reduceAdd, Nat.reduceSub, Array.replicate_succ, Array.replicate_zero, List.push_toArray, List.append_toArray, List.nil_append, List.cons_append]
  clear hBs hI
  gi_wp2
  gi_loopw [7] (fun i wr => ∃ k : Nat, k ≤ m ∧ i = .int .i64 k ∧ J (List.range k) wr ∧ KpB cb n₀ W wr)
    (fun i _ => m - (intOf i).toNat)
  case atStart => exact ⟨0, Nat.zero_le _, rfl, h0, KpB.refl _ _ _⟩
  case round =>
    obtain ⟨k, hk, rfl, hJs, hnx⟩ := hrel
    have hsz := hnx.1
    have KX := Lib.hid hnx
    by_cases hlt : k < m
    · obtain ⟨b, off, rfl, c2⟩ := RD.out wr hnx k hlt
      obtain ⟨fn, tmps, assign, body, hy, hR⟩ := hY (List.range k) k _ hJs (by simpa using (show k < zs.length by omega))
      unfold encI at hy
      obtain ⟨y, hy0⟩ : ∃ y, zs[k]?.getD 0 = y := ⟨_, rfl⟩
      rw [hy0] at hy c2
      clear hnx hy0
      gi_wp2
      refine hR.mono ?_
      rintro e W3 (⟨rfl, hJ3, hk3⟩ | ⟨rfl, hJx3⟩)
      · gi_wp2
        go_roundw
        case rel => exact ⟨k + 1, by omega, by go_num, by rw [range_take]; exact hJ3, KX.out.trans hk3⟩
        case measure => simp [intOf]; omega
      · gi_wp2
        refine bodyPost_ret (results_none rfl _ _ _) rfl ?_
        exact ⟨⟨_, rfl⟩, .inr ⟨_, ⟨k + 1, by omega, (range_take k).symm⟩, hJx3⟩⟩
    · obtain rfl : k = m := by omega
      gi_wp2
      go_end0
      exact ⟨⟨_, rfl⟩, .inl ⟨_, by rw [hlen], hJs⟩⟩
theorem vals_any (A : Option Addr) (m c : Nat) (w : World) :
    Calls Tryz.prog 129 #[.slice A m c] w fun e w' => e = .returned (.func (.func 175) #[] #[.pointer (some ⟨w.heap.size, 0, none⟩)]) ∧ w.alloc (.cells #[.slice A m c] 25) = w' := by
  go_enter Tryz.func129, Tryz.ntmps129
  go_wp2
  go_ret
  exact ⟨rfl, rfl⟩
theorem vals_stops (n : Nat) (hn : 1 ≤ n) (Bs n₀ n₁ cb m c : Nat) (A : Option Addr) (zs : List Int) (w : World) (hW0 : n₀ ≤ w.heap.size) (hBs : Box w Bs 25 #[.slice A m c]) (hB0 : Bs < n₀) (hB1 : Bs ≠ cb) (hI : Ints w n₁ A m zs) (hm : m ≤ 1048576) (h01 : n₁ ≤ n₀) (h1c : n₁ ≤ cb) :
    SeqStopsK Fence.wide n Tryz.prog 175 #[.pointer (some ⟨Bs, 0, none⟩)] (encI zs) (KpB cb n₀) (fun ys => ys = List.range zs.length) (fun pre => ∃ k, k ≤ zs.length ∧ pre = List.range k) zs.length w := fun l J Jx W hW hJ _ hY h0 =>
  vals1_in Fence.wide n trivial rfl hn l Bs n₀ n₁ cb m c A zs J Jx W (Nat.le_trans hW0 hW.size) hY (hBs.below hW (by omega)) hB0 hB1 (hI.below (hW.mono (by omega))) hm h01 h1c h0
/-- one more number behind the others, within a round. -/
theorem push1 {W w7 : World} {cn n₀ b0 q c c7 : Nat} {A A7 : Option Addr} {L : List Int} {z : Int} (hn : cn < n₀) (hb0 : b0 ≤ cn) (hW : n₀ ≤ W.heap.size)
    (bn : Boxed W cn 25 (.slice A q c)) (hrow : OwnI W n₀ A q c L)
    (h7 : w7.ownsRow n₀ 2 1 (.slice A7 (q + 1) c7) (q + 1) (L.map (Value.int .i64) ++ [.int .i64 z])) (hg : (W.alloc (.cells #[.int .i64 z] 2)).grownBy w7 (Value.slice A q c).ownBlock) :
    Boxed w7 cn 25 (.slice A q c) ∧
    (∀ B, KeepsFrom B W (w7.setCell ⟨cn, 0, none⟩ (.slice A7 (q + 1) c7))) ∧
    KpB cn n₀ W (w7.setCell ⟨cn, 0, none⟩ (.slice A7 (q + 1) c7)) ∧
    Boxed (w7.setCell ⟨cn, 0, none⟩ (.slice A7 (q + 1) c7)) cn 25 (.slice A7 (q + 1) c7) ∧
    OwnI (w7.setCell ⟨cn, 0, none⟩ (.slice A7 (q + 1) c7)) n₀ A7 (q + 1) c7 (L ++ [z]) ∧
    Below b0 W (w7.setCell ⟨cn, 0, none⟩ (.slice A7 (q + 1) c7)) := by
  have b2 : Below W.heap.size W (W.alloc (.cells #[.int .i64 z] 2)) := (Below.refl _ _).alloc (Nat.le_refl _) _
  have t6 := Touch.of_grown hg
  have hng : ∀ g, (Value.slice A q c).ownBlock = some g → n₀ ≤ g := fun g hv => (hrow.lt g hv).1
  have t06 : Touch (fun g => (Value.slice A q c).ownBlock = some g) W w7 := (Touch.of_below b2).trans (t6.mono (fun k hk => hk.symm))
  have bn7 : Boxed w7 cn 25 (.slice A q c) := (t06.block cn bn.lt (fun e => by have := hng _ e; omega)).trans bn
  obtain ⟨w8, hw8⟩ : ∃ w8, w7.setCell ⟨cn, 0, none⟩ (.slice A7 (q + 1) c7) = w8 := ⟨_, rfl⟩
  have t8 : Touch (fun g => g = cn) w7 w8 := by rw [← hw8]; exact touch_set w7 cn 0 _ rfl
  have bn8 : Boxed w8 cn 25 (.slice A7 (q + 1) c7) := by rw [← hw8]; exact bn7.set _
  rw [hw8]
  have h7' : OwnI w7 n₀ A7 (q + 1) c7 (L ++ [z]) := by unfold OwnI; rw [List.map_append]; exact h7
  have o8 : OwnI w8 n₀ A7 (q + 1) c7 (L ++ [z]) := h7'.touch t8 (fun g hv e => by have := (h7'.lt g hv).1; omega)
  have tt : Touch (fun g => g = cn ∨ (Value.slice A q c).ownBlock = some g) W w8 := (t06.mono (fun k hk => .inr hk)).trans (t8.mono (fun k hk => .inl hk))
  refine ⟨bn7, fun B => ⟨tt.size, fun k o hk ho hnc => ?_⟩, ⟨tt.size, fun k hk hc => tt.block k (by omega) (fun e => by rcases e with e | e <;> first | exact hc e | (have := hng _ e; omega))⟩, bn8, o8, tt.below (by omega) (fun k hk e => by rcases e with e | e <;> first | omega | (have := hng _ e; omega))⟩
  refine (tt.block k (Array.getElem?_eq_some_iff.1 ho).1 (fun e => ?_)).trans ho
  rcases e with e | e
  · subst e
    rw [show W.heap[k]? = _ from bn] at ho; cases ho; cases hnc
  · obtain ⟨cur, zz, h3⟩ := own_cells hrow k e
    rw [h3] at ho; cases ho; cases hnc
theorem pick_range (zs : List Int) : (List.range zs.length).map (fun k => zs[k]?.getD 0) = zs := by
  apply List.ext_getElem?
  intro j
  by_cases hj : j < zs.length
  · simp [hj]
  · rw [List.getElem?_eq_none (by simp; omega), List.getElem?_eq_none (by omega)]
set_option maxHeartbeats 4000000 in
theorem appendSeq_any (Bs m c : Nat) (A : Option Addr) (zs : List Int) (w : World) (hBs : Box w Bs 25 #[.slice A m c]) (hI : Ints w w.heap.size A m zs) (hm : m ≤ 1048576) :
    Calls Tryz.prog 204 #[.slice none 0 0, .func (.func 175) #[] #[.pointer (some ⟨Bs, 0, none⟩)]] w fun e w' => ∃ A' n' c', e = .returned (.slice A' n' c') ∧ OwnI w' w.heap.size A' n' c' zs ∧ Below w.heap.size w w' := by
  have hlen := hI.1
  have hBl := hBs.lt
  have PI := Lib.hid hI
  have PB := Lib.hid hBs
  clear hI hBs
  obtain ⟨i0, hi, hz0, hz1, hz2⟩ := info_parts Tryz.infoI
  have HI := Lib.hid hi
  have HZ0 := Lib.hid hz0
  have HZ1 := Lib.hid hz1
  have HZ2 := Lib.hid hz2
  clear hi hz0 hz1 hz2
  refine (callsIn_wide (n := 6)).1 ?_
  refine callsIn_of_wp_marks Tryz.func204 rfl trivial ?_ rfl
  simp only [Tryz.ntmps204, List.size_toArray, List.length_cons, List.length_nil, Nat.reduceAdd, Nat.reduceSub, Array.replicate_succ, Array.replicate_zero, List.push_toArray, List.append_toArray, List.nil_append, List.cons_append]
  gi_wp2
  obtain ⟨W0, hW0⟩ : ∃ W0, w.alloc (.cells #[.slice none 0 0] 25) = W0 := ⟨_, rfl⟩
  have bN : Boxed W0 w.heap.size 25 (.slice none 0 0) := hW0 ▸ heap_alloc_new _ _
  have hB0 : Below w.heap.size w W0 := hW0 ▸ (Below.refl _ _).alloc (Nat.le_refl _) _
  have hsz : W0.heap.size = w.heap.size + 1 := hW0 ▸ by simp
  rw [hW0]
  clear hW0
  refine wpIn_rangeFunc_ownH rfl (by omega) (gf := 175) (lb := #[.pointer (some ⟨Bs, 0, none⟩)]) rfl trivial (enters_of Tryz.func175 (by kernel_rfl) rfl)
    (vals_stops 5 (by omega) Bs (w.heap.size + 1) w.heap.size w.heap.size m c A zs W0 (by omega) (PB.out.below hB0 hBl) (by omega) (by omega) (PI.out.below hB0) hm (by omega) (Nat.le_refl _))
    (fun h k => h.trans k) (KpB.put (by omega)) (Below.refl _ _) (fun _ => rfl)
    (fun pre W => ∃ A q c, Boxed W w.heap.size 25 (.slice A q c) ∧ OwnI W (w.heap.size + 1) A q c (pre.map (fun k => zs[k]?.getD 0)) ∧ KpB w.heap.size (w.heap.size + 1) W0 W ∧ Below w.heap.size w W)
    (fun _ _ _ => False)
    (fun pre X Y row hs hg hr => by
      obtain ⟨A, q, c, h1, h2, h4, h5⟩ := hs
      refine ⟨A, q, c, h1.kept hg (fun e => ?_), h2.abide hg (fun r e => (hr r e).2), h4.trans ⟨hg.size, fun k hk _ => hg.block k (by have := h4.1; omega) (fun e => by have := (hr k e.symm).1; omega)⟩, h5.grown hg (by have := h5.size; omega) (fun k e => by have := (hr k e).1; omega)⟩
      obtain ⟨_, o, ho, hc⟩ := hr _ e.symm
      rw [show X.heap[w.heap.size]? = _ from h1] at ho; cases ho; cases hc)
    (fun _ _ _ _ _ hs _ _ => hs)
    ⟨none, 0, 0, bN, OwnI.nil _ _, KpB.refl _ _ _, hB0⟩
    (fun x a' W => a' = { tmps := #[.slice none 0 0, .func (.func 175) #[] #[.pointer (some ⟨Bs, 0, none⟩)], .pointer (some ⟨w.heap.size, 0, none⟩), undef, .slice none 0 0, .int .i64 (zs[x]?.getD 0), .func (.func 175) #[] #[.pointer (some ⟨Bs, 0, none⟩)], .int .i64 (zs[x]?.getD 0), undef, undef, undef, undef, undef], defers := [] })
    (fun x a' _ X Y row hs hg hr => hs)
    ?assign ?body ?done ?stop
  case assign =>
    rintro l pre x W K hJ hK
    unfold encI
    gi_wp2
    exact hK _ _ (KeepsFrom.refl _ _) (KpB.refl _ _ _) hJ rfl
  case body =>
    rintro l pre x a' W hl ⟨r, hr⟩ ⟨A1, q, c1, hbn, hoi, hkp, hbel⟩ rfl hlt
    have hql := hoi.len
    simp at hql
    have hWs : w.heap.size + 1 ≤ W.heap.size := by have := hkp.1; omega
    have cn := hbn.cell
    have BN := Lib.hid hbn
    have OI := Lib.hid hoi
    have KP := Lib.hid hkp
    have BE := Lib.hid hbel
    clear hbn hoi hkp hbel hr
    obtain ⟨L, hL⟩ : ∃ L, pre.map (fun k => zs[k]?.getD 0) = L := ⟨_, rfl⟩
    have HL := Lib.hid hL
    rw [hL] at OI
    clear hL
    obtain ⟨z, hz⟩ : ∃ z, zs[x]?.getD 0 = z := ⟨_, rfl⟩
    have HZ := Lib.hid hz
    rw [hz]
    clear hz
    gi_wp2_with (gi_at_builtin; refine wpListIn_append_own _ rfl _ _ 25 rfl (w.heap.size + 1) 2 i0 (.int .i64 0) 1 8 Tryz.underlying25 HI.out HZ0.out HZ1.out HZ2.out rfl (by decide) (.slice A1 q c1) q (L.map (Value.int .i64)) (by simp [Act.eval]) (own_touch (S := fun _ => False) OI.out (Touch.of_below ((Below.refl W.heap.size W).alloc (Nat.le_refl _) _)) (fun _ _ h => h)) ⟨W.heap.size, 0, none⟩ 1 1 [.int .i64 z] (by simp [Act.eval]) rfl ?q1 ?q2 ?q3 ?q4 ?q5 ?_)
    case q1 =>
      intro j u hj
      match j, hj with
      | 0, hj => simp at hj; subst hj; simp [Addr.add]
    case q2 => intro u hu; simp at hu; subst hu; rfl
    case q3 => unfold maxLen; omega
    case q4 => omega
    case q5 => simp; omega
    intro v7 w7 hown7 hgrow7 _
    obtain ⟨A7, c7, rfl⟩ := own_slice hown7
    have PF := push1 (cn := w.heap.size) (n₀ := w.heap.size + 1) (b0 := w.heap.size) (by omega) (by omega) hWs BN.out OI.out hown7 hgrow7
    have q6 := PF.1.cell
    have f6 := PF.1.frozen
    have PF := Lib.hid PF.2
    clear hown7 hgrow7 cn
    gi_wp2
    obtain ⟨p1, p2, p3, p4, p5⟩ := PF.out
    refine ⟨p1 _, p2, _, _, _, p3, by rw [List.map_append, HL.out]; simpa [HZ.out] using p4, KP.out.trans p2, BE.out.trans p5⟩
  case done =>
    rintro D ys W hD rfl ⟨A1, q, c1, h1, h2, h4, h5⟩ hK
    have c0 := h1.cell
    rw [pick_range] at h2
    have H2 := Lib.hid h2
    have H5 := Lib.hid h5
    clear h1 h2 h4 h5
    gi_wp2
    refine ⟨by simp, .inl ⟨_, _, rfl, run_takeDeferred hK, ?_⟩⟩
    have O2 := Lib.hid (H2.out.abide (grownBy_putObj' W D (.deferred none)) (fun r e => by cases e; exact ⟨_, hK, rfl⟩))
    have B2 := Lib.hid (H5.out.trans (belowK_b (w := w) (Nat.le_refl _) W D _ (.deferred none) (by omega) hK rfl rfl))
    exact ⟨_, results_tmp rfl _ _ _, _, _, _, rfl, O2.out.base (by omega), B2.out⟩
  case stop =>
    rintro D cx pre W hD _ h
    exact h.elim
theorem collect_any (Bs m c : Nat) (A : Option Addr) (zs : List Int) (w : World) (hBs : Box w Bs 25 #[.slice A m c]) (hI : Ints w w.heap.size A m zs) (hm : m ≤ 1048576) :
    Calls Tryz.prog 173 #[.func (.func 175) #[] #[.pointer (some ⟨Bs, 0, none⟩)]] w fun e w' => ∃ A' n' c', e = .returned (.slice A' n' c') ∧ OwnI w' w.heap.size A' n' c' zs ∧ Below w.heap.size w w' := by
  go_enter Tryz.func173, Tryz.ntmps173
  go_wp2_with fail
  refine (appendSeq_any Bs m c A zs w hBs hI hm).mono ?_
  rintro e w2 ⟨A2, n2, c2, rfl, o2, b2⟩
  have O2 := Lib.hid o2
  have B2 := Lib.hid b2
  clear o2 b2 hBs hI
  go_wp2
  go_ret
  exact ⟨_, _, _, rfl, O2.out, B2.out⟩
end Go.Proofs.YtdhnhgppapkikaaGreatDoor

-- LaySort: slices.Sort at int64 is the library's sort: the table of its numbers here, and that its functions are those. No statement of the program is proved here.
namespace Go.Proofs.YtdhnhgppapkikaaGreatDoor
open Go.Shelf
def laySort_ren : Go.Shelf.Ren := ⟨fun | 5 => 174 | 8 => 206 | 7 => 205 | 19 => 229 | 20 => 230 | 10 => 221 | 11 => 222 | 12 => 223 | 13 => 224 | 14 => 225 | 15 => 226 | 16 => 160 | 17 => 227 | 18 => 228 | 30 => 244 | 31 => 245 | 32 => 246 | 33 => 247 | 34 => 248 | 35 => 199 | 40 => 252 | n => n, fun | 23 => 25 | 25 => 2 | 3 => 3 | 32 => 164 | 22 => 25 | 0 => 0 | 44 => 283 | 46 => 273 | 4 => 4 | 36 => 277 | 35 => 276 | 41 => 165 | 5 => 5 | 9 => 9 | 53 => 298 | 57 => 302 | 63 => 307 | 64 => 308 | n => n, fun | n => n⟩
theorem laySort : Go.Proofs.SlLaysM.n5 Tryz.prog laySort_ren := {
  mixed := by kernel_rfl
  f5 := ⟨Tryz.f174.name, by decide, Tryz.func174.trans (congrArg some (by kernel_rfl))⟩
  f7 := ⟨Tryz.f205.name, by decide, Tryz.func205.trans (congrArg some (by kernel_rfl))⟩
  f8 := Tryz.func206.trans (congrArg some (by kernel_rfl))
  f10 := ⟨Tryz.f221.name, by decide, Tryz.func221.trans (congrArg some (by kernel_rfl))⟩
  f11 := ⟨Tryz.f222.name, by decide, Tryz.func222.trans (congrArg some (by kernel_rfl))⟩
  f12 := ⟨Tryz.f223.name, by decide, Tryz.func223.trans (congrArg some (by kernel_rfl))⟩
  f13 := ⟨Tryz.f224.name, by decide, Tryz.func224.trans (congrArg some (by kernel_rfl))⟩
  f14 := ⟨Tryz.f225.name, by decide, Tryz.func225.trans (congrArg some (by kernel_rfl))⟩
  f15 := ⟨Tryz.f226.name, by decide, Tryz.func226.trans (congrArg some (by kernel_rfl))⟩
  f16 := ⟨Tryz.f160.name, by decide, Tryz.func160.trans (congrArg some (by kernel_rfl))⟩
  f17 := ⟨Tryz.f227.name, by decide, Tryz.func227.trans (congrArg some (by kernel_rfl))⟩
  f18 := ⟨Tryz.f228.name, by decide, Tryz.func228.trans (congrArg some (by kernel_rfl))⟩
  f19 := Tryz.func229.trans (congrArg some (by kernel_rfl))
  f20 := Tryz.func230.trans (congrArg some (by kernel_rfl))
  f30 := ⟨Tryz.f244.name, by decide, Tryz.func244.trans (congrArg some (by kernel_rfl))⟩
  f31 := Tryz.func245.trans (congrArg some (by kernel_rfl))
  f32 := Tryz.func246.trans (congrArg some (by kernel_rfl))
  f33 := ⟨Tryz.f247.name, by decide, Tryz.func247.trans (congrArg some (by kernel_rfl))⟩
  f34 := ⟨Tryz.f248.name, by decide, Tryz.func248.trans (congrArg some (by kernel_rfl))⟩
  f35 := ⟨Tryz.f199.name, by decide, Tryz.func199.trans (congrArg some (by kernel_rfl))⟩
  f40 := ⟨Tryz.f252.name, by decide, Tryz.func252.trans (congrArg some (by kernel_rfl))⟩
  t0 := Tryz.underlying0
  a0 := Tryz.isAgg0
  z0 := Tryz.sizeOf0
  v0 := Tryz.zeroValue0
  t3 := Tryz.underlying3
  a3 := Tryz.isAgg3
  z3 := Tryz.sizeOf3
  v3 := Tryz.zeroValue3
  t4 := Tryz.underlying4
  a4 := Tryz.isAgg4
  z4 := Tryz.sizeOf4
  v4 := Tryz.zeroValue4
  t5 := Tryz.underlying5
  a5 := Tryz.isAgg5
  z5 := Tryz.sizeOf5
  v5 := Tryz.zeroValue5
  t9 := Tryz.underlying9
  a9 := Tryz.isAgg9
  z9 := Tryz.sizeOf9
  v9 := Tryz.zeroValue9
  t22 := Tryz.underlying25
  a22 := Tryz.isAgg25
  z22 := Tryz.sizeOf25
  v22 := Tryz.zeroValue25
  t23 := Tryz.underlying25
  a23 := Tryz.isAgg25
  z23 := Tryz.sizeOf25
  v23 := Tryz.zeroValue25
  t25 := Tryz.underlying2
  a25 := Tryz.isAgg2
  z25 := Tryz.sizeOf2
  v25 := Tryz.zeroValue2
  t32 := Tryz.underlying164
  a32 := Tryz.isAgg164
  z32 := Tryz.sizeOf164
  v32 := Tryz.zeroValue164
  t35 := Tryz.underlying276
  a35 := Tryz.isAgg276
  z35 := Tryz.sizeOf276
  v35 := Tryz.zeroValue276
  t36 := Tryz.underlying277
  a36 := Tryz.isAgg277
  z36 := Tryz.sizeOf277
  v36 := Tryz.zeroValue277
  t41 := Tryz.underlying165
  a41 := Tryz.isAgg165
  z41 := Tryz.sizeOf165
  v41 := Tryz.zeroValue165
  t44 := Tryz.underlying283
  a44 := Tryz.isAgg283
  z44 := Tryz.sizeOf283
  v44 := Tryz.zeroValue283
  t46 := Tryz.underlying273
  a46 := Tryz.isAgg273
  z46 := Tryz.sizeOf273
  v46 := Tryz.zeroValue273
  t53 := Tryz.underlying298
  a53 := Tryz.isAgg298
  z53 := Tryz.sizeOf298
  v53 := Tryz.zeroValue298
  t57 := Tryz.underlying302
  a57 := Tryz.isAgg302
  z57 := Tryz.sizeOf302
  v57 := Tryz.zeroValue302
  t63 := Tryz.underlying307
  a63 := Tryz.isAgg307
  z63 := Tryz.sizeOf307
  v63 := Tryz.zeroValue307
  t64 := Tryz.underlying308
  a64 := Tryz.isAgg308
  z64 := Tryz.sizeOf308
  v64 := Tryz.zeroValue308 }
end Go.Proofs.YtdhnhgppapkikaaGreatDoor

-- SortedI: slices.Sorted of slices.Values at int64, as the program calls it. No statement of the program is proved here.
namespace Go.Proofs.YtdhnhgppapkikaaGreatDoor
set_option maxRecDepth 100000
set_option linter.unusedVariables false
set_option linter.unusedSimpArgs false
open Go.RowKit Go.Sort

theorem sort_none (p : Option Addr) (cap : Nat) (w : World) : Calls Tryz.prog 174 #[.slice p 0 cap] w fun e w' => e = .returned (.tuple #[]) ∧ w' = w := AnyM.slices_Sort_int_none laySort p cap w
theorem sort_some (g cap : Nat) (zs : List Int) (w : World) (hH : Holds (Value.int .i64) w g 0 zs.toArray) (hblk : g < w.heap.size) (hsz : zs.length < 4611686018427387904) :
    Calls Tryz.prog 174 #[.slice (some ⟨g, 0, none⟩) zs.length cap] w fun e w' =>
      e = .returned (.tuple #[]) ∧ ∃ n os, w' = grow (putRow (Value.int .i64) (Sort.ahead w n) g 0 (zs.mergeSort fun x y => decide (x ≤ y)).toArray) os :=
  calls_of_every_depth fun D => AnySM.slices_Sort_int_in laySort D g 0 cap zs w hH hblk hsz
set_option maxHeartbeats 1600000 in
theorem sorted_any (Bs m c : Nat) (A : Option Addr) (zs : List Int) (w : World) (hBs : Box w Bs 25 #[.slice A m c]) (hI : Ints w w.heap.size A m zs) (hm : m ≤ 1048576) :
    Calls Tryz.prog 128 #[.func (.func 175) #[] #[.pointer (some ⟨Bs, 0, none⟩)]] w fun e w' => ∃ A' n' c', e = .returned (.slice A' n' c') ∧ OwnI w' w.heap.size A' n' c' (zs.mergeSort fun x y => decide (x ≤ y)) ∧ n' = zs.length ∧ Below w.heap.size w w' := by
  have hlen := hI.1
  have HLE := Lib.hid hlen
  clear hlen
  go_enter Tryz.func128, Tryz.ntmps128
  go_wp2_with fail
  refine (collect_any Bs m c A zs w hBs hI hm).mono ?_
  rintro e w2 ⟨A2, n2, c2, rfl, o2, b2⟩
  have h2 := o2.len
  have B2 := Lib.hid b2
  have s2 := b2.size
  have hln : (zs.mergeSort fun x y => decide (x ≤ y)).length = zs.length := List.length_mergeSort zs
  have HLN := Lib.hid hln
  clear b2 hBs hI hln
  rcases o2.2 with ⟨hv, hz⟩ | ⟨g, cap, cur, hv, hbase, hg, r1, r2, r3, r4⟩
  · cases hv
    have hz0 : zs = [] := List.eq_nil_of_length_eq_zero h2
    subst hz0
    clear o2
    go_wp2_with fail
    refine (sort_none none 0 w2).mono ?_
    rintro e w3 ⟨rfl, rfl⟩
    go_wp2
    go_ret
    exact ⟨_, _, _, rfl, by simpa using OwnI.nil _ _, rfl, B2.out⟩
  · cases hv
    subst h2
    have hgl : g < w2.heap.size := (Array.getElem?_eq_some_iff.1 hg).1
    have hH : Holds (Value.int .i64) w2 g 0 zs.toArray := holds_of_blockI hg (by simpa using r4)
    have CS := sort_some g c2 zs w2 hH hgl (by have := HLE.out; omega)
    have HG := Lib.hid hg
    clear o2 hH hg r4
    go_wp2_with fail
    refine CS.mono ?_
    rintro e w3 ⟨rfl, k, os, hw3⟩
    have o3 : w3.ownsRow w.heap.size 2 1 (.slice (some ⟨g, 0, none⟩) zs.length c2) zs.length ((zs.mergeSort fun x y => decide (x ≤ y)).map (Value.int .i64)) := by
      rw [hw3]
      exact ownsRow_sortedI HLN.out hbase HG.out r1 r2 r3
    have b3 : Below w.heap.size w w3 := B2.out.grown (by rw [hw3]; exact grownBy_sortedI _) s2 (fun j hj => by cases hj; exact hbase)
    have O3 := Lib.hid o3
    have B3 := Lib.hid b3
    clear CS hw3 o3 b3
    go_wp2
    go_ret
    exact ⟨_, _, _, rfl, O3.out, rfl, B3.out⟩
end Go.Proofs.YtdhnhgppapkikaaGreatDoor

-- RightP: What the program asks of an open base: its greyRight, its noneMissed.
namespace Go.Proofs.YtdhnhgppapkikaaGreatDoor
set_option maxRecDepth 100000
set_option linter.unusedVariables false
set_option linter.unusedSimpArgs false
open Go.RowKit

theorem Tryz.enterBlack (args : Array Value) (w : World) : (callFunc 130 args).run Tryz.prog w = .ok (.enter 130 args) w := by kernel_rfl
theorem Tryz.enterWhite (args : Array Value) (w : World) : (callFunc 97 args).run Tryz.prog w = .ok (.enter 97 args) w := by kernel_rfl
/-- is one of these black? -/
theorem anyBlack_any (p lo : Nat) (L : OLay) (ps : List (Int × NV)) (b : MBase) (A : Option Addr) (n c : Nat) (l : List Int) (B : Nat) (w : World) (ho : OpenIs w p lo L ps b) (hr : RiseI b.black) (hn : n ≤ 1048576) (hb : Ints w B A n l) :
    Calls Tryz.prog 96 #[.slice A n c, .func (.func 130) #[.pointer (some ⟨p, 4, none⟩)] #[]] w fun e w' => ∃ r, e = .returned (.bool r) ∧ (r = false ↔ ∀ x, x ∈ l → x ∉ b.black) ∧ Below w.heap.size w w' := by
  refine (containsF_any _ p 4 (fun x => decide (x ∈ b.black)) A n c l B w Tryz.enterBlack hn hb (fun x q => (isBlack_any p lo L ps b x (w.drewN q) (ho.drewN q) hr).mono (fun e w' h => ⟨h.1, by obtain ⟨q', e⟩ := h.2; exact ⟨q + q', by rw [e, World.drewN_drewN]⟩⟩))).mono ?_
  rintro e w2 ⟨rfl, q, rfl⟩
  refine ⟨_, rfl, ?_, drewN_below _ _⟩
  rw [← Bool.not_eq_true, List.any_eq_true]
  exact ⟨fun h x hx hb => h ⟨x, hx, decide_eq_true hb⟩, fun h ⟨x, hx, hb⟩ => h x hx (of_decide_eq_true hb)⟩
/-- is one of these neither grey nor black? -/
theorem anyWhite_any (p lo : Nat) (L : OLay) (ps : List (Int × NV)) (b : MBase) (A : Option Addr) (n c : Nat) (l : List Int) (B : Nat) (w : World) (ho : OpenIs w p lo L ps b) (hr : RiseI b.black) (hn : n ≤ 1048576) (hb : Ints w B A n l) :
    Calls Tryz.prog 96 #[.slice A n c, .func (.func 97) #[.pointer (some ⟨p, 4, none⟩)] #[]] w fun e w' => ∃ r, e = .returned (.bool r) ∧ (r = false ↔ ∀ x, x ∈ l → x ∈ b.grey ∨ x ∈ b.black) ∧ Below w.heap.size w w' := by
  refine (containsF_any _ p 4 (fun x => decide (x ∉ b.grey ∧ x ∉ b.black)) A n c l B w Tryz.enterWhite hn hb (fun x q => (isWhite_any p lo L ps b x (w.drewN q) (ho.drewN q) hr).mono (fun e w' h => ⟨h.1, by obtain ⟨q', e⟩ := h.2; exact ⟨q + q', by rw [e, World.drewN_drewN]⟩⟩))).mono ?_
  rintro e w2 ⟨rfl, q, rfl⟩
  refine ⟨_, rfl, ?_, drewN_below _ _⟩
  rw [← Bool.not_eq_true, List.any_eq_true]
  constructor
  · intro h x hx
    by_cases h1 : x ∈ b.grey
    · exact .inl h1
    · by_cases h2 : x ∈ b.black
      · exact .inr h2
      · exact absurd ⟨x, hx, decide_eq_true ⟨h1, h2⟩⟩ h
  · rintro h ⟨x, hx, hb⟩
    have hb := of_decide_eq_true hb
    exact (h x hx).elim hb.1 hb.2
def GreyOk (b : MBase) : Prop := Named b.cells b.grey ∧ b.grey.Nodup ∧ Whole b.cells b.grey ∧ ∀ x, x ∈ b.grey → x ∉ b.black
set_option maxHeartbeats 3200000 in
theorem greyRight_any (p lo : Nat) (L : OLay) (ps : List (Int × NV)) (b : MBase) (w : World) (ho : OpenIs w p lo L ps b) (hr : Right b.cells) (hrb : RiseI b.black) :
    Calls Tryz.prog 94 #[.pointer (some ⟨p, 0, none⟩)] w fun e w' => SaysB e (GreyOk b) ∧ Below w.heap.size w w' := by
  have HO := Lib.hid ho
  have HR := Lib.hid hr
  have HRB := Lib.hid hrb
  have hsum := ho.sum
  have q5 := ho.c5
  clear ho hr hrb
  go_enter Tryz.func94, Tryz.ntmps94
  go_wp2_with fail
  refine (hasAll_any p lo L ps b L.Ag L.ng L.cg b.grey w.heap.size w HO.out HR.out (by omega) (Nat.le_refl _) HO.out.grey).mono ?_
  rintro e w2 ⟨⟨r, rfl, hr⟩, b2⟩
  have NR := Lib.hid hr
  have B2 := Lib.hid b2
  have s2 := b2.size
  have O2 := Lib.hid (HO.out.below b2)
  clear hr b2 q5
  cases r with
  | false =>
    go_wp2
    go_ret
    exact ⟨SaysB.f (fun h => absurd (NR.out.2 h.1) (by simp)), B2.out⟩
  | true =>
    have NM := Lib.hid (NR.out.1 (by trivial))
    clear NR
    have q5 := O2.out.c5
    go_wp2_with fail
    refine (vals_any L.Ag L.ng L.cg w2).mono ?_
    rintro e w3 ⟨rfl, hw3⟩
    have b3 : Below w2.heap.size w2 w3 := hw3 ▸ (Below.refl _ _).alloc (Nat.le_refl _) _
    have X3 := Lib.hid (show Box w3 w2.heap.size 25 #[.slice L.Ag L.ng L.cg] from hw3 ▸ heap_alloc_new _ _)
    have s3 : w3.heap.size = w2.heap.size + 1 := hw3 ▸ by simp
    have O3 := Lib.hid (O2.out.below b3)
    have B3 := Lib.hid (B2.out.trans (b3.mono s2))
    clear b3 hw3 q5
    go_wp2_with fail
    refine (sorted_any w2.heap.size L.ng L.cg L.Ag b.grey w3 X3.out O3.out.grey (by omega)).mono ?_
    rintro e w4 ⟨A4, n4, c4, rfl, o4, hn4, b4⟩
    have hlg := O3.out.grey.1
    have O4 := Lib.hid (O3.out.below b4)
    have B4 := Lib.hid (B3.out.trans (b4.mono (by omega)))
    have s4 := b4.size
    have G4 := Lib.hid o4
    have HN4 := Lib.hid (show n4 ≤ 1048576 by omega)
    clear o4 b4 hn4 hlg
    go_wp2_with fail
    refine (rises_any A4 n4 c4 _ w4.heap.size w4 HN4.out G4.out.ints).mono ?_
    rintro e w5 ⟨⟨r, rfl, hr⟩, q, hq⟩
    have b5 : Below w4.heap.size w4 w5 := hq ▸ drewN_below _ _
    have NR := Lib.hid (hr.trans (rises_sort b.grey))
    have O5 := Lib.hid (O4.out.below b5)
    have B5 := Lib.hid (B4.out.trans (b5.mono (by omega)))
    have s5 := b5.size
    clear b5 hq hr
    cases r with
    | false =>
      go_wp2
      go_ret
      exact ⟨SaysB.f (fun h => absurd (NR.out.2 ⟨h.2.1, fun x hx => HR.out.named (h.1 x hx)⟩) (by simp)), B5.out⟩
    | true =>
      have ND := Lib.hid (NR.out.1 (by trivial)).1
      clear NR
      have h80 : L.ng ≤ 80 := by
        have := named_len b.cells b.grey ND.out NM.out
        have := HR.out.1
        have := HO.out.grey.1
        omega
      have hc0 : ∀ W, Below w5.heap.size w5 W → W.cell? ⟨p, 0, none⟩ = some (.slice L.R.Ak ps.length L.R.ck) := fun W h => (O5.out.below h).c0
      have hc1 : ∀ W, Below w5.heap.size w5 W → W.cell? ⟨p, 1, none⟩ = some (.slice L.R.Av ps.length L.R.cv) := fun W h => (O5.out.below h).c1
      have hc5 : ∀ W, Below w5.heap.size w5 W → W.cell? ⟨p, 5, none⟩ = some (.slice L.Ag L.ng L.cg) := fun W h => (O5.out.below h).c5
      have hRE : ∀ W, Below w5.heap.size w5 W → Calls Tryz.prog 93 #[.agg #[.slice L.R.Ak ps.length L.R.ck, .slice L.R.Av ps.length L.R.cv], .slice L.Ag L.ng L.cg] W
          fun e w' => ∃ A n c l r, e = .returned (.tuple #[.slice A n c, .bool r]) ∧ Going b.cells b.grey l [] r ∧ OwnI w' W.heap.size A n c l ∧ Below W.heap.size W w' :=
        fun W h => reachedFrom_any lo L.R ps b.cells L.Ag L.ng L.cg b.grey W.heap.size W (O5.out.below h).nodes HR.out h80 HO.out.cg HO.out.zg (Nat.le_refl _) (O5.out.below h).grey
      have RE := Lib.hid hRE
      clear hRE
      go_wp2
      go_region_held3 (fun W => Below w5.heap.size w5 W) (first | exact (Below.refl _ _).drew | assumption)
        (first | (go_at_call 93
                  refine (RE.out _ (by assumption)).mono ?_
                  rintro e w6 ⟨g6, n6, c6, l6, r6, rfl, hgo, o6, b6⟩
                  have h6 := (by assumption : Below w5.heap.size w5 _).trans (b6.mono (by assumption : Below w5.heap.size w5 _).size)))
      have WH := Lib.hid hgo.whole_
      have B6 := Lib.hid (B5.out.trans (h6.mono (by omega)))
      have O6 := Lib.hid (O5.out.below h6)
      have s6 : w5.heap.size ≤ w6.heap.size := h6.size
      clear hgo h6 b6 o6 hc0 hc1 hc5
      cases r6 with
      | false =>
        go_wp2
        go_quiet (fail)
        go_wp2
        go_ret
        exact ⟨SaysB.f (fun h => absurd (WH.out.2 h.2.2.1) (by simp)), B6.out.trans ((drewN_below _ _).mono (by omega))⟩
      | true =>
        have hc5 : ∀ W, Below w6.heap.size w6 W → W.cell? ⟨p, 5, none⟩ = some (.slice L.Ag L.ng L.cg) := fun W h => (O6.out.below h).c5
        have hAB : ∀ W, Below w6.heap.size w6 W → Calls Tryz.prog 96 #[.slice L.Ag L.ng L.cg, .func (.func 130) #[.pointer (some ⟨p, 4, none⟩)] #[]] W
            fun e w' => ∃ r, e = .returned (.bool r) ∧ (r = false ↔ ∀ x, x ∈ b.grey → x ∉ b.black) ∧ Below W.heap.size W w' :=
          fun W h => anyBlack_any p lo L ps b L.Ag L.ng L.cg b.grey W.heap.size W (O6.out.below h) HRB.out (by omega) (O6.out.below h).grey
        have AB := Lib.hid hAB
        have hmf : ∀ (fn : Fn) (first cap : Array Value) (w : World), (Instr.makeFunc fn first cap).run Tryz.prog w = .ok (.func fn first cap) w := fun _ _ _ _ => rfl
        clear hAB
        go_wp2
        go_region_held3 (fun W => Below w6.heap.size w6 W) (first | exact (Below.refl _ _).drew | assumption)
          (first | (go_at_call 96
                    refine (AB.out _ (by assumption)).mono ?_
                    rintro e w7 ⟨r7, rfl, hb7, b7⟩
                    have h7 := (by assumption : Below w6.heap.size w6 _).trans (b7.mono (by assumption : Below w6.heap.size w6 _).size)))
        have BB := Lib.hid hb7
        have B7 := Lib.hid (B6.out.trans (h7.mono (by omega)))
        clear hb7 h7 b7 hc5 hmf
        have WT := Lib.hid (WH.out.1 (by trivial))
        cases r7 with
        | false =>
          go_wp2
          go_ret
          exact ⟨SaysB.t ⟨NM.out, ND.out, WT.out, BB.out.1 (by trivial)⟩, B7.out⟩
        | true =>
          go_wp2
          go_ret
          exact ⟨SaysB.f (fun h => absurd (BB.out.2 h.2.2.2) (by simp)), B7.out⟩
def MissOk (b : MBase) : Prop := (∀ y k, y ∈ b.black → KidOf b.cells y k → k ∈ b.grey ∨ k ∈ b.black) ∧ ∀ x, x ∈ keptOf b → x ∈ b.grey ∨ x ∈ b.black
end Go.Proofs.YtdhnhgppapkikaaGreatDoor

-- MissP: What the program asks of an open base: its noneMissed.
namespace Go.Proofs.YtdhnhgppapkikaaGreatDoor
set_option maxRecDepth 100000
set_option linter.unusedVariables false
set_option linter.unusedSimpArgs false
open Go.RowKit

theorem kid_cases {b : MBase} {y : Int} {nd : MNode} {r : Bool} (h : HitIs b.cells y nd r) {k : Int} (hk : KidOf b.cells y k) : ∃ i, i < nd.kids.length ∧ (nd.kids[i]?.getD (0, 0)).2 = k := by
  obtain ⟨nd', a, h', hm⟩ := hk
  obtain ⟨rfl, _⟩ := h.one h'
  obtain ⟨i, hi, e⟩ := List.mem_iff_getElem.1 hm
  refine ⟨i, hi, ?_⟩
  rw [List.getElem?_eq_getElem hi, e]
  rfl
theorem node0_kids : node0.kids = [] := rfl
theorem kid_of {b : MBase} {y : Int} {nd : MNode} {r : Bool} (h : HitIs b.cells y nd r) (hr : Right b.cells) {i : Nat} (hi : i < nd.kids.length) : KidOf b.cells y (nd.kids[i]?.getD (0, 0)).2 := by
  have hr' : r = true := by
    rcases h with ⟨h1, h2⟩ | ⟨_, h2, _⟩
    · exact (IsNode.of h2).2 (hr.2 _ h1).1
    · rw [h2] at hi; exact absurd hi (by rw [node0_kids]; simp)
  subst hr'
  refine ⟨nd, (nd.kids[i]?.getD (0, 0)).1, h, ?_⟩
  rw [List.getElem?_eq_getElem hi]
  exact List.getElem_mem hi
set_option maxHeartbeats 4000000 in
theorem noneMissed_any (p lo : Nat) (L : OLay) (ps : List (Int × NV)) (b : MBase) (w : World) (ho : OpenIs w p lo L ps b) (hr : Right b.cells) (hrp : RiseI b.pins) (hrb : RiseI b.black) (h6 : L.np ≤ 6) :
    Calls Tryz.prog 95 #[.pointer (some ⟨p, 0, none⟩)] w fun e w' => SaysB e (MissOk b) ∧ Below w.heap.size w w' := by
  have HO := Lib.hid ho
  have HR := Lib.hid hr
  have HRB := Lib.hid hrb
  have HRP := Lib.hid hrp
  have hsum := ho.sum
  have hlb := ho.black.1
  have q6 := ho.c6
  obtain ⟨Ab, hAb⟩ : ∃ x, L.Ab = x := ⟨_, rfl⟩
  rw [hAb] at q6
  have HAB := Lib.hid hAb
  clear ho hr hrb hrp hAb
  go_enter Tryz.func95, Tryz.ntmps95
  go_wp2
  clear q6
  go_loopw [15] (fun s15 wr => ∃ k : Nat, k ≤ L.nb ∧ s15 = .int .i64 k ∧ (∀ y kk, y ∈ b.black.take k → KidOf b.cells y kk → kk ∈ b.grey ∨ kk ∈ b.black) ∧ Below w.heap.size w wr) (fun s15 _ => L.nb - (intOf s15).toNat)
  case atStart => exact ⟨0, Nat.zero_le _, rfl, (fun y kk hy _ => by simp at hy), Below.refl _ _⟩
  case round =>
    obtain ⟨k, hk, rfl, h1, hbel⟩ := hrel
    have H1 := Lib.hid h1
    have BR := Lib.hid hbel
    have hs := hbel.size
    clear h1
    by_cases hlt : k < L.nb
    · have OR := Lib.hid (HO.out.below hbel)
      obtain ⟨g, off, hge, hgB, hcell⟩ := OR.out.black.2 (by omega)
      rw [HAB.out] at hge
      subst hge
      have cm : wr.cell? ⟨g, off + k, none⟩ = some (.int .i64 (b.black[k]?.getD 0)) := hcell _ hlt
      have htk : b.black.take (k + 1) = b.black.take k ++ [b.black[k]?.getD 0] := by
        rw [List.take_succ_eq_append_getElem (by omega), List.getElem?_eq_getElem (by omega)]; rfl
      have hmem := getD_mem b.black k (by omega)
      clear hcell hbel
      obtain ⟨y, hy⟩ : ∃ y, b.black[k]?.getD 0 = y := ⟨_, rfl⟩
      rw [hy] at cm htk hmem
      have TK := Lib.hid htk
      have HM := Lib.hid hmem
      clear hy htk hmem
      go_wp2_with fail
      refine (atC_any p lo L.R ps b.cells y wr HR.out OR.out.box rfl rfl OR.out.nodes).mono ?_
      rintro e w4 ⟨x, r, rfl, hit, hkx, b4⟩
      have h16 := hit_kids hit
      have HIT := Lib.hid hit
      have KX := Lib.hid (hkx.below b4)
      have hkl := hkx.1
      have B4 := Lib.hid (BR.out.trans (b4.mono hs))
      have s4 := b4.size
      clear hit hkx b4 cm
      obtain ⟨Ap, np, cp, Ak, nk, ck, nd⟩ := x
      simp only at h16 HIT KX hkl
      unfold NV.v
      obtain ⟨w5, hw5⟩ : ∃ w5, w4.alloc (.cells #[.int .i64 nd.kind, .slice Ap np cp, .slice Ak nk ck, .string nd.val] 134) = w5 := ⟨_, rfl⟩
      have b5 : Below w4.heap.size w4 w5 := hw5 ▸ (Below.refl _ _).alloc (Nat.le_refl _) _
      have X5 := Lib.hid (show Box w5 w4.heap.size 134 #[.int .i64 nd.kind, .slice Ap np cp, .slice Ak nk ck, .string nd.val] from hw5 ▸ heap_alloc_new _ _)
      have s5 : w5.heap.size = w4.heap.size + 1 := hw5 ▸ by simp
      have B5 := Lib.hid (B4.out.trans (b5.mono (by omega)))
      have K5 := Lib.hid (KX.out.below (b5.mono s4))
      have q52 := X5.out.cell 2
      simp at q52
      clear b5
      go_wp2
      clear hw5 q52
      go_loopw [30] (fun s30 wq => ∃ j : Nat, j ≤ nk ∧ s30 = .int .i64 j ∧ (∀ i, i < j → (nd.kids[i]?.getD (0, 0)).2 ∈ b.grey ∨ (nd.kids[i]?.getD (0, 0)).2 ∈ b.black) ∧ Below w5.heap.size w5 wq) (fun s30 _ => nk - (intOf s30).toNat)
      case atStart => exact ⟨0, Nat.zero_le _, rfl, (fun i hi => absurd hi (Nat.not_lt_zero _)), Below.refl _ _⟩
      case round =>
        obtain ⟨j, hj, rfl, hg1, hbq⟩ := hrel
        have G1 := Lib.hid hg1
        have BQ := Lib.hid (B5.out.trans (hbq.mono (by omega)))
        have B5Q := Lib.hid hbq
        have hsq := hbq.size
        clear hg1
        by_cases hlj : j < nk
        · obtain ⟨bk, koff, rfl, hbk, hk0, hk1⟩ := (K5.out.below (hbq.mono (by omega))).at_ hlj
          obtain ⟨y1, hy1⟩ : ∃ y1, (nd.kids[j]?.getD (0, 0)).1 = y1 := ⟨_, rfl⟩
          obtain ⟨z1, hz1⟩ : ∃ z1, (nd.kids[j]?.getD (0, 0)).2 = z1 := ⟨_, rfl⟩
          rw [hy1] at hk0
          rw [hz1] at hk1
          have Z1 := Lib.hid hz1
          clear hy1 hz1 hbq
          obtain ⟨w6, hw6⟩ : ∃ w6, wr.alloc (.cells #[.int .i64 y1, .int .i64 z1] 140) = w6 := ⟨_, rfl⟩
          have b6 : Below wr.heap.size wr w6 := hw6 ▸ (Below.refl _ _).alloc (Nat.le_refl _) _
          have C6 := Lib.hid (show Box w6 wr.heap.size 140 #[.int .i64 y1, .int .i64 z1] from hw6 ▸ heap_alloc_new _ _)
          have s6 : w6.heap.size = wr.heap.size + 1 := hw6 ▸ by simp
          have B6 := Lib.hid (BQ.out.trans (b6.mono (by omega)))
          have B56 := Lib.hid (B5Q.out.trans (b6.mono (by omega)))
          have O6 := Lib.hid (HO.out.below B6.out)
          clear b6
          have hcz : ∀ W, Below w6.heap.size w6 W → W.cell? ⟨wr.heap.size, 1, none⟩ = some (.int .i64 z1) := fun W h => by simpa using (C6.out.below h (by omega)).cell 1
          have hWH : ∀ W, Below w6.heap.size w6 W → Calls Tryz.prog 97 #[.pointer (some ⟨p, 4, none⟩), .int .i64 z1] W fun e w' => ∃ r, e = .returned (.bool r) ∧ (r = true ↔ (z1 ∉ b.grey ∧ z1 ∉ b.black)) ∧ Below w6.heap.size w6 w' :=
            fun W h => (isWhite_any p lo L ps b z1 W (O6.out.below h) HRB.out).mono (fun e w' hh => ⟨_, hh.1, decide_eq_true_iff, by obtain ⟨q, e⟩ := hh.2; rw [e]; exact below_drewN h q⟩)
          have WH := Lib.hid hWH
          have S6 := Lib.hid s6
          clear hWH s6
          go_wp2
          clear hw6 hk0 hk1
          go_region_held3 (fun W => Below w6.heap.size w6 W) (first | exact (Below.refl _ _).drew | assumption)
            (first | (go_at_call 97
                      refine (WH.out _ (by assumption)).mono ?_
                      rintro e w7 ⟨r7, rfl, hr7, h7⟩))
          all_goals
            have s6 := S6.out
            have B7 := Lib.hid (B6.out.trans (h7.mono (by omega)))
            have B57 := Lib.hid (B56.out.trans (h7.mono (by omega)))
            have R7 := Lib.hid hr7
            clear hr7 hcz
            cases r7 with
            | true =>
              have hz := R7.out.1 (by trivial)
              have ZW := Lib.hid hz
              clear hz
              go_wp2
              go_ret
              refine ⟨SaysB.f (fun h => ?_), B7.out⟩
              have h2 := h.1 y z1 HM.out (by have := kid_of HIT.out HR.out (i := j) (by omega); rwa [Z1.out] at this)
              exact h2.elim ZW.out.1 ZW.out.2
            | false =>
              have hz : ¬ (z1 ∉ b.grey ∧ z1 ∉ b.black) := fun h => absurd (R7.out.2 h) (by simp)
              have ZW := Lib.hid hz
              clear hz
              go_wp2
              go_roundw
              case measure => simp [intOf]; omega
              case rel =>
                refine ⟨j + 1, by omega, by go_num, fun i hi => ?_, B57.out⟩
                by_cases e : i = j
                · subst e
                  rw [Z1.out]
                  by_cases h1 : z1 ∈ b.grey
                  · exact .inl h1
                  · by_cases h2 : z1 ∈ b.black
                    · exact .inr h2
                    · exact absurd ⟨h1, h2⟩ ZW.out
                · exact G1.out i (by omega)
        · obtain rfl : j = nk := by omega
          have hend : ∀ y' kk, y' ∈ b.black.take (k + 1) → KidOf b.cells y' kk → kk ∈ b.grey ∨ kk ∈ b.black := by
            intro y' kk hy hkk
            rw [TK.out] at hy
            rcases List.mem_append.1 hy with hy | hy
            · exact H1.out y' kk hy hkk
            · simp at hy
              subst hy
              obtain ⟨i, hi, e⟩ := kid_cases HIT.out hkk
              rw [← e]
              exact G1.out i (by omega)
          have HE := Lib.hid hend
          clear hend hbq
          go_wp2
          go_roundw
          case measure => simp [intOf]; omega
          case rel => exact ⟨k + 1, by omega, by go_num, HE.out, BQ.out⟩
    · obtain rfl : k = L.nb := by omega
      have h2 := H1.out
      rw [List.take_of_length_le (by omega)] at h2
      have H2 := Lib.hid h2
      have OR := Lib.hid (HO.out.below hbel)
      have hKP : ∀ W, Below wr.heap.size wr W → Calls Tryz.prog 54 #[.pointer (some ⟨p, 0, none⟩)] W fun e w' => ∃ A n c, e = .returned (.slice A n c) ∧ OwnI w' W.heap.size A n c (keptOf b) ∧ n ≤ 7 ∧ Below W.heap.size W w' :=
        fun W h => kept_any p lo L ps b W (OR.out.below h) HRP.out h6
      have hAW : ∀ W, Below wr.heap.size wr W → ∀ A n c, n ≤ 7 → Ints W W.heap.size A n (keptOf b) → Calls Tryz.prog 96 #[.slice A n c, .func (.func 97) #[.pointer (some ⟨p, 4, none⟩)] #[]] W
          fun e w' => ∃ r, e = .returned (.bool r) ∧ (r = false ↔ ∀ x, x ∈ keptOf b → x ∈ b.grey ∨ x ∈ b.black) ∧ Below W.heap.size W w' :=
        fun W h A n c hn hi => anyWhite_any p lo L ps b A n c (keptOf b) W.heap.size W (OR.out.below h) HRB.out (by omega) hi
      have KP := Lib.hid hKP
      have AW := Lib.hid hAW
      have hmf : ∀ (fn : Fn) (first cap : Array Value) (w : World), (Instr.makeFunc fn first cap).run Tryz.prog w = .ok (.func fn first cap) w := fun _ _ _ _ => rfl
      clear h2 hKP hAW hbel
      go_wp2
      go_region_held3 (fun W => Below wr.heap.size wr W) (first | exact (Below.refl _ _).drew | assumption)
        (first | (go_at_call 54
                  refine (KP.out _ (by assumption)).mono ?_
                  rintro e w5 ⟨A5, n5, c5, rfl, o5, hn5, b5⟩
                  have h5 := (by assumption : Below wr.heap.size wr _).trans (b5.mono (by assumption : Below wr.heap.size wr _).size))
               | (go_at_call 96
                  refine (AW.out _ (by assumption) _ _ _ hn5 o5.ints).mono ?_
                  rintro e w6 ⟨r6, rfl, hb6, b6⟩
                  have h6 := (by assumption : Below wr.heap.size wr _).trans (b6.mono (by assumption : Below wr.heap.size wr _).size)))
      all_goals
        have BB := Lib.hid hb6
        have B6 := Lib.hid (BR.out.trans (h6.mono hs))
        clear hb6 h6 b6 b5 o5 h5 hmf
        cases r6 with
        | false =>
          go_wp2
          go_ret
          exact ⟨SaysB.t ⟨H2.out, BB.out.1 (by trivial)⟩, B6.out⟩
        | true =>
          go_wp2
          go_ret
          exact ⟨SaysB.f (fun h => absurd (BB.out.2 h.2) (by simp)), B6.out⟩
end Go.Proofs.YtdhnhgppapkikaaGreatDoor

-- RightQ: The program asks whether an open base is right: its right.
namespace Go.Proofs.YtdhnhgppapkikaaGreatDoor
set_option maxRecDepth 100000
set_option linter.unusedVariables false
set_option linter.unusedSimpArgs false
open Go.RowKit

theorem good_mark {b : MBase} (hc : PreOk b) (h1 : b.phase = 1) (hb : Rises b.black) (hbn : Named b.cells b.black) : BaseGood b ↔ (GreyOk b ∧ MissOk b ∧ b.cursor = 0) := by
  have hm := mark_iff hc.cells hb hbn
  constructor
  · intro h
    rcases h.2 with ⟨e, _⟩ | ⟨_, h2⟩ | ⟨e, _⟩
    · omega
    · exact hm.1 h2
    · omega
  · intro h
    exact ⟨hc, .inr (.inl ⟨h1, hm.2 h⟩)⟩
theorem good_sweep {b : MBase} (hc : PreOk b) (h2 : b.phase = 2) (hbn : Named b.cells b.black) (l : List Int) (hl : ∀ x, x ∈ l ↔ Reached b.cells (keptOf b) x) : BaseGood b ↔ (b.grey = [] ∧ (∀ x, x ∈ l → x ∈ b.black) ∧ 0 ≤ b.cursor) := by
  have hm := sweep_iff hbn l hl
  constructor
  · intro h
    rcases h.2 with ⟨e, _⟩ | ⟨e, _⟩ | ⟨_, h2⟩
    · omega
    · omega
    · exact hm.1 h2
  · intro h
    exact ⟨hc, .inr (.inr ⟨h2, hm.2 h⟩)⟩
theorem good_idle {b : MBase} (hc : PreOk b) (h0 : b.phase = 0) : BaseGood b ↔ (b.grey = [] ∧ b.black = [] ∧ b.cursor = 0) := by
  constructor
  · intro h
    rcases h.2 with ⟨_, h2⟩ | ⟨e, _⟩ | ⟨e, _⟩
    · exact h2
    · omega
    · omega
  · intro h
    exact ⟨hc, .inl ⟨h0, h⟩⟩
theorem good_else {b : MBase} (h0 : b.phase ≠ 0) (h1 : b.phase ≠ 1) (h2 : b.phase ≠ 2) : ¬ BaseGood b := fun h => by
  rcases h.2 with ⟨e, _⟩ | ⟨e, _⟩ | ⟨e, _⟩ <;> omega
set_option maxHeartbeats 4000000 in
theorem right_any (p lo : Nat) (L : OLay) (ps : List (Int × NV)) (b : MBase) (w : World) (ho : OpenIs w p lo L ps b) (hs : Sound b.cells) :
    Calls Tryz.prog 64 #[.pointer (some ⟨p, 0, none⟩)] w fun e w' => SaysB e (BaseGood b) ∧ Below w.heap.size w w' := by
  have HO := Lib.hid ho
  have HS := Lib.hid hs
  have hsum := ho.sum
  have hln0 := ho.nodes.len
  have HLN := Lib.hid hln0
  have hlp := ho.pins.1
  have hlg := ho.grey.1
  have hlb := ho.black.1
  have q0 := ho.c0
  have q3 := ho.c3
  have q6 := ho.c6
  clear ho hs hln0
  go_enter Tryz.func64, Tryz.ntmps64
  by_cases h80 : 80 < ps.length
  · have hd : decide ((80 : Int) < (ps.length : Int)) = true := decide_eq_true (by omega)
    go_wp2
    go_ret
    exact ⟨SaysB.f (fun h => by have := h.1.cells.1; have := HLN.out; omega), Below.refl _ _⟩
  have hd : decide ((80 : Int) < (ps.length : Int)) = false := decide_eq_false (by omega)
  by_cases h6 : 6 < L.np
  · have hd2 : decide ((6 : Int) < (L.np : Int)) = true := decide_eq_true (by omega)
    go_wp2
    go_ret
    exact ⟨SaysB.f (fun h => by have := h.1.few; omega), Below.refl _ _⟩
  have hd2 : decide ((6 : Int) < (L.np : Int)) = false := decide_eq_false (by omega)
  have HC := Lib.hid (show Right b.cells from ⟨by have := HLN.out; omega, HS.out⟩)
  go_wp2_with fail
  refine (rises_any L.Ap L.np L.cp b.pins w.heap.size w (by omega) HO.out.pins).mono ?_
  rintro e w2 ⟨⟨r, rfl, hr⟩, q, hq⟩
  have b2 : Below w.heap.size w w2 := hq ▸ drewN_below _ _
  have RP := Lib.hid hr
  have B2 := Lib.hid b2
  have O2 := Lib.hid (HO.out.below b2)
  have s2 := b2.size
  clear hr hq b2 q0 q3 q6
  cases r with
  | false =>
    go_wp2
    go_ret
    exact ⟨SaysB.f (fun h => absurd (RP.out.2 (good_pins h)) (by simp)), B2.out⟩
  | true =>
  replace RP := Lib.hid (RP.out.1 (by trivial))
  have q6 := O2.out.c6
  go_wp2_with fail
  refine (rises_any L.Ab L.nb L.cb b.black w2.heap.size w2 (by omega) O2.out.black).mono ?_
  rintro e w3 ⟨⟨r, rfl, hr⟩, q, hq⟩
  have b3 : Below w2.heap.size w2 w3 := hq ▸ drewN_below _ _
  have RB := Lib.hid hr
  have B3 := Lib.hid (B2.out.trans (b3.mono s2))
  have O3 := Lib.hid (O2.out.below b3)
  have s3 := b3.size
  clear hr hq b3 q6
  cases r with
  | false =>
    go_wp2
    go_ret
    exact ⟨SaysB.f (fun h => absurd (RB.out.2 (good_black h).1) (by simp)), B3.out⟩
  | true =>
  replace RB := Lib.hid (RB.out.1 (by trivial))
  have q6 := O3.out.c6
  go_wp2_with fail
  refine (hasAll_any p lo L ps b L.Ab L.nb L.cb b.black w3.heap.size w3 O3.out HC.out (by omega) (Nat.le_refl _) O3.out.black).mono ?_
  rintro e w4 ⟨⟨r, rfl, hr⟩, b4⟩
  have NB := Lib.hid hr
  have B4 := Lib.hid (B3.out.trans (b4.mono (by omega)))
  have O4 := Lib.hid (O3.out.below b4)
  have s4 := b4.size
  clear hr b4 q6
  cases r with
  | false =>
    go_wp2
    go_ret
    exact ⟨SaysB.f (fun h => absurd (NB.out.2 (good_black h).2) (by simp)), B4.out⟩
  | true =>
  replace NB := Lib.hid (NB.out.1 (by trivial))
  have hc0 : ∀ W, Below w4.heap.size w4 W → W.cell? ⟨p, 0, none⟩ = some (.slice L.R.Ak ps.length L.R.ck) := fun W h => (O4.out.below h).c0
  have hc1 : ∀ W, Below w4.heap.size w4 W → W.cell? ⟨p, 1, none⟩ = some (.slice L.R.Av ps.length L.R.cv) := fun W h => (O4.out.below h).c1
  have hKP : ∀ W, Below w4.heap.size w4 W → Calls Tryz.prog 54 #[.pointer (some ⟨p, 0, none⟩)] W fun e w' => ∃ A n c, e = .returned (.slice A n c) ∧ OwnI w' W.heap.size A n c (keptOf b) ∧ n ≤ 7 ∧ Below W.heap.size W w' :=
    fun W h => kept_any p lo L ps b W (O4.out.below h) RP.out.1 (by omega)
  have hRE : ∀ W, Below w4.heap.size w4 W → ∀ A n c, n ≤ 7 → n ≤ c → (A = none → c = 0) → Ints W W.heap.size A n (keptOf b) → Calls Tryz.prog 93 #[.agg #[.slice L.R.Ak ps.length L.R.ck, .slice L.R.Av ps.length L.R.cv], .slice A n c] W
      fun e w' => ∃ A n c l r, e = .returned (.tuple #[.slice A n c, .bool r]) ∧ Going b.cells (keptOf b) l [] r ∧ OwnI w' W.heap.size A n c l ∧ Below W.heap.size W w' :=
    fun W h A n c hn hc hz hi => reachedFrom_any lo L.R ps b.cells A n c (keptOf b) W.heap.size W (O4.out.below h).nodes HC.out (by omega) hc hz (Nat.le_refl _) hi
  have KP := Lib.hid hKP
  have RE := Lib.hid hRE
  clear hKP hRE
  go_wp2
  go_region_held3 (fun W => Below w4.heap.size w4 W) (first | exact (Below.refl _ _).drew | assumption)
    (first | (go_at_call 54
              refine (KP.out _ (by assumption)).mono ?_
              rintro e w5 ⟨A5, n5, c5, rfl, o5, hn5, b5⟩
              have h5 := (by assumption : Below w4.heap.size w4 _).trans (b5.mono (by assumption : Below w4.heap.size w4 _).size))
           | (go_at_call 93
              refine (RE.out _ (by assumption) _ _ _ hn5 o5.cap_ o5.nilc o5.ints).mono ?_
              rintro e w6 ⟨g6, n6, c6, l6, r6, rfl, hgo, o6, b6⟩
              have h6 := (by assumption : Below w4.heap.size w4 _).trans (b6.mono (by assumption : Below w4.heap.size w4 _).size)))
  have WH := Lib.hid hgo.whole_
  have DO := Lib.hid hgo.done
  have hl6 := hgo.len
  have hkl := keptOf_len b
  have hn6 := o6.len
  have L6 := Lib.hid o6
  have B6 := Lib.hid (B4.out.trans (h6.mono (by omega)))
  have O6 := Lib.hid (O4.out.below h6)
  have s6 : w4.heap.size ≤ w6.heap.size := h6.size
  clear hgo h6 h5 b5 b6 o5 o6 hc0 hc1
  cases r6 with
  | false =>
    go_wp2
    go_ret
    exact ⟨SaysB.f (fun h => absurd (WH.out.2 (good_whole h)) (by simp)), B6.out⟩
  | true =>
  have PRE := Lib.hid (pre_ok HC.out (by omega) RP.out RB.out (WH.out.1 (by trivial)))
  clear WH
  have q4 := O6.out.c4
  have q5 := O6.out.c5
  have q6 := O6.out.c6
  have q7 := O6.out.c7
  by_cases h0 : b.phase = 0
  · have he0 : (b.phase == 0) = true := by simp [h0]
    have GI := Lib.hid (good_idle PRE.out h0)
    clear h0
    by_cases hg : L.ng = 0
    · have hgb : ((L.ng : Int) == 0) = true := by simp [hg]
      have HG := Lib.hid (show b.grey = [] from List.eq_nil_of_length_eq_zero (by omega))
      clear hg
      by_cases hb : L.nb = 0
      · have hbb : ((L.nb : Int) == 0) = true := by simp [hb]
        have HB := Lib.hid (show b.black = [] from List.eq_nil_of_length_eq_zero (by omega))
        clear hb
        by_cases hc : b.cursor = 0
        · have hcb : (b.cursor == 0) = true := by simp [hc]
          have HCU := Lib.hid hc
          clear hc
          go_wp2
          go_ret
          exact ⟨SaysB.t (GI.out.2 ⟨HG.out, HB.out, HCU.out⟩), B6.out⟩
        · have hcb : (b.cursor == 0) = false := by simpa using hc
          have HCU := Lib.hid hc
          clear hc
          go_wp2
          go_ret
          exact ⟨SaysB.f (fun h => HCU.out (GI.out.1 h).2.2), B6.out⟩
      · have hbb : ((L.nb : Int) == 0) = false := by simpa using hb
        have HB := Lib.hid hb
        clear hb
        go_wp2
        go_ret
        exact ⟨SaysB.f (fun h => HB.out (by have := (GI.out.1 h).2.1; rw [← hlb, this]; rfl)), B6.out⟩
    · have hgb : ((L.ng : Int) == 0) = false := by simpa using hg
      have HG := Lib.hid hg
      clear hg
      go_wp2
      go_ret
      exact ⟨SaysB.f (fun h => HG.out (by have := (GI.out.1 h).1; rw [← hlg, this]; rfl)), B6.out⟩
  have he0 : (b.phase == 0) = false := by simpa using h0
  by_cases h1 : b.phase = 1
  · have he1 : (b.phase == 1) = true := by simp [h1]
    have GM := Lib.hid (good_mark PRE.out h1 RB.out NB.out)
    clear h1 h0
    go_wp2_with fail
    refine (greyRight_any p lo L ps b w6 O6.out HC.out RB.out.1).mono ?_
    rintro e w7 ⟨⟨r, rfl, hr⟩, b7⟩
    have GR := Lib.hid hr
    have B7 := Lib.hid (B6.out.trans (b7.mono (by omega)))
    have O7 := Lib.hid (O6.out.below b7)
    have s7 := b7.size
    clear hr b7 q4 q5 q6 q7
    cases r with
    | false =>
      go_wp2
      go_ret
      exact ⟨SaysB.f (fun h => absurd (GR.out.2 (GM.out.1 h).1) (by simp)), B7.out⟩
    | true =>
    go_wp2_with fail
    refine (noneMissed_any p lo L ps b w7 O7.out HC.out RP.out.1 RB.out.1 (by omega)).mono ?_
    rintro e w8 ⟨⟨r, rfl, hr⟩, b8⟩
    have MR := Lib.hid hr
    have B8 := Lib.hid (B7.out.trans (b8.mono (by omega)))
    have O8 := Lib.hid (O7.out.below b8)
    clear hr b8
    cases r with
    | false =>
      go_wp2
      go_ret
      exact ⟨SaysB.f (fun h => absurd (MR.out.2 (GM.out.1 h).2.1) (by simp)), B8.out⟩
    | true =>
    have q7 := O8.out.c7
    by_cases hc : b.cursor = 0
    · have hcb : (b.cursor == 0) = true := by simp [hc]
      have HCU := Lib.hid hc
      clear hc
      go_wp2
      go_ret
      exact ⟨SaysB.t (GM.out.2 ⟨GR.out.1 (by trivial), MR.out.1 (by trivial), HCU.out⟩), B8.out⟩
    · have hcb : (b.cursor == 0) = false := by simpa using hc
      have HCU := Lib.hid hc
      clear hc
      go_wp2
      go_ret
      exact ⟨SaysB.f (fun h => HCU.out (GM.out.1 h).2.2), B8.out⟩
  have he1 : (b.phase == 1) = false := by simpa using h1
  by_cases h2 : b.phase = 2
  · have he2 : (b.phase == 2) = true := by simp [h2]
    have GS := Lib.hid (good_sweep PRE.out h2 NB.out l6 DO.out)
    clear h2 h1 h0
    by_cases hg : L.ng = 0
    · have hgb : ((L.ng : Int) == 0) = true := by simp [hg]
      have HG := Lib.hid (show b.grey = [] from List.eq_nil_of_length_eq_zero (by omega))
      clear hg
      have hmf : ∀ (fn : Fn) (first cap : Array Value) (w : World), (Instr.makeFunc fn first cap).run Tryz.prog w = .ok (.func fn first cap) w := fun _ _ _ _ => rfl
      go_wp2_with fail
      refine (anyWhite_any p lo L ps b g6 n6 c6 l6 w6.heap.size w6 O6.out RB.out.1 (by have := HLN.out; omega) L6.out.ints).mono ?_
      rintro e w7 ⟨r, rfl, hr, b7⟩
      have WR := Lib.hid hr
      have B7 := Lib.hid (B6.out.trans (b7.mono (by omega)))
      have O7 := Lib.hid (O6.out.below b7)
      have s7 := b7.size
      clear hr b7 q4 q5 q6 q7 hmf
      cases r with
      | true =>
        go_wp2
        go_ret
        exact ⟨SaysB.f (fun h => absurd (WR.out.2 (fun x hx => .inr ((GS.out.1 h).2.1 x hx))) (by simp)), B7.out⟩
      | false =>
      have q7 := O7.out.c7
      by_cases hc : 0 ≤ b.cursor
      · have hcb : decide (0 ≤ b.cursor) = true := decide_eq_true hc
        have HCU := Lib.hid hc
        clear hc
        go_wp2
        go_ret
        exact ⟨SaysB.t (GS.out.2 ⟨HG.out, (fun x hx => (WR.out.1 (by trivial) x hx).elim (fun h => by rw [HG.out] at h; cases h) id), HCU.out⟩), B7.out⟩
      · have hcb : decide (0 ≤ b.cursor) = false := decide_eq_false hc
        have HCU := Lib.hid hc
        clear hc
        go_wp2
        go_ret
        exact ⟨SaysB.f (fun h => by have h1 := (GS.out.1 h).2.2; have h2 := HCU.out; omega), B7.out⟩
    · have hgb : ((L.ng : Int) == 0) = false := by simpa using hg
      have HG := Lib.hid hg
      clear hg
      go_wp2
      go_ret
      exact ⟨SaysB.f (fun h => HG.out (by have := (GS.out.1 h).1; rw [← hlg, this]; rfl)), B6.out⟩
  have he2 : (b.phase == 2) = false := by simpa using h2
  have NG := Lib.hid (good_else h0 h1 h2)
  clear h0 h1 h2
  go_wp2
  go_ret
  exact ⟨SaysB.f NG.out, B6.out⟩
end Go.Proofs.YtdhnhgppapkikaaGreatDoor

-- OwnO: An open base of the call's own: which blocks it has. No statement of the program is proved here.
namespace Go.Proofs.YtdhnhgppapkikaaGreatDoor
set_option maxRecDepth 20000
set_option linter.unusedVariables false
set_option linter.unusedSimpArgs false
open Go.RowKit

/-- the blocks of the nodes. -/
def NBlk (R : SR) (ps : List (Int × NV)) (g : Nat) : Prop := R.at_ g ∨ ∃ y ∈ ps, NodeBlk y.2.v g
/-- the block of a row. -/
def RBlk (A : Option Addr) (n c g : Nat) : Prop := (Value.slice A n c).ownBlock = some g
/-- its lists are of the call's own, each in a block of its own. -/
structure OwnO (w : World) (lo : Nat) (L : OLay) (ps : List (Int × NV)) (b : MBase) : Prop where
  nodes : NodesIs w lo L.R ps b.cells
  pins : OwnI w lo L.Ap L.np L.cp b.pins
  grey : OwnI w lo L.Ag L.ng L.cg b.grey
  black : OwnI w lo L.Ab L.nb L.cb b.black
  pn : ∀ g, RBlk L.Ap L.np L.cp g → ¬ NBlk L.R ps g
  gn : ∀ g, RBlk L.Ag L.ng L.cg g → ¬ NBlk L.R ps g
  bn : ∀ g, RBlk L.Ab L.nb L.cb g → ¬ NBlk L.R ps g
  pg : ∀ g, RBlk L.Ap L.np L.cp g → ¬ RBlk L.Ag L.ng L.cg g
  pb : ∀ g, RBlk L.Ap L.np L.cp g → ¬ RBlk L.Ab L.nb L.cb g
  gb : ∀ g, RBlk L.Ag L.ng L.cg g → ¬ RBlk L.Ab L.nb L.cb g
  sum : L.np + L.ng + L.nb ≤ 1048576
/-- all its blocks. -/
def OLay.blk (L : OLay) (ps : List (Int × NV)) (g : Nat) : Prop := NBlk L.R ps g ∨ RBlk L.Ap L.np L.cp g ∨ RBlk L.Ag L.ng L.cg g ∨ RBlk L.Ab L.nb L.cb g
/-- its eight cells. -/
def OLay.cells (L : OLay) (n : Nat) (b : MBase) : Array Value := #[.slice L.R.Ak n L.R.ck, .slice L.R.Av n L.R.cv, .int .i64 b.head, .slice L.Ap L.np L.cp, .int .i64 b.phase, .slice L.Ag L.ng L.cg, .slice L.Ab L.nb L.cb, .int .i64 b.cursor]
section
variable {w w' : World} {p lo : Nat} {L : OLay} {ps : List (Int × NV)} {b : MBase}
theorem NodesIs.blk_lt {R : SR} {cs : List (Int × List Int)} (h : NodesIs w lo R ps cs) {g : Nat} (hg : NBlk R ps g) : lo ≤ g ∧ g < w.heap.size := by
  rcases hg with hg | ⟨y, hy, hg⟩
  · exact h.sl.lt g hg
  · exact (h.own y hy).blk hg
theorem OwnO.blk_lt (h : OwnO w lo L ps b) {g : Nat} (hg : L.blk ps g) : lo ≤ g ∧ g < w.heap.size := by
  rcases hg with hg | hg | hg | hg
  · exact h.nodes.blk_lt hg
  · exact h.pins.lt g hg
  · exact h.grey.lt g hg
  · exact h.black.lt g hg
theorem OwnO.touch {S : Nat → Prop} (h : OwnO w lo L ps b) (t : Touch S w w') (hn : ∀ g, L.blk ps g → ¬ S g) : OwnO w' lo L ps b :=
  ⟨h.nodes.touch t (fun g hg => hn g (.inl (.inl hg))) (fun y hy g hg => hn g (.inl (.inr ⟨y, hy, hg⟩))), h.pins.touch t (fun g hg => hn g (.inr (.inl hg))), h.grey.touch t (fun g hg => hn g (.inr (.inr (.inl hg)))), h.black.touch t (fun g hg => hn g (.inr (.inr (.inr hg)))),
    h.pn, h.gn, h.bn, h.pg, h.pb, h.gb, h.sum⟩
theorem OwnO.below (h : OwnO w lo L ps b) (hb : Below w.heap.size w w') : OwnO w' lo L ps b := h.touch (S := fun _ => False) (Touch.of_below hb) (fun _ _ h => h)
theorem OwnO.inn (h : OwnO w lo L ps b) (hx : Box w p 63 (L.cells ps.length b)) : OpenIs w p lo L ps b :=
  ⟨hx, h.nodes, h.pins.ints, h.grey.ints, h.black.ints, h.sum, h.pins.cap_, h.grey.cap_, h.grey.nilc⟩
end
theorem OwnI.lo {w : World} {lo lo' n c : Nat} {A : Option Addr} {xs : List Int} (h : OwnI w lo A n c xs) (hl : lo' ≤ lo) : OwnI w lo' A n c xs := h.base hl
/-- a box of 8 cells, written anew. -/
theorem touch8 (w : World) (g : Nat) (c0 c1 c2 c3 c4 c5 c6 c7 : Value) : Touch (fun k => k = g) w ((((((((w.setCell ⟨g, 0, none⟩ c0).setCell ⟨g, 1, none⟩ c1).setCell ⟨g, 2, none⟩ c2).setCell ⟨g, 3, none⟩ c3).setCell ⟨g, 4, none⟩ c4).setCell ⟨g, 5, none⟩ c5).setCell ⟨g, 6, none⟩ c6).setCell ⟨g, 7, none⟩ c7) := by
  have t : Touch (fun k => k = g) w (w.setCell ⟨g, 0, none⟩ c0) := touch_set w g 0 c0 rfl
  generalize w.setCell ⟨g, 0, none⟩ c0 = w0 at t ⊢
  have t : Touch (fun k => k = g) w (w0.setCell ⟨g, 1, none⟩ c1) := t.trans (touch_set w0 g 1 c1 rfl)
  generalize w0.setCell ⟨g, 1, none⟩ c1 = w1 at t ⊢
  have t : Touch (fun k => k = g) w (w1.setCell ⟨g, 2, none⟩ c2) := t.trans (touch_set w1 g 2 c2 rfl)
  generalize w1.setCell ⟨g, 2, none⟩ c2 = w2 at t ⊢
  have t : Touch (fun k => k = g) w (w2.setCell ⟨g, 3, none⟩ c3) := t.trans (touch_set w2 g 3 c3 rfl)
  generalize w2.setCell ⟨g, 3, none⟩ c3 = w3 at t ⊢
  have t : Touch (fun k => k = g) w (w3.setCell ⟨g, 4, none⟩ c4) := t.trans (touch_set w3 g 4 c4 rfl)
  generalize w3.setCell ⟨g, 4, none⟩ c4 = w4 at t ⊢
  have t : Touch (fun k => k = g) w (w4.setCell ⟨g, 5, none⟩ c5) := t.trans (touch_set w4 g 5 c5 rfl)
  generalize w4.setCell ⟨g, 5, none⟩ c5 = w5 at t ⊢
  have t : Touch (fun k => k = g) w (w5.setCell ⟨g, 6, none⟩ c6) := t.trans (touch_set w5 g 6 c6 rfl)
  generalize w5.setCell ⟨g, 6, none⟩ c6 = w6 at t ⊢
  have t : Touch (fun k => k = g) w (w6.setCell ⟨g, 7, none⟩ c7) := t.trans (touch_set w6 g 7 c7 rfl)
  generalize w6.setCell ⟨g, 7, none⟩ c7 = w7 at t ⊢
  exact t
theorem set8 {w : World} {g : Nat} {t : TypeId} {a0 a1 a2 a3 a4 a5 a6 a7 : Value} (h : Box w g t #[a0, a1, a2, a3, a4, a5, a6, a7]) (c0 c1 c2 c3 c4 c5 c6 c7 : Value) :
    Box ((((((((w.setCell ⟨g, 0, none⟩ c0).setCell ⟨g, 1, none⟩ c1).setCell ⟨g, 2, none⟩ c2).setCell ⟨g, 3, none⟩ c3).setCell ⟨g, 4, none⟩ c4).setCell ⟨g, 5, none⟩ c5).setCell ⟨g, 6, none⟩ c6).setCell ⟨g, 7, none⟩ c7) g t #[c0, c1, c2, c3, c4, c5, c6, c7] ∧ Touch (fun k => k = g) w ((((((((w.setCell ⟨g, 0, none⟩ c0).setCell ⟨g, 1, none⟩ c1).setCell ⟨g, 2, none⟩ c2).setCell ⟨g, 3, none⟩ c3).setCell ⟨g, 4, none⟩ c4).setCell ⟨g, 5, none⟩ c5).setCell ⟨g, 6, none⟩ c6).setCell ⟨g, 7, none⟩ c7) := by
  refine ⟨?_, touch8 w g c0 c1 c2 c3 c4 c5 c6 c7⟩
  have h : Box (w.setCell ⟨g, 0, none⟩ c0) g t #[c0, a1, a2, a3, a4, a5, a6, a7] := h.set_ 0 c0
  generalize w.setCell ⟨g, 0, none⟩ c0 = w0 at h ⊢
  have h : Box (w0.setCell ⟨g, 1, none⟩ c1) g t #[c0, c1, a2, a3, a4, a5, a6, a7] := h.set_ 1 c1
  generalize w0.setCell ⟨g, 1, none⟩ c1 = w1 at h ⊢
  have h : Box (w1.setCell ⟨g, 2, none⟩ c2) g t #[c0, c1, c2, a3, a4, a5, a6, a7] := h.set_ 2 c2
  generalize w1.setCell ⟨g, 2, none⟩ c2 = w2 at h ⊢
  have h : Box (w2.setCell ⟨g, 3, none⟩ c3) g t #[c0, c1, c2, c3, a4, a5, a6, a7] := h.set_ 3 c3
  generalize w2.setCell ⟨g, 3, none⟩ c3 = w3 at h ⊢
  have h : Box (w3.setCell ⟨g, 4, none⟩ c4) g t #[c0, c1, c2, c3, c4, a5, a6, a7] := h.set_ 4 c4
  generalize w3.setCell ⟨g, 4, none⟩ c4 = w4 at h ⊢
  have h : Box (w4.setCell ⟨g, 5, none⟩ c5) g t #[c0, c1, c2, c3, c4, c5, a6, a7] := h.set_ 5 c5
  generalize w4.setCell ⟨g, 5, none⟩ c5 = w5 at h ⊢
  have h : Box (w5.setCell ⟨g, 6, none⟩ c6) g t #[c0, c1, c2, c3, c4, c5, c6, a7] := h.set_ 6 c6
  generalize w5.setCell ⟨g, 6, none⟩ c6 = w6 at h ⊢
  have h : Box (w6.setCell ⟨g, 7, none⟩ c7) g t #[c0, c1, c2, c3, c4, c5, c6, c7] := h.set_ 7 c7
  generalize w6.setCell ⟨g, 7, none⟩ c7 = w7 at h ⊢
  exact h
/-- a box of 7 cells, written anew. -/
theorem touch7 (w : World) (g : Nat) (c0 c1 c2 c3 c4 c5 c6 : Value) : Touch (fun k => k = g) w (((((((w.setCell ⟨g, 0, none⟩ c0).setCell ⟨g, 1, none⟩ c1).setCell ⟨g, 2, none⟩ c2).setCell ⟨g, 3, none⟩ c3).setCell ⟨g, 4, none⟩ c4).setCell ⟨g, 5, none⟩ c5).setCell ⟨g, 6, none⟩ c6) := by
  have t : Touch (fun k => k = g) w (w.setCell ⟨g, 0, none⟩ c0) := touch_set w g 0 c0 rfl
  generalize w.setCell ⟨g, 0, none⟩ c0 = w0 at t ⊢
  have t : Touch (fun k => k = g) w (w0.setCell ⟨g, 1, none⟩ c1) := t.trans (touch_set w0 g 1 c1 rfl)
  generalize w0.setCell ⟨g, 1, none⟩ c1 = w1 at t ⊢
  have t : Touch (fun k => k = g) w (w1.setCell ⟨g, 2, none⟩ c2) := t.trans (touch_set w1 g 2 c2 rfl)
  generalize w1.setCell ⟨g, 2, none⟩ c2 = w2 at t ⊢
  have t : Touch (fun k => k = g) w (w2.setCell ⟨g, 3, none⟩ c3) := t.trans (touch_set w2 g 3 c3 rfl)
  generalize w2.setCell ⟨g, 3, none⟩ c3 = w3 at t ⊢
  have t : Touch (fun k => k = g) w (w3.setCell ⟨g, 4, none⟩ c4) := t.trans (touch_set w3 g 4 c4 rfl)
  generalize w3.setCell ⟨g, 4, none⟩ c4 = w4 at t ⊢
  have t : Touch (fun k => k = g) w (w4.setCell ⟨g, 5, none⟩ c5) := t.trans (touch_set w4 g 5 c5 rfl)
  generalize w4.setCell ⟨g, 5, none⟩ c5 = w5 at t ⊢
  have t : Touch (fun k => k = g) w (w5.setCell ⟨g, 6, none⟩ c6) := t.trans (touch_set w5 g 6 c6 rfl)
  generalize w5.setCell ⟨g, 6, none⟩ c6 = w6 at t ⊢
  exact t
theorem set7 {w : World} {g : Nat} {t : TypeId} {a0 a1 a2 a3 a4 a5 a6 : Value} (h : Box w g t #[a0, a1, a2, a3, a4, a5, a6]) (c0 c1 c2 c3 c4 c5 c6 : Value) :
    Box (((((((w.setCell ⟨g, 0, none⟩ c0).setCell ⟨g, 1, none⟩ c1).setCell ⟨g, 2, none⟩ c2).setCell ⟨g, 3, none⟩ c3).setCell ⟨g, 4, none⟩ c4).setCell ⟨g, 5, none⟩ c5).setCell ⟨g, 6, none⟩ c6) g t #[c0, c1, c2, c3, c4, c5, c6] ∧ Touch (fun k => k = g) w (((((((w.setCell ⟨g, 0, none⟩ c0).setCell ⟨g, 1, none⟩ c1).setCell ⟨g, 2, none⟩ c2).setCell ⟨g, 3, none⟩ c3).setCell ⟨g, 4, none⟩ c4).setCell ⟨g, 5, none⟩ c5).setCell ⟨g, 6, none⟩ c6) := by
  refine ⟨?_, touch7 w g c0 c1 c2 c3 c4 c5 c6⟩
  have h : Box (w.setCell ⟨g, 0, none⟩ c0) g t #[c0, a1, a2, a3, a4, a5, a6] := h.set_ 0 c0
  generalize w.setCell ⟨g, 0, none⟩ c0 = w0 at h ⊢
  have h : Box (w0.setCell ⟨g, 1, none⟩ c1) g t #[c0, c1, a2, a3, a4, a5, a6] := h.set_ 1 c1
  generalize w0.setCell ⟨g, 1, none⟩ c1 = w1 at h ⊢
  have h : Box (w1.setCell ⟨g, 2, none⟩ c2) g t #[c0, c1, c2, a3, a4, a5, a6] := h.set_ 2 c2
  generalize w1.setCell ⟨g, 2, none⟩ c2 = w2 at h ⊢
  have h : Box (w2.setCell ⟨g, 3, none⟩ c3) g t #[c0, c1, c2, c3, a4, a5, a6] := h.set_ 3 c3
  generalize w2.setCell ⟨g, 3, none⟩ c3 = w3 at h ⊢
  have h : Box (w3.setCell ⟨g, 4, none⟩ c4) g t #[c0, c1, c2, c3, c4, a5, a6] := h.set_ 4 c4
  generalize w3.setCell ⟨g, 4, none⟩ c4 = w4 at h ⊢
  have h : Box (w4.setCell ⟨g, 5, none⟩ c5) g t #[c0, c1, c2, c3, c4, c5, a6] := h.set_ 5 c5
  generalize w4.setCell ⟨g, 5, none⟩ c5 = w5 at h ⊢
  have h : Box (w5.setCell ⟨g, 6, none⟩ c6) g t #[c0, c1, c2, c3, c4, c5, c6] := h.set_ 6 c6
  generalize w5.setCell ⟨g, 6, none⟩ c6 = w6 at h ⊢
  exact h
theorem OwnO.not_box {w : World} {lo g : Nat} {L : OLay} {ps : List (Int × NV)} {b : MBase} {cs : Array Value} (h : OwnO w lo L ps b) (hb : Box w g 63 cs) : ¬ L.blk ps g := fun e => by
  rcases e with (e | ⟨y, hy, k, Ap, np, cp, Ak, nk, ck, s, ev, e⟩) | e | e | e
  · exact h.nodes.sl.not_at hb (by decide) (by decide) e
  · obtain ⟨Ap', np', cp', Ak', nk', ck', ev2, _, _, _, h4, h5, _⟩ := h.nodes.own y hy
    rw [ev] at ev2
    cases ev2
    rcases e with e | e
    · exact own_box_ne h4 hb (by decide) e
    · exact own_box_ne h5 hb (by decide) e
  · exact own_box_ne h.pins hb (by decide) e
  · exact own_box_ne h.grey hb (by decide) e
  · exact own_box_ne h.black hb (by decide) e
/-- a block that was made just ahead of a call stands behind it. -/
theorem block_after {W w' : World} {o : Obj} (b : Below (W.alloc o).heap.size (W.alloc o) w') : w'.heap[W.heap.size]? = some o := (b.block _ (by simp)).trans (heap_alloc_new W o)
theorem block_after_d {W w' : World} {o : Obj} (b : Below (W.alloc o).drew.heap.size (W.alloc o).drew w') : w'.heap[W.heap.size]? = some o := (b.block _ (show W.heap.size < (W.alloc o).heap.size by simp)).trans (heap_alloc_new W o)
/-- three rows, made one behind the other, behind the nodes. -/
theorem own3 {w w5 w6 w7 : World} {lo : Nat} {R : SR} {ps : List (Int × NV)} {b : MBase} {A5 A6 A7 : Option Addr} {n5 c5 n6 c6 n7 c7 s5 s6 s7 : Nat} (hn : NodesIs w lo R ps b.cells) (hlo : lo ≤ w.heap.size) (hs5 : w.heap.size ≤ s5) (hs6 : w5.heap.size ≤ s6) (hs7 : w6.heap.size ≤ s7)
    (b5 : Below w.heap.size w w5) (o5 : OwnI w5 s5 A5 n5 c5 b.pins) (b6 : Below w5.heap.size w5 w6) (o6 : OwnI w6 s6 A6 n6 c6 b.grey) (b7 : Below w6.heap.size w6 w7) (o7 : OwnI w7 s7 A7 n7 c7 b.black) (hsum : n5 + n6 + n7 ≤ 1048576) :
    OwnO w7 lo ⟨R, A5, n5, c5, A6, n6, c6, A7, n7, c7⟩ ps b := by
  have z5 := b5.size
  have z6 := b6.size
  have z7 := b7.size
  have l5 := fun g hg => o5.lt g hg
  have l6 := fun g hg => o6.lt g hg
  have l7 := fun g hg => o7.lt g hg
  have ln := fun g hg => hn.blk_lt (g := g) hg
  refine ⟨hn.below (b5.trans ((b6.trans (b7.mono z6)).mono z5)), (o5.lo (by omega)).below (b6.trans (b7.mono z6)), (o6.lo (by omega)).below b7, o7.lo (by omega), ?_, ?_, ?_, ?_, ?_, ?_, hsum⟩
  · intro g hg e; have := l5 g hg; have := ln g e; omega
  · intro g hg e; have := l6 g hg; have := ln g e; omega
  · intro g hg e; have := l7 g hg; have := ln g e; omega
  · intro g hg e; have := l5 g hg; have := l6 g e; omega
  · intro g hg e; have := l5 g hg; have := l7 g e; omega
  · intro g hg e; have := l6 g hg; have := l7 g e; omega
theorem below_set8 {a w : World} {B g : Nat} (h : Below B a w) (hB : B ≤ g) (hs : B ≤ w.heap.size) (c0 c1 c2 c3 c4 c5 c6 c7 : Value) :
    Below B a ((((((((w.setCell ⟨g, 0, none⟩ c0).setCell ⟨g, 1, none⟩ c1).setCell ⟨g, 2, none⟩ c2).setCell ⟨g, 3, none⟩ c3).setCell ⟨g, 4, none⟩ c4).setCell ⟨g, 5, none⟩ c5).setCell ⟨g, 6, none⟩ c6).setCell ⟨g, 7, none⟩ c7) :=
  h.trans ((touch8 w g c0 c1 c2 c3 c4 c5 c6 c7).below hs (fun k hk e => by omega))
end Go.Proofs.YtdhnhgppapkikaaGreatDoor

-- Opened: The program opens a base: its opened.
namespace Go.Proofs.YtdhnhgppapkikaaGreatDoor
set_option maxRecDepth 100000
set_option linter.unusedVariables false
set_option linter.unusedSimpArgs false
open Go.RowKit

theorem le_of_box {w : World} {g n : Nat} {t : TypeId} {cs : Array Value} (h : Box w g t cs) (hn : n ≤ g) : n ≤ g := hn
/-- what opened answers. -/
def OpenedIs (w : World) (b : MBase) (e : Ending) (w' : World) : Prop :=
  ∃ (L : OLay) (k : Nat) (b0 : MBase) (r : Bool), e = .returned (.tuple #[.agg (L.cells k b0), .bool r]) ∧ Below w.heap.size w w' ∧ ((r = true ∧ BaseGood b ∧ b0 = b ∧ ∃ ps lo, k = ps.length ∧ w.heap.size ≤ lo ∧ lo ≤ w'.heap.size ∧ OwnO w' lo L ps b) ∨ (r = false ∧ ¬ BaseGood b))
set_option maxHeartbeats 4000000 in
theorem opened_any (L : BLay) (b : MBase) (B : Nat) (w : World) (fit : BaseFit L b) (hB : B ≤ w.heap.size) (hb : BaseIn w B L b) :
    Calls Tryz.prog 32 #[L.v b] w (OpenedIs w b) := by
  have FIT := Lib.hid fit
  have HB0 := Lib.hid (hb.more hB)
  have hsum := fit.sum
  obtain ⟨w1, hw1⟩ : ∃ w1, (w.alloc (.cells #[.slice L.A L.n L.c, .int .i64 b.head, .slice L.Ap L.np L.cp, .int .i64 b.phase, .slice L.Ag L.ng L.cg, .slice L.Ab L.nb L.cb, .int .i64 b.cursor] 27)).alloc (.cells #[.slice none 0 0, .slice none 0 0, .int .i64 0, .slice none 0 0, .int .i64 0, .slice none 0 0, .slice none 0 0, .int .i64 0] 63) = w1 := ⟨_, rfl⟩
  have x1 : Box w1 w.heap.size 27 #[.slice L.A L.n L.c, .int .i64 b.head, .slice L.Ap L.np L.cp, .int .i64 b.phase, .slice L.Ag L.ng L.cg, .slice L.Ab L.nb L.cb, .int .i64 b.cursor] := hw1 ▸ heap2_0 _ _ _
  have r1 : Box w1 (w.heap.size + 1) 63 #[.slice none 0 0, .slice none 0 0, .int .i64 0, .slice none 0 0, .int .i64 0, .slice none 0 0, .slice none 0 0, .int .i64 0] := hw1 ▸ heap2_1 _ _ _
  have b1 : Below w.heap.size w w1 := hw1 ▸ below2 _ _ _
  have s1 : w1.heap.size = w.heap.size + 2 := hw1 ▸ size2 _ _ _
  have X1 := Lib.hid x1
  have R1 := Lib.hid r1
  have B1 := Lib.hid b1
  have HB := Lib.hid (HB0.out.below b1)
  have hcell : ∀ W, Below w1.heap.size w1 W → ∀ k, W.cell? ⟨w.heap.size, k, none⟩ = (#[.slice L.A L.n L.c, .int .i64 b.head, .slice L.Ap L.np L.cp, .int .i64 b.phase, .slice L.Ag L.ng L.cg, .slice L.Ab L.nb L.cb, .int .i64 b.cursor] : Array Value)[k]? := fun W hW k => (X1.out.below hW x1.lt).cell k
  have CE := Lib.hid hcell
  have q0 : w1.cell? ⟨w.heap.size, 0, none⟩ = some (.slice L.A L.n L.c) := by simpa using hcell w1 (Below.refl _ _) 0
  clear x1 r1 b1 HB0 hcell hb fit
  unfold BLay.v
  go_enter Tryz.func32, Tryz.ntmps32
  go_wp2_with fail
  refine (nodesOf_any L.A L.n L.c b.cells w.heap.size w1 (by omega) FIT.out.c FIT.out.z FIT.out.cell (by omega) HB.out.cells).mono ?_
  rintro e w2 ⟨R, ps, r, rfl, b2, hor⟩
  have s2 := b2.size
  have B2 := Lib.hid b2
  clear b2 q0 hw1
  rcases hor with ⟨rfl, hR, hnd⟩ | ⟨rfl, hno, hR0, hp0⟩
  · obtain ⟨w3, hw3⟩ : ∃ w3, w2.alloc (.cells #[.slice R.Ak ps.length R.ck, .slice R.Av ps.length R.cv] 59) = w3 := ⟨_, rfl⟩
    have b3 : Below w2.heap.size w2 w3 := hw3 ▸ (Below.refl _ _).alloc (Nat.le_refl _) _
    have N3 := Lib.hid (show Box w3 w2.heap.size 59 #[.slice R.Ak ps.length R.ck, .slice R.Av ps.length R.cv] from hw3 ▸ heap_alloc_new _ _)
    have s3 : w3.heap.size = w2.heap.size + 1 := hw3 ▸ by simp
    have B3 := Lib.hid (B2.out.trans (b3.mono s2))
    have D3 := Lib.hid (hnd.below b3)
    have RT := Lib.hid hR
    have HB3 := Lib.hid (HB.out.below (B3.out.mono (by omega)))
    have R3 := Lib.hid (R1.out.below B3.out (by omega))
    clear hnd hR b3
    unfold SR.kv SR.vv
    have hc0 : ∀ W, Below w3.heap.size w3 W → W.cell? ⟨w2.heap.size, 0, none⟩ = some (.slice R.Ak ps.length R.ck) := fun W h => by simpa using (N3.out.below h (by omega)).cell 0
    have hc1 : ∀ W, Below w3.heap.size w3 W → W.cell? ⟨w2.heap.size, 1, none⟩ = some (.slice R.Av ps.length R.cv) := fun W h => by simpa using (N3.out.below h (by omega)).cell 1
    have hx : ∀ k W, Below w3.heap.size w3 W → W.cell? ⟨w.heap.size, k, none⟩ = (#[.slice L.A L.n L.c, .int .i64 b.head, .slice L.Ap L.np L.cp, .int .i64 b.phase, .slice L.Ag L.ng L.cg, .slice L.Ab L.nb L.cb, .int .i64 b.cursor] : Array Value)[k]? := fun k W h => CE.out W (B3.out.trans (h.mono (by omega))) k
    have hx1 : ∀ W, Below w3.heap.size w3 W → W.cell? ⟨w.heap.size, 1, none⟩ = some (.int .i64 b.head) := fun W h => by simpa using hx 1 W h
    have hx2 : ∀ W, Below w3.heap.size w3 W → W.cell? ⟨w.heap.size, 2, none⟩ = some (.slice L.Ap L.np L.cp) := fun W h => by simpa using hx 2 W h
    have hx3 : ∀ W, Below w3.heap.size w3 W → W.cell? ⟨w.heap.size, 3, none⟩ = some (.int .i64 b.phase) := fun W h => by simpa using hx 3 W h
    have hx4 : ∀ W, Below w3.heap.size w3 W → W.cell? ⟨w.heap.size, 4, none⟩ = some (.slice L.Ag L.ng L.cg) := fun W h => by simpa using hx 4 W h
    have hx5 : ∀ W, Below w3.heap.size w3 W → W.cell? ⟨w.heap.size, 5, none⟩ = some (.slice L.Ab L.nb L.cb) := fun W h => by simpa using hx 5 W h
    have hx6 : ∀ W, Below w3.heap.size w3 W → W.cell? ⟨w.heap.size, 6, none⟩ = some (.int .i64 b.cursor) := fun W h => by simpa using hx 6 W h
    have hCP : ∀ W, Below w3.heap.size w3 W → Calls Tryz.prog 63 #[.slice L.Ap L.np L.cp] W fun e w' => ∃ A' n' c', e = .returned (.slice A' n' c') ∧ OwnI w' W.heap.size A' n' c' b.pins ∧ Below W.heap.size W w' :=
      fun W h => clone_any L.Ap L.np L.cp b.pins w.heap.size W (by omega) (by have := h.size; omega) (HB3.out.below (h.mono (by omega))).pins
    have hCG : ∀ W, Below w3.heap.size w3 W → Calls Tryz.prog 63 #[.slice L.Ag L.ng L.cg] W fun e w' => ∃ A' n' c', e = .returned (.slice A' n' c') ∧ OwnI w' W.heap.size A' n' c' b.grey ∧ Below W.heap.size W w' :=
      fun W h => clone_any L.Ag L.ng L.cg b.grey w.heap.size W (by omega) (by have := h.size; omega) (HB3.out.below (h.mono (by omega))).grey
    have hCB : ∀ W, Below w3.heap.size w3 W → Calls Tryz.prog 63 #[.slice L.Ab L.nb L.cb] W fun e w' => ∃ A' n' c', e = .returned (.slice A' n' c') ∧ OwnI w' W.heap.size A' n' c' b.black ∧ Below W.heap.size W w' :=
      fun W h => clone_any L.Ab L.nb L.cb b.black w.heap.size W (by omega) (by have := h.size; omega) (HB3.out.below (h.mono (by omega))).black
    have CP := Lib.hid hCP
    have CG := Lib.hid hCG
    have CB := Lib.hid hCB
    have S3 := Lib.hid s3
    clear hCP hCG hCB hx s3
    go_wp2
    clear hw3
    go_cut [6] (fun s6 wx => ∃ (q : Nat) (OL : OLay), s6 = .pointer (some ⟨q, 0, none⟩) ∧ w3.heap.size ≤ q ∧ Box wx q 63 (OL.cells ps.length b) ∧ OL.R = R ∧ OwnO wx w1.heap.size OL ps b ∧ (∀ g, OL.blk ps g → g ≠ q) ∧ Below w3.heap.size w3 wx)
    case first =>
      go_region_held3 (fun W => Below w3.heap.size w3 W) (first | with_reducible assumption | with_reducible exact (Below.refl _ _).drew | with_reducible exact (Below.refl _ _).drew.alloc (Nat.le_refl _) _ | with_reducible exact h7.alloc h7.size _ | with_reducible exact h6.alloc h6.size _ | with_reducible exact h5.alloc h5.size _ | with_reducible exact ((Below.refl _ _).alloc (Nat.le_refl _) _).drew | with_reducible exact below_set8 h7 (by first | exact Nat.le_refl _ | exact h5.size | exact h6.size) h7.size _ _ _ _ _ _ _ _ | (trace_state; fail))
        (first | (go_at_call 63
                  with_reducible refine (CP.out _ (by assumption)).mono ?_
                  rintro e w5 ⟨A5, n5, c5, rfl, o5, b5⟩
                  have h5 := (by assumption : Below w3.heap.size w3 _).trans (b5.mono (by assumption : Below w3.heap.size w3 _).size)
                  try (have Z := block_after_d b5))
               | (go_at_call 63
                  with_reducible refine (CG.out _ (by assumption)).mono ?_
                  rintro e w6 ⟨A6, n6, c6, rfl, o6, b6⟩
                  have h6 := (by assumption : Below w3.heap.size w3 _).trans (b6.mono (by assumption : Below w3.heap.size w3 _).size)
                  have k6 : Below w5.heap.size w5 w6 := by first | exact b6 | exact ((Below.refl _ _).alloc (Nat.le_refl _) _).trans (b6.mono (by simp))
                  try (have Z := block_after b6)
                  try (have Z := (b6.block _ (Array.getElem?_eq_some_iff.1 Z).1).trans Z))
               | (go_at_call 63
                  with_reducible refine (CB.out _ (by assumption)).mono ?_
                  rintro e w7 ⟨A7, n7, c7, rfl, o7, b7⟩
                  have h7 := (by assumption : Below w3.heap.size w3 _).trans (b7.mono (by assumption : Below w3.heap.size w3 _).size)
                  have k7 : Below w6.heap.size w6 w7 := by first | exact b7 | exact ((Below.refl _ _).alloc (Nat.le_refl _) _).trans (b7.mono (by simp))
                  try (have Z := block_after b7)
                  try (have Z := (b7.block _ (Array.getElem?_eq_some_iff.1 Z).1).trans Z)
                  try (have Z : Box w7 _ _ _ := Z
                       have z0 := Z.cell 0
                       have z1 := Z.cell 1
                       have z2 := Z.cell 2
                       have z3 := Z.cell 3
                       have z4 := Z.cell 4
                       have z5 := Z.cell 5
                       have z6 := Z.cell 6
                       have z7 := Z.cell 7
                       have zf := Z.free
                       simp at z0 z1 z2 z3 z4 z5 z6 z7)))
      focus
        have OW : OwnO w7 w1.heap.size ⟨R, A5, n5, c5, A6, n6, c6, A7, n7, c7⟩ ps b := own3 D3.out (by have := S3.out; omega) (by first | exact Nat.le_refl _ | simp) (by first | exact Nat.le_refl _ | simp) (by first | exact Nat.le_refl _ | simp) h5 o5 k6 o6 k7 o7
          (by have := o5.len; have := o6.len; have := o7.len; have := HB3.out.pins.1; have := HB3.out.grey.1; have := HB3.out.black.1; omega)
        have OW := Lib.hid OW
        have H7 := Lib.hid h7
        clear hc0 hc1 hx1 hx2 hx3 hx4 hx5 hx6 o5 o6 o7 k6 k7
        obtain ⟨w8, hw8⟩ : ∃ w8, w7.alloc (.cells #[.slice R.Ak ps.length R.ck, .slice R.Av ps.length R.cv, .int .i64 b.head, .slice A5 n5 c5, .int .i64 b.phase, .slice A6 n6 c6, .slice A7 n7 c7, .int .i64 b.cursor] 63) = w8 := ⟨_, rfl⟩
        have X8 := Lib.hid (show Box w8 w7.heap.size 63 (OLay.cells ⟨R, A5, n5, c5, A6, n6, c6, A7, n7, c7⟩ ps.length b) from hw8 ▸ heap_alloc_new _ _)
        have B8 := Lib.hid (show Below w7.heap.size w7 w8 from hw8 ▸ (Below.refl _ _).alloc (Nat.le_refl _) _)
        subst hw8
        clear h5 h6 h7 b5 b6 b7
        go_wp2
        go_meet
        case rel => exact ⟨w7.heap.size, ⟨R, A5, n5, c5, A6, n6, c6, A7, n7, c7⟩, rfl, H7.out.size, X8.out, rfl, OW.out.below B8.out, (fun g hg e => by have := (OW.out.blk_lt hg).2; omega), H7.out.trans (B8.out.mono H7.out.size)⟩
      all_goals
        have OW : OwnO w7 w1.heap.size ⟨R, A5, n5, c5, A6, n6, c6, A7, n7, c7⟩ ps b := own3 D3.out (by have := S3.out; omega) (by first | exact Nat.le_refl _ | simp) (by first | exact Nat.le_refl _ | simp) (by first | exact Nat.le_refl _ | simp) h5 o5 k6 o6 k7 o7
          (by have := o5.len; have := o6.len; have := o7.len; have := HB3.out.pins.1; have := HB3.out.grey.1; have := HB3.out.black.1; omega)
        have OW := Lib.hid OW
        have H7 := Lib.hid h7
        clear hc0 hc1 hx1 hx2 hx3 hx4 hx5 hx6 o5 o6 o7 k6 k7
        have Z8 := set8 Z (.slice R.Ak ps.length R.ck) (.slice R.Av ps.length R.cv) (.int .i64 b.head) (.slice A5 n5 c5) (.int .i64 b.phase) (.slice A6 n6 c6) (.slice A7 n7 c7) (.int .i64 b.cursor)
        have NZ := Lib.hid (OW.out.not_box Z)
        have Z8 := Lib.hid Z8
        have HZB := Lib.hid (le_of_box (n := w3.heap.size) Z (by first | exact Nat.le_refl _ | exact h5.size | exact h6.size))
        clear Z z0 z1 z2 z3 z4 z5 z6 z7 zf h5 h6 h7 b5 b6 b7
        go_wp2
        go_meet
        case rel => exact ⟨_, ⟨R, A5, n5, c5, A6, n6, c6, A7, n7, c7⟩, rfl, HZB.out, Z8.out.1, rfl, OW.out.touch Z8.out.2 (fun g hg e => NZ.out (e ▸ hg)), (fun g hg e => NZ.out (e ▸ hg)), H7.out.trans (Z8.out.2.below H7.out.size (fun k hk e => by have := HZB.out; omega))⟩
    case rest =>
      obtain ⟨q, OL, rfl, hq, hbx, hOR, how, hnq, hbel⟩ := hcut
      have OI := Lib.hid (how.inn hbx)
      have OW := Lib.hid how
      have HX := Lib.hid hbx
      have BC := Lib.hid (B3.out.trans (hbel.mono (by have := S3.out; omega)))
      have RC := Lib.hid (R3.out.below hbel (by have := S3.out; omega))
      have hsc := hbel.size
      have c0 := OI.out.c0
      have c1 := OI.out.c1
      have c2 := OI.out.c2
      have c3 := OI.out.c3
      have c4 := OI.out.c4
      have c5 := OI.out.c5
      have c6 := OI.out.c6
      have c7 := OI.out.c7
      have SOU := Lib.hid RT.out.2
      have HQ := Lib.hid hq
      have HSC := Lib.hid hsc
      clear hc0 hc1 hx1 hx2 hx3 hx4 hx5 hx6 hbx how hnq hbel hq hsc hOR
      go_wp2
      go_region_law (first
        | (go_simp
           refine (right_any q w1.heap.size OL ps b wc.drew (OI.out.below (Below.refl _ _).drew) SOU.out).mono ?_
           rintro e w6 ⟨⟨r, rfl, hr⟩, b6⟩
           have b6 : Below wc.heap.size wc w6 := (Below.refl _ _).drew.trans b6
           have O6 := OI.out.below b6
           have c0 := O6.c0
           have c1 := O6.c1
           have c2 := O6.c2
           have c3 := O6.c3
           have c4 := O6.c4
           have c5 := O6.c5
           have c6 := O6.c6
           have c7 := O6.c7
           have R6 := Lib.hid (RC.out.below b6 (by have := HSC.out; have := S3.out; omega))
           have r0 := R6.out.cell 0
           have r1 := R6.out.cell 1
           have r2 := R6.out.cell 2
           have r3 := R6.out.cell 3
           have r4 := R6.out.cell 4
           have r5 := R6.out.cell 5
           have r6 := R6.out.cell 6
           have r7 := R6.out.cell 7
           have rf := R6.out.free
           simp at r0 r1 r2 r3 r4 r5 r6 r7
           have GR := Lib.hid hr
           have B6 := Lib.hid b6
           clear b6 O6 hr))
      all_goals
        have Z8 := Lib.hid (set8 R6.out (.slice OL.R.Ak ps.length OL.R.ck) (.slice OL.R.Av ps.length OL.R.cv) (.int .i64 b.head) (.slice OL.Ap OL.np OL.cp) (.int .i64 b.phase) (.slice OL.Ag OL.ng OL.cg) (.slice OL.Ab OL.nb OL.cb) (.int .i64 b.cursor))
        clear c0 c1 c2 c3 c4 c5 c6 c7 r0 r1 r2 r3 r4 r5 r6 r7 rf
        go_wp2
        refine bodyPost_ret (v := .tuple #[.agg (OL.cells ps.length b), .bool r]) (results_box2 Tryz.results32 _ _ (w.heap.size + 1) _ _ _ _ rfl rfl Z8.out.1 Tryz.underlying63 rfl (by kernel_rfl)) rfl ?_
        have h1 := S3.out
        have h2 := HSC.out
        have h3 := B6.out.size
        have h4 := B1.out.size
        have BF : Below w.heap.size w _ := B1.out.trans (((BC.out.mono (by omega)).trans (B6.out.mono (by omega))).trans (Z8.out.2.below (show w.heap.size ≤ _ by omega) (fun k hk e => by omega)))
        have OF := (OW.out.below B6.out).touch Z8.out.2 (fun g hg e => by have := (OW.out.blk_lt hg).1; omega)
        refine ⟨OL, ps.length, b, r, rfl, BF, ?_⟩
        obtain ⟨⟨r', hr1, hr2⟩⟩ : Nonempty (∃ r', (Ending.returned (.bool r) : Ending) = .returned (.bool r') ∧ (r' = true ↔ BaseGood b)) := ⟨⟨r, rfl, GR.out⟩⟩
        cases hr1
        cases r with
        | true => exact .inl ⟨rfl, hr2.1 rfl, rfl, ps, w1.heap.size, rfl, h4, by have := Z8.out.2.size; omega, OF⟩
        | false => exact .inr ⟨rfl, fun h => absurd (hr2.2 h) (by simp)⟩
  · have NO := Lib.hid (fun h : BaseGood b => hno h.1.cells)
    have R2 := Lib.hid (R1.out.below B2.out (by omega))
    clear hno hR0 hp0
    unfold SR.kv SR.vv
    obtain ⟨w3, hw3⟩ : ∃ w3, w2.alloc (.cells #[.slice R.Ak ps.length R.ck, .slice R.Av ps.length R.cv] 59) = w3 := ⟨_, rfl⟩
    have b3 : Below w2.heap.size w2 w3 := hw3 ▸ (Below.refl _ _).alloc (Nat.le_refl _) _
    have s3 := b3.size
    have R3 := Lib.hid (R2.out.below b3 (by omega))
    have B3 := Lib.hid (B2.out.trans (b3.mono s2))
    have r0 := R3.out.cell 0
    have r1 := R3.out.cell 1
    have r2 := R3.out.cell 2
    have r3 := R3.out.cell 3
    have r4 := R3.out.cell 4
    have r5 := R3.out.cell 5
    have r6 := R3.out.cell 6
    have r7 := R3.out.cell 7
    have rf := R3.out.free
    simp at r0 r1 r2 r3 r4 r5 r6 r7
    have Z8 := Lib.hid (set8 R3.out (.slice none 0 0) (.slice none 0 0) (.int .i64 0) (.slice none 0 0) (.int .i64 0) (.slice none 0 0) (.slice none 0 0) (.int .i64 0))
    have HS := Lib.hid (show w.heap.size + 2 ≤ w3.heap.size by omega)
    clear b3 s3
    go_wp2
    clear hw3
    trace_state
    refine bodyPost_ret (v := .tuple #[.agg #[.slice none 0 0, .slice none 0 0, .int .i64 0, .slice none 0 0, .int .i64 0, .slice none 0 0, .slice none 0 0, .int .i64 0], .bool false]) (results_box2 Tryz.results32 _ _ (w.heap.size + 1) _ _ _ _ rfl rfl Z8.out.1 Tryz.underlying63 rfl (by kernel_rfl)) rfl ?_
    have h4 := B1.out.size
    have h5 := HS.out
    exact ⟨⟨SR0, none, 0, 0, none, 0, 0, none, 0, 0⟩, 0, ⟨[], 0, [], 0, [], [], 0⟩, false, rfl, B1.out.trans ((B3.out.mono (by omega)).trans (Z8.out.2.below (by omega) (fun k hk e => by omega))), .inr ⟨rfl, NO.out⟩⟩
end Go.Proofs.YtdhnhgppapkikaaGreatDoor

-- AsH: errors.As at a refusal, whole. After the guide's worked example of errors.As. No statement of the program is proved here.
namespace Go.Proofs.YtdhnhgppapkikaaGreatDoor
set_option maxRecDepth 20000
set_option linter.unusedVariables false
set_option linter.unusedSimpArgs false
open Go.RowKit Go.Extern.Stop Go.Stop Go.Extern

set_option maxHeartbeats 4000000 in
theorem as_hit (t : Nat) (x y u v : Value) (w : World) (hx : x.oneCell' = true) (hy : y.oneCell' = true) (hg : Listed w) (ht : w.heap[t]? = some (.cells #[u, v] 89)) :
    Calls Tryz.prog 55 #[.iface 89 (.agg #[x, y]), .iface 93 (.pointer (some ⟨t, 0, none⟩))] w fun ev w' => ev = .returned (.bool true) ∧ w' = ((((w.alloc (.cells #[.pointer (some ⟨t, 0, none⟩)] 93)).alloc (.cells #[.pointer (some ⟨1, 93, none⟩), .pointer (some ⟨w.heap.size, 0, none⟩), .int .u64 150] 123)).alloc (.cells #[.pointer (some ⟨1, 93, none⟩), .pointer (some ⟨w.heap.size, 0, none⟩), .int .u64 150] 123)).alloc (.cells #[x, y] 89)).setCells t 0 [x, y] := by
  have h6 := @run_callFunc_extern Tryz.prog 81 _ (fun args => ReflectliteValue.unpack (args.getD 0 (.tuple #[]))) Tryz.func81 (by kernel_rfl) (by kernel_rfl) (by kernel_rfl) (by kernel_rfl)
  have h7 := @run_callFunc_extern Tryz.prog 82 _ (ReflectliteValue.methodAny (ReflectliteValue.valueError "reflectlite.Value.Type" 0) (fun t _ _ _ => ReflectliteType.toType t)) Tryz.func82 (by kernel_rfl) (by kernel_rfl) (by kernel_rfl) (by kernel_rfl)
  have h8 := @run_callFunc_extern Tryz.prog 83 _ (ReflectliteValue.method (ReflectliteValue.valueError "reflectlite.Value.IsNil" 0) ReflectliteValue.isNil) Tryz.func83 (by kernel_rfl) (by kernel_rfl) (by kernel_rfl) (by kernel_rfl)
  have h27 := @run_callFunc_extern Tryz.prog 268 _ (ReflectliteType.abiMethod fun t => do pure (.int .u8 (← Rtype.kind t))) Tryz.func268 (by kernel_rfl) (by kernel_rfl) (by kernel_rfl) (by kernel_rfl)
  have h37 := @run_callFunc_extern Tryz.prog 279 _ (ReflectliteType.method ReflectliteType.elem) Tryz.func279 (by kernel_rfl) (by kernel_rfl) (by kernel_rfl) (by kernel_rfl)
  have h38 := @run_callFunc_extern Tryz.prog 280 _ (ReflectliteType.relation "Implements" ReflectliteType.implements_) Tryz.func280 (by kernel_rfl) (by kernel_rfl) (by kernel_rfl) (by kernel_rfl)
  have h10 := @run_callFunc_extern Tryz.prog 116 _ ReflectliteType.typeOf Tryz.func116 (by kernel_rfl) (by kernel_rfl) (by kernel_rfl) (by kernel_rfl)
  have h35 := @run_callFunc_extern Tryz.prog 277 _ (ReflectliteType.relation "AssignableTo" ReflectliteType.assignableTo) Tryz.func277 (by kernel_rfl) (by kernel_rfl) (by kernel_rfl) (by kernel_rfl)
  have h11 := @run_callFunc_extern Tryz.prog 117 _ (ReflectliteValue.method (ReflectliteValue.valueError "reflectlite.Value.Elem" 0) ReflectliteValue.elem) Tryz.func117 (by kernel_rfl) (by kernel_rfl) (by kernel_rfl) (by kernel_rfl)
  have h12 := @run_callFunc_extern Tryz.prog 118 _ ReflectliteValue.set Tryz.func118 (by kernel_rfl) (by kernel_rfl) (by kernel_rfl) (by kernel_rfl)
  have tO := as_typeOfR
  have mA := as_methodAssignableTo
  have aR := as_assignableR
  have vR := as_valueOfR
  have f6 := as_valueOfP
  have f7 := as_typeP
  have mK := as_methodKind
  have mE := as_methodElem
  have mI := as_methodImplements
  have kP := as_kindP
  have kR := as_kindR
  have eP := as_elemP
  have iR := as_implementsR
  have n8 := as_isNilP ⟨w.heap.size, 0, none⟩ ⟨t, 0, none⟩ ((w.alloc (.cells #[.pointer (some ⟨t, 0, none⟩)] 93)).alloc (.cells #[.pointer (some ⟨1, 93, none⟩), .pointer (some ⟨w.heap.size, 0, none⟩), .int .u64 150] 123)) (by simp)
  have hlt : 0 < w.heap.size := by
    rcases Nat.eq_zero_or_pos w.heap.size with h0 | h
    · simp [Listed, World.cell?, h0] at hg
    · exact h
  have hg2 : ((w.alloc (.cells #[.pointer (some ⟨t, 0, none⟩)] 93)).alloc (.cells #[.pointer (some ⟨1, 93, none⟩), .pointer (some ⟨w.heap.size, 0, none⟩), .int .u64 150] 123)).cell? ⟨0, 0, none⟩ = some (.iface 169 (.agg #[.pointer (some ⟨1, 50, none⟩)])) := by
    rw [World.cell?_alloc_lt _ _ ⟨0, 0, none⟩ (by simp), World.cell?_alloc_lt _ _ ⟨0, 0, none⟩ hlt]; exact hg
  have htl : t < w.heap.size := by
    rcases Nat.lt_or_ge t w.heap.size with h | h
    · exact h
    · simp [Array.getElem?_eq_none h] at ht
  have el := as_elemVP ⟨w.heap.size, 0, none⟩ ⟨t, 0, none⟩ (((w.alloc (.cells #[.pointer (some ⟨t, 0, none⟩)] 93)).alloc (.cells #[.pointer (some ⟨1, 93, none⟩), .pointer (some ⟨w.heap.size, 0, none⟩), .int .u64 150] 123)).alloc (.cells #[.pointer (some ⟨1, 93, none⟩), .pointer (some ⟨w.heap.size, 0, none⟩), .int .u64 150] 123)) (by rw [World.cell?_alloc_lt _ _ ⟨w.heap.size, 0, none⟩ (by simp; omega)]; simp)
  have st := as_setR t (w.heap.size + 1 + 1 + 1) x y ((((w.alloc (.cells #[.pointer (some ⟨t, 0, none⟩)] 93)).alloc (.cells #[.pointer (some ⟨1, 93, none⟩), .pointer (some ⟨w.heap.size, 0, none⟩), .int .u64 150] 123)).alloc (.cells #[.pointer (some ⟨1, 93, none⟩), .pointer (some ⟨w.heap.size, 0, none⟩), .int .u64 150] 123)).alloc (.cells #[x, y] 89))
    (by have h := heap_alloc_new (((w.alloc (.cells #[.pointer (some ⟨t, 0, none⟩)] 93)).alloc (.cells #[.pointer (some ⟨1, 93, none⟩), .pointer (some ⟨w.heap.size, 0, none⟩), .int .u64 150] 123)).alloc (.cells #[.pointer (some ⟨1, 93, none⟩), .pointer (some ⟨w.heap.size, 0, none⟩), .int .u64 150] 123)) (.cells #[x, y] 89)
        simpa using h)
    u v
    (by
      have b1 : Below w.heap.size w ((((w.alloc (.cells #[.pointer (some ⟨t, 0, none⟩)] 93)).alloc (.cells #[.pointer (some ⟨1, 93, none⟩), .pointer (some ⟨w.heap.size, 0, none⟩), .int .u64 150] 123)).alloc (.cells #[.pointer (some ⟨1, 93, none⟩), .pointer (some ⟨w.heap.size, 0, none⟩), .int .u64 150] 123)).alloc (.cells #[x, y] 89)) :=
        ((((Below.refl _ _).alloc (Nat.le_refl _) _).alloc (by simp) _).alloc (by simp; omega) _).alloc (by simp; omega) _
      exact (show Box w t _ _ from ht).below b1 htl)
    hx hy
  go_enter Tryz.func55, Tryz.ntmps55
  go_wp2
  refine wp_loop_rounds 1 ?_
  rw [rounds_succ]
  go_wp2
  go_ret
  exact ⟨rfl, rfl⟩
end Go.Proofs.YtdhnhgppapkikaaGreatDoor
