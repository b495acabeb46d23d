/- Several texts in one, in build order: InsB, SlB, ContI, OpenIs, Clone, WithN, ReachF, QuietR, Keep, IterN, Round, NodeY. -/
import Derived.Test.YtdhnhgppapkikaaGreatDoorPkG
import Derived.Deep.RegionHeld3
import Derived.Sort.QuietIn
import Derived.RangeFuncNested
import Derived.RangeFuncBound
import Derived.RangeFuncCalls
import Derived.RangeFuncLeaves
import Derived.RangeFuncBox
import Derived.Shelf.Abstract
import Derived.Shelf.RegionOpen
import Derived.OwnWalkIn
import Derived.TacticsInMore
import Derived.LoopNIn
import Derived.LoopIn
import Derived.Deep.RegionLaw
import Derived.Orders
import Derived.Lib.AppendStr
import Derived.StillTailTactics
-- InsB: slices.Insert of one element, as the program calls it, at one type of element. No statement of the program is proved here.
namespace Go.Proofs.YtdhnhgppapkikaaGreatDoor
set_option maxRecDepth 100000
set_option linter.unusedVariables false
set_option linter.unusedSimpArgs false
open Go.RowKit

theorem Tryz.infoInsB : (Tryz.prog.info? 4).map (fun i => (i.zero, i.size, i.bytes)) = some (some (.bool false), 1, 1) := by kernel_rfl
theorem Tryz.sizeInsB : ∀ w, (Go.sizeOf 4).run Tryz.prog w = .ok 1 w := by
  intro w
  obtain ⟨i0, hi0, hz0, hz1, hz2⟩ := info_parts Tryz.infoInsB
  simp [sizeOf, typeInfo, hi0, hz1]
theorem Tryz.siInsB : (Tryz.prog.info? 4).map (·.size) = some 1 := by
  obtain ⟨i0, hi0, hz0, hz1, hz2⟩ := info_parts Tryz.infoInsB
  rw [hi0]; simp [hz1]
/-- what insertion of one element leaves. -/
def InsAtB (base n i : Nat) (v : Value) (xs us : List Value) (w : World) (e : Ending) (w' : World) : Prop :=
  ∃ g' c', e = .returned (.slice (some ⟨g', 0, none⟩) (n + 1) c') ∧ w'.ownsRow base 4 1 (.slice (some ⟨g', 0, none⟩) (n + 1) c') (n + 1) (putAt xs us (i * 1)) ∧ w.grownBy w' v.ownBlock ∧ (v.ownBlock = some g' ∨ w.heap.size ≤ g')
set_option maxHeartbeats 4000000 in
/-- there is no room, and the place is not the last. -/
theorem insB_grow (base n c i vb vc g : Nat) (xs us : List Value) (w : World) (hr : w.ownsRow base 4 1 (.slice (some ⟨g, 0, none⟩) n c) n xs) (hbase : base ≤ w.heap.size) (hi : i < n) (hn : n ≤ 1048576) (hc : c < n + 1)
    (hv : w.heap[vb]? = some (.cells us.toArray 4 (0, 0))) (hu : us.length = 1) (h1u : ∀ u ∈ us, u.oneCell' = true) (h1x : ∀ u ∈ xs, u.oneCell' = true) :
    Calls Tryz.prog 171 #[.slice (some ⟨g, 0, none⟩) n c, .int .i64 i, .slice (some ⟨vb, 0, none⟩) 1 vc] w fun e w' => InsAtB base n i (.slice (some ⟨g, 0, none⟩) n c) xs us w e w' := by
  obtain ⟨i0, hi0, hz0, hz1, hz2⟩ := info_parts Tryz.infoInsB
  obtain ⟨cur, hbg, hg, hnc, hcm, hcs, htk⟩ := own_parts hr
  have hxl := hr.1
  have hgw : g < w.heap.size := (Array.getElem?_eq_some_iff.1 hg).1
  have hvw : vb < w.heap.size := (Array.getElem?_eq_some_iff.1 hv).1
  obtain rfl : c = n := by omega
  have hold : (Builtin.firstCells i0.size i (.slice (some ⟨g, 0, none⟩) i c)).run Tryz.prog w.drew = .ok (xs.take (i * 1)).toArray w.drew := by
    rw [hz1]
    exact run_firstCells_some w.drew 1 i ⟨g, 0, none⟩ i c (xs.take (i * 1)) (by rw [List.length_take]; omega) (fun j v hj => by
      rw [Addr.add_lit, Nat.zero_add]
      rw [List.getElem?_take] at hj
      split at hj
      · exact (World.ownsRow.cellAt hr j (by omega)).trans hj
      · cases hj)
  obtain ⟨G, hG⟩ : ∃ G, G = grownCap w (c + 1) c 4 := ⟨_, rfl⟩
  have hGn : c + 1 ≤ G := by rw [hG]; exact grownCap_ge w _ _ _
  have hGm : G ≤ maxLen := by rw [hG]; exact grownCap_le_maxLen w (c + 1) c _ (by unfold maxLen; omega)
  obtain ⟨ZS, hZS⟩ : ∃ ZS : List Value, ZS = (Builtin.zeroCells (.bool false : Value).cells (c + 1 - i)).toList ++ (Builtin.zeroCells (.bool false : Value).cells (G - (c + 1))).toList := ⟨_, rfl⟩
  have hZl : ZS.length = (G - i) * 1 := by
    rw [hZS]
    simp [Builtin.zeroCells, Value.cells]
    omega
  obtain ⟨W1, hW1⟩ : ∃ W1, W1 = w.drew.alloc (.cells (xs.take (i * 1) ++ ZS).toArray 4) := ⟨_, rfl⟩
  have hrz : ∀ ty, (Builtin.append_ #[191, 3] ty #[.slice (some ⟨g, 0, none⟩) i c, .int .i64 ((c : Int) + 1 - (i : Int))]).run Tryz.prog w = .ok (.slice (some ⟨w.heap.size, 0, none⟩) (c + 1) G) W1 := fun ty => by
    have h := Lib.run_append_grow_zeros w 191 3 ty 4 i0 _ .i64 .i64 Tryz.underlying191 Tryz.underlying3 hi0 hz0 (some ⟨g, 0, none⟩) i c (xs.take (i * 1)) hold (c + 1 - i) (by omega) (by omega) (by omega) (by omega) (by rw [hz2]; omega)
      (by rw [hz2, show i + (c + 1 - i) = c + 1 by omega]; exact growslice_fits (by omega) (by omega))
    rw [show i + (c + 1 - i) = c + 1 by omega, ← hG, show (((c + 1 - i : Nat) : Nat) : Int) = (c : Int) + 1 - (i : Int) by omega] at h
    rw [h, hW1, hZS]
    congr 3
    apply Array.ext'
    simp
  have hg1 : W1.heap[w.heap.size]? = some (.cells (xs.take (i * 1) ++ ZS).toArray 4 (0, 0)) := by rw [hW1]; exact heap_alloc_new w.drew _
  have ho1 : ∀ k, k < w.heap.size → W1.heap[k]? = w.heap[k]? := fun k hk => by rw [hW1]; exact heap_alloc_old w.drew _ hk
  have hs1 : w.grownBy W1 (some w.heap.size) := ⟨by rw [hW1]; rfl, by rw [hW1]; rfl, by rw [hW1]; rfl, by rw [hW1]; simp, fun k hk _ => ho1 k hk⟩
  have lc0 : (xs.take (i * 1) ++ ZS).length = G * 1 := by simp [hZl]; omega
  obtain ⟨c1, hc1⟩ : ∃ c1 : List Value, c1 = (xs.take (i * 1) ++ ZS).take (i * 1) ++ us ++ (xs.take (i * 1) ++ ZS).drop (i * 1 + us.length) := ⟨_, rfl⟩
  have lc1 : c1.length = G * 1 := by rw [hc1]; simp [hZl]; omega
  obtain ⟨W2, hW2⟩ : ∃ W2, W2 = W1.setRow w.heap.size c1.toArray := ⟨_, rfl⟩
  have hcpA : ∀ ty dc, (Builtin.copy_ #[191, 191] ty #[.slice (some ⟨w.heap.size, i, none⟩) (c + 1 - i) dc, .slice (some ⟨vb, 0, none⟩) 1 vc]).run Tryz.prog W1 = .ok (goInt 1) W2 := fun ty dc => by
    have h := run_copy_wide (P := Tryz.prog) W1 191 191 ty 4 1 w.heap.size (i * 1) (c + 1 - i) dc 1 ⟨vb, 0, none⟩ 1 vc _ _ us Tryz.underlying191 Tryz.siInsB hg1 (by simp only [Nat.min_def]; split <;> omega) (by omega)
      (fun j v hj => by rw [Addr.add_lit, Nat.zero_add, cell_of_row W1 vb j us.toArray _ (0, 0) ((ho1 vb hvw).trans hv)]; simpa using hj) (by simp [hZl]; omega) h1u
    rw [hW2, hc1]
    simpa using h
  have hg2 : W2.heap[w.heap.size]? = some (.cells c1.toArray 4 (0, 0)) := by rw [hW2]; exact setRow_heap W1 _ _ _ _ _ hg1
  have ho2 : ∀ k, k < w.heap.size → W2.heap[k]? = w.heap[k]? := fun k hk => by rw [hW2, setRow_other W1 _ k _ (by omega)]; exact ho1 k hk
  obtain ⟨c2, hc2⟩ : ∃ c2 : List Value, c2 = c1.take (i * 1 + 1) ++ xs.drop (i * 1) ++ c1.drop (i * 1 + 1 + (xs.drop (i * 1)).length) := ⟨_, rfl⟩
  obtain ⟨W3, hW3⟩ : ∃ W3, W3 = W2.drew.setRow w.heap.size c2.toArray := ⟨_, rfl⟩
  have hcpB : ∀ ty dl dc sc, dl = c - i → (Builtin.copy_ #[191, 191] ty #[.slice (some ⟨w.heap.size, (i + 1), none⟩) dl dc, .slice (some ⟨g, i, none⟩) (c - i) sc]).run Tryz.prog W2.drew = .ok (goInt (c - i : Nat)) W3 := fun ty dl dc sc hdl => by
    subst hdl
    have h := run_copy_wide (P := Tryz.prog) W2.drew 191 191 ty 4 1 w.heap.size (i * 1 + 1) (c - i) dc (c - i) ⟨g, i * 1, none⟩ (c - i) sc _ _ (xs.drop (i * 1)) Tryz.underlying191 Tryz.siInsB hg2 (by simp only [Nat.min_def]; split <;> omega) (by simp; omega)
      (fun j v hj => by
        rw [Addr.add_lit]
        rw [List.getElem?_drop] at hj
        have hj' := (List.getElem?_eq_some_iff.1 hj).1
        rw [show W2.drew.cell? ⟨g, i * 1 + j, none⟩ = W2.cell? ⟨g, i * 1 + j, none⟩ from rfl, cell_of_row W2 g _ cur _ (0, 0) ((ho2 g hgw).trans hg)]
        rw [← cell_of_row w g _ cur _ (0, 0) hg]
        exact (World.ownsRow.cellAt hr _ (by omega)).trans hj) (by simp [lc1]; omega) (fun v hv => h1x v (List.mem_of_mem_drop hv))
    rw [hW3, hc2]
    simpa [Nat.add_mul] using h
  have hgr := grow_row xs us ZS (i * 1) 1 (by omega) hu (by rw [hZl]; omega)
  simp only [← hc1] at hgr
  rw [← hc2, lc0] at hgr
  have hfin : InsAtB base c i (.slice (some ⟨g, 0, none⟩) c c) xs us w (.returned (.slice (some ⟨w.heap.size, 0, none⟩) (c + 1) G)) W3 := by
    refine ⟨w.heap.size, G, rfl, own_mk c2.toArray (by rw [putAt_len]; omega) hbase (by rw [hW3]; exact setRow_heap W2.drew _ _ _ _ _ hg2) hGn hGm (by simpa using hgr.2) (by rw [show (c + 1) * 1 = xs.length + 1 by omega]; exact hgr.1), ?_, .inr (Nat.le_refl _)⟩
    refine ⟨by rw [hW3, hW2]; exact hs1.os, by rw [hW3, hW2]; exact hs1.tape, by rw [hW3, hW2]; exact hs1.output, by rw [hW3, hW2]; simpa using hs1.size, fun k hk _ => ?_⟩
    rw [hW3, setRow_other W2.drew _ k _ (by omega)]; exact ho2 k hk
  have HF := Lib.hid hfin
  have HA := Lib.hid hrz
  have HB := Lib.hid hcpA
  have HC := Lib.hid hcpB
  clear hfin hrz hcpA hcpB hgr hg1 ho1 hs1 hg2 ho2 hold hG hW1 hW2 hW3 hZS hc1 hc2 lc0 lc1 hZl htk hcs hr hz0
  unfold maxLen at hGm
  have mixed : Tryz.prog.follows .mixedOrders = true := by kernel_rfl
  have hz2' : ¬ ((i : Int) = (c : Int)) := by omega
  have hz3 : (c : Int) < (c : Int) + 1 := by omega
  have hw1 : IntKind.i64.wrap ((i : Int) + 1) = (i : Int) + 1 := by rw [IntKind.wrap_i64]; omega
  have htn : ((i : Int) + 1).toNat = i + 1 := by omega
  have hGi : ¬ (G = i) := by omega
  have hGim : ¬ (G = i + 1) := by omega
  have hci : ¬ (c = i) := by omega
  have hb1 : (0 : Int) ≤ (i : Int) + 1 := by omega
  have hin : i ≤ c := by omega
  have hb3 : (i : Int) ≤ (c : Int) := by omega
  go_enter Tryz.func171, Tryz.ntmps171
  go_wp2_with (first
    | (at_builtin; refine Lib.wpList_append_run _ rfl _ _ _ _ rfl _ _ rfl rfl _ _ (HA.out _) ?_)
    | (simp only [HB.out]))
  go_region_law_o (refine step_copy_runI rfl _ _ 191 191 rfl _ _ (by simp [Act.eval, Act.put]) (by simp [Act.eval, Act.put]) (HC.out _ (c - i) (G - (i + 1)) (c - i) rfl) ?_)
  go_wp2
  go_ret
  exact HF.out
set_option maxHeartbeats 4000000 in
/-- there is room, and the place is not the last. -/
theorem insB_room (base n c i vb vc g : Nat) (xs us : List Value) (w : World) (hr : w.ownsRow base 4 1 (.slice (some ⟨g, 0, none⟩) n c) n xs) (hbase : base ≤ w.heap.size) (hi : i < n) (hn : n ≤ 1048576) (hc : n + 1 ≤ c)
    (hv : w.heap[vb]? = some (.cells us.toArray 4 (0, 0))) (hu : us.length = 1) (h1u : ∀ u ∈ us, u.oneCell' = true) (h1x : ∀ u ∈ xs, u.oneCell' = true) (hne : g ≠ vb) :
    Calls Tryz.prog 171 #[.slice (some ⟨g, 0, none⟩) n c, .int .i64 i, .slice (some ⟨vb, 0, none⟩) 1 vc] w fun e w' => InsAtB base n i (.slice (some ⟨g, 0, none⟩) n c) xs us w e w' := by
  obtain ⟨cur, hbg, hg, hnc, hcm, hcs, htk⟩ := own_parts hr
  have hxl := hr.1
  have hgw : g < w.heap.size := (Array.getElem?_eq_some_iff.1 hg).1
  have hvw : vb < w.heap.size := (Array.getElem?_eq_some_iff.1 hv).1
  have hcl : cur.toList.length = c * 1 := by simpa using hcs
  have hov : ∀ lb cb, (callFunc 202 #[.slice (some ⟨vb, 0, none⟩) 1 vc, .slice (some ⟨g, (i + 1), none⟩) lb cb]).run Tryz.prog w = .ok (.value (.bool false)) w := fun lb cb => by
    rw [run_callFunc_extern Tryz.func202 (by kernel_rfl) (by kernel_rfl) (by kernel_rfl) (e := Extern.SlicesOverlaps.overlaps #[191, 191] #[4]) (by kernel_rfl),
      Lib.run_overlaps_apart w 191 4 4 Tryz.underlying191 1 Tryz.sizeInsB ⟨vb, 0, none⟩ ⟨g, (i + 1), none⟩ 1 vc lb cb (fun e => hne e.symm) 4 4 1 (c * 1) (by simp [World.shape?, hv, hu]) (by simp [World.shape?, hg, hcs]) (by omega) (frozen_of_row w vb 0 _ _ hv) (frozen_of_row w vb _ _ _ hv)]
    rfl
  obtain ⟨c1, hc1⟩ : ∃ c1 : List Value, c1 = cur.toList.take (i * 1 + 1) ++ xs.drop (i * 1) ++ cur.toList.drop (i * 1 + 1 + (xs.drop (i * 1)).length) := ⟨_, rfl⟩
  have lc1 : c1.length = c * 1 := by rw [hc1]; simp [hcs]; omega
  obtain ⟨W1, hW1⟩ : ∃ W1, W1 = w.drew.setRow g c1.toArray := ⟨_, rfl⟩
  have hcp1 : ∀ ty dl dc sc, dl = n - i → (Builtin.copy_ #[191, 191] ty #[.slice (some ⟨g, (i + 1), none⟩) dl dc, .slice (some ⟨g, i, none⟩) (n + 1 - i) sc]).run Tryz.prog w.drew = .ok (goInt (n - i : Nat)) W1 := fun ty dl dc sc hdl => by
    subst hdl
    have h := run_copy_wide (P := Tryz.prog) w.drew 191 191 ty 4 1 g (i * 1 + 1) (n - i) dc (n - i) ⟨g, i * 1, none⟩ (n + 1 - i) sc _ _ (xs.drop (i * 1)) Tryz.underlying191 Tryz.siInsB hg (by simp only [Nat.min_def]; split <;> omega) (by simp; omega)
      (fun j v hj => by
        rw [Addr.add_lit]
        rw [List.getElem?_drop] at hj
        have hj' := (List.getElem?_eq_some_iff.1 hj).1
        exact (World.ownsRow.cellAt hr _ (by omega)).trans hj) (by simp [hcs]; omega) (fun v hv => h1x v (List.mem_of_mem_drop hv))
    rw [hW1, hc1]
    simpa [Nat.add_mul] using h
  have hg1 : W1.heap[g]? = some (.cells c1.toArray 4 (0, 0)) := by rw [hW1]; exact setRow_heap w.drew _ _ _ _ _ hg
  have hv1 : W1.heap[vb]? = some (.cells us.toArray 4 (0, 0)) := by rw [hW1, setRow_other w.drew g vb _ (fun e => hne e.symm)]; exact hv
  obtain ⟨c2, hc2⟩ : ∃ c2 : List Value, c2 = c1.take (i * 1) ++ us ++ c1.drop (i * 1 + us.length) := ⟨_, rfl⟩
  obtain ⟨W2, hW2⟩ : ∃ W2, W2 = W1.setRow g c2.toArray := ⟨_, rfl⟩
  have hcp2 : ∀ ty dc, (Builtin.copy_ #[191, 191] ty #[.slice (some ⟨g, i, none⟩) (n + 1 - i) dc, .slice (some ⟨vb, 0, none⟩) 1 vc]).run Tryz.prog W1 = .ok (goInt 1) W2 := fun ty dc => by
    have h := run_copy_wide (P := Tryz.prog) W1 191 191 ty 4 1 g (i * 1) (n + 1 - i) dc 1 ⟨vb, 0, none⟩ 1 vc _ _ us Tryz.underlying191 Tryz.siInsB hg1 (by simp only [Nat.min_def]; split <;> omega) (by omega)
      (fun j v hj => by rw [Addr.add_lit, Nat.zero_add, cell_of_row W1 vb j us.toArray _ (0, 0) hv1]; simpa using hj) (by simp [lc1]; omega) h1u
    rw [hW2, hc2]
    simpa using h
  have hsr := shift_row cur.toList us xs (i * 1) 1 (by rw [hxl]; exact htk) (by omega) hu (by rw [hcl]; omega)
  simp only [← hc1] at hsr
  rw [← hc2, hcl] at hsr
  have hfin : InsAtB base n i (.slice (some ⟨g, 0, none⟩) n c) xs us w (.returned (.slice (some ⟨g, 0, none⟩) (n + 1) c)) W2 := by
    refine ⟨g, c, rfl, own_mk c2.toArray (by rw [putAt_len]; omega) hbg (by rw [hW2]; exact setRow_heap W1 _ _ _ _ _ hg1) hc hcm (by simpa using hsr.2) (by rw [show (n + 1) * 1 = xs.length + 1 by omega]; exact hsr.1), ?_, .inl rfl⟩
    refine ⟨by rw [hW2, hW1]; rfl, by rw [hW2, hW1]; rfl, by rw [hW2, hW1]; rfl, by rw [hW2, hW1]; simp, fun k hk hkg => ?_⟩
    have hkg : k ≠ g := fun e => hkg (by rw [e]; simp [Value.ownBlock])
    rw [hW2, setRow_other W1 _ k _ hkg, hW1, setRow_other w.drew _ k _ hkg]; rfl
  have HF := Lib.hid hfin
  have HA := Lib.hid hcp1
  have HB := Lib.hid hcp2
  unfold maxLen at hcm
  clear hfin hcp1 hcp2 hsr hg1 hv1 hW1 hW2 hc1 hc2 lc1 hcl htk hcs hr
  have mixed : Tryz.prog.follows .mixedOrders = true := by kernel_rfl
  have hz2' : ¬ ((i : Int) = (n : Int)) := by omega
  have hw1 : IntKind.i64.wrap ((i : Int) + 1) = (i : Int) + 1 := by rw [IntKind.wrap_i64]; omega
  have hb1 : (0 : Int) ≤ (i : Int) + 1 := by omega
  have hin : i ≤ n := by omega
  have htn : ((i : Int) + 1).toNat = i + 1 := by omega
  have hb2 : ¬ (c = i + 1) := by omega
  have hb3 : (i : Int) ≤ (n : Int) + 1 := by omega
  have hb4 : ¬ (c = i) := by omega
  go_enter Tryz.func171, Tryz.ntmps171
  go_wp2_with (simp only [hov])
  go_region_law_o (refine step_copy_runI rfl _ _ 191 191 rfl _ _ (by simp [Act.eval, Act.put]) (by simp [Act.eval, Act.put]) (HA.out _ (n - i) (c - (i + 1)) (c - i) rfl) ?_)
  go_wp2_with (simp only [HB.out])
  go_ret
  exact HF.out
set_option maxHeartbeats 4000000 in
/-- the place is the last. -/
theorem insB_end (base n c vb vc : Nat) (A : Option Addr) (xs us : List Value) (w : World) (hr : w.ownsRow base 4 1 (.slice A n c) n xs) (hbase : base ≤ w.heap.size) (hn : n ≤ 1048576)
    (hv : w.heap[vb]? = some (.cells us.toArray 4 (0, 0))) (hu : us.length = 1) (h1u : ∀ u ∈ us, u.oneCell' = true) :
    Calls Tryz.prog 171 #[.slice A n c, .int .i64 n, .slice (some ⟨vb, 0, none⟩) 1 vc] w fun e w' => InsAtB base n n (.slice A n c) xs us w e w' := by
  obtain ⟨i0, hi0, hz0, hz1, hz2⟩ := info_parts Tryz.infoInsB
  obtain ⟨hnc, hcm, hA⟩ := own_cap hr
  unfold maxLen at hcm
  have hxl := hr.1
  have hx : putAt xs us (n * 1) = xs ++ us := by unfold putAt; rw [List.take_of_length_le (by omega), List.drop_of_length_le (by omega), List.append_nil]
  unfold InsAtB
  rw [hx]
  have hnn : ((n : Int) == (n : Int)) = true := by simp
  clear hx
  go_enter Tryz.func171, Tryz.ntmps171
  rcases own_none hr with ⟨rfl, rfl, rfl⟩ | ⟨g, rfl⟩
  all_goals
    go_wp2_with (at_builtin; refine wpList_append_lies _ rfl _ _ 191 rfl base 4 i0 (.bool false) 1 1 Tryz.underlying191 hi0 hz0 hz1 hz2 rfl (by decide) _ _ _ rfl hr ⟨vb, 0, none⟩ 1 vc us rfl (by omega) (fun j u hj => by rw [Addr.add_lit, Nat.zero_add, cell_of_row w vb j us.toArray _ (0, 0) hv]; simpa using hj) h1u (by omega) (by unfold maxLen; omega) (by omega) hbase _ rfl ?_)
    all_goals
      intro g' c' w1 hown hgrow hat hlt
      go_wp2
      go_ret
      refine ⟨g', c', rfl, hown, hgrow, ?_⟩
      rcases hat with h | h
      · exact .inl h
      · exact .inr (by omega)
theorem insB_any (base n c i vb vc : Nat) (A : Option Addr) (xs us : List Value) (w : World) (hr : w.ownsRow base 4 1 (.slice A n c) n xs) (hbase : base ≤ w.heap.size) (hi : i ≤ n) (hn : n ≤ 1048576)
    (hv : w.heap[vb]? = some (.cells us.toArray 4 (0, 0))) (hu : us.length = 1) (h1u : ∀ u ∈ us, u.oneCell' = true) (h1x : ∀ u ∈ xs, u.oneCell' = true) (hne : (Value.slice A n c).ownBlock ≠ some vb) :
    Calls Tryz.prog 171 #[.slice A n c, .int .i64 i, .slice (some ⟨vb, 0, none⟩) 1 vc] w fun e w' => InsAtB base n i (.slice A n c) xs us w e w' := by
  rcases Nat.lt_or_ge i n with h | h
  · rcases own_none hr with ⟨rfl, rfl, rfl⟩ | ⟨g, rfl⟩
    · omega
    · have hne : g ≠ vb := fun e => hne (by rw [e]; simp [Value.ownBlock])
      rcases Nat.lt_or_ge c (n + 1) with h1 | h1
      · exact insB_grow base n c i vb vc g xs us w hr hbase h hn h1 hv hu h1u h1x
      · exact insB_room base n c i vb vc g xs us w hr hbase h hn h1 hv hu h1u h1x hne
  · obtain rfl : i = n := by omega
    exact insB_end base i c vb vc A xs us w hr hbase hn hv hu h1u
end Go.Proofs.YtdhnhgppapkikaaGreatDoor

-- SlB: A list of flags by name, as it lies in memory, and putting one into it. No statement of the program is proved here.
namespace Go.Proofs.YtdhnhgppapkikaaGreatDoor
set_option maxRecDepth 100000
set_option linter.unusedVariables false
set_option linter.unusedSimpArgs false
open Go.RowKit

def vbs (bs : List (Int × Bool)) : List Value := bs.map fun p => .bool p.2
def kbs (bs : List (Int × Bool)) : List Int := bs.map (·.1)
theorem kbs_len (bs : List (Int × Bool)) : (kbs bs).length = bs.length := by simp [kbs]
theorem vbs_len (bs : List (Int × Bool)) : (vbs bs).length = bs.length := by simp [vbs]
theorem vbs_put (bs : List (Int × Bool)) (i : Nat) (q : Int × Bool) : putAt (vbs bs) [.bool q.2] (i * 1) = vbs (insP bs i q) := by
  unfold vbs putAt
  rw [insP_map]
  unfold insP
  simp
theorem kbs_put (bs : List (Int × Bool)) (i : Nat) (q : Int × Bool) : putAt ((kbs bs).map (Value.int .i64)) [.int .i64 q.1] (i * 1) = (kbs (insP bs i q)).map (Value.int .i64) := by
  unfold kbs putAt
  rw [insP_map, insP_map]
  unfold insP
  simp
theorem vbs_one (bs : List (Int × Bool)) : ∀ u ∈ vbs bs, u.oneCell' = true := by
  intro u hu
  obtain ⟨p, _, rfl⟩ := List.mem_map.1 hu
  rfl
/-- a list of flags by name, in memory of the call's own from lo on. -/
structure SLB (w : World) (lo : Nat) (R : SR) (bs : List (Int × Bool)) : Prop where
  keys : OwnI w lo R.Ak bs.length R.ck (kbs bs)
  vals : w.ownsRow lo 4 1 (.slice R.Av bs.length R.cv) bs.length (vbs bs)
  rise : RiseI (kbs bs)
  len : bs.length ≤ 2000
theorem SLB.nil (w : World) (lo : Nat) : SLB w lo SR0 [] := ⟨OwnI.nil _ _, World.ownsRow_nil _ _ _ _, List.Pairwise.nil, by simp⟩
theorem SLB.lt {w : World} {lo : Nat} {R : SR} {bs : List (Int × Bool)} (h : SLB w lo R bs) (g : Nat) (hg : R.at_ g) : lo ≤ g ∧ g < w.heap.size := by
  rcases hg with ⟨a, ha, rfl⟩ | ⟨a, ha, rfl⟩
  · exact h.keys.lt _ (by rw [ha]; rfl)
  · exact h.vals.lt _ (by rw [ha]; rfl)
theorem SLB.touch {S : Nat → Prop} {w w' : World} {lo : Nat} {R : SR} {bs : List (Int × Bool)} (h : SLB w lo R bs) (t : Touch S w w') (h1 : ∀ g, R.at_ g → ¬ S g) : SLB w' lo R bs :=
  ⟨h.keys.touch t (fun g hg => h1 g (SR.kvAt R bs.length g hg)), own_touch h.vals t (fun g hg => h1 g (SR.vvAt R bs.length g hg)), h.rise, h.len⟩
theorem SLB.below {w w' : World} {lo : Nat} {R : SR} {bs : List (Int × Bool)} (h : SLB w lo R bs) (hb : Below w.heap.size w w') : SLB w' lo R bs :=
  h.touch (S := fun _ => False) (Touch.of_below hb) (fun _ _ h => h)
theorem SLB.not_at {w : World} {lo g : Nat} {R : SR} {bs : List (Int × Bool)} {t : TypeId} {cs : Array Value} (h : SLB w lo R bs) (hb : Box w g t cs) (h1 : t ≠ 2) (h2 : t ≠ 4) : ¬ R.at_ g := fun e => by
  rcases e with ⟨a, ha, e⟩ | ⟨a, ha, e⟩
  · exact own_box_ne h.keys hb h1 (by rw [ha, ← e]; rfl)
  · exact own_box_ne h.vals hb h2 (by rw [ha, ← e]; rfl)
theorem lowB_len (bs : List (Int × Bool)) (m : Int) : lowI (kbs bs) m ≤ bs.length := by have := lowI_le (kbs bs) m; rw [kbs_len] at this; exact this
/-- what a putting leaves, once both rows are made. -/
theorem putB_fin (p lo : Nat) (R : SR) (bs : List (Int × Bool)) (m : Int) (x : Bool) (w w5 w6 : World) (h : SLB w lo R bs) (hp : p < w.heap.size) (hl : bs.length < 2000) (ht : hitI (kbs bs) m = false)
    (g4 c4 g6 c6 : Nat) (T5 : Touch (fun g => g = p ∨ R.at_ g) w w5)
    (P5 : Box w5 p 193 #[.slice (some ⟨g4, 0, none⟩) (bs.length + 1) c4, R.vv bs.length])
    (K5 : OwnI w5 lo (some ⟨g4, 0, none⟩) (bs.length + 1) c4 (kbs (insP bs (lowI (kbs bs) m) (m, x)))) (G4 : R.at_ g4 ∨ w.heap.size ≤ g4)
    (V5 : w5.ownsRow lo 4 1 (R.vv bs.length) bs.length (vbs bs))
    (t6 : Touch (fun g => (R.vv bs.length).ownBlock = some g) w5 w6)
    (o6 : w6.ownsRow lo 4 1 (.slice (some ⟨g6, 0, none⟩) (bs.length + 1) c6) (bs.length + 1) (vbs (insP bs (lowI (kbs bs) m) (m, x)))) (G6 : R.at_ g6 ∨ w.heap.size ≤ g6) :
    Box w6 p 193 #[.slice (some ⟨g4, 0, none⟩) (bs.length + 1) c4, R.vv bs.length] ∧
    ∃ R', Box (w6.setCell ⟨p, 1, none⟩ (.slice (some ⟨g6, 0, none⟩) (bs.length + 1) c6)) p 193 #[R'.kv (bs.length + 1), R'.vv (bs.length + 1)] ∧
      SLB (w6.setCell ⟨p, 1, none⟩ (.slice (some ⟨g6, 0, none⟩) (bs.length + 1) c6)) lo R' (insP bs (lowI (kbs bs) m) (m, x)) ∧ R'.from_ R w.heap.size ∧ Touch (fun g => g = p ∨ R.at_ g) w (w6.setCell ⟨p, 1, none⟩ (.slice (some ⟨g6, 0, none⟩) (bs.length + 1) c6)) := by
  have hvp : (R.vv bs.length).ownBlock ≠ some p := own_box_ne V5 P5 (by decide)
  have s5 := T5.size
  have P6 : Box w6 p 193 #[.slice (some ⟨g4, 0, none⟩) (bs.length + 1) c4, R.vv bs.length] := (t6.block p (by omega) (fun e => hvp e)).trans P5
  have K6 := K5.touch t6 (fun g hg e => own_own_ne K5 V5 (by decide) g hg e)
  have g4p : g4 ≠ p := fun e => own_box_ne K6 P6 (by decide) (by rw [e]; rfl)
  have g6p : g6 ≠ p := fun e => own_box_ne o6 P6 (by decide) (by rw [e]; rfl)
  obtain ⟨w7, hw7⟩ : ∃ w7, w6.setCell ⟨p, 1, none⟩ (.slice (some ⟨g6, 0, none⟩) (bs.length + 1) c6) = w7 := ⟨_, rfl⟩
  have t7 : Touch (fun g => g = p) w6 w7 := by rw [← hw7]; exact touch_set w6 p 1 _ rfl
  have P7 : Box w7 p 193 #[.slice (some ⟨g4, 0, none⟩) (bs.length + 1) c4, .slice (some ⟨g6, 0, none⟩) (bs.length + 1) c6] := by rw [← hw7]; exact P6.set_ 1 _
  have K7 := K6.touch t7 (fun g hg e => g4p (by have e2 : g4 = g := (by simpa [Value.ownBlock] using hg); omega))
  have O7 := own_touch o6 t7 (fun g hg e => g6p (by have e2 : g6 = g := (by simpa [Value.ownBlock] using hg); omega))
  rw [hw7]
  have T7 : Touch (fun g => g = p ∨ R.at_ g) w w7 := (T5.trans (t6.mono (fun k hk => .inr (R.vvAt _ _ hk)))).trans (t7.mono (fun k hk => .inl hk))
  have hfrom : (⟨some ⟨g4, 0, none⟩, c4, some ⟨g6, 0, none⟩, c6⟩ : SR).from_ R w.heap.size := fun g hg => by
    rcases hg with ⟨a, ha, e⟩ | ⟨a, ha, e⟩
    · cases ha; subst e; exact G4
    · cases ha; subst e; exact G6
  have hli := lowB_len bs m
  have hln : (insP bs (lowI (kbs bs) m) (m, x)).length = bs.length + 1 := insP_len _ _ _ hli
  refine ⟨P6, ⟨some ⟨g4, 0, none⟩, c4, some ⟨g6, 0, none⟩, c6⟩, P7, ⟨by rw [hln]; exact K7, by rw [hln]; exact O7, ?_, by omega⟩, hfrom, T7⟩
  have hm : m ∉ kbs bs := fun hm => by rw [(hitI_mem _ _ h.rise).2 hm] at ht; cases ht
  have e : kbs (insP bs (lowI (kbs bs) m) (m, x)) = insI (kbs bs) m := by rw [← insP_low _ _ hm]; exact insP_map _ _ _ _
  rw [e]
  exact insI_rise _ _ h.rise hm
set_option maxHeartbeats 2000000 in
theorem putB_any (p lo : Nat) (R : SR) (bs : List (Int × Bool)) (m : Int) (x : Bool) (w : World) (hx : Box w p 193 #[R.kv bs.length, R.vv bs.length]) (h : SLB w lo R bs) (hlo : lo ≤ w.heap.size) (hl : bs.length < 2000) :
    Calls Tryz.prog 126 #[.pointer (some ⟨p, 0, none⟩), .int .i64 m, .bool x] w fun e w' =>
      (hitI (kbs bs) m = true ∧ e = .returned (.bool false) ∧ Below w.heap.size w w') ∨
      (hitI (kbs bs) m = false ∧ e = .returned (.bool true) ∧ ∃ R', Box w' p 193 #[R'.kv (bs.length + 1), R'.vv (bs.length + 1)] ∧ SLB w' lo R' (insP bs (lowI (kbs bs) m) (m, x)) ∧ R'.from_ R w.heap.size ∧ Touch (fun g => g = p ∨ R.at_ g) w w') := by
  have mixed : Tryz.prog.follows .mixedOrders = true := by kernel_rfl
  have hlen := h.len
  have hp := hx.lt
  have P1 := Lib.hid hx
  have HS := Lib.hid h
  have HRL := Lib.hid (fun g hg => (h.lt g hg).2)
  clear hx h
  have q0 := P1.out.cell 0
  have q1 := P1.out.cell 1
  unfold SR.kv at q0
  unfold SR.vv at q1
  simp at q0 q1
  go_enter Tryz.func126, Tryz.ntmps126
  go_wp2_with fail
  refine (search_any R.Ak bs.length R.ck (kbs bs) m w.heap.size w (by omega) HS.out.keys.ints HS.out.rise).mono ?_
  rintro e w2 ⟨rfl, nq, hq⟩
  have b2 : Below w.heap.size w w2 := by rw [hq]; exact below_drewN (Below.refl _ _) nq
  have P2 := Lib.hid (P1.out.below b2 (by omega))
  have S2 := Lib.hid (HS.out.below b2)
  have B2 := Lib.hid b2
  have hs2 : w2.heap.size = w.heap.size := by rw [hq]; simp
  clear hq b2 q0 q1
  have q0 := P2.out.cell 0
  have q1 := P2.out.cell 1
  have p0 := P2.out.free
  unfold SR.kv at q0
  unfold SR.vv at q1
  simp at q0 q1
  obtain ⟨ht, hht⟩ : ∃ ht, hitI (kbs bs) m = ht := ⟨_, rfl⟩
  have HT := Lib.hid hht
  rw [hht]
  clear hht
  obtain ⟨i, hi⟩ : ∃ i, lowI (kbs bs) m = i := ⟨_, rfl⟩
  have hil : i ≤ bs.length := by rw [← hi]; exact lowB_len bs m
  have HI := Lib.hid hi
  rw [hi]
  clear hi
  cases ht with
  | true =>
    go_wp2
    go_ret
    exact .inl ⟨HT.out, rfl, B2.out⟩
  | false =>
    -- the key's own block
    obtain ⟨w3, hw3⟩ : ∃ w3, w2.alloc (.cells #[.int .i64 m] 2) = w3 := ⟨_, rfl⟩
    have b3 : Below w2.heap.size w2 w3 := hw3 ▸ (Below.refl w2.heap.size w2).alloc (Nat.le_refl _) _
    have y3 : Box w3 w2.heap.size 2 #[.int .i64 m] := hw3 ▸ heap_alloc_new _ _
    have s3 : w3.heap.size = w.heap.size + 1 := by rw [← hw3]; simp [hs2]
    rw [hs2] at y3
    have P3 := Lib.hid (P2.out.below b3 (by omega))
    have S3 := Lib.hid (S2.out.below b3)
    have B3 := Lib.hid (B2.out.trans (b3.mono (by omega)))
    have Y3 := Lib.hid y3
    clear b3 y3
    go_wp2_with fail
    refine (insI_any lo bs.length R.ck i w.heap.size _ R.Ak ((kbs bs).map (Value.int .i64)) [.int .i64 m] w3 S3.out.keys (by omega) hil (by omega) Y3.out rfl (by intro u hu; simp at hu; subst hu; rfl) (kvs_one _) (fun e => by have := (S2.out.keys.lt _ e).2; omega)).mono ?_
    rintro e w4 ⟨g4, c4, rfl, o4, gr4, at4⟩
    rw [show ([.int .i64 m] : List Value) = [.int .i64 ((m, x) : Int × Bool).1] from rfl, kbs_put] at o4
    have gk4 := gr4
    have gr4 : Touch (fun g => R.at_ g) w3 w4 := (Touch.of_grown gr4).mono (fun k hk => R.kvAt _ _ hk.symm)
    have np_ : ¬ R.at_ p := S3.out.not_at P3.out (by decide) (by decide)
    have s4 : w3.heap.size ≤ w4.heap.size := gr4.size
    have P4 := Lib.hid (show Box w4 p _ _ from (gr4.block p (by omega) np_).trans P3.out)
    have V4 := Lib.hid (own_touch S3.out.vals (S := fun g => (R.kv bs.length).ownBlock = some g) ((Touch.of_grown (show w3.grownBy w4 (R.kv bs.length).ownBlock from gk4)).mono (fun k hk => hk.symm)) (fun g hg hk => own_own_ne S3.out.keys S3.out.vals (by decide) g hk hg))
    have V4p : (R.vv bs.length).ownBlock ≠ some p := own_box_ne V4.out P4.out (by decide)
    have K4 := Lib.hid (show OwnI w4 lo (some ⟨g4, 0, none⟩) (bs.length + 1) c4 _ from o4)
    have g4p : g4 ≠ p := fun e => own_box_ne o4 P4.out (by decide) (by rw [e]; rfl)
    have G4 := Lib.hid at4
    clear o4 gk4 at4 q0 q1 p0
    have f4 := P4.out.free
    have q4 := P4.out.cell 0
    simp at q4
    obtain ⟨w5, hw5⟩ : ∃ w5, w4.setCell ⟨p, 0, none⟩ (.slice (some ⟨g4, 0, none⟩) (bs.length + 1) c4) = w5 := ⟨_, rfl⟩
    have t5 : Touch (fun g => g = p) w4 w5 := by rw [← hw5]; exact touch_set w4 p 0 _ rfl
    have s5 : w5.heap.size = w4.heap.size := by rw [← hw5]; simp
    have P5 := Lib.hid (show Box w5 p _ #[.slice (some ⟨g4, 0, none⟩) (bs.length + 1) c4, R.vv bs.length] from by rw [← hw5]; exact P4.out.set_ 0 _)
    have V5 := Lib.hid (own_touch V4.out t5 (fun g hg hk => V4p (by rw [← hk]; exact hg)))
    have K5 := Lib.hid (K4.out.touch t5 (fun g hg hk => g4p (by have e : g4 = g := (by simpa [Value.ownBlock] using hg); omega)))
    have T5 := Lib.hid (show Touch (fun g => g = p ∨ R.at_ g) w w5 from ((Touch.of_below B3.out).trans (gr4.mono (fun k hk => .inr hk))).trans (t5.mono (fun k hk => .inl hk)))
    have q1 := P5.out.cell 1
    have f1 := P5.out.free
    unfold SR.vv at q1
    simp at q1
    obtain ⟨w51, hw51⟩ : ∃ w51, w5.alloc (.cells #[.bool x] 4) = w51 := ⟨_, rfl⟩
    have b51 : Below w5.heap.size w5 w51 := hw51 ▸ (Below.refl _ _).alloc (Nat.le_refl _) _
    have V6 := Lib.hid (show w51.ownsRow lo 4 1 (.slice R.Av bs.length R.cv) bs.length (vbs bs) from hw51 ▸ V5.out.alloc _)
    have y6 : w51.heap[w5.heap.size]? = some (.cells ([.bool x] : List Value).toArray 4 (0, 0)) := hw51 ▸ heap_alloc_new w5 _
    rw [s5] at y6
    have Y6 := Lib.hid y6
    have z6 : w51.heap.size = w4.heap.size + 1 := by rw [← hw51, ← s5]; simp
    have VB := Lib.hid (fun g hg => (V5.out.lt g hg).2)
    have B51 := Lib.hid b51
    clear gr4 t5 y6 b51
    have hp4 : p < w4.heap.size := by omega
    have hp5 : p < w5.heap.size := by omega
    have hpn : ¬ (p = w4.heap.size) := by omega
    go_wp2_with fail
    refine (insB_any lo bs.length R.cv i w4.heap.size _ R.Av (vbs bs) [.bool x] w51 V6.out (by omega) hil (by omega) Y6.out rfl (by intro u hu; simp at hu; subst hu; rfl) (vbs_one _) (fun e => by have := VB.out _ e; omega)).mono ?_
    rintro e w6 ⟨g6, c6, rfl, o6, gr6, at6⟩
    rw [show ([.bool x] : List Value) = [.bool ((m, x) : Int × Bool).2] from rfl, vbs_put, ← HI.out] at o6
    have PF := putB_fin p lo R bs m x w w5 w6 HS.out hp hl HT.out g4 c4 g6 c6 T5.out P5.out (by rw [HI.out]; exact K5.out) (G4.out.elim (fun e => .inl (R.kvAt _ _ e)) (fun e => .inr (by omega))) V5.out
      ((Touch.of_below B51.out).trans ((Touch.of_grown gr6).mono (fun k hk => hk.symm))) o6 (at6.elim (fun e => .inl (R.vvAt _ _ e)) (fun e => .inr (by omega)))
    have q6 := PF.1.cell 1
    have f6 := PF.1.free 1
    simp at q6
    have PF := Lib.hid PF.2
    clear q1 f1 o6 gr6 at6 hw51 hw5 f4 q4
    go_wp2
    go_ret
    exact .inr ⟨HT.out, rfl, PF.out⟩
end Go.Proofs.YtdhnhgppapkikaaGreatDoor

-- ContI: slices.Contains at int64 and at bool, slices.ContainsFunc at int64, as the program calls them. No statement of the program is proved here.
namespace Go.Proofs.YtdhnhgppapkikaaGreatDoor
set_option maxRecDepth 100000
set_option linter.unusedVariables false
set_option linter.unusedSimpArgs false
open Go.RowKit

theorem mem_take_all {α : Type} [Inhabited α] {P : α → Prop} (l : List α) (d : α) (h : ∀ j, j < l.length → P (l[j]?.getD d)) : ∀ x, x ∈ l → P x := by
  intro x hx
  obtain ⟨j, hj, rfl⟩ := List.mem_iff_getElem.1 hx
  have := h j hj
  rwa [List.getElem?_eq_getElem hj] at this
set_option maxHeartbeats 1600000 in
theorem indexI_any (A : Option Addr) (n c : Nat) (l : List Int) (m : Int) (B : Nat) (w : World) (hn : n ≤ 1048576) (hb : Ints w B A n l) :
    Calls Tryz.prog 79 #[.slice A n c, .int .i64 m] w fun e w' => (∃ k : Int, e = .returned (.int .i64 k) ∧ (0 ≤ k ↔ m ∈ l)) ∧ ∃ q, w' = w.drewN q := by
  have mixed : Tryz.prog.follows .mixedOrders = true := by kernel_rfl
  have hlen := hb.1
  have HB := Lib.hid hb
  clear hb
  go_enter Tryz.func79, Tryz.ntmps79
  go_wp2
  go_loopw [8] (fun s8 wr => ∃ k q : Nat, k ≤ n ∧ s8 = .int .i64 k ∧ wr = w.drewN q ∧ ∀ j, j < k → l[j]?.getD 0 ≠ m) (fun s8 _ => n - (intOf s8).toNat)
  case atStart => exact ⟨0, 0, Nat.zero_le _, rfl, rfl, fun j hj => absurd hj (Nat.not_lt_zero _)⟩
  case round =>
    obtain ⟨k, q, hk, rfl, hwq, h1⟩ := hrel
    have H1 := Lib.hid h1
    have HQ := Lib.hid hwq
    clear h1
    by_cases hlt : k < n
    · obtain ⟨b, off, rfl, hbB, hcell⟩ := HB.out.2 (by omega)
      have cm : wr.cell? ⟨b, off + k, none⟩ = some (.int .i64 (l[k]?.getD 0)) := by rw [hwq]; exact hcell _ hlt
      clear hcell hwq
      obtain ⟨y, hy⟩ : ∃ y, l[k]?.getD 0 = y := ⟨_, rfl⟩
      rw [hy] at cm
      have Y := Lib.hid hy
      clear hy
      by_cases hyx : m = y
      · have hb0 : (m == y) = true := by simpa using hyx
        have HYX := Lib.hid hyx
        clear hyx
        go_wp2
        go_ret
        refine ⟨⟨k, rfl, iff_of_true (by omega) ?_⟩, q, (by first | rfl | exact HQ.out)⟩
        rw [HYX.out, ← Y.out, List.getElem?_eq_getElem (by omega)]
        exact List.getElem_mem _
      · have hb0 : (m == y) = false := by simpa using hyx
        have HYX := Lib.hid hyx
        clear hyx
        go_wp2
        go_roundw
        case measure => simp [intOf]; omega
        case rel =>
          refine ⟨k + 1, q, by omega, by go_num, (by first | rfl | exact HQ.out), fun j hj => ?_⟩
          by_cases e : j = k
          · subst e; rw [Y.out]; exact fun e => HYX.out e.symm
          · exact H1.out j (by omega)
    · obtain rfl : k = n := by omega
      go_wp2
      go_ret
      refine ⟨⟨-1, rfl, iff_of_false (by omega) (fun hm => ?_)⟩, q, (by first | rfl | exact HQ.out)⟩
      obtain ⟨j, hj, rfl⟩ := List.mem_iff_getElem.1 hm
      exact H1.out j (by omega) (by rw [List.getElem?_eq_getElem hj]; rfl)
theorem containsI_any (A : Option Addr) (n c : Nat) (l : List Int) (m : Int) (B : Nat) (w : World) (hn : n ≤ 1048576) (hb : Ints w B A n l) :
    Calls Tryz.prog 53 #[.slice A n c, .int .i64 m] w fun e w' => e = .returned (.bool (decide (m ∈ l))) ∧ ∃ q, w' = w.drewN q := by
  go_enter Tryz.func53, Tryz.ntmps53
  go_wp2_with fail
  refine (indexI_any A n c l m B w hn hb).mono ?_
  rintro e w2 ⟨⟨k, rfl, hk⟩, q, rfl⟩
  obtain ⟨r, hr⟩ : ∃ r, decide (m ∈ l) = r := ⟨_, rfl⟩
  have HR := Lib.hid hr
  by_cases h0 : 0 ≤ k
  · have hd : decide (0 ≤ k) = true := decide_eq_true h0
    have he : true = r := by rw [← hr]; exact (decide_eq_true (hk.1 h0)).symm
    clear hk h0 hb hr
    go_wp2
    go_ret
    exact ⟨by rw [HR.out, ← he] <;> rfl, q, rfl⟩
  · have hd : decide (0 ≤ k) = false := decide_eq_false h0
    have he : false = r := by rw [← hr]; exact (decide_eq_false (fun h => h0 (hk.2 h))).symm
    clear hk h0 hb hr
    go_wp2
    go_ret
    exact ⟨by rw [HR.out, ← he] <;> rfl, q, rfl⟩
set_option maxHeartbeats 1600000 in
theorem indexB_any (A : Option Addr) (n c lo : Nat) (l : List Bool) (w : World) (hn : n ≤ 1048576) (hb : w.ownsRow lo 4 1 (.slice A n c) n (l.map Value.bool)) :
    Calls Tryz.prog 172 #[.slice A n c, .bool false] w fun e w' => (∃ k : Int, e = .returned (.int .i64 k) ∧ (0 ≤ k ↔ false ∈ l)) ∧ ∃ q, w' = w.drewN q := by
  have mixed : Tryz.prog.follows .mixedOrders = true := by kernel_rfl
  have hlen : l.length = n := by have := hb.1; simpa using this
  have hrow : 0 < n → ∃ g, A = some ⟨g, 0, none⟩ ∧ ∀ k, k < n → w.cell? ⟨g, k, none⟩ = some (.bool (l[k]?.getD true)) := fun h0 => by
    obtain ⟨g, cap, hv, _, _⟩ := World.ownsRow.form hb h0
    injection hv with hA
    refine ⟨g, hA, fun k hk => ?_⟩
    rw [hA] at hb
    have := World.ownsRow.cellAt hb (k * 1) (by omega)
    rw [Nat.mul_one] at this
    rw [this, List.getElem?_map, List.getElem?_eq_getElem (by omega)]
    rfl
  have HB := Lib.hid hrow
  clear hb hrow
  go_enter Tryz.func172, Tryz.ntmps172
  go_wp2
  go_loopw [8] (fun s8 wr => ∃ k q : Nat, k ≤ n ∧ s8 = .int .i64 k ∧ wr = w.drewN q ∧ ∀ j, j < k → l[j]?.getD true = true) (fun s8 _ => n - (intOf s8).toNat)
  case atStart => exact ⟨0, 0, Nat.zero_le _, rfl, rfl, fun j hj => absurd hj (Nat.not_lt_zero _)⟩
  case round =>
    obtain ⟨k, q, hk, rfl, hwq, h1⟩ := hrel
    have H1 := Lib.hid h1
    have HQ := Lib.hid hwq
    clear h1
    by_cases hlt : k < n
    · obtain ⟨g, rfl, hcell⟩ := HB.out (by omega)
      have cm : wr.cell? ⟨g, k, none⟩ = some (.bool (l[k]?.getD true)) := by rw [hwq]; exact hcell _ hlt
      clear hcell hwq
      obtain ⟨y, hy⟩ : ∃ y, l[k]?.getD true = y := ⟨_, rfl⟩
      rw [hy] at cm
      have Y := Lib.hid hy
      clear hy
      cases y with
      | false =>
        go_wp2
        go_ret
        refine ⟨⟨k, rfl, iff_of_true (by omega) ?_⟩, q, (by first | rfl | exact HQ.out)⟩
        have e := Y.out
        rw [List.getElem?_eq_getElem (by omega)] at e
        have e : l[k] = false := e
        rw [← e]
        exact List.getElem_mem _
      | true =>
        go_wp2
        go_roundw
        case measure => simp [intOf]; omega
        case rel =>
          refine ⟨k + 1, q, by omega, by go_num, (by first | rfl | exact HQ.out), fun j hj => ?_⟩
          by_cases e : j = k
          · subst e; exact Y.out
          · exact H1.out j (by omega)
    · obtain rfl : k = n := by omega
      go_wp2
      go_ret
      refine ⟨⟨-1, rfl, iff_of_false (by omega) (fun hm => ?_)⟩, q, (by first | rfl | exact HQ.out)⟩
      obtain ⟨j, hj, e⟩ := List.mem_iff_getElem.1 hm
      have h2 := H1.out j (by omega)
      rw [List.getElem?_eq_getElem hj] at h2
      have h2 : l[j] = true := h2
      rw [h2] at e
      cases e
theorem containsB_any (A : Option Addr) (n c lo : Nat) (bs : List (Int × Bool)) (w : World) (hn : n ≤ 1048576) (hb : w.ownsRow lo 4 1 (.slice A n c) n (vbs bs)) :
    Calls Tryz.prog 127 #[.slice A n c, .bool false] w fun e w' => e = .returned (.bool (!bs.all (·.2))) ∧ ∃ q, w' = w.drewN q := by
  have hb2 : w.ownsRow lo 4 1 (.slice A n c) n ((bs.map (·.2)).map Value.bool) := by rw [List.map_map]; exact hb
  have hm : false ∈ bs.map (·.2) ↔ (bs.all (·.2)) = false := by
    rw [← Bool.not_eq_true, List.all_eq_true]
    constructor
    · intro h hall
      obtain ⟨x, hx, e⟩ := List.mem_map.1 h
      have := hall x hx
      rw [e] at this; cases this
    · intro h
      rcases Classical.em (false ∈ bs.map (·.2)) with h1 | h1
      · exact h1
      · exact absurd (fun x hx => by
          cases e : x.2 with
          | true => rfl
          | false => exact absurd (List.mem_map.2 ⟨x, hx, e⟩) h1) h
  have HM := Lib.hid hm
  clear hm hb
  go_enter Tryz.func127, Tryz.ntmps127
  go_wp2_with fail
  refine (indexB_any A n c lo _ w hn hb2).mono ?_
  rintro e w2 ⟨⟨k, rfl, hk⟩, q, rfl⟩
  have HK := Lib.hid hk
  clear hk hb2
  obtain ⟨r, hr⟩ : ∃ r, (bs.all (·.2)) = r := ⟨_, rfl⟩
  have HR := Lib.hid hr
  clear hr
  by_cases h0 : 0 ≤ k
  · have hd : decide (0 ≤ k) = true := decide_eq_true h0
    have he : r = false := by rw [← HR.out]; exact HM.out.1 (HK.out.1 h0)
    subst he
    go_wp2
    go_ret
    exact ⟨by rw [HR.out] <;> rfl, q, rfl⟩
  · have hd : decide (0 ≤ k) = false := decide_eq_false h0
    have he : r = true := by
      cases r with
      | true => rfl
      | false => exact absurd (HK.out.2 (HM.out.2 HR.out)) h0
    subst he
    go_wp2
    go_ret
    exact ⟨by rw [HR.out] <;> rfl, q, rfl⟩
set_option maxHeartbeats 1600000 in
theorem indexF_any (K : FuncId) (p o : Nat) (f : Int → Bool) (A : Option Addr) (n c : Nat) (l : List Int) (B : Nat) (w : World) (hK : ∀ args w, (callFunc K args).run Tryz.prog w = .ok (.enter K args) w) (hn : n ≤ 1048576) (hb : Ints w B A n l)
    (hp : ∀ x q, Calls Tryz.prog K #[.pointer (some ⟨p, o, none⟩), .int .i64 x] (w.drewN q) fun e w' => e = .returned (.bool (f x)) ∧ ∃ q', w' = w.drewN q') :
    Calls Tryz.prog 131 #[.slice A n c, .func (.func K) #[.pointer (some ⟨p, o, none⟩)] #[]] w fun e w' => (∃ k : Int, e = .returned (.int .i64 k) ∧ (0 ≤ k ↔ l.any f = true)) ∧ ∃ q, w' = w.drewN q := by
  have mixed : Tryz.prog.follows .mixedOrders = true := by kernel_rfl
  have hlen := hb.1
  have HB := Lib.hid hb
  have HP := Lib.hid hp
  clear hb hp
  go_enter Tryz.func131, Tryz.ntmps131
  go_wp2
  go_loopw [8] (fun s8 wr => ∃ k q : Nat, k ≤ n ∧ s8 = .int .i64 k ∧ wr = w.drewN q ∧ ∀ j, j < k → f (l[j]?.getD 0) = false) (fun s8 _ => n - (intOf s8).toNat)
  case atStart => exact ⟨0, 0, Nat.zero_le _, rfl, rfl, fun j hj => absurd hj (Nat.not_lt_zero _)⟩
  case round =>
    obtain ⟨k, q, hk, rfl, hwq, h1⟩ := hrel
    have H1 := Lib.hid h1
    subst hwq
    clear h1
    by_cases hlt : k < n
    · obtain ⟨b, off, rfl, hbB, hcell⟩ := HB.out.2 (by omega)
      have cm : (w.drewN q).cell? ⟨b, off + k, none⟩ = some (.int .i64 (l[k]?.getD 0)) := hcell _ hlt
      have cm0 : w.cell? ⟨b, off + k, none⟩ = some (.int .i64 (l[k]?.getD 0)) := hcell _ hlt
      clear hcell
      obtain ⟨y, hy⟩ : ∃ y, l[k]?.getD 0 = y := ⟨_, rfl⟩
      rw [hy] at cm cm0
      have Y := Lib.hid hy
      clear hy
      go_wp2_with fail
      refine (HP.out y _).mono ?_
      rintro e w2 ⟨rfl, q', rfl⟩
      obtain ⟨r, hr⟩ : ∃ r, f y = r := ⟨_, rfl⟩
      have FR := Lib.hid hr
      rw [hr]
      clear hr cm cm0
      cases r with
      | true =>
        go_wp2
        go_ret
        refine ⟨⟨k, rfl, iff_of_true (by omega) ?_⟩, _, rfl⟩
        refine List.any_eq_true.2 ⟨y, ?_, FR.out⟩
        rw [← Y.out, List.getElem?_eq_getElem (by omega)]
        exact List.getElem_mem _
      | false =>
        go_wp2
        go_roundw
        case measure => simp [intOf]; omega
        case rel =>
          refine ⟨k + 1, _, by omega, by go_num, rfl, fun j hj => ?_⟩
          by_cases e : j = k
          · subst e; rw [Y.out]; exact FR.out
          · exact H1.out j (by omega)
    · obtain rfl : k = n := by omega
      go_wp2
      go_ret
      refine ⟨⟨-1, rfl, iff_of_false (by omega) (fun hm => ?_)⟩, _, rfl⟩
      obtain ⟨x, hx, hf⟩ := List.any_eq_true.1 hm
      obtain ⟨j, hj, rfl⟩ := List.mem_iff_getElem.1 hx
      have h2 := H1.out j (by omega)
      rw [List.getElem?_eq_getElem hj] at h2
      have h2 : f l[j] = false := h2
      rw [h2] at hf; cases hf
theorem containsF_any (K : FuncId) (p o : Nat) (f : Int → Bool) (A : Option Addr) (n c : Nat) (l : List Int) (B : Nat) (w : World) (hK : ∀ args w, (callFunc K args).run Tryz.prog w = .ok (.enter K args) w) (hn : n ≤ 1048576) (hb : Ints w B A n l)
    (hp : ∀ x q, Calls Tryz.prog K #[.pointer (some ⟨p, o, none⟩), .int .i64 x] (w.drewN q) fun e w' => e = .returned (.bool (f x)) ∧ ∃ q', w' = w.drewN q') :
    Calls Tryz.prog 96 #[.slice A n c, .func (.func K) #[.pointer (some ⟨p, o, none⟩)] #[]] w fun e w' => e = .returned (.bool (l.any f)) ∧ ∃ q, w' = w.drewN q := by
  go_enter Tryz.func96, Tryz.ntmps96
  go_wp2_with fail
  refine (indexF_any K p o f A n c l B w hK hn hb hp).mono ?_
  rintro e w2 ⟨⟨k, rfl, hk⟩, q, rfl⟩
  obtain ⟨r, hr⟩ : ∃ r, l.any f = r := ⟨_, rfl⟩
  rw [hr] at hk
  have HR := Lib.hid hr
  clear hb hp hr
  by_cases h0 : 0 ≤ k
  · have hd : decide (0 ≤ k) = true := decide_eq_true h0
    have he : r = true := hk.1 h0
    subst he
    clear hk
    go_wp2
    go_ret
    exact ⟨by rw [HR.out] <;> rfl, q, rfl⟩
  · have hd : decide (0 ≤ k) = false := decide_eq_false h0
    have he : r = false := by cases r with
      | false => rfl
      | true => exact absurd (hk.2 rfl) h0
    subst he
    clear hk
    go_wp2
    go_ret
    exact ⟨by rw [HR.out] <;> rfl, q, rfl⟩
end Go.Proofs.YtdhnhgppapkikaaGreatDoor

-- OpenIs: A base that is opened: where it lies, what is asked of it without changing it.
namespace Go.Proofs.YtdhnhgppapkikaaGreatDoor
set_option maxRecDepth 100000
set_option linter.unusedVariables false
set_option linter.unusedSimpArgs false
open Go.RowKit

/-- where the lists of an open base lie. -/
structure OLay where
  R : SR
  Ap : Option Addr
  np : Nat
  cp : Nat
  Ag : Option Addr
  ng : Nat
  cg : Nat
  Ab : Option Addr
  nb : Nat
  cb : Nat
/-- the box p holds the base b, opened. -/
structure OpenIs (w : World) (p lo : Nat) (L : OLay) (ps : List (Int × NV)) (b : MBase) : Prop where
  box : Box w p 63 #[.slice L.R.Ak ps.length L.R.ck, .slice L.R.Av ps.length L.R.cv, .int .i64 b.head, .slice L.Ap L.np L.cp, .int .i64 b.phase, .slice L.Ag L.ng L.cg, .slice L.Ab L.nb L.cb, .int .i64 b.cursor]
  nodes : NodesIs w lo L.R ps b.cells
  pins : Ints w w.heap.size L.Ap L.np b.pins
  grey : Ints w w.heap.size L.Ag L.ng b.grey
  black : Ints w w.heap.size L.Ab L.nb b.black
  sum : L.np + L.ng + L.nb ≤ 1048576
  cp : L.np ≤ L.cp
  cg : L.ng ≤ L.cg
  zg : L.Ag = none → L.cg = 0
section
variable {w w' : World} {p lo : Nat} {L : OLay} {ps : List (Int × NV)} {b : MBase}
theorem OpenIs.below (h : OpenIs w p lo L ps b) (hb : Below w.heap.size w w') : OpenIs w' p lo L ps b :=
  ⟨h.box.below hb h.box.lt, h.nodes.below hb, (h.pins.below hb).more hb.size, (h.grey.below hb).more hb.size, (h.black.below hb).more hb.size, h.sum, h.cp, h.cg, h.zg⟩
theorem OpenIs.drewN (h : OpenIs w p lo L ps b) (q : Nat) : OpenIs (w.drewN q) p lo L ps b := h.below (below_drewN (Below.refl _ _) q)
theorem OpenIs.c0 (h : OpenIs w p lo L ps b) : w.cell? ⟨p, 0, none⟩ = some (.slice L.R.Ak ps.length L.R.ck) := by simpa using h.box.cell 0
theorem OpenIs.c1 (h : OpenIs w p lo L ps b) : w.cell? ⟨p, 1, none⟩ = some (.slice L.R.Av ps.length L.R.cv) := by simpa using h.box.cell 1
theorem OpenIs.c2 (h : OpenIs w p lo L ps b) : w.cell? ⟨p, 2, none⟩ = some (.int .i64 b.head) := by simpa using h.box.cell 2
theorem OpenIs.c3 (h : OpenIs w p lo L ps b) : w.cell? ⟨p, 3, none⟩ = some (.slice L.Ap L.np L.cp) := by simpa using h.box.cell 3
theorem OpenIs.c4 (h : OpenIs w p lo L ps b) : w.cell? ⟨p, 4, none⟩ = some (.int .i64 b.phase) := by simpa using h.box.cell 4
theorem OpenIs.c5 (h : OpenIs w p lo L ps b) : w.cell? ⟨p, 5, none⟩ = some (.slice L.Ag L.ng L.cg) := by simpa using h.box.cell 5
theorem OpenIs.c6 (h : OpenIs w p lo L ps b) : w.cell? ⟨p, 6, none⟩ = some (.slice L.Ab L.nb L.cb) := by simpa using h.box.cell 6
theorem OpenIs.c7 (h : OpenIs w p lo L ps b) : w.cell? ⟨p, 7, none⟩ = some (.int .i64 b.cursor) := by simpa using h.box.cell 7
end
theorem drewN_below (w : World) (q : Nat) : Below w.heap.size w (w.drewN q) := below_drewN (Below.refl _ _) q
/-- what the list's method tells, in cells. -/
theorem atC_any {T : TypeId} {zs : Array Value} (p lo : Nat) (R : SR) (ns : List (Int × NV)) (cs : List (Int × List Int)) (m : Int) (w : World) (hr : Right cs) (hx : Box w p T zs) (hz0 : zs[0]? = some (R.kv ns.length)) (hz1 : zs[1]? = some (R.vv ns.length)) (hn : NodesIs w lo R ns cs) :
    Calls Tryz.prog 125 #[.pointer (some ⟨p, 0, none⟩), .int .i64 m] w fun e w' => ∃ (x : NV) (b : Bool), e = .returned (.tuple #[x.v, .bool b]) ∧ HitIs cs m x.nd b ∧ Kids w w.heap.size x.Ak x.nk x.nd.kids ∧ Below w.heap.size w w' := by
  refine (at_box p lo R ns m w hx hz0 hz1 hn.sl).mono ?_
  rintro e w2 ⟨x, b, rfl, hat, b2⟩
  have h2 := hn.find hr m
  rcases hat with ⟨ht, rfl, hi, he⟩ | ⟨ht, rfl, rfl⟩
  · obtain ⟨hi2, hfe⟩ := h2.1 ht
    refine ⟨x, true, rfl, .inl ⟨by omega, ?_⟩, ?_, b2⟩
    · have h1 := (hn.at_ _ hi).2
      rw [List.getElem?_eq_getElem hi, he] at h1
      rw [hfe]
      exact h1
    · obtain ⟨Ap, np, cp, Ak, nk, ck, e, _, _, _, _, h3⟩ := hn.sl.nodes (m, x) (by rw [← he]; exact List.getElem_mem hi)
      unfold NV.v at e
      injection e with e
      simp at e
      obtain ⟨⟨e1, e2, e3⟩, e4, e5, e6⟩ := e
      rw [e4, e5]
      exact h3
  · exact ⟨nv0, false, rfl, .inr ⟨h2.2 ht, rfl, rfl⟩, Kids.none_, b2⟩
theorem hit_find {cs : List (Int × List Int)} {m : Int} {nd : MNode} {b : Bool} (hr : Right cs) (h : HitIs cs m nd b) : b = true ↔ findC cs m < cs.length := by
  rcases h with ⟨h1, h2⟩ | ⟨h1, _, rfl⟩
  · exact iff_of_true ((IsNode.of h2).2 (hr.2 _ h1).1) h1
  · exact iff_of_false (by simp) h1
set_option maxHeartbeats 1600000 in
theorem hasAll_any (p lo : Nat) (L : OLay) (ps : List (Int × NV)) (b : MBase) (A : Option Addr) (n c : Nat) (l : List Int) (B : Nat) (w : World) (ho : OpenIs w p lo L ps b) (hr : Right b.cells) (hn : n ≤ 1048576) (hB : B ≤ w.heap.size) (hb : Ints w B A n l) :
    Calls Tryz.prog 92 #[.pointer (some ⟨p, 0, none⟩), .slice A n c] w fun e w' => SaysB e (Named b.cells l) ∧ Below w.heap.size w w' := by
  have hlen := hb.1
  have HB := Lib.hid (hb.more hB)
  have HO := Lib.hid ho
  have HR := Lib.hid hr
  clear hb ho hr
  go_enter Tryz.func92, Tryz.ntmps92
  go_wp2
  go_loopw [11] (fun s11 wr => ∃ k : Nat, k ≤ n ∧ s11 = .int .i64 k ∧ Named b.cells (l.take k) ∧ Below w.heap.size w wr) (fun s11 _ => n - (intOf s11).toNat)
  case atStart => exact ⟨0, Nat.zero_le _, rfl, (fun x hx => by simp at hx), Below.refl _ _⟩
  case round =>
    obtain ⟨k, hk, rfl, h1, hbel⟩ := hrel
    have H1 := Lib.hid h1
    have BR := Lib.hid hbel
    have hs := hbel.size
    clear h1
    by_cases hlt : k < n
    · obtain ⟨g, off, rfl, hgB, hcell⟩ := (HB.out.below hbel).2 (by omega)
      have cm : wr.cell? ⟨g, off + k, none⟩ = some (.int .i64 (l[k]?.getD 0)) := hcell _ hlt
      have hmem := getD_mem l k (by omega)
      have htk : l.take (k + 1) = l.take k ++ [l[k]?.getD 0] := by
        rw [List.take_succ_eq_append_getElem (by omega), List.getElem?_eq_getElem (by omega)]; rfl
      clear hcell hbel
      obtain ⟨y, hy⟩ : ∃ y, l[k]?.getD 0 = y := ⟨_, rfl⟩
      rw [hy] at cm hmem htk
      have TK := Lib.hid htk
      have HM := Lib.hid hmem
      have OR := Lib.hid (HO.out.below BR.out)
      clear hy hmem htk
      go_wp2_with fail
      refine (atC_any p lo L.R ps b.cells y wr HR.out OR.out.box rfl rfl OR.out.nodes).mono ?_
      rintro e w4 ⟨x, r, rfl, hit, _, b4⟩
      have hf := hit_find HR.out hit
      have FI := Lib.hid hf
      have B4 := Lib.hid (BR.out.trans (b4.mono hs))
      have s4 := b4.size
      clear hit hf b4 cm
      obtain ⟨Ap, np, cp, Ak, nk, ck, nd⟩ := x
      unfold NV.v
      obtain ⟨w5, hw5⟩ : ∃ w5, w4.alloc (.cells #[.int .i64 nd.kind, .slice Ap np cp, .slice Ak nk ck, .string nd.val] 134) = w5 := ⟨_, rfl⟩
      have b5 : Below w4.heap.size w4 w5 := hw5 ▸ (Below.refl _ _).alloc (Nat.le_refl _) _
      have B5 := Lib.hid (B4.out.trans (b5.mono (by omega)))
      clear b5
      cases r with
      | false =>
        go_wp2
        go_ret
        exact ⟨SaysB.f (fun h => absurd (FI.out.2 (h y HM.out)) (by simp)), B5.out⟩
      | true =>
        go_wp2
        go_roundw
        case measure => simp [intOf]; omega
        case rel =>
          refine ⟨k + 1, by omega, by go_num, ?_, B5.out⟩
          rw [TK.out]
          intro z hz
          rcases List.mem_append.1 hz with hz | hz
          · exact H1.out z hz
          · simp at hz; subst hz; exact FI.out.1 (by trivial)
    · obtain rfl : k = n := by omega
      have h2 := H1.out
      rw [List.take_of_length_le (by omega)] at h2
      have H2 := Lib.hid h2
      clear h2
      go_wp2
      go_ret
      exact ⟨SaysB.t H2.out, BR.out⟩
theorem isBlack_any (p lo : Nat) (L : OLay) (ps : List (Int × NV)) (b : MBase) (m : Int) (w : World) (ho : OpenIs w p lo L ps b) (hr : RiseI b.black) :
    Calls Tryz.prog 130 #[.pointer (some ⟨p, 4, none⟩), .int .i64 m] w fun e w' => e = .returned (.bool (decide (m ∈ b.black))) ∧ ∃ q, w' = w.drewN q := by
  have HO := Lib.hid ho
  have q6 := ho.c6
  have hsum := ho.sum
  clear ho
  go_enter Tryz.func130, Tryz.ntmps130
  go_wp2_with fail
  refine (search_any L.Ab L.nb L.cb b.black m w.heap.size w (by omega) HO.out.black hr).mono ?_
  rintro e w2 ⟨rfl, q, rfl⟩
  have he : hitI b.black m = decide (m ∈ b.black) := by
    have := hitI_mem b.black m hr
    cases h : hitI b.black m with
    | true => rw [h] at this; exact (decide_eq_true (this.1 rfl)).symm
    | false => rw [h] at this; exact (decide_eq_false (fun hm => absurd (this.2 hm) (by simp))).symm
  obtain ⟨r, hr⟩ : ∃ r, hitI b.black m = r := ⟨_, rfl⟩
  rw [hr] at he ⊢
  have HE := Lib.hid he
  obtain ⟨i, hi⟩ : ∃ i, lowI b.black m = i := ⟨_, rfl⟩
  rw [hi]
  clear he hr hi q6
  go_wp2
  go_ret
  exact ⟨by rw [← HE.out] <;> rfl, q, rfl⟩
theorem isWhite_any (p lo : Nat) (L : OLay) (ps : List (Int × NV)) (b : MBase) (m : Int) (w : World) (ho : OpenIs w p lo L ps b) (hr : RiseI b.black) :
    Calls Tryz.prog 97 #[.pointer (some ⟨p, 4, none⟩), .int .i64 m] w fun e w' => e = .returned (.bool (decide (m ∉ b.grey ∧ m ∉ b.black))) ∧ ∃ q, w' = w.drewN q := by
  have HO := Lib.hid ho
  have hsum := ho.sum
  clear ho
  go_enter Tryz.func97, Tryz.ntmps97
  go_wp2_with fail
  refine (isBlack_any p lo L ps b m w HO.out hr).mono ?_
  rintro e w2 ⟨rfl, q, rfl⟩
  by_cases hm : m ∈ b.black
  · have hd : decide (m ∈ b.black) = true := decide_eq_true hm
    have hf : decide (m ∉ b.grey ∧ m ∉ b.black) = false := decide_eq_false (fun h => h.2 hm)
    have HF := Lib.hid hf
    rw [hd]
    clear hd hf hm
    go_wp2
    go_ret
    exact ⟨by rw [HF.out] <;> rfl, q, rfl⟩
  · have hd : decide (m ∈ b.black) = false := decide_eq_false hm
    have q5 := (HO.out.drewN q).c5
    rw [hd]
    have HM := Lib.hid hm
    clear hd hm
    go_wp2_with fail
    refine (containsI_any L.Ag L.ng L.cg b.grey m w.heap.size (w.drewN q) (by omega) (HO.out.grey.drewN q)).mono ?_
    rintro e w3 ⟨rfl, q', rfl⟩
    have he : decide (m ∉ b.grey ∧ m ∉ b.black) = !decide (m ∈ b.grey) := by
      by_cases h : m ∈ b.grey
      · rw [decide_eq_true h]; exact decide_eq_false (fun hh => hh.1 h)
      · rw [decide_eq_false h]; exact decide_eq_true ⟨h, HM.out⟩
    obtain ⟨r, hr⟩ : ∃ r, decide (m ∈ b.grey) = r := ⟨_, rfl⟩
    rw [hr] at he ⊢
    have HE := Lib.hid he
    clear he hr q5
    go_wp2
    go_ret
    exact ⟨by rw [HE.out] <;> rfl, q + q', by first | rfl | simp⟩
end Go.Proofs.YtdhnhgppapkikaaGreatDoor

-- Clone: slices.Clone at int64, as the program calls it. No statement of the program is proved here.
namespace Go.Proofs.YtdhnhgppapkikaaGreatDoor
set_option maxRecDepth 100000
set_option linter.unusedVariables false
set_option linter.unusedSimpArgs false
open Go.RowKit

set_option maxHeartbeats 2000000 in
theorem clone_any (A : Option Addr) (n c : Nat) (xs : List Int) (B : Nat) (w : World) (hn : n ≤ 1048576) (hB : B ≤ w.heap.size) (hb : Ints w B A n xs) :
    Calls Tryz.prog 63 #[.slice A n c] w fun e w' => ∃ A' n' c', e = .returned (.slice A' n' c') ∧ OwnI w' w.heap.size A' n' c' xs ∧ Below w.heap.size w w' := by
  obtain ⟨i0, hi0, hz0, hz1, hz2⟩ := info_parts Tryz.infoInsI
  have hlen := hb.1
  have hq : ∀ (w : World) (a : Option Addr) (n c n' c' : Nat), (binOp .eql 25 (.slice a n c) (.slice none n' c')).run Tryz.prog w = .ok (.bool a.isNone) w := fun w a n c n' c' => Lib.run_eql_slice_nil w _ _ a n c n' c' Tryz.underlying25
  have mixed : Tryz.prog.follows .mixedOrders = true := by kernel_rfl
  have HB := Lib.hid (hb.more hB)
  clear hb
  cases A with
  | none =>
    have hn0 : n = 0 := by
      rcases Nat.eq_zero_or_pos n with h | h
      · exact h
      · obtain ⟨b, off, e, _⟩ := HB.out.2 h
        cases e
    subst hn0
    have hx : xs = [] := List.length_eq_zero_iff.1 hlen
    subst hx
    go_enter Tryz.func63, Tryz.ntmps63
    go_wp2
    go_ret
    exact ⟨none, 0, 0, rfl, World.ownsRow_nil _ _ _ _, Below.refl _ _⟩
  | some a =>
    go_enter Tryz.func63, Tryz.ntmps63
    go_wp2_with (at_builtin; refine wpList_append_own _ rfl _ _ 25 rfl w.heap.size 2 i0 (.int .i64 0) 1 8 Tryz.underlying25 hi0 hz0 hz1 hz2 rfl (by decide) _ _ _ rfl (World.ownsRow_made w #[] 0 (Nat.le_refl _) (Nat.zero_le _) rfl) a n c (xs.map (Value.int .i64)) rfl ?qc1 ?qc2 ?qc3 ?qc4 ?qc5 ?qc6 ?_)
    case qc1 => simp; omega
    case qc2 =>
      intro j u hj
      have hjn : j < n := by
        have := (List.getElem?_eq_some_iff.1 hj).1
        simp at this
        omega
      obtain ⟨b, off, e, hb, hc⟩ := (HB.out.alloc (Nat.le_refl _) (.cells #[] 2)).at_ hjn
      cases e
      rw [Addr.add_lit]
      rw [List.getElem?_map, List.getElem?_eq_getElem (by omega)] at hj
      rw [List.getElem?_eq_getElem (by omega)] at hc
      cases hj
      exact hc
    case qc3 => intro u hu; obtain ⟨x, _, rfl⟩ := List.mem_map.1 hu; rfl
    case qc4 => unfold maxLen; omega
    case qc5 => omega
    case qc6 => simp
    intro v' w1 hown hgrow hnil
    have H := Lib.hid hown
    obtain ⟨A', c', rfl⟩ := own_slice hown
    have hb2 := ((Below.refl w.heap.size w).alloc (Nat.le_refl _) (.cells #[] 2)).grown hgrow (by simp) (by intro k hk; simp [Value.ownBlock] at hk; omega)
    have H2 := Lib.hid hb2
    clear hown hgrow hnil hb2
    go_wp2
    go_ret
    exact ⟨A', n, c', rfl, H.out, H2.out⟩
end Go.Proofs.YtdhnhgppapkikaaGreatDoor

-- WithN: The program's withName: a name among rising names, each once; what is kept of an open base.
namespace Go.Proofs.YtdhnhgppapkikaaGreatDoor
set_option maxRecDepth 100000
set_option linter.unusedVariables false
set_option linter.unusedSimpArgs false
open Go.RowKit

def putI (l : List Int) (m : Int) : List Int := if m ∈ l then l else insI l m
theorem keptOf_put (b : MBase) : keptOf b = if b.head = 0 then b.pins else putI b.pins b.head := by
  unfold keptOf putI
  by_cases h : b.head = 0
  · simp [h]
  · simp [h]
/-- a row of numbers of the call's own, behind a call that may have written it. -/
structure NewI (w w' : World) (lo : Nat) (A : Option Addr) (n c : Nat) (A' : Option Addr) (n' c' : Nat) (l' : List Int) : Prop where
  own : OwnI w' lo A' n' c' l'
  touch : Touch (fun g => (Value.slice A n c).ownBlock = some g) w w'
  from_ : ∀ g, (Value.slice A' n' c').ownBlock = some g → (Value.slice A n c).ownBlock = some g ∨ w.heap.size ≤ g
theorem NewI.same {w w' : World} {lo : Nat} {A : Option Addr} {n c : Nat} {l : List Int} (h : OwnI w lo A n c l) (b : Below w.heap.size w w') : NewI w w' lo A n c A n c l :=
  ⟨h.below b, Touch.of_below b, fun g hg => .inl hg⟩
set_option maxHeartbeats 1600000 in
theorem withName_any (A : Option Addr) (n c : Nat) (l : List Int) (m : Int) (lo : Nat) (w : World) (h : OwnI w lo A n c l) (hr : RiseI l) (hn : n ≤ 1048000) (hlo : lo ≤ w.heap.size) :
    Calls Tryz.prog 80 #[.slice A n c, .int .i64 m] w fun e w' => ∃ A' n' c', e = .returned (.slice A' n' c') ∧ NewI w w' lo A n c A' n' c' (putI l m) := by
  have HO := Lib.hid h
  have hlen := h.len
  have hmem := hitI_mem l m hr
  have hins : m ∉ l → insP l (lowI l m) m = insI l m := insP_low l m
  have hle := lowI_le l m
  have HM := Lib.hid hmem
  have HI := Lib.hid hins
  clear hmem hins
  go_enter Tryz.func80, Tryz.ntmps80
  go_wp2_with fail
  refine (search_any A n c l m w.heap.size w (by omega) HO.out.ints hr).mono ?_
  rintro e w2 ⟨rfl, q, rfl⟩
  have B2 := Lib.hid (drewN_below w q)
  have O2 := Lib.hid (h.below B2.out)
  clear h hr
  obtain ⟨ht, hht⟩ : ∃ ht, hitI l m = ht := ⟨_, rfl⟩
  have HT := Lib.hid hht
  rw [hht]
  clear hht
  obtain ⟨i, hi⟩ : ∃ i, lowI l m = i := ⟨_, rfl⟩
  have II := Lib.hid hi
  rw [hi] at hle ⊢
  clear hi
  cases ht with
  | true =>
    go_wp2
    go_ret
    refine ⟨_, _, _, rfl, ?_⟩
    rw [show putI l m = l from if_pos (HM.out.1 HT.out)]
    exact NewI.same HO.out B2.out
  | false =>
    have hno : m ∉ l := fun hm => by have := HM.out.2 hm; rw [HT.out] at this; cases this
    have HN := Lib.hid hno
    clear hno
    obtain ⟨w3, hw3⟩ : ∃ w3, (w.drewN q).alloc (.cells #[.int .i64 m] 2) = w3 := ⟨_, rfl⟩
    have b3 : Below (w.drewN q).heap.size (w.drewN q) w3 := hw3 ▸ (Below.refl _ _).alloc (Nat.le_refl _) _
    have y3 : w3.heap[w.heap.size]? = some (.cells #[.int .i64 m] 2 (0, 0)) := hw3 ▸ heap_alloc_new (w.drewN q) _
    have s3 : w3.heap.size = w.heap.size + 1 := by rw [← hw3]; simp
    have Y3 := Lib.hid y3
    have B3 := Lib.hid (B2.out.trans b3)
    have O3 := Lib.hid (HO.out.below B3.out)
    clear b3 y3
    go_wp2_with fail
    refine (insI_any lo n c i w.heap.size _ A (l.map (Value.int .i64)) [.int .i64 m] w3 O3.out (by omega) (by omega) (by omega) Y3.out rfl (by intro u hu; simp at hu; subst hu; rfl) (kvs_one _) (fun e => by have := (HO.out.lt _ e).2; omega)).mono ?_
    rintro e w4 ⟨g4, c4, rfl, o4, gr4, at4⟩
    have e4 : putAt (l.map (Value.int .i64)) [.int .i64 m] (i * 1) = (putI l m).map (Value.int .i64) := by
      rw [show putI l m = insI l m from if_neg HN.out, ← HI.out HN.out, II.out]
      unfold putAt insP
      simp [List.map_take, List.map_drop]
    rw [e4] at o4
    have NW : NewI w w4 lo A n c (some ⟨g4, 0, none⟩) (n + 1) c4 (putI l m) :=
      ⟨o4, (Touch.of_below B3.out).trans ((Touch.of_grown gr4).mono (fun k hk => hk.symm)), fun g hg => by
        simp [Value.ownBlock] at hg
        subst hg
        exact at4.elim .inl (fun h => .inr (by omega))⟩
    have NW := Lib.hid NW
    clear o4 gr4 at4 e4 hw3
    go_wp2
    go_ret
    exact ⟨_, _, _, rfl, NW.out⟩
set_option maxHeartbeats 1600000 in
theorem kept_any (p lo : Nat) (L : OLay) (ps : List (Int × NV)) (b : MBase) (w : World) (ho : OpenIs w p lo L ps b) (hr : RiseI b.pins) (h6 : L.np ≤ 6) :
    Calls Tryz.prog 54 #[.pointer (some ⟨p, 0, none⟩)] w fun e w' => ∃ A n c, e = .returned (.slice A n c) ∧ OwnI w' w.heap.size A n c (keptOf b) ∧ n ≤ 7 ∧ Below w.heap.size w w' := by
  have HO := Lib.hid ho
  have q2 := ho.c2
  have q3 := ho.c3
  have KP := Lib.hid (keptOf_put b)
  have hlp := ho.pins.1
  have KL := Lib.hid (keptOf_len b)
  clear ho
  go_enter Tryz.func54, Tryz.ntmps54
  go_wp2_with fail
  refine (clone_any L.Ap L.np L.cp b.pins w.heap.size w (by omega) (Nat.le_refl _) HO.out.pins).mono ?_
  rintro e w2 ⟨A2, n2, c2, rfl, o2, b2⟩
  have O2 := Lib.hid o2
  have B2 := Lib.hid b2
  have hn2 := o2.len
  have s2 := b2.size
  have OO := Lib.hid (HO.out.below b2)
  clear o2 b2 q2 q3
  have q2 := OO.out.c2
  by_cases h0 : b.head = 0
  · have hb0 : (b.head == 0) = true := by simpa using h0
    have KE := KP.out
    rw [if_pos h0] at KE
    have KE := Lib.hid KE
    clear h0
    go_wp2
    go_ret
    refine ⟨_, _, _, rfl, ?_, by omega, B2.out⟩
    rw [KE.out]
    exact O2.out
  · have hb0 : (b.head == 0) = false := by simpa using h0
    have KE := KP.out
    rw [if_neg h0] at KE
    have KE := Lib.hid KE
    clear h0
    go_wp2_with fail
    refine (withName_any A2 n2 c2 b.pins b.head w.heap.size w2 O2.out hr (by omega) s2).mono ?_
    rintro e w3 ⟨A3, n3, c3, rfl, nw⟩
    have NW := Lib.hid nw
    have hn3 := nw.own.len
    rw [← KE.out] at hn3
    clear nw q2
    go_wp2
    go_ret
    have := KL.out
    refine ⟨_, _, _, rfl, ?_, by omega, B2.out.trans (NW.out.touch.below s2 (fun k hk e => by have := (O2.out.lt k e).1; omega))⟩
    rw [KE.out]
    exact NW.out.own
end Go.Proofs.YtdhnhgppapkikaaGreatDoor

-- ReachF: The program's way through the nodes that are reached.
namespace Go.Proofs.YtdhnhgppapkikaaGreatDoor
set_option maxRecDepth 100000
set_option linter.unusedVariables false
set_option linter.unusedSimpArgs false
open Go.RowKit

/-- all flags are up. -/
def allB (bs : List (Int × Bool)) : Bool := bs.all (·.2)
theorem allB_ins (bs : List (Int × Bool)) (i : Nat) (q : Int × Bool) : allB (insP bs i q) = (allB bs && q.2) := by
  unfold allB insP
  conv => rhs; rw [← List.take_append_drop i bs]
  rw [List.all_append, List.all_append, List.all_cons]
  cases (List.take i bs).all (·.2) <;> cases (List.drop i bs).all (·.2) <;> cases q.2 <;> rfl
theorem kbs_ins (bs : List (Int × Bool)) (m : Int) (x : Bool) (h : RiseI (kbs bs)) (ht : hitI (kbs bs) m = false) : m ∉ kbs bs ∧ kbs (insP bs (lowI (kbs bs) m) (m, x)) = insI (kbs bs) m := by
  have hm : m ∉ kbs bs := fun hm => by rw [(hitI_mem _ _ h).2 hm] at ht; cases ht
  exact ⟨hm, by rw [← insP_low _ _ hm]; exact insP_map _ _ _ _⟩
theorem NV.kids {w : World} {B : Nat} {x : NV} (h : NodeIn w B x.v x.nd) : Kids w B x.Ak x.nk x.nd.kids := by
  obtain ⟨Ap, np, cp, Ak, nk, ck, e, _, _, _, _, h2⟩ := h
  unfold NV.v at e
  injection e with e
  simp at e
  obtain ⟨⟨e1, e2, e3⟩, e4, e5, e6⟩ := e
  rw [e4, e5]
  exact h2
/-- what stands under a name in the list is what stands there among the cells. -/
theorem NodesIs.hit {w : World} {lo : Nat} {R : SR} {ps : List (Int × NV)} {cs : List (Int × List Int)} (h : NodesIs w lo R ps cs) (hr : Right cs) {m : Int} {x : NV} {b : Bool} (hat : AtIs ps m x b) : HitIs cs m x.nd b ∧ Kids w w.heap.size x.Ak x.nk x.nd.kids := by
  have hf := h.find hr m
  rcases hat with ⟨ht, rfl, hi, he⟩ | ⟨ht, rfl, rfl⟩
  · obtain ⟨hi2, hfe⟩ := hf.1 ht
    refine ⟨.inl ⟨by omega, ?_⟩, NV.kids (h.sl.nodes (m, x) (by rw [← he]; exact List.getElem_mem hi))⟩
    have h1 := (h.at_ _ hi).2
    rw [List.getElem?_eq_getElem hi, he] at h1
    rw [hfe]
    exact h1
  · exact ⟨.inr ⟨hf.2 ht, rfl, rfl⟩, Kids.none_⟩
/-- how long the list is that stands in a box. -/
def cellLen (w : World) (g : Nat) : Nat := lenOf ((w.cell? ⟨g, 0, none⟩).getD (.int .i64 0))
theorem cellLen_is {w : World} {g : Nat} {t : TypeId} {R : SR} {n : Nat} (h : Box w g t #[R.kv n, R.vv n]) : cellLen w g = n := by
  unfold cellLen
  rw [h.cell 0]
  rfl
theorem SLB.base {w : World} {lo lo' : Nat} {R : SR} {bs : List (Int × Bool)} (h : SLB w lo R bs) (hl : lo' ≤ lo) : SLB w lo' R bs := by
  refine ⟨h.keys.base hl, ⟨h.vals.1, ?_⟩, h.rise, h.len⟩
  rcases h.vals.2 with h | ⟨g, cap, cur, hv, hg, r⟩
  · exact .inl h
  · exact .inr ⟨g, cap, cur, hv, Nat.le_trans hl hg, r⟩
set_option maxHeartbeats 4000000 in
theorem reachedFrom_any (lo0 : Nat) (R : SR) (ps : List (Int × NV)) (cs : List (Int × List Int)) (Ar : Option Addr) (nr cr : Nat) (roots : List Int) (B : Nat) (w : World) (hD : NodesIs w lo0 R ps cs) (hR : Right cs) (hnr : nr ≤ 80) (hcr : nr ≤ cr) (hAr : Ar = none → cr = 0) (hB : B ≤ w.heap.size) (hbr : Ints w B Ar nr roots) :
    Calls Tryz.prog 93 #[.agg #[R.kv ps.length, R.vv ps.length], .slice Ar nr cr] w fun e w' => ∃ A n c l b, e = .returned (.tuple #[.slice A n c, .bool b]) ∧ Going cs roots l [] b ∧ OwnI w' w.heap.size A n c l ∧ Below w.heap.size w w' := by
  have HD := Lib.hid hD
  have RT := Lib.hid hR
  have hlr := hbr.1
  have hcs : cs.length ≤ 80 := hR.1
  obtain ⟨i0, hi, hz0, hz1, hz2⟩ := info_parts Tryz.infoI
  have HI := Lib.hid hi
  have HZ0 := Lib.hid hz0
  have HZ1 := Lib.hid hz1
  have HZ2 := Lib.hid hz2
  clear hi hz0 hz1 hz2
  obtain ⟨w0, hw0⟩ : ∃ w0, (w.alloc (.cells #[R.kv ps.length, R.vv ps.length] 59)).alloc (.cells #[.slice none 0 0, .slice none 0 0] 193) = w0 := ⟨_, rfl⟩
  have N0 := Lib.hid (show Box w0 w.heap.size 59 #[R.kv ps.length, R.vv ps.length] from hw0 ▸ heap2_0 _ _ _)
  have P0 := Lib.hid (show Box w0 (w.heap.size + 1) 193 #[.slice none 0 0, .slice none 0 0] from hw0 ▸ heap2_1 _ _ _)
  have s0 : w0.heap.size = w.heap.size + 2 := hw0 ▸ size2 _ _ _
  have B0 := Lib.hid (show Below w.heap.size w w0 from hw0 ▸ below2 _ _ _)
  have HBR := Lib.hid ((hbr.more hB).below B0.out)
  clear hD hR hbr
  go_enter Tryz.func93, Tryz.ntmps93
  go_wp2_with fail
  clear hw0
  refine (clone_any Ar nr cr roots w.heap.size w0 (by omega) (by omega) HBR.out).mono ?_
  rintro e w2 ⟨A2, n2, c2, rfl, o2, b2⟩
  have hn2 := o2.len
  have s2 := b2.size
  have O2 := Lib.hid o2
  have N2 := Lib.hid (N0.out.below b2 (by omega))
  have P2 := Lib.hid (P0.out.below b2 (by omega))
  have B2 := Lib.hid (B0.out.trans (b2.mono (by omega)))
  clear o2 b2
  go_wp2
  go_loopw [7] (fun t wr => ∃ (At : Option Addr) (nt ct : Nat) (R' : SR) (bs : List (Int × Bool)) (todo : List Int), t = .slice At nt ct ∧ OwnI wr (w.heap.size + 2) At nt ct todo ∧ Box wr (w.heap.size + 1) 193 #[R'.kv bs.length, R'.vv bs.length] ∧ SLB wr (w.heap.size + 2) R' bs ∧
      Box wr w.heap.size 59 #[R.kv ps.length, R.vv ps.length] ∧ (∀ g, (Value.slice At nt ct).ownBlock = some g → ¬ R'.at_ g) ∧ Going cs roots (kbs bs) todo (allB bs) ∧ nt + 17 * (1360 - bs.length) ≤ 23200 ∧ Below w.heap.size w wr)
    (fun t wr => lenOf t + 17 * (1360 - cellLen wr (w.heap.size + 1)))
  case atStart =>
    exact ⟨A2, n2, c2, SR0, [], roots, rfl, by rw [← s0]; exact O2.out, P2.out, SLB.nil _ _, N2.out, (fun g hg h => by rcases h with ⟨a, ha, _⟩ | ⟨a, ha, _⟩ <;> cases ha), Going.start cs roots, by simp; omega, B2.out⟩
  case round =>
    obtain ⟨At, nt, ct, R', bs, todo, rfl, hot, hpb, hsb, hnb, hap, hgo, hbd, hbel⟩ := hrel
    have hlt := hot.len
    have hgl := hgo.len
    rw [kbs_len] at hgl
    have hs0 := hbel.size
    have hcl := cellLen_is hpb
    have hp1 := hpb.lt
    have TR := Lib.hid hot
    have PB := Lib.hid hpb
    have SB := Lib.hid hsb
    have NB := Lib.hid hnb
    have AP := Lib.hid hap
    have GR := Lib.hid hgo
    have BR := Lib.hid hbel
    have CL := Lib.hid hcl
    clear hot hpb hsb hnb hap hgo hbel hcl
    by_cases h0 : nt = 0
    · obtain rfl := h0
      obtain rfl : todo = [] := List.eq_nil_of_length_eq_zero hlt
      have p0 := PB.out.cell 0
      have p1 := PB.out.cell 1
      unfold SR.kv at p0
      unfold SR.vv at p1
      simp at p0 p1
      have hpl := PB.out.lt
      have hcl : ∀ W, Below wr.heap.size wr W → W.cell? ⟨w.heap.size + 1, 0, none⟩ = some (.slice R'.Ak bs.length R'.ck) ∧ W.cell? ⟨w.heap.size + 1, 1, none⟩ = some (.slice R'.Av bs.length R'.cv) := fun W hW => ⟨(hW.cell (p := ⟨w.heap.size + 1, 0, none⟩) hpl).trans p0, (hW.cell (p := ⟨w.heap.size + 1, 1, none⟩) hpl).trans p1⟩
      have hc0 : ∀ W, Below wr.heap.size wr W → W.cell? ⟨w.heap.size + 1, 0, none⟩ = some (.slice R'.Ak bs.length R'.ck) := fun W hW => (hcl W hW).1
      have hc1 : ∀ W, Below wr.heap.size wr W → W.cell? ⟨w.heap.size + 1, 1, none⟩ = some (.slice R'.Av bs.length R'.cv) := fun W hW => (hcl W hW).2
      have hbl := SB.out.len
      have hcb : ∀ W, Below wr.heap.size wr W → Calls Tryz.prog 127 #[.slice R'.Av bs.length R'.cv, .bool false] W fun e w' => e = .returned (.bool (!allB bs)) ∧ Below wr.heap.size wr w' :=
        fun W hW => (containsB_any R'.Av bs.length R'.cv (w.heap.size + 2) bs W (by omega) ((SB.out.below hW).vals)).mono (fun e w' h => ⟨h.1, by obtain ⟨q, e⟩ := h.2; rw [e]; exact below_drewN hW q⟩)
      have CB := Lib.hid hcb
      clear hcl hcb p0 p1
      go_wp2
      go_region_held3 (fun W => Below wr.heap.size wr W) (first | exact (Below.refl _ _).drew | assumption)
        (first | (go_at_call 127
                  refine (CB.out _ (by assumption)).mono ?_
                  rintro e w5 ⟨rfl, h5⟩))
      all_goals
        clear hc0 hc1
        obtain ⟨fl, hfl⟩ : ∃ fl, allB bs = fl := ⟨_, rfl⟩
        have FL := Lib.hid hfl
        rw [hfl]
        clear hfl
        go_wp2
        go_ret2
        refine ⟨_, _, _, kbs bs, fl, rfl, FL.out ▸ GR.out, ?_, BR.out.trans (h5.mono hs0)⟩
        exact ((SB.out.below h5).base (show w.heap.size ≤ w.heap.size + 2 by omega)).keys
    · obtain ⟨q, rfl⟩ : ∃ q, nt = q + 1 := ⟨nt - 1, by omega⟩
      obtain ⟨gt, hgt, hgt1, hgt2⟩ := TR.out.form (by omega)
      subst hgt
      have hq0 := TR.out.cell (k := q) (by omega)
      have hlast := TR.out.last
      obtain ⟨m, hmq⟩ : ∃ m, todo[q]?.getD 0 = m := ⟨_, rfl⟩
      rw [hmq] at hq0 hlast
      have G1 := GR.out
      rw [hlast] at G1
      have GR := Lib.hid G1
      have hct := TR.out.cap
      have T1 := Lib.hid TR.out.short
      have hgr : ¬ R'.at_ gt := AP.out gt rfl
      have HGR := Lib.hid hgr
      clear G1 TR hlast hmq AP hgr
      generalize todo.take q = td at T1 GR
      have hd : decide ((0 : Int) < ((q + 1 : Nat) : Int)) = true := decide_eq_true (by omega)
      have hwk : IntKind.i64.wrap (((q + 1 : Nat) : Int) - 1) = (q : Int) := by rw [IntKind.wrap_i64]; omega
      by_cases hm0 : m = 0
      · have hb0 : (m == 0) = true := by simp [hm0]
        go_wp2
        go_roundw
        case rel => exact ⟨some ⟨gt, 0, none⟩, q, ct, R', bs, td, rfl, T1.out, PB.out, SB.out, NB.out, (fun g hg => by simp [Value.ownBlock] at hg; subst hg; exact HGR.out), GR.out.skip (.inl hm0), by omega, BR.out⟩
        case measure => rw [CL.out]; simp [lenOf]
      · have hb0 : (m == 0) = false := by simpa using hm0
        have HM0 := Lib.hid hm0
        clear hm0
        go_wp2_with fail
        refine (at_any w.heap.size lo0 R ps m wr NB.out (HD.out.below BR.out).sl).mono ?_
        rintro e w4 ⟨x, r, rfl, hat, b4⟩
        have hs4 := b4.size
        have hit := (HD.out.below BR.out).hit RT.out hat
        have h16 := hit_kids hit.1
        have HIT := Lib.hid hit.1
        have hatx : Kids w w.heap.size x.Ak x.nk x.nd.kids := (HD.out.hit RT.out hat).2
        have KX := Lib.hid hatx
        have hkl := hatx.1
        have T4 := Lib.hid (T1.out.below b4)
        have P4 := Lib.hid (PB.out.below b4 (by omega))
        have S4 := Lib.hid (SB.out.below b4)
        have N4 := Lib.hid (NB.out.below b4 (by omega))
        have B4 := Lib.hid (BR.out.trans (b4.mono hs0))
        have RL := Lib.hid (fun g hg => (SB.out.lt g hg).2)
        clear hat hit hatx b4
        obtain ⟨Ap, np, cp, Ak, nk, ck, nd⟩ := x
        simp only at h16 KX HIT hkl
        unfold NV.v
        obtain ⟨w5, hw5⟩ : ∃ w5, w4.alloc (.cells #[.int .i64 nd.kind, .slice Ap np cp, .slice Ak nk ck, .string nd.val] 134) = w5 := ⟨_, rfl⟩
        have b5 : Below w4.heap.size w4 w5 := hw5 ▸ (Below.refl _ _).alloc (Nat.le_refl _) _
        have X5 := Lib.hid (show Box w5 w4.heap.size 134 #[.int .i64 nd.kind, .slice Ap np cp, .slice Ak nk ck, .string nd.val] from hw5 ▸ heap_alloc_new _ _)
        have s5 : w5.heap.size = w4.heap.size + 1 := hw5 ▸ by simp
        have T5 := Lib.hid (T4.out.below b5)
        have P5 := Lib.hid (P4.out.below b5 (by omega))
        have S5 := Lib.hid (S4.out.below b5)
        have N5 := Lib.hid (N4.out.below b5 (by omega))
        have B5 := Lib.hid (B4.out.trans (b5.mono (by omega)))
        clear b5
        go_wp2_with fail
        clear hw5
        refine (putB_any (w.heap.size + 1) (w.heap.size + 2) R' bs m r w5 P5.out S5.out (by omega) (by omega)).mono ?_
        rintro e w6 (⟨h6, rfl, b6⟩ | ⟨h6, rfl, R6, p6, l6, f6, t6⟩)
        · have hin : m ∈ kbs bs := (hitI_mem _ _ SB.out.rise).1 h6
          have HIN := Lib.hid hin
          have hs6 := b6.size
          have T6 := Lib.hid (T5.out.below b6)
          have P6 := Lib.hid (P5.out.below b6 (by omega))
          have S6 := Lib.hid (S5.out.below b6)
          have N6 := Lib.hid (N5.out.below b6 (by omega))
          have B6 := Lib.hid (B5.out.trans (b6.mono (by omega)))
          have C6 := Lib.hid (cellLen_is P6.out)
          clear hin h6 b6
          go_wp2
          go_roundw
          case rel => exact ⟨some ⟨gt, 0, none⟩, q, ct, R', bs, td, rfl, T6.out, P6.out, S6.out, N6.out, (fun g hg => by simp [Value.ownBlock] at hg; subst hg; exact HGR.out), GR.out.skip (.inr HIN.out), by omega, B6.out⟩
          case measure => rw [CL.out, C6.out]; simp [lenOf]
        · have hki := kbs_ins bs m r SB.out.rise h6
          have gt6 := GR.out.take RT.out HM0.out hki.1 HIT.out
          have hs6 := t6.size
          have hgn : ∀ g, g < w5.heap.size → ¬ R'.at_ g → g ≠ w.heap.size + 1 → w6.heap[g]? = w5.heap[g]? := fun g h1 h2 h3 => t6.block g h1 (fun e => e.elim h3 h2)
          have hno : ∀ g, g < w.heap.size + 2 ∨ wr.heap.size ≤ g → ¬ R'.at_ g := fun g h1 h2 => by
            have h3 := RL.out g h2
            have h4 := (SB.out.lt g h2).1
            omega
          have X6 := Lib.hid (show Box w6 w4.heap.size _ _ from (hgn _ (by omega) (hno _ (by omega)) (by omega)).trans X5.out)
          have N6 := Lib.hid (show Box w6 w.heap.size _ _ from (hgn _ (by omega) (hno _ (by omega)) (by omega)).trans N5.out)
          have T6 := Lib.hid (T5.out.touch t6 (fun g hg e => by simp [Value.ownBlock] at hg; subst hg; exact e.elim (fun e => by omega) HGR.out))
          have B6 := Lib.hid (B5.out.trans (t6.below (by omega) (fun k hk e => e.elim (fun e => by omega) (fun e => hno k (by omega) e))))
          have P6 := Lib.hid p6
          have L6 := Lib.hid l6
          have hgr6 : ¬ R6.at_ gt := fun e => (f6 gt e).elim HGR.out (fun e => by omega)
          have HG6 := Lib.hid hgr6
          have RL6 := Lib.hid (fun g hg => (l6.lt g hg).2)
          have hl6 : (insP bs (lowI (kbs bs) m) (m, r)).length = bs.length + 1 := insP_len _ _ _ (lowB_len bs m)
          rw [← hl6] at p6
          have C6 := Lib.hid (cellLen_is p6)
          have hgl6 := gt6.len
          rw [insI_len, kbs_len] at hgl6
          rw [← hki.2, show (allB bs && r) = allB (insP bs (lowI (kbs bs) m) (m, r)) from (allB_ins bs (lowI (kbs bs) m) (m, r)).symm] at gt6
          have GT := Lib.hid gt6
          have P6 := Lib.hid p6
          have q62 := X6.out.cell 2
          simp at q62
          have hx6 := X6.out.lt
          generalize insP bs (lowI (kbs bs) m) (m, r) = bs6 at hl6 L6 GT C6 P6 RL6
          clear hki gt6 hgn hno p6 l6 f6 t6 hgr6 h6
          go_wp2
          go_loopw [7, 43] (fun t i wr => ∃ (k gk ck' : Nat), k ≤ nk ∧ i = .int .i64 k ∧ t = .slice (some ⟨gk, 0, none⟩) (q + k) ck' ∧ (gk = gt ∨ w6.heap.size ≤ gk) ∧ OwnI wr (w.heap.size + 2) (some ⟨gk, 0, none⟩) (q + k) ck' (td ++ (nd.kids.take k).map (·.2)) ∧ Touch (fun b => b = gt ∨ w6.heap.size ≤ b) w6 wr) (fun _ i _ => nk - (intOf i).toNat)
          case atStart => exact ⟨0, gt, ct, Nat.zero_le _, rfl, rfl, .inl rfl, by simpa using T6.out, Touch.of_below (Below.refl _ _)⟩
          case round =>
            obtain ⟨k, gk, ck', hkn, rfl, rfl, hgk, htk, htt⟩ := hrel
            have TK := Lib.hid htk
            have TT := Lib.hid htt
            have hsv : w6.heap.size ≤ wr.heap.size := htt.size
            have bv := B6.out.trans (htt.below (show w.heap.size ≤ w6.heap.size by omega) (fun b hb e => by rcases e with e | e <;> omega))
            have BV := Lib.hid bv
            have KV := Lib.hid (KX.out.below bv)
            clear htk htt bv q62
            by_cases hlk : k < nk
            · obtain ⟨bk, off, rfl, hbk, hk0, hk1⟩ := KV.out.at_ hlk
              have hst : (nd.kids.take (k + 1)).map (·.2) = (nd.kids.take k).map (·.2) ++ [(nd.kids[k]?.getD (0, 0)).2] := by
                rw [List.take_succ_eq_append_getElem (by omega), List.map_append, List.getElem?_eq_getElem (by omega)]; rfl
              have HST := Lib.hid hst
              obtain ⟨L, hL⟩ : ∃ L, td ++ (nd.kids.take k).map (·.2) = L := ⟨_, rfl⟩
              have TK := TK.out
              rw [hL] at TK
              have TK := Lib.hid TK
              have HL := Lib.hid hL
              clear hst hL
              generalize (nd.kids[k]?.getD (0, 0)).1 = y at hk0
              generalize (nd.kids[k]?.getD (0, 0)).2 = z at hk1 HST
              obtain ⟨w1, hw1⟩ : ∃ w1, wr.alloc (.cells #[.int .i64 y, .int .i64 z] 140) = w1 := ⟨_, rfl⟩
              have b1 : Below wr.heap.size wr w1 := hw1 ▸ (Below.refl _ _).alloc (Nat.le_refl _) _
              have C1 := Lib.hid (show Box w1 wr.heap.size 140 #[.int .i64 y, .int .i64 z] from hw1 ▸ heap_alloc_new _ _)
              have s1 : w1.heap.size = wr.heap.size + 1 := hw1 ▸ by simp
              have b12 : Below wr.heap.size wr (w1.alloc (.cells #[.int .i64 z] 2)) := b1.trans (((Below.refl w1.heap.size w1).alloc (Nat.le_refl _) _).mono (by omega))
              have BB := Lib.hid b12
              have c11 := C1.out.cell 1
              simp at c11
              clear b1 b12
              go_wp2_with (at_builtin; (refine wpList_append_lies _ rfl _ _ 25 rfl (w.heap.size + 2) 2 i0 (.int .i64 0) 1 8 Tryz.underlying25 HI.out HZ0.out HZ1.out HZ2.out rfl (by decide) (.slice (some ⟨gk, 0, none⟩) (q + k) ck') (q + k) (L.map (Value.int .i64)) (by simp [Act.eval]) (own_touch (S := fun _ => False) TK.out (Touch.of_below BB.out) (fun _ _ h => h)) ⟨w1.heap.size, 0, none⟩ 1 1 [.int .i64 z] (by simp [Act.eval]) rfl ?bq1 ?bq2 (by omega) ?bq3 ?bq4 ?bq5 _ rfl ?_))
              case bq2 => first | rfl | (intro u hu; simp at hu; subst hu; rfl)
              case bq3 => unfold maxLen; omega
              case bq4 => omega
              case bq5 => first | omega | (simp; omega)
              intro g7 c7 w7 hown7 hgrow7 hor7 _
              have t7 : Touch (fun b => b = gt ∨ w6.heap.size ≤ b) wr w7 := (Touch.of_below BB.out).trans ((Touch.of_grown hgrow7).mono (fun b e => by simp [Value.ownBlock] at e; omega))
              have h7 : g7 = gt ∨ w6.heap.size ≤ g7 := by
                rcases hor7 with e | e <;> (try simp [Value.ownBlock] at e) <;> omega
              have o7 : OwnI w7 (w.heap.size + 2) (some ⟨g7, 0, none⟩) (q + (k + 1)) c7 (td ++ (nd.kids.take (k + 1)).map (·.2)) := by
                rw [HST.out, ← List.append_assoc, HL.out]
                unfold OwnI
                rw [List.map_append]
                exact hown7
              have O7 := Lib.hid o7
              have T7 := Lib.hid (TT.out.trans t7)
              have H7 := Lib.hid h7
              clear hown7 hgrow7 hor7 t7 o7 h7 hk0 hk1 c11 hw1
              go_wp2
              go_roundw
              case rel => exact ⟨k + 1, g7, c7, by omega, by go_num, rfl, H7.out, O7.out, T7.out⟩
              case measure => simp [intOf]; omega
            · obtain rfl : k = nk := by omega
              have tk8 := TK.out
              rw [List.take_of_length_le (by omega)] at tk8
              have T8 := Lib.hid tk8
              have hgn : ∀ g, g < w6.heap.size → g ≠ gt → wr.heap[g]? = w6.heap[g]? := fun g h1 h2 => TT.out.block g h1 (fun e => by rcases e with e | e <;> omega)
              have P8 := Lib.hid (show Box wr (w.heap.size + 1) _ _ from (hgn _ (by omega) (by omega)).trans P6.out)
              have N8 := Lib.hid (show Box wr w.heap.size _ _ from (hgn _ (by omega) (by omega)).trans N6.out)
              have L8 := Lib.hid (L6.out.touch TT.out (fun g hg e => by
                rcases e with e | e
                · subst e; exact HG6.out hg
                · have := RL6.out g hg; omega))
              have C8 := Lib.hid (cellLen_is P8.out)
              clear tk8 hgn
              go_wp2
              go_roundw
              case rel =>
                exact ⟨some ⟨gk, 0, none⟩, q + k, ck', R6, bs6, td ++ nd.kids.map (·.2), rfl, T8.out, P8.out, L8.out, N8.out, (fun g hg e => by
                  simp [Value.ownBlock] at hg
                  subst hg
                  rcases hgk with e2 | e2
                  · subst e2; exact HG6.out e
                  · have := RL6.out _ e; omega), GT.out, by omega, BV.out⟩
              case measure => rw [CL.out, C8.out]; simp [lenOf]; omega
end Go.Proofs.YtdhnhgppapkikaaGreatDoor

-- QuietR: A region that only reads, within a round of a range over a function: one walk of the order of the text serves every order. (The library's law for quiet regions asks that there be no round; within one every operation that is no defer goes as everywhere: so the same is shown here for regions that hold none.) No statement of the program is proved here.
namespace Go.Proofs.YtdhnhgppapkikaaGreatDoor
set_option linter.unusedVariables false
section
variable {F : Fence} {n r : Nat} {P : Program} {ops : Array Oper} {C : World → Prop} {md : Region.Mode}

/-- an operation that is no defer statement. -/
def calm (o : Oper) : Bool := !(match o.op with | .defer _ => true | _ => false)
theorem calm_sem {o : Oper} (h : calm o = true) (ρ : Operand → Value) : Oper.semAt (some r) ρ o = execOp ρ o :=
  Oper.semAt_some r ρ o fun c e => by simp [calm, e] at h
theorem round_op {o : Oper} {a : Act} {K : Act → Prop} {K' : Act → World → Prop} {Q' : Exit → Act → World → Prop} {w : World} (hr : F.round = some r) (hc : calm o = true) (hC : C w)
    (hK : ∀ b v, C v → K b → K' b v) (ask : o.askedIn F P a C) (q : o.quietIn F n P a C K) : o.wpIn F n P a w K' Q' := by
  obtain ⟨u, at_, done⟩ := q
  refine ⟨ask w hC, ?_⟩
  have got : Oper.quietUponIn F n P C w u ((execOp a.eval o).run P w) := at_ w hC
  rw [hr, calm_sem hc]
  revert got
  cases (execOp a.eval o).run P w with
  | halt _ _ => exact fun e => e.elim
  | ok x v =>
    cases x with
    | value _ => rintro ⟨rfl, rfl⟩; exact hK _ _ hC done
    | skip => rintro ⟨rfl, rfl⟩; exact hK _ _ hC done
    | enter f args =>
      rintro ⟨rfl, deep, call⟩
      refine ⟨deep, call.mono ?_⟩
      rintro _ _ ⟨rfl, k⟩
      exact hK _ _ k done
    | _ => exact fun e => e.elim
theorem round_any {Q : Act → Prop} {Q' : Exit → Act → World → Prop} (hr : F.round = some r) (hc : ops.all calm = true) (hQ : ∀ a w, C w → Q a → Q' .normal a w) (fuel : Nat) :
    ∀ (listed : Array Bool) (a : Act) (w : World), C w → wpAnyQIn F n P md ops C Q fuel listed a → wpAnyIn F n P md ops Q' fuel listed a w := by
  induction fuel with
  | zero => exact fun _ _ _ k h => ⟨h.1, hQ _ _ k h.2⟩
  | succ m ih =>
    intro listed a w k h
    refine ⟨fun e => hQ _ _ k (h.1 e), fun i hi => ?_⟩
    have step := h.2 i hi
    simp only [qOpIn] at step
    simp only [wpOpIn]
    cases e : ops[i]? with
    | none => simp only [e] at step; exact ih _ _ _ k step
    | some o =>
      simp only [e] at step
      have co : calm o = true := by
        obtain ⟨l, eo⟩ := Array.getElem?_eq_some_iff.1 e
        exact eo ▸ Array.all_eq_true.1 hc i l
      by_cases wanted : Region.wanted o (yielded ops a.tmps) = true
      · simp only [wanted, if_true] at step ⊢
        exact round_op hr co k (fun b v => ih _ b v) step.1 step.2
      · simp only [wanted] at step ⊢
        exact ⟨step.1 w k, ih _ _ _ k step.2⟩
/-- the region's operations written out, at the worlds that w becomes by draws alone. -/
theorem round_quiet {id : Nat} {Q : Exit → Act → World → Prop} {a : Act} {w : World} {l : List Oper} (hr : F.round = some r) (hc : l.toArray.all calm = true) (hm : P.follows .mixedOrders = true) (hB : Region.lexB .any l.toArray = true)
    (h : wpQuietIn F n P l.toArray (fun v => ∃ k, v = w.drewN k) (fun b => ∀ v, (∃ k, v = w.drewN k) → Q .normal b v) l a) : (Code.region id l.toArray true).wpIn F n P Q a w := by
  have hB : (_ && _) = true := hB
  have both := Bool.and_eq_true_iff.1 hB
  have all := wpAnyQIn_lex (F := F) (n := n) (C := fun v => ∃ k, v = w.drewN k) (md := .any) both.1 l 0 (Array.replicate l.length false) a (by simp) (by simpa using both.2) h
  exact wpIn_region_any hm (round_any (Q := fun b => ∀ v, (∃ k, v = w.drewN k) → Q .normal b v) hr hc (fun b v k q => q v k) _ _ _ _ ⟨1, rfl⟩ (by simpa using all))
end
end Go.Proofs.YtdhnhgppapkikaaGreatDoor

-- Keep: What a round of a loop over an iterator keeps: every block below n₀ but one. No statement of the program is proved here.
namespace Go.Proofs.YtdhnhgppapkikaaGreatDoor
set_option maxRecDepth 20000
set_option linter.unusedVariables false
set_option linter.unusedSimpArgs false
open Go.RowKit

/-- every block below n but cb is as it was. -/
def KpB (cb n : Nat) (A B : World) : Prop := A.heap.size ≤ B.heap.size ∧ ∀ k, k < n → k ≠ cb → B.heap[k]? = A.heap[k]?
theorem KpB.refl (cb n : Nat) (A : World) : KpB cb n A A := ⟨Nat.le_refl _, fun _ _ _ => rfl⟩
theorem KpB.trans {cb n : Nat} {A B C : World} (h : KpB cb n A B) (k : KpB cb n B C) : KpB cb n A C := ⟨Nat.le_trans h.1 k.1, fun i hi hc => (k.2 i hi hc).trans (h.2 i hi hc)⟩
theorem KpB.put {cb n : Nat} {w : World} (hn : n ≤ w.heap.size) (W : World) (l : Nat) (o o' : Obj) (hl : w.heap.size ≤ l) (h : W.heap[l]? = some o) (_ : o.isCells = false) (_ : o.isWalk = false) : KpB cb n W (W.putObj l o') := by
  have hg := grownBy_putObj' W l o'
  exact ⟨hg.size, fun k hk _ => by
    have hl2 := (Array.getElem?_eq_some_iff.1 h).1
    exact hg.block k (by omega) (fun e => by cases e; omega)⟩
theorem KpB.cell {cb n : Nat} {A B : World} (h : KpB cb n A B) {a : Addr} (hn : a.block < n) (hc : a.block ≠ cb) : B.cell? a = A.cell? a := World.cell?_of_block (h.2 _ hn hc)
theorem KpB.of_below {cb n : Nat} {A B : World} (h : Below A.heap.size A B) (hn : n ≤ A.heap.size) : KpB cb n A B := ⟨h.size, fun k hk _ => h.block k (by omega)⟩
theorem KpB.box {cb n g : Nat} {A B : World} {t : TypeId} {cs : Array Value} (h : KpB cb n A B) (hb : Box A g t cs) (hg : g < n) (hc : g ≠ cb) : Box B g t cs := (h.2 g hg hc).trans hb
end Go.Proofs.YtdhnhgppapkikaaGreatDoor

-- IterN: The iterator of the list of nodes.
namespace Go.Proofs.YtdhnhgppapkikaaGreatDoor
set_option maxRecDepth 20000
set_option linter.unusedVariables false
set_option linter.unusedSimpArgs false
open Go.RowKit Go.Shelf
attribute [local go_sem] Oper.semAt_some

def pAt (ps : List (Int × NV)) (k : Nat) : Int × NV := ps[k]?.getD (0, nv0)
theorem pAt_mem (ps : List (Int × NV)) (k : Nat) (h : k < ps.length) : pAt ps k ∈ ps := by unfold pAt; rw [List.getElem?_eq_getElem h]; exact List.getElem_mem h
/-- what the k-th round is handed. -/
def encN (ps : List (Int × NV)) (k : Nat) : Array Value := #[.int .i64 (pAt ps k).1, (pAt ps k).2.v]
theorem range_take (k : Nat) : List.range (k + 1) = List.range k ++ [k] := List.range_succ

set_option maxHeartbeats 2000000 in
theorem allN1_in (F : Fence) (n : Nat) (h7 : F.fn 132) (hro : F.round = none) (hn : 1 ≤ n) (l Bs n₀ cb p lo : Nat) (R : SR) (ps : List (Int × NV))
    (J Jx : List Nat → World → Prop) (W : World) (hW0 : n₀ ≤ W.heap.size)
    (hY : ∀ pre x W1, J pre W1 → pre.length < ps.length → YieldAt F (n - 1) Tryz.prog l (encN ps x) W1 fun e W' =>
      (e = .returned (.bool true) ∧ J (pre ++ [x]) W' ∧ KpB cb n₀ W1 W') ∨ (e = .returned (.bool false) ∧ Jx (pre ++ [x]) W'))
    (hBs : Box W Bs 188 #[.pointer (some ⟨p, 0, none⟩)]) (hB0 : Bs < n₀) (hB1 : Bs ≠ cb)
    (hP : Box W p 59 #[R.kv ps.length, R.vv ps.length]) (hP0 : p < n₀) (hP1 : p ≠ cb)
    (hS : SLN W lo R ps) (hR : ∀ g, R.at_ g → g < n₀ ∧ g ≠ cb) (h0 : J [] W) :
    CallsIn F n Tryz.prog 132 #[.func (.yield l) #[] #[], .pointer (some ⟨Bs, 0, none⟩)] W fun e W' => (∃ v, e = .returned v) ∧
      ((∃ ys, ys = List.range ps.length ∧ J ys W') ∨ (∃ pre, (∃ k, k ≤ ps.length ∧ pre = List.range k) ∧ Jx pre W')) := by
  have hlen := hS.len
  -- what a round reads, in whatever world the rounds have left
  have hrd : ∀ W', KpB cb n₀ W W' → W'.cell? ⟨Bs, 0, none⟩ = some (.pointer (some ⟨p, 0, none⟩)) ∧ W'.cell? ⟨p, 1, none⟩ = some (.slice R.Av ps.length R.cv) := fun W' hk => by
    have h1 := (hk.box hBs hB0 hB1).cell 0
    have h2 := (hk.box hP hP0 hP1).cell 1
    unfold SR.vv at h2
    simpa using ⟨h1, h2⟩
  have hrk : ∀ W', KpB cb n₀ W W' → ∀ k, k < ps.length → ∃ g, R.Ak = some ⟨g, 0, none⟩ ∧ W'.cell? ⟨g, k, none⟩ = some (.int .i64 (pAt ps k).1) := fun W' hk k hlt => by
    obtain ⟨g, hg, _⟩ := hS.keys.form (by omega)
    have ho := hS.keys
    rw [hg] at ho
    have hgg := hR g (.inl ⟨_, hg, rfl⟩)
    refine ⟨g, hg, ?_⟩
    rw [hk.cell (a := ⟨g, k, none⟩) hgg.1 hgg.2, ho.cell hlt, kvs_at ps k hlt]
    unfold pAt
    rw [List.getElem?_eq_getElem hlt]; rfl
  have hrv : ∀ W', KpB cb n₀ W W' → ∀ k, k < ps.length → ∃ g, R.Av = some ⟨g, 0, none⟩ ∧ ∀ j, j < 4 → W'.cell? ⟨g, k * 4 + j, none⟩ = (pAt ps k).2.cells[j]? := fun W' hk k hlt => by
    obtain ⟨g, hg, _⟩ := hS.row (by omega)
    have ho := hS.vals
    rw [hg] at ho
    have hgg := hR g (.inr ⟨_, hg, rfl⟩)
    refine ⟨g, hg, fun j hj => ?_⟩
    rw [hk.cell (a := ⟨g, k * 4 + j, none⟩) hgg.1 hgg.2, World.ownsRow.cellAt ho _ (by omega), nvs_at ps k j hj hlt]
    unfold pAt
    rw [List.getElem?_eq_getElem hlt]; rfl
  have q0 := hBs.cell 0
  have q1 := hP.cell 0
  unfold SR.kv at q1
  simp at q0 q1
  refine callsIn_of_wp Tryz.func132 rfl h7 ?_ hro
  simp only [Tryz.ntmps132, List.size_toArray, List.length_cons, List.length_nil, Nat.reduceAdd, Nat.reduceSub, Array.replicate_succ, Array.replicate_zero, List.push_toArray, List.append_toArray, List.nil_append, List.cons_append]
  obtain ⟨Ak, ck, Av, cv⟩ := R
  simp only at hrd hrk hrv q1
  have RD := Lib.hid hrd
  have RK := Lib.hid hrk
  have RV := Lib.hid hrv
  clear hrd hrk hrv hBs hP hS hR
  gi_wp2
  gi_loopw [10] (fun i wr => ∃ k : Nat, k ≤ ps.length ∧ i = .int .i64 k ∧ J (List.range k) wr ∧ KpB cb n₀ W wr)
    (fun i _ => ps.length - (intOf i).toNat)
  case atStart => exact ⟨0, Nat.zero_le _, rfl, h0, KpB.refl _ _ _⟩
  case round =>
    obtain ⟨k, hk, rfl, hJs, hnx⟩ := hrel
    have hsz := hnx.1
    have KX := Lib.hid hnx
    by_cases hlt : k < ps.length
    · obtain ⟨c0, c1⟩ := RD.out wr hnx
      obtain ⟨g, rfl, c2⟩ := RK.out wr hnx k hlt
      obtain ⟨gv, rfl, c3⟩ := RV.out wr hnx k hlt
      obtain ⟨fn, tmps, assign, body, hy, hR⟩ := hY (List.range k) k _ hJs (by simpa using hlt)
      have d0 := c3 0 (by omega)
      have d1 := c3 1 (by omega)
      have d2 := c3 2 (by omega)
      have d3 := c3 3 (by omega)
      unfold NV.cells at d0 d1 d2 d3
      unfold encN NV.v at hy
      simp at d0 d1 d2 d3
      clear c3 hnx
      gi_wp2
      refine hR.mono ?_
      rintro e W3 (⟨rfl, hJ3, hk3⟩ | ⟨rfl, hJx3⟩)
      · gi_wp2
        go_roundw
        case rel => exact ⟨k + 1, by omega, by go_num, by rw [range_take]; exact hJ3, KX.out.trans hk3⟩
        case measure => simp [intOf]; omega
      · gi_wp2
        refine bodyPost_ret (results_none rfl _ _ _) rfl ?_
        exact ⟨⟨_, rfl⟩, .inr ⟨_, ⟨k + 1, by omega, (range_take k).symm⟩, hJx3⟩⟩
    · obtain rfl : k = ps.length := by omega
      gi_wp2
      go_end0
      exact ⟨⟨_, rfl⟩, .inl ⟨_, rfl, hJs⟩⟩
theorem allN_any (p : Nat) (w : World) :
    Calls Tryz.prog 98 #[.pointer (some ⟨p, 0, none⟩)] w fun e w' => e = .returned (.func (.func 132) #[] #[.pointer (some ⟨w.heap.size, 0, none⟩)]) ∧ w.alloc (.cells #[.pointer (some ⟨p, 0, none⟩)] 188) = w' := by
  go_enter Tryz.func98, Tryz.ntmps98
  go_wp2
  go_ret
  exact ⟨rfl, rfl⟩
theorem allN_stops (n : Nat) (hn : 1 ≤ n) (Bs n₀ cb p lo : Nat) (R : SR) (ps : List (Int × NV)) (w : World) (hW0 : n₀ ≤ w.heap.size)
    (hBs : Box w Bs 188 #[.pointer (some ⟨p, 0, none⟩)]) (hB0 : Bs < n₀) (hB1 : Bs ≠ cb)
    (hP : Box w p 59 #[R.kv ps.length, R.vv ps.length]) (hP0 : p < n₀) (hP1 : p ≠ cb)
    (hS : SLN w lo R ps) (hR : ∀ g, R.at_ g → g < n₀ ∧ g ≠ cb) :
    SeqStopsK Fence.wide n Tryz.prog 132 #[.pointer (some ⟨Bs, 0, none⟩)] (encN ps) (KpB cb n₀) (fun ys => ys = List.range ps.length) (fun pre => ∃ k, k ≤ ps.length ∧ pre = List.range k) ps.length w := fun l J Jx W hW hJ _ hY h0 =>
  allN1_in Fence.wide n trivial rfl hn l Bs n₀ cb p lo R ps J Jx W (Nat.le_trans hW0 hW.size) hY (hBs.below hW (by omega)) hB0 hB1 (hP.below hW (by omega)) hP0 hP1 (hS.below hW) hR h0
end Go.Proofs.YtdhnhgppapkikaaGreatDoor

-- Round: A region that draws its order, within a round of a range over a function: what holds of it outside every fence holds there, where it bears no defer statement. No statement of the program is proved here.
namespace Go.Proofs.YtdhnhgppapkikaaGreatDoor
set_option linter.unusedVariables false
section
variable {n r : Nat} {P : Program} {ops : Array Oper} {md : Region.Mode}
theorem rows_round {row : String} {args : Array Value} {w : World} {R : Value → World → Prop} (h : Rows P row args w R) : RowsIn (Fence.wide.inRound r) n P row args w R :=
  fun c cs _ => let ⟨v, w', k, s⟩ := h c cs; ⟨v, w', k, stepsIn_wide.2 s⟩
theorem op_round {o : Oper} {a : Act} {K : Act → World → Prop} {Q : Exit → Act → World → Prop} {w : World} (hc : calm o = true) (h : o.wp P a w K Q) : o.wpIn (Fence.wide.inRound r) n P a w K Q := by
  refine ⟨fun _ _ => trivial, ?_⟩
  have hs : o.semAt (Fence.wide.inRound r).round a.eval = execOp a.eval o := calm_sem hc _
  rw [hs]
  unfold Oper.wp at h
  generalize (execOp a.eval o).run P w = x at h
  cases x with
  | ok y w' =>
    cases y with
    | value v => exact h
    | skip => exact h
    | defer d => exact h
    | enter f args => exact ⟨fun hd => by simp [Fence.inRound, Fence.wide] at hd, CallsIn.inRound r (callsIn_wide.2 h)⟩
    | row row args => exact ⟨fun hd => by simp [Fence.inRound, Fence.wide] at hd, rows_round h⟩
    | _ => exact h.elim
  | halt y w' =>
    cases y <;> exact h
theorem any_round {Q : Exit → Act → World → Prop} (hc : ops.all calm = true) (hQ : ¬ LetsOut Q) (fuel : Nat) :
    ∀ (listed : Array Bool) (a : Act) (w : World), wpAny P md ops Q fuel listed a w → wpAnyIn (Fence.wide.inRound r) n P md ops Q fuel listed a w := by
  induction fuel with
  | zero => exact fun _ _ _ h => h
  | succ m ih =>
    intro listed a w h
    refine ⟨h.1, fun i hi => ?_⟩
    have step := h.2 i hi
    simp only [wpOp] at step
    simp only [wpOpIn]
    cases e : ops[i]? with
    | none => simp only [e] at step; exact ih _ _ _ step
    | some o =>
      simp only [e] at step
      have co : calm o = true := by
        obtain ⟨l, eo⟩ := Array.getElem?_eq_some_iff.1 e
        exact eo ▸ Array.all_eq_true.1 hc i l
      by_cases wanted : Region.wanted o (yielded ops a.tmps) = true
      · simp only [wanted, if_true] at step ⊢
        rcases step with step | ⟨_, step⟩
        · exact Oper.wpIn_mono (fun a w => ih _ a w) (op_round co step)
        · exact absurd step hQ
      · simp only [wanted] at step ⊢
        exact ⟨fun _ _ => trivial, ih _ _ _ step⟩
theorem region_round {id : Nat} {Q : Exit → Act → World → Prop} {a : Act} {w : World} (hm : P.follows .mixedOrders = true) (hc : ops.all calm = true) (hQ : ¬ LetsOut Q)
    (h : wpAny P .any ops Q ops.size (Array.replicate ops.size false) a w.drew) : (Code.region id ops true).wpIn (Fence.wide.inRound r) n P Q a w :=
  wpIn_region_any hm (any_round hc hQ _ _ _ _ h)
end
end Go.Proofs.YtdhnhgppapkikaaGreatDoor

-- NodeY: The bytes of a node, as the program writes them: a row of the call's own.
namespace Go.Proofs.YtdhnhgppapkikaaGreatDoor
set_option maxRecDepth 20000
set_option linter.unusedSimpArgs false
open Go.RowKit

theorem kidsOk_mem' (ks : List (Int × Int)) {kind path val} (h : nodeOk ⟨kind, path, ks, val⟩ = true) (k : Int × Int) (hk : k ∈ ks) : 1 ≤ k.2 := by
  unfold nodeOk at h
  simp only [Bool.and_eq_true] at h
  have h2 := h.1.1.2
  unfold kidsOk at h2
  obtain ⟨i, hi, rfl⟩ := List.getElem_of_mem hk
  have := (of_decide_eq_true h2 i hi).2.1
  rw [List.getElem?_eq_getElem hi] at this
  exact this

theorem shown_any (k : Int) (w : World) :
    Calls Tryz.prog 134 #[.int .i64 k] w fun e w' => e = .returned (.int .u8 (k % 256)) ∧ w' = w := by
  go_enter Tryz.func134, Tryz.ntmps134
  go_wp2
  go_ret
  exact ⟨rfl, rfl⟩

theorem strCells_sb (s : ByteArray) : Lib.strCells s = (sb s).map (Value.int .u8) := by
  apply List.ext_getElem?
  intro i
  by_cases h : i < s.size
  · have e := sb_at s i h
    have hl : i < (sb s).length := by rw [sb_len]; exact h
    have h2 : i < s.data.size := h
    rw [List.getElem?_eq_getElem hl] at e
    simp [Lib.strCells, hl, h2]
    simp at e
    rw [e]
    exact ⟨_, Array.getElem?_eq_getElem h2, rfl⟩
  · rw [List.getElem?_eq_none (by rw [Lib.strCells_length]; omega), List.getElem?_eq_none (by rw [List.length_map, sb_len]; omega)]

theorem bytes_some (x : Int) (hx : 0 ≤ x) (w : World) :
    Calls Tryz.prog 135 #[.int .i64 x] w fun e w' => ∃ g n c, e = .returned (.slice (some ⟨g, 0, none⟩) n c) ∧ Mine w' w.heap.size (some ⟨g, 0, none⟩) n c (nameBytes x) ∧ Below w.heap.size w w' := by
  refine (bytes_any x w).mono ?_
  rintro e w' ⟨A, n, c, rfl, hm, hb⟩
  have hl := hm.len
  rw [nameBytes_yes x (by omega), nb_len] at hl
  obtain ⟨g, rfl, _⟩ := hm.form (by omega)
  exact ⟨g, n, c, rfl, hm, hb⟩

set_option maxHeartbeats 2000000 in      -- one walk, two loops and three appends between them
theorem implNodeBytes_any (v : Value) (nd : MNode) (B : Nat) (w : World) (hB : B ≤ w.heap.size) (hv : NodeIn w B v nd) :
    Calls Tryz.prog 99 #[v] w fun e w' => ∃ A n c, e = .returned (.slice A n c) ∧ Mine w' w.heap.size A n c (nodeBytes nd) ∧ Below w.heap.size w w' := by
  have HV := Lib.hid (hv.more hB)
  obtain ⟨Ap, np, cp, Ak, nk, ck, rfl, hnp, hnk, hsz, hp, hk⟩ := hv
  obtain ⟨kind, path, kids, val⟩ := nd
  have HP := Lib.hid (hp.more hB)
  have HK := Lib.hid (hk.more hB)
  have LP : Hid (path.length = np) := HP.out.1
  have LK : Hid (kids.length = nk) := HK.out.1
  clear hp hk
  obtain ⟨wa, hwa⟩ : ∃ wa, w.alloc (.cells #[.int .i64 kind, .slice Ap np cp, .slice Ak nk ck, .string val] 134) = wa := ⟨_, rfl⟩
  have xa : Box wa w.heap.size _ _ := hwa ▸ heap_alloc_new _ _
  have ba : Below w.heap.size w wa := hwa ▸ (Below.refl _ _).alloc (Nat.le_refl _) _
  have sa : w.heap.size < wa.heap.size := hwa ▸ by simp
  have XA := Lib.hid xa
  have BA := Lib.hid ba
  have HW := Lib.hid hwa
  clear xa ba hwa
  go_enter Tryz.func99, Tryz.ntmps99
  go_wp2_with fail
  rw [HW.out]
  refine (progNodeOk_any _ ⟨kind, path, kids, val⟩ _ wa (by omega) (HV.out.below BA.out)).mono ?_
  rintro e wb ⟨rfl, bb⟩
  have XB := Lib.hid (XA.out.below bb sa)
  have BB := Lib.hid (BA.out.trans (bb.mono (by omega)))
  have sb0 : w.heap.size < wb.heap.size := by have := bb.size; omega
  clear bb
  by_cases hok : nodeOk ⟨kind, path, kids, val⟩ = true
  · have hr := Lib.hid (show nodeBytes ⟨kind, path, kids, val⟩ = rawBytes ⟨kind, path, kids, val⟩ from if_pos hok)
    have HKM := Lib.hid (fun k (hk : k ∈ kids) => kidsOk_mem' kids hok k hk)
    rw [hok]
    have q0 := XB.out.cell 0
    have q1 := XB.out.cell 1
    have q2 := XB.out.cell 2
    have q3 := XB.out.cell 3
    simp at q0 q1 q2 q3
    obtain ⟨i0, hi, hz0, hz1, hz2⟩ := info_parts Tryz.info5
    have HI := Lib.hid hi
    have HZ0 := Lib.hid hz0
    have HZ1 := Lib.hid hz1
    have HZ2 := Lib.hid hz2
    clear hi hz0 hz1 hz2
    go_wp2
    refine wp_region_still_tail 7 (by kernel_rfl) (by kernel_rfl) ?_
    simp only [List.take_succ_cons, List.take_zero, List.drop_succ_cons, List.drop_zero]
    still_step
    still_step
    still_call (shown_any kind _)
    repeat still_step
    refine wpStill_nil ?_
    change wpList _ _ _ _ _ wb.drew
    have x1 : Box wb.drew w.heap.size _ _ := XB.out.below ((Below.refl wb.heap.size wb).drew) XB.out.lt
    have b1 : Below w.heap.size w wb.drew := BB.out.drew
    have s1 : wb.drew.heap.size = wb.heap.size := rfl
    obtain ⟨w1, hw1⟩ : ∃ w1, wb.drew = w1 := ⟨_, rfl⟩
    rw [hw1] at x1 b1 s1 ⊢
    obtain ⟨z, hz⟩ : ∃ z, w1.heap.size = z := ⟨_, rfl⟩
    have hzw : w.heap.size < z := by omega
    have X1 := Lib.hid x1
    have B1 := Lib.hid b1
    clear x1 b1 hw1 q0 q1 q2 q3 s1
    have m0 := Mine.of_alloc w1 z [kind % 256, (np : Int) % 256] 2 (by omega) rfl (by unfold maxLen; omega) (by intro z hz; simp at hz; omega)
    rw [hz] at m0
    have M0 := Lib.hid m0
    clear m0
    have X0 := Lib.hid (X1.out.below ((Below.refl w1.heap.size w1).alloc (Nat.le_refl _) (.cells #[.int .u8 (kind % 256), .int .u8 ((np : Int) % 256)] 5)) X1.out.lt)
    have q1 := X0.out.cell 1
    simp at q1
    go_wp2
    clear q1
    go_loopw [3, 22] (fun b i wr => ∃ k g n c : Nat, k ≤ np ∧ i = .int .i64 k ∧ b = .slice (some ⟨g, 0, none⟩) n c ∧ Mine wr z (some ⟨g, 0, none⟩) n c ([kind % 256, (np : Int) % 256] ++ (path.take k).map (· % 256)) ∧ Below z w1 wr) (fun _ i _ => np - (intOf i).toNat)
    case atStart => exact ⟨0, _, 2, 2, Nat.zero_le _, rfl, rfl, M0.out, (Below.refl _ _).alloc (by omega) _⟩
    case round =>
      obtain ⟨k, g, n, c, hk, rfl, rfl, hm, hbr⟩ := hrel
      have hlen := hm.len
      have XR := Lib.hid (X1.out.below hbr (by omega))
      have BR := Lib.hid hbr
      have BW := Lib.hid (B1.out.trans (hbr.mono (by omega)))
      have MR := Lib.hid hm
      clear hm hbr
      have sr := BR.out.size
      by_cases hlt : k < np
      · have hn : n = 2 + k := by
          have := LP.out
          simp at hlen; omega
        obtain ⟨b, off, rfl, hbB, hc⟩ := (HP.out.below BW.out).at_ hlt
        have hst := map_take_step (· % 256) path k (by rw [LP.out]; exact hlt)
        generalize path[k]?.getD 0 = y at hc hst
        have HST := Lib.hid hst
        clear hst
        go_wp2_with (at_builtin; refine wpList_append_lies _ rfl _ _ 22 rfl z 5 i0 (.int .u8 0) 1 1 Tryz.underlying22 HI.out HZ0.out HZ1.out HZ2.out rfl (by decide) _ _ _ rfl (MR.out.1.alloc _) ⟨wr.heap.size, 0, none⟩ 1 1 ([y % 256].map (Value.int .u8)) rfl ?a0 ?a1 ?a2 (by omega) ?a3 ?a4 ?a5 _ rfl ?_)
        case a0 => first | rfl | (simp; done) | simp [sb_len]
        case a1 =>
          intro j u hj
          match j, hj with
          | 0, hj => simp at hj; subst hj; simp [Addr.add]
        case a2 => intro u hu; obtain ⟨z, _, rfl⟩ := List.mem_map.1 hu; rfl
        case a3 => unfold maxLen; omega
        case a4 => omega
        case a5 => simp; omega
        intro g2 c2 w2 hown2 hgrow2 _ _
        have hm2 := MR.out.app (ys := [y % 256]) (by intro y hy; simp at hy; omega) (by simpa using hown2)
        have hb2 : Below z w1 w2 := (BR.out.alloc (by omega) _).grown hgrow2 (by simp; omega) (fun g hg => (MR.out.1.lt g hg).1)
        rw [List.append_assoc, ← HST.out] at hm2
        have M2 := Lib.hid hm2
        have B2 := Lib.hid hb2
        clear hm2 hb2 hown2 hgrow2
        go_wp2
        go_roundw
        case rel => exact ⟨k + 1, _, _, _, by omega, by go_num, rfl, M2.out, B2.out⟩
        case measure => simp [intOf]; omega
      · have hpt : path.take k = path := List.take_of_length_le (by rw [LP.out]; omega)
        rw [hpt] at MR
        have hn : n = 2 + np := by
          have h0 := MR.out.len
          have := LP.out
          simp at h0; omega
        have q3 := XR.out.cell 3
        simp at q3
        go_wp2_with (at_builtin; refine wpList_append_lies _ rfl _ _ 22 rfl z 5 i0 (.int .u8 0) 1 1 Tryz.underlying22 HI.out HZ0.out HZ1.out HZ2.out rfl (by decide) _ _ _ rfl (MR.out.1.alloc _) ⟨wr.heap.size, 0, none⟩ 1 1 ([(val.size : Int) % 256].map (Value.int .u8)) rfl ?d0 ?d1 ?d2 (by omega) ?d3 ?d4 ?d5 _ rfl ?_)
        case d0 => first | rfl | (simp; done) | simp [sb_len]
        case d1 =>
          intro j u hj
          match j, hj with
          | 0, hj => simp at hj; subst hj; simp [Addr.add]
        case d2 => intro u hu; obtain ⟨z, _, rfl⟩ := List.mem_map.1 hu; rfl
        case d3 => unfold maxLen; omega
        case d4 => omega
        case d5 => simp; omega
        intro g5 c5 w5 hown5 hgrow5 _ _
        have hm5 := MR.out.app (ys := [(val.size : Int) % 256]) (by intro y hy; simp at hy; omega) (by simpa using hown5)
        have hb5 : Below z w1 w5 := (BR.out.alloc (by omega) _).grown hgrow5 (by simp; omega) (fun g hg => (MR.out.1.lt g hg).1)
        have M5 := Lib.hid hm5
        have B5 := Lib.hid hb5
        clear hm5 hb5 hown5 hgrow5 q3
        have s5 := B5.out.size
        have X5 := Lib.hid (X1.out.below B5.out (by omega))
        have q3 := X5.out.cell 3
        simp at q3
        go_wp2_with (at_builtin; refine Lib.wpList_append_own_string _ rfl _ _ 22 9 rfl z 5 i0 Tryz.underlying22 Tryz.underlying9 HI.out HZ0.out HZ1.out HZ2.out _ _ _ rfl M5.out.1 val rfl ?e3 ?e4 ?e5 ?_)
        case e3 => unfold maxLen; omega
        case e4 => omega
        case e5 => omega
        intro v7 w7 hown7 hgrow7 hnil7
        rw [strCells_sb] at hown7
        have hv : ∃ g c, v7 = .slice (some ⟨g, 0, none⟩) (2 + np + 1 + val.size) c := by
          have h0 : v7 ≠ .slice none 0 0 := by simpa using hnil7
          rcases hown7.2 with ⟨e, _⟩ | ⟨g, cap, cur, e, _⟩
          · exact absurd e h0
          · exact ⟨g, cap, e⟩
        obtain ⟨g7, c7, rfl⟩ := hv
        have hm7 := M5.out.app (ys := sb val) (sb_bd val) (by simpa using hown7)
        have hb7 : Below z w1 w7 := B5.out.grown hgrow7 (by omega) (fun g hg => (M5.out.1.lt g hg).1)
        have M7 := Lib.hid hm7
        have B7 := Lib.hid hb7
        clear hm7 hb7 hown7 hgrow7 hnil7 q3
        have s7 := B7.out.size
        have X7 := Lib.hid (X1.out.below B7.out (by omega))
        have q2 := X7.out.cell 2
        simp at q2
        go_wp2_with (at_builtin; refine wpList_append_lies _ rfl _ _ 22 rfl z 5 i0 (.int .u8 0) 1 1 Tryz.underlying22 HI.out HZ0.out HZ1.out HZ2.out rfl (by decide) _ _ _ rfl (M7.out.1.alloc _) ⟨w7.heap.size, 0, none⟩ 1 1 ([(nk : Int) % 256].map (Value.int .u8)) rfl ?f0 ?f1 ?f2 (by omega) ?f3 ?f4 ?f5 _ rfl ?_)
        case f0 => first | rfl | (simp; done) | simp [sb_len]
        case f1 =>
          intro j u hj
          match j, hj with
          | 0, hj => simp at hj; subst hj; simp [Addr.add]
        case f2 => intro u hu; obtain ⟨z, _, rfl⟩ := List.mem_map.1 hu; rfl
        case f3 => unfold maxLen; omega
        case f4 => omega
        case f5 => simp; omega
        intro g8 c8 w8 hown8 hgrow8 _ _
        have hm8 := M7.out.app (ys := [(nk : Int) % 256]) (by intro y hy; simp at hy; omega) (by simpa using hown8)
        have hb8 : Below z w1 w8 := (B7.out.alloc (by omega) _).grown hgrow8 (by simp; omega) (fun g hg => (M7.out.1.lt g hg).1)
        generalize hpre : [kind % 256, (np : Int) % 256] ++ path.map (· % 256) ++ [(val.size : Int) % 256] ++ sb val ++ [(nk : Int) % 256] = pre at hm8
        have hplen : pre.length = 2 + np + 1 + val.size + 1 := hm8.len
        have HPRE := Lib.hid hpre
        have M8 := Lib.hid hm8
        have B8 := Lib.hid hb8
        clear hm8 hb8 hown8 hgrow8 q2 hpre
        have s8 := B8.out.size
        have X8 := Lib.hid (X1.out.below B8.out (by omega))
        have q2 := X8.out.cell 2
        simp at q2
        go_wp2
        clear q2
        go_loopw [3, 53] (fun b i wr => ∃ k g n c : Nat, k ≤ nk ∧ i = .int .i64 k ∧ b = .slice (some ⟨g, 0, none⟩) n c ∧ Mine wr z (some ⟨g, 0, none⟩) n c (pre ++ (kids.take k).flatMap kidBytes) ∧ Below z w1 wr) (fun _ i _ => nk - (intOf i).toNat)
        case atStart => exact ⟨0, _, _, _, Nat.zero_le _, rfl, rfl, by simpa using M8.out, B8.out⟩
        case round =>
          obtain ⟨k, g, n, c, hk, rfl, rfl, hm, hbr⟩ := hrel
          have hlen := hm.len
          have BR := Lib.hid hbr
          have BW := Lib.hid (B1.out.trans (hbr.mono (by omega)))
          have MR := Lib.hid hm
          clear hm hbr
          have sr := BR.out.size
          have hn : n ≤ 20000000 := by
            have h1 := kidBytes_len (kids.take k)
            have h2 : (kids.take k).length ≤ nk := by rw [List.length_take, LK.out]; omega
            rw [List.length_append] at hlen
            omega
          clear hlen
          by_cases hlt : k < nk
          · have hst : (kids.take (k + 1)).flatMap kidBytes = (kids.take k).flatMap kidBytes ++ kidBytes (kids[k]?.getD (0, 0)) := by
              rw [List.take_succ_eq_append_getElem (by rw [LK.out]; exact hlt), List.flatMap_append, List.getElem?_eq_getElem (by rw [LK.out]; exact hlt)]
              simp
            have hx1 : 1 ≤ (kids[k]?.getD (0, 0)).2 := by
              rw [List.getElem?_eq_getElem (by rw [LK.out]; exact hlt)]
              exact HKM.out _ (List.getElem_mem _)
            obtain ⟨b, off, rfl, hbB, h0, h1⟩ := (HK.out.below BW.out).at_ hlt
            generalize kids[k]?.getD (0, 0) = x at h0 h1 hst hx1
            have HST := Lib.hid hst
            clear hst
            obtain ⟨wk, hwk⟩ : ∃ wk, wr.alloc (.cells #[.int .i64 x.1, .int .i64 x.2] 140) = wk := ⟨_, rfl⟩
            have xk : Box wk wr.heap.size _ _ := hwk ▸ heap_alloc_new _ _
            have bk : Below wr.heap.size wr wk := hwk ▸ (Below.refl _ _).alloc (Nat.le_refl _) _
            have sk : wr.heap.size < wk.heap.size := hwk ▸ by simp
            have XK := Lib.hid xk
            have MK := Lib.hid (MR.out.below bk)
            have BK := Lib.hid (BR.out.trans (bk.mono (by omega)))
            have hgk : g < wr.heap.size := (MR.out.1.lt g rfl).2
            clear xk bk
            have p0 := XK.out.cell 0
            have p1 := XK.out.cell 1
            simp at p0 p1
            go_wp2_with (at_builtin; refine wpList_append_lies _ rfl _ _ 22 rfl z 5 i0 (.int .u8 0) 1 1 Tryz.underlying22 HI.out HZ0.out HZ1.out HZ2.out rfl (by decide) _ _ _ rfl (MK.out.1.alloc _) ⟨wk.heap.size, 0, none⟩ 1 1 ([x.1 % 256].map (Value.int .u8)) rfl ?g0 ?g1 ?g2 (by omega) ?g3 ?g4 ?g5 _ rfl ?_)
            case g0 => first | rfl | (simp; done) | simp [sb_len]
            case g1 =>
              intro j u hj
              match j, hj with
              | 0, hj => simp at hj; subst hj; simp [Addr.add]
            case g2 => intro u hu; obtain ⟨z, _, rfl⟩ := List.mem_map.1 hu; rfl
            case g3 => unfold maxLen; omega
            case g4 => omega
            case g5 => simp; omega
            intro g2 c2 w2 hown2 hgrow2 _ _
            have hm2 := MK.out.app (ys := [x.1 % 256]) (by intro y hy; simp at hy; omega) (by simpa using hown2)
            have hb2 : Below z w1 w2 := (BK.out.alloc (by omega) _).grown hgrow2 (by simp; omega) (fun g hg => (MK.out.1.lt g hg).1)
            have xk2 : Box w2 wr.heap.size _ _ := (XK.out.below ((Below.refl wk.heap.size wk).alloc (Nat.le_refl _) _) sk).grown hgrow2 (by simp [Value.ownBlock]; omega)
            have XK := Lib.hid xk2
            have M2 := Lib.hid hm2
            have B2 := Lib.hid hb2
            clear hm2 hb2 hown2 hgrow2 p0 p1 h0 h1 hwk xk2
            have s2 := B2.out.size
            have p0 := XK.out.cell 0
            have p1 := XK.out.cell 1
            simp at p0 p1
            go_wp2_with fail
            refine (bytes_some x.2 (by omega) _).mono ?_
            rintro e w3 ⟨g3, n3, c3, rfl, m3, b3⟩
            have hn3 : n3 ≤ 8 := by have := nameBytes_len8 x.2; have := m3.len; omega
            have M3 := Lib.hid m3
            have M2 := Lib.hid (M2.out.below b3)
            have B3 := Lib.hid (B2.out.trans (b3.mono (by omega)))
            clear m3 b3 p0 p1
            have s3 := B3.out.size
            go_wp2_with (at_builtin; refine wpList_append_own _ rfl _ _ 22 rfl z 5 i0 (.int .u8 0) 1 1 Tryz.underlying22 HI.out HZ0.out HZ1.out HZ2.out rfl (by decide) _ _ _ rfl M2.out.1 ⟨g3, 0, none⟩ n3 _ ((nameBytes x.2).map (Value.int .u8)) rfl ?h0 ?h1 ?h2 ?h3 ?h4 ?h5 ?_)
            case h0 => rw [List.length_map, Nat.mul_one]; first | rfl | exact sb_len _ | exact M3.out.len
            case h1 => exact World.ownsRow.cells M3.out.1 rfl
            case h2 => intro u hu; obtain ⟨z, _, rfl⟩ := List.mem_map.1 hu; rfl
            case h3 => unfold maxLen; omega
            case h4 => omega
            case h5 => omega
            intro v4 w4 hown4 hgrow4 hnil4
            have hv : ∃ g c, v4 = .slice (some ⟨g, 0, none⟩) (n + 1 + n3) c := by
              rcases hown4.2 with ⟨e, _⟩ | ⟨g, cap, cur, e, _⟩
              · exact absurd e hnil4
              · exact ⟨g, cap, e⟩
            obtain ⟨g4, c4, rfl⟩ := hv
            have hm4 := M2.out.app (ys := nameBytes x.2) M3.out.2 (by simpa using hown4)
            have hb4 : Below z w1 w4 := B3.out.grown hgrow4 (by omega) (fun g hg => (M2.out.1.lt g hg).1)
            have he : pre ++ (kids.take k).flatMap kidBytes ++ [x.1 % 256] ++ nameBytes x.2 = pre ++ (kids.take (k + 1)).flatMap kidBytes := by
              rw [HST.out]; simp [kidBytes]
            rw [he] at hm4
            have M4 := Lib.hid hm4
            have B4 := Lib.hid hb4
            clear hm4 hb4 hown4 hgrow4 hnil4 he
            go_wp2
            go_roundw
            case rel => exact ⟨k + 1, _, _, _, by omega, by go_num, rfl, M4.out, B4.out⟩
            case measure => simp [intOf]; omega
          · have hkt : kids.take k = kids := List.take_of_length_le (by rw [LK.out]; omega)
            rw [hkt] at MR
            go_wp2
            go_ret
            refine ⟨_, n, c, rfl, ?_, BW.out⟩
            have hrw : rawBytes ⟨kind, path, kids, val⟩ = pre ++ kids.flatMap kidBytes := by
              unfold rawBytes
              rw [← HPRE.out]
              simp only [LP.out, LK.out]
            rw [hr.out, hrw]
            exact MR.out.base (by omega)
  · have hr := Lib.hid (show nodeBytes ⟨kind, path, kids, val⟩ = [] from if_neg hok)
    have hok : nodeOk ⟨kind, path, kids, val⟩ = false := by simpa using hok
    rw [hok]
    go_wp2
    go_ret
    exact ⟨none, 0, 0, rfl, by rw [hr.out]; exact Mine.nil _ _, BB.out⟩
end Go.Proofs.YtdhnhgppapkikaaGreatDoor
