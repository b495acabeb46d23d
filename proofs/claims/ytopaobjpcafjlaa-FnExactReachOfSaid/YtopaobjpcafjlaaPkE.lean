/- Several texts in one, in build order: InsB, SlB, ReadM, ReadP, PathK, NodeP, Allows, NodeQ, ReadK, Named. -/
import Derived.Test.YtopaobjpcafjlaaPkD
import Derived.Deep.AppendLies
-- InsB: slices.Insert of one element, as the program calls it, at one type of element. No statement of the program is proved here.
namespace Go.Proofs.Ytopaobjpcafjlaa
set_option maxRecDepth 100000
set_option linter.unusedVariables false
set_option linter.unusedSimpArgs false
open Go.RowKit

theorem Try.infoInsB : (Try.prog.info? 4).map (fun i => (i.zero, i.size, i.bytes)) = some (some (.bool false), 1, 1) := by kernel_rfl
theorem Try.sizeInsB : ∀ w, (Go.sizeOf 4).run Try.prog w = .ok 1 w := by
  intro w
  obtain ⟨i0, hi0, hz0, hz1, hz2⟩ := info_parts Try.infoInsB
  simp [sizeOf, typeInfo, hi0, hz1]
theorem Try.siInsB : (Try.prog.info? 4).map (·.size) = some 1 := by
  obtain ⟨i0, hi0, hz0, hz1, hz2⟩ := info_parts Try.infoInsB
  rw [hi0]; simp [hz1]
/-- what insertion of one element leaves. -/
def InsAtB (base n i : Nat) (v : Value) (xs us : List Value) (w : World) (e : Ending) (w' : World) : Prop :=
  ∃ g' c', e = .returned (.slice (some ⟨g', 0, none⟩) (n + 1) c') ∧ w'.ownsRow base 4 1 (.slice (some ⟨g', 0, none⟩) (n + 1) c') (n + 1) (putAt xs us (i * 1)) ∧ w.grownBy w' v.ownBlock ∧ (v.ownBlock = some g' ∨ w.heap.size ≤ g')
set_option maxHeartbeats 4000000 in
/-- there is no room, and the place is not the last. -/
theorem insB_grow (base n c i vb vc g : Nat) (xs us : List Value) (w : World) (hr : w.ownsRow base 4 1 (.slice (some ⟨g, 0, none⟩) n c) n xs) (hbase : base ≤ w.heap.size) (hi : i < n) (hn : n ≤ 1048576) (hc : c < n + 1)
    (hv : w.heap[vb]? = some (.cells us.toArray 4 (0, 0))) (hu : us.length = 1) (h1u : ∀ u ∈ us, u.oneCell' = true) (h1x : ∀ u ∈ xs, u.oneCell' = true) :
    Calls Try.prog 46 #[.slice (some ⟨g, 0, none⟩) n c, .int .i64 i, .slice (some ⟨vb, 0, none⟩) 1 vc] w fun e w' => InsAtB base n i (.slice (some ⟨g, 0, none⟩) n c) xs us w e w' := by
  obtain ⟨i0, hi0, hz0, hz1, hz2⟩ := info_parts Try.infoInsB
  obtain ⟨cur, hbg, hg, hnc, hcm, hcs, htk⟩ := own_parts hr
  have hxl := hr.1
  have hgw : g < w.heap.size := (Array.getElem?_eq_some_iff.1 hg).1
  have hvw : vb < w.heap.size := (Array.getElem?_eq_some_iff.1 hv).1
  obtain rfl : c = n := by omega
  have hold : (Builtin.firstCells i0.size i (.slice (some ⟨g, 0, none⟩) i c)).run Try.prog w.drew = .ok (xs.take (i * 1)).toArray w.drew := by
    rw [hz1]
    exact run_firstCells_some w.drew 1 i ⟨g, 0, none⟩ i c (xs.take (i * 1)) (by rw [List.length_take]; omega) (fun j v hj => by
      rw [Addr.add_lit, Nat.zero_add]
      rw [List.getElem?_take] at hj
      split at hj
      · exact (World.ownsRow.cellAt hr j (by omega)).trans hj
      · cases hj)
  obtain ⟨G, hG⟩ : ∃ G, G = grownCap w (c + 1) c 4 := ⟨_, rfl⟩
  have hGn : c + 1 ≤ G := by rw [hG]; exact grownCap_ge w _ _ _
  have hGm : G ≤ maxLen := by rw [hG]; exact grownCap_le_maxLen w (c + 1) c _ (by unfold maxLen; omega)
  obtain ⟨ZS, hZS⟩ : ∃ ZS : List Value, ZS = (Builtin.zeroCells (.bool false : Value).cells (c + 1 - i)).toList ++ (Builtin.zeroCells (.bool false : Value).cells (G - (c + 1))).toList := ⟨_, rfl⟩
  have hZl : ZS.length = (G - i) * 1 := by
    rw [hZS]
    simp [Builtin.zeroCells, Value.cells]
    omega
  obtain ⟨W1, hW1⟩ : ∃ W1, W1 = w.drew.alloc (.cells (xs.take (i * 1) ++ ZS).toArray 4) := ⟨_, rfl⟩
  have hrz : ∀ ty, (Builtin.append_ #[64, 3] ty #[.slice (some ⟨g, 0, none⟩) i c, .int .i64 ((c : Int) + 1 - (i : Int))]).run Try.prog w = .ok (.slice (some ⟨w.heap.size, 0, none⟩) (c + 1) G) W1 := fun ty => by
    have h := Lib.run_append_grow_zeros w 64 3 ty 4 i0 _ .i64 .i64 Try.underlying64 Try.underlying3 hi0 hz0 (some ⟨g, 0, none⟩) i c (xs.take (i * 1)) hold (c + 1 - i) (by omega) (by omega) (by omega) (by omega) (by rw [hz2]; omega)
      (by rw [hz2, show i + (c + 1 - i) = c + 1 by omega]; exact growslice_fits (by omega) (by omega))
    rw [show i + (c + 1 - i) = c + 1 by omega, ← hG, show (((c + 1 - i : Nat) : Nat) : Int) = (c : Int) + 1 - (i : Int) by omega] at h
    rw [h, hW1, hZS]
    congr 3
    apply Array.ext'
    simp
  have hg1 : W1.heap[w.heap.size]? = some (.cells (xs.take (i * 1) ++ ZS).toArray 4 (0, 0)) := by rw [hW1]; exact heap_alloc_new w.drew _
  have ho1 : ∀ k, k < w.heap.size → W1.heap[k]? = w.heap[k]? := fun k hk => by rw [hW1]; exact heap_alloc_old w.drew _ hk
  have hs1 : w.grownBy W1 (some w.heap.size) := ⟨by rw [hW1]; rfl, by rw [hW1]; rfl, by rw [hW1]; rfl, by rw [hW1]; simp, fun k hk _ => ho1 k hk⟩
  have lc0 : (xs.take (i * 1) ++ ZS).length = G * 1 := by simp [hZl]; omega
  obtain ⟨c1, hc1⟩ : ∃ c1 : List Value, c1 = (xs.take (i * 1) ++ ZS).take (i * 1) ++ us ++ (xs.take (i * 1) ++ ZS).drop (i * 1 + us.length) := ⟨_, rfl⟩
  have lc1 : c1.length = G * 1 := by rw [hc1]; simp [hZl]; omega
  obtain ⟨W2, hW2⟩ : ∃ W2, W2 = W1.setRow w.heap.size c1.toArray := ⟨_, rfl⟩
  have hcpA : ∀ ty dc, (Builtin.copy_ #[64, 64] ty #[.slice (some ⟨w.heap.size, i, none⟩) (c + 1 - i) dc, .slice (some ⟨vb, 0, none⟩) 1 vc]).run Try.prog W1 = .ok (goInt 1) W2 := fun ty dc => by
    have h := run_copy_wide (P := Try.prog) W1 64 64 ty 4 1 w.heap.size (i * 1) (c + 1 - i) dc 1 ⟨vb, 0, none⟩ 1 vc _ _ us Try.underlying64 Try.siInsB hg1 (by simp only [Nat.min_def]; split <;> omega) (by omega)
      (fun j v hj => by rw [Addr.add_lit, Nat.zero_add, cell_of_row W1 vb j us.toArray _ (0, 0) ((ho1 vb hvw).trans hv)]; simpa using hj) (by simp [hZl]; omega) h1u
    rw [hW2, hc1]
    simpa using h
  have hg2 : W2.heap[w.heap.size]? = some (.cells c1.toArray 4 (0, 0)) := by rw [hW2]; exact setRow_heap W1 _ _ _ _ _ hg1
  have ho2 : ∀ k, k < w.heap.size → W2.heap[k]? = w.heap[k]? := fun k hk => by rw [hW2, setRow_other W1 _ k _ (by omega)]; exact ho1 k hk
  obtain ⟨c2, hc2⟩ : ∃ c2 : List Value, c2 = c1.take (i * 1 + 1) ++ xs.drop (i * 1) ++ c1.drop (i * 1 + 1 + (xs.drop (i * 1)).length) := ⟨_, rfl⟩
  obtain ⟨W3, hW3⟩ : ∃ W3, W3 = W2.drew.setRow w.heap.size c2.toArray := ⟨_, rfl⟩
  have hcpB : ∀ ty dl dc sc, dl = c - i → (Builtin.copy_ #[64, 64] ty #[.slice (some ⟨w.heap.size, (i + 1), none⟩) dl dc, .slice (some ⟨g, i, none⟩) (c - i) sc]).run Try.prog W2.drew = .ok (goInt (c - i : Nat)) W3 := fun ty dl dc sc hdl => by
    subst hdl
    have h := run_copy_wide (P := Try.prog) W2.drew 64 64 ty 4 1 w.heap.size (i * 1 + 1) (c - i) dc (c - i) ⟨g, i * 1, none⟩ (c - i) sc _ _ (xs.drop (i * 1)) Try.underlying64 Try.siInsB hg2 (by simp only [Nat.min_def]; split <;> omega) (by simp; omega)
      (fun j v hj => by
        rw [Addr.add_lit]
        rw [List.getElem?_drop] at hj
        have hj' := (List.getElem?_eq_some_iff.1 hj).1
        rw [show W2.drew.cell? ⟨g, i * 1 + j, none⟩ = W2.cell? ⟨g, i * 1 + j, none⟩ from rfl, cell_of_row W2 g _ cur _ (0, 0) ((ho2 g hgw).trans hg)]
        rw [← cell_of_row w g _ cur _ (0, 0) hg]
        exact (World.ownsRow.cellAt hr _ (by omega)).trans hj) (by simp [lc1]; omega) (fun v hv => h1x v (List.mem_of_mem_drop hv))
    rw [hW3, hc2]
    simpa [Nat.add_mul] using h
  have hgr := grow_row xs us ZS (i * 1) 1 (by omega) hu (by rw [hZl]; omega)
  simp only [← hc1] at hgr
  rw [← hc2, lc0] at hgr
  have hfin : InsAtB base c i (.slice (some ⟨g, 0, none⟩) c c) xs us w (.returned (.slice (some ⟨w.heap.size, 0, none⟩) (c + 1) G)) W3 := by
    refine ⟨w.heap.size, G, rfl, own_mk c2.toArray (by rw [putAt_len]; omega) hbase (by rw [hW3]; exact setRow_heap W2.drew _ _ _ _ _ hg2) hGn hGm (by simpa using hgr.2) (by rw [show (c + 1) * 1 = xs.length + 1 by omega]; exact hgr.1), ?_, .inr (Nat.le_refl _)⟩
    refine ⟨by rw [hW3, hW2]; exact hs1.os, by rw [hW3, hW2]; exact hs1.tape, by rw [hW3, hW2]; exact hs1.output, by rw [hW3, hW2]; simpa using hs1.size, fun k hk _ => ?_⟩
    rw [hW3, setRow_other W2.drew _ k _ (by omega)]; exact ho2 k hk
  have HF := Lib.hid hfin
  have HA := Lib.hid hrz
  have HB := Lib.hid hcpA
  have HC := Lib.hid hcpB
  clear hfin hrz hcpA hcpB hgr hg1 ho1 hs1 hg2 ho2 hold hG hW1 hW2 hW3 hZS hc1 hc2 lc0 lc1 hZl htk hcs hr hz0
  unfold maxLen at hGm
  have mixed : Try.prog.follows .mixedOrders = true := by kernel_rfl
  have hz2' : ¬ ((i : Int) = (c : Int)) := by omega
  have hz3 : (c : Int) < (c : Int) + 1 := by omega
  have hw1 : IntKind.i64.wrap ((i : Int) + 1) = (i : Int) + 1 := by rw [IntKind.wrap_i64]; omega
  have htn : ((i : Int) + 1).toNat = i + 1 := by omega
  have hGi : ¬ (G = i) := by omega
  have hGim : ¬ (G = i + 1) := by omega
  have hci : ¬ (c = i) := by omega
  have hb1 : (0 : Int) ≤ (i : Int) + 1 := by omega
  have hin : i ≤ c := by omega
  have hb3 : (i : Int) ≤ (c : Int) := by omega
  go_enter Try.func46, Try.ntmps46
  go_wp2_with (first
    | (at_builtin; refine Lib.wpList_append_run _ rfl _ _ _ _ rfl _ _ rfl rfl _ _ (HA.out _) ?_)
    | (simp only [HB.out]))
  go_region_law_o (refine step_copy_runI rfl _ _ 64 64 rfl _ _ (by simp [Act.eval, Act.put]) (by simp [Act.eval, Act.put]) (HC.out _ (c - i) (G - (i + 1)) (c - i) rfl) ?_)
  go_wp2
  go_ret
  exact HF.out
set_option maxHeartbeats 4000000 in
/-- there is room, and the place is not the last. -/
theorem insB_room (base n c i vb vc g : Nat) (xs us : List Value) (w : World) (hr : w.ownsRow base 4 1 (.slice (some ⟨g, 0, none⟩) n c) n xs) (hbase : base ≤ w.heap.size) (hi : i < n) (hn : n ≤ 1048576) (hc : n + 1 ≤ c)
    (hv : w.heap[vb]? = some (.cells us.toArray 4 (0, 0))) (hu : us.length = 1) (h1u : ∀ u ∈ us, u.oneCell' = true) (h1x : ∀ u ∈ xs, u.oneCell' = true) (hne : g ≠ vb) :
    Calls Try.prog 46 #[.slice (some ⟨g, 0, none⟩) n c, .int .i64 i, .slice (some ⟨vb, 0, none⟩) 1 vc] w fun e w' => InsAtB base n i (.slice (some ⟨g, 0, none⟩) n c) xs us w e w' := by
  obtain ⟨cur, hbg, hg, hnc, hcm, hcs, htk⟩ := own_parts hr
  have hxl := hr.1
  have hgw : g < w.heap.size := (Array.getElem?_eq_some_iff.1 hg).1
  have hvw : vb < w.heap.size := (Array.getElem?_eq_some_iff.1 hv).1
  have hcl : cur.toList.length = c * 1 := by simpa using hcs
  have hov : ∀ lb cb, (callFunc 64 #[.slice (some ⟨vb, 0, none⟩) 1 vc, .slice (some ⟨g, (i + 1), none⟩) lb cb]).run Try.prog w = .ok (.value (.bool false)) w := fun lb cb => by
    rw [run_callFunc_extern Try.func64 (by kernel_rfl) (by kernel_rfl) (by kernel_rfl) (e := Extern.SlicesOverlaps.overlaps #[64, 64] #[4]) (by kernel_rfl),
      Lib.run_overlaps_apart w 64 4 4 Try.underlying64 1 Try.sizeInsB ⟨vb, 0, none⟩ ⟨g, (i + 1), none⟩ 1 vc lb cb (fun e => hne e.symm) 4 4 1 (c * 1) (by simp [World.shape?, hv, hu]) (by simp [World.shape?, hg, hcs]) (by omega) (frozen_of_row w vb 0 _ _ hv) (frozen_of_row w vb _ _ _ hv)]
    rfl
  obtain ⟨c1, hc1⟩ : ∃ c1 : List Value, c1 = cur.toList.take (i * 1 + 1) ++ xs.drop (i * 1) ++ cur.toList.drop (i * 1 + 1 + (xs.drop (i * 1)).length) := ⟨_, rfl⟩
  have lc1 : c1.length = c * 1 := by rw [hc1]; simp [hcs]; omega
  obtain ⟨W1, hW1⟩ : ∃ W1, W1 = w.drew.setRow g c1.toArray := ⟨_, rfl⟩
  have hcp1 : ∀ ty dl dc sc, dl = n - i → (Builtin.copy_ #[64, 64] ty #[.slice (some ⟨g, (i + 1), none⟩) dl dc, .slice (some ⟨g, i, none⟩) (n + 1 - i) sc]).run Try.prog w.drew = .ok (goInt (n - i : Nat)) W1 := fun ty dl dc sc hdl => by
    subst hdl
    have h := run_copy_wide (P := Try.prog) w.drew 64 64 ty 4 1 g (i * 1 + 1) (n - i) dc (n - i) ⟨g, i * 1, none⟩ (n + 1 - i) sc _ _ (xs.drop (i * 1)) Try.underlying64 Try.siInsB hg (by simp only [Nat.min_def]; split <;> omega) (by simp; omega)
      (fun j v hj => by
        rw [Addr.add_lit]
        rw [List.getElem?_drop] at hj
        have hj' := (List.getElem?_eq_some_iff.1 hj).1
        exact (World.ownsRow.cellAt hr _ (by omega)).trans hj) (by simp [hcs]; omega) (fun v hv => h1x v (List.mem_of_mem_drop hv))
    rw [hW1, hc1]
    simpa [Nat.add_mul] using h
  have hg1 : W1.heap[g]? = some (.cells c1.toArray 4 (0, 0)) := by rw [hW1]; exact setRow_heap w.drew _ _ _ _ _ hg
  have hv1 : W1.heap[vb]? = some (.cells us.toArray 4 (0, 0)) := by rw [hW1, setRow_other w.drew g vb _ (fun e => hne e.symm)]; exact hv
  obtain ⟨c2, hc2⟩ : ∃ c2 : List Value, c2 = c1.take (i * 1) ++ us ++ c1.drop (i * 1 + us.length) := ⟨_, rfl⟩
  obtain ⟨W2, hW2⟩ : ∃ W2, W2 = W1.setRow g c2.toArray := ⟨_, rfl⟩
  have hcp2 : ∀ ty dc, (Builtin.copy_ #[64, 64] ty #[.slice (some ⟨g, i, none⟩) (n + 1 - i) dc, .slice (some ⟨vb, 0, none⟩) 1 vc]).run Try.prog W1 = .ok (goInt 1) W2 := fun ty dc => by
    have h := run_copy_wide (P := Try.prog) W1 64 64 ty 4 1 g (i * 1) (n + 1 - i) dc 1 ⟨vb, 0, none⟩ 1 vc _ _ us Try.underlying64 Try.siInsB hg1 (by simp only [Nat.min_def]; split <;> omega) (by omega)
      (fun j v hj => by rw [Addr.add_lit, Nat.zero_add, cell_of_row W1 vb j us.toArray _ (0, 0) hv1]; simpa using hj) (by simp [lc1]; omega) h1u
    rw [hW2, hc2]
    simpa using h
  have hsr := shift_row cur.toList us xs (i * 1) 1 (by rw [hxl]; exact htk) (by omega) hu (by rw [hcl]; omega)
  simp only [← hc1] at hsr
  rw [← hc2, hcl] at hsr
  have hfin : InsAtB base n i (.slice (some ⟨g, 0, none⟩) n c) xs us w (.returned (.slice (some ⟨g, 0, none⟩) (n + 1) c)) W2 := by
    refine ⟨g, c, rfl, own_mk c2.toArray (by rw [putAt_len]; omega) hbg (by rw [hW2]; exact setRow_heap W1 _ _ _ _ _ hg1) hc hcm (by simpa using hsr.2) (by rw [show (n + 1) * 1 = xs.length + 1 by omega]; exact hsr.1), ?_, .inl rfl⟩
    refine ⟨by rw [hW2, hW1]; rfl, by rw [hW2, hW1]; rfl, by rw [hW2, hW1]; rfl, by rw [hW2, hW1]; simp, fun k hk hkg => ?_⟩
    have hkg : k ≠ g := fun e => hkg (by rw [e]; simp [Value.ownBlock])
    rw [hW2, setRow_other W1 _ k _ hkg, hW1, setRow_other w.drew _ k _ hkg]; rfl
  have HF := Lib.hid hfin
  have HA := Lib.hid hcp1
  have HB := Lib.hid hcp2
  unfold maxLen at hcm
  clear hfin hcp1 hcp2 hsr hg1 hv1 hW1 hW2 hc1 hc2 lc1 hcl htk hcs hr
  have mixed : Try.prog.follows .mixedOrders = true := by kernel_rfl
  have hz2' : ¬ ((i : Int) = (n : Int)) := by omega
  have hw1 : IntKind.i64.wrap ((i : Int) + 1) = (i : Int) + 1 := by rw [IntKind.wrap_i64]; omega
  have hb1 : (0 : Int) ≤ (i : Int) + 1 := by omega
  have hin : i ≤ n := by omega
  have htn : ((i : Int) + 1).toNat = i + 1 := by omega
  have hb2 : ¬ (c = i + 1) := by omega
  have hb3 : (i : Int) ≤ (n : Int) + 1 := by omega
  have hb4 : ¬ (c = i) := by omega
  go_enter Try.func46, Try.ntmps46
  go_wp2_with (simp only [hov])
  go_region_law_o (refine step_copy_runI rfl _ _ 64 64 rfl _ _ (by simp [Act.eval, Act.put]) (by simp [Act.eval, Act.put]) (HA.out _ (n - i) (c - (i + 1)) (c - i) rfl) ?_)
  go_wp2_with (simp only [HB.out])
  go_ret
  exact HF.out
set_option maxHeartbeats 4000000 in
/-- the place is the last. -/
theorem insB_end (base n c vb vc : Nat) (A : Option Addr) (xs us : List Value) (w : World) (hr : w.ownsRow base 4 1 (.slice A n c) n xs) (hbase : base ≤ w.heap.size) (hn : n ≤ 1048576)
    (hv : w.heap[vb]? = some (.cells us.toArray 4 (0, 0))) (hu : us.length = 1) (h1u : ∀ u ∈ us, u.oneCell' = true) :
    Calls Try.prog 46 #[.slice A n c, .int .i64 n, .slice (some ⟨vb, 0, none⟩) 1 vc] w fun e w' => InsAtB base n n (.slice A n c) xs us w e w' := by
  obtain ⟨i0, hi0, hz0, hz1, hz2⟩ := info_parts Try.infoInsB
  obtain ⟨hnc, hcm, hA⟩ := own_cap hr
  unfold maxLen at hcm
  have hxl := hr.1
  have hx : putAt xs us (n * 1) = xs ++ us := by unfold putAt; rw [List.take_of_length_le (by omega), List.drop_of_length_le (by omega), List.append_nil]
  unfold InsAtB
  rw [hx]
  have hnn : ((n : Int) == (n : Int)) = true := by simp
  clear hx
  go_enter Try.func46, Try.ntmps46
  rcases own_none hr with ⟨rfl, rfl, rfl⟩ | ⟨g, rfl⟩
  all_goals
    go_wp2_with (at_builtin; refine wpList_append_lies _ rfl _ _ 64 rfl base 4 i0 (.bool false) 1 1 Try.underlying64 hi0 hz0 hz1 hz2 rfl (by decide) _ _ _ rfl hr ⟨vb, 0, none⟩ 1 vc us rfl (by omega) (fun j u hj => by rw [Addr.add_lit, Nat.zero_add, cell_of_row w vb j us.toArray _ (0, 0) hv]; simpa using hj) h1u (by omega) (by unfold maxLen; omega) (by omega) hbase _ rfl ?_)
    all_goals
      intro g' c' w1 hown hgrow hat hlt
      go_wp2
      go_ret
      refine ⟨g', c', rfl, hown, hgrow, ?_⟩
      rcases hat with h | h
      · exact .inl h
      · exact .inr (by omega)
theorem insB_any (base n c i vb vc : Nat) (A : Option Addr) (xs us : List Value) (w : World) (hr : w.ownsRow base 4 1 (.slice A n c) n xs) (hbase : base ≤ w.heap.size) (hi : i ≤ n) (hn : n ≤ 1048576)
    (hv : w.heap[vb]? = some (.cells us.toArray 4 (0, 0))) (hu : us.length = 1) (h1u : ∀ u ∈ us, u.oneCell' = true) (h1x : ∀ u ∈ xs, u.oneCell' = true) (hne : (Value.slice A n c).ownBlock ≠ some vb) :
    Calls Try.prog 46 #[.slice A n c, .int .i64 i, .slice (some ⟨vb, 0, none⟩) 1 vc] w fun e w' => InsAtB base n i (.slice A n c) xs us w e w' := by
  rcases Nat.lt_or_ge i n with h | h
  · rcases own_none hr with ⟨rfl, rfl, rfl⟩ | ⟨g, rfl⟩
    · omega
    · have hne : g ≠ vb := fun e => hne (by rw [e]; simp [Value.ownBlock])
      rcases Nat.lt_or_ge c (n + 1) with h1 | h1
      · exact insB_grow base n c i vb vc g xs us w hr hbase h hn h1 hv hu h1u h1x
      · exact insB_room base n c i vb vc g xs us w hr hbase h hn h1 hv hu h1u h1x hne
  · obtain rfl : i = n := by omega
    exact insB_end base i c vb vc A xs us w hr hbase hn hv hu h1u
end Go.Proofs.Ytopaobjpcafjlaa

-- SlB: A list of flags by name, as it lies in memory, and putting one into it. No statement of the program is proved here.
namespace Go.Proofs.Ytopaobjpcafjlaa
set_option maxRecDepth 100000
set_option linter.unusedVariables false
set_option linter.unusedSimpArgs false
open Go.RowKit

def vbs (bs : List (Int × Bool)) : List Value := bs.map fun p => .bool p.2
def kbs (bs : List (Int × Bool)) : List Int := bs.map (·.1)
theorem kbs_len (bs : List (Int × Bool)) : (kbs bs).length = bs.length := by simp [kbs]
theorem vbs_len (bs : List (Int × Bool)) : (vbs bs).length = bs.length := by simp [vbs]
theorem vbs_put (bs : List (Int × Bool)) (i : Nat) (q : Int × Bool) : putAt (vbs bs) [.bool q.2] (i * 1) = vbs (insP bs i q) := by
  unfold vbs putAt
  rw [insP_map]
  unfold insP
  simp
theorem kbs_put (bs : List (Int × Bool)) (i : Nat) (q : Int × Bool) : putAt ((kbs bs).map (Value.int .i64)) [.int .i64 q.1] (i * 1) = (kbs (insP bs i q)).map (Value.int .i64) := by
  unfold kbs putAt
  rw [insP_map, insP_map]
  unfold insP
  simp
theorem vbs_one (bs : List (Int × Bool)) : ∀ u ∈ vbs bs, u.oneCell' = true := by
  intro u hu
  obtain ⟨p, _, rfl⟩ := List.mem_map.1 hu
  rfl
/-- a list of flags by name, in memory of the call's own from lo on. -/
structure SLB (w : World) (lo : Nat) (R : SR) (bs : List (Int × Bool)) : Prop where
  keys : OwnI w lo R.Ak bs.length R.ck (kbs bs)
  vals : w.ownsRow lo 4 1 (.slice R.Av bs.length R.cv) bs.length (vbs bs)
  rise : RiseI (kbs bs)
  len : bs.length ≤ 2000
theorem SLB.nil (w : World) (lo : Nat) : SLB w lo SR0 [] := ⟨OwnI.nil _ _, World.ownsRow_nil _ _ _ _, List.Pairwise.nil, by simp⟩
theorem SLB.lt {w : World} {lo : Nat} {R : SR} {bs : List (Int × Bool)} (h : SLB w lo R bs) (g : Nat) (hg : R.at_ g) : lo ≤ g ∧ g < w.heap.size := by
  rcases hg with ⟨a, ha, rfl⟩ | ⟨a, ha, rfl⟩
  · exact h.keys.lt _ (by rw [ha]; rfl)
  · exact h.vals.lt _ (by rw [ha]; rfl)
theorem SLB.touch {S : Nat → Prop} {w w' : World} {lo : Nat} {R : SR} {bs : List (Int × Bool)} (h : SLB w lo R bs) (t : Touch S w w') (h1 : ∀ g, R.at_ g → ¬ S g) : SLB w' lo R bs :=
  ⟨h.keys.touch t (fun g hg => h1 g (SR.kvAt R bs.length g hg)), own_touch h.vals t (fun g hg => h1 g (SR.vvAt R bs.length g hg)), h.rise, h.len⟩
theorem SLB.below {w w' : World} {lo : Nat} {R : SR} {bs : List (Int × Bool)} (h : SLB w lo R bs) (hb : Below w.heap.size w w') : SLB w' lo R bs :=
  h.touch (S := fun _ => False) (Touch.of_below hb) (fun _ _ h => h)
theorem SLB.not_at {w : World} {lo g : Nat} {R : SR} {bs : List (Int × Bool)} {t : TypeId} {cs : Array Value} (h : SLB w lo R bs) (hb : Box w g t cs) (h1 : t ≠ 2) (h2 : t ≠ 4) : ¬ R.at_ g := fun e => by
  rcases e with ⟨a, ha, e⟩ | ⟨a, ha, e⟩
  · exact own_box_ne h.keys hb h1 (by rw [ha, ← e]; rfl)
  · exact own_box_ne h.vals hb h2 (by rw [ha, ← e]; rfl)
theorem lowB_len (bs : List (Int × Bool)) (m : Int) : lowI (kbs bs) m ≤ bs.length := by have := lowI_le (kbs bs) m; rw [kbs_len] at this; exact this
/-- what a putting leaves, once both rows are made. -/
theorem putB_fin (p lo : Nat) (R : SR) (bs : List (Int × Bool)) (m : Int) (x : Bool) (w w5 w6 : World) (h : SLB w lo R bs) (hp : p < w.heap.size) (hl : bs.length < 2000) (ht : hitI (kbs bs) m = false)
    (g4 c4 g6 c6 : Nat) (T5 : Touch (fun g => g = p ∨ R.at_ g) w w5)
    (P5 : Box w5 p 66 #[.slice (some ⟨g4, 0, none⟩) (bs.length + 1) c4, R.vv bs.length])
    (K5 : OwnI w5 lo (some ⟨g4, 0, none⟩) (bs.length + 1) c4 (kbs (insP bs (lowI (kbs bs) m) (m, x)))) (G4 : R.at_ g4 ∨ w.heap.size ≤ g4)
    (V5 : w5.ownsRow lo 4 1 (R.vv bs.length) bs.length (vbs bs))
    (t6 : Touch (fun g => (R.vv bs.length).ownBlock = some g) w5 w6)
    (o6 : w6.ownsRow lo 4 1 (.slice (some ⟨g6, 0, none⟩) (bs.length + 1) c6) (bs.length + 1) (vbs (insP bs (lowI (kbs bs) m) (m, x)))) (G6 : R.at_ g6 ∨ w.heap.size ≤ g6) :
    Box w6 p 66 #[.slice (some ⟨g4, 0, none⟩) (bs.length + 1) c4, R.vv bs.length] ∧
    ∃ R', Box (w6.setCell ⟨p, 1, none⟩ (.slice (some ⟨g6, 0, none⟩) (bs.length + 1) c6)) p 66 #[R'.kv (bs.length + 1), R'.vv (bs.length + 1)] ∧
      SLB (w6.setCell ⟨p, 1, none⟩ (.slice (some ⟨g6, 0, none⟩) (bs.length + 1) c6)) lo R' (insP bs (lowI (kbs bs) m) (m, x)) ∧ R'.from_ R w.heap.size ∧ Touch (fun g => g = p ∨ R.at_ g) w (w6.setCell ⟨p, 1, none⟩ (.slice (some ⟨g6, 0, none⟩) (bs.length + 1) c6)) := by
  have hvp : (R.vv bs.length).ownBlock ≠ some p := own_box_ne V5 P5 (by decide)
  have s5 := T5.size
  have P6 : Box w6 p 66 #[.slice (some ⟨g4, 0, none⟩) (bs.length + 1) c4, R.vv bs.length] := (t6.block p (by omega) (fun e => hvp e)).trans P5
  have K6 := K5.touch t6 (fun g hg e => own_own_ne K5 V5 (by decide) g hg e)
  have g4p : g4 ≠ p := fun e => own_box_ne K6 P6 (by decide) (by rw [e]; rfl)
  have g6p : g6 ≠ p := fun e => own_box_ne o6 P6 (by decide) (by rw [e]; rfl)
  obtain ⟨w7, hw7⟩ : ∃ w7, w6.setCell ⟨p, 1, none⟩ (.slice (some ⟨g6, 0, none⟩) (bs.length + 1) c6) = w7 := ⟨_, rfl⟩
  have t7 : Touch (fun g => g = p) w6 w7 := by rw [← hw7]; exact touch_set w6 p 1 _ rfl
  have P7 : Box w7 p 66 #[.slice (some ⟨g4, 0, none⟩) (bs.length + 1) c4, .slice (some ⟨g6, 0, none⟩) (bs.length + 1) c6] := by rw [← hw7]; exact P6.set_ 1 _
  have K7 := K6.touch t7 (fun g hg e => g4p (by have e2 : g4 = g := (by simpa [Value.ownBlock] using hg); omega))
  have O7 := own_touch o6 t7 (fun g hg e => g6p (by have e2 : g6 = g := (by simpa [Value.ownBlock] using hg); omega))
  rw [hw7]
  have T7 : Touch (fun g => g = p ∨ R.at_ g) w w7 := (T5.trans (t6.mono (fun k hk => .inr (R.vvAt _ _ hk)))).trans (t7.mono (fun k hk => .inl hk))
  have hfrom : (⟨some ⟨g4, 0, none⟩, c4, some ⟨g6, 0, none⟩, c6⟩ : SR).from_ R w.heap.size := fun g hg => by
    rcases hg with ⟨a, ha, e⟩ | ⟨a, ha, e⟩
    · cases ha; subst e; exact G4
    · cases ha; subst e; exact G6
  have hli := lowB_len bs m
  have hln : (insP bs (lowI (kbs bs) m) (m, x)).length = bs.length + 1 := insP_len _ _ _ hli
  refine ⟨P6, ⟨some ⟨g4, 0, none⟩, c4, some ⟨g6, 0, none⟩, c6⟩, P7, ⟨by rw [hln]; exact K7, by rw [hln]; exact O7, ?_, by omega⟩, hfrom, T7⟩
  have hm : m ∉ kbs bs := fun hm => by rw [(hitI_mem _ _ h.rise).2 hm] at ht; cases ht
  have e : kbs (insP bs (lowI (kbs bs) m) (m, x)) = insI (kbs bs) m := by rw [← insP_low _ _ hm]; exact insP_map _ _ _ _
  rw [e]
  exact insI_rise _ _ h.rise hm
set_option maxHeartbeats 2000000 in
theorem putB_any (p lo : Nat) (R : SR) (bs : List (Int × Bool)) (m : Int) (x : Bool) (w : World) (hx : Box w p 66 #[R.kv bs.length, R.vv bs.length]) (h : SLB w lo R bs) (hlo : lo ≤ w.heap.size) (hl : bs.length < 2000) :
    Calls Try.prog 34 #[.pointer (some ⟨p, 0, none⟩), .int .i64 m, .bool x] w fun e w' =>
      (hitI (kbs bs) m = true ∧ e = .returned (.bool false) ∧ Below w.heap.size w w') ∨
      (hitI (kbs bs) m = false ∧ e = .returned (.bool true) ∧ ∃ R', Box w' p 66 #[R'.kv (bs.length + 1), R'.vv (bs.length + 1)] ∧ SLB w' lo R' (insP bs (lowI (kbs bs) m) (m, x)) ∧ R'.from_ R w.heap.size ∧ Touch (fun g => g = p ∨ R.at_ g) w w') := by
  have mixed : Try.prog.follows .mixedOrders = true := by kernel_rfl
  have hlen := h.len
  have hp := hx.lt
  have P1 := Lib.hid hx
  have HS := Lib.hid h
  have HRL := Lib.hid (fun g hg => (h.lt g hg).2)
  clear hx h
  have q0 := P1.out.cell 0
  have q1 := P1.out.cell 1
  unfold SR.kv at q0
  unfold SR.vv at q1
  simp at q0 q1
  go_enter Try.func34, Try.ntmps34
  go_wp2_with fail
  refine (search_any R.Ak bs.length R.ck (kbs bs) m w.heap.size w (by omega) HS.out.keys.ints HS.out.rise).mono ?_
  rintro e w2 ⟨rfl, nq, hq⟩
  have b2 : Below w.heap.size w w2 := by rw [hq]; exact below_drewN (Below.refl _ _) nq
  have P2 := Lib.hid (P1.out.below b2 (by omega))
  have S2 := Lib.hid (HS.out.below b2)
  have B2 := Lib.hid b2
  have hs2 : w2.heap.size = w.heap.size := by rw [hq]; simp
  clear hq b2 q0 q1
  have q0 := P2.out.cell 0
  have q1 := P2.out.cell 1
  have p0 := P2.out.free
  unfold SR.kv at q0
  unfold SR.vv at q1
  simp at q0 q1
  obtain ⟨ht, hht⟩ : ∃ ht, hitI (kbs bs) m = ht := ⟨_, rfl⟩
  have HT := Lib.hid hht
  rw [hht]
  clear hht
  obtain ⟨i, hi⟩ : ∃ i, lowI (kbs bs) m = i := ⟨_, rfl⟩
  have hil : i ≤ bs.length := by rw [← hi]; exact lowB_len bs m
  have HI := Lib.hid hi
  rw [hi]
  clear hi
  cases ht with
  | true =>
    go_wp2
    go_ret
    exact .inl ⟨HT.out, rfl, B2.out⟩
  | false =>
    -- the key's own block
    obtain ⟨w3, hw3⟩ : ∃ w3, w2.alloc (.cells #[.int .i64 m] 2) = w3 := ⟨_, rfl⟩
    have b3 : Below w2.heap.size w2 w3 := hw3 ▸ (Below.refl w2.heap.size w2).alloc (Nat.le_refl _) _
    have y3 : Box w3 w2.heap.size 2 #[.int .i64 m] := hw3 ▸ heap_alloc_new _ _
    have s3 : w3.heap.size = w.heap.size + 1 := by rw [← hw3]; simp [hs2]
    rw [hs2] at y3
    have P3 := Lib.hid (P2.out.below b3 (by omega))
    have S3 := Lib.hid (S2.out.below b3)
    have B3 := Lib.hid (B2.out.trans (b3.mono (by omega)))
    have Y3 := Lib.hid y3
    clear b3 y3
    go_wp2_with fail
    refine (insI_any lo bs.length R.ck i w.heap.size _ R.Ak ((kbs bs).map (Value.int .i64)) [.int .i64 m] w3 S3.out.keys (by omega) hil (by omega) Y3.out rfl (by intro u hu; simp at hu; subst hu; rfl) (kvs_one _) (fun e => by have := (S2.out.keys.lt _ e).2; omega)).mono ?_
    rintro e w4 ⟨g4, c4, rfl, o4, gr4, at4⟩
    rw [show ([.int .i64 m] : List Value) = [.int .i64 ((m, x) : Int × Bool).1] from rfl, kbs_put] at o4
    have gk4 := gr4
    have gr4 : Touch (fun g => R.at_ g) w3 w4 := (Touch.of_grown gr4).mono (fun k hk => R.kvAt _ _ hk.symm)
    have np_ : ¬ R.at_ p := S3.out.not_at P3.out (by decide) (by decide)
    have s4 : w3.heap.size ≤ w4.heap.size := gr4.size
    have P4 := Lib.hid (show Box w4 p _ _ from (gr4.block p (by omega) np_).trans P3.out)
    have V4 := Lib.hid (own_touch S3.out.vals (S := fun g => (R.kv bs.length).ownBlock = some g) ((Touch.of_grown (show w3.grownBy w4 (R.kv bs.length).ownBlock from gk4)).mono (fun k hk => hk.symm)) (fun g hg hk => own_own_ne S3.out.keys S3.out.vals (by decide) g hk hg))
    have V4p : (R.vv bs.length).ownBlock ≠ some p := own_box_ne V4.out P4.out (by decide)
    have K4 := Lib.hid (show OwnI w4 lo (some ⟨g4, 0, none⟩) (bs.length + 1) c4 _ from o4)
    have g4p : g4 ≠ p := fun e => own_box_ne o4 P4.out (by decide) (by rw [e]; rfl)
    have G4 := Lib.hid at4
    clear o4 gk4 at4 q0 q1 p0
    have f4 := P4.out.free
    have q4 := P4.out.cell 0
    simp at q4
    obtain ⟨w5, hw5⟩ : ∃ w5, w4.setCell ⟨p, 0, none⟩ (.slice (some ⟨g4, 0, none⟩) (bs.length + 1) c4) = w5 := ⟨_, rfl⟩
    have t5 : Touch (fun g => g = p) w4 w5 := by rw [← hw5]; exact touch_set w4 p 0 _ rfl
    have s5 : w5.heap.size = w4.heap.size := by rw [← hw5]; simp
    have P5 := Lib.hid (show Box w5 p _ #[.slice (some ⟨g4, 0, none⟩) (bs.length + 1) c4, R.vv bs.length] from by rw [← hw5]; exact P4.out.set_ 0 _)
    have V5 := Lib.hid (own_touch V4.out t5 (fun g hg hk => V4p (by rw [← hk]; exact hg)))
    have K5 := Lib.hid (K4.out.touch t5 (fun g hg hk => g4p (by have e : g4 = g := (by simpa [Value.ownBlock] using hg); omega)))
    have T5 := Lib.hid (show Touch (fun g => g = p ∨ R.at_ g) w w5 from ((Touch.of_below B3.out).trans (gr4.mono (fun k hk => .inr hk))).trans (t5.mono (fun k hk => .inl hk)))
    have q1 := P5.out.cell 1
    have f1 := P5.out.free
    unfold SR.vv at q1
    simp at q1
    obtain ⟨w51, hw51⟩ : ∃ w51, w5.alloc (.cells #[.bool x] 4) = w51 := ⟨_, rfl⟩
    have b51 : Below w5.heap.size w5 w51 := hw51 ▸ (Below.refl _ _).alloc (Nat.le_refl _) _
    have V6 := Lib.hid (show w51.ownsRow lo 4 1 (.slice R.Av bs.length R.cv) bs.length (vbs bs) from hw51 ▸ V5.out.alloc _)
    have y6 : w51.heap[w5.heap.size]? = some (.cells ([.bool x] : List Value).toArray 4 (0, 0)) := hw51 ▸ heap_alloc_new w5 _
    rw [s5] at y6
    have Y6 := Lib.hid y6
    have z6 : w51.heap.size = w4.heap.size + 1 := by rw [← hw51, ← s5]; simp
    have VB := Lib.hid (fun g hg => (V5.out.lt g hg).2)
    have B51 := Lib.hid b51
    clear gr4 t5 y6 b51
    have hp4 : p < w4.heap.size := by omega
    have hp5 : p < w5.heap.size := by omega
    have hpn : ¬ (p = w4.heap.size) := by omega
    go_wp2_with fail
    refine (insB_any lo bs.length R.cv i w4.heap.size _ R.Av (vbs bs) [.bool x] w51 V6.out (by omega) hil (by omega) Y6.out rfl (by intro u hu; simp at hu; subst hu; rfl) (vbs_one _) (fun e => by have := VB.out _ e; omega)).mono ?_
    rintro e w6 ⟨g6, c6, rfl, o6, gr6, at6⟩
    rw [show ([.bool x] : List Value) = [.bool ((m, x) : Int × Bool).2] from rfl, vbs_put, ← HI.out] at o6
    have PF := putB_fin p lo R bs m x w w5 w6 HS.out hp hl HT.out g4 c4 g6 c6 T5.out P5.out (by rw [HI.out]; exact K5.out) (G4.out.elim (fun e => .inl (R.kvAt _ _ e)) (fun e => .inr (by omega))) V5.out
      ((Touch.of_below B51.out).trans ((Touch.of_grown gr6).mono (fun k hk => hk.symm))) o6 (at6.elim (fun e => .inl (R.vvAt _ _ e)) (fun e => .inr (by omega)))
    have q6 := PF.1.cell 1
    have f6 := PF.1.free 1
    simp at q6
    have PF := Lib.hid PF.2
    clear q1 f1 o6 gr6 at6 hw51 hw5 f4 q4
    go_wp2
    go_ret
    exact .inr ⟨HT.out, rfl, PF.out⟩
end Go.Proofs.Ytopaobjpcafjlaa

-- ReadM: Plain facts on the reading of a node as the program does it: number by number, until there are too few.
namespace Go.Proofs.Ytopaobjpcafjlaa
set_option maxRecDepth 20000
open Go.RowKit

/-- the next number, of what is left; none: there were too few. -/
def rNum : Option (List Int) → Int × Option (List Int)
  | some (y :: r) => (y, some r)
  | _ => (0, none)
def rByt (c : Nat) : Option (List Int) → List Int × Option (List Int)
  | some ys => if c ≤ ys.length then (ys.take c, some (ys.drop c)) else ([], none)
  | none => ([], none)
def nm8 (zs : List Int) : Int := if zs.length = 8 ∧ zs[7]?.getD 0 ≤ 127 then leVal zs else -1
def rKid (st : Option (List Int)) : (Int × Int) × Option (List Int) := (((rNum st).1, nm8 (rByt 8 (rNum st).2).1), (rByt 8 (rNum st).2).2)
def rKids : Nat → Option (List Int) → List (Int × Int) × Option (List Int)
  | 0, st => ([], st)
  | q + 1, st => ((rKids q st).1 ++ [(rKid (rKids q st).2).1], (rKid (rKids q st).2).2)
def rPart (st : Option (List Int)) : List Int × Option (List Int) := rByt (rNum st).1.toNat (rNum st).2
def rAll (st : Option (List Int)) : List (Int × Int) × Option (List Int) := rKids (rNum st).1.toNat (rNum st).2
def rNode (st : Option (List Int)) : MNode × Option (List Int) :=
  (⟨(rNum st).1, (rPart (rNum st).2).1, (rAll (rPart (rPart (rNum st).2).2).2).1, strOfNums (rPart (rPart (rNum st).2).2).1⟩, (rAll (rPart (rPart (rNum st).2).2).2).2)

/-- every number that is left is a byte. -/
def Bs (st : Option (List Int)) : Prop := ∀ ys, st = some ys → ∀ z ∈ ys, 0 ≤ z ∧ z ≤ 255
theorem rNum_bs {st} (h : Bs st) : Bs (rNum st).2 ∧ 0 ≤ (rNum st).1 ∧ (rNum st).1 ≤ 255 := by
  rcases st with _ | _ | ⟨y, r⟩
  · exact ⟨fun ys e => (by cases e), by decide, by decide⟩
  · exact ⟨fun ys e => (by cases e), by decide, by decide⟩
  · refine ⟨fun ys e z hz => ?_, h _ rfl y (by simp)⟩
    cases e
    exact h _ rfl z (by simp [hz])
theorem rByt_bs {st} (c : Nat) (h : Bs st) : Bs (rByt c st).2 ∧ ∀ z ∈ (rByt c st).1, 0 ≤ z ∧ z ≤ 255 := by
  rcases st with _ | ys
  · exact ⟨fun ys e => (by cases e), by simp [rByt]⟩
  · unfold rByt
    simp only
    split
    · refine ⟨fun r e z hz => ?_, fun z hz => h _ rfl z (List.mem_of_mem_take hz)⟩
      cases e
      exact h _ rfl z (List.mem_of_mem_drop hz)
    · exact ⟨fun ys e => (by cases e), by simp⟩
theorem rPart_bs {st} (h : Bs st) : Bs (rPart st).2 ∧ ∀ z ∈ (rPart st).1, 0 ≤ z ∧ z ≤ 255 := rByt_bs _ (rNum_bs h).1
theorem rKid_bs {st} (h : Bs st) : Bs (rKid st).2 := (rByt_bs 8 (rNum_bs h).1).1
theorem rKids_bs {st} (q : Nat) (h : Bs st) : Bs (rKids q st).2 := by
  induction q with
  | zero => exact h
  | succ q ih => exact rKid_bs ih
theorem rByt_len {st} (c : Nat) : (rByt c st).1.length ≤ c := by
  rcases st with _ | ys
  · simp [rByt]
  · unfold rByt
    simp only
    split
    · simp; omega
    · simp
theorem rPart_len {st} (h : Bs st) : (rPart st).1.length ≤ 255 := by
  have h1 := rByt_len (st := (rNum st).2) (rNum st).1.toNat
  have h2 := (rNum_bs h).2
  unfold rPart
  omega
theorem rKids_len (q : Nat) {st} : (rKids q st).1.length = q := by
  induction q with
  | zero => rfl
  | succ q ih => simp [rKids, ih]

/-! what was read stands there -/
theorem rNum_back {st a r} (h : rNum st = (a, some r)) : st = some (a :: r) := by
  rcases st with _ | _ | ⟨y, q⟩
  · cases h
  · cases h
  · cases h; rfl
theorem rByt_back {st c xs r} (h : rByt c st = (xs, some r)) : st = some (xs ++ r) ∧ xs.length = c := by
  rcases st with _ | ys
  · cases h
  · unfold rByt at h
    simp only at h
    split at h
    · cases h
      exact ⟨by rw [List.take_append_drop], by simp; omega⟩
    · cases h
theorem rPart_back {st xs r} (hb : Bs st) (h : rPart st = (xs, some r)) : st = some ((xs.length : Int) :: (xs ++ r)) := by
  obtain ⟨h1, h2⟩ := rByt_back h
  have hp := (rNum_bs hb).2
  rw [rNum_back (st := st) (a := (rNum st).1) (r := xs ++ r) (Prod.ext rfl h1)]
  rw [h2]
  congr 2
  omega
theorem rKid_back {st k r} (hb : Bs st) (h : rKid st = (k, some r)) (hk : 1 ≤ k.2) : st = some (kidBytes k ++ r) ∧ k.2 ≤ 9223372036854775807 := by
  have e1 : k = ((rNum st).1, nm8 (rByt 8 (rNum st).2).1) := (congrArg Prod.fst h).symm
  have e2 : (rByt 8 (rNum st).2).2 = some r := congrArg Prod.snd h
  obtain ⟨h1, h2⟩ := rByt_back (st := (rNum st).2) (c := 8) (xs := (rByt 8 (rNum st).2).1) (r := r) (Prod.ext rfl e2)
  have hr := (rByt_bs 8 (rNum_bs hb).1).2
  have hn := (rNum_bs hb).2
  generalize (rByt 8 (rNum st).2).1 = xs at h1 h2 hr e1
  have h3 := rNum_back (st := st) (a := (rNum st).1) (r := xs ++ r) (Prod.ext rfl h1)
  subst e1
  simp only at hk ⊢
  unfold nm8 at hk ⊢
  split at hk
  · rename_i hc
    rw [if_pos hc]
    refine ⟨?_, (leW_yes xs hr h2 hc.2).2.2⟩
    refine h3.trans ?_
    unfold kidBytes
    simp only
    rw [bytes_of_back xs hr h2 hc.2, Int.emod_eq_of_lt hn.1 (by omega)]
    rfl
  · omega
theorem rKids_back {st r} (q : Nat) (hb : Bs st) (h : (rKids q st).2 = some r) (hk : ∀ k ∈ (rKids q st).1, 1 ≤ k.2) : st = some ((rKids q st).1.flatMap kidBytes ++ r) ∧ ∀ k ∈ (rKids q st).1, k.2 ≤ 9223372036854775807 := by
  induction q generalizing r with
  | zero => exact ⟨by simpa [rKids] using h, by simp [rKids]⟩
  | succ q ih =>
    have h0 : (rKid (rKids q st).2).2 = some r := h
    obtain ⟨h1, h2⟩ := rKid_back (rKids_bs q hb) (k := (rKid (rKids q st).2).1) (r := r) (Prod.ext rfl h0) (hk _ (by simp [rKids]))
    obtain ⟨h3, h4⟩ := ih h1 (fun k hm => hk k (by simp [rKids, hm]))
    refine ⟨?_, fun k hm => ?_⟩
    · conv => lhs; rw [h3]
      simp [rKids]
    · simp only [rKids, List.mem_append, List.mem_singleton] at hm
      rcases hm with hm | rfl
      · exact h4 k hm
      · exact h2
theorem rNode_back {bs} (hb : Bs (some bs)) (h : (rNode (some bs)).2 = some []) (ok : nodeOk (rNode (some bs)).1 = true) : NodeRead bs (rNode (some bs)).1 true := by
  have b1 := (rNum_bs hb)
  have b2 := rPart_bs b1.1
  have b3 := rPart_bs b2.1
  have b4 := rNum_bs b3.1
  have hks := (nodeOk_parts _ ok).2.1
  have hk1 : ∀ k ∈ (rNode (some bs)).1.kids, 1 ≤ k.2 := fun k hk => (kidsOk_mem _ hks k hk).2
  obtain ⟨k1, k2⟩ := rKids_back (r := []) (rNum (rPart (rPart (rNum (some bs)).2).2).2).1.toNat b4.1 h hk1
  have kl := rKids_len (rNum (rPart (rPart (rNum (some bs)).2).2).2).1.toNat (st := (rNum (rPart (rPart (rNum (some bs)).2).2).2).2)
  refine .inl ⟨rfl, ok, k2, ?_⟩
  unfold nodeBytes
  rw [if_pos ok]
  unfold rNode rawBytes
  simp only
  have e3 := rNum_back (st := (rPart (rPart (rNum (some bs)).2).2).2) (Prod.ext rfl k1)
  have e2 := rPart_back (st := (rPart (rNum (some bs)).2).2) b2.1 (Prod.ext rfl e3)
  have e1 := rPart_back (st := (rNum (some bs)).2) b1.1 (Prod.ext rfl e2)
  have e0 := rNum_back (st := some bs) (Prod.ext rfl e1)
  have l1 := rPart_len b1.1
  have l2 := rPart_len b2.1
  have hm : (rPart (rNum (some bs)).2).1.map (· % 256) = (rPart (rNum (some bs)).2).1 := by
    conv => rhs; rw [← List.map_id (rPart (rNum (some bs)).2).1]
    apply List.map_congr_left
    intro z hz
    have := b2.2 z hz
    simp; omega
  injection e0 with e0
  rw [hm, sb_str _ b3.2, strOfNums_size]
  have d0 : (rNum (some bs)).1 % 256 = (rNum (some bs)).1 := by omega
  have d1 : ((rPart (rNum (some bs)).2).1.length : Int) % 256 = (rPart (rNum (some bs)).2).1.length := by omega
  have d2 : ((rPart (rPart (rNum (some bs)).2).2).1.length : Int) % 256 = (rPart (rPart (rNum (some bs)).2).2).1.length := by omega
  have d3 : ((rAll (rPart (rPart (rNum (some bs)).2).2).2).1.length : Int) % 256 = (rNum (rPart (rPart (rNum (some bs)).2).2).2).1 := by
    unfold rAll
    rw [kl]; omega
  rw [d0, d1, d2, d3]
  conv => rhs; rw [e0]
  simp [rAll]

/-! what is written is read -/
theorem rByt_of (xs r : List Int) : rByt xs.length (some (xs ++ r)) = (xs, some r) := by simp [rByt]
theorem rPart_of (xs r : List Int) : rPart (some ((xs.length : Int) :: (xs ++ r))) = (xs, some r) := by
  show rByt ((xs.length : Int)).toNat (some (xs ++ r)) = _
  rw [Int.toNat_natCast]; exact rByt_of xs r
theorem rKid_of (k : Int × Int) (r : List Int) (h0 : 0 ≤ k.1 ∧ k.1 ≤ 15) (h1 : 1 ≤ k.2 ∧ k.2 ≤ 9223372036854775807) : rKid (some (kidBytes k ++ r)) = (k, some r) := by
  obtain ⟨hb1, hb2, hb3⟩ := back_of_bytes k.2 (by omega)
  have e : rByt 8 (some (nameBytes k.2 ++ r)) = (nameBytes k.2, some r) := by
    have := rByt_of (nameBytes k.2) r
    rwa [hb2] at this
  have en : rNum (some (kidBytes k ++ r)) = (k.1, some (nameBytes k.2 ++ r)) := by
    unfold kidBytes
    show (k.1 % 256, some (nameBytes k.2 ++ r)) = _
    rw [Int.emod_eq_of_lt h0.1 (by omega)]
  unfold rKid
  rw [en]
  simp only
  rw [e]
  simp only
  have : nm8 (nameBytes k.2) = k.2 := by
    unfold nm8
    rw [if_pos ⟨hb2, hb3⟩]; exact hb1
  rw [this]
theorem rKids_of (ks : List (Int × Int)) (r : List Int) (h : ∀ k ∈ ks, (0 ≤ k.1 ∧ k.1 ≤ 15) ∧ (1 ≤ k.2 ∧ k.2 ≤ 9223372036854775807)) (m : Nat) (hm : m ≤ ks.length) :
    rKids m (some (ks.flatMap kidBytes ++ r)) = (ks.take m, some ((ks.drop m).flatMap kidBytes ++ r)) := by
  induction m with
  | zero => simp [rKids]
  | succ m ih =>
    have hlt : m < ks.length := by omega
    unfold rKids
    rw [ih (by omega)]
    simp only
    rw [List.drop_eq_getElem_cons hlt, List.flatMap_cons, List.append_assoc]
    have hx := h ks[m] (List.getElem_mem hlt)
    rw [rKid_of ks[m] _ hx.1 hx.2, List.take_succ_eq_append_getElem hlt]
theorem rNode_of (nd : MNode) (bs : List Int) (h : nodeOk nd = true) (hw : NodeWf nd) (he : nodeBytes nd = bs) : rNode (some bs) = (nd, some []) := by
  have pa := (isPath_iff _).1 (nodeOk_parts nd h).1
  have ka := nodeOk_kind nd h
  have va := nodeOk_val nd h
  have ca := (nodeOk_parts nd h).2.1
  have na := kidsOk_len _ ca
  have hsb := sb_len nd.val
  have hbs : bs = nd.kind :: (nd.path.length : Int) :: (nd.path ++ (((sb nd.val).length : Int) :: (sb nd.val ++ ((nd.kids.length : Int) :: (nd.kids.flatMap kidBytes ++ []))))) := by
    rw [← he]
    unfold nodeBytes
    rw [if_pos h]
    unfold rawBytes
    rw [map_mod nd.path pa.2]
    have d0 : nd.kind % 256 = nd.kind := by omega
    have d1 : (nd.path.length : Int) % 256 = nd.path.length := by omega
    have d2 : (nd.val.size : Int) % 256 = nd.val.size := by omega
    have d3 : (nd.kids.length : Int) % 256 = nd.kids.length := by omega
    rw [d0, d1, d2, d3, hsb]
    simp
  have e0 : rNum (some bs) = (nd.kind, some ((nd.path.length : Int) :: (nd.path ++ (((sb nd.val).length : Int) :: (sb nd.val ++ ((nd.kids.length : Int) :: (nd.kids.flatMap kidBytes ++ []))))))) := by rw [hbs]; rfl
  have e1 := rPart_of nd.path (((sb nd.val).length : Int) :: (sb nd.val ++ ((nd.kids.length : Int) :: (nd.kids.flatMap kidBytes ++ []))))
  have e2 := rPart_of (sb nd.val) ((nd.kids.length : Int) :: (nd.kids.flatMap kidBytes ++ []))
  have e3 : rAll (some ((nd.kids.length : Int) :: (nd.kids.flatMap kidBytes ++ []))) = (nd.kids, some []) := by
    show rKids ((nd.kids.length : Int)).toNat (some (nd.kids.flatMap kidBytes ++ [])) = _
    rw [Int.toNat_natCast, rKids_of nd.kids [] (fun k hk => ⟨(kidsOk_mem _ ca k hk).1, (kidsOk_mem _ ca k hk).2, hw k hk⟩) _ (Nat.le_refl _)]
    simp
  unfold rNode
  rw [e0]
  simp only
  rw [e1]
  simp only
  rw [e2]
  simp only
  rw [e3, str_sb]
theorem rNode_none {bs} (h : ¬ ((rNode (some bs)).2 = some [] ∧ nodeOk (rNode (some bs)).1 = true)) : NodeRead bs node0 false :=
  .inr ⟨rfl, rfl, fun nd h1 h2 h3 => h (by rw [rNode_of nd bs h1 h2 h3]; exact ⟨rfl, h1⟩)⟩
end Go.Proofs.Ytopaobjpcafjlaa

-- ReadP: The program's reader of the bytes of a node.
namespace Go.Proofs.Ytopaobjpcafjlaa
set_option maxRecDepth 20000
set_option linter.unusedSimpArgs false
set_option linter.unusedVariables false
open Go.RowKit

/-- the reader in block g: what is left, below block B; none: it was short. -/
def Rd (w : World) (B g : Nat) (st : Option (List Int)) : Prop :=
  ∃ A n c short, Box w g 89 #[.slice A n c, .bool short] ∧ n ≤ c ∧ n ≤ 1048576 ∧ (A = none → c = 0) ∧ Byts w B A n (st.getD []) ∧ short = st.isNone ∧ (st = none → A = none)
theorem Rd.lt {w : World} {B g : Nat} {st} (h : Rd w B g st) : g < w.heap.size := by
  obtain ⟨A, n, c, s, hx, _⟩ := h
  exact hx.lt
theorem Rd.touch {w w' : World} {B g : Nat} {st} {S : Nat → Prop} (h : Rd w B g st) (t : Touch S w w') (hB : B ≤ g) (hs : ∀ k, k ≤ g → ¬ S k) : Rd w' B g st := by
  have hl := h.lt
  obtain ⟨A, n, c, s, hx, h1, h2, h3, h4, h5⟩ := h
  exact ⟨A, n, c, s, (t.block g hl (hs g (Nat.le_refl _))).trans hx, h1, h2, h3, h4.below (t.below (by omega) (fun k hk => hs k (by omega))), h5⟩
theorem Rd.below {w w' : World} {B g : Nat} {st} (h : Rd w B g st) (b : Below w.heap.size w w') (hB : B ≤ g) : Rd w' B g st :=
  h.touch (Touch.of_below (S := fun _ => False) b) hB (fun _ _ h => h)
theorem Rd.bs {w : World} {B g : Nat} {st} (h : Rd w B g st) : Bs st := by
  obtain ⟨A, n, c, s, _, _, _, _, h4, _⟩ := h
  intro ys e
  subst e
  exact h4.2.1

theorem Byts.take_ {w : World} {B n k : Nat} {A : Option Addr} {ys : List Int} (h : Byts w B A n ys) (hk : k ≤ n) : Byts w B A k (ys.take k) := by
  refine ⟨by have := h.1; simp; omega, fun z hz => h.2.1 z (List.mem_of_mem_take hz), fun hp => ?_⟩
  obtain ⟨b, off, e, hb, hc⟩ := h.2.2 (by omega)
  refine ⟨b, off, e, hb, fun i hi => ?_⟩
  rw [hc i (by omega)]
  simp [hi]
theorem Byts.drop_ {w : World} {B n k : Nat} {A : Option Addr} {ys : List Int} (h : Byts w B A n ys) (hk : k ≤ n) : Byts w B (A.map fun x => x.add k) (n - k) (ys.drop k) := by
  refine ⟨by have := h.1; simp; omega, fun z hz => h.2.1 z (List.mem_of_mem_drop hz), fun hp => ?_⟩
  obtain ⟨b, off, rfl, hb, hc⟩ := h.2.2 (by omega)
  refine ⟨b, off + k, by simp [Addr.add], hb, fun i hi => ?_⟩
  have := hc (k + i) (by omega)
  rw [Nat.add_assoc, this]
  simp
theorem rByt_ok {st} (cnt : Nat) (h : cnt ≤ (st.getD ([] : List Int)).length) : (rByt cnt st).1 = (st.getD []).take cnt ∧ (rByt cnt st).2.getD [] = (st.getD []).drop cnt ∧ (rByt cnt st).2.isNone = st.isNone := by
  rcases st with _ | ys
  · simp [rByt]
  · have h' : cnt ≤ ys.length := h
    simp [rByt, h']
theorem rByt_few {st} (cnt : Nat) (h : (st.getD ([] : List Int)).length < cnt) : rByt cnt st = ([], none) := by
  rcases st with _ | ys
  · simp [rByt]
  · have h' : ¬ cnt ≤ ys.length := by simpa using h
    simp [rByt, h']
theorem none_of_isNone {st : Option (List Int)} (h : st.isNone = true) : st = none := by cases st <;> simp_all

theorem rbytes_any (g cnt B : Nat) (st : Option (List Int)) (w : World) (hB : B ≤ g) (hcn : cnt ≤ 1048576) (h : Rd w B g st) :
    Calls Try.prog 53 #[.pointer (some ⟨g, 0, none⟩), .int .i64 cnt] w fun e w' => ∃ A n c, e = .returned (.slice A n c) ∧ n ≤ c ∧ Byts w' B A n (rByt cnt st).1 ∧ Rd w' B g (rByt cnt st).2 ∧ Touch (fun k => k = g) w w' ∧ w'.heap.size = w.heap.size := by
  have hg := h.lt
  obtain ⟨A, n, c, short, hx, hc, hn, hA, hb, hs, hst⟩ := h
  have q0 := hx.cell 0
  have q1 := hx.cell 1
  have f0 := hx.free 0
  have f1 := hx.free 1
  simp at q0 q1
  have hlen := hb.1
  have HX := Lib.hid hx
  have HB := Lib.hid hb
  have HA := Lib.hid hA
  have HS := Lib.hid hs
  have HST := Lib.hid hst
  clear hx hb hA hs hst
  by_cases hlt : n < cnt
  · have hd : decide ((n : Int) < (cnt : Int)) = true := decide_eq_true (by omega)
    have hf := Lib.hid (rByt_few (st := st) cnt (by omega))
    go_enter Try.func53, Try.ntmps53
    go_wp2
    go_ret
    rw [hf.out]
    have hx2 := (HX.out.set_ 0 (.slice none 0 0)).set_ 1 (.bool true)
    exact ⟨none, 0, 0, rfl, Nat.le_refl _, Byts.none_, ⟨none, 0, 0, true, by simpa using hx2, Nat.le_refl _, by omega, fun _ => rfl, Byts.none_, rfl, fun _ => rfl⟩, (touch_set (S := fun k => k = g) w g 0 _ rfl).trans (touch_set _ g 1 _ rfl), by simp⟩
  · have hd : decide ((n : Int) < (cnt : Int)) = false := decide_eq_false (by omega)
    have h1 : (cnt : Int) ≤ (c : Int) := by omega
    have h2 : (cnt : Int) ≤ (n : Int) := by omega
    have hok := Lib.hid (rByt_ok (st := st) cnt (by omega))
    have hle : cnt ≤ n := by omega
    go_enter Try.func53, Try.ntmps53
    go_wp2
    · subst h
      obtain rfl : n = c := by omega
      go_ret
      obtain ⟨e1, e2, e3⟩ := hok.out
      have hx2 := HX.out.set_ 0 (.slice A (n - n) 0)
      have t := touch_set (S := fun k => k = g) w g 0 (.slice A (n - n) 0) rfl
      have hb2 : Below B w (w.setCell ⟨g, 0, none⟩ (.slice A (n - n) 0)) := t.below (by omega) (fun k hk e => by omega)
      have hdr : (st.getD []).drop n = [] := List.drop_eq_nil_of_le (by omega)
      refine ⟨A, n, n, rfl, Nat.le_refl _, by rw [e1]; exact (HB.out.take_ (Nat.le_refl _)).below hb2, ⟨A, 0, 0, short, by simpa using hx2, by omega, by omega, fun _ => rfl, by rw [e2, hdr]; exact Byts.empty_at, by rw [e3]; exact HS.out, fun h => HST.out (none_of_isNone (by rw [← e3, h]; rfl))⟩, by simpa using t, by simp⟩
    · go_ret
      obtain ⟨e1, e2, e3⟩ := hok.out
      have hx2 := HX.out.set_ 0 (.slice (A.map fun x => x.add cnt) (n - cnt) (c - cnt))
      have t := touch_set (S := fun k => k = g) w g 0 (.slice (A.map fun x => x.add cnt) (n - cnt) (c - cnt)) rfl
      have hb2 : Below B w (w.setCell ⟨g, 0, none⟩ (.slice (A.map fun x => x.add cnt) (n - cnt) (c - cnt))) := t.below (by omega) (fun k hk e => by omega)
      refine ⟨A, cnt, c, rfl, by omega, by rw [e1]; exact (HB.out.take_ hle).below hb2, ⟨_, n - cnt, c - cnt, short, by simpa using hx2, by omega, by omega, fun h => ?_, by rw [e2]; exact (HB.out.drop_ hle).below hb2, by rw [e3]; exact HS.out, fun h => by rw [HST.out (none_of_isNone (by rw [← e3, h]; rfl))]; rfl⟩, t, by simp⟩
      rcases A with _ | a
      · have := HA.out rfl
        omega
      · cases h

theorem rNum_few {st} (h : (rByt 1 st).2 = none) : rNum st = (0, none) := by
  rcases st with _ | _ | ⟨y, r⟩
  · rfl
  · rfl
  · simp [rByt] at h
theorem rNum_ok {st} (h : ¬ (rByt 1 st).2 = none) : (rByt 1 st).1 = [(rNum st).1] ∧ (rByt 1 st).2 = (rNum st).2 := by
  rcases st with _ | _ | ⟨y, r⟩
  · simp [rByt] at h
  · simp [rByt] at h
  · simp [rByt, rNum]

theorem rnumber_any (g B : Nat) (st : Option (List Int)) (w : World) (hB : B ≤ g) (h : Rd w B g st) :
    Calls Try.prog 51 #[.pointer (some ⟨g, 0, none⟩)] w fun e w' => e = .returned (.int .i64 (rNum st).1) ∧ Rd w' B g (rNum st).2 ∧ Touch (fun k => k = g) w w' ∧ w'.heap.size = w.heap.size := by
  have HR := Lib.hid h
  clear h
  go_enter Try.func51, Try.ntmps51
  go_wp2_with fail
  refine (rbytes_any g 1 B st w hB (by omega) HR.out).mono ?_
  rintro e w1 ⟨A, n, c, rfl, hnc, hb, hrd, ht, hsz⟩
  have HB := Lib.hid hb
  have HD := Lib.hid hrd
  have HT := Lib.hid ht
  obtain ⟨A', n', c', short, hx, _, _, _, _, hsh, _⟩ := hrd
  have q1 := hx.cell 1
  simp at q1
  clear hb ht hx
  by_cases hn : (rByt 1 st).2 = none
  · have e0 := Lib.hid (rNum_few hn)
    rw [hn] at hsh
    subst hsh
    rw [hn] at HD
    go_wp2
    go_ret
    rw [e0.out]
    exact ⟨rfl, HD.out, HT.out, hsz⟩
  · obtain ⟨e1, e2⟩ := rNum_ok hn
    have hsf : short = false := by
      rw [hsh]
      cases h : (rByt 1 st).2 with
      | none => exact absurd h hn
      | some _ => rfl
    subst hsf
    rw [e2] at HD
    have HB2 := HB.out
    rw [e1] at HB2
    obtain rfl : n = 1 := HB2.1.symm
    obtain ⟨b, off, rfl, hbB, hc0⟩ := HB2.at_ (k := 0) (by omega)
    have hr := HB2.range 0
    rw [Nat.add_zero] at hc0
    simp only [List.getElem?_cons_zero, Option.getD_some] at hc0 hr
    generalize hzz : (rNum st).1 = z at hc0 hr e1
    have HZ := Lib.hid hzz
    have hwz : IntKind.i64.wrap z = z := by rw [IntKind.wrap_i64]; omega
    clear e1 e2 hn hsh HB2 hzz
    go_wp2
    go_ret
    exact ⟨by rw [HZ.out]; rfl, HD.out, HT.out, hsz⟩

theorem Touch.grow {S T : Nat → Prop} {w w' w'' : World} (h : Touch S w w') (k : Touch T w' w'') (hT : ∀ k, k < w.heap.size → ¬ T k) : Touch S w w'' :=
  ⟨k.os.trans h.os, k.tape.trans h.tape, k.output.trans h.output, Nat.le_trans h.size k.size, fun i hi hs => (k.block i (Nat.lt_of_lt_of_le hi h.size) (hT i hi)).trans (h.block i hi hs)⟩

set_option maxHeartbeats 800000 in
theorem rpath_any (g B : Nat) (st : Option (List Int)) (w : World) (hB : B ≤ g) (h : Rd w B g st) :
    Calls Try.prog 52 #[.pointer (some ⟨g, 0, none⟩)] w fun e w' => ∃ A n c, e = .returned (.slice A n c) ∧ OwnI w' w.heap.size A n c (rPart st).1 ∧ Rd w' B g (rPart st).2 ∧ Touch (fun k => k = g) w w' := by
  have HR := Lib.hid h
  have hg := h.lt
  have hbs := rNum_bs h.bs
  have hpb := rPart_bs h.bs
  clear h
  obtain ⟨cnt, hcnt⟩ : ∃ cnt : Nat, (rNum st).1 = cnt := ⟨(rNum st).1.toNat, by omega⟩
  have hpart : rPart st = rByt cnt (rNum st).2 := by unfold rPart; rw [hcnt, Int.toNat_natCast]
  obtain ⟨xs, st2, hps⟩ : ∃ xs st2, rPart st = (xs, st2) := ⟨_, _, rfl⟩
  rw [hps] at hpart hpb ⊢
  go_enter Try.func52, Try.ntmps52
  go_wp2_with fail
  refine (rnumber_any g B st w hB HR.out).mono ?_
  rintro e w1 ⟨rfl, hrd, ht, hsz⟩
  have HD := Lib.hid hrd
  have HT := Lib.hid ht
  clear hrd ht
  rw [hcnt]
  go_wp2_with fail
  refine (rbytes_any g cnt B _ w1 hB (by omega) HD.out).mono ?_
  rintro e w2 ⟨A, n, c, rfl, hnc, hb, hrd, ht, hsz2⟩
  rw [← hpart] at hb hrd
  have HB := Lib.hid hb
  have HD := Lib.hid hrd
  have HT := Lib.hid (HT.out.trans ht)
  have hn : n ≤ 255 := by
    have h1 := rByt_len (st := (rNum st).2) cnt
    rw [← hpart] at h1
    have := hb.1
    simp only at h1 this
    omega
  have LN : Hid (xs.length = n) := hb.1
  clear hrd ht hb hpart hps
  obtain ⟨i0, hi, hz0, hz1, hz2⟩ := info_parts Try.infoI
  have HI := Lib.hid hi
  have HZ0 := Lib.hid hz0
  have HZ1 := Lib.hid hz1
  have HZ2 := Lib.hid hz2
  clear hi hz0 hz1 hz2
  go_wp2
  go_loopw [3, 11] (fun p i wr => ∃ k : Nat, ∃ Ap cp, k ≤ n ∧ i = .int .i64 k ∧ p = .slice Ap k cp ∧ OwnI wr w.heap.size Ap k cp (xs.take k) ∧ Rd wr B g st2 ∧ Touch (fun k => k = g) w wr ∧ Byts wr B A n xs) (fun _ i _ => n - (intOf i).toNat)
  case atStart => exact ⟨0, none, 0, Nat.zero_le _, rfl, rfl, OwnI.nil _ _, HD.out, HT.out, HB.out⟩
  case round =>
    obtain ⟨k, Ap, cp, hk, rfl, rfl, hown, hrd, ht, hby⟩ := hrel
    have MR := Lib.hid hown
    have RR := Lib.hid hrd
    have TR := Lib.hid ht
    have YR := Lib.hid hby
    have srw := ht.size
    clear hown hrd ht hby
    by_cases hlt : k < n
    · obtain ⟨b, o, rfl, hbb, hc0⟩ := YR.out.at_ hlt
      have hrr := YR.out.range k
      have hst := take_step xs k (by rw [LN.out]; exact hlt)
      generalize xs[k]?.getD 0 = z at hc0 hrr hst
      have HST := Lib.hid hst
      clear hst
      have hwz : IntKind.i64.wrap z = z := by rw [IntKind.wrap_i64]; omega
      go_wp2_with (at_builtin; refine wpList_append_lies _ rfl _ _ 23 rfl w.heap.size 2 i0 (.int .i64 0) 1 8 Try.underlying23 HI.out HZ0.out HZ1.out HZ2.out rfl (by decide) _ _ _ rfl (MR.out.alloc _) ⟨wr.heap.size, 0, none⟩ 1 1 ([z].map (Value.int .i64)) rfl ?a0 ?a1 ?a2 (by omega) ?a3 ?a4 ?a5 _ rfl ?_)
      case a0 => first | rfl | (simp; done)
      case a1 =>
        intro j u hj
        match j, hj with
        | 0, hj => simp at hj; subst hj; simp [Addr.add]
      case a2 => intro u hu; simp at hu; subst hu; rfl
      case a3 => unfold maxLen; omega
      case a4 => omega
      case a5 => simp; omega
      intro g2 c2 w2 hown2 hgrow2 _ _
      have t2 : Touch (fun j => some j = (Value.slice Ap k cp).ownBlock) wr w2 := (Touch.of_below ((Below.refl _ _).alloc (Nat.le_refl _) _)).trans (Touch.of_grown hgrow2)
      have hge : ∀ j, j < w.heap.size → ¬ some j = (Value.slice Ap k cp).ownBlock := fun j hj e => by have := (World.ownsRow.lt MR.out j e.symm).1; omega
      have R2 := Lib.hid (RR.out.touch t2 hB (fun j hj => hge j (by omega)))
      have Y2 := Lib.hid (YR.out.below (t2.below (by omega) (fun j hj => hge j (by omega))))
      have T2 := Lib.hid (TR.out.grow t2 hge)
      have M2 : OwnI w2 w.heap.size (some ⟨g2, 0, none⟩) (k + 1) c2 (xs.take (k + 1)) := by
        rw [HST.out]
        unfold OwnI
        rw [List.map_append]
        simpa using hown2
      have M2 := Lib.hid M2
      clear t2 hge hown2 hgrow2
      go_wp2
      go_roundw
      case rel => exact ⟨k + 1, _, _, by omega, by go_num, rfl, M2.out, R2.out, T2.out, Y2.out⟩
      case measure => simp [intOf]; omega
    · obtain rfl : k = n := by omega
      have hst : xs.take k = xs := List.take_of_length_le (by rw [LN.out]; exact Nat.le_refl _)
      rw [hst] at MR
      go_wp2
      go_ret
      exact ⟨_, _, _, rfl, MR.out, RR.out, TR.out⟩
end Go.Proofs.Ytopaobjpcafjlaa

-- PathK: What the program's KeyOf answers: for every list of numbers.
namespace Go.Proofs.Ytopaobjpcafjlaa
set_option maxRecDepth 20000
open Go.RowKit

theorem isWorth_any (x : Int) (w : World) :
    Calls Try.prog 77 #[.int .i64 x] w fun e w' => e = .returned (.bool (decide (0 ≤ x ∧ x ≤ 15))) ∧ w' = w := by
  go_enter Try.func77, Try.ntmps77
  by_cases h : 0 ≤ x
  · go_wp2
    go_ret
    exact ⟨ret_b (decide_eq_decide.2 (by omega)), rfl⟩
  · go_wp2
    go_ret
    exact ⟨ret_b (by simp; omega), rfl⟩

theorem keyOf_any (A : Option Addr) (n c : Nat) (ps : List Int) (B : Nat) (w : World) (hn : n ≤ 1048576) (hB : B ≤ w.heap.size) (hp : Ints w B A n ps) :
    Calls Try.prog 68 #[.slice A n c] w fun e w' => e = .returned (.string (strOfNums (keyOf ps))) ∧ Below w.heap.size w w' := by
  have HP := Lib.hid hp
  clear hp
  by_cases hl : 8 < n
  · have hr := Lib.hid (keyOf_long ps (by have := HP.out.1; omega))
    go_enter Try.func68, Try.ntmps68
    go_wp2
    go_ret
    exact ⟨by rw [hr.out]; rfl, Below.refl _ _⟩
  · have hL : (ps.map dig).length = n := by rw [List.length_map]; exact HP.out.1
    have HM := Lib.hid (make_bytes (ps.map dig) n (by omega))
    go_enter Try.func68, Try.ntmps68
    have hmk := HM.out
    go_wp2
    clear hmk
    go_loopw [14] (fun i wr => ∃ k : Nat, k ≤ n ∧ i = .int .i64 k ∧ (∀ z ∈ ps.take k, 0 ≤ z ∧ z ≤ 15) ∧ wr = w.alloc (.cells (filled (ps.map dig) n k) 5)) (fun i _ => n - (intOf i).toNat)
    case atStart => exact ⟨0, Nat.zero_le _, rfl, by simp, rfl⟩
    case round =>
      obtain ⟨k, hk, rfl, hgood, rfl⟩ := hrel
      by_cases hlt : k < n
      · obtain ⟨b, off, rfl, hbB, hc⟩ := HP.out.at_ hlt
        have hbw : b < w.heap.size := by omega
        generalize hz : ps[k]?.getD 0 = z at hc
        have hg : (filled (ps.map dig) n k)[k]? = some (.int .u8 0) := filled_at _ n k hL hlt
        by_cases hq : 0 ≤ z ∧ z ≤ 15
        · have hd : decide (0 ≤ z ∧ z ≤ 15) = true := decide_eq_true hq
          obtain ⟨hq0, hq1⟩ := hq
          have hz16 : z < 16 := by omega
          have hst := filled_set (ps.map dig) n k hL hlt
          rw [map_at dig ps k (by have := HP.out.1; omega), hz] at hst
          have HS := Lib.hid hst
          clear hst
          go_wp2_with fail
          refine (isWorth_any _ _).mono ?_
          rintro e w' ⟨rfl, rfl⟩
          rw [hd]
          go_wp2
          go_roundw
          case rel => exact ⟨k + 1, by omega, by go_num, path_step ps k (by have := HP.out.1; omega) hgood (by rw [hz]; omega), by rw [← HS.out, ← dig_lit z (by omega) (by omega) (by show z.toNat < 16; omega)]; rfl⟩
          case measure => simp [intOf]; omega
        · have hd : decide (0 ≤ z ∧ z ≤ 15) = false := decide_eq_false hq
          go_wp2_with fail
          refine (isWorth_any _ _).mono ?_
          rintro e w' ⟨rfl, rfl⟩
          rw [hd]
          go_wp2
          go_ret
          exact ⟨by rw [keyOf_bad ps k (by have := HP.out.1; omega) (by rw [hz]; exact hq)]; rfl, (Below.refl _ _).alloc (Nat.le_refl _) _⟩
      · obtain rfl : k = n := by omega
        have e : ps.take k = ps := List.take_of_length_le (by have := HP.out.1; omega)
        rw [e] at hgood
        rw [filled_all _ k hL]
        have hb := Byts.new (w := w.alloc (.cells (u8s (ps.map dig)) 5)) hL (fun y hy => by
          obtain ⟨p, hp, rfl⟩ := List.mem_map.1 hy
          have := dig_bd p (hgood p hp)
          omega) (heap_alloc_new _ _)
        have hcv := conv_bytes _ k k _ _ _ hb
        go_wp2
        go_ret
        exact ⟨by rw [keyOf_good ps (by have := HP.out.1; omega) hgood]; rfl, (Below.refl _ _).alloc (Nat.le_refl _) _⟩
end Go.Proofs.Ytopaobjpcafjlaa

-- NodeP: What the program's ValueOk and NodeOk answer, and their helpers: for every text, every node.
namespace Go.Proofs.Ytopaobjpcafjlaa
set_option maxRecDepth 20000
open Go.RowKit

theorem isValueByte_any (c : Int) (w : World) :
    Calls Try.prog 78 #[.int .u8 c] w fun e w' => e = .returned (.bool (okLetter c)) ∧ w' = w := by
  have hcls : (97 ≤ c ∧ c ≤ 122) ∨ (48 ≤ c ∧ c ≤ 57) ∨ c < 48 ∨ (57 < c ∧ c < 97) ∨ 122 < c := by omega
  go_enter Try.func78, Try.ntmps78
  rcases hcls with ⟨h1, h2⟩ | ⟨h1, h2⟩ | h1 | ⟨h1, h2⟩ | h1
  · have d1 : decide ((97 : Int) ≤ c) = true := decide_eq_true (by omega)
    have d2 : decide (c ≤ 122) = true := decide_eq_true (by omega)
    go_wp2
    go_ret
    exact ⟨ret_b (by unfold okLetter; exact (decide_eq_true (by omega)).symm), rfl⟩
  · have d1 : decide ((97 : Int) ≤ c) = false := decide_eq_false (by omega)
    have d3 : decide ((48 : Int) ≤ c) = true := decide_eq_true (by omega)
    have d4 : decide (c ≤ 57) = true := decide_eq_true (by omega)
    go_wp2
    go_ret
    exact ⟨ret_b (by unfold okLetter; exact (decide_eq_true (by omega)).symm), rfl⟩
  · have d1 : decide ((97 : Int) ≤ c) = false := decide_eq_false (by omega)
    have d3 : decide ((48 : Int) ≤ c) = false := decide_eq_false (by omega)
    go_wp2
    go_ret
    exact ⟨ret_b (by unfold okLetter; exact (decide_eq_false (by omega)).symm), rfl⟩
  · have d1 : decide ((97 : Int) ≤ c) = false := decide_eq_false (by omega)
    have d3 : decide ((48 : Int) ≤ c) = true := decide_eq_true (by omega)
    have d4 : decide (c ≤ 57) = false := decide_eq_false (by omega)
    go_wp2
    go_ret
    exact ⟨ret_b (by unfold okLetter; exact (decide_eq_false (by omega)).symm), rfl⟩
  · have d1 : decide ((97 : Int) ≤ c) = true := decide_eq_true (by omega)
    have d2 : decide (c ≤ 122) = false := decide_eq_false (by omega)
    have d3 : decide ((48 : Int) ≤ c) = true := decide_eq_true (by omega)
    have d4 : decide (c ≤ 57) = false := decide_eq_false (by omega)
    go_wp2
    go_ret
    exact ⟨ret_b (by unfold okLetter; exact (decide_eq_false (by omega)).symm), rfl⟩

theorem valOk_size (zs : List Int) (h : zs.length = 0 ∨ 12 < zs.length) : valOk zs = false := by
  unfold valOk
  rw [decide_eq_false (by omega), Bool.false_and]

theorem valueOk_any (s : ByteArray) (w : World) (hs : s.size ≤ 1048576) :
    Calls Try.prog 69 #[.string s] w fun e w' => e = .returned (.bool (valOk (sb s))) ∧ w' = w := by
  have hlen := sb_len s
  go_enter Try.func69, Try.ntmps69
  by_cases h0 : s.size = 0
  · have d1 : decide ((s.size : Int) = 0) = true := decide_eq_true (by omega)
    go_wp2
    go_ret
    exact ⟨by rw [valOk_size (sb s) (by omega)]; rfl, rfl⟩
  · have d1 : decide ((s.size : Int) = 0) = false := decide_eq_false (by omega)
    have d0 : ((s.size : Int) == 0) = false := d1
    by_cases h12 : 12 < s.size
    · have d2 : decide ((12 : Int) < (s.size : Int)) = true := decide_eq_true (by omega)
      go_wp2
      go_ret
      exact ⟨by rw [valOk_size (sb s) (by omega)]; rfl, rfl⟩
    · have d2 : decide ((12 : Int) < (s.size : Int)) = false := decide_eq_false (by omega)
      go_wp2
      go_loop [14] (fun i => ∃ k : Nat, k ≤ s.size ∧ i = .int .i64 k ∧ (∀ z ∈ (sb s).take k, okLetter z = true)) (fun i => s.size - (intOf i).toNat)
      case atStart => exact ⟨0, Nat.zero_le _, rfl, by simp⟩
      case round =>
        obtain ⟨k, hk, rfl, hgood⟩ := hrel
        by_cases hlt : k < s.size
        · have hat := sb_at s k hlt
          have HAT := Lib.hid hat
          clear hat
          by_cases hq : okLetter ((s[k]'hlt).toNat : Int) = true
          · go_wp2_with fail
            refine (isValueByte_any _ _).mono ?_
            rintro e w' ⟨rfl, rfl⟩
            rw [hq]
            go_wp2
            go_round
            case rel => exact ⟨k + 1, by omega, by go_num, letters_step (sb s) k (by omega) hgood (by rw [HAT.out]; exact hq)⟩
            case measure => simp [intOf]; omega
          · have hq : okLetter ((s[k]'hlt).toNat : Int) = false := by simpa using hq
            go_wp2_with fail
            refine (isValueByte_any _ _).mono ?_
            rintro e w' ⟨rfl, rfl⟩
            rw [hq]
            go_wp2
            go_ret
            exact ⟨by rw [valOk_bad (sb s) k (by omega) (by rw [HAT.out]; exact hq)]; rfl, rfl⟩
        · have e : (sb s).take k = sb s := List.take_of_length_le (by omega)
          rw [e] at hgood
          have HG := Lib.hid (valOk_good (sb s) hgood)
          go_wp2
          go_ret
          exact ⟨by rw [HG.out]; exact ret_b (by rw [hlen]; exact (decide_eq_true (by omega)).symm), rfl⟩

/-- where the kid ahead of the k-th stands. -/
def lastAt (ks : List (Int × Int)) (k : Nat) : Int := if k = 0 then -1 else (ks[k - 1]?.getD (0, 0)).1
theorem lastAt_succ (ks : List (Int × Int)) (k : Nat) : lastAt ks (k + 1) = (ks[k]?.getD (0, 0)).1 := by
  unfold lastAt; rw [if_neg (by omega), Nat.add_sub_cancel]
theorem kidAt_of (ks : List (Int × Int)) (k : Nat) (h1 : ¬ (ks[k]?.getD (0, 0)).1 ≤ lastAt ks k) (h2 : 0 ≤ (ks[k]?.getD (0, 0)).1 ∧ (ks[k]?.getD (0, 0)).1 ≤ 15) (h3 : ¬ (ks[k]?.getD (0, 0)).2 ≤ 0) : KidAt ks k := by
  refine ⟨h2, by omega, fun h0 => ?_⟩
  unfold lastAt at h1
  rw [if_neg (by omega)] at h1
  omega
theorem kidAt_not (ks : List (Int × Int)) (k : Nat) (h : (ks[k]?.getD (0, 0)).1 ≤ lastAt ks k ∨ ¬ (0 ≤ (ks[k]?.getD (0, 0)).1 ∧ (ks[k]?.getD (0, 0)).1 ≤ 15) ∨ (ks[k]?.getD (0, 0)).2 ≤ 0) : ¬ KidAt ks k := by
  rintro ⟨h2, h3, h4⟩
  rcases h with h | h | h
  · unfold lastAt at h
    by_cases h0 : k = 0
    · rw [if_pos h0] at h; omega
    · rw [if_neg h0] at h
      have := h4 (by omega)
      omega
  · exact h h2
  · omega

set_option maxHeartbeats 1000000 in
theorem kidsOkP_any (A : Option Addr) (n c : Nat) (ks : List (Int × Int)) (B : Nat) (w : World) (hB : B ≤ w.heap.size) (hn : n ≤ 9223372036854775807) (hb : Kids w B A n ks) :
    Calls Try.prog 70 #[.slice A n c] w fun e w' => e = .returned (.bool (kidsOk ks)) ∧ Below w.heap.size w w' := by
  have HB := Lib.hid (hb.more hB)
  have hlen := hb.1
  clear hb
  go_enter Try.func70, Try.ntmps70
  go_wp2
  go_loopw [3, 8] (fun l i wr => ∃ k : Nat, k ≤ n ∧ i = .int .i64 k ∧ l = .int .i64 (lastAt ks k) ∧ (∀ j, j < k → KidAt ks j) ∧ Below w.heap.size w wr) (fun _ i _ => n - (intOf i).toNat)
  case atStart => exact ⟨0, Nat.zero_le _, rfl, rfl, fun j hj => absurd hj (by omega), Below.refl _ _⟩
  case round =>
    obtain ⟨k, hk, rfl, rfl, hgood, hbel⟩ := hrel
    by_cases hlt : k < n
    · obtain ⟨b, off, rfl, hbB, h0, h1⟩ := (HB.out.below hbel).at_ hlt
      have hls := lastAt_succ ks k
      have hyes := kidAt_of ks k
      have hno := kidAt_not ks k
      generalize ks[k]?.getD (0, 0) = x at h0 h1 hls hyes hno
      generalize lastAt ks k = l at hyes hno ⊢
      have LS := Lib.hid hls
      have HY := Lib.hid hyes
      have HN := Lib.hid hno
      have hsz := hbel.size
      have b1 := Lib.hid (hbel.alloc hsz (.cells #[.int .i64 x.1, .int .i64 x.2] 60))
      clear hls hyes hno hbel
      by_cases hR : x.1 ≤ l
      · have d1 : decide (x.1 ≤ l) = true := decide_eq_true hR
        go_wp2
        go_ret
        exact ⟨by rw [kidsOk_bad ks k (by omega) (HN.out (.inl hR))]; rfl, b1.out⟩
      · have d1 : decide (x.1 ≤ l) = false := decide_eq_false hR
        by_cases hA : 0 ≤ x.1 ∧ x.1 ≤ 15
        · have d2 : decide (0 ≤ x.1 ∧ x.1 ≤ 15) = true := decide_eq_true hA
          by_cases hN : x.2 ≤ 0
          · have d3 : decide (x.2 ≤ 0) = true := decide_eq_true hN
            go_wp2_with fail
            refine (isWorth_any _ _).mono ?_
            rintro e w' ⟨rfl, rfl⟩
            rw [d2]
            go_wp2
            go_ret
            exact ⟨by rw [kidsOk_bad ks k (by omega) (HN.out (.inr (.inr hN)))]; rfl, b1.out⟩
          · have d3 : decide (x.2 ≤ 0) = false := decide_eq_false hN
            go_wp2_with fail
            refine (isWorth_any _ _).mono ?_
            rintro e w' ⟨rfl, rfl⟩
            rw [d2]
            go_wp2
            go_roundw
            case rel =>
              refine ⟨k + 1, by omega, by go_num, by rw [LS.out], fun j hj => ?_, b1.out⟩
              rcases Nat.lt_or_ge j k with h | h
              · exact hgood j h
              · rw [show j = k by omega]
                exact HY.out hR hA hN
            case measure => simp [intOf]; omega
        · have d2 : decide (0 ≤ x.1 ∧ x.1 ≤ 15) = false := decide_eq_false hA
          go_wp2_with fail
          refine (isWorth_any _ _).mono ?_
          rintro e w' ⟨rfl, rfl⟩
          rw [d2]
          go_wp2
          go_ret
          exact ⟨by rw [kidsOk_bad ks k (by omega) (HN.out (.inr (.inl hA)))]; rfl, b1.out⟩
    · go_wp2
      go_ret
      exact ⟨by rw [kidsOk_good ks (fun i hi => hgood i (by omega))]; rfl, hbel⟩
end Go.Proofs.Ytopaobjpcafjlaa

-- Allows: What the program's NodeOk answers, and the helper that asks whether a kind allows its parts: for every node.
namespace Go.Proofs.Ytopaobjpcafjlaa
set_option maxRecDepth 20000
set_option linter.unusedSimpArgs false
open Go.RowKit

set_option maxHeartbeats 1600000 in      -- one walk, the ways through a switch of three
theorem allows_any (v : Value) (nd : MNode) (B : Nat) (w : World) (hB : B ≤ w.heap.size) (hv : NodeIn w B v nd) :
    Calls Try.prog 71 #[.int .i64 nd.kind, v] w fun e w' => e = .returned (.bool (kindOk nd)) ∧ Below w.heap.size w w' := by
  obtain ⟨Ap, np, cp, Ak, nk, ck, rfl, hnp, hnk, hsz, hp, hk⟩ := hv
  obtain ⟨kind, path, kids, val⟩ := nd
  have HK := Lib.hid (hk.more hB)
  have LP : Hid (path.length = np) := hp.1
  have LK : Hid (kids.length = nk) := hk.1
  have BW := fun m => Lib.hid (below_drewN ((Below.refl w.heap.size w).alloc (Nat.le_refl _) (.cells #[.int .i64 kind, .slice Ap np cp, .slice Ak nk ck, .string val] 52)) m)
  clear hp hk hsz
  go_enter Try.func71, Try.ntmps71
  by_cases hE : val.toList = []
  · obtain rfl := empty_str val hE
    clear hE
    by_cases hk1 : kind = 1
    · obtain rfl := hk1
      by_cases hz : nk = 0
      · obtain rfl := hz
        go_wp2
        go_quiet (fail)
        go_wp2
        go_ret
        exact ⟨ret_b (by simp [kindOk, hasVal, LP.out, LK.out]), (BW _).out⟩
      · have hd : decide ((nk : Int) = 0) = false := decide_eq_false (by omega)
        have hd0 : ((nk : Int) == 0) = false := hd
        go_wp2
        go_quiet (fail)
        go_wp2
        go_ret
        exact ⟨ret_b (by simp [kindOk, hasVal, LP.out, LK.out, hz]), (BW _).out⟩
    · by_cases hk2 : kind = 2
      · obtain rfl := hk2
        by_cases hz : np = 0
        · obtain rfl := hz
          go_wp2
          go_quiet (fail)
          go_wp2
          go_ret
          exact ⟨ret_b (by simp [kindOk, hasVal, LP.out, LK.out]), (BW _).out⟩
        · have hd : decide ((0 : Int) < (np : Int)) = true := decide_eq_true (by omega)
          have hz' : 0 < np := by omega
          by_cases hz1 : nk = 1
          · obtain rfl := hz1
            obtain ⟨b, off, rfl, hbB, p0, p1⟩ := HK.out.at_ (k := 0) (by omega)
            rw [Nat.zero_mul, Nat.add_zero] at p0 p1
            have hbw : b < w.heap.size := hbB
            have hx : ∃ x, kids[0]?.getD (0, 0) = x := ⟨_, rfl⟩
            obtain ⟨x, hx⟩ := hx
            rw [hx] at p0 p1
            have HX : Hid (at0 kids = x.1) := by unfold at0; rw [hx]; rfl
            clear hx
            go_wp2
            go_quiet (fail)
            go_wp2
            go_ret
            exact ⟨ret_b (by simp [kindOk, hasVal, LP.out, LK.out, hz']; rw [HX.out]; rfl), (BW _).out⟩
          · have hd1 : decide ((nk : Int) = 1) = false := decide_eq_false (by omega)
            have hd2 : ((nk : Int) == 1) = false := hd1
            go_wp2
            go_quiet (fail)
            go_wp2
            go_ret
            exact ⟨ret_b (by simp [kindOk, hasVal, LP.out, LK.out, hz', hz1]), (BW _).out⟩
      · by_cases hk3 : kind = 3
        · obtain rfl := hk3
          by_cases hz : np = 0
          · obtain rfl := hz
            by_cases hm : 1 < nk
            · have hd : decide ((1 : Int) < (nk : Int)) = true := decide_eq_true (by omega)
              go_wp2
              go_quiet (fail)
              go_wp2
              go_ret
              exact ⟨ret_b (by simp [kindOk, hasVal, LP.out, LK.out]; omega), (BW _).out⟩
            · have hd : decide ((1 : Int) < (nk : Int)) = false := decide_eq_false (by omega)
              by_cases hz1 : nk = 1
              · obtain rfl := hz1
                go_wp2
                go_quiet (fail)
                go_wp2
                go_ret
                exact ⟨ret_b (by simp [kindOk, hasVal, LP.out, LK.out]), (BW _).out⟩
              · obtain rfl : nk = 0 := by omega
                go_wp2
                go_quiet (fail)
                go_wp2
                go_ret
                exact ⟨ret_b (by simp [kindOk, hasVal, LP.out, LK.out]), (BW _).out⟩
          · have hd : decide ((np : Int) = 0) = false := decide_eq_false (by omega)
            have hd0 : ((np : Int) == 0) = false := hd
            go_wp2
            go_quiet (fail)
            go_wp2
            go_ret
            exact ⟨ret_b (by simp [kindOk, hasVal, LP.out, LK.out, hz]), (BW _).out⟩
        · have d1 : decide (kind = 1) = false := decide_eq_false hk1
          have d2 : decide (kind = 2) = false := decide_eq_false hk2
          have d3 : decide (kind = 3) = false := decide_eq_false hk3
          go_wp2
          go_quiet (fail)
          go_wp2
          go_ret
          exact ⟨ret_b (by simp [kindOk, hasVal, LP.out, LK.out, hk1, hk2, hk3]), (BW _).out⟩
  · have hE2 : val.toList.isEmpty = false := by simpa using hE
    by_cases hk1 : kind = 1
    · obtain rfl := hk1
      by_cases hz : nk = 0
      · obtain rfl := hz
        go_wp2
        go_quiet (fail)
        go_wp2
        go_ret
        exact ⟨ret_b (by simp [kindOk, hasVal, LP.out, LK.out, hE2]), (BW _).out⟩
      · have hd : decide ((nk : Int) = 0) = false := decide_eq_false (by omega)
        have hd0 : ((nk : Int) == 0) = false := hd
        go_wp2
        go_quiet (fail)
        go_wp2
        go_ret
        exact ⟨ret_b (by simp [kindOk, hasVal, LP.out, LK.out, hE2, hz]), (BW _).out⟩
    · by_cases hk2 : kind = 2
      · obtain rfl := hk2
        by_cases hz : np = 0
        · obtain rfl := hz
          go_wp2
          go_quiet (fail)
          go_wp2
          go_ret
          exact ⟨ret_b (by simp [kindOk, hasVal, LP.out, LK.out, hE2]), (BW _).out⟩
        · have hd : decide ((0 : Int) < (np : Int)) = true := decide_eq_true (by omega)
          have hz' : 0 < np := by omega
          go_wp2
          go_quiet (fail)
          go_wp2
          go_ret
          exact ⟨ret_b (by simp [kindOk, hasVal, LP.out, LK.out, hE2]), (BW _).out⟩
      · by_cases hk3 : kind = 3
        · obtain rfl := hk3
          by_cases hz : np = 0
          · obtain rfl := hz
            by_cases hm : 1 < nk
            · have hd : decide ((1 : Int) < (nk : Int)) = true := decide_eq_true (by omega)
              go_wp2
              go_quiet (fail)
              go_wp2
              go_ret
              exact ⟨ret_b (by simp [kindOk, hasVal, LP.out, LK.out, hE2]; omega), (BW _).out⟩
            · have hd : decide ((1 : Int) < (nk : Int)) = false := decide_eq_false (by omega)
              by_cases hz1 : nk = 1
              · obtain rfl := hz1
                go_wp2
                go_quiet (fail)
                go_wp2
                go_ret
                exact ⟨ret_b (by simp [kindOk, hasVal, LP.out, LK.out, hE2]), (BW _).out⟩
              · obtain rfl : nk = 0 := by omega
                go_wp2
                go_quiet (fail)
                go_wp2
                go_ret
                exact ⟨ret_b (by simp [kindOk, hasVal, LP.out, LK.out, hE2]), (BW _).out⟩
          · have hd : decide ((np : Int) = 0) = false := decide_eq_false (by omega)
            have hd0 : ((np : Int) == 0) = false := hd
            go_wp2
            go_quiet (fail)
            go_wp2
            go_ret
            exact ⟨ret_b (by simp [kindOk, hasVal, LP.out, LK.out, hE2, hz]), (BW _).out⟩
        · have d1 : decide (kind = 1) = false := decide_eq_false hk1
          have d2 : decide (kind = 2) = false := decide_eq_false hk2
          have d3 : decide (kind = 3) = false := decide_eq_false hk3
          go_wp2
          go_quiet (fail)
          go_wp2
          go_ret
          exact ⟨ret_b (by simp [kindOk, hasVal, LP.out, LK.out, hE2, hk1, hk2, hk3]), (BW _).out⟩
end Go.Proofs.Ytopaobjpcafjlaa

-- NodeQ: What the program's NodeOk answers: for every node.
namespace Go.Proofs.Ytopaobjpcafjlaa
set_option maxRecDepth 20000
set_option linter.unusedSimpArgs false
open Go.RowKit

theorem key_no (ps : List Int) (h : isPath ps = false) : strOfNums (keyOf ps) = { data := #[] } := by
  unfold keyOf
  rw [if_neg (by rw [h]; decide)]
  rfl
theorem key_yes (ps : List Int) (h : isPath ps = true) (hn : 0 < ps.length) : (strOfNums (keyOf ps)).toList.isEmpty = false := by
  obtain ⟨h1, h2⟩ := (isPath_iff ps).1 h
  rw [keyOf_good ps h1 h2]
  rcases hb : (strOfNums (ps.map dig)).toList.isEmpty with _ | _
  · rfl
  · have e := empty_str _ (by simpa using hb)
    have hs := strOfNums_size (ps.map dig)
    rw [e, List.length_map] at hs
    have h0 : (ByteArray.mk #[]).size = 0 := rfl
    omega

set_option maxHeartbeats 1600000 in      -- one walk, the ways through four tests
theorem progNodeOk_any (v : Value) (nd : MNode) (B : Nat) (w : World) (hB : B ≤ w.heap.size) (hv : NodeIn w B v nd) :
    Calls Try.prog 55 #[v] w fun e w' => e = .returned (.bool (nodeOk nd)) ∧ Below w.heap.size w w' := by
  have HN : Hid (∀ W, Below w.heap.size w W → NodeIn W w.heap.size v nd) := fun W hW => (hv.more hB).below hW
  obtain ⟨Ap, np, cp, Ak, nk, ck, rfl, hnp, hnk, hsz, hp, hk⟩ := hv
  obtain ⟨kind, path, kids, val⟩ := nd
  have HP := Lib.hid (hp.more hB)
  have HK := Lib.hid (hk.more hB)
  have LP : Hid (path.length = np) := hp.1
  have LK : Hid (kids.length = nk) := hk.1
  have SV := Lib.hid hsz
  have b0 := (Below.refl w.heap.size w).alloc (Nat.le_refl _) (.cells #[.int .i64 kind, .slice Ap np cp, .slice Ak nk ck, .string val] 52)
  have xb : Box (w.alloc (.cells #[.int .i64 kind, .slice Ap np cp, .slice Ak nk ck, .string val] 52)) w.heap.size _ _ := heap_alloc_new _ _
  have XB := Lib.hid xb
  have B0 := Lib.hid b0
  clear hp hk hsz b0 xb
  go_enter Try.func55, Try.ntmps55
  have q0 := XB.out.cell 0
  have q1 := XB.out.cell 1
  have q2 := XB.out.cell 2
  have q3 := XB.out.cell 3
  simp at q0 q1 q2 q3
  by_cases h0 : np = 0
  · obtain rfl := h0
    have h1 : isPath path = true := by rw [List.eq_nil_of_length_eq_zero LP.out]; rfl
    by_cases hE : val.toList = []
    · obtain rfl := empty_str val hE
      clear hE
      go_wp2_with fail
      refine (kidsOkP_any _ _ _ kids _ _ B0.out.size (by omega) (HK.out.below B0.out)).mono ?_
      rintro e w3 ⟨rfl, b3⟩
      have XB := Lib.hid (XB.out.below b3 XB.out.lt)
      have B3 := Lib.hid (B0.out.trans (b3.mono B0.out.size))
      clear b3 q0 q1 q2 q3
      have q0 := XB.out.cell 0
      have q1 := XB.out.cell 1
      have q2 := XB.out.cell 2
      have q3 := XB.out.cell 3
      simp at q0 q1 q2 q3
      by_cases h2 : kidsOk kids = true
      · rw [h2]
        go_wp2_with fail
        refine (allows_any _ ⟨kind, path, kids, { data := #[] }⟩ _ _ (B3.out.size) (HN.out _ B3.out)).mono ?_
        rintro e w9 ⟨rfl, b9⟩
        go_wp2
        go_ret
        exact ⟨ret_b (by simp [nodeOk, hasVal, h1, h2]), B3.out.trans (b9.mono B3.out.size)⟩
      · have h2 : kidsOk kids = false := by simpa using h2
        rw [h2]
        go_wp2
        go_ret
        exact ⟨ret_b (by simp [nodeOk, hasVal, h1, h2]), B3.out⟩
    · have hE2 : val.toList.isEmpty = false := by simpa using hE
      go_wp2_with fail
      refine (valueOk_any val _ SV.out).mono ?_
      rintro e w' ⟨rfl, rfl⟩
      by_cases h3 : valOk (sb val) = true
      · rw [h3]
        go_wp2_with fail
        refine (kidsOkP_any _ _ _ kids _ _ B0.out.size (by omega) (HK.out.below B0.out)).mono ?_
        rintro e w3 ⟨rfl, b3⟩
        have XB := Lib.hid (XB.out.below b3 XB.out.lt)
        have B3 := Lib.hid (B0.out.trans (b3.mono B0.out.size))
        clear b3 q0 q1 q2 q3
        have q0 := XB.out.cell 0
        have q1 := XB.out.cell 1
        have q2 := XB.out.cell 2
        have q3 := XB.out.cell 3
        simp at q0 q1 q2 q3
        by_cases h2 : kidsOk kids = true
        · rw [h2]
          go_wp2_with fail
          refine (allows_any _ ⟨kind, path, kids, val⟩ _ _ (B3.out.size) (HN.out _ B3.out)).mono ?_
          rintro e w9 ⟨rfl, b9⟩
          go_wp2
          go_ret
          exact ⟨ret_b (by simp [nodeOk, hasVal, h1, hE2, h3, h2]), B3.out.trans (b9.mono B3.out.size)⟩
        · have h2 : kidsOk kids = false := by simpa using h2
          rw [h2]
          go_wp2
          go_ret
          exact ⟨ret_b (by simp [nodeOk, hasVal, h1, hE2, h3, h2]), B3.out⟩
      · have h3 : valOk (sb val) = false := by simpa using h3
        rw [h3]
        go_wp2
        go_ret
        exact ⟨ret_b (by simp [nodeOk, hasVal, h1, hE2, h3]), B0.out⟩
  · have d0 : decide ((np : Int) = 0) = false := decide_eq_false (by omega)
    have d1 : ((np : Int) == 0) = false := d0
    go_wp2_with fail
    refine (keyOf_any _ _ _ path _ _ hnp B0.out.size (HP.out.below B0.out)).mono ?_
    rintro e w1 ⟨rfl, b1⟩
    have XB := Lib.hid (XB.out.below b1 XB.out.lt)
    have B1 := Lib.hid (B0.out.trans (b1.mono B0.out.size))
    clear b1 q0 q1 q2 q3
    have q0 := XB.out.cell 0
    have q1 := XB.out.cell 1
    have q2 := XB.out.cell 2
    have q3 := XB.out.cell 3
    simp at q0 q1 q2 q3
    by_cases h1 : isPath path = true
    · have hy := key_yes path h1 (by have := LP.out; omega)
      generalize strOfNums (keyOf path) = s at hy ⊢
      by_cases hE : val.toList = []
      · obtain rfl := empty_str val hE
        clear hE
        go_wp2_with fail
        refine (kidsOkP_any _ _ _ kids _ _ B1.out.size (by omega) (HK.out.below B1.out)).mono ?_
        rintro e w3 ⟨rfl, b3⟩
        have XB := Lib.hid (XB.out.below b3 XB.out.lt)
        have B3 := Lib.hid (B1.out.trans (b3.mono B1.out.size))
        clear b3 q0 q1 q2 q3
        have q0 := XB.out.cell 0
        have q1 := XB.out.cell 1
        have q2 := XB.out.cell 2
        have q3 := XB.out.cell 3
        simp at q0 q1 q2 q3
        by_cases h2 : kidsOk kids = true
        · rw [h2]
          go_wp2_with fail
          refine (allows_any _ ⟨kind, path, kids, { data := #[] }⟩ _ _ (B3.out.size) (HN.out _ B3.out)).mono ?_
          rintro e w9 ⟨rfl, b9⟩
          go_wp2
          go_ret
          exact ⟨ret_b (by simp [nodeOk, hasVal, h1, h2]), B3.out.trans (b9.mono B3.out.size)⟩
        · have h2 : kidsOk kids = false := by simpa using h2
          rw [h2]
          go_wp2
          go_ret
          exact ⟨ret_b (by simp [nodeOk, hasVal, h1, h2]), B3.out⟩
      · have hE2 : val.toList.isEmpty = false := by simpa using hE
        go_wp2_with fail
        refine (valueOk_any val _ SV.out).mono ?_
        rintro e w' ⟨rfl, rfl⟩
        by_cases h3 : valOk (sb val) = true
        · rw [h3]
          go_wp2_with fail
          refine (kidsOkP_any _ _ _ kids _ _ B1.out.size (by omega) (HK.out.below B1.out)).mono ?_
          rintro e w3 ⟨rfl, b3⟩
          have XB := Lib.hid (XB.out.below b3 XB.out.lt)
          have B3 := Lib.hid (B1.out.trans (b3.mono B1.out.size))
          clear b3 q0 q1 q2 q3
          have q0 := XB.out.cell 0
          have q1 := XB.out.cell 1
          have q2 := XB.out.cell 2
          have q3 := XB.out.cell 3
          simp at q0 q1 q2 q3
          by_cases h2 : kidsOk kids = true
          · rw [h2]
            go_wp2_with fail
            refine (allows_any _ ⟨kind, path, kids, val⟩ _ _ (B3.out.size) (HN.out _ B3.out)).mono ?_
            rintro e w9 ⟨rfl, b9⟩
            go_wp2
            go_ret
            exact ⟨ret_b (by simp [nodeOk, hasVal, h1, hE2, h3, h2]), B3.out.trans (b9.mono B3.out.size)⟩
          · have h2 : kidsOk kids = false := by simpa using h2
            rw [h2]
            go_wp2
            go_ret
            exact ⟨ret_b (by simp [nodeOk, hasVal, h1, hE2, h3, h2]), B3.out⟩
        · have h3 : valOk (sb val) = false := by simpa using h3
          rw [h3]
          go_wp2
          go_ret
          exact ⟨ret_b (by simp [nodeOk, hasVal, h1, hE2, h3]), B1.out⟩
    · have h1 : isPath path = false := by simpa using h1
      rw [key_no path h1]
      go_wp2
      go_ret
      exact ⟨ret_b (by simp [nodeOk, hasVal, h1]), B1.out⟩
end Go.Proofs.Ytopaobjpcafjlaa

-- ReadK: The program's reader: the kids; and what the program's NodeFrom reads of some bytes.
namespace Go.Proofs.Ytopaobjpcafjlaa
set_option maxRecDepth 20000
set_option linter.unusedSimpArgs false
set_option linter.unusedVariables false
open Go.RowKit

theorem nm8_any (A : Option Addr) (n c B : Nat) (zs : List Int) (w : World) (hb : Byts w B A n zs) :
    Calls Try.prog 76 #[.slice A n c] w fun e w' => (e = .returned (.tuple #[.int .i64 (nm8 zs), .bool true]) ∨ (e = .returned (.tuple #[.int .i64 0, .bool false]) ∧ nm8 zs = -1)) ∧ w = w' := by
  have hl := hb.1
  by_cases h8 : n = 8
  · subst h8
    by_cases h7 : zs[7]?.getD 0 ≤ 127
    · refine (from_yes A c zs B w hb h7).mono ?_
      rintro e w' ⟨rfl, rfl⟩
      exact ⟨.inl (by unfold nm8; rw [if_pos ⟨hl, h7⟩]), rfl⟩
    · refine (from_high A c zs B w hb (by omega)).mono ?_
      rintro e w' ⟨rfl, rfl⟩
      exact ⟨.inr ⟨rfl, by unfold nm8; rw [if_neg (by omega)]⟩, rfl⟩
  · refine (from_no_len A n c w h8).mono ?_
    rintro e w' ⟨rfl, rfl⟩
    exact ⟨.inr ⟨rfl, by unfold nm8; rw [if_neg (by omega)]⟩, rfl⟩
theorem rname_any (g B : Nat) (st : Option (List Int)) (w : World) (hB : B ≤ g) (h : Rd w B g st) :
    Calls Try.prog 67 #[.pointer (some ⟨g, 0, none⟩)] w fun e w' => e = .returned (.int .i64 (nm8 (rByt 8 st).1)) ∧ Rd w' B g (rByt 8 st).2 ∧ Touch (fun k => k = g) w w' ∧ w'.heap.size = w.heap.size := by
  have HR := Lib.hid h
  clear h
  obtain ⟨xs, hxs⟩ : ∃ xs, (rByt 8 st).1 = xs := ⟨_, rfl⟩
  rw [hxs]
  have HX := Lib.hid hxs
  clear hxs
  go_enter Try.func67, Try.ntmps67
  go_wp2_with fail
  refine (rbytes_any g 8 B st w hB (by omega) HR.out).mono ?_
  rintro e w1 ⟨A, n, c, rfl, hnc, hb, hrd, ht, hsz⟩
  have HD := Lib.hid hrd
  have HT := Lib.hid ht
  have HS := Lib.hid hsz
  rw [HX.out] at hb
  clear hrd ht hsz
  go_wp2_with fail
  refine (nm8_any A n c B xs w1 hb).mono ?_
  rintro e w' ⟨(rfl | ⟨rfl, h⟩), rfl⟩
  · go_wp2
    go_ret
    refine ⟨?_, HD.out, HT.out, HS.out⟩
    rfl
  · have H := Lib.hid h
    clear h
    go_wp2
    go_ret
    refine ⟨?_, HD.out, HT.out, HS.out⟩
    rw [H.out]
    rfl

theorem Box.touch {w w' : World} {g : Nat} {t : TypeId} {cs : Array Value} {S : Nat → Prop} (h : Box w g t cs) (k : Touch S w w') (hn : ¬ S g) : Box w' g t cs := (k.block g h.lt hn).trans h

set_option maxHeartbeats 800000 in
theorem rkids_any (g B : Nat) (st : Option (List Int)) (w : World) (hB : B ≤ g) (h : Rd w B g st) :
    Calls Try.prog 54 #[.pointer (some ⟨g, 0, none⟩)] w fun e w' => ∃ A n c, e = .returned (.slice A n c) ∧ OwnK w' w.heap.size A n c (rAll st).1 ∧ Rd w' B g (rAll st).2 ∧ Touch (fun k => k = g) w w' := by
  have HR := Lib.hid h
  have hg := h.lt
  have hbs := rNum_bs h.bs
  clear h
  obtain ⟨cnt, hcnt⟩ : ∃ cnt : Nat, (rNum st).1 = cnt := ⟨(rNum st).1.toNat, by omega⟩
  have hall : rAll st = rKids cnt (rNum st).2 := by unfold rAll; rw [hcnt, Int.toNat_natCast]
  obtain ⟨st1, hst1⟩ : ∃ st1, (rNum st).2 = st1 := ⟨_, rfl⟩
  rw [hall, hst1]
  go_enter Try.func54, Try.ntmps54
  go_wp2_with fail
  refine (rnumber_any g B st w hB HR.out).mono ?_
  rintro e w1 ⟨rfl, hrd, ht, hsz⟩
  rw [hst1] at hrd
  have HD := Lib.hid hrd
  have HT := Lib.hid ht
  have hc255 : cnt ≤ 255 := by have := hbs.2; omega
  clear hrd ht hall hbs
  rw [hcnt]
  obtain ⟨iK, hki, hk0, hk1, hk2⟩ := info_parts Try.infoK
  have HK := Lib.hid hki
  have HK0 := Lib.hid hk0
  have HK1 := Lib.hid hk1
  have HK2 := Lib.hid hk2
  clear hki hk0 hk1 hk2 hcnt hst1
  go_wp2
  go_loopw [3, 7] (fun p i wr => ∃ q : Nat, ∃ Ak ck, q ≤ cnt ∧ i = .int .i64 q ∧ p = .slice Ak q ck ∧ OwnK wr w.heap.size Ak q ck (rKids q st1).1 ∧ Rd wr B g (rKids q st1).2 ∧ Touch (fun k => k = g) w wr) (fun _ i _ => cnt - (intOf i).toNat)
  case atStart => exact ⟨0, none, 0, Nat.zero_le _, rfl, rfl, OwnK.nil _ _, HD.out, HT.out⟩
  case round =>
    obtain ⟨q, Ak, ck, hq, rfl, rfl, hown, hrd, ht⟩ := hrel
    have MR := Lib.hid hown
    have RR := Lib.hid hrd
    have TR := Lib.hid ht
    have srw := ht.size
    clear hown hrd ht
    by_cases hlt : q < cnt
    · have hstep : rKids (q + 1) st1 = ((rKids q st1).1 ++ [(rKid (rKids q st1).2).1], (rKid (rKids q st1).2).2) := rfl
      unfold rKid at hstep
      have HST := Lib.hid hstep
      clear hstep
      generalize (rKids q st1).1 = ks at MR HST
      generalize (rKids q st1).2 = s at RR HST
      have hge : ∀ j, (Value.slice Ak q ck).ownBlock = some j → ¬ j = g := fun j hj e => by have := (World.ownsRow.lt MR.out j hj).1; omega
      go_wp2_with fail
      refine (rnumber_any g B s wr hB RR.out).mono ?_
      rintro e wa ⟨rfl, ra, ta, sa⟩
      have RA := Lib.hid ra
      have MA := Lib.hid (MR.out.touch ta hge)
      have TA := Lib.hid (TR.out.trans ta)
      clear ra ta
      generalize (rNum s).1 = a at HST ⊢
      generalize (rNum s).2 = s2 at HST RA
      go_wp2_with fail
      refine (rname_any g B s2 wa hB RA.out).mono ?_
      rintro e wb ⟨rfl, rb, tb, sb_⟩
      have RB := Lib.hid rb
      have MB := Lib.hid (MA.out.touch tb hge)
      have TB := Lib.hid (TA.out.trans tb)
      clear rb tb hge sa sb_
      generalize nm8 (rByt 8 s2).1 = m at HST ⊢
      generalize (rByt 8 s2).2 = s3 at HST RB
      have hszb : w.heap.size ≤ wb.heap.size := TB.out.size
      go_wp2_with (at_builtin; refine wpList_append_lies _ rfl _ _ 50 rfl w.heap.size 60 iK (.agg #[.int .i64 0, .int .i64 0]) 2 16 Try.underlying50 HK.out HK0.out HK1.out HK2.out rfl (by decide) _ _ _ rfl (MB.out.alloc _) ⟨wb.heap.size, 0, none⟩ 1 1 ([a, m].map (Value.int .i64)) rfl ?a0 ?a1 ?a2 (by omega) ?a3 ?a4 ?a5 _ rfl ?_)
      case a0 => first | rfl | (simp; done)
      case a1 =>
        intro j u hj
        match j, hj with
        | 0, hj => simp at hj; subst hj; simp [Addr.add]
        | 1, hj => simp at hj; subst hj; simp [Addr.add]
      case a2 => intro u hu; simp at hu; rcases hu with rfl | rfl <;> rfl
      case a3 => unfold maxLen; omega
      case a4 => omega
      case a5 => simp; omega
      intro g2 c2 w2 hown2 hgrow2 _ _
      have t2 : Touch (fun j => some j = (Value.slice Ak q ck).ownBlock) wb w2 := (Touch.of_below ((Below.refl _ _).alloc (Nat.le_refl _) _)).trans (Touch.of_grown hgrow2)
      have hge : ∀ j, j < w.heap.size → ¬ some j = (Value.slice Ak q ck).ownBlock := fun j hj e => by have := (World.ownsRow.lt MB.out j e.symm).1; omega
      have R2 := Lib.hid (RB.out.touch t2 hB (fun j hj => hge j (by omega)))
      have T2 := Lib.hid (TB.out.grow t2 hge)
      have M2 : OwnK w2 w.heap.size (some ⟨g2, 0, none⟩) (q + 1) c2 (ks ++ [(a, m)]) := by
        unfold OwnK
        rw [kv_append, List.map_append]
        exact hown2
      have M2 := Lib.hid M2
      clear t2 hge hown2 hgrow2
      go_wp2
      go_roundw
      case rel => exact ⟨q + 1, _, _, by omega, by go_num, rfl, by rw [HST.out]; exact M2.out, by rw [HST.out]; exact R2.out, T2.out⟩
      case measure => simp [intOf]; omega
    · obtain rfl : q = cnt := by omega
      go_wp2
      go_ret
      exact ⟨_, _, _, rfl, MR.out, RR.out, TR.out⟩

theorem rd_new {w : World} {B g : Nat} {A : Option Addr} {n c : Nat} {bs : List Int} (hx : Box w g 89 #[.slice A n c, .bool false]) (hc : n ≤ c) (hn : n ≤ 1048576) (hA : A = none → c = 0) (hb : Byts w B A n bs) : Rd w B g (some bs) :=
  ⟨A, n, c, false, hx, hc, hn, hA, hb, rfl, fun h => by cases h⟩

set_option maxHeartbeats 2000000 in
theorem implNodeFrom_any (A : Option Addr) (n c : Nat) (bs : List Int) (B : Nat) (w : World) (hn : n ≤ 1048576) (hc : n ≤ c) (hA : A = none → c = 0) (hB : B ≤ w.heap.size) (hb : Byts w B A n bs) :
    Calls Try.prog 41 #[.slice A n c] w fun e w' => ∃ v nd b, e = .returned (.tuple #[v, .bool b]) ∧ OwnN w' w.heap.size v nd ∧ NodeRead bs nd b ∧ Below w.heap.size w w' := by
  obtain ⟨r0, hr0⟩ : ∃ r0, w.heap.size = r0 := ⟨_, rfl⟩
  obtain ⟨w1, hw1⟩ : ∃ w1, (w.alloc (.cells #[.int .i64 0, .slice none 0 0, .slice none 0 0, .string { data := #[] }] 52)).alloc (.cells #[.slice A n c, .bool false] 89) = w1 := ⟨_, rfl⟩
  have x1 : Box w1 r0 52 #[.int .i64 0, .slice none 0 0, .slice none 0 0, .string { data := #[] }] := by rw [← hw1, ← hr0]; exact heap2_0 w _ _
  have y1 : Box w1 (r0 + 1) 89 #[.slice A n c, .bool false] := by rw [← hw1, ← hr0]; exact heap2_1 w _ _
  have s1 : w1.heap.size = r0 + 1 + 1 := by rw [← hw1, size2, hr0]
  have b1 : Below r0 w w1 := by rw [← hw1, ← hr0]; exact below2 w _ _
  have rd1 := rd_new (B := r0) y1 hc hn hA ((hb.more (by omega)).below b1)
  have X := Lib.hid x1
  have R := Lib.hid rd1
  have B1 := Lib.hid b1
  have HW := Lib.hid hw1
  have hbs : Bs (some bs) := rd1.bs
  have HBS := Lib.hid hbs
  clear x1 y1 b1 rd1 hw1 hb hA hc
  have hrn := rNum_bs hbs
  have hrp := rPart_bs hrn.1
  have hrv := rPart_bs hrp.1
  have l1 := rPart_len hrn.1
  have l2 := rPart_len hrp.1
  obtain ⟨kd, st1, h1⟩ : ∃ a s, rNum (some bs) = (a, s) := ⟨_, _, rfl⟩
  rw [h1] at hrp hrv l1 l2
  obtain ⟨ps, st2, h2⟩ : ∃ a s, rPart st1 = (a, s) := ⟨_, _, rfl⟩
  simp only [h2] at hrp hrv l1 l2
  obtain ⟨vs, st3, h3⟩ : ∃ a s, rPart st2 = (a, s) := ⟨_, _, rfl⟩
  simp only [h3] at hrv l2
  obtain ⟨ks, st4, h4⟩ : ∃ a s, rAll st3 = (a, s) := ⟨_, _, rfl⟩
  have hnode : rNode (some bs) = (⟨kd, ps, ks, strOfNums vs⟩, st4) := by
    unfold rNode
    simp only [h1, h2, h3, h4]
  have HN := Lib.hid hnode
  have lk : ks.length ≤ 255 := by
    have h5 := rKids_len (rNum st3).1.toNat (st := (rNum st3).2)
    have h6 := (rNum_bs hrv.1).2
    have h7 : (rAll st3).1.length = (rNum st3).1.toNat := h5
    rw [h4] at h7
    simp only at h7
    omega
  have H1 := Lib.hid h1
  have H2 := Lib.hid h2
  have H3 := Lib.hid h3
  have H4 := Lib.hid h4
  clear h1 h2 h3 h4 hnode hrn hrp hrv hbs
  go_enter Try.func41, Try.ntmps41
  go_wp2_with fail
  rw [HW.out]
  refine (rnumber_any (r0 + 1) r0 _ w1 (by omega) R.out).mono ?_
  rintro e w2 ⟨rfl, rd, t, s2⟩
  rw [H1.out] at rd ⊢
  have R := Lib.hid rd
  have X := Lib.hid (X.out.touch t (by omega))
  have T := Lib.hid (t.mono (T := fun k => r0 ≤ k) (fun k e => by omega))
  have B2 := Lib.hid (B1.out.trans (T.out.below (by omega) (fun k hk h => by omega)))
  clear rd t
  simp only
  have hs2 : w2.heap.size = r0 + 1 + 1 := by omega
  obtain ⟨m, hm⟩ : ∃ m, w2.heap.size = m := ⟨_, rfl⟩
  obtain ⟨w3, hw3⟩ : ∃ w3, w2.alloc (.cells #[.int .i64 kd, .slice none 0 0, .slice none 0 0, .string { data := #[] }] 52) = w3 := ⟨_, rfl⟩
  have z3 : Box w3 m 52 #[.int .i64 kd, .slice none 0 0, .slice none 0 0, .string { data := #[] }] := by rw [← hw3, ← hm]; exact heap_alloc_new _ _
  have s3 : w3.heap.size = m + 1 := by rw [← hw3, ← hm]; simp
  have b3 : Below w2.heap.size w2 w3 := by rw [← hw3]; exact (Below.refl _ _).alloc (Nat.le_refl _) _
  have R := Lib.hid (R.out.below b3 (by omega))
  have X := Lib.hid (X.out.below b3 (by omega))
  have Z := Lib.hid z3
  have B3 := Lib.hid (B2.out.trans (b3.mono (by omega)))
  have HW3 := Lib.hid hw3
  have hm2 : r0 + 1 < m := by omega
  clear z3 b3 hw3 s1 s2 hs2
  go_wp2_with fail
  rw [HW3.out]
  refine (rpath_any (r0 + 1) r0 _ w3 (by omega) R.out).mono ?_
  rintro e w4 ⟨Ap, np, cp, rfl, hown, rd, t⟩
  rw [H2.out] at rd hown
  rw [s3] at hown
  have hnp : ps.length = np := hown.len
  have R := Lib.hid rd
  have X := Lib.hid (X.out.touch t (by omega))
  have Z := Lib.hid (Z.out.touch t (by omega))
  have B4 := Lib.hid (B3.out.trans (t.below (by omega) (fun k hk h => by omega)))
  have P := Lib.hid hown
  have s4 := t.size
  clear hown rd t
  obtain ⟨w5, hw5⟩ : ∃ w5, w4.setCell ⟨m, 1, none⟩ (.slice Ap np cp) = w5 := ⟨_, rfl⟩
  have t5 : Touch (fun k => k = m) w4 w5 := by rw [← hw5]; exact touch_set w4 m 1 _ rfl
  have z5 : Box w5 m 52 #[.int .i64 kd, .slice Ap np cp, .slice none 0 0, .string { data := #[] }] := by rw [← hw5]; exact Z.out.set_ 1 _
  have HW5 := Lib.hid hw5
  clear hw5
  have q1 := Z.out.cell 1
  have f1 := Z.out.free 1
  simp at q1
  go_wp2_with fail
  rw [HW5.out]
  clear q1 f1
  have Z := Lib.hid z5
  have R := Lib.hid (R.out.touch t5 (by omega) (fun k hk e => by omega))
  have X := Lib.hid (X.out.touch t5 (by omega))
  have P := Lib.hid (P.out.touch t5 (fun j hj e => by have := (World.ownsRow.lt P.out j hj).1; omega))
  have B5 := Lib.hid (B4.out.trans (t5.below (by omega) (fun k hk h => by omega)))
  have s5 := t5.size
  clear t5 z5
  refine (rnumber_any (r0 + 1) r0 _ w5 (by omega) R.out).mono ?_
  rintro e w6 ⟨rfl, rd, t, s6⟩
  have hbs2 := rNum_bs (R.out.bs)
  obtain ⟨cv, hcv⟩ : ∃ cv : Nat, (rNum st2).1 = cv := ⟨(rNum st2).1.toNat, by omega⟩
  have hpart : rByt cv (rNum st2).2 = (vs, st3) := by rw [← H3.out]; unfold rPart; rw [hcv, Int.toNat_natCast]
  have hcv255 : cv ≤ 255 := by omega
  rw [hcv]
  have R := Lib.hid rd
  have X := Lib.hid (X.out.touch t (by omega))
  have Z := Lib.hid (Z.out.touch t (by omega))
  have P := Lib.hid (P.out.touch t (fun j hj e => by have := (World.ownsRow.lt P.out j hj).1; omega))
  have B6 := Lib.hid (B5.out.trans (t.below (by omega) (fun k hk h => by omega)))
  clear rd t hbs2
  have HPV := Lib.hid hpart
  clear hpart hcv
  go_wp2_with fail
  refine (rbytes_any (r0 + 1) cv r0 _ w6 (by omega) (by omega) R.out).mono ?_
  rintro e w7 ⟨Av, nv, cc, rfl, _, yb, rd, t, s7⟩
  rw [HPV.out] at yb rd
  have R := Lib.hid rd
  have X := Lib.hid (X.out.touch t (by omega))
  have Z := Lib.hid (Z.out.touch t (by omega))
  have P := Lib.hid (P.out.touch t (fun j hj e => by have := (World.ownsRow.lt P.out j hj).1; omega))
  have B7 := Lib.hid (B6.out.trans (t.below (by omega) (fun k hk h => by omega)))
  clear rd t
  have hconv := conv_bytes Av nv cc vs _ w7 yb
  have hvl : vs.length ≤ 255 := l2
  obtain ⟨w8, hw8⟩ : ∃ w8, w7.setCell ⟨m, 3, none⟩ (.string (strOfNums vs)) = w8 := ⟨_, rfl⟩
  have t8 : Touch (fun k => k = m) w7 w8 := by rw [← hw8]; exact touch_set w7 m 3 _ rfl
  have z8 : Box w8 m 52 #[.int .i64 kd, .slice Ap np cp, .slice none 0 0, .string (strOfNums vs)] := by rw [← hw8]; exact Z.out.set_ 3 _
  have HW8 := Lib.hid hw8
  clear hw8 yb
  have q3 := Z.out.cell 3
  have f3 := Z.out.free 3
  simp at q3
  go_wp2_with fail
  rw [HW8.out]
  clear q3 f3 hconv
  have Z := Lib.hid z8
  have R := Lib.hid (R.out.touch t8 (by omega) (fun k hk e => by omega))
  have X := Lib.hid (X.out.touch t8 (by omega))
  have P := Lib.hid (P.out.touch t8 (fun j hj e => by have := (World.ownsRow.lt P.out j hj).1; omega))
  have B8 := Lib.hid (B7.out.trans (t8.below (by omega) (fun k hk h => by omega)))
  have s8 := t8.size
  have PL := Lib.hid (fun j hj => (World.ownsRow.lt P.out j hj).2)
  have hm8 : m < w8.heap.size := z8.lt
  clear t8 z8
  refine (rkids_any (r0 + 1) r0 _ w8 (by omega) R.out).mono ?_
  rintro e w9 ⟨Ak, nk, ck, rfl, hown, rd, t⟩
  rw [H4.out] at rd hown
  have hnk : ks.length = nk := hown.len
  have R := Lib.hid rd
  have X := Lib.hid (X.out.touch t (by omega))
  have Z := Lib.hid (Z.out.touch t (by omega))
  have P := Lib.hid (P.out.touch t (fun j hj e => by have := (World.ownsRow.lt P.out j hj).1; omega))
  have K := Lib.hid hown
  have B9 := Lib.hid (B8.out.trans (t.below (by omega) (fun k hk h => by omega)))
  have s9 := B9.out.size
  clear rd t hown
  obtain ⟨w10, hw10⟩ : ∃ w10, w9.setCell ⟨m, 2, none⟩ (.slice Ak nk ck) = w10 := ⟨_, rfl⟩
  have t10 : Touch (fun k => k = m) w9 w10 := by rw [← hw10]; exact touch_set w9 m 2 _ rfl
  have z10 : Box w10 m 52 #[.int .i64 kd, .slice Ap np cp, .slice Ak nk ck, .string (strOfNums vs)] := by rw [← hw10]; exact Z.out.set_ 2 _
  have q2 := Z.out.cell 2
  have f2 := Z.out.free 2
  simp at q2
  have Z := Lib.hid z10
  have R := Lib.hid (R.out.touch t10 (by omega) (fun k hk e => by omega))
  have X := Lib.hid (X.out.touch t10 (by omega))
  have P := Lib.hid (P.out.touch t10 (fun j hj e => by have := (World.ownsRow.lt P.out j hj).1; omega))
  have K := Lib.hid (K.out.touch t10 (fun j hj e => by have := (World.ownsRow.lt K.out j hj).1; omega))
  have B10 := Lib.hid (B9.out.trans (t10.below (by omega) (fun k hk h => by omega)))
  have hv : Hid (OwnN w10 (m + 1) (.agg #[.int .i64 kd, .slice Ap np cp, .slice Ak nk ck, .string (strOfNums vs)]) ⟨kd, ps, ks, strOfNums vs⟩) :=
    ⟨Ap, np, cp, Ak, nk, ck, rfl, by omega, by omega, by rw [strOfNums_size]; omega, P.out, K.out.base (by omega), fun j hj e => by have := PL.out j hj; have := (World.ownsRow.lt K.out j e).1; omega⟩
  have hlen : kd = kd := rfl
  clear t10 z10 PL P K s4 s5 s6 s7 s8
  obtain ⟨Al, nl, cl, sh, hx, _, _, _, yl, hsh, _⟩ := R.out
  have g0 := hx.cell 0
  have g1 := hx.cell 1
  simp at g0 g1
  have hnl := yl.1
  have lz := Z.out.lt
  have lx := X.out.lt
  have hrz : ¬ r0 = m := by omega
  clear hx yl hlen
  rcases st4 with _ | ys
  · obtain rfl : sh = true := hsh
    have x0 := X.out.cell 0
    have x1 := X.out.cell 1
    have x2 := X.out.cell 2
    have x3 := X.out.cell 3
    simp at x0 x1 x2 x3
    have fx := X.out.free
    go_wp2
    obtain ⟨hX, hb⟩ := set4 X.out (.int .i64 0) (.slice none 0 0) (.slice none 0 0) (.string { data := #[] })
    refine bodyPost_ret (v := .tuple #[node0V, .bool false]) (results_box2 Try.results41 _ _ r0 _ _ _ _ rfl rfl hX Try.underlying52 rfl (by kernel_rfl)) rfl ?_
    refine ⟨_, node0, false, rfl, node0_own _ _, rNode_none (by rw [HN.out]; simp), ?_⟩
    rw [hr0]
    exact B10.out.trans (hb.below (by have := B10.out.size; omega) (fun k hk h => by omega))
  · obtain rfl : sh = false := hsh
    by_cases hys : ys = []
    · subst hys
      obtain rfl : nl = 0 := hnl.symm
      have z0 := Z.out.cell 0
      have z1 := Z.out.cell 1
      have z2 := Z.out.cell 2
      have z3 := Z.out.cell 3
      simp at z0 z1 z2 z3
      go_wp2_with fail
      refine (progNodeOk_any _ _ _ w10 (Nat.le_refl _) hv.out.node).mono ?_
      rintro e w11 ⟨rfl, b11⟩
      have V := Lib.hid (hv.out.below b11)
      have X := Lib.hid (X.out.below b11 lx)
      have Z := Lib.hid (Z.out.below b11 lz)
      have s10 := B10.out.size
      have B11 := Lib.hid (B10.out.trans (b11.mono (by omega)))
      have s11 := B11.out.size
      clear z0 z1 z2 z3 b11 hw10 q2 f2 g0 g1
      have z0 := Z.out.cell 0
      have z1 := Z.out.cell 1
      have z2 := Z.out.cell 2
      have z3 := Z.out.cell 3
      simp at z0 z1 z2 z3
      have x0 := X.out.cell 0
      have x1 := X.out.cell 1
      have x2 := X.out.cell 2
      have x3 := X.out.cell 3
      simp at x0 x1 x2 x3
      have fx := X.out.free
      by_cases hok : nodeOk ⟨kd, ps, ks, strOfNums vs⟩ = true
      · rw [hok]
        go_wp2_with fail
        obtain ⟨hX, hb⟩ := set4 X.out (.int .i64 kd) (.slice Ap np cp) (.slice Ak nk ck) (.string (strOfNums vs))
        refine bodyPost_ret (v := .tuple #[.agg #[.int .i64 kd, .slice Ap np cp, .slice Ak nk ck, .string (strOfNums vs)], .bool true]) (results_box2 Try.results41 _ _ r0 _ _ _ _ rfl rfl hX Try.underlying52 rfl (by kernel_rfl)) rfl ?_
        have hyes := rNode_back HBS.out (by rw [HN.out]) (by rw [HN.out]; exact hok)
        rw [HN.out] at hyes
        rw [hr0]
        exact ⟨_, _, true, rfl, (V.out.touch hb (fun g hg h => by have := (V.out.blk hg).1; omega)).base (by omega), hyes, B11.out.trans (hb.below (by omega) (fun k hk h => by omega))⟩
      · have hok' : nodeOk ⟨kd, ps, ks, strOfNums vs⟩ = false := by simpa using hok
        rw [hok']
        go_wp2_with fail
        obtain ⟨hX, hb⟩ := set4 X.out (.int .i64 0) (.slice none 0 0) (.slice none 0 0) (.string { data := #[] })
        refine bodyPost_ret (v := .tuple #[node0V, .bool false]) (results_box2 Try.results41 _ _ r0 _ _ _ _ rfl rfl hX Try.underlying52 rfl (by kernel_rfl)) rfl ?_
        rw [hr0]
        exact ⟨_, node0, false, rfl, node0_own _ _, rNode_none (by rw [HN.out]; simp [hok']), B11.out.trans (hb.below (by omega) (fun k hk h => by omega))⟩
    · have hpos : 0 < nl := by
        rcases ys with _ | ⟨y, r⟩
        · exact absurd rfl hys
        · have h0 : (y :: r).length = nl := hnl
          simp at h0; omega
      have hd : decide ((0 : Int) < (nl : Int)) = true := decide_eq_true (by omega)
      have x0 := X.out.cell 0
      have x1 := X.out.cell 1
      have x2 := X.out.cell 2
      have x3 := X.out.cell 3
      simp at x0 x1 x2 x3
      have fx := X.out.free
      go_wp2
      obtain ⟨hX, hb⟩ := set4 X.out (.int .i64 0) (.slice none 0 0) (.slice none 0 0) (.string { data := #[] })
      refine bodyPost_ret (v := .tuple #[node0V, .bool false]) (results_box2 Try.results41 _ _ r0 _ _ _ _ rfl rfl hX Try.underlying52 rfl (by kernel_rfl)) rfl ?_
      refine ⟨_, node0, false, rfl, node0_own _ _, rNode_none (by rw [HN.out]; simp [hys]), ?_⟩
      rw [hr0]
      exact B10.out.trans (hb.below (by have := B10.out.size; omega) (fun k hk h => by omega))
end Go.Proofs.Ytopaobjpcafjlaa

-- Named: The program's nodeNamed: the node of some bytes, where they are of one and have this name.
namespace Go.Proofs.Ytopaobjpcafjlaa
set_option maxRecDepth 100000
set_option linter.unusedVariables false
set_option linter.unusedSimpArgs false
open Go.RowKit

set_option maxHeartbeats 1000000 in
theorem named_any (m : Int) (A : Option Addr) (n c : Nat) (bs : List Int) (B : Nat) (w : World) (hn : n ≤ 1048576) (hc : n ≤ c) (hA : A = none → c = 0) (hB : B ≤ w.heap.size) (hb : Byts w B A n bs) :
    Calls Try.prog 30 #[.int .i64 m, .slice A n c] w fun e w' => ∃ v nd r, e = .returned (.tuple #[v, .bool r]) ∧ OwnN w' w.heap.size v nd ∧ Below w.heap.size w w' ∧ ((r = true ∧ NodeRead bs nd true ∧ nameOf bs = m) ∨ (r = false ∧ ¬ (IsNode bs ∧ nameOf bs = m))) := by
  obtain ⟨w1, hw1⟩ : ∃ w1, w.alloc (.cells #[.int .i64 0, .slice none 0 0, .slice none 0 0, .string { data := #[] }] 52) = w1 := ⟨_, rfl⟩
  have x1 : Box w1 w.heap.size 52 _ := hw1 ▸ heap_alloc_new _ _
  have b1 : Below w.heap.size w w1 := hw1 ▸ (Below.refl _ _).alloc (Nat.le_refl _) _
  have s1 : w1.heap.size = w.heap.size + 1 := hw1 ▸ by simp
  have X1 := Lib.hid x1
  have B1 := Lib.hid b1
  have HB := Lib.hid ((hb.more hB).below b1)
  clear x1 b1 hb
  go_enter Try.func30, Try.ntmps30
  go_wp2_with fail
  refine (implNodeFrom_any A n c bs w.heap.size w1 hn hc hA (by omega) HB.out).mono ?_
  rintro e w2 ⟨v, nd, r, rfl, own, rd, b2⟩
  have s2 := b2.size
  have O2 := Lib.hid own
  have RD := Lib.hid rd
  have B2 := Lib.hid (B1.out.trans (b2.mono (by omega)))
  have X2 := Lib.hid (X1.out.below b2 (by omega))
  have Y2 := Lib.hid (HB.out.below (b2.mono (by omega)))
  obtain ⟨Ap, np, cp, Ak, nk, ck, rfl, _⟩ := own
  clear rd b2 hw1
  obtain ⟨w3, hw3⟩ : ∃ w3, w2.alloc (.cells #[.int .i64 nd.kind, .slice Ap np cp, .slice Ak nk ck, .string nd.val] 52) = w3 := ⟨_, rfl⟩
  have b3 : Below w2.heap.size w2 w3 := hw3 ▸ (Below.refl _ _).alloc (Nat.le_refl _) _
  have N3 := Lib.hid (show Box w3 w2.heap.size 52 #[.int .i64 nd.kind, .slice Ap np cp, .slice Ak nk ck, .string nd.val] from hw3 ▸ heap_alloc_new _ _)
  have s3 : w3.heap.size = w2.heap.size + 1 := hw3 ▸ by simp
  have B3 := Lib.hid (B2.out.trans (b3.mono (by omega)))
  have X3 := Lib.hid (X2.out.below b3 (by omega))
  have O3 := Lib.hid (O2.out.below b3)
  have Y3 := Lib.hid (Y2.out.below (b3.mono (by omega)))
  have HY := Lib.hid (IsNode.of RD.out)
  have hNM : Calls Try.prog 42 #[.slice A n c] w3 fun e w' => e = .returned (.int .i64 (nameOf bs)) ∧ w' = w3 :=
    (name_any A n c bs w.heap.size w3 (by omega) Y3.out).mono fun e w' h => ⟨h.1, h.2.symm⟩
  have NM := Lib.hid hNM
  clear hNM b3 X2 B2 Y3 Y2 HB
  cases r with
  | false =>
    have hno := Lib.hid (show ¬ (IsNode bs ∧ nameOf bs = m) from fun h => absurd (HY.out.2 h.1) (by simp))
    have q0 := X3.out.cell 0
    have q1 := X3.out.cell 1
    have q2 := X3.out.cell 2
    have q3 := X3.out.cell 3
    have f0 := X3.out.free
    simp at q0 q1 q2 q3
    obtain ⟨hX, hb⟩ := set4 X3.out (.int .i64 0) (.slice none 0 0) (.slice none 0 0) (.string { data := #[] })
    have HX := Lib.hid hX
    have HB := Lib.hid hb
    clear hX hb
    go_wp2
    refine bodyPost_ret (v := .tuple #[node0V, .bool false]) (results_box2 Try.results30 _ _ w.heap.size _ _ _ _ rfl rfl HX.out Try.underlying52 rfl (by kernel_rfl)) rfl ?_
    exact ⟨_, node0, false, rfl, node0_own _ _, B3.out.trans (HB.out.below B3.out.size (fun k hk h => by omega)), .inr ⟨rfl, hno.out⟩⟩
  | true =>
    have hyes := HY.out.1 rfl
    have HYES := Lib.hid hyes
    clear hyes
    by_cases h1 : nameOf bs = m
    · have hb2 : (nameOf bs != m) = false := by simp [h1]
      have H1 := Lib.hid h1
      clear h1
      go_wp2_with fail
      refine (NM.out).mono ?_
      rintro e w' ⟨rfl, hw'⟩
      rw [hw']
      clear hw' w'
      clear hw3
      have hr0 : w.heap.size < w2.heap.size := by omega
      have q0 := X3.out.cell 0
      have q1 := X3.out.cell 1
      have q2 := X3.out.cell 2
      have q3 := X3.out.cell 3
      have f0 := X3.out.free
      have n0 := N3.out.cell 0
      have n1 := N3.out.cell 1
      have n2 := N3.out.cell 2
      have n3 := N3.out.cell 3
      simp at q0 q1 q2 q3 n0 n1 n2 n3
      obtain ⟨hX, hb⟩ := set4 X3.out (.int .i64 nd.kind) (.slice Ap np cp) (.slice Ak nk ck) (.string nd.val)
      have HX := Lib.hid hX
      have HB := Lib.hid hb
      clear hX hb
      go_wp2
      refine bodyPost_ret (v := .tuple #[.agg #[.int .i64 nd.kind, .slice Ap np cp, .slice Ak nk ck, .string nd.val], .bool true]) (results_box2 Try.results30 _ _ w.heap.size _ _ _ _ rfl rfl HX.out Try.underlying52 rfl (by kernel_rfl)) rfl ?_
      have O4 := O3.out
      refine ⟨_, nd, true, rfl, (O4.touch HB.out (fun g hg h => by have := (O3.out.blk hg).1; omega)).base (by omega), B3.out.trans (HB.out.below B3.out.size (fun k hk h => by omega)), .inl ⟨rfl, RD.out, H1.out⟩⟩
    · have hb2 : (nameOf bs != m) = true := by simp [h1]
      have H1 := Lib.hid h1
      clear h1
      go_wp2_with fail
      refine (NM.out).mono ?_
      rintro e w' ⟨rfl, hw'⟩
      rw [hw']
      clear hw' w'
      clear hw3
      have q0 := X3.out.cell 0
      have q1 := X3.out.cell 1
      have q2 := X3.out.cell 2
      have q3 := X3.out.cell 3
      have f0 := X3.out.free
      simp at q0 q1 q2 q3
      obtain ⟨hX, hb⟩ := set4 X3.out (.int .i64 0) (.slice none 0 0) (.slice none 0 0) (.string { data := #[] })
      have HX := Lib.hid hX
      have HB := Lib.hid hb
      clear hX hb
      go_wp2
      refine bodyPost_ret (v := .tuple #[node0V, .bool false]) (results_box2 Try.results30 _ _ w.heap.size _ _ _ _ rfl rfl HX.out Try.underlying52 rfl (by kernel_rfl)) rfl ?_
      exact ⟨_, node0, false, rfl, node0_own _ _, B3.out.trans (HB.out.below B3.out.size (fun k hk h => by omega)), .inr ⟨rfl, fun h => H1.out h.2⟩⟩
end Go.Proofs.Ytopaobjpcafjlaa
