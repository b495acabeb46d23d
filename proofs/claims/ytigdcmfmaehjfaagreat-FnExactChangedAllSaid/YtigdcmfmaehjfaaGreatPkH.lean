/- Several texts in one, in build order: DelI, DelN, SlDrop, Round, NodeY, CellsOf, CellQ, CellR, CellT, CellU, ReachF, ValI, LaySort, SortedI. -/
import Derived.Test.YtigdcmfmaehjfaaGreatPkG
import Derived.Deep.RegionLaw
import Derived.Orders
import Derived.RangeFuncCalls
import Derived.Lib.AppendStr
import Derived.StillTailTactics
import Derived.Deep.RegionHeld3
import Derived.Shelf.SlGeneric
import Derived.Shelf.SlLaysM
import Derived.Ground.SlgmProg
import Derived.Test.YtigdcmfmaehjfaaGreatChecked
import Derived.Shelf.SortM.SortNone
import Derived.Shelf.SortM.AssemblyIn
import Derived.Sort.EveryDepth
import Derived.Sort.OwnSortedInts
-- DelI: slices.Delete of one element, as the program calls it, at one type of element. No statement of the program is proved here.
namespace Go.Proofs.YtigdcmfmaehjfaaGreat
set_option maxRecDepth 100000
set_option linter.unusedVariables false
set_option linter.unusedSimpArgs false
open Go.RowKit

/-- an append whose run is known, as a step of a region that draws. -/
theorem step_append_runI {P : Program} {ops : Array Oper} {o : Oper} {a : Act} {w : World} {K : Act → World → Prop} {Q : Exit → Act → World → Prop} {E : Prop}
    (hg : o.guard = none) (d x : Operand) (dT sT : TypeId) (hop : o.op = Op.call { callee := Callee.builtin Builtin.append, args := #[d, x], argTypes := #[dT, sT] })
    (v u : Value) (hd : a.eval d = v) (hx : a.eval x = u) {v' : Value} {w' : World} (hr : (Builtin.append_ #[dT, sT] o.type #[v, u]).run P w = .ok v' w') (hK : K (a.put o.dst v') w') :
    if Region.wanted o (yielded ops a.tmps) = true then Oper.wp P o a w K Q else E := by
  have hw : Region.wanted o (yielded ops a.tmps) = true := by simp [Region.wanted, hg]
  rw [if_pos hw]
  unfold Oper.wp
  simp [execOp, hop, resolve, invoke, builtin, hd, hx, hr, Result.andThen]
  exact hK
theorem run_clear_oneI {P : Program} (w : World) (t e ty : TypeId) (z : Value) (g o c : Nat) (cur : Array Value) (et : TypeId) (ht : P.underlying t = some (.slice e)) (hv : ∀ w, (zeroValue e).run P w = .ok z w)
    (h1 : ∀ v ∈ (Builtin.zeroCells z.cells 1).toList, v.oneCell' = true) (hg : w.heap[g]? = some (.cells cur et (0, 0))) (hfit : o + (Builtin.zeroCells z.cells 1).size ≤ cur.size) :
    (Builtin.clear_ #[t] ty #[.slice (some ⟨g, o, none⟩) 1 c]).run P w = .ok (.tuple #[]) (w.setRow g (cur.toList.take o ++ (Builtin.zeroCells z.cells 1).toList ++ cur.toList.drop (o + (Builtin.zeroCells z.cells 1).size)).toArray) := by
  have hst := run_storeCells_at P g o et (Builtin.zeroCells z.cells 1).toList 0 cur w hg (by simpa using hfit) h1
  simp [Builtin.clear_, run_underlying ht, hv, hst]
theorem Tryz.zeroDelI : ∀ w, (zeroValue 2).run Tryz.prog w = .ok (.int .i64 0) w := by
  intro w
  obtain ⟨i0, hi0, hz0, hz1, hz2⟩ := info_parts Tryz.infoInsI
  simp [zeroValue, typeInfo, hi0, hz0]
set_option maxHeartbeats 4000000 in
theorem delI_any (base p c i g : Nat) (xs : List Value) (w : World) (hr : w.ownsRow base 2 1 (.slice (some ⟨g, 0, none⟩) (p + 1) c) (p + 1) xs) (hi : i ≤ p) (hn : p + 1 ≤ 1048576) (h1x : ∀ u ∈ xs, u.oneCell' = true) :
    Calls Tryz.prog 172 #[.slice (some ⟨g, 0, none⟩) (p + 1) c, .int .i64 i, .int .i64 ((i : Int) + 1)] w fun e w' => e = .returned (.slice (some ⟨g, 0, none⟩) p c) ∧
      w'.ownsRow base 2 1 (.slice (some ⟨g, 0, none⟩) p c) p (xs.take (i * 1) ++ xs.drop ((i + 1) * 1)) ∧ w.grownBy w' (some g) := by
  obtain ⟨i0, hi0, hz0, hz1, hz2⟩ := info_parts Tryz.infoInsI
  obtain ⟨cur, hbg, hg, hnc, hcm, hcs, htk⟩ := own_parts hr
  have hxl := hr.1
  have hcl : cur.toList.length = c * 1 := by simpa using hcs
  obtain ⟨news, hnews⟩ : ∃ news, news = xs.drop ((i + 1) * 1) := ⟨_, rfl⟩
  have hnl : news.length = (p - i) * 1 := by rw [hnews]; simp; omega
  obtain ⟨AD, hAD, hsrc⟩ : ∃ AD : Addr, (if c = i + 1 then (⟨g, 0, none⟩ : Addr) else ⟨g, (i + 1), none⟩) = AD ∧ ∀ t u, news[t]? = some u → w.drew.cell? (AD.add t) = some u := by
    by_cases h : c = i + 1
    · refine ⟨⟨g, 0, none⟩, by simp [h], fun t u hu => ?_⟩
      have h0 : news.length = 0 := by rw [hnl]; omega
      rw [List.length_eq_zero_iff.1 h0] at hu
      simp at hu
    · refine ⟨⟨g, (i + 1) * 1, none⟩, by simp [h], fun t u hu => ?_⟩
      have ht := (List.getElem?_eq_some_iff.1 hu).1
      rw [Addr.add_lit]
      rw [hnews, List.getElem?_drop] at hu
      exact (World.ownsRow.cellAt hr _ (by omega)).trans hu
  obtain ⟨c1, hc1⟩ : ∃ c1 : List Value, c1 = cur.toList.take (i * 1) ++ news ++ cur.toList.drop (i * 1 + news.length) := ⟨_, rfl⟩
  have lc1 : c1.length = c * 1 := by rw [hc1]; simp [hcs]; omega
  obtain ⟨W1, hW1⟩ : ∃ W1, W1 = w.drew.setRow g c1.toArray := ⟨_, rfl⟩
  have hap : ∀ ty dc, (Builtin.append_ #[23, 23] ty #[.slice (some ⟨g, 0, none⟩) i c, .slice (some AD) (p - i) dc]).run Tryz.prog w.drew = .ok (.slice (some ⟨g, 0, none⟩) p c) W1 := fun ty dc => by
    have h := run_append_room (P := Tryz.prog) w.drew 23 ty 2 i0 Tryz.underlying23 hi0 g i c cur hg AD (p - i) dc news (by rw [hz1]; exact hnl) hsrc (fun u hu => h1x u (by rw [hnews] at hu; exact List.mem_of_mem_drop hu)) (by omega) (by rw [hz1, hcs, hnl]; omega)
    rw [hz1, show i + (p - i) = p by omega] at h
    rw [hW1, hc1]
    exact h
  have hg1 : W1.heap[g]? = some (.cells c1.toArray 2 (0, 0)) := by rw [hW1]; exact setRow_heap w.drew _ _ _ _ _ hg
  have zl : (Builtin.zeroCells (.int .i64 0 : Value).cells 1).size = 1 := by simp [Builtin.zeroCells, Value.cells]
  obtain ⟨zs, hzs⟩ : ∃ zs, zs = (Builtin.zeroCells (.int .i64 0 : Value).cells 1).toList := ⟨_, rfl⟩
  have zsl : zs.length = 1 := by rw [hzs]; simpa using zl
  obtain ⟨c2, hc2⟩ : ∃ c2 : List Value, c2 = c1.take (p * 1) ++ zs ++ c1.drop (p * 1 + 1) := ⟨_, rfl⟩
  obtain ⟨W2, hW2⟩ : ∃ W2, W2 = W1.setRow g c2.toArray := ⟨_, rfl⟩
  have hcl2 : ∀ ty dc, (Builtin.clear_ #[23] ty #[.slice (some ⟨g, p, none⟩) 1 dc]).run Tryz.prog W1 = .ok (.tuple #[]) W2 := fun ty dc => by
    have h := run_clear_oneI (P := Tryz.prog) W1 23 2 ty (.int .i64 0) g (p * 1) dc c1.toArray 2 Tryz.underlying23 Tryz.zeroDelI (List.all_eq_true.1 (by kernel_rfl)) hg1 (by rw [zl]; simp [lc1]; omega)
    rw [hW2, hc2, hzs]
    rw [zl] at h
    simpa using h
  have hfin : W2.ownsRow base 2 1 (.slice (some ⟨g, 0, none⟩) p c) p (xs.take (i * 1) ++ xs.drop ((i + 1) * 1)) ∧ w.grownBy W2 (some g) := by
    refine ⟨own_mk c2.toArray (by simp; omega) hbg (by rw [hW2]; exact setRow_heap W1 _ _ _ _ _ hg1) (by omega) hcm (by simp [hc2, lc1, zsl]; omega) ?_, ?_⟩
    · have e1 : cur.toList.take (i * 1) = xs.take (i * 1) := by rw [← htk, List.take_take, Nat.min_eq_left (by omega)]
      have e2 : (xs.take (i * 1)).length = i * 1 := by rw [List.length_take]; omega
      rw [← hnews]
      simp only [hc2, hc1, e1]
      rw [List.append_assoc, List.take_append_of_le_length (by simp [e2, hcs]; omega), List.take_take, Nat.min_self]
      rw [List.take_append_of_le_length (by simp [e2, hnl]; omega), List.take_of_length_le (by simp [e2, hnl]; omega)]
    · refine ⟨by rw [hW2, hW1]; rfl, by rw [hW2, hW1]; rfl, by rw [hW2, hW1]; rfl, by rw [hW2, hW1]; simp, fun k hk hkg => ?_⟩
      have hkg : k ≠ g := fun e => hkg (by rw [e])
      rw [hW2, setRow_other W1 _ k _ hkg, hW1, setRow_other w.drew _ k _ hkg]; rfl
  have hsame : c = i + 1 → W1 = w.drew := fun h => by
    have h0 : news = [] := List.length_eq_zero_iff.1 (by rw [hnl]; omega)
    rw [hW1, hc1, h0]
    simp only [List.append_nil, List.length_nil, Nat.add_zero, List.take_append_drop, Array.toArray_toList]
    exact setRow_self w.drew g cur _ (0, 0) hg
  have HS := Lib.hid hsame
  have HF := Lib.hid hfin
  have HA := Lib.hid hap
  have HB := Lib.hid hcl2
  have HAD := Lib.hid hAD
  unfold maxLen at hcm
  clear hsame hfin hap hcl2 hg1 hW1 hW2 hc1 hc2 lc1 hcl htk hcs hr hsrc hnews hnl hzs zsl zl hz0 hz1 hz2 hi0 hg
  have mixed : Tryz.prog.follows .mixedOrders = true := by kernel_rfl
  have hw1 : IntKind.i64.wrap ((i : Int) + 1) = (i : Int) + 1 := by rw [IntKind.wrap_i64]; omega
  have hb1 : (0 : Int) ≤ (i : Int) + 1 := by omega
  have htn : ((i : Int) + 1).toNat = i + 1 := by omega
  have hij : ¬ ((i : Int) = (i : Int) + 1) := by omega
  have hb3 : (i : Int) ≤ (p : Int) := by omega
  have hic : i ≤ c := by omega
  have hjc : i + 1 ≤ c := by omega
  have hcp : ¬ (c = p) := by omega
  have hb9 : (i : Int) ≤ (i : Int) + 1 := by omega
  by_cases hcj : c = i + 1
  · have hAD := HAD.out
    rw [if_pos hcj] at hAD
    subst hAD
    obtain rfl : i = p := by omega
    have hw := HS.out hcj
    subst hw
    subst hcj
    go_enter Tryz.func172, Tryz.ntmps172
    go_wp2_with fail
    go_region_law_o (fail)
    go_wp2_with (simp only [HB.out])
    go_ret
    exact ⟨rfl, HF.out⟩
  · have hAD := HAD.out
    rw [if_neg hcj] at hAD
    subst hAD
    go_enter Tryz.func172, Tryz.ntmps172
    go_wp2_with fail
    go_region_law_o (refine step_append_runI rfl _ _ 23 23 rfl _ _ (by simp [Act.eval, Act.put]) (by simp [Act.eval, Act.put]) (HA.out _ (c - (i + 1))) ?_)
    go_wp2_with (simp only [HB.out])
    go_ret
    exact ⟨rfl, HF.out⟩
end Go.Proofs.YtigdcmfmaehjfaaGreat

-- DelN: slices.Delete of one element, as the program calls it, at one type of element. No statement of the program is proved here.
namespace Go.Proofs.YtigdcmfmaehjfaaGreat
set_option maxRecDepth 100000
set_option linter.unusedVariables false
set_option linter.unusedSimpArgs false
open Go.RowKit

/-- an append whose run is known, as a step of a region that draws. -/
theorem step_append_runN {P : Program} {ops : Array Oper} {o : Oper} {a : Act} {w : World} {K : Act → World → Prop} {Q : Exit → Act → World → Prop} {E : Prop}
    (hg : o.guard = none) (d x : Operand) (dT sT : TypeId) (hop : o.op = Op.call { callee := Callee.builtin Builtin.append, args := #[d, x], argTypes := #[dT, sT] })
    (v u : Value) (hd : a.eval d = v) (hx : a.eval x = u) {v' : Value} {w' : World} (hr : (Builtin.append_ #[dT, sT] o.type #[v, u]).run P w = .ok v' w') (hK : K (a.put o.dst v') w') :
    if Region.wanted o (yielded ops a.tmps) = true then Oper.wp P o a w K Q else E := by
  have hw : Region.wanted o (yielded ops a.tmps) = true := by simp [Region.wanted, hg]
  rw [if_pos hw]
  unfold Oper.wp
  simp [execOp, hop, resolve, invoke, builtin, hd, hx, hr, Result.andThen]
  exact hK
theorem run_clear_oneN {P : Program} (w : World) (t e ty : TypeId) (z : Value) (g o c : Nat) (cur : Array Value) (et : TypeId) (ht : P.underlying t = some (.slice e)) (hv : ∀ w, (zeroValue e).run P w = .ok z w)
    (h1 : ∀ v ∈ (Builtin.zeroCells z.cells 1).toList, v.oneCell' = true) (hg : w.heap[g]? = some (.cells cur et (0, 0))) (hfit : o + (Builtin.zeroCells z.cells 1).size ≤ cur.size) :
    (Builtin.clear_ #[t] ty #[.slice (some ⟨g, o, none⟩) 1 c]).run P w = .ok (.tuple #[]) (w.setRow g (cur.toList.take o ++ (Builtin.zeroCells z.cells 1).toList ++ cur.toList.drop (o + (Builtin.zeroCells z.cells 1).size)).toArray) := by
  have hst := run_storeCells_at P g o et (Builtin.zeroCells z.cells 1).toList 0 cur w hg (by simpa using hfit) h1
  simp [Builtin.clear_, run_underlying ht, hv, hst]
theorem Tryz.zeroDelN : ∀ w, (zeroValue 96).run Tryz.prog w = .ok (.agg #[.int .i64 0, .slice none 0 0, .slice none 0 0, .string ⟨#[]⟩]) w := by
  intro w
  obtain ⟨i0, hi0, hz0, hz1, hz2⟩ := info_parts Tryz.infoInsN
  simp [zeroValue, typeInfo, hi0, hz0]
set_option maxHeartbeats 4000000 in
theorem delN_any (base p c i g : Nat) (xs : List Value) (w : World) (hr : w.ownsRow base 96 4 (.slice (some ⟨g, 0, none⟩) (p + 1) c) (p + 1) xs) (hi : i ≤ p) (hn : p + 1 ≤ 1048576) (h1x : ∀ u ∈ xs, u.oneCell' = true) :
    Calls Tryz.prog 173 #[.slice (some ⟨g, 0, none⟩) (p + 1) c, .int .i64 i, .int .i64 ((i : Int) + 1)] w fun e w' => e = .returned (.slice (some ⟨g, 0, none⟩) p c) ∧
      w'.ownsRow base 96 4 (.slice (some ⟨g, 0, none⟩) p c) p (xs.take (i * 4) ++ xs.drop ((i + 1) * 4)) ∧ w.grownBy w' (some g) := by
  obtain ⟨i0, hi0, hz0, hz1, hz2⟩ := info_parts Tryz.infoInsN
  obtain ⟨cur, hbg, hg, hnc, hcm, hcs, htk⟩ := own_parts hr
  have hxl := hr.1
  have hcl : cur.toList.length = c * 4 := by simpa using hcs
  obtain ⟨news, hnews⟩ : ∃ news, news = xs.drop ((i + 1) * 4) := ⟨_, rfl⟩
  have hnl : news.length = (p - i) * 4 := by rw [hnews]; simp; omega
  obtain ⟨AD, hAD, hsrc⟩ : ∃ AD : Addr, (if c = i + 1 then (⟨g, 0, none⟩ : Addr) else ⟨g, (i + 1) * 4, none⟩) = AD ∧ ∀ t u, news[t]? = some u → w.drew.cell? (AD.add t) = some u := by
    by_cases h : c = i + 1
    · refine ⟨⟨g, 0, none⟩, by simp [h], fun t u hu => ?_⟩
      have h0 : news.length = 0 := by rw [hnl]; omega
      rw [List.length_eq_zero_iff.1 h0] at hu
      simp at hu
    · refine ⟨⟨g, (i + 1) * 4, none⟩, by simp [h], fun t u hu => ?_⟩
      have ht := (List.getElem?_eq_some_iff.1 hu).1
      rw [Addr.add_lit]
      rw [hnews, List.getElem?_drop] at hu
      exact (World.ownsRow.cellAt hr _ (by omega)).trans hu
  obtain ⟨c1, hc1⟩ : ∃ c1 : List Value, c1 = cur.toList.take (i * 4) ++ news ++ cur.toList.drop (i * 4 + news.length) := ⟨_, rfl⟩
  have lc1 : c1.length = c * 4 := by rw [hc1]; simp [hcs]; omega
  obtain ⟨W1, hW1⟩ : ∃ W1, W1 = w.drew.setRow g c1.toArray := ⟨_, rfl⟩
  have hap : ∀ ty dc, (Builtin.append_ #[60, 60] ty #[.slice (some ⟨g, 0, none⟩) i c, .slice (some AD) (p - i) dc]).run Tryz.prog w.drew = .ok (.slice (some ⟨g, 0, none⟩) p c) W1 := fun ty dc => by
    have h := run_append_room (P := Tryz.prog) w.drew 60 ty 96 i0 Tryz.underlying60 hi0 g i c cur hg AD (p - i) dc news (by rw [hz1]; exact hnl) hsrc (fun u hu => h1x u (by rw [hnews] at hu; exact List.mem_of_mem_drop hu)) (by omega) (by rw [hz1, hcs, hnl]; omega)
    rw [hz1, show i + (p - i) = p by omega] at h
    rw [hW1, hc1]
    exact h
  have hg1 : W1.heap[g]? = some (.cells c1.toArray 96 (0, 0)) := by rw [hW1]; exact setRow_heap w.drew _ _ _ _ _ hg
  have zl : (Builtin.zeroCells (.agg #[.int .i64 0, .slice none 0 0, .slice none 0 0, .string ⟨#[]⟩] : Value).cells 1).size = 4 := by simp [Builtin.zeroCells, Value.cells]
  obtain ⟨zs, hzs⟩ : ∃ zs, zs = (Builtin.zeroCells (.agg #[.int .i64 0, .slice none 0 0, .slice none 0 0, .string ⟨#[]⟩] : Value).cells 1).toList := ⟨_, rfl⟩
  have zsl : zs.length = 4 := by rw [hzs]; simpa using zl
  obtain ⟨c2, hc2⟩ : ∃ c2 : List Value, c2 = c1.take (p * 4) ++ zs ++ c1.drop (p * 4 + 4) := ⟨_, rfl⟩
  obtain ⟨W2, hW2⟩ : ∃ W2, W2 = W1.setRow g c2.toArray := ⟨_, rfl⟩
  have hcl2 : ∀ ty dc, (Builtin.clear_ #[60] ty #[.slice (some ⟨g, p * 4, none⟩) 1 dc]).run Tryz.prog W1 = .ok (.tuple #[]) W2 := fun ty dc => by
    have h := run_clear_oneN (P := Tryz.prog) W1 60 96 ty (.agg #[.int .i64 0, .slice none 0 0, .slice none 0 0, .string ⟨#[]⟩]) g (p * 4) dc c1.toArray 96 Tryz.underlying60 Tryz.zeroDelN (List.all_eq_true.1 (by kernel_rfl)) hg1 (by rw [zl]; simp [lc1]; omega)
    rw [hW2, hc2, hzs]
    rw [zl] at h
    simpa using h
  have hfin : W2.ownsRow base 96 4 (.slice (some ⟨g, 0, none⟩) p c) p (xs.take (i * 4) ++ xs.drop ((i + 1) * 4)) ∧ w.grownBy W2 (some g) := by
    refine ⟨own_mk c2.toArray (by simp; omega) hbg (by rw [hW2]; exact setRow_heap W1 _ _ _ _ _ hg1) (by omega) hcm (by simp [hc2, lc1, zsl]; omega) ?_, ?_⟩
    · have e1 : cur.toList.take (i * 4) = xs.take (i * 4) := by rw [← htk, List.take_take, Nat.min_eq_left (by omega)]
      have e2 : (xs.take (i * 4)).length = i * 4 := by rw [List.length_take]; omega
      rw [← hnews]
      simp only [hc2, hc1, e1]
      rw [List.append_assoc, List.take_append_of_le_length (by simp [e2, hcs]; omega), List.take_take, Nat.min_self]
      rw [List.take_append_of_le_length (by simp [e2, hnl]; omega), List.take_of_length_le (by simp [e2, hnl]; omega)]
    · refine ⟨by rw [hW2, hW1]; rfl, by rw [hW2, hW1]; rfl, by rw [hW2, hW1]; rfl, by rw [hW2, hW1]; simp, fun k hk hkg => ?_⟩
      have hkg : k ≠ g := fun e => hkg (by rw [e])
      rw [hW2, setRow_other W1 _ k _ hkg, hW1, setRow_other w.drew _ k _ hkg]; rfl
  have hsame : c = i + 1 → W1 = w.drew := fun h => by
    have h0 : news = [] := List.length_eq_zero_iff.1 (by rw [hnl]; omega)
    rw [hW1, hc1, h0]
    simp only [List.append_nil, List.length_nil, Nat.add_zero, List.take_append_drop, Array.toArray_toList]
    exact setRow_self w.drew g cur _ (0, 0) hg
  have HS := Lib.hid hsame
  have HF := Lib.hid hfin
  have HA := Lib.hid hap
  have HB := Lib.hid hcl2
  have HAD := Lib.hid hAD
  unfold maxLen at hcm
  clear hsame hfin hap hcl2 hg1 hW1 hW2 hc1 hc2 lc1 hcl htk hcs hr hsrc hnews hnl hzs zsl zl hz0 hz1 hz2 hi0 hg
  have mixed : Tryz.prog.follows .mixedOrders = true := by kernel_rfl
  have hw1 : IntKind.i64.wrap ((i : Int) + 1) = (i : Int) + 1 := by rw [IntKind.wrap_i64]; omega
  have hb1 : (0 : Int) ≤ (i : Int) + 1 := by omega
  have htn : ((i : Int) + 1).toNat = i + 1 := by omega
  have hij : ¬ ((i : Int) = (i : Int) + 1) := by omega
  have hb3 : (i : Int) ≤ (p : Int) := by omega
  have hic : i ≤ c := by omega
  have hjc : i + 1 ≤ c := by omega
  have hcp : ¬ (c = p) := by omega
  have hb9 : (i : Int) ≤ (i : Int) + 1 := by omega
  by_cases hcj : c = i + 1
  · have hAD := HAD.out
    rw [if_pos hcj] at hAD
    subst hAD
    obtain rfl : i = p := by omega
    have hw := HS.out hcj
    subst hw
    subst hcj
    go_enter Tryz.func173, Tryz.ntmps173
    go_wp2_with fail
    go_region_law_o (fail)
    go_wp2_with (simp only [HB.out])
    go_ret
    exact ⟨rfl, HF.out⟩
  · have hAD := HAD.out
    rw [if_neg hcj] at hAD
    subst hAD
    go_enter Tryz.func173, Tryz.ntmps173
    go_wp2_with fail
    go_region_law_o (refine step_append_runN rfl _ _ 60 60 rfl _ _ (by simp [Act.eval, Act.put]) (by simp [Act.eval, Act.put]) (HA.out _ (c - (i + 1))) ?_)
    go_wp2_with (simp only [HB.out])
    go_ret
    exact ⟨rfl, HF.out⟩
end Go.Proofs.YtigdcmfmaehjfaaGreat

-- SlDrop: Taking a name out of the list of nodes.
namespace Go.Proofs.YtigdcmfmaehjfaaGreat
set_option maxRecDepth 100000
set_option linter.unusedVariables false
set_option linter.unusedSimpArgs false
open Go.RowKit

/-- a list without what stands at a place. -/
def delP {α : Type} (l : List α) (i : Nat) : List α := l.take i ++ l.drop (i + 1)
theorem delP_len {α : Type} (l : List α) (i : Nat) (h : i < l.length) : (delP l i).length = l.length - 1 := by unfold delP; simp; omega
theorem delP_mem {α : Type} (l : List α) (i : Nat) (x : α) (h : x ∈ delP l i) : x ∈ l := by
  unfold delP at h
  rcases List.mem_append.1 h with h | h
  · exact List.mem_of_mem_take h
  · exact List.mem_of_mem_drop h
theorem delP_sub {α : Type} (l : List α) (i : Nat) : (delP l i).Sublist l := by
  unfold delP
  conv => rhs; rw [← List.take_append_drop i l]
  refine List.Sublist.append (List.Sublist.refl _) ?_
  rw [show l.drop (i + 1) = (l.drop i).drop 1 by rw [List.drop_drop]]
  exact List.drop_sublist _ _
theorem kvs_del (ps : List (Int × NV)) (i : Nat) : (((kvs ps).map (Value.int .i64)).take (i * 1) ++ ((kvs ps).map (Value.int .i64)).drop ((i + 1) * 1)) = (kvs (delP ps i)).map (Value.int .i64) := by
  unfold kvs delP
  simp [List.map_take, List.map_drop]
theorem nvs_del (ps : List (Int × NV)) (i : Nat) : (nvs ps).take (i * 4) ++ (nvs ps).drop ((i + 1) * 4) = nvs (delP ps i) := by
  unfold nvs delP
  rw [flat_take _ 4 (fun x => rfl), flat_drop _ 4 (fun x => rfl), List.flatMap_append]
set_option maxHeartbeats 2000000 in
theorem drop_any (p lo : Nat) (R : SR) (ps : List (Int × NV)) (m : Int) (w : World) (hx : Box w p 62 #[R.kv ps.length, R.vv ps.length]) (h : SLN w lo R ps)
    (hpp : ∀ y ∈ ps, ∀ g, y.2.use g → g ≠ p) :
    Calls Tryz.prog 125 #[.pointer (some ⟨p, 0, none⟩), .int .i64 m] w fun e w' =>
      (hitI (kvs ps) m = false ∧ e = .returned (.bool false) ∧ Below w.heap.size w w') ∨
      (hitI (kvs ps) m = true ∧ e = .returned (.bool true) ∧ Box w' p 62 #[R.kv (ps.length - 1), R.vv (ps.length - 1)] ∧ SLN w' lo R (delP ps (lowI (kvs ps) m)) ∧ Touch (fun g => g = p ∨ R.at_ g) w w') := by
  have mixed : Tryz.prog.follows .mixedOrders = true := by kernel_rfl
  have hlen := h.len
  have hp := hx.lt
  have HS := Lib.hid h
  have P1 := Lib.hid hx
  clear hx h
  have q0 := P1.out.cell 0
  have q1 := P1.out.cell 1
  unfold SR.kv at q0
  unfold SR.vv at q1
  simp at q0 q1
  go_enter Tryz.func125, Tryz.ntmps125
  go_wp2_with fail
  refine (search_any R.Ak ps.length R.ck (kvs ps) m w.heap.size w (by omega) HS.out.keys.ints HS.out.rise).mono ?_
  rintro e w2 ⟨rfl, nq, hq⟩
  have b2 : Below w.heap.size w w2 := by rw [hq]; exact below_drewN (Below.refl _ _) nq
  have P2 := Lib.hid (P1.out.below b2 (by omega))
  have S2 := Lib.hid (HS.out.below b2)
  have B2 := Lib.hid b2
  have hs2 : w2.heap.size = w.heap.size := by rw [hq]; rfl
  clear hq b2 q0 q1
  have q0 := P2.out.cell 0
  have q1 := P2.out.cell 1
  have f2 := P2.out.free
  unfold SR.kv at q0
  unfold SR.vv at q1
  simp at q0 q1
  obtain ⟨ht, hht⟩ : ∃ ht, hitI (kvs ps) m = ht := ⟨_, rfl⟩
  have HT := Lib.hid hht
  rw [hht]
  clear hht
  cases ht with
  | false =>
    obtain ⟨i, hi⟩ : ∃ i, lowI (kvs ps) m = i := ⟨_, rfl⟩
    rw [hi]
    clear hi
    go_wp2
    go_ret
    exact .inl ⟨HT.out, rfl, B2.out⟩
  | true =>
    obtain ⟨hk, _⟩ := hit_parts ps m HT.out
    obtain ⟨i, hi⟩ : ∃ i, lowI (kvs ps) m = i := ⟨_, rfl⟩
    have HI := Lib.hid hi
    rw [hi] at hk ⊢
    clear hi
    obtain ⟨q, hq⟩ : ∃ q, ps.length = q + 1 := ⟨ps.length - 1, by omega⟩
    have hkeys := S2.out.keys
    have hvals := S2.out.vals
    have hcap := own_cap hkeys
    have hcapv := own_cap hvals
    obtain ⟨gk, hgk, _⟩ := S2.out.keys.form (by omega)
    obtain ⟨gv, hgv, _⟩ := S2.out.row (by omega)
    have hw1 : IntKind.i64.wrap ((i : Int) + 1) = (i : Int) + 1 := by rw [IntKind.wrap_i64]; omega
    rw [hgk, hq] at hkeys q0
    rw [hgv, hq] at hvals q1
    have VS := Lib.hid hvals
    have KS := Lib.hid hkeys
    clear hkeys hvals
    go_wp2_with fail
    refine (delI_any lo q R.ck i gk ((kvs ps).map (Value.int .i64)) w2 KS.out (by omega) (by omega) (kvs_one _)).mono ?_
    rintro e w3 ⟨rfl, o3, gr3⟩
    rw [kvs_del] at o3
    have t3 := Touch.of_grown gr3
    have gkp : gk ≠ p := fun e => own_box_ne KS.out P2.out (by decide) (by rw [e]; rfl)
    have gvp : gv ≠ p := fun e => own_box_ne VS.out P2.out (by decide) (by rw [e]; rfl)
    have gkv : gk ≠ gv := fun e => own_own_ne KS.out VS.out (by decide) gk rfl (by rw [e]; rfl)
    have p3 : Box w3 p 62 #[R.kv ps.length, R.vv ps.length] := (t3.block p (by omega) (fun e => gkp (by injection e with e; omega))).trans P2.out
    have v3 := own_touch VS.out t3 (fun g hg e => gkv (by have e1 : gv = g := (by simpa [Value.ownBlock] using hg); injection e with e; omega))
    obtain ⟨w4, hw4⟩ : ∃ w4, w3.setCell ⟨p, 0, none⟩ (.slice (some ⟨gk, 0, none⟩) q R.ck) = w4 := ⟨_, rfl⟩
    have t4 : Touch (fun g => g = p) w3 w4 := by rw [← hw4]; exact touch_set w3 p 0 _ rfl
    have p4 : Box w4 p 62 #[.slice (some ⟨gk, 0, none⟩) q R.ck, R.vv ps.length] := by rw [← hw4]; exact p3.set_ 0 _
    have k4 := own_touch o3 t4 (fun g hg e => gkp (by have e1 : gk = g := (by simpa [Value.ownBlock] using hg); omega))
    have v4 := own_touch v3 t4 (fun g hg e => gvp (by have e1 : gv = g := (by simpa [Value.ownBlock] using hg); omega))
    have c3 := p3.cell 0
    have f3 := p3.free
    have c4 := p4.cell 1
    have f4 := p4.free
    unfold SR.vv at c4
    rw [hgv, hq] at c4
    simp at c3 c4
    have T4 := Lib.hid ((t3.mono (T := fun g => g = p ∨ R.at_ g) (fun k hk => .inr (.inl ⟨_, hgk, by injection hk with hk; exact hk.symm⟩))).trans (t4.mono (fun k hk => .inl hk)))
    have V4 := Lib.hid v4
    have K4 := Lib.hid k4
    have P4 := Lib.hid p4
    clear o3 gr3 t3 t4 v4 k4 p4 p3 v3 q0 q1 f2
    go_wp2_with fail
    refine (delN_any lo q R.cv i gv (nvs ps) w4 V4.out (by omega) (by omega) (nvs_one _)).mono ?_
    rintro e w5 ⟨rfl, o5, gr5⟩
    rw [nvs_del] at o5
    have t5 := Touch.of_grown gr5
    have s4 : w2.heap.size ≤ w4.heap.size := T4.out.size
    have p5 : Box w5 p 62 #[.slice (some ⟨gk, 0, none⟩) q R.ck, R.vv ps.length] := (t5.block p (by omega) (fun e => gvp (by injection e with e; omega))).trans P4.out
    have k5 := own_touch K4.out t5 (fun g hg e => gkv (by have e1 : gk = g := (by simpa [Value.ownBlock] using hg); injection e with e; omega))
    obtain ⟨w6, hw6⟩ : ∃ w6, w5.setCell ⟨p, 1, none⟩ (.slice (some ⟨gv, 0, none⟩) q R.cv) = w6 := ⟨_, rfl⟩
    have t6 : Touch (fun g => g = p) w5 w6 := by rw [← hw6]; exact touch_set w5 p 1 _ rfl
    have p6 : Box w6 p 62 #[.slice (some ⟨gk, 0, none⟩) q R.ck, .slice (some ⟨gv, 0, none⟩) q R.cv] := by rw [← hw6]; exact p5.set_ 1 _
    have k6 := own_touch k5 t6 (fun g hg e => gkp (by have e1 : gk = g := (by simpa [Value.ownBlock] using hg); omega))
    have v6 := own_touch o5 t6 (fun g hg e => gvp (by have e1 : gv = g := (by simpa [Value.ownBlock] using hg); omega))
    have c5 := p5.cell 1
    have f5 := p5.free
    simp at c5
    have T6 : Touch (fun g => g = p ∨ R.at_ g) w w6 := (((Touch.of_below B2.out).trans T4.out).trans (t5.mono (fun k hk => .inr (.inr ⟨_, hgv, by injection hk with hk; exact hk.symm⟩)))).trans (t6.mono (fun k hk => .inl hk))
    have hdl : (delP ps i).length = q := by rw [delP_len ps i hk]; omega
    have hfin : Box w6 p 62 #[R.kv (ps.length - 1), R.vv (ps.length - 1)] ∧ SLN w6 lo R (delP ps i) ∧ Touch (fun g => g = p ∨ R.at_ g) w w6 := by
      have hq1 : ps.length - 1 = q := by omega
      refine ⟨by rw [hq1]; unfold SR.kv SR.vv; rw [hgk, hgv]; exact p6, ⟨by rw [hdl, hgk]; exact k6, by rw [hdl, hgv]; exact v6, fun y hy => ?_, fun y hy => HS.out.apart y (delP_mem _ _ _ hy), ?_, by omega⟩, T6⟩
      · have hy := delP_mem _ _ _ hy
        exact (NV.touch (HS.out.nodes y hy) T6 (Nat.le_refl _) (fun g hg e => e.elim (hpp y hy g hg) (HS.out.apart y hy g hg))).more T6.size
      · exact List.Pairwise.sublist ((delP_sub ps i).map _) HS.out.rise
    have HF := Lib.hid hfin
    clear o5 gr5 t5 t6 p5 k5 p6 k6 v6 T6 hfin c3 f3 c4 f4
    go_wp2
    go_ret
    refine .inr ⟨HT.out, rfl, ?_⟩
    rw [HI.out]
    exact HF.out
end Go.Proofs.YtigdcmfmaehjfaaGreat

-- Round: A region that draws its order, within a round of a range over a function: what holds of it outside every fence holds there, where it bears no defer statement. No statement of the program is proved here.
namespace Go.Proofs.YtigdcmfmaehjfaaGreat
set_option linter.unusedVariables false
section
variable {n r : Nat} {P : Program} {ops : Array Oper} {md : Region.Mode}
theorem rows_round {row : String} {args : Array Value} {w : World} {R : Value → World → Prop} (h : Rows P row args w R) : RowsIn (Fence.wide.inRound r) n P row args w R :=
  fun c cs _ => let ⟨v, w', k, s⟩ := h c cs; ⟨v, w', k, stepsIn_wide.2 s⟩
theorem op_round {o : Oper} {a : Act} {K : Act → World → Prop} {Q : Exit → Act → World → Prop} {w : World} (hc : calm o = true) (h : o.wp P a w K Q) : o.wpIn (Fence.wide.inRound r) n P a w K Q := by
  refine ⟨fun _ _ => trivial, ?_⟩
  have hs : o.semAt (Fence.wide.inRound r).round a.eval = execOp a.eval o := calm_sem hc _
  rw [hs]
  unfold Oper.wp at h
  generalize (execOp a.eval o).run P w = x at h
  cases x with
  | ok y w' =>
    cases y with
    | value v => exact h
    | skip => exact h
    | defer d => exact h
    | enter f args => exact ⟨fun hd => by simp [Fence.inRound, Fence.wide] at hd, CallsIn.inRound r (callsIn_wide.2 h)⟩
    | row row args => exact ⟨fun hd => by simp [Fence.inRound, Fence.wide] at hd, rows_round h⟩
    | _ => exact h.elim
  | halt y w' =>
    cases y <;> exact h
theorem any_round {Q : Exit → Act → World → Prop} (hc : ops.all calm = true) (hQ : ¬ LetsOut Q) (fuel : Nat) :
    ∀ (listed : Array Bool) (a : Act) (w : World), wpAny P md ops Q fuel listed a w → wpAnyIn (Fence.wide.inRound r) n P md ops Q fuel listed a w := by
  induction fuel with
  | zero => exact fun _ _ _ h => h
  | succ m ih =>
    intro listed a w h
    refine ⟨h.1, fun i hi => ?_⟩
    have step := h.2 i hi
    simp only [wpOp] at step
    simp only [wpOpIn]
    cases e : ops[i]? with
    | none => simp only [e] at step; exact ih _ _ _ step
    | some o =>
      simp only [e] at step
      have co : calm o = true := by
        obtain ⟨l, eo⟩ := Array.getElem?_eq_some_iff.1 e
        exact eo ▸ Array.all_eq_true.1 hc i l
      by_cases wanted : Region.wanted o (yielded ops a.tmps) = true
      · simp only [wanted, if_true] at step ⊢
        rcases step with step | ⟨_, step⟩
        · exact Oper.wpIn_mono (fun a w => ih _ a w) (op_round co step)
        · exact absurd step hQ
      · simp only [wanted] at step ⊢
        exact ⟨fun _ _ => trivial, ih _ _ _ step⟩
theorem region_round {id : Nat} {Q : Exit → Act → World → Prop} {a : Act} {w : World} (hm : P.follows .mixedOrders = true) (hc : ops.all calm = true) (hQ : ¬ LetsOut Q)
    (h : wpAny P .any ops Q ops.size (Array.replicate ops.size false) a w.drew) : (Code.region id ops true).wpIn (Fence.wide.inRound r) n P Q a w :=
  wpIn_region_any hm (any_round hc hQ _ _ _ _ h)
end
end Go.Proofs.YtigdcmfmaehjfaaGreat

-- NodeY: The bytes of a node, as the program writes them: a row of the call's own.
namespace Go.Proofs.YtigdcmfmaehjfaaGreat
set_option maxRecDepth 20000
set_option linter.unusedSimpArgs false
open Go.RowKit

theorem kidsOk_mem' (ks : List (Int × Int)) {kind path val} (h : nodeOk ⟨kind, path, ks, val⟩ = true) (k : Int × Int) (hk : k ∈ ks) : 1 ≤ k.2 := by
  unfold nodeOk at h
  simp only [Bool.and_eq_true] at h
  have h2 := h.1.1.2
  unfold kidsOk at h2
  obtain ⟨i, hi, rfl⟩ := List.getElem_of_mem hk
  have := (of_decide_eq_true h2 i hi).2.1
  rw [List.getElem?_eq_getElem hi] at this
  exact this

theorem shown_any (k : Int) (w : World) :
    Calls Tryz.prog 160 #[.int .i64 k] w fun e w' => e = .returned (.int .u8 (k % 256)) ∧ w' = w := by
  go_enter Tryz.func160, Tryz.ntmps160
  go_wp2
  go_ret
  exact ⟨rfl, rfl⟩

theorem strCells_sb (s : ByteArray) : Lib.strCells s = (sb s).map (Value.int .u8) := by
  apply List.ext_getElem?
  intro i
  by_cases h : i < s.size
  · have e := sb_at s i h
    have hl : i < (sb s).length := by rw [sb_len]; exact h
    have h2 : i < s.data.size := h
    rw [List.getElem?_eq_getElem hl] at e
    simp [Lib.strCells, hl, h2]
    simp at e
    rw [e]
    exact ⟨_, Array.getElem?_eq_getElem h2, rfl⟩
  · rw [List.getElem?_eq_none (by rw [Lib.strCells_length]; omega), List.getElem?_eq_none (by rw [List.length_map, sb_len]; omega)]

theorem bytes_some (x : Int) (hx : 0 ≤ x) (w : World) :
    Calls Tryz.prog 161 #[.int .i64 x] w fun e w' => ∃ g n c, e = .returned (.slice (some ⟨g, 0, none⟩) n c) ∧ Mine w' w.heap.size (some ⟨g, 0, none⟩) n c (nameBytes x) ∧ Below w.heap.size w w' := by
  refine (bytes_any x w).mono ?_
  rintro e w' ⟨A, n, c, rfl, hm, hb⟩
  have hl := hm.len
  rw [nameBytes_yes x (by omega), nb_len] at hl
  obtain ⟨g, rfl, _⟩ := hm.form (by omega)
  exact ⟨g, n, c, rfl, hm, hb⟩

set_option maxHeartbeats 2000000 in      -- one walk, two loops and three appends between them
theorem implNodeBytes_any (v : Value) (nd : MNode) (B : Nat) (w : World) (hB : B ≤ w.heap.size) (hv : NodeIn w B v nd) :
    Calls Tryz.prog 122 #[v] w fun e w' => ∃ A n c, e = .returned (.slice A n c) ∧ Mine w' w.heap.size A n c (nodeBytes nd) ∧ Below w.heap.size w w' := by
  have HV := Lib.hid (hv.more hB)
  obtain ⟨Ap, np, cp, Ak, nk, ck, rfl, hnp, hnk, hsz, hp, hk⟩ := hv
  obtain ⟨kind, path, kids, val⟩ := nd
  have HP := Lib.hid (hp.more hB)
  have HK := Lib.hid (hk.more hB)
  have LP : Hid (path.length = np) := HP.out.1
  have LK : Hid (kids.length = nk) := HK.out.1
  clear hp hk
  obtain ⟨wa, hwa⟩ : ∃ wa, w.alloc (.cells #[.int .i64 kind, .slice Ap np cp, .slice Ak nk ck, .string val] 96) = wa := ⟨_, rfl⟩
  have xa : Box wa w.heap.size _ _ := hwa ▸ heap_alloc_new _ _
  have ba : Below w.heap.size w wa := hwa ▸ (Below.refl _ _).alloc (Nat.le_refl _) _
  have sa : w.heap.size < wa.heap.size := hwa ▸ by simp
  have XA := Lib.hid xa
  have BA := Lib.hid ba
  have HW := Lib.hid hwa
  clear xa ba hwa
  go_enter Tryz.func122, Tryz.ntmps122
  go_wp2_with fail
  rw [HW.out]
  refine (progNodeOk_any _ ⟨kind, path, kids, val⟩ _ wa (by omega) (HV.out.below BA.out)).mono ?_
  rintro e wb ⟨rfl, bb⟩
  have XB := Lib.hid (XA.out.below bb sa)
  have BB := Lib.hid (BA.out.trans (bb.mono (by omega)))
  have sb0 : w.heap.size < wb.heap.size := by have := bb.size; omega
  clear bb
  by_cases hok : nodeOk ⟨kind, path, kids, val⟩ = true
  · have hr := Lib.hid (show nodeBytes ⟨kind, path, kids, val⟩ = rawBytes ⟨kind, path, kids, val⟩ from if_pos hok)
    have HKM := Lib.hid (fun k (hk : k ∈ kids) => kidsOk_mem' kids hok k hk)
    rw [hok]
    have q0 := XB.out.cell 0
    have q1 := XB.out.cell 1
    have q2 := XB.out.cell 2
    have q3 := XB.out.cell 3
    simp at q0 q1 q2 q3
    obtain ⟨i0, hi, hz0, hz1, hz2⟩ := info_parts Tryz.info5
    have HI := Lib.hid hi
    have HZ0 := Lib.hid hz0
    have HZ1 := Lib.hid hz1
    have HZ2 := Lib.hid hz2
    clear hi hz0 hz1 hz2
    go_wp2
    refine wp_region_still_tail 7 (by kernel_rfl) (by kernel_rfl) ?_
    simp only [List.take_succ_cons, List.take_zero, List.drop_succ_cons, List.drop_zero]
    still_step
    still_step
    still_call (shown_any kind _)
    repeat still_step
    refine wpStill_nil ?_
    change wpList _ _ _ _ _ wb.drew
    have x1 : Box wb.drew w.heap.size _ _ := XB.out.below ((Below.refl wb.heap.size wb).drew) XB.out.lt
    have b1 : Below w.heap.size w wb.drew := BB.out.drew
    have s1 : wb.drew.heap.size = wb.heap.size := rfl
    obtain ⟨w1, hw1⟩ : ∃ w1, wb.drew = w1 := ⟨_, rfl⟩
    rw [hw1] at x1 b1 s1 ⊢
    obtain ⟨z, hz⟩ : ∃ z, w1.heap.size = z := ⟨_, rfl⟩
    have hzw : w.heap.size < z := by omega
    have X1 := Lib.hid x1
    have B1 := Lib.hid b1
    clear x1 b1 hw1 q0 q1 q2 q3 s1
    have m0 := Mine.of_alloc w1 z [kind % 256, (np : Int) % 256] 2 (by omega) rfl (by unfold maxLen; omega) (by intro z hz; simp at hz; omega)
    rw [hz] at m0
    have M0 := Lib.hid m0
    clear m0
    have X0 := Lib.hid (X1.out.below ((Below.refl w1.heap.size w1).alloc (Nat.le_refl _) (.cells #[.int .u8 (kind % 256), .int .u8 ((np : Int) % 256)] 5)) X1.out.lt)
    have q1 := X0.out.cell 1
    simp at q1
    go_wp2
    clear q1
    go_loopw [3, 22] (fun b i wr => ∃ k g n c : Nat, k ≤ np ∧ i = .int .i64 k ∧ b = .slice (some ⟨g, 0, none⟩) n c ∧ Mine wr z (some ⟨g, 0, none⟩) n c ([kind % 256, (np : Int) % 256] ++ (path.take k).map (· % 256)) ∧ Below z w1 wr) (fun _ i _ => np - (intOf i).toNat)
    case atStart => exact ⟨0, _, 2, 2, Nat.zero_le _, rfl, rfl, M0.out, (Below.refl _ _).alloc (by omega) _⟩
    case round =>
      obtain ⟨k, g, n, c, hk, rfl, rfl, hm, hbr⟩ := hrel
      have hlen := hm.len
      have XR := Lib.hid (X1.out.below hbr (by omega))
      have BR := Lib.hid hbr
      have BW := Lib.hid (B1.out.trans (hbr.mono (by omega)))
      have MR := Lib.hid hm
      clear hm hbr
      have sr := BR.out.size
      by_cases hlt : k < np
      · have hn : n = 2 + k := by
          have := LP.out
          simp at hlen; omega
        obtain ⟨b, off, rfl, hbB, hc⟩ := (HP.out.below BW.out).at_ hlt
        have hst := map_take_step (· % 256) path k (by rw [LP.out]; exact hlt)
        generalize path[k]?.getD 0 = y at hc hst
        have HST := Lib.hid hst
        clear hst
        go_wp2_with (at_builtin; refine wpList_append_lies _ rfl _ _ 47 rfl z 5 i0 (.int .u8 0) 1 1 Tryz.underlying47 HI.out HZ0.out HZ1.out HZ2.out rfl (by decide) _ _ _ rfl (MR.out.1.alloc _) ⟨wr.heap.size, 0, none⟩ 1 1 ([y % 256].map (Value.int .u8)) rfl ?a0 ?a1 ?a2 (by omega) ?a3 ?a4 ?a5 _ rfl ?_)
        case a0 => first | rfl | (simp; done) | simp [sb_len]
        case a1 =>
          intro j u hj
          match j, hj with
          | 0, hj => simp at hj; subst hj; simp [Addr.add]
        case a2 => intro u hu; obtain ⟨z, _, rfl⟩ := List.mem_map.1 hu; rfl
        case a3 => unfold maxLen; omega
        case a4 => omega
        case a5 => simp; omega
        intro g2 c2 w2 hown2 hgrow2 _ _
        have hm2 := MR.out.app (ys := [y % 256]) (by intro y hy; simp at hy; omega) (by simpa using hown2)
        have hb2 : Below z w1 w2 := (BR.out.alloc (by omega) _).grown hgrow2 (by simp; omega) (fun g hg => (MR.out.1.lt g hg).1)
        rw [List.append_assoc, ← HST.out] at hm2
        have M2 := Lib.hid hm2
        have B2 := Lib.hid hb2
        clear hm2 hb2 hown2 hgrow2
        go_wp2
        go_roundw
        case rel => exact ⟨k + 1, _, _, _, by omega, by go_num, rfl, M2.out, B2.out⟩
        case measure => simp [intOf]; omega
      · have hpt : path.take k = path := List.take_of_length_le (by rw [LP.out]; omega)
        rw [hpt] at MR
        have hn : n = 2 + np := by
          have h0 := MR.out.len
          have := LP.out
          simp at h0; omega
        have q3 := XR.out.cell 3
        simp at q3
        go_wp2_with (at_builtin; refine wpList_append_lies _ rfl _ _ 47 rfl z 5 i0 (.int .u8 0) 1 1 Tryz.underlying47 HI.out HZ0.out HZ1.out HZ2.out rfl (by decide) _ _ _ rfl (MR.out.1.alloc _) ⟨wr.heap.size, 0, none⟩ 1 1 ([(val.size : Int) % 256].map (Value.int .u8)) rfl ?d0 ?d1 ?d2 (by omega) ?d3 ?d4 ?d5 _ rfl ?_)
        case d0 => first | rfl | (simp; done) | simp [sb_len]
        case d1 =>
          intro j u hj
          match j, hj with
          | 0, hj => simp at hj; subst hj; simp [Addr.add]
        case d2 => intro u hu; obtain ⟨z, _, rfl⟩ := List.mem_map.1 hu; rfl
        case d3 => unfold maxLen; omega
        case d4 => omega
        case d5 => simp; omega
        intro g5 c5 w5 hown5 hgrow5 _ _
        have hm5 := MR.out.app (ys := [(val.size : Int) % 256]) (by intro y hy; simp at hy; omega) (by simpa using hown5)
        have hb5 : Below z w1 w5 := (BR.out.alloc (by omega) _).grown hgrow5 (by simp; omega) (fun g hg => (MR.out.1.lt g hg).1)
        have M5 := Lib.hid hm5
        have B5 := Lib.hid hb5
        clear hm5 hb5 hown5 hgrow5 q3
        have s5 := B5.out.size
        have X5 := Lib.hid (X1.out.below B5.out (by omega))
        have q3 := X5.out.cell 3
        simp at q3
        go_wp2_with (at_builtin; refine Lib.wpList_append_own_string _ rfl _ _ 47 9 rfl z 5 i0 Tryz.underlying47 Tryz.underlying9 HI.out HZ0.out HZ1.out HZ2.out _ _ _ rfl M5.out.1 val rfl ?e3 ?e4 ?e5 ?_)
        case e3 => unfold maxLen; omega
        case e4 => omega
        case e5 => omega
        intro v7 w7 hown7 hgrow7 hnil7
        rw [strCells_sb] at hown7
        have hv : ∃ g c, v7 = .slice (some ⟨g, 0, none⟩) (2 + np + 1 + val.size) c := by
          have h0 : v7 ≠ .slice none 0 0 := by simpa using hnil7
          rcases hown7.2 with ⟨e, _⟩ | ⟨g, cap, cur, e, _⟩
          · exact absurd e h0
          · exact ⟨g, cap, e⟩
        obtain ⟨g7, c7, rfl⟩ := hv
        have hm7 := M5.out.app (ys := sb val) (sb_bd val) (by simpa using hown7)
        have hb7 : Below z w1 w7 := B5.out.grown hgrow7 (by omega) (fun g hg => (M5.out.1.lt g hg).1)
        have M7 := Lib.hid hm7
        have B7 := Lib.hid hb7
        clear hm7 hb7 hown7 hgrow7 hnil7 q3
        have s7 := B7.out.size
        have X7 := Lib.hid (X1.out.below B7.out (by omega))
        have q2 := X7.out.cell 2
        simp at q2
        go_wp2_with (at_builtin; refine wpList_append_lies _ rfl _ _ 47 rfl z 5 i0 (.int .u8 0) 1 1 Tryz.underlying47 HI.out HZ0.out HZ1.out HZ2.out rfl (by decide) _ _ _ rfl (M7.out.1.alloc _) ⟨w7.heap.size, 0, none⟩ 1 1 ([(nk : Int) % 256].map (Value.int .u8)) rfl ?f0 ?f1 ?f2 (by omega) ?f3 ?f4 ?f5 _ rfl ?_)
        case f0 => first | rfl | (simp; done) | simp [sb_len]
        case f1 =>
          intro j u hj
          match j, hj with
          | 0, hj => simp at hj; subst hj; simp [Addr.add]
        case f2 => intro u hu; obtain ⟨z, _, rfl⟩ := List.mem_map.1 hu; rfl
        case f3 => unfold maxLen; omega
        case f4 => omega
        case f5 => simp; omega
        intro g8 c8 w8 hown8 hgrow8 _ _
        have hm8 := M7.out.app (ys := [(nk : Int) % 256]) (by intro y hy; simp at hy; omega) (by simpa using hown8)
        have hb8 : Below z w1 w8 := (B7.out.alloc (by omega) _).grown hgrow8 (by simp; omega) (fun g hg => (M7.out.1.lt g hg).1)
        generalize hpre : [kind % 256, (np : Int) % 256] ++ path.map (· % 256) ++ [(val.size : Int) % 256] ++ sb val ++ [(nk : Int) % 256] = pre at hm8
        have hplen : pre.length = 2 + np + 1 + val.size + 1 := hm8.len
        have HPRE := Lib.hid hpre
        have M8 := Lib.hid hm8
        have B8 := Lib.hid hb8
        clear hm8 hb8 hown8 hgrow8 q2 hpre
        have s8 := B8.out.size
        have X8 := Lib.hid (X1.out.below B8.out (by omega))
        have q2 := X8.out.cell 2
        simp at q2
        go_wp2
        clear q2
        go_loopw [3, 53] (fun b i wr => ∃ k g n c : Nat, k ≤ nk ∧ i = .int .i64 k ∧ b = .slice (some ⟨g, 0, none⟩) n c ∧ Mine wr z (some ⟨g, 0, none⟩) n c (pre ++ (kids.take k).flatMap kidBytes) ∧ Below z w1 wr) (fun _ i _ => nk - (intOf i).toNat)
        case atStart => exact ⟨0, _, _, _, Nat.zero_le _, rfl, rfl, by simpa using M8.out, B8.out⟩
        case round =>
          obtain ⟨k, g, n, c, hk, rfl, rfl, hm, hbr⟩ := hrel
          have hlen := hm.len
          have BR := Lib.hid hbr
          have BW := Lib.hid (B1.out.trans (hbr.mono (by omega)))
          have MR := Lib.hid hm
          clear hm hbr
          have sr := BR.out.size
          have hn : n ≤ 20000000 := by
            have h1 := kidBytes_len (kids.take k)
            have h2 : (kids.take k).length ≤ nk := by rw [List.length_take, LK.out]; omega
            rw [List.length_append] at hlen
            omega
          clear hlen
          by_cases hlt : k < nk
          · have hst : (kids.take (k + 1)).flatMap kidBytes = (kids.take k).flatMap kidBytes ++ kidBytes (kids[k]?.getD (0, 0)) := by
              rw [List.take_succ_eq_append_getElem (by rw [LK.out]; exact hlt), List.flatMap_append, List.getElem?_eq_getElem (by rw [LK.out]; exact hlt)]
              simp
            have hx1 : 1 ≤ (kids[k]?.getD (0, 0)).2 := by
              rw [List.getElem?_eq_getElem (by rw [LK.out]; exact hlt)]
              exact HKM.out _ (List.getElem_mem _)
            obtain ⟨b, off, rfl, hbB, h0, h1⟩ := (HK.out.below BW.out).at_ hlt
            generalize kids[k]?.getD (0, 0) = x at h0 h1 hst hx1
            have HST := Lib.hid hst
            clear hst
            obtain ⟨wk, hwk⟩ : ∃ wk, wr.alloc (.cells #[.int .i64 x.1, .int .i64 x.2] 105) = wk := ⟨_, rfl⟩
            have xk : Box wk wr.heap.size _ _ := hwk ▸ heap_alloc_new _ _
            have bk : Below wr.heap.size wr wk := hwk ▸ (Below.refl _ _).alloc (Nat.le_refl _) _
            have sk : wr.heap.size < wk.heap.size := hwk ▸ by simp
            have XK := Lib.hid xk
            have MK := Lib.hid (MR.out.below bk)
            have BK := Lib.hid (BR.out.trans (bk.mono (by omega)))
            have hgk : g < wr.heap.size := (MR.out.1.lt g rfl).2
            clear xk bk
            have p0 := XK.out.cell 0
            have p1 := XK.out.cell 1
            simp at p0 p1
            go_wp2_with (at_builtin; refine wpList_append_lies _ rfl _ _ 47 rfl z 5 i0 (.int .u8 0) 1 1 Tryz.underlying47 HI.out HZ0.out HZ1.out HZ2.out rfl (by decide) _ _ _ rfl (MK.out.1.alloc _) ⟨wk.heap.size, 0, none⟩ 1 1 ([x.1 % 256].map (Value.int .u8)) rfl ?g0 ?g1 ?g2 (by omega) ?g3 ?g4 ?g5 _ rfl ?_)
            case g0 => first | rfl | (simp; done) | simp [sb_len]
            case g1 =>
              intro j u hj
              match j, hj with
              | 0, hj => simp at hj; subst hj; simp [Addr.add]
            case g2 => intro u hu; obtain ⟨z, _, rfl⟩ := List.mem_map.1 hu; rfl
            case g3 => unfold maxLen; omega
            case g4 => omega
            case g5 => simp; omega
            intro g2 c2 w2 hown2 hgrow2 _ _
            have hm2 := MK.out.app (ys := [x.1 % 256]) (by intro y hy; simp at hy; omega) (by simpa using hown2)
            have hb2 : Below z w1 w2 := (BK.out.alloc (by omega) _).grown hgrow2 (by simp; omega) (fun g hg => (MK.out.1.lt g hg).1)
            have xk2 : Box w2 wr.heap.size _ _ := (XK.out.below ((Below.refl wk.heap.size wk).alloc (Nat.le_refl _) _) sk).grown hgrow2 (by simp [Value.ownBlock]; omega)
            have XK := Lib.hid xk2
            have M2 := Lib.hid hm2
            have B2 := Lib.hid hb2
            clear hm2 hb2 hown2 hgrow2 p0 p1 h0 h1 hwk xk2
            have s2 := B2.out.size
            have p0 := XK.out.cell 0
            have p1 := XK.out.cell 1
            simp at p0 p1
            go_wp2_with fail
            refine (bytes_some x.2 (by omega) _).mono ?_
            rintro e w3 ⟨g3, n3, c3, rfl, m3, b3⟩
            have hn3 : n3 ≤ 8 := by have := nameBytes_len8 x.2; have := m3.len; omega
            have M3 := Lib.hid m3
            have M2 := Lib.hid (M2.out.below b3)
            have B3 := Lib.hid (B2.out.trans (b3.mono (by omega)))
            clear m3 b3 p0 p1
            have s3 := B3.out.size
            go_wp2_with (at_builtin; refine wpList_append_own _ rfl _ _ 47 rfl z 5 i0 (.int .u8 0) 1 1 Tryz.underlying47 HI.out HZ0.out HZ1.out HZ2.out rfl (by decide) _ _ _ rfl M2.out.1 ⟨g3, 0, none⟩ n3 _ ((nameBytes x.2).map (Value.int .u8)) rfl ?h0 ?h1 ?h2 ?h3 ?h4 ?h5 ?_)
            case h0 => rw [List.length_map, Nat.mul_one]; first | rfl | exact sb_len _ | exact M3.out.len
            case h1 => exact World.ownsRow.cells M3.out.1 rfl
            case h2 => intro u hu; obtain ⟨z, _, rfl⟩ := List.mem_map.1 hu; rfl
            case h3 => unfold maxLen; omega
            case h4 => omega
            case h5 => omega
            intro v4 w4 hown4 hgrow4 hnil4
            have hv : ∃ g c, v4 = .slice (some ⟨g, 0, none⟩) (n + 1 + n3) c := by
              rcases hown4.2 with ⟨e, _⟩ | ⟨g, cap, cur, e, _⟩
              · exact absurd e hnil4
              · exact ⟨g, cap, e⟩
            obtain ⟨g4, c4, rfl⟩ := hv
            have hm4 := M2.out.app (ys := nameBytes x.2) M3.out.2 (by simpa using hown4)
            have hb4 : Below z w1 w4 := B3.out.grown hgrow4 (by omega) (fun g hg => (M2.out.1.lt g hg).1)
            have he : pre ++ (kids.take k).flatMap kidBytes ++ [x.1 % 256] ++ nameBytes x.2 = pre ++ (kids.take (k + 1)).flatMap kidBytes := by
              rw [HST.out]; simp [kidBytes]
            rw [he] at hm4
            have M4 := Lib.hid hm4
            have B4 := Lib.hid hb4
            clear hm4 hb4 hown4 hgrow4 hnil4 he
            go_wp2
            go_roundw
            case rel => exact ⟨k + 1, _, _, _, by omega, by go_num, rfl, M4.out, B4.out⟩
            case measure => simp [intOf]; omega
          · have hkt : kids.take k = kids := List.take_of_length_le (by rw [LK.out]; omega)
            rw [hkt] at MR
            go_wp2
            go_ret
            refine ⟨_, n, c, rfl, ?_, BW.out⟩
            have hrw : rawBytes ⟨kind, path, kids, val⟩ = pre ++ kids.flatMap kidBytes := by
              unfold rawBytes
              rw [← HPRE.out]
              simp only [LP.out, LK.out]
            rw [hr.out, hrw]
            exact MR.out.base (by omega)
  · have hr := Lib.hid (show nodeBytes ⟨kind, path, kids, val⟩ = [] from if_neg hok)
    have hok : nodeOk ⟨kind, path, kids, val⟩ = false := by simpa using hok
    rw [hok]
    go_wp2
    go_ret
    exact ⟨none, 0, 0, rfl, by rw [hr.out]; exact Mine.nil _ _, BB.out⟩
end Go.Proofs.YtigdcmfmaehjfaaGreat

-- CellsOf: What the program makes of its list of nodes: cells.
namespace Go.Proofs.YtigdcmfmaehjfaaGreat
set_option maxRecDepth 20000
set_option linter.unusedVariables false
set_option linter.unusedSimpArgs false
open Go.RowKit Go.Shelf
attribute [local go_sem] Oper.semAt_some

def cellAt (ps : List (Int × NV)) (k : Nat) : Int × List Int := ((pAt ps k).1, nodeBytes (pAt ps k).2.nd)
/-- the cells of a list. -/
def cellsL (ps : List (Int × NV)) : List (Int × List Int) := ps.map fun p => (p.1, nodeBytes p.2.nd)
theorem cells_range (ps : List (Int × NV)) : (List.range ps.length).map (cellAt ps) = cellsL ps := by
  apply List.ext_getElem?
  intro i
  unfold cellsL cellAt pAt
  by_cases h : i < ps.length
  · simp [h]
  · simp [h]
theorem own_cells {w : World} {lo size n : Nat} {e : TypeId} {v : Value} {xs : List Value} (h : w.ownsRow lo e size v n xs) (g : Nat) (hg : v.ownBlock = some g) : ∃ cur z, w.heap[g]? = some (.cells cur e z) := by
  rcases h.2 with ⟨rfl, _⟩ | ⟨g', cap, cur, rfl, _, h2, _⟩
  · simp [Value.ownBlock] at hg
  · simp [Value.ownBlock] at hg
    subst hg
    exact ⟨_, _, h2⟩
/-- cells of the call's own abide the turn of what is no cells. -/
theorem OwnC.abide {X Y : World} {row : Option Nat} {lo n c : Nat} {A : Option Addr} {cs : List (Int × List Int)} (h : OwnC X lo X.heap.size A n c cs) (hg : X.grownBy Y row) (hr : ∀ r, row = some r → ∃ o : Obj, X.heap[r]? = some o ∧ o.isCells = false) : OwnC Y lo Y.heap.size A n c cs := by
  obtain ⟨hl, hu, sl, hrow, hs⟩ := h
  have t := Touch.of_grown hg
  have no : ∀ {size k : Nat} {e : TypeId} {v : Value} {xs : List Value}, X.ownsRow lo e size v k xs → ∀ g, v.ownBlock = some g → ¬ (some g = row) := fun ho g hv e => by
    obtain ⟨o, h1, h2⟩ := hr g e.symm
    obtain ⟨cur, z, h3⟩ := own_cells ho g hv
    rw [h1] at h3; cases h3; cases h2
  exact ⟨hl, fun b hb => Nat.lt_of_lt_of_le (hu b hb) hg.size, sl, own_touch hrow t (no hrow), fun i hi => (hs.mine i hi).touch t (no (hs.mine i hi).1), hs.apart, hs.other, fun i hi b hb => Nat.lt_of_lt_of_le (hs.under i hi b hb) hg.size⟩
theorem cells_push {W w1 w6 : World} {cb n₀ b0 q c n1 c1 g6 c6 : Nat} {A A1 : Option Addr} {cs : List (Int × List Int)} {bs : List Int} {m : Int} {sl : Nat → Sub} {C : Obj} (hcb : cb < n₀) (hb0 : b0 ≤ cb) (hW : n₀ ≤ W.heap.size)
    (bC : Boxed W cb 28 (.slice A q c)) (hl : cs.length = q) (hu : ∀ b, (Value.slice A q c).ownBlock = some b → b < W.heap.size) (hrow : W.ownsRow n₀ 99 2 (.slice A q c) q (cvs q cs sl)) (hs : Subs W n₀ W.heap.size (Value.slice A q c).ownBlock q cs sl)
    (b1 : Below W.heap.size W w1) (mx : Mine w1 W.heap.size A1 n1 c1 bs)
    (hr6 : w6.ownsRow n₀ 99 2 (.slice (some ⟨g6, 0, none⟩) (q + 1) c6) (q + 1) (cvs q cs sl ++ [.int .i64 m, .slice A1 n1 c1])) (hg6 : (w1.alloc C).grownBy w6 (Value.slice A q c).ownBlock)
    (hw6 : (Value.slice A q c).ownBlock = some g6 ∨ g6 = (w1.alloc C).heap.size) :
    Boxed w6 cb 28 (.slice A q c) ∧ (∀ B, KeepsFrom B W (w6.setCell ⟨cb, 0, none⟩ (.slice (some ⟨g6, 0, none⟩) (q + 1) c6))) ∧ KpB cb n₀ W (w6.setCell ⟨cb, 0, none⟩ (.slice (some ⟨g6, 0, none⟩) (q + 1) c6)) ∧
      Below b0 W (w6.setCell ⟨cb, 0, none⟩ (.slice (some ⟨g6, 0, none⟩) (q + 1) c6)) ∧ Boxed (w6.setCell ⟨cb, 0, none⟩ (.slice (some ⟨g6, 0, none⟩) (q + 1) c6)) cb 28 (.slice (some ⟨g6, 0, none⟩) (q + 1) c6) ∧
      OwnC (w6.setCell ⟨cb, 0, none⟩ (.slice (some ⟨g6, 0, none⟩) (q + 1) c6)) n₀ (w6.setCell ⟨cb, 0, none⟩ (.slice (some ⟨g6, 0, none⟩) (q + 1) c6)).heap.size (some ⟨g6, 0, none⟩) (q + 1) c6 (cs ++ [(m, bs)]) := by
  have s1 := b1.size
  have ba : Below w1.heap.size w1 (w1.alloc C) := (Below.refl _ _).alloc (Nat.le_refl _) _
  have b2 : Below W.heap.size W (w1.alloc C) := b1.trans (ba.mono s1)
  have s2 : (w1.alloc C).heap.size = w1.heap.size + 1 := by simp
  have t6 := Touch.of_grown hg6
  have s6 := hg6.size
  have hng : ∀ b, (Value.slice A q c).ownBlock = some b → n₀ ≤ b := fun b hb => (hrow.lt b hb).1
  have bC6 : Boxed w6 cb 28 (.slice A q c) := (t6.block cb (by have := bC.lt; omega) (fun e => by have := hng _ e.symm; omega)).trans ((b2.block cb bC.lt).trans bC)
  obtain ⟨w7, hw7⟩ : ∃ w7, w6.setCell ⟨cb, 0, none⟩ (.slice (some ⟨g6, 0, none⟩) (q + 1) c6) = w7 := ⟨_, rfl⟩
  have t7 : Touch (fun g => g = cb) w6 w7 := by rw [← hw7]; exact touch_set w6 cb 0 _ rfl
  have s7 := t7.size
  have bC7 : Boxed w7 cb 28 (.slice (some ⟨g6, 0, none⟩) (q + 1) c6) := by rw [← hw7]; exact bC6.set _
  have tt : Touch (fun g => g = cb ∨ (Value.slice A q c).ownBlock = some g) W w7 := ((Touch.of_below b2).trans (t6.mono (fun k hk => .inr hk.symm))).trans (t7.mono (fun k hk => .inl hk))
  have hs2 : Subs (w1.alloc C) n₀ W.heap.size (Value.slice A q c).ownBlock q cs sl := ⟨fun i hi => (hs.mine i hi).below b2, hs.apart, hs.other, hs.under⟩
  have o6 := OwnC.pushed hl hu hs2 ((mx.below ba).base hW) (fun b hb => (mx.1.lt b hb).1) hr6 hg6 hw6 (by omega) (Nat.le_refl _)
  have o7 : OwnC w7 n₀ w7.heap.size (some ⟨g6, 0, none⟩) (q + 1) c6 (cs ++ [(m, bs)]) := (o6.touch t7 (fun b h1 h2 e => by omega)).more s7
  rw [hw7]
  refine ⟨bC6, fun B => ⟨tt.size, fun k o hk ho hn => ?_⟩, ⟨tt.size, fun k hk hc => tt.block k (by omega) (fun e => e.elim hc (fun e => by have := hng _ e; omega))⟩, tt.below (by omega) (fun k hk e => e.elim (fun e => by omega) (fun e => by have := hng _ e; omega)), bC7, o7⟩
  refine (tt.block k (Array.getElem?_eq_some_iff.1 ho).1 (fun e => ?_)).trans ho
  rcases e with e | e
  · subst e
    rw [show W.heap[k]? = _ from bC] at ho; cases ho; cases hn
  · obtain ⟨cur, z, h3⟩ := own_cells hrow k e
    rw [h3] at ho; cases ho; cases hn
set_option maxHeartbeats 4000000 in
theorem cellsOf_any (lo : Nat) (R : SR) (ps : List (Int × NV)) (w : World) (hS : SLN w lo R ps) :
    Calls Tryz.prog 81 #[.agg #[R.kv ps.length, R.vv ps.length]] w fun e w' => ∃ A n c, e = .returned (.slice A n c) ∧ OwnC w' w.heap.size w'.heap.size A n c (cellsL ps) ∧ Below w.heap.size w w' := by
  have hlen := hS.len
  have HS := Lib.hid hS
  have hn0 : ∀ x, NodeIn w w.heap.size (pAt ps x).2.v (pAt ps x).2.nd := fun x => by
    by_cases h : x < ps.length
    · exact hS.nodes _ (pAt_mem ps x h)
    · have e : pAt ps x = (0, nv0) := by unfold pAt; rw [List.getElem?_eq_none (by omega)]; rfl
      rw [e]
      exact ⟨none, 0, 0, none, 0, 0, rfl, by omega, by omega, by decide, Ints.none_, Kids.none_⟩
  have HN := Lib.hid hn0
  clear hS hn0
  obtain ⟨i0, hi0, hz0, hz1, hz2⟩ := info_parts Tryz.infoC
  refine (callsIn_wide (n := 6)).1 ?_
  refine callsIn_of_wp_marks Tryz.func81 rfl trivial ?_ rfl
  simp only [Tryz.ntmps81, List.size_toArray, List.length_cons, List.length_nil, Nat.reduceAdd, Nat.reduceSub, Array.replicate_succ, Array.replicate_zero, List.push_toArray, List.append_toArray, List.nil_append, List.cons_append]
  gi_wp2_with (refine ⟨trivial, ?_⟩; gi_at_call 121; refine (callsIn_wide.2 (allN_any _ _)).mono ?_; rintro e w' ⟨rfl, rfl⟩)
  obtain ⟨W0, hW0⟩ : ∃ W0, ((w.alloc (.cells #[R.kv ps.length, R.vv ps.length] 62)).alloc (.cells #[.slice none 0 0] 28)).alloc (.cells #[.pointer (some ⟨w.heap.size, 0, none⟩)] 189) = W0 := ⟨_, rfl⟩
  have bR : Box W0 w.heap.size 62 #[R.kv ps.length, R.vv ps.length] := hW0 ▸ heap3_0 _ _ _ _
  have bC : Boxed W0 (w.heap.size + 1) 28 (.slice none 0 0) := hW0 ▸ heap3_1 _ _ _ _
  have bP : Box W0 (w.heap.size + 1 + 1) 189 #[.pointer (some ⟨w.heap.size, 0, none⟩)] := hW0 ▸ heap3_2 _ _ _ _
  have hsz : W0.heap.size = w.heap.size + 3 := hW0 ▸ size3 _ _ _ _
  have hB0 : Below w.heap.size w W0 := hW0 ▸ below3 _ _ _ _
  rw [hW0]
  clear hW0
  refine wpIn_rangeFunc_ownH rfl (by omega) (gf := 158) (lb := #[.pointer (some ⟨w.heap.size + 1 + 1, 0, none⟩)]) rfl trivial (enters_of Tryz.func158 (by kernel_rfl) rfl)
    (allN_stops 5 (by omega) (w.heap.size + 1 + 1) (w.heap.size + 3) (w.heap.size + 1) w.heap.size lo R ps W0 (by omega) bP (by omega) (by omega) bR (by omega) (by omega) (HS.out.below hB0) (fun g hg => by have := (HS.out.lt g hg).2; omega))
    (fun h k => h.trans k) (KpB.put (by omega)) (Below.refl _ _) (fun _ => rfl)
    (fun pre W => ∃ A q c, Boxed W (w.heap.size + 1) 28 (.slice A q c) ∧ OwnC W (w.heap.size + 3) W.heap.size A q c (pre.map (cellAt ps)) ∧ KpB (w.heap.size + 1) (w.heap.size + 3) W0 W ∧ Below w.heap.size w W)
    (fun _ _ _ => False)
    (fun pre X Y row hs hg hr => by
      obtain ⟨A, q, c, h1, h2, h3, h4⟩ := hs
      refine ⟨A, q, c, h1.kept hg (fun e => ?_), h2.abide hg (fun r e => (hr r e).2), h3.trans ⟨hg.size, fun k hk _ => hg.block k (by have := h3.1; omega) (fun e => by have := (hr k e.symm).1; omega)⟩, h4.grown hg (by have := h4.size; omega) (fun k e => by have := (hr k e).1; omega)⟩
      obtain ⟨_, o, ho, hc⟩ := hr _ e.symm
      rw [show X.heap[w.heap.size + 1]? = _ from h1] at ho; cases ho; cases hc)
    (fun _ _ _ _ _ hs _ _ => hs)
    ⟨none, 0, 0, bC, OwnC.nil _ _ _, KpB.refl _ _ _, hB0⟩
    (fun x a' W => ∃ Bx, w.heap.size + 1 + 1 < Bx ∧ Box W Bx 96 #[.int .i64 (pAt ps x).2.nd.kind, .slice (pAt ps x).2.Ap (pAt ps x).2.np (pAt ps x).2.cp, .slice (pAt ps x).2.Ak (pAt ps x).2.nk (pAt ps x).2.ck, .string (pAt ps x).2.nd.val] ∧ a' = { tmps := #[.agg #[R.kv ps.length, R.vv ps.length], .pointer (some ⟨w.heap.size, 0, none⟩), .slice none 0 0, .pointer (some ⟨w.heap.size + 1, 0, none⟩), .int .i64 (pAt ps x).1, .pointer (some ⟨Bx, 0, none⟩), .func (.func 158) #[] #[.pointer (some ⟨w.heap.size + 1 + 1, 0, none⟩)], .int .i64 (pAt ps x).1, .agg #[.int .i64 (pAt ps x).2.nd.kind, .slice (pAt ps x).2.Ap (pAt ps x).2.np (pAt ps x).2.cp, .slice (pAt ps x).2.Ak (pAt ps x).2.nk (pAt ps x).2.ck, .string (pAt ps x).2.nd.val], undef, undef, undef, undef, undef, undef, undef, undef], defers := [] })
    (fun x a' _ X Y row hs hg hr => by obtain ⟨Bx, h1, h2, h3⟩ := hs; exact ⟨Bx, h1, (hg.block Bx h2.lt (fun e => by obtain ⟨_, o, ho, hc⟩ := hr Bx e.symm; rw [show X.heap[Bx]? = _ from h2] at ho; cases ho; cases hc)).trans h2, h3⟩)
    ?assign ?body ?done ?stop
  case assign =>
    rintro l pre x W K ⟨A, q, c, h1, h2, h3, h4⟩ hK
    have hbx : w.heap.size + 3 ≤ W.heap.size := by have := h3.1; omega
    unfold encN NV.v
    gi_wp2
    exact hK _ _ ((KeepsOthers.alloc _ _).from _) ⟨by simp, fun k hk _ => ((Below.refl W.heap.size W).alloc (Nat.le_refl _) _).block k (by omega)⟩ ⟨A, q, c, h1.alloc _, (h2.below ((Below.refl _ _).alloc (Nat.le_refl _) _)).more (by simp), h3.trans ⟨by simp, fun k hk _ => ((Below.refl W.heap.size W).alloc (Nat.le_refl _) _).block k (by omega)⟩, h4.alloc (by omega) _⟩ ⟨W.heap.size, by omega, heap_alloc_new _ _, rfl⟩
  case body =>
    rintro l pre x a' W hl ⟨r, hr⟩ ⟨A, q, c, hbc, hoc, hkp, hbw⟩ ⟨Bx, hBx, xb, rfl⟩ hlt
    have hW3 : w.heap.size + 3 ≤ W.heap.size := by have := hkp.1; omega
    have c0 := hbc.cell
    have f0 := hbc.frozen
    have x0 := xb.cell 0
    have x1 := xb.cell 1
    have x2 := xb.cell 2
    have x3 := xb.cell 3
    have hlb := hbc.lt
    have hlx := xb.lt
    simp at x0 x1 x2 x3
    have BC := Lib.hid hbc
    have KP := Lib.hid hkp
    have BW := Lib.hid hbw
    have NX := Lib.hid (show NodeIn W.drew w.heap.size (pAt ps x).2.v (pAt ps x).2.nd from (HN.out x).below hbw.drew)
    have hql := hoc.len
    simp at hql
    obtain ⟨h1, h2, sl, h3, h4⟩ := hoc
    have HL := Lib.hid h1
    have HU := Lib.hid h2
    have HROW := Lib.hid h3
    have HSUB := Lib.hid h4
    clear h1 h2 h3 h4 hbc hkp hbw xb hr
    gi_wp2
    refine region_round (by kernel_rfl) (by kernel_rfl) (by rintro ⟨_, _, h⟩; exact h) ?_
    change wpAny _ _ _ _ _ _ _ _
    refine wpAny_take (i := 1) (v := ?tv) rfl (by kernel_rfl) (by kernel_rfl) (by kernel_rfl) (fun _ _ _ h => h) (Or.inl ⟨by rfl, ?ty⟩) ?tk
    case ty =>
      intro w
      go_simp
      try (with_reducible rfl)
    refine wpAny_ready (rs := [0, 2]) (by kernel_rfl) (by simp) ?_
    refine AllReady.cons rfl (fun K hK => ?_) ?_
    · go_simp
      refine hK _ _ ?_
      clear hK K
      refine wpAny_ready (rs := [2]) (by kernel_rfl) (by simp) ?_
      refine AllReady.cons rfl (fun K hK => ?_) AllReady.nil
      go_simp
      refine hK _ _ ?_
      clear hK K
      refine wpAny_ready (rs := [3]) (by kernel_rfl) (by simp) ?_
      refine AllReady.cons rfl (fun K hK => ?_) AllReady.nil
      go_simp
      refine (implNodeBytes_any _ _ w.heap.size W.drew (Nat.le_trans BW.out.size (Nat.le_refl _)) NX.out).mono ?_
      rintro e w1 ⟨A1, n1, c1, rfl, m1, b1⟩
      have b1 : Below W.heap.size W w1 := (show Below W.heap.size W W.drew from (Below.refl _ _).drew).trans b1
      have hs1 : W.heap.size ≤ w1.heap.size := b1.size
      have c1' : w1.cell? ⟨w.heap.size + 1, 0, none⟩ = some (.slice A q c) := (b1.cell (p := ⟨w.heap.size + 1, 0, none⟩) BC.out.lt).trans BC.out.cell
      have hlb1 : w.heap.size + 1 < w1.heap.size := by omega
      have B1 := Lib.hid b1
      have M1 := Lib.hid (show Mine w1 W.heap.size A1 n1 c1 (nodeBytes (pAt ps x).2.nd) from m1)
      clear b1 m1
      refine hK _ _ ?_
      clear hK K
      refine wpAny_ready (rs := [4]) (by kernel_rfl) (by simp) ?_
      refine AllReady.cons rfl (fun K hK => ?_) AllReady.nil
      go_simp
      refine hK _ _ ?_
      clear hK K
      refine wpAny_ready (rs := [5]) (by kernel_rfl) (by simp) ?_
      refine AllReady.cons rfl (fun K hK => ?_) AllReady.nil
      go_simp
      refine hK _ _ ?_
      clear hK K
      refine wpAny_ready (rs := [6]) (by kernel_rfl) (by simp) ?_
      refine AllReady.cons rfl (fun K hK => ?_) AllReady.nil
      refine step_append_lies _ rfl _ _ 28 rfl (w.heap.size + 3) 99 i0 (.agg #[.int .i64 0, .slice none 0 0]) 2 32 Tryz.underlying28 hi0 hz0 hz1 hz2 rfl (by decide) (.slice A q c) q (cvs q (pre.map (cellAt ps)) sl) (by simp [Act.eval]) (own_touch (S := fun _ => False) HROW.out (Touch.of_below (B1.out.trans (((Below.refl w1.heap.size w1).alloc (Nat.le_refl _) _).mono hs1))) (fun _ _ h => h)) ⟨w1.heap.size, 0, none⟩ 1 1 [.int .i64 (pAt ps x).1, .slice A1 n1 c1] (by simp [Act.eval]) rfl (by
          intro j u hj
          match j, hj with
          | 0, hj => simp at hj; subst hj; simp [Addr.add]
          | 1, hj => simp at hj; subst hj; simp [Addr.add]) (by intro u hu; simp at hu; rcases hu with rfl | rfl <;> rfl) (by omega) (by unfold maxLen; omega) (by omega) (by simp; omega) _ rfl ?_
      intro g6 c6 w6 hown6 hgrow6 hwh6 hlt6
      have PF := cells_push (W := W) (w1 := w1) (b0 := w.heap.size) (n₀ := w.heap.size + 3) (cb := w.heap.size + 1) (by omega) (by omega) hW3 BC.out HL.out HU.out HROW.out HSUB.out B1.out M1.out hown6 hgrow6 hwh6
      have q6 := PF.1.cell
      have f6 := PF.1.frozen
      have PF := Lib.hid PF.2
      clear hown6 hgrow6 hwh6 hlt6
      go_simp
      refine hK _ _ ?_
      clear hK K
      refine wpAny_ready (rs := [7]) (by kernel_rfl) (by simp) ?_
      refine AllReady.cons rfl (fun K hK => ?_) AllReady.nil
      go_simp
      refine hK _ _ ?_
      clear hK K
      refine wpAny_done (by kernel_rfl) ?_ _
      exact ⟨PF.out.1 _, PF.out.2.1, _, _, _, PF.out.2.2.2.1, by rw [List.map_append]; exact PF.out.2.2.2.2, KP.out.trans PF.out.2.1, BW.out.trans PF.out.2.2.1⟩
    refine AllReady.cons rfl (fun K hK => ?_) AllReady.nil
    go_simp
    refine hK _ _ ?_
    clear hK K
    refine wpAny_ready (rs := [0, 3]) (by kernel_rfl) (by simp) ?_
    refine AllReady.cons rfl (fun K hK => ?_) ?_
    · go_simp
      refine hK _ _ ?_
      clear hK K
      refine wpAny_ready (rs := [3]) (by kernel_rfl) (by simp) ?_
      refine AllReady.cons rfl (fun K hK => ?_) AllReady.nil
      go_simp
      refine (implNodeBytes_any _ _ w.heap.size W.drew (Nat.le_trans BW.out.size (Nat.le_refl _)) NX.out).mono ?_
      rintro e w1 ⟨A1, n1, c1, rfl, m1, b1⟩
      have b1 : Below W.heap.size W w1 := (show Below W.heap.size W W.drew from (Below.refl _ _).drew).trans b1
      have hs1 : W.heap.size ≤ w1.heap.size := b1.size
      have c1' : w1.cell? ⟨w.heap.size + 1, 0, none⟩ = some (.slice A q c) := (b1.cell (p := ⟨w.heap.size + 1, 0, none⟩) BC.out.lt).trans BC.out.cell
      have hlb1 : w.heap.size + 1 < w1.heap.size := by omega
      have B1 := Lib.hid b1
      have M1 := Lib.hid (show Mine w1 W.heap.size A1 n1 c1 (nodeBytes (pAt ps x).2.nd) from m1)
      clear b1 m1
      refine hK _ _ ?_
      clear hK K
      refine wpAny_ready (rs := [4]) (by kernel_rfl) (by simp) ?_
      refine AllReady.cons rfl (fun K hK => ?_) AllReady.nil
      go_simp
      refine hK _ _ ?_
      clear hK K
      refine wpAny_ready (rs := [5]) (by kernel_rfl) (by simp) ?_
      refine AllReady.cons rfl (fun K hK => ?_) AllReady.nil
      go_simp
      refine hK _ _ ?_
      clear hK K
      refine wpAny_ready (rs := [6]) (by kernel_rfl) (by simp) ?_
      refine AllReady.cons rfl (fun K hK => ?_) AllReady.nil
      refine step_append_lies _ rfl _ _ 28 rfl (w.heap.size + 3) 99 i0 (.agg #[.int .i64 0, .slice none 0 0]) 2 32 Tryz.underlying28 hi0 hz0 hz1 hz2 rfl (by decide) (.slice A q c) q (cvs q (pre.map (cellAt ps)) sl) (by simp [Act.eval]) (own_touch (S := fun _ => False) HROW.out (Touch.of_below (B1.out.trans (((Below.refl w1.heap.size w1).alloc (Nat.le_refl _) _).mono hs1))) (fun _ _ h => h)) ⟨w1.heap.size, 0, none⟩ 1 1 [.int .i64 (pAt ps x).1, .slice A1 n1 c1] (by simp [Act.eval]) rfl (by
          intro j u hj
          match j, hj with
          | 0, hj => simp at hj; subst hj; simp [Addr.add]
          | 1, hj => simp at hj; subst hj; simp [Addr.add]) (by intro u hu; simp at hu; rcases hu with rfl | rfl <;> rfl) (by omega) (by unfold maxLen; omega) (by omega) (by simp; omega) _ rfl ?_
      intro g6 c6 w6 hown6 hgrow6 hwh6 hlt6
      have PF := cells_push (W := W) (w1 := w1) (b0 := w.heap.size) (n₀ := w.heap.size + 3) (cb := w.heap.size + 1) (by omega) (by omega) hW3 BC.out HL.out HU.out HROW.out HSUB.out B1.out M1.out hown6 hgrow6 hwh6
      have q6 := PF.1.cell
      have f6 := PF.1.frozen
      have PF := Lib.hid PF.2
      clear hown6 hgrow6 hwh6 hlt6
      go_simp
      refine hK _ _ ?_
      clear hK K
      refine wpAny_ready (rs := [7]) (by kernel_rfl) (by simp) ?_
      refine AllReady.cons rfl (fun K hK => ?_) AllReady.nil
      go_simp
      refine hK _ _ ?_
      clear hK K
      refine wpAny_done (by kernel_rfl) ?_ _
      exact ⟨PF.out.1 _, PF.out.2.1, _, _, _, PF.out.2.2.2.1, by rw [List.map_append]; exact PF.out.2.2.2.2, KP.out.trans PF.out.2.1, BW.out.trans PF.out.2.2.1⟩
    refine AllReady.cons rfl (fun K hK => ?_) AllReady.nil
    go_simp
    refine (implNodeBytes_any _ _ w.heap.size W.drew (Nat.le_trans BW.out.size (Nat.le_refl _)) NX.out).mono ?_
    rintro e w1 ⟨A1, n1, c1, rfl, m1, b1⟩
    have b1 : Below W.heap.size W w1 := (show Below W.heap.size W W.drew from (Below.refl _ _).drew).trans b1
    have hs1 : W.heap.size ≤ w1.heap.size := b1.size
    have c1' : w1.cell? ⟨w.heap.size + 1, 0, none⟩ = some (.slice A q c) := (b1.cell (p := ⟨w.heap.size + 1, 0, none⟩) BC.out.lt).trans BC.out.cell
    have hlb1 : w.heap.size + 1 < w1.heap.size := by omega
    have B1 := Lib.hid b1
    have M1 := Lib.hid (show Mine w1 W.heap.size A1 n1 c1 (nodeBytes (pAt ps x).2.nd) from m1)
    clear b1 m1
    refine hK _ _ ?_
    clear hK K
    refine wpAny_ready (rs := [0, 4]) (by kernel_rfl) (by simp) ?_
    refine AllReady.cons rfl (fun K hK => ?_) ?_
    · go_simp
      refine hK _ _ ?_
      clear hK K
      refine wpAny_ready (rs := [4]) (by kernel_rfl) (by simp) ?_
      refine AllReady.cons rfl (fun K hK => ?_) AllReady.nil
      go_simp
      refine hK _ _ ?_
      clear hK K
      refine wpAny_ready (rs := [5]) (by kernel_rfl) (by simp) ?_
      refine AllReady.cons rfl (fun K hK => ?_) AllReady.nil
      go_simp
      refine hK _ _ ?_
      clear hK K
      refine wpAny_ready (rs := [6]) (by kernel_rfl) (by simp) ?_
      refine AllReady.cons rfl (fun K hK => ?_) AllReady.nil
      refine step_append_lies _ rfl _ _ 28 rfl (w.heap.size + 3) 99 i0 (.agg #[.int .i64 0, .slice none 0 0]) 2 32 Tryz.underlying28 hi0 hz0 hz1 hz2 rfl (by decide) (.slice A q c) q (cvs q (pre.map (cellAt ps)) sl) (by simp [Act.eval]) (own_touch (S := fun _ => False) HROW.out (Touch.of_below (B1.out.trans (((Below.refl w1.heap.size w1).alloc (Nat.le_refl _) _).mono hs1))) (fun _ _ h => h)) ⟨w1.heap.size, 0, none⟩ 1 1 [.int .i64 (pAt ps x).1, .slice A1 n1 c1] (by simp [Act.eval]) rfl (by
          intro j u hj
          match j, hj with
          | 0, hj => simp at hj; subst hj; simp [Addr.add]
          | 1, hj => simp at hj; subst hj; simp [Addr.add]) (by intro u hu; simp at hu; rcases hu with rfl | rfl <;> rfl) (by omega) (by unfold maxLen; omega) (by omega) (by simp; omega) _ rfl ?_
      intro g6 c6 w6 hown6 hgrow6 hwh6 hlt6
      have PF := cells_push (W := W) (w1 := w1) (b0 := w.heap.size) (n₀ := w.heap.size + 3) (cb := w.heap.size + 1) (by omega) (by omega) hW3 BC.out HL.out HU.out HROW.out HSUB.out B1.out M1.out hown6 hgrow6 hwh6
      have q6 := PF.1.cell
      have f6 := PF.1.frozen
      have PF := Lib.hid PF.2
      clear hown6 hgrow6 hwh6 hlt6
      go_simp
      refine hK _ _ ?_
      clear hK K
      refine wpAny_ready (rs := [7]) (by kernel_rfl) (by simp) ?_
      refine AllReady.cons rfl (fun K hK => ?_) AllReady.nil
      go_simp
      refine hK _ _ ?_
      clear hK K
      refine wpAny_done (by kernel_rfl) ?_ _
      exact ⟨PF.out.1 _, PF.out.2.1, _, _, _, PF.out.2.2.2.1, by rw [List.map_append]; exact PF.out.2.2.2.2, KP.out.trans PF.out.2.1, BW.out.trans PF.out.2.2.1⟩
    refine AllReady.cons rfl (fun K hK => ?_) AllReady.nil
    go_simp
    refine hK _ _ ?_
    clear hK K
    refine wpAny_ready (rs := [0, 5]) (by kernel_rfl) (by simp) ?_
    refine AllReady.cons rfl (fun K hK => ?_) ?_
    · go_simp
      refine hK _ _ ?_
      clear hK K
      refine wpAny_ready (rs := [5]) (by kernel_rfl) (by simp) ?_
      refine AllReady.cons rfl (fun K hK => ?_) AllReady.nil
      go_simp
      refine hK _ _ ?_
      clear hK K
      refine wpAny_ready (rs := [6]) (by kernel_rfl) (by simp) ?_
      refine AllReady.cons rfl (fun K hK => ?_) AllReady.nil
      refine step_append_lies _ rfl _ _ 28 rfl (w.heap.size + 3) 99 i0 (.agg #[.int .i64 0, .slice none 0 0]) 2 32 Tryz.underlying28 hi0 hz0 hz1 hz2 rfl (by decide) (.slice A q c) q (cvs q (pre.map (cellAt ps)) sl) (by simp [Act.eval]) (own_touch (S := fun _ => False) HROW.out (Touch.of_below (B1.out.trans (((Below.refl w1.heap.size w1).alloc (Nat.le_refl _) _).mono hs1))) (fun _ _ h => h)) ⟨w1.heap.size, 0, none⟩ 1 1 [.int .i64 (pAt ps x).1, .slice A1 n1 c1] (by simp [Act.eval]) rfl (by
          intro j u hj
          match j, hj with
          | 0, hj => simp at hj; subst hj; simp [Addr.add]
          | 1, hj => simp at hj; subst hj; simp [Addr.add]) (by intro u hu; simp at hu; rcases hu with rfl | rfl <;> rfl) (by omega) (by unfold maxLen; omega) (by omega) (by simp; omega) _ rfl ?_
      intro g6 c6 w6 hown6 hgrow6 hwh6 hlt6
      have PF := cells_push (W := W) (w1 := w1) (b0 := w.heap.size) (n₀ := w.heap.size + 3) (cb := w.heap.size + 1) (by omega) (by omega) hW3 BC.out HL.out HU.out HROW.out HSUB.out B1.out M1.out hown6 hgrow6 hwh6
      have q6 := PF.1.cell
      have f6 := PF.1.frozen
      have PF := Lib.hid PF.2
      clear hown6 hgrow6 hwh6 hlt6
      go_simp
      refine hK _ _ ?_
      clear hK K
      refine wpAny_ready (rs := [7]) (by kernel_rfl) (by simp) ?_
      refine AllReady.cons rfl (fun K hK => ?_) AllReady.nil
      go_simp
      refine hK _ _ ?_
      clear hK K
      refine wpAny_done (by kernel_rfl) ?_ _
      exact ⟨PF.out.1 _, PF.out.2.1, _, _, _, PF.out.2.2.2.1, by rw [List.map_append]; exact PF.out.2.2.2.2, KP.out.trans PF.out.2.1, BW.out.trans PF.out.2.2.1⟩
    refine AllReady.cons rfl (fun K hK => ?_) AllReady.nil
    go_simp
    refine hK _ _ ?_
    clear hK K
    refine wpAny_ready (rs := [0]) (by kernel_rfl) (by simp) ?_
    refine AllReady.cons rfl (fun K hK => ?_) AllReady.nil
    go_simp
    refine hK _ _ ?_
    clear hK K
    refine wpAny_ready (rs := [6]) (by kernel_rfl) (by simp) ?_
    refine AllReady.cons rfl (fun K hK => ?_) AllReady.nil
    refine step_append_lies _ rfl _ _ 28 rfl (w.heap.size + 3) 99 i0 (.agg #[.int .i64 0, .slice none 0 0]) 2 32 Tryz.underlying28 hi0 hz0 hz1 hz2 rfl (by decide) (.slice A q c) q (cvs q (pre.map (cellAt ps)) sl) (by simp [Act.eval]) (own_touch (S := fun _ => False) HROW.out (Touch.of_below (B1.out.trans (((Below.refl w1.heap.size w1).alloc (Nat.le_refl _) _).mono hs1))) (fun _ _ h => h)) ⟨w1.heap.size, 0, none⟩ 1 1 [.int .i64 (pAt ps x).1, .slice A1 n1 c1] (by simp [Act.eval]) rfl (by
        intro j u hj
        match j, hj with
        | 0, hj => simp at hj; subst hj; simp [Addr.add]
        | 1, hj => simp at hj; subst hj; simp [Addr.add]) (by intro u hu; simp at hu; rcases hu with rfl | rfl <;> rfl) (by omega) (by unfold maxLen; omega) (by omega) (by simp; omega) _ rfl ?_
    intro g6 c6 w6 hown6 hgrow6 hwh6 hlt6
    have PF := cells_push (W := W) (w1 := w1) (b0 := w.heap.size) (n₀ := w.heap.size + 3) (cb := w.heap.size + 1) (by omega) (by omega) hW3 BC.out HL.out HU.out HROW.out HSUB.out B1.out M1.out hown6 hgrow6 hwh6
    have q6 := PF.1.cell
    have f6 := PF.1.frozen
    have PF := Lib.hid PF.2
    clear hown6 hgrow6 hwh6 hlt6
    go_simp
    refine hK _ _ ?_
    clear hK K
    refine wpAny_ready (rs := [7]) (by kernel_rfl) (by simp) ?_
    refine AllReady.cons rfl (fun K hK => ?_) AllReady.nil
    go_simp
    refine hK _ _ ?_
    clear hK K
    refine wpAny_done (by kernel_rfl) ?_ _
    exact ⟨PF.out.1 _, PF.out.2.1, _, _, _, PF.out.2.2.2.1, by rw [List.map_append]; exact PF.out.2.2.2.2, KP.out.trans PF.out.2.1, BW.out.trans PF.out.2.2.1⟩
  case done =>
    rintro D ys W hD rfl ⟨A, q, c, h1, h2, h3, h4⟩ hK
    have c0 := h1.cell
    rw [cells_range] at h2
    have O2 := Lib.hid (h2.abide (grownBy_putObj' W D (.deferred none)) (fun r e => by cases e; exact ⟨_, hK, rfl⟩))
    have B2 := Lib.hid (h4.trans (belowK_b (w := w) (Nat.le_refl _) W D _ (.deferred none) (by omega) hK rfl rfl))
    clear h1 h2 h3 h4
    gi_wp2
    refine ⟨by simp, .inl ⟨_, _, rfl, run_takeDeferred hK, ?_⟩⟩
    exact ⟨_, results_tmp rfl _ _ _, _, _, _, rfl, O2.out.base (by omega), B2.out⟩
  case stop =>
    rintro D cx pre W hD _ h
    exact h.elim
end Go.Proofs.YtigdcmfmaehjfaaGreat

-- CellQ: The program's CellsOk, NodeAt, Without and WithNode: for all cells.
namespace Go.Proofs.YtigdcmfmaehjfaaGreat
set_option maxRecDepth 100000
set_option linter.unusedVariables false
set_option linter.unusedSimpArgs false
open Go.RowKit

end Go.Proofs.YtigdcmfmaehjfaaGreat

-- CellR: The program's Without and WithNode: for all cells.
namespace Go.Proofs.YtigdcmfmaehjfaaGreat
set_option maxRecDepth 100000
set_option linter.unusedVariables false
set_option linter.unusedSimpArgs false
open Go.RowKit

theorem NodesIs.cells {w : World} {lo : Nat} {R : SR} {ps : List (Int × NV)} {cs : List (Int × List Int)} (h : NodesIs w lo R ps cs) : cellsL ps = cs := by
  apply List.ext_getElem?
  intro i
  unfold cellsL
  have hl := h.len
  by_cases hi : i < ps.length
  · have h1 := h.at_ i hi
    rw [List.getElem?_map, List.getElem?_eq_getElem hi, List.getElem?_eq_getElem (by omega)]
    rw [List.getElem?_eq_getElem hi] at h1
    unfold cel at h1
    rw [List.getElem?_eq_getElem (by omega)] at h1
    obtain ⟨h1, h2⟩ := h1
    have h3 : nodeBytes ps[i].2.nd = cs[i].2 := by
      rcases h2 with ⟨_, _, _, h2⟩ | ⟨h2, _⟩
      · exact h2
      · cases h2
    have h1 : ps[i].1 = cs[i].1 := h1
    simp only [Option.map_some, Option.some.injEq]
    exact Prod.ext h1 h3
  · rw [List.getElem?_eq_none (by simp; omega), List.getElem?_eq_none (by omega)]
theorem cellsL_del (ps : List (Int × NV)) (i : Nat) : cellsL (delP ps i) = delP (cellsL ps) i := by unfold cellsL delP; simp [List.map_take, List.map_drop]
theorem cellsL_ins (ps : List (Int × NV)) (i : Nat) (q : Int × NV) : cellsL (insP ps i q) = insP (cellsL ps) i (q.1, nodeBytes q.2.nd) := insP_map _ _ _ _
theorem cel_get (cs : List (Int × List Int)) (i : Nat) (h : i < cs.length) : cs[i] = cel cs i := by unfold cel; rw [List.getElem?_eq_getElem h]; rfl
theorem less_del (cs : List (Int × List Int)) (m : Int) (i : Nat) (hr : Right cs) (hi : i < cs.length) (hm : (cel cs i).1 = m) : lessC cs m = delP cs i := by
  unfold lessC delP
  conv => lhs; rw [← List.take_append_drop i cs]
  rw [List.drop_eq_getElem_cons hi, List.filter_append, List.filter_cons, if_neg (by rw [cel_get cs i hi]; simp [hm])]
  congr 1
  · refine List.filter_eq_self.2 fun c hc => ?_
    obtain ⟨j, hj, rfl⟩ := List.mem_iff_getElem.1 hc
    have hj2 : j < i := by simp at hj; omega
    rw [List.getElem_take, cel_get cs j (by omega)]
    have := hr.rise j i hj2 hi
    exact decide_eq_true (by omega)
  · refine List.filter_eq_self.2 fun c hc => ?_
    obtain ⟨j, hj, rfl⟩ := List.mem_iff_getElem.1 hc
    have hj2 : i + 1 + j < cs.length := by simp at hj; omega
    rw [List.getElem_drop, cel_get cs _ hj2]
    have := hr.rise i (i + 1 + j) (by omega) hj2
    exact decide_eq_true (by omega)
theorem less_none (cs : List (Int × List Int)) (m : Int) (h : ¬ findC cs m < cs.length) : lessC cs m = cs := by
  unfold lessC
  refine List.filter_eq_self.2 fun c hc => ?_
  obtain ⟨j, hj, rfl⟩ := List.mem_iff_getElem.1 hc
  rw [cel_get cs j hj]
  exact decide_eq_true (findC_not cs m j (by have := findC_le cs m; omega))
theorem ins_place (ps : List (Int × NV)) (cs : List (Int × List Int)) (m : Int) (bs : List Int) (w : World) (lo : Nat) (R : SR) (h : NodesIs w lo R ps cs) (ht : hitI (kvs ps) m = false) : insP cs (lowI (kvs ps) m) (m, bs) = insC cs m bs := by
  have hl := h.len
  have hk : ∀ i (hi : i < ps.length), (kvs ps)[i]?.getD 0 = (cel cs i).1 := fun i hi => by
    have := (h.at_ i hi).1
    rw [List.getElem?_eq_getElem hi] at this
    rw [kvs_at ps i hi]
    exact this
  have hp : placeC cs m = lowI (kvs ps) m := placeC_at cs m _ (by have := lowI_len ps m; omega) (fun j hj => by
    have h1 := lowI_below (kvs ps) m j hj
    have h2 := lowI_len ps m
    rw [hk j (by omega)] at h1; omega) (fun hlt => by
    have h1 := lowI_above (kvs ps) m (by rw [kvs_len]; omega)
    rw [hk _ (by omega)] at h1
    rcases Int.lt_or_eq_of_le h1 with h2 | h2
    · exact h2
    · exact absurd (show hitI (kvs ps) m = true from decide_eq_true ⟨by rw [kvs_len]; omega, by rw [hk _ (by omega)]; exact h2.symm⟩) (by rw [ht]; simp))
  unfold insP insC
  rw [hp]
end Go.Proofs.YtigdcmfmaehjfaaGreat

-- CellT: The program's WithNode: for all cells and nodes.
namespace Go.Proofs.YtigdcmfmaehjfaaGreat
set_option maxRecDepth 100000
set_option linter.unusedVariables false
set_option linter.unusedSimpArgs false
open Go.RowKit

theorem nodeBytes_pos (nd : MNode) : (nodeOk nd = true → 0 < (nodeBytes nd).length) ∧ (nodeOk nd = false → nodeBytes nd = []) := by
  refine ⟨fun h => ?_, fun h => by unfold nodeBytes; rw [if_neg (by simp [h])]⟩
  rw [nodeBytes_raw nd h]
  simp [rawBytes]
/-- what adding a node says and leaves. -/
def AddIs (w : World) (p lo : Nat) (R : SR) (ps : List (Int × NV)) (x : NV) (e : Ending) (w' : World) : Prop :=
  (nodeOk x.nd = false ∧ e = .returned (.int .i64 (-1)) ∧ Below w.heap.size w w') ∨
  (nodeOk x.nd = true ∧ hitI (kvs ps) (nameOf (nodeBytes x.nd)) = true ∧ e = .returned (.int .i64 (nameOf (nodeBytes x.nd))) ∧ Below w.heap.size w w') ∨
  (nodeOk x.nd = true ∧ hitI (kvs ps) (nameOf (nodeBytes x.nd)) = false ∧ 80 ≤ ps.length ∧ e = .returned (.int .i64 (-1)) ∧ Below w.heap.size w w') ∨
  (nodeOk x.nd = true ∧ hitI (kvs ps) (nameOf (nodeBytes x.nd)) = false ∧ ps.length < 80 ∧ e = .returned (.int .i64 (nameOf (nodeBytes x.nd))) ∧
    ∃ R', Box w' p 62 #[R'.kv (ps.length + 1), R'.vv (ps.length + 1)] ∧ SLN w' lo R' (insP ps (lowI (kvs ps) (nameOf (nodeBytes x.nd))) (nameOf (nodeBytes x.nd), x)) ∧ Touch (fun g => g = p ∨ R.at_ g) w w')
end Go.Proofs.YtigdcmfmaehjfaaGreat

-- CellU: The program's WithNode: for all cells and nodes.
namespace Go.Proofs.YtigdcmfmaehjfaaGreat
set_option maxRecDepth 100000
set_option linter.unusedVariables false
set_option linter.unusedSimpArgs false
open Go.RowKit

end Go.Proofs.YtigdcmfmaehjfaaGreat

-- ReachF: The program's way through the nodes that are reached.
namespace Go.Proofs.YtigdcmfmaehjfaaGreat
set_option maxRecDepth 100000
set_option linter.unusedVariables false
set_option linter.unusedSimpArgs false
open Go.RowKit

/-- all flags are up. -/
def allB (bs : List (Int × Bool)) : Bool := bs.all (·.2)
theorem allB_ins (bs : List (Int × Bool)) (i : Nat) (q : Int × Bool) : allB (insP bs i q) = (allB bs && q.2) := by
  unfold allB insP
  conv => rhs; rw [← List.take_append_drop i bs]
  rw [List.all_append, List.all_append, List.all_cons]
  cases (List.take i bs).all (·.2) <;> cases (List.drop i bs).all (·.2) <;> cases q.2 <;> rfl
theorem kbs_ins (bs : List (Int × Bool)) (m : Int) (x : Bool) (h : RiseI (kbs bs)) (ht : hitI (kbs bs) m = false) : m ∉ kbs bs ∧ kbs (insP bs (lowI (kbs bs) m) (m, x)) = insI (kbs bs) m := by
  have hm : m ∉ kbs bs := fun hm => by rw [(hitI_mem _ _ h).2 hm] at ht; cases ht
  exact ⟨hm, by rw [← insP_low _ _ hm]; exact insP_map _ _ _ _⟩
theorem NV.kids {w : World} {B : Nat} {x : NV} (h : NodeIn w B x.v x.nd) : Kids w B x.Ak x.nk x.nd.kids := by
  obtain ⟨Ap, np, cp, Ak, nk, ck, e, _, _, _, _, h2⟩ := h
  unfold NV.v at e
  injection e with e
  simp at e
  obtain ⟨⟨e1, e2, e3⟩, e4, e5, e6⟩ := e
  rw [e4, e5]
  exact h2
/-- what stands under a name in the list is what stands there among the cells. -/
theorem NodesIs.hit {w : World} {lo : Nat} {R : SR} {ps : List (Int × NV)} {cs : List (Int × List Int)} (h : NodesIs w lo R ps cs) (hr : Right cs) {m : Int} {x : NV} {b : Bool} (hat : AtIs ps m x b) : HitIs cs m x.nd b ∧ Kids w w.heap.size x.Ak x.nk x.nd.kids := by
  have hf := h.find hr m
  rcases hat with ⟨ht, rfl, hi, he⟩ | ⟨ht, rfl, rfl⟩
  · obtain ⟨hi2, hfe⟩ := hf.1 ht
    refine ⟨.inl ⟨by omega, ?_⟩, NV.kids (h.sl.nodes (m, x) (by rw [← he]; exact List.getElem_mem hi))⟩
    have h1 := (h.at_ _ hi).2
    rw [List.getElem?_eq_getElem hi, he] at h1
    rw [hfe]
    exact h1
  · exact ⟨.inr ⟨hf.2 ht, rfl, rfl⟩, Kids.none_⟩
/-- how long the list is that stands in a box. -/
def cellLen (w : World) (g : Nat) : Nat := lenOf ((w.cell? ⟨g, 0, none⟩).getD (.int .i64 0))
theorem cellLen_is {w : World} {g : Nat} {t : TypeId} {R : SR} {n : Nat} (h : Box w g t #[R.kv n, R.vv n]) : cellLen w g = n := by
  unfold cellLen
  rw [h.cell 0]
  rfl
theorem SLB.base {w : World} {lo lo' : Nat} {R : SR} {bs : List (Int × Bool)} (h : SLB w lo R bs) (hl : lo' ≤ lo) : SLB w lo' R bs := by
  refine ⟨h.keys.base hl, ⟨h.vals.1, ?_⟩, h.rise, h.len⟩
  rcases h.vals.2 with h | ⟨g, cap, cur, hv, hg, r⟩
  · exact .inl h
  · exact .inr ⟨g, cap, cur, hv, Nat.le_trans hl hg, r⟩
set_option maxHeartbeats 4000000 in
theorem reachedFrom_any (lo0 : Nat) (R : SR) (ps : List (Int × NV)) (cs : List (Int × List Int)) (Ar : Option Addr) (nr cr : Nat) (roots : List Int) (B : Nat) (w : World) (hD : NodesIs w lo0 R ps cs) (hR : Right cs) (hnr : nr ≤ 80) (hcr : nr ≤ cr) (hAr : Ar = none → cr = 0) (hB : B ≤ w.heap.size) (hbr : Ints w B Ar nr roots) :
    Calls Tryz.prog 109 #[.agg #[R.kv ps.length, R.vv ps.length], .slice Ar nr cr] w fun e w' => ∃ A n c l b, e = .returned (.tuple #[.slice A n c, .bool b]) ∧ Going cs roots l [] b ∧ OwnI w' w.heap.size A n c l ∧ Below w.heap.size w w' := by
  have HD := Lib.hid hD
  have RT := Lib.hid hR
  have hlr := hbr.1
  have hcs : cs.length ≤ 80 := hR.1
  obtain ⟨i0, hi, hz0, hz1, hz2⟩ := info_parts Tryz.infoI
  have HI := Lib.hid hi
  have HZ0 := Lib.hid hz0
  have HZ1 := Lib.hid hz1
  have HZ2 := Lib.hid hz2
  clear hi hz0 hz1 hz2
  obtain ⟨w0, hw0⟩ : ∃ w0, (w.alloc (.cells #[R.kv ps.length, R.vv ps.length] 62)).alloc (.cells #[.slice none 0 0, .slice none 0 0] 194) = w0 := ⟨_, rfl⟩
  have N0 := Lib.hid (show Box w0 w.heap.size 62 #[R.kv ps.length, R.vv ps.length] from hw0 ▸ heap2_0 _ _ _)
  have P0 := Lib.hid (show Box w0 (w.heap.size + 1) 194 #[.slice none 0 0, .slice none 0 0] from hw0 ▸ heap2_1 _ _ _)
  have s0 : w0.heap.size = w.heap.size + 2 := hw0 ▸ size2 _ _ _
  have B0 := Lib.hid (show Below w.heap.size w w0 from hw0 ▸ below2 _ _ _)
  have HBR := Lib.hid ((hbr.more hB).below B0.out)
  clear hD hR hbr
  go_enter Tryz.func109, Tryz.ntmps109
  go_wp2_with fail
  clear hw0
  refine (clone_any Ar nr cr roots w.heap.size w0 (by omega) (by omega) HBR.out).mono ?_
  rintro e w2 ⟨A2, n2, c2, rfl, o2, b2⟩
  have hn2 := o2.len
  have s2 := b2.size
  have O2 := Lib.hid o2
  have N2 := Lib.hid (N0.out.below b2 (by omega))
  have P2 := Lib.hid (P0.out.below b2 (by omega))
  have B2 := Lib.hid (B0.out.trans (b2.mono (by omega)))
  clear o2 b2
  go_wp2
  go_loopw [7] (fun t wr => ∃ (At : Option Addr) (nt ct : Nat) (R' : SR) (bs : List (Int × Bool)) (todo : List Int), t = .slice At nt ct ∧ OwnI wr (w.heap.size + 2) At nt ct todo ∧ Box wr (w.heap.size + 1) 194 #[R'.kv bs.length, R'.vv bs.length] ∧ SLB wr (w.heap.size + 2) R' bs ∧
      Box wr w.heap.size 62 #[R.kv ps.length, R.vv ps.length] ∧ (∀ g, (Value.slice At nt ct).ownBlock = some g → ¬ R'.at_ g) ∧ Going cs roots (kbs bs) todo (allB bs) ∧ nt + 17 * (1360 - bs.length) ≤ 23200 ∧ Below w.heap.size w wr)
    (fun t wr => lenOf t + 17 * (1360 - cellLen wr (w.heap.size + 1)))
  case atStart =>
    exact ⟨A2, n2, c2, SR0, [], roots, rfl, by rw [← s0]; exact O2.out, P2.out, SLB.nil _ _, N2.out, (fun g hg h => by rcases h with ⟨a, ha, _⟩ | ⟨a, ha, _⟩ <;> cases ha), Going.start cs roots, by simp; omega, B2.out⟩
  case round =>
    obtain ⟨At, nt, ct, R', bs, todo, rfl, hot, hpb, hsb, hnb, hap, hgo, hbd, hbel⟩ := hrel
    have hlt := hot.len
    have hgl := hgo.len
    rw [kbs_len] at hgl
    have hs0 := hbel.size
    have hcl := cellLen_is hpb
    have hp1 := hpb.lt
    have TR := Lib.hid hot
    have PB := Lib.hid hpb
    have SB := Lib.hid hsb
    have NB := Lib.hid hnb
    have AP := Lib.hid hap
    have GR := Lib.hid hgo
    have BR := Lib.hid hbel
    have CL := Lib.hid hcl
    clear hot hpb hsb hnb hap hgo hbel hcl
    by_cases h0 : nt = 0
    · obtain rfl := h0
      obtain rfl : todo = [] := List.eq_nil_of_length_eq_zero hlt
      have p0 := PB.out.cell 0
      have p1 := PB.out.cell 1
      unfold SR.kv at p0
      unfold SR.vv at p1
      simp at p0 p1
      have hpl := PB.out.lt
      have hcl : ∀ W, Below wr.heap.size wr W → W.cell? ⟨w.heap.size + 1, 0, none⟩ = some (.slice R'.Ak bs.length R'.ck) ∧ W.cell? ⟨w.heap.size + 1, 1, none⟩ = some (.slice R'.Av bs.length R'.cv) := fun W hW => ⟨(hW.cell (p := ⟨w.heap.size + 1, 0, none⟩) hpl).trans p0, (hW.cell (p := ⟨w.heap.size + 1, 1, none⟩) hpl).trans p1⟩
      have hc0 : ∀ W, Below wr.heap.size wr W → W.cell? ⟨w.heap.size + 1, 0, none⟩ = some (.slice R'.Ak bs.length R'.ck) := fun W hW => (hcl W hW).1
      have hc1 : ∀ W, Below wr.heap.size wr W → W.cell? ⟨w.heap.size + 1, 1, none⟩ = some (.slice R'.Av bs.length R'.cv) := fun W hW => (hcl W hW).2
      have hbl := SB.out.len
      have hcb : ∀ W, Below wr.heap.size wr W → Calls Tryz.prog 148 #[.slice R'.Av bs.length R'.cv, .bool false] W fun e w' => e = .returned (.bool (!allB bs)) ∧ Below wr.heap.size wr w' :=
        fun W hW => (containsB_any R'.Av bs.length R'.cv (w.heap.size + 2) bs W (by omega) ((SB.out.below hW).vals)).mono (fun e w' h => ⟨h.1, by obtain ⟨q, e⟩ := h.2; rw [e]; exact below_drewN hW q⟩)
      have CB := Lib.hid hcb
      clear hcl hcb p0 p1
      go_wp2
      go_region_held3 (fun W => Below wr.heap.size wr W) (first | exact (Below.refl _ _).drew | assumption)
        (first | (go_at_call 148
                  refine (CB.out _ (by assumption)).mono ?_
                  rintro e w5 ⟨rfl, h5⟩))
      all_goals
        clear hc0 hc1
        obtain ⟨fl, hfl⟩ : ∃ fl, allB bs = fl := ⟨_, rfl⟩
        have FL := Lib.hid hfl
        rw [hfl]
        clear hfl
        go_wp2
        go_ret2
        refine ⟨_, _, _, kbs bs, fl, rfl, FL.out ▸ GR.out, ?_, BR.out.trans (h5.mono hs0)⟩
        exact ((SB.out.below h5).base (show w.heap.size ≤ w.heap.size + 2 by omega)).keys
    · obtain ⟨q, rfl⟩ : ∃ q, nt = q + 1 := ⟨nt - 1, by omega⟩
      obtain ⟨gt, hgt, hgt1, hgt2⟩ := TR.out.form (by omega)
      subst hgt
      have hq0 := TR.out.cell (k := q) (by omega)
      have hlast := TR.out.last
      obtain ⟨m, hmq⟩ : ∃ m, todo[q]?.getD 0 = m := ⟨_, rfl⟩
      rw [hmq] at hq0 hlast
      have G1 := GR.out
      rw [hlast] at G1
      have GR := Lib.hid G1
      have hct := TR.out.cap
      have T1 := Lib.hid TR.out.short
      have hgr : ¬ R'.at_ gt := AP.out gt rfl
      have HGR := Lib.hid hgr
      clear G1 TR hlast hmq AP hgr
      generalize todo.take q = td at T1 GR
      have hd : decide ((0 : Int) < ((q + 1 : Nat) : Int)) = true := decide_eq_true (by omega)
      have hwk : IntKind.i64.wrap (((q + 1 : Nat) : Int) - 1) = (q : Int) := by rw [IntKind.wrap_i64]; omega
      by_cases hm0 : m = 0
      · have hb0 : (m == 0) = true := by simp [hm0]
        go_wp2
        go_roundw
        case rel => exact ⟨some ⟨gt, 0, none⟩, q, ct, R', bs, td, rfl, T1.out, PB.out, SB.out, NB.out, (fun g hg => by simp [Value.ownBlock] at hg; subst hg; exact HGR.out), GR.out.skip (.inl hm0), by omega, BR.out⟩
        case measure => rw [CL.out]; simp [lenOf]
      · have hb0 : (m == 0) = false := by simpa using hm0
        have HM0 := Lib.hid hm0
        clear hm0
        go_wp2_with fail
        refine (at_any w.heap.size lo0 R ps m wr NB.out (HD.out.below BR.out).sl).mono ?_
        rintro e w4 ⟨x, r, rfl, hat, b4⟩
        have hs4 := b4.size
        have hit := (HD.out.below BR.out).hit RT.out hat
        have h16 := hit_kids hit.1
        have HIT := Lib.hid hit.1
        have hatx : Kids w w.heap.size x.Ak x.nk x.nd.kids := (HD.out.hit RT.out hat).2
        have KX := Lib.hid hatx
        have hkl := hatx.1
        have T4 := Lib.hid (T1.out.below b4)
        have P4 := Lib.hid (PB.out.below b4 (by omega))
        have S4 := Lib.hid (SB.out.below b4)
        have N4 := Lib.hid (NB.out.below b4 (by omega))
        have B4 := Lib.hid (BR.out.trans (b4.mono hs0))
        have RL := Lib.hid (fun g hg => (SB.out.lt g hg).2)
        clear hat hit hatx b4
        obtain ⟨Ap, np, cp, Ak, nk, ck, nd⟩ := x
        simp only at h16 KX HIT hkl
        unfold NV.v
        obtain ⟨w5, hw5⟩ : ∃ w5, w4.alloc (.cells #[.int .i64 nd.kind, .slice Ap np cp, .slice Ak nk ck, .string nd.val] 96) = w5 := ⟨_, rfl⟩
        have b5 : Below w4.heap.size w4 w5 := hw5 ▸ (Below.refl _ _).alloc (Nat.le_refl _) _
        have X5 := Lib.hid (show Box w5 w4.heap.size 96 #[.int .i64 nd.kind, .slice Ap np cp, .slice Ak nk ck, .string nd.val] from hw5 ▸ heap_alloc_new _ _)
        have s5 : w5.heap.size = w4.heap.size + 1 := hw5 ▸ by simp
        have T5 := Lib.hid (T4.out.below b5)
        have P5 := Lib.hid (P4.out.below b5 (by omega))
        have S5 := Lib.hid (S4.out.below b5)
        have N5 := Lib.hid (N4.out.below b5 (by omega))
        have B5 := Lib.hid (B4.out.trans (b5.mono (by omega)))
        clear b5
        go_wp2_with fail
        clear hw5
        refine (putB_any (w.heap.size + 1) (w.heap.size + 2) R' bs m r w5 P5.out S5.out (by omega) (by omega)).mono ?_
        rintro e w6 (⟨h6, rfl, b6⟩ | ⟨h6, rfl, R6, p6, l6, f6, t6⟩)
        · have hin : m ∈ kbs bs := (hitI_mem _ _ SB.out.rise).1 h6
          have HIN := Lib.hid hin
          have hs6 := b6.size
          have T6 := Lib.hid (T5.out.below b6)
          have P6 := Lib.hid (P5.out.below b6 (by omega))
          have S6 := Lib.hid (S5.out.below b6)
          have N6 := Lib.hid (N5.out.below b6 (by omega))
          have B6 := Lib.hid (B5.out.trans (b6.mono (by omega)))
          have C6 := Lib.hid (cellLen_is P6.out)
          clear hin h6 b6
          go_wp2
          go_roundw
          case rel => exact ⟨some ⟨gt, 0, none⟩, q, ct, R', bs, td, rfl, T6.out, P6.out, S6.out, N6.out, (fun g hg => by simp [Value.ownBlock] at hg; subst hg; exact HGR.out), GR.out.skip (.inr HIN.out), by omega, B6.out⟩
          case measure => rw [CL.out, C6.out]; simp [lenOf]
        · have hki := kbs_ins bs m r SB.out.rise h6
          have gt6 := GR.out.take RT.out HM0.out hki.1 HIT.out
          have hs6 := t6.size
          have hgn : ∀ g, g < w5.heap.size → ¬ R'.at_ g → g ≠ w.heap.size + 1 → w6.heap[g]? = w5.heap[g]? := fun g h1 h2 h3 => t6.block g h1 (fun e => e.elim h3 h2)
          have hno : ∀ g, g < w.heap.size + 2 ∨ wr.heap.size ≤ g → ¬ R'.at_ g := fun g h1 h2 => by
            have h3 := RL.out g h2
            have h4 := (SB.out.lt g h2).1
            omega
          have X6 := Lib.hid (show Box w6 w4.heap.size _ _ from (hgn _ (by omega) (hno _ (by omega)) (by omega)).trans X5.out)
          have N6 := Lib.hid (show Box w6 w.heap.size _ _ from (hgn _ (by omega) (hno _ (by omega)) (by omega)).trans N5.out)
          have T6 := Lib.hid (T5.out.touch t6 (fun g hg e => by simp [Value.ownBlock] at hg; subst hg; exact e.elim (fun e => by omega) HGR.out))
          have B6 := Lib.hid (B5.out.trans (t6.below (by omega) (fun k hk e => e.elim (fun e => by omega) (fun e => hno k (by omega) e))))
          have P6 := Lib.hid p6
          have L6 := Lib.hid l6
          have hgr6 : ¬ R6.at_ gt := fun e => (f6 gt e).elim HGR.out (fun e => by omega)
          have HG6 := Lib.hid hgr6
          have RL6 := Lib.hid (fun g hg => (l6.lt g hg).2)
          have hl6 : (insP bs (lowI (kbs bs) m) (m, r)).length = bs.length + 1 := insP_len _ _ _ (lowB_len bs m)
          rw [← hl6] at p6
          have C6 := Lib.hid (cellLen_is p6)
          have hgl6 := gt6.len
          rw [insI_len, kbs_len] at hgl6
          rw [← hki.2, show (allB bs && r) = allB (insP bs (lowI (kbs bs) m) (m, r)) from (allB_ins bs (lowI (kbs bs) m) (m, r)).symm] at gt6
          have GT := Lib.hid gt6
          have P6 := Lib.hid p6
          have q62 := X6.out.cell 2
          simp at q62
          have hx6 := X6.out.lt
          generalize insP bs (lowI (kbs bs) m) (m, r) = bs6 at hl6 L6 GT C6 P6 RL6
          clear hki gt6 hgn hno p6 l6 f6 t6 hgr6 h6
          go_wp2
          go_loopw [7, 43] (fun t i wr => ∃ (k gk ck' : Nat), k ≤ nk ∧ i = .int .i64 k ∧ t = .slice (some ⟨gk, 0, none⟩) (q + k) ck' ∧ (gk = gt ∨ w6.heap.size ≤ gk) ∧ OwnI wr (w.heap.size + 2) (some ⟨gk, 0, none⟩) (q + k) ck' (td ++ (nd.kids.take k).map (·.2)) ∧ Touch (fun b => b = gt ∨ w6.heap.size ≤ b) w6 wr) (fun _ i _ => nk - (intOf i).toNat)
          case atStart => exact ⟨0, gt, ct, Nat.zero_le _, rfl, rfl, .inl rfl, by simpa using T6.out, Touch.of_below (Below.refl _ _)⟩
          case round =>
            obtain ⟨k, gk, ck', hkn, rfl, rfl, hgk, htk, htt⟩ := hrel
            have TK := Lib.hid htk
            have TT := Lib.hid htt
            have hsv : w6.heap.size ≤ wr.heap.size := htt.size
            have bv := B6.out.trans (htt.below (show w.heap.size ≤ w6.heap.size by omega) (fun b hb e => by rcases e with e | e <;> omega))
            have BV := Lib.hid bv
            have KV := Lib.hid (KX.out.below bv)
            clear htk htt bv q62
            by_cases hlk : k < nk
            · obtain ⟨bk, off, rfl, hbk, hk0, hk1⟩ := KV.out.at_ hlk
              have hst : (nd.kids.take (k + 1)).map (·.2) = (nd.kids.take k).map (·.2) ++ [(nd.kids[k]?.getD (0, 0)).2] := by
                rw [List.take_succ_eq_append_getElem (by omega), List.map_append, List.getElem?_eq_getElem (by omega)]; rfl
              have HST := Lib.hid hst
              obtain ⟨L, hL⟩ : ∃ L, td ++ (nd.kids.take k).map (·.2) = L := ⟨_, rfl⟩
              have TK := TK.out
              rw [hL] at TK
              have TK := Lib.hid TK
              have HL := Lib.hid hL
              clear hst hL
              generalize (nd.kids[k]?.getD (0, 0)).1 = y at hk0
              generalize (nd.kids[k]?.getD (0, 0)).2 = z at hk1 HST
              obtain ⟨w1, hw1⟩ : ∃ w1, wr.alloc (.cells #[.int .i64 y, .int .i64 z] 105) = w1 := ⟨_, rfl⟩
              have b1 : Below wr.heap.size wr w1 := hw1 ▸ (Below.refl _ _).alloc (Nat.le_refl _) _
              have C1 := Lib.hid (show Box w1 wr.heap.size 105 #[.int .i64 y, .int .i64 z] from hw1 ▸ heap_alloc_new _ _)
              have s1 : w1.heap.size = wr.heap.size + 1 := hw1 ▸ by simp
              have b12 : Below wr.heap.size wr (w1.alloc (.cells #[.int .i64 z] 2)) := b1.trans (((Below.refl w1.heap.size w1).alloc (Nat.le_refl _) _).mono (by omega))
              have BB := Lib.hid b12
              have c11 := C1.out.cell 1
              simp at c11
              clear b1 b12
              go_wp2_with (at_builtin; (refine wpList_append_lies _ rfl _ _ 23 rfl (w.heap.size + 2) 2 i0 (.int .i64 0) 1 8 Tryz.underlying23 HI.out HZ0.out HZ1.out HZ2.out rfl (by decide) (.slice (some ⟨gk, 0, none⟩) (q + k) ck') (q + k) (L.map (Value.int .i64)) (by simp [Act.eval]) (own_touch (S := fun _ => False) TK.out (Touch.of_below BB.out) (fun _ _ h => h)) ⟨w1.heap.size, 0, none⟩ 1 1 [.int .i64 z] (by simp [Act.eval]) rfl ?bq1 ?bq2 (by omega) ?bq3 ?bq4 ?bq5 _ rfl ?_))
              case bq2 => first | rfl | (intro u hu; simp at hu; subst hu; rfl)
              case bq3 => unfold maxLen; omega
              case bq4 => omega
              case bq5 => first | omega | (simp; omega)
              intro g7 c7 w7 hown7 hgrow7 hor7 _
              have t7 : Touch (fun b => b = gt ∨ w6.heap.size ≤ b) wr w7 := (Touch.of_below BB.out).trans ((Touch.of_grown hgrow7).mono (fun b e => by simp [Value.ownBlock] at e; omega))
              have h7 : g7 = gt ∨ w6.heap.size ≤ g7 := by
                rcases hor7 with e | e <;> (try simp [Value.ownBlock] at e) <;> omega
              have o7 : OwnI w7 (w.heap.size + 2) (some ⟨g7, 0, none⟩) (q + (k + 1)) c7 (td ++ (nd.kids.take (k + 1)).map (·.2)) := by
                rw [HST.out, ← List.append_assoc, HL.out]
                unfold OwnI
                rw [List.map_append]
                exact hown7
              have O7 := Lib.hid o7
              have T7 := Lib.hid (TT.out.trans t7)
              have H7 := Lib.hid h7
              clear hown7 hgrow7 hor7 t7 o7 h7 hk0 hk1 c11 hw1
              go_wp2
              go_roundw
              case rel => exact ⟨k + 1, g7, c7, by omega, by go_num, rfl, H7.out, O7.out, T7.out⟩
              case measure => simp [intOf]; omega
            · obtain rfl : k = nk := by omega
              have tk8 := TK.out
              rw [List.take_of_length_le (by omega)] at tk8
              have T8 := Lib.hid tk8
              have hgn : ∀ g, g < w6.heap.size → g ≠ gt → wr.heap[g]? = w6.heap[g]? := fun g h1 h2 => TT.out.block g h1 (fun e => by rcases e with e | e <;> omega)
              have P8 := Lib.hid (show Box wr (w.heap.size + 1) _ _ from (hgn _ (by omega) (by omega)).trans P6.out)
              have N8 := Lib.hid (show Box wr w.heap.size _ _ from (hgn _ (by omega) (by omega)).trans N6.out)
              have L8 := Lib.hid (L6.out.touch TT.out (fun g hg e => by
                rcases e with e | e
                · subst e; exact HG6.out hg
                · have := RL6.out g hg; omega))
              have C8 := Lib.hid (cellLen_is P8.out)
              clear tk8 hgn
              go_wp2
              go_roundw
              case rel =>
                exact ⟨some ⟨gk, 0, none⟩, q + k, ck', R6, bs6, td ++ nd.kids.map (·.2), rfl, T8.out, P8.out, L8.out, N8.out, (fun g hg e => by
                  simp [Value.ownBlock] at hg
                  subst hg
                  rcases hgk with e2 | e2
                  · subst e2; exact HG6.out e
                  · have := RL6.out _ e; omega), GT.out, by omega, BV.out⟩
              case measure => rw [CL.out, C8.out]; simp [lenOf]; omega
end Go.Proofs.YtigdcmfmaehjfaaGreat

-- ValI: slices.Values, slices.Collect at int64, as the program calls them. No statement of the program is proved here.
namespace Go.Proofs.YtigdcmfmaehjfaaGreat
set_option maxRecDepth 20000
set_option linter.unusedVariables false
set_option linter.unusedSimpArgs false
open Go.RowKit Go.Shelf
attribute [local go_sem] Oper.semAt_some

theorem OwnI.abide {X Y : World} {row : Option Nat} {lo n c : Nat} {A : Option Addr} {xs : List Int} (h : OwnI X lo A n c xs) (hg : X.grownBy Y row) (hr : ∀ r, row = some r → ∃ o : Obj, X.heap[r]? = some o ∧ o.isCells = false) : OwnI Y lo A n c xs :=
  own_touch h (Touch.of_grown hg) fun g hv e => by
    obtain ⟨o, h1, h2⟩ := hr g e.symm
    obtain ⟨cur, z, h3⟩ := own_cells h g hv
    rw [h1] at h3; cases h3; cases h2
/-- what the k-th round is handed. -/
def encI (zs : List Int) (k : Nat) : Array Value := #[.int .i64 (zs[k]?.getD 0)]
set_option maxHeartbeats 2000000 in
theorem vals1_in (F : Fence) (n : Nat) (h7 : F.fn 201) (hro : F.round = none) (hn : 1 ≤ n) (l Bs n₀ n₁ cb m c : Nat) (A : Option Addr) (zs : List Int)
    (J Jx : List Nat → World → Prop) (W : World) (hW0 : n₀ ≤ W.heap.size)
    (hY : ∀ pre x W1, J pre W1 → pre.length < zs.length → YieldAt F (n - 1) Tryz.prog l (encI zs x) W1 fun e W' =>
      (e = .returned (.bool true) ∧ J (pre ++ [x]) W' ∧ KpB cb n₀ W1 W') ∨ (e = .returned (.bool false) ∧ Jx (pre ++ [x]) W'))
    (hBs : Box W Bs 23 #[.slice A m c]) (hB0 : Bs < n₀) (hB1 : Bs ≠ cb) (hI : Ints W n₁ A m zs) (hm : m ≤ 1048576) (h01 : n₁ ≤ n₀) (h1c : n₁ ≤ cb) (h0 : J [] W) :
    CallsIn F n Tryz.prog 201 #[.func (.yield l) #[] #[], .pointer (some ⟨Bs, 0, none⟩)] W fun e W' => (∃ v, e = .returned v) ∧
      ((∃ ys, ys = List.range zs.length ∧ J ys W') ∨ (∃ pre, (∃ k, k ≤ zs.length ∧ pre = List.range k) ∧ Jx pre W')) := by
  have hlen := hI.1
  have hrd : ∀ W', KpB cb n₀ W W' → ∀ k, k < m → ∃ b off, A = some ⟨b, off, none⟩ ∧ W'.cell? ⟨b, off + k, none⟩ = some (.int .i64 (zs[k]?.getD 0)) := fun W' hk k hlt => by
    obtain ⟨b, off, e, hb, hc⟩ := hI.2 (by omega)
    exact ⟨b, off, e, by rw [hk.cell (a := ⟨b, off + k, none⟩) (by show b < n₀; omega) (by show b ≠ cb; omega)]; exact hc k hlt⟩
  have q0 := hBs.cell 0
  simp at q0
  have RD := Lib.hid hrd
  clear hrd
  refine callsIn_of_wp Tryz.func201 rfl h7 ?_ hro
  simp only [Tryz.ntmps201, List.size_toArray, List.length_cons, List.length_nil, Nat.reduceAdd, Nat.reduceSub, Array.replicate_succ, Array.replicate_zero, List.push_toArray, List.append_toArray, List.nil_append, List.cons_append]
  clear hBs hI
  gi_wp2
  gi_loopw [7] (fun i wr => ∃ k : Nat, k ≤ m ∧ i = .int .i64 k ∧ J (List.range k) wr ∧ KpB cb n₀ W wr)
    (fun i _ => m - (intOf i).toNat)
  case atStart => exact ⟨0, Nat.zero_le _, rfl, h0, KpB.refl _ _ _⟩
  case round =>
    obtain ⟨k, hk, rfl, hJs, hnx⟩ := hrel
    have hsz := hnx.1
    have KX := Lib.hid hnx
    by_cases hlt : k < m
    · obtain ⟨b, off, rfl, c2⟩ := RD.out wr hnx k hlt
      obtain ⟨fn, tmps, assign, body, hy, hR⟩ := hY (List.range k) k _ hJs (by simpa using (show k < zs.length by omega))
      unfold encI at hy
      obtain ⟨y, hy0⟩ : ∃ y, zs[k]?.getD 0 = y := ⟨_, rfl⟩
      rw [hy0] at hy c2
      clear hnx hy0
      gi_wp2
      refine hR.mono ?_
      rintro e W3 (⟨rfl, hJ3, hk3⟩ | ⟨rfl, hJx3⟩)
      · gi_wp2
        go_roundw
        case rel => exact ⟨k + 1, by omega, by go_num, by rw [range_take]; exact hJ3, KX.out.trans hk3⟩
        case measure => simp [intOf]; omega
      · gi_wp2
        refine bodyPost_ret (results_none rfl _ _ _) rfl ?_
        exact ⟨⟨_, rfl⟩, .inr ⟨_, ⟨k + 1, by omega, (range_take k).symm⟩, hJx3⟩⟩
    · obtain rfl : k = m := by omega
      gi_wp2
      go_end0
      exact ⟨⟨_, rfl⟩, .inl ⟨_, by rw [hlen], hJs⟩⟩
theorem vals_any (A : Option Addr) (m c : Nat) (w : World) :
    Calls Tryz.prog 150 #[.slice A m c] w fun e w' => e = .returned (.func (.func 201) #[] #[.pointer (some ⟨w.heap.size, 0, none⟩)]) ∧ w.alloc (.cells #[.slice A m c] 23) = w' := by
  go_enter Tryz.func150, Tryz.ntmps150
  go_wp2
  go_ret
  exact ⟨rfl, rfl⟩
theorem vals_stops (n : Nat) (hn : 1 ≤ n) (Bs n₀ n₁ cb m c : Nat) (A : Option Addr) (zs : List Int) (w : World) (hW0 : n₀ ≤ w.heap.size) (hBs : Box w Bs 23 #[.slice A m c]) (hB0 : Bs < n₀) (hB1 : Bs ≠ cb) (hI : Ints w n₁ A m zs) (hm : m ≤ 1048576) (h01 : n₁ ≤ n₀) (h1c : n₁ ≤ cb) :
    SeqStopsK Fence.wide n Tryz.prog 201 #[.pointer (some ⟨Bs, 0, none⟩)] (encI zs) (KpB cb n₀) (fun ys => ys = List.range zs.length) (fun pre => ∃ k, k ≤ zs.length ∧ pre = List.range k) zs.length w := fun l J Jx W hW hJ _ hY h0 =>
  vals1_in Fence.wide n trivial rfl hn l Bs n₀ n₁ cb m c A zs J Jx W (Nat.le_trans hW0 hW.size) hY (hBs.below hW (by omega)) hB0 hB1 (hI.below (hW.mono (by omega))) hm h01 h1c h0
/-- one more number behind the others, within a round. -/
theorem push1 {W w7 : World} {cn n₀ b0 q c c7 : Nat} {A A7 : Option Addr} {L : List Int} {z : Int} (hn : cn < n₀) (hb0 : b0 ≤ cn) (hW : n₀ ≤ W.heap.size)
    (bn : Boxed W cn 23 (.slice A q c)) (hrow : OwnI W n₀ A q c L)
    (h7 : w7.ownsRow n₀ 2 1 (.slice A7 (q + 1) c7) (q + 1) (L.map (Value.int .i64) ++ [.int .i64 z])) (hg : (W.alloc (.cells #[.int .i64 z] 2)).grownBy w7 (Value.slice A q c).ownBlock) :
    Boxed w7 cn 23 (.slice A q c) ∧
    (∀ B, KeepsFrom B W (w7.setCell ⟨cn, 0, none⟩ (.slice A7 (q + 1) c7))) ∧
    KpB cn n₀ W (w7.setCell ⟨cn, 0, none⟩ (.slice A7 (q + 1) c7)) ∧
    Boxed (w7.setCell ⟨cn, 0, none⟩ (.slice A7 (q + 1) c7)) cn 23 (.slice A7 (q + 1) c7) ∧
    OwnI (w7.setCell ⟨cn, 0, none⟩ (.slice A7 (q + 1) c7)) n₀ A7 (q + 1) c7 (L ++ [z]) ∧
    Below b0 W (w7.setCell ⟨cn, 0, none⟩ (.slice A7 (q + 1) c7)) := by
  have b2 : Below W.heap.size W (W.alloc (.cells #[.int .i64 z] 2)) := (Below.refl _ _).alloc (Nat.le_refl _) _
  have t6 := Touch.of_grown hg
  have hng : ∀ g, (Value.slice A q c).ownBlock = some g → n₀ ≤ g := fun g hv => (hrow.lt g hv).1
  have t06 : Touch (fun g => (Value.slice A q c).ownBlock = some g) W w7 := (Touch.of_below b2).trans (t6.mono (fun k hk => hk.symm))
  have bn7 : Boxed w7 cn 23 (.slice A q c) := (t06.block cn bn.lt (fun e => by have := hng _ e; omega)).trans bn
  obtain ⟨w8, hw8⟩ : ∃ w8, w7.setCell ⟨cn, 0, none⟩ (.slice A7 (q + 1) c7) = w8 := ⟨_, rfl⟩
  have t8 : Touch (fun g => g = cn) w7 w8 := by rw [← hw8]; exact touch_set w7 cn 0 _ rfl
  have bn8 : Boxed w8 cn 23 (.slice A7 (q + 1) c7) := by rw [← hw8]; exact bn7.set _
  rw [hw8]
  have h7' : OwnI w7 n₀ A7 (q + 1) c7 (L ++ [z]) := by unfold OwnI; rw [List.map_append]; exact h7
  have o8 : OwnI w8 n₀ A7 (q + 1) c7 (L ++ [z]) := h7'.touch t8 (fun g hv e => by have := (h7'.lt g hv).1; omega)
  have tt : Touch (fun g => g = cn ∨ (Value.slice A q c).ownBlock = some g) W w8 := (t06.mono (fun k hk => .inr hk)).trans (t8.mono (fun k hk => .inl hk))
  refine ⟨bn7, fun B => ⟨tt.size, fun k o hk ho hnc => ?_⟩, ⟨tt.size, fun k hk hc => tt.block k (by omega) (fun e => by rcases e with e | e <;> first | exact hc e | (have := hng _ e; omega))⟩, bn8, o8, tt.below (by omega) (fun k hk e => by rcases e with e | e <;> first | omega | (have := hng _ e; omega))⟩
  refine (tt.block k (Array.getElem?_eq_some_iff.1 ho).1 (fun e => ?_)).trans ho
  rcases e with e | e
  · subst e
    rw [show W.heap[k]? = _ from bn] at ho; cases ho; cases hnc
  · obtain ⟨cur, zz, h3⟩ := own_cells hrow k e
    rw [h3] at ho; cases ho; cases hnc
theorem pick_range (zs : List Int) : (List.range zs.length).map (fun k => zs[k]?.getD 0) = zs := by
  apply List.ext_getElem?
  intro j
  by_cases hj : j < zs.length
  · simp [hj]
  · rw [List.getElem?_eq_none (by simp; omega), List.getElem?_eq_none (by omega)]
set_option maxHeartbeats 4000000 in
theorem appendSeq_any (Bs m c : Nat) (A : Option Addr) (zs : List Int) (w : World) (hBs : Box w Bs 23 #[.slice A m c]) (hI : Ints w w.heap.size A m zs) (hm : m ≤ 1048576) :
    Calls Tryz.prog 226 #[.slice none 0 0, .func (.func 201) #[] #[.pointer (some ⟨Bs, 0, none⟩)]] w fun e w' => ∃ A' n' c', e = .returned (.slice A' n' c') ∧ OwnI w' w.heap.size A' n' c' zs ∧ Below w.heap.size w w' := by
  have hlen := hI.1
  have hBl := hBs.lt
  have PI := Lib.hid hI
  have PB := Lib.hid hBs
  clear hI hBs
  obtain ⟨i0, hi, hz0, hz1, hz2⟩ := info_parts Tryz.infoI
  have HI := Lib.hid hi
  have HZ0 := Lib.hid hz0
  have HZ1 := Lib.hid hz1
  have HZ2 := Lib.hid hz2
  clear hi hz0 hz1 hz2
  refine (callsIn_wide (n := 6)).1 ?_
  refine callsIn_of_wp_marks Tryz.func226 rfl trivial ?_ rfl
  simp only [Tryz.ntmps226, List.size_toArray, List.length_cons, List.length_nil, Nat.reduceAdd, Nat.reduceSub, Array.replicate_succ, Array.replicate_zero, List.push_toArray, List.append_toArray, List.nil_append, List.cons_append]
  gi_wp2
  obtain ⟨W0, hW0⟩ : ∃ W0, w.alloc (.cells #[.slice none 0 0] 23) = W0 := ⟨_, rfl⟩
  have bN : Boxed W0 w.heap.size 23 (.slice none 0 0) := hW0 ▸ heap_alloc_new _ _
  have hB0 : Below w.heap.size w W0 := hW0 ▸ (Below.refl _ _).alloc (Nat.le_refl _) _
  have hsz : W0.heap.size = w.heap.size + 1 := hW0 ▸ by simp
  rw [hW0]
  clear hW0
  refine wpIn_rangeFunc_ownH rfl (by omega) (gf := 201) (lb := #[.pointer (some ⟨Bs, 0, none⟩)]) rfl trivial (enters_of Tryz.func201 (by kernel_rfl) rfl)
    (vals_stops 5 (by omega) Bs (w.heap.size + 1) w.heap.size w.heap.size m c A zs W0 (by omega) (PB.out.below hB0 hBl) (by omega) (by omega) (PI.out.below hB0) hm (by omega) (Nat.le_refl _))
    (fun h k => h.trans k) (KpB.put (by omega)) (Below.refl _ _) (fun _ => rfl)
    (fun pre W => ∃ A q c, Boxed W w.heap.size 23 (.slice A q c) ∧ OwnI W (w.heap.size + 1) A q c (pre.map (fun k => zs[k]?.getD 0)) ∧ KpB w.heap.size (w.heap.size + 1) W0 W ∧ Below w.heap.size w W)
    (fun _ _ _ => False)
    (fun pre X Y row hs hg hr => by
      obtain ⟨A, q, c, h1, h2, h4, h5⟩ := hs
      refine ⟨A, q, c, h1.kept hg (fun e => ?_), h2.abide hg (fun r e => (hr r e).2), h4.trans ⟨hg.size, fun k hk _ => hg.block k (by have := h4.1; omega) (fun e => by have := (hr k e.symm).1; omega)⟩, h5.grown hg (by have := h5.size; omega) (fun k e => by have := (hr k e).1; omega)⟩
      obtain ⟨_, o, ho, hc⟩ := hr _ e.symm
      rw [show X.heap[w.heap.size]? = _ from h1] at ho; cases ho; cases hc)
    (fun _ _ _ _ _ hs _ _ => hs)
    ⟨none, 0, 0, bN, OwnI.nil _ _, KpB.refl _ _ _, hB0⟩
    (fun x a' W => a' = { tmps := #[.slice none 0 0, .func (.func 201) #[] #[.pointer (some ⟨Bs, 0, none⟩)], .pointer (some ⟨w.heap.size, 0, none⟩), undef, .slice none 0 0, .int .i64 (zs[x]?.getD 0), .func (.func 201) #[] #[.pointer (some ⟨Bs, 0, none⟩)], .int .i64 (zs[x]?.getD 0), undef, undef, undef, undef, undef], defers := [] })
    (fun x a' _ X Y row hs hg hr => hs)
    ?assign ?body ?done ?stop
  case assign =>
    rintro l pre x W K hJ hK
    unfold encI
    gi_wp2
    exact hK _ _ (KeepsFrom.refl _ _) (KpB.refl _ _ _) hJ rfl
  case body =>
    rintro l pre x a' W hl ⟨r, hr⟩ ⟨A1, q, c1, hbn, hoi, hkp, hbel⟩ rfl hlt
    have hql := hoi.len
    simp at hql
    have hWs : w.heap.size + 1 ≤ W.heap.size := by have := hkp.1; omega
    have cn := hbn.cell
    have BN := Lib.hid hbn
    have OI := Lib.hid hoi
    have KP := Lib.hid hkp
    have BE := Lib.hid hbel
    clear hbn hoi hkp hbel hr
    obtain ⟨L, hL⟩ : ∃ L, pre.map (fun k => zs[k]?.getD 0) = L := ⟨_, rfl⟩
    have HL := Lib.hid hL
    rw [hL] at OI
    clear hL
    obtain ⟨z, hz⟩ : ∃ z, zs[x]?.getD 0 = z := ⟨_, rfl⟩
    have HZ := Lib.hid hz
    rw [hz]
    clear hz
    gi_wp2_with (gi_at_builtin; refine wpListIn_append_own _ rfl _ _ 23 rfl (w.heap.size + 1) 2 i0 (.int .i64 0) 1 8 Tryz.underlying23 HI.out HZ0.out HZ1.out HZ2.out rfl (by decide) (.slice A1 q c1) q (L.map (Value.int .i64)) (by simp [Act.eval]) (own_touch (S := fun _ => False) OI.out (Touch.of_below ((Below.refl W.heap.size W).alloc (Nat.le_refl _) _)) (fun _ _ h => h)) ⟨W.heap.size, 0, none⟩ 1 1 [.int .i64 z] (by simp [Act.eval]) rfl ?q1 ?q2 ?q3 ?q4 ?q5 ?_)
    case q1 =>
      intro j u hj
      match j, hj with
      | 0, hj => simp at hj; subst hj; simp [Addr.add]
    case q2 => intro u hu; simp at hu; subst hu; rfl
    case q3 => unfold maxLen; omega
    case q4 => omega
    case q5 => simp; omega
    intro v7 w7 hown7 hgrow7 _
    obtain ⟨A7, c7, rfl⟩ := own_slice hown7
    have PF := push1 (cn := w.heap.size) (n₀ := w.heap.size + 1) (b0 := w.heap.size) (by omega) (by omega) hWs BN.out OI.out hown7 hgrow7
    have q6 := PF.1.cell
    have f6 := PF.1.frozen
    have PF := Lib.hid PF.2
    clear hown7 hgrow7 cn
    gi_wp2
    obtain ⟨p1, p2, p3, p4, p5⟩ := PF.out
    refine ⟨p1 _, p2, _, _, _, p3, by rw [List.map_append, HL.out]; simpa [HZ.out] using p4, KP.out.trans p2, BE.out.trans p5⟩
  case done =>
    rintro D ys W hD rfl ⟨A1, q, c1, h1, h2, h4, h5⟩ hK
    have c0 := h1.cell
    rw [pick_range] at h2
    have H2 := Lib.hid h2
    have H5 := Lib.hid h5
    clear h1 h2 h4 h5
    gi_wp2
    refine ⟨by simp, .inl ⟨_, _, rfl, run_takeDeferred hK, ?_⟩⟩
    have O2 := Lib.hid (H2.out.abide (grownBy_putObj' W D (.deferred none)) (fun r e => by cases e; exact ⟨_, hK, rfl⟩))
    have B2 := Lib.hid (H5.out.trans (belowK_b (w := w) (Nat.le_refl _) W D _ (.deferred none) (by omega) hK rfl rfl))
    exact ⟨_, results_tmp rfl _ _ _, _, _, _, rfl, O2.out.base (by omega), B2.out⟩
  case stop =>
    rintro D cx pre W hD _ h
    exact h.elim
theorem collect_any (Bs m c : Nat) (A : Option Addr) (zs : List Int) (w : World) (hBs : Box w Bs 23 #[.slice A m c]) (hI : Ints w w.heap.size A m zs) (hm : m ≤ 1048576) :
    Calls Tryz.prog 199 #[.func (.func 201) #[] #[.pointer (some ⟨Bs, 0, none⟩)]] w fun e w' => ∃ A' n' c', e = .returned (.slice A' n' c') ∧ OwnI w' w.heap.size A' n' c' zs ∧ Below w.heap.size w w' := by
  go_enter Tryz.func199, Tryz.ntmps199
  go_wp2_with fail
  refine (appendSeq_any Bs m c A zs w hBs hI hm).mono ?_
  rintro e w2 ⟨A2, n2, c2, rfl, o2, b2⟩
  have O2 := Lib.hid o2
  have B2 := Lib.hid b2
  clear o2 b2 hBs hI
  go_wp2
  go_ret
  exact ⟨_, _, _, rfl, O2.out, B2.out⟩
end Go.Proofs.YtigdcmfmaehjfaaGreat

-- LaySort: slices.Sort at int64 is the library's sort: the table of its numbers here, and that its functions are those. No statement of the program is proved here.
namespace Go.Proofs.YtigdcmfmaehjfaaGreat
open Go.Shelf
def laySort_ren : Go.Shelf.Ren := ⟨fun | 5 => 200 | 8 => 228 | 7 => 227 | 19 => 246 | 20 => 247 | 10 => 238 | 11 => 239 | 12 => 240 | 13 => 241 | 14 => 242 | 15 => 243 | 16 => 154 | 17 => 244 | 18 => 245 | 30 => 249 | 31 => 250 | 32 => 251 | 33 => 252 | 34 => 253 | 35 => 203 | 40 => 254 | n => n, fun | 23 => 23 | 25 => 2 | 3 => 3 | 32 => 203 | 22 => 23 | 0 => 0 | 44 => 274 | 46 => 255 | 4 => 4 | 36 => 268 | 35 => 267 | 41 => 154 | 5 => 5 | 9 => 9 | 53 => 277 | 57 => 281 | 63 => 283 | 64 => 284 | n => n, fun | n => n⟩
theorem laySort : Go.Proofs.SlLaysM.n5 Tryz.prog laySort_ren := {
  mixed := by kernel_rfl
  f5 := ⟨Tryz.f200.name, by decide, Tryz.func200.trans (congrArg some (by kernel_rfl))⟩
  f7 := ⟨Tryz.f227.name, by decide, Tryz.func227.trans (congrArg some (by kernel_rfl))⟩
  f8 := Tryz.func228.trans (congrArg some (by kernel_rfl))
  f10 := ⟨Tryz.f238.name, by decide, Tryz.func238.trans (congrArg some (by kernel_rfl))⟩
  f11 := ⟨Tryz.f239.name, by decide, Tryz.func239.trans (congrArg some (by kernel_rfl))⟩
  f12 := ⟨Tryz.f240.name, by decide, Tryz.func240.trans (congrArg some (by kernel_rfl))⟩
  f13 := ⟨Tryz.f241.name, by decide, Tryz.func241.trans (congrArg some (by kernel_rfl))⟩
  f14 := ⟨Tryz.f242.name, by decide, Tryz.func242.trans (congrArg some (by kernel_rfl))⟩
  f15 := ⟨Tryz.f243.name, by decide, Tryz.func243.trans (congrArg some (by kernel_rfl))⟩
  f16 := ⟨Tryz.f154.name, by decide, Tryz.func154.trans (congrArg some (by kernel_rfl))⟩
  f17 := ⟨Tryz.f244.name, by decide, Tryz.func244.trans (congrArg some (by kernel_rfl))⟩
  f18 := ⟨Tryz.f245.name, by decide, Tryz.func245.trans (congrArg some (by kernel_rfl))⟩
  f19 := Tryz.func246.trans (congrArg some (by kernel_rfl))
  f20 := Tryz.func247.trans (congrArg some (by kernel_rfl))
  f30 := ⟨Tryz.f249.name, by decide, Tryz.func249.trans (congrArg some (by kernel_rfl))⟩
  f31 := Tryz.func250.trans (congrArg some (by kernel_rfl))
  f32 := Tryz.func251.trans (congrArg some (by kernel_rfl))
  f33 := ⟨Tryz.f252.name, by decide, Tryz.func252.trans (congrArg some (by kernel_rfl))⟩
  f34 := ⟨Tryz.f253.name, by decide, Tryz.func253.trans (congrArg some (by kernel_rfl))⟩
  f35 := ⟨Tryz.f203.name, by decide, Tryz.func203.trans (congrArg some (by kernel_rfl))⟩
  f40 := ⟨Tryz.f254.name, by decide, Tryz.func254.trans (congrArg some (by kernel_rfl))⟩
  t0 := Tryz.underlying0
  a0 := Tryz.isAgg0
  z0 := Tryz.sizeOf0
  v0 := Tryz.zeroValue0
  t3 := Tryz.underlying3
  a3 := Tryz.isAgg3
  z3 := Tryz.sizeOf3
  v3 := Tryz.zeroValue3
  t4 := Tryz.underlying4
  a4 := Tryz.isAgg4
  z4 := Tryz.sizeOf4
  v4 := Tryz.zeroValue4
  t5 := Tryz.underlying5
  a5 := Tryz.isAgg5
  z5 := Tryz.sizeOf5
  v5 := Tryz.zeroValue5
  t9 := Tryz.underlying9
  a9 := Tryz.isAgg9
  z9 := Tryz.sizeOf9
  v9 := Tryz.zeroValue9
  t22 := Tryz.underlying23
  a22 := Tryz.isAgg23
  z22 := Tryz.sizeOf23
  v22 := Tryz.zeroValue23
  t23 := Tryz.underlying23
  a23 := Tryz.isAgg23
  z23 := Tryz.sizeOf23
  v23 := Tryz.zeroValue23
  t25 := Tryz.underlying2
  a25 := Tryz.isAgg2
  z25 := Tryz.sizeOf2
  v25 := Tryz.zeroValue2
  t32 := Tryz.underlying203
  a32 := Tryz.isAgg203
  z32 := Tryz.sizeOf203
  v32 := Tryz.zeroValue203
  t35 := Tryz.underlying267
  a35 := Tryz.isAgg267
  z35 := Tryz.sizeOf267
  v35 := Tryz.zeroValue267
  t36 := Tryz.underlying268
  a36 := Tryz.isAgg268
  z36 := Tryz.sizeOf268
  v36 := Tryz.zeroValue268
  t41 := Tryz.underlying154
  a41 := Tryz.isAgg154
  z41 := Tryz.sizeOf154
  v41 := Tryz.zeroValue154
  t44 := Tryz.underlying274
  a44 := Tryz.isAgg274
  z44 := Tryz.sizeOf274
  v44 := Tryz.zeroValue274
  t46 := Tryz.underlying255
  a46 := Tryz.isAgg255
  z46 := Tryz.sizeOf255
  v46 := Tryz.zeroValue255
  t53 := Tryz.underlying277
  a53 := Tryz.isAgg277
  z53 := Tryz.sizeOf277
  v53 := Tryz.zeroValue277
  t57 := Tryz.underlying281
  a57 := Tryz.isAgg281
  z57 := Tryz.sizeOf281
  v57 := Tryz.zeroValue281
  t63 := Tryz.underlying283
  a63 := Tryz.isAgg283
  z63 := Tryz.sizeOf283
  v63 := Tryz.zeroValue283
  t64 := Tryz.underlying284
  a64 := Tryz.isAgg284
  z64 := Tryz.sizeOf284
  v64 := Tryz.zeroValue284 }
end Go.Proofs.YtigdcmfmaehjfaaGreat

-- SortedI: slices.Sorted of slices.Values at int64, as the program calls it. No statement of the program is proved here.
namespace Go.Proofs.YtigdcmfmaehjfaaGreat
set_option maxRecDepth 100000
set_option linter.unusedVariables false
set_option linter.unusedSimpArgs false
open Go.RowKit Go.Sort

theorem sort_none (p : Option Addr) (cap : Nat) (w : World) : Calls Tryz.prog 200 #[.slice p 0 cap] w fun e w' => e = .returned (.tuple #[]) ∧ w' = w := AnyM.slices_Sort_int_none laySort p cap w
theorem sort_some (g cap : Nat) (zs : List Int) (w : World) (hH : Holds (Value.int .i64) w g 0 zs.toArray) (hblk : g < w.heap.size) (hsz : zs.length < 4611686018427387904) :
    Calls Tryz.prog 200 #[.slice (some ⟨g, 0, none⟩) zs.length cap] w fun e w' =>
      e = .returned (.tuple #[]) ∧ ∃ n os, w' = grow (putRow (Value.int .i64) (Sort.ahead w n) g 0 (zs.mergeSort fun x y => decide (x ≤ y)).toArray) os :=
  calls_of_every_depth fun D => AnySM.slices_Sort_int_in laySort D g 0 cap zs w hH hblk hsz
set_option maxHeartbeats 1600000 in
theorem sorted_any (Bs m c : Nat) (A : Option Addr) (zs : List Int) (w : World) (hBs : Box w Bs 23 #[.slice A m c]) (hI : Ints w w.heap.size A m zs) (hm : m ≤ 1048576) :
    Calls Tryz.prog 149 #[.func (.func 201) #[] #[.pointer (some ⟨Bs, 0, none⟩)]] w fun e w' => ∃ A' n' c', e = .returned (.slice A' n' c') ∧ OwnI w' w.heap.size A' n' c' (zs.mergeSort fun x y => decide (x ≤ y)) ∧ n' = zs.length ∧ Below w.heap.size w w' := by
  have hlen := hI.1
  have HLE := Lib.hid hlen
  clear hlen
  go_enter Tryz.func149, Tryz.ntmps149
  go_wp2_with fail
  refine (collect_any Bs m c A zs w hBs hI hm).mono ?_
  rintro e w2 ⟨A2, n2, c2, rfl, o2, b2⟩
  have h2 := o2.len
  have B2 := Lib.hid b2
  have s2 := b2.size
  have hln : (zs.mergeSort fun x y => decide (x ≤ y)).length = zs.length := List.length_mergeSort zs
  have HLN := Lib.hid hln
  clear b2 hBs hI hln
  rcases o2.2 with ⟨hv, hz⟩ | ⟨g, cap, cur, hv, hbase, hg, r1, r2, r3, r4⟩
  · cases hv
    have hz0 : zs = [] := List.eq_nil_of_length_eq_zero h2
    subst hz0
    clear o2
    go_wp2_with fail
    refine (sort_none none 0 w2).mono ?_
    rintro e w3 ⟨rfl, rfl⟩
    go_wp2
    go_ret
    exact ⟨_, _, _, rfl, by simpa using OwnI.nil _ _, rfl, B2.out⟩
  · cases hv
    subst h2
    have hgl : g < w2.heap.size := (Array.getElem?_eq_some_iff.1 hg).1
    have hH : Holds (Value.int .i64) w2 g 0 zs.toArray := holds_of_blockI hg (by simpa using r4)
    have CS := sort_some g c2 zs w2 hH hgl (by have := HLE.out; omega)
    have HG := Lib.hid hg
    clear o2 hH hg r4
    go_wp2_with fail
    refine CS.mono ?_
    rintro e w3 ⟨rfl, k, os, hw3⟩
    have o3 : w3.ownsRow w.heap.size 2 1 (.slice (some ⟨g, 0, none⟩) zs.length c2) zs.length ((zs.mergeSort fun x y => decide (x ≤ y)).map (Value.int .i64)) := by
      rw [hw3]
      exact ownsRow_sortedI HLN.out hbase HG.out r1 r2 r3
    have b3 : Below w.heap.size w w3 := B2.out.grown (by rw [hw3]; exact grownBy_sortedI _) s2 (fun j hj => by cases hj; exact hbase)
    have O3 := Lib.hid o3
    have B3 := Lib.hid b3
    clear CS hw3 o3 b3
    go_wp2
    go_ret
    exact ⟨_, _, _, rfl, O3.out, rfl, B3.out⟩
end Go.Proofs.YtigdcmfmaehjfaaGreat
