/- Several texts in one, in build order: DelI, DelN, SlDrop, QuietR, Keep, IterN, Round, NodeY, CellsOf, CellQ, CellR, CellT, CellU. -/
import Derived.Test.YtdhnhgppapkikaaPkE
import Derived.Sort.QuietIn
import Derived.RangeFuncNested
import Derived.RangeFuncBound
import Derived.RangeFuncCalls
import Derived.RangeFuncLeaves
import Derived.RangeFuncBox
import Derived.Shelf.Abstract
import Derived.Shelf.RegionOpen
import Derived.OwnWalkIn
import Derived.TacticsInMore
import Derived.LoopNIn
import Derived.LoopIn
import Derived.Deep.RegionLaw
import Derived.Orders
import Derived.Lib.AppendStr
import Derived.StillTailTactics
-- DelI: slices.Delete of one element, as the program calls it, at one type of element. No statement of the program is proved here.
namespace Go.Proofs.Ytdhnhgppapkikaa
set_option maxRecDepth 100000
set_option linter.unusedVariables false
set_option linter.unusedSimpArgs false
open Go.RowKit

/-- an append whose run is known, as a step of a region that draws. -/
theorem step_append_runI {P : Program} {ops : Array Oper} {o : Oper} {a : Act} {w : World} {K : Act → World → Prop} {Q : Exit → Act → World → Prop} {E : Prop}
    (hg : o.guard = none) (d x : Operand) (dT sT : TypeId) (hop : o.op = Op.call { callee := Callee.builtin Builtin.append, args := #[d, x], argTypes := #[dT, sT] })
    (v u : Value) (hd : a.eval d = v) (hx : a.eval x = u) {v' : Value} {w' : World} (hr : (Builtin.append_ #[dT, sT] o.type #[v, u]).run P w = .ok v' w') (hK : K (a.put o.dst v') w') :
    if Region.wanted o (yielded ops a.tmps) = true then Oper.wp P o a w K Q else E := by
  have hw : Region.wanted o (yielded ops a.tmps) = true := by simp [Region.wanted, hg]
  rw [if_pos hw]
  unfold Oper.wp
  simp [execOp, hop, resolve, invoke, builtin, hd, hx, hr, Result.andThen]
  exact hK
theorem run_clear_oneI {P : Program} (w : World) (t e ty : TypeId) (z : Value) (g o c : Nat) (cur : Array Value) (et : TypeId) (ht : P.underlying t = some (.slice e)) (hv : ∀ w, (zeroValue e).run P w = .ok z w)
    (h1 : ∀ v ∈ (Builtin.zeroCells z.cells 1).toList, v.oneCell' = true) (hg : w.heap[g]? = some (.cells cur et (0, 0))) (hfit : o + (Builtin.zeroCells z.cells 1).size ≤ cur.size) :
    (Builtin.clear_ #[t] ty #[.slice (some ⟨g, o, none⟩) 1 c]).run P w = .ok (.tuple #[]) (w.setRow g (cur.toList.take o ++ (Builtin.zeroCells z.cells 1).toList ++ cur.toList.drop (o + (Builtin.zeroCells z.cells 1).size)).toArray) := by
  have hst := run_storeCells_at P g o et (Builtin.zeroCells z.cells 1).toList 0 cur w hg (by simpa using hfit) h1
  simp [Builtin.clear_, run_underlying ht, hv, hst]
theorem Try.zeroDelI : ∀ w, (zeroValue 2).run Try.prog w = .ok (.int .i64 0) w := by
  intro w
  obtain ⟨i0, hi0, hz0, hz1, hz2⟩ := info_parts Try.infoInsI
  simp [zeroValue, typeInfo, hi0, hz0]
set_option maxHeartbeats 4000000 in
theorem delI_any (base p c i g : Nat) (xs : List Value) (w : World) (hr : w.ownsRow base 2 1 (.slice (some ⟨g, 0, none⟩) (p + 1) c) (p + 1) xs) (hi : i ≤ p) (hn : p + 1 ≤ 1048576) (h1x : ∀ u ∈ xs, u.oneCell' = true) :
    Calls Try.prog 53 #[.slice (some ⟨g, 0, none⟩) (p + 1) c, .int .i64 i, .int .i64 ((i : Int) + 1)] w fun e w' => e = .returned (.slice (some ⟨g, 0, none⟩) p c) ∧
      w'.ownsRow base 2 1 (.slice (some ⟨g, 0, none⟩) p c) p (xs.take (i * 1) ++ xs.drop ((i + 1) * 1)) ∧ w.grownBy w' (some g) := by
  obtain ⟨i0, hi0, hz0, hz1, hz2⟩ := info_parts Try.infoInsI
  obtain ⟨cur, hbg, hg, hnc, hcm, hcs, htk⟩ := own_parts hr
  have hxl := hr.1
  have hcl : cur.toList.length = c * 1 := by simpa using hcs
  obtain ⟨news, hnews⟩ : ∃ news, news = xs.drop ((i + 1) * 1) := ⟨_, rfl⟩
  have hnl : news.length = (p - i) * 1 := by rw [hnews]; simp; omega
  obtain ⟨AD, hAD, hsrc⟩ : ∃ AD : Addr, (if c = i + 1 then (⟨g, 0, none⟩ : Addr) else ⟨g, (i + 1), none⟩) = AD ∧ ∀ t u, news[t]? = some u → w.drew.cell? (AD.add t) = some u := by
    by_cases h : c = i + 1
    · refine ⟨⟨g, 0, none⟩, by simp [h], fun t u hu => ?_⟩
      have h0 : news.length = 0 := by rw [hnl]; omega
      rw [List.length_eq_zero_iff.1 h0] at hu
      simp at hu
    · refine ⟨⟨g, (i + 1) * 1, none⟩, by simp [h], fun t u hu => ?_⟩
      have ht := (List.getElem?_eq_some_iff.1 hu).1
      rw [Addr.add_lit]
      rw [hnews, List.getElem?_drop] at hu
      exact (World.ownsRow.cellAt hr _ (by omega)).trans hu
  obtain ⟨c1, hc1⟩ : ∃ c1 : List Value, c1 = cur.toList.take (i * 1) ++ news ++ cur.toList.drop (i * 1 + news.length) := ⟨_, rfl⟩
  have lc1 : c1.length = c * 1 := by rw [hc1]; simp [hcs]; omega
  obtain ⟨W1, hW1⟩ : ∃ W1, W1 = w.drew.setRow g c1.toArray := ⟨_, rfl⟩
  have hap : ∀ ty dc, (Builtin.append_ #[23, 23] ty #[.slice (some ⟨g, 0, none⟩) i c, .slice (some AD) (p - i) dc]).run Try.prog w.drew = .ok (.slice (some ⟨g, 0, none⟩) p c) W1 := fun ty dc => by
    have h := run_append_room (P := Try.prog) w.drew 23 ty 2 i0 Try.underlying23 hi0 g i c cur hg AD (p - i) dc news (by rw [hz1]; exact hnl) hsrc (fun u hu => h1x u (by rw [hnews] at hu; exact List.mem_of_mem_drop hu)) (by omega) (by rw [hz1, hcs, hnl]; omega)
    rw [hz1, show i + (p - i) = p by omega] at h
    rw [hW1, hc1]
    exact h
  have hg1 : W1.heap[g]? = some (.cells c1.toArray 2 (0, 0)) := by rw [hW1]; exact setRow_heap w.drew _ _ _ _ _ hg
  have zl : (Builtin.zeroCells (.int .i64 0 : Value).cells 1).size = 1 := by simp [Builtin.zeroCells, Value.cells]
  obtain ⟨zs, hzs⟩ : ∃ zs, zs = (Builtin.zeroCells (.int .i64 0 : Value).cells 1).toList := ⟨_, rfl⟩
  have zsl : zs.length = 1 := by rw [hzs]; simpa using zl
  obtain ⟨c2, hc2⟩ : ∃ c2 : List Value, c2 = c1.take (p * 1) ++ zs ++ c1.drop (p * 1 + 1) := ⟨_, rfl⟩
  obtain ⟨W2, hW2⟩ : ∃ W2, W2 = W1.setRow g c2.toArray := ⟨_, rfl⟩
  have hcl2 : ∀ ty dc, (Builtin.clear_ #[23] ty #[.slice (some ⟨g, p, none⟩) 1 dc]).run Try.prog W1 = .ok (.tuple #[]) W2 := fun ty dc => by
    have h := run_clear_oneI (P := Try.prog) W1 23 2 ty (.int .i64 0) g (p * 1) dc c1.toArray 2 Try.underlying23 Try.zeroDelI (List.all_eq_true.1 (by kernel_rfl)) hg1 (by rw [zl]; simp [lc1]; omega)
    rw [hW2, hc2, hzs]
    rw [zl] at h
    simpa using h
  have hfin : W2.ownsRow base 2 1 (.slice (some ⟨g, 0, none⟩) p c) p (xs.take (i * 1) ++ xs.drop ((i + 1) * 1)) ∧ w.grownBy W2 (some g) := by
    refine ⟨own_mk c2.toArray (by simp; omega) hbg (by rw [hW2]; exact setRow_heap W1 _ _ _ _ _ hg1) (by omega) hcm (by simp [hc2, lc1, zsl]; omega) ?_, ?_⟩
    · have e1 : cur.toList.take (i * 1) = xs.take (i * 1) := by rw [← htk, List.take_take, Nat.min_eq_left (by omega)]
      have e2 : (xs.take (i * 1)).length = i * 1 := by rw [List.length_take]; omega
      rw [← hnews]
      simp only [hc2, hc1, e1]
      rw [List.append_assoc, List.take_append_of_le_length (by simp [e2, hcs]; omega), List.take_take, Nat.min_self]
      rw [List.take_append_of_le_length (by simp [e2, hnl]; omega), List.take_of_length_le (by simp [e2, hnl]; omega)]
    · refine ⟨by rw [hW2, hW1]; rfl, by rw [hW2, hW1]; rfl, by rw [hW2, hW1]; rfl, by rw [hW2, hW1]; simp, fun k hk hkg => ?_⟩
      have hkg : k ≠ g := fun e => hkg (by rw [e])
      rw [hW2, setRow_other W1 _ k _ hkg, hW1, setRow_other w.drew _ k _ hkg]; rfl
  have hsame : c = i + 1 → W1 = w.drew := fun h => by
    have h0 : news = [] := List.length_eq_zero_iff.1 (by rw [hnl]; omega)
    rw [hW1, hc1, h0]
    simp only [List.append_nil, List.length_nil, Nat.add_zero, List.take_append_drop, Array.toArray_toList]
    exact setRow_self w.drew g cur _ (0, 0) hg
  have HS := Lib.hid hsame
  have HF := Lib.hid hfin
  have HA := Lib.hid hap
  have HB := Lib.hid hcl2
  have HAD := Lib.hid hAD
  unfold maxLen at hcm
  clear hsame hfin hap hcl2 hg1 hW1 hW2 hc1 hc2 lc1 hcl htk hcs hr hsrc hnews hnl hzs zsl zl hz0 hz1 hz2 hi0 hg
  have mixed : Try.prog.follows .mixedOrders = true := by kernel_rfl
  have hw1 : IntKind.i64.wrap ((i : Int) + 1) = (i : Int) + 1 := by rw [IntKind.wrap_i64]; omega
  have hb1 : (0 : Int) ≤ (i : Int) + 1 := by omega
  have htn : ((i : Int) + 1).toNat = i + 1 := by omega
  have hij : ¬ ((i : Int) = (i : Int) + 1) := by omega
  have hb3 : (i : Int) ≤ (p : Int) := by omega
  have hic : i ≤ c := by omega
  have hjc : i + 1 ≤ c := by omega
  have hcp : ¬ (c = p) := by omega
  have hb9 : (i : Int) ≤ (i : Int) + 1 := by omega
  by_cases hcj : c = i + 1
  · have hAD := HAD.out
    rw [if_pos hcj] at hAD
    subst hAD
    obtain rfl : i = p := by omega
    have hw := HS.out hcj
    subst hw
    subst hcj
    go_enter Try.func53, Try.ntmps53
    go_wp2_with fail
    go_region_law_o (fail)
    go_wp2_with (simp only [HB.out])
    go_ret
    exact ⟨rfl, HF.out⟩
  · have hAD := HAD.out
    rw [if_neg hcj] at hAD
    subst hAD
    go_enter Try.func53, Try.ntmps53
    go_wp2_with fail
    go_region_law_o (refine step_append_runI rfl _ _ 23 23 rfl _ _ (by simp [Act.eval, Act.put]) (by simp [Act.eval, Act.put]) (HA.out _ (c - (i + 1))) ?_)
    go_wp2_with (simp only [HB.out])
    go_ret
    exact ⟨rfl, HF.out⟩
end Go.Proofs.Ytdhnhgppapkikaa

-- DelN: slices.Delete of one element, as the program calls it, at one type of element. No statement of the program is proved here.
namespace Go.Proofs.Ytdhnhgppapkikaa
set_option maxRecDepth 100000
set_option linter.unusedVariables false
set_option linter.unusedSimpArgs false
open Go.RowKit

/-- an append whose run is known, as a step of a region that draws. -/
theorem step_append_runN {P : Program} {ops : Array Oper} {o : Oper} {a : Act} {w : World} {K : Act → World → Prop} {Q : Exit → Act → World → Prop} {E : Prop}
    (hg : o.guard = none) (d x : Operand) (dT sT : TypeId) (hop : o.op = Op.call { callee := Callee.builtin Builtin.append, args := #[d, x], argTypes := #[dT, sT] })
    (v u : Value) (hd : a.eval d = v) (hx : a.eval x = u) {v' : Value} {w' : World} (hr : (Builtin.append_ #[dT, sT] o.type #[v, u]).run P w = .ok v' w') (hK : K (a.put o.dst v') w') :
    if Region.wanted o (yielded ops a.tmps) = true then Oper.wp P o a w K Q else E := by
  have hw : Region.wanted o (yielded ops a.tmps) = true := by simp [Region.wanted, hg]
  rw [if_pos hw]
  unfold Oper.wp
  simp [execOp, hop, resolve, invoke, builtin, hd, hx, hr, Result.andThen]
  exact hK
theorem run_clear_oneN {P : Program} (w : World) (t e ty : TypeId) (z : Value) (g o c : Nat) (cur : Array Value) (et : TypeId) (ht : P.underlying t = some (.slice e)) (hv : ∀ w, (zeroValue e).run P w = .ok z w)
    (h1 : ∀ v ∈ (Builtin.zeroCells z.cells 1).toList, v.oneCell' = true) (hg : w.heap[g]? = some (.cells cur et (0, 0))) (hfit : o + (Builtin.zeroCells z.cells 1).size ≤ cur.size) :
    (Builtin.clear_ #[t] ty #[.slice (some ⟨g, o, none⟩) 1 c]).run P w = .ok (.tuple #[]) (w.setRow g (cur.toList.take o ++ (Builtin.zeroCells z.cells 1).toList ++ cur.toList.drop (o + (Builtin.zeroCells z.cells 1).size)).toArray) := by
  have hst := run_storeCells_at P g o et (Builtin.zeroCells z.cells 1).toList 0 cur w hg (by simpa using hfit) h1
  simp [Builtin.clear_, run_underlying ht, hv, hst]
theorem Try.zeroDelN : ∀ w, (zeroValue 35).run Try.prog w = .ok (.agg #[.int .i64 0, .slice none 0 0, .slice none 0 0, .string ⟨#[]⟩]) w := by
  intro w
  obtain ⟨i0, hi0, hz0, hz1, hz2⟩ := info_parts Try.infoInsN
  simp [zeroValue, typeInfo, hi0, hz0]
set_option maxHeartbeats 4000000 in
theorem delN_any (base p c i g : Nat) (xs : List Value) (w : World) (hr : w.ownsRow base 35 4 (.slice (some ⟨g, 0, none⟩) (p + 1) c) (p + 1) xs) (hi : i ≤ p) (hn : p + 1 ≤ 1048576) (h1x : ∀ u ∈ xs, u.oneCell' = true) :
    Calls Try.prog 54 #[.slice (some ⟨g, 0, none⟩) (p + 1) c, .int .i64 i, .int .i64 ((i : Int) + 1)] w fun e w' => e = .returned (.slice (some ⟨g, 0, none⟩) p c) ∧
      w'.ownsRow base 35 4 (.slice (some ⟨g, 0, none⟩) p c) p (xs.take (i * 4) ++ xs.drop ((i + 1) * 4)) ∧ w.grownBy w' (some g) := by
  obtain ⟨i0, hi0, hz0, hz1, hz2⟩ := info_parts Try.infoInsN
  obtain ⟨cur, hbg, hg, hnc, hcm, hcs, htk⟩ := own_parts hr
  have hxl := hr.1
  have hcl : cur.toList.length = c * 4 := by simpa using hcs
  obtain ⟨news, hnews⟩ : ∃ news, news = xs.drop ((i + 1) * 4) := ⟨_, rfl⟩
  have hnl : news.length = (p - i) * 4 := by rw [hnews]; simp; omega
  obtain ⟨AD, hAD, hsrc⟩ : ∃ AD : Addr, (if c = i + 1 then (⟨g, 0, none⟩ : Addr) else ⟨g, (i + 1) * 4, none⟩) = AD ∧ ∀ t u, news[t]? = some u → w.drew.cell? (AD.add t) = some u := by
    by_cases h : c = i + 1
    · refine ⟨⟨g, 0, none⟩, by simp [h], fun t u hu => ?_⟩
      have h0 : news.length = 0 := by rw [hnl]; omega
      rw [List.length_eq_zero_iff.1 h0] at hu
      simp at hu
    · refine ⟨⟨g, (i + 1) * 4, none⟩, by simp [h], fun t u hu => ?_⟩
      have ht := (List.getElem?_eq_some_iff.1 hu).1
      rw [Addr.add_lit]
      rw [hnews, List.getElem?_drop] at hu
      exact (World.ownsRow.cellAt hr _ (by omega)).trans hu
  obtain ⟨c1, hc1⟩ : ∃ c1 : List Value, c1 = cur.toList.take (i * 4) ++ news ++ cur.toList.drop (i * 4 + news.length) := ⟨_, rfl⟩
  have lc1 : c1.length = c * 4 := by rw [hc1]; simp [hcs]; omega
  obtain ⟨W1, hW1⟩ : ∃ W1, W1 = w.drew.setRow g c1.toArray := ⟨_, rfl⟩
  have hap : ∀ ty dc, (Builtin.append_ #[57, 57] ty #[.slice (some ⟨g, 0, none⟩) i c, .slice (some AD) (p - i) dc]).run Try.prog w.drew = .ok (.slice (some ⟨g, 0, none⟩) p c) W1 := fun ty dc => by
    have h := run_append_room (P := Try.prog) w.drew 57 ty 35 i0 Try.underlying57 hi0 g i c cur hg AD (p - i) dc news (by rw [hz1]; exact hnl) hsrc (fun u hu => h1x u (by rw [hnews] at hu; exact List.mem_of_mem_drop hu)) (by omega) (by rw [hz1, hcs, hnl]; omega)
    rw [hz1, show i + (p - i) = p by omega] at h
    rw [hW1, hc1]
    exact h
  have hg1 : W1.heap[g]? = some (.cells c1.toArray 35 (0, 0)) := by rw [hW1]; exact setRow_heap w.drew _ _ _ _ _ hg
  have zl : (Builtin.zeroCells (.agg #[.int .i64 0, .slice none 0 0, .slice none 0 0, .string ⟨#[]⟩] : Value).cells 1).size = 4 := by simp [Builtin.zeroCells, Value.cells]
  obtain ⟨zs, hzs⟩ : ∃ zs, zs = (Builtin.zeroCells (.agg #[.int .i64 0, .slice none 0 0, .slice none 0 0, .string ⟨#[]⟩] : Value).cells 1).toList := ⟨_, rfl⟩
  have zsl : zs.length = 4 := by rw [hzs]; simpa using zl
  obtain ⟨c2, hc2⟩ : ∃ c2 : List Value, c2 = c1.take (p * 4) ++ zs ++ c1.drop (p * 4 + 4) := ⟨_, rfl⟩
  obtain ⟨W2, hW2⟩ : ∃ W2, W2 = W1.setRow g c2.toArray := ⟨_, rfl⟩
  have hcl2 : ∀ ty dc, (Builtin.clear_ #[57] ty #[.slice (some ⟨g, p * 4, none⟩) 1 dc]).run Try.prog W1 = .ok (.tuple #[]) W2 := fun ty dc => by
    have h := run_clear_oneN (P := Try.prog) W1 57 35 ty (.agg #[.int .i64 0, .slice none 0 0, .slice none 0 0, .string ⟨#[]⟩]) g (p * 4) dc c1.toArray 35 Try.underlying57 Try.zeroDelN (List.all_eq_true.1 (by kernel_rfl)) hg1 (by rw [zl]; simp [lc1]; omega)
    rw [hW2, hc2, hzs]
    rw [zl] at h
    simpa using h
  have hfin : W2.ownsRow base 35 4 (.slice (some ⟨g, 0, none⟩) p c) p (xs.take (i * 4) ++ xs.drop ((i + 1) * 4)) ∧ w.grownBy W2 (some g) := by
    refine ⟨own_mk c2.toArray (by simp; omega) hbg (by rw [hW2]; exact setRow_heap W1 _ _ _ _ _ hg1) (by omega) hcm (by simp [hc2, lc1, zsl]; omega) ?_, ?_⟩
    · have e1 : cur.toList.take (i * 4) = xs.take (i * 4) := by rw [← htk, List.take_take, Nat.min_eq_left (by omega)]
      have e2 : (xs.take (i * 4)).length = i * 4 := by rw [List.length_take]; omega
      rw [← hnews]
      simp only [hc2, hc1, e1]
      rw [List.append_assoc, List.take_append_of_le_length (by simp [e2, hcs]; omega), List.take_take, Nat.min_self]
      rw [List.take_append_of_le_length (by simp [e2, hnl]; omega), List.take_of_length_le (by simp [e2, hnl]; omega)]
    · refine ⟨by rw [hW2, hW1]; rfl, by rw [hW2, hW1]; rfl, by rw [hW2, hW1]; rfl, by rw [hW2, hW1]; simp, fun k hk hkg => ?_⟩
      have hkg : k ≠ g := fun e => hkg (by rw [e])
      rw [hW2, setRow_other W1 _ k _ hkg, hW1, setRow_other w.drew _ k _ hkg]; rfl
  have hsame : c = i + 1 → W1 = w.drew := fun h => by
    have h0 : news = [] := List.length_eq_zero_iff.1 (by rw [hnl]; omega)
    rw [hW1, hc1, h0]
    simp only [List.append_nil, List.length_nil, Nat.add_zero, List.take_append_drop, Array.toArray_toList]
    exact setRow_self w.drew g cur _ (0, 0) hg
  have HS := Lib.hid hsame
  have HF := Lib.hid hfin
  have HA := Lib.hid hap
  have HB := Lib.hid hcl2
  have HAD := Lib.hid hAD
  unfold maxLen at hcm
  clear hsame hfin hap hcl2 hg1 hW1 hW2 hc1 hc2 lc1 hcl htk hcs hr hsrc hnews hnl hzs zsl zl hz0 hz1 hz2 hi0 hg
  have mixed : Try.prog.follows .mixedOrders = true := by kernel_rfl
  have hw1 : IntKind.i64.wrap ((i : Int) + 1) = (i : Int) + 1 := by rw [IntKind.wrap_i64]; omega
  have hb1 : (0 : Int) ≤ (i : Int) + 1 := by omega
  have htn : ((i : Int) + 1).toNat = i + 1 := by omega
  have hij : ¬ ((i : Int) = (i : Int) + 1) := by omega
  have hb3 : (i : Int) ≤ (p : Int) := by omega
  have hic : i ≤ c := by omega
  have hjc : i + 1 ≤ c := by omega
  have hcp : ¬ (c = p) := by omega
  have hb9 : (i : Int) ≤ (i : Int) + 1 := by omega
  by_cases hcj : c = i + 1
  · have hAD := HAD.out
    rw [if_pos hcj] at hAD
    subst hAD
    obtain rfl : i = p := by omega
    have hw := HS.out hcj
    subst hw
    subst hcj
    go_enter Try.func54, Try.ntmps54
    go_wp2_with fail
    go_region_law_o (fail)
    go_wp2_with (simp only [HB.out])
    go_ret
    exact ⟨rfl, HF.out⟩
  · have hAD := HAD.out
    rw [if_neg hcj] at hAD
    subst hAD
    go_enter Try.func54, Try.ntmps54
    go_wp2_with fail
    go_region_law_o (refine step_append_runN rfl _ _ 57 57 rfl _ _ (by simp [Act.eval, Act.put]) (by simp [Act.eval, Act.put]) (HA.out _ (c - (i + 1))) ?_)
    go_wp2_with (simp only [HB.out])
    go_ret
    exact ⟨rfl, HF.out⟩
end Go.Proofs.Ytdhnhgppapkikaa

-- SlDrop: Taking a name out of the list of nodes.
namespace Go.Proofs.Ytdhnhgppapkikaa
set_option maxRecDepth 100000
set_option linter.unusedVariables false
set_option linter.unusedSimpArgs false
open Go.RowKit

/-- a list without what stands at a place. -/
def delP {α : Type} (l : List α) (i : Nat) : List α := l.take i ++ l.drop (i + 1)
theorem delP_len {α : Type} (l : List α) (i : Nat) (h : i < l.length) : (delP l i).length = l.length - 1 := by unfold delP; simp; omega
theorem delP_mem {α : Type} (l : List α) (i : Nat) (x : α) (h : x ∈ delP l i) : x ∈ l := by
  unfold delP at h
  rcases List.mem_append.1 h with h | h
  · exact List.mem_of_mem_take h
  · exact List.mem_of_mem_drop h
theorem delP_sub {α : Type} (l : List α) (i : Nat) : (delP l i).Sublist l := by
  unfold delP
  conv => rhs; rw [← List.take_append_drop i l]
  refine List.Sublist.append (List.Sublist.refl _) ?_
  rw [show l.drop (i + 1) = (l.drop i).drop 1 by rw [List.drop_drop]]
  exact List.drop_sublist _ _
theorem kvs_del (ps : List (Int × NV)) (i : Nat) : (((kvs ps).map (Value.int .i64)).take (i * 1) ++ ((kvs ps).map (Value.int .i64)).drop ((i + 1) * 1)) = (kvs (delP ps i)).map (Value.int .i64) := by
  unfold kvs delP
  simp [List.map_take, List.map_drop]
theorem nvs_del (ps : List (Int × NV)) (i : Nat) : (nvs ps).take (i * 4) ++ (nvs ps).drop ((i + 1) * 4) = nvs (delP ps i) := by
  unfold nvs delP
  rw [flat_take _ 4 (fun x => rfl), flat_drop _ 4 (fun x => rfl), List.flatMap_append]
set_option maxHeartbeats 2000000 in
theorem drop_any (p lo : Nat) (R : SR) (ps : List (Int × NV)) (m : Int) (w : World) (hx : Box w p 59 #[R.kv ps.length, R.vv ps.length]) (h : SLN w lo R ps)
    (hpp : ∀ y ∈ ps, ∀ g, y.2.use g → g ≠ p) :
    Calls Try.prog 28 #[.pointer (some ⟨p, 0, none⟩), .int .i64 m] w fun e w' =>
      (hitI (kvs ps) m = false ∧ e = .returned (.bool false) ∧ Below w.heap.size w w') ∨
      (hitI (kvs ps) m = true ∧ e = .returned (.bool true) ∧ Box w' p 59 #[R.kv (ps.length - 1), R.vv (ps.length - 1)] ∧ SLN w' lo R (delP ps (lowI (kvs ps) m)) ∧ Touch (fun g => g = p ∨ R.at_ g) w w') := by
  have mixed : Try.prog.follows .mixedOrders = true := by kernel_rfl
  have hlen := h.len
  have hp := hx.lt
  have HS := Lib.hid h
  have P1 := Lib.hid hx
  clear hx h
  have q0 := P1.out.cell 0
  have q1 := P1.out.cell 1
  unfold SR.kv at q0
  unfold SR.vv at q1
  simp at q0 q1
  go_enter Try.func28, Try.ntmps28
  go_wp2_with fail
  refine (search_any R.Ak ps.length R.ck (kvs ps) m w.heap.size w (by omega) HS.out.keys.ints HS.out.rise).mono ?_
  rintro e w2 ⟨rfl, nq, hq⟩
  have b2 : Below w.heap.size w w2 := by rw [hq]; exact below_drewN (Below.refl _ _) nq
  have P2 := Lib.hid (P1.out.below b2 (by omega))
  have S2 := Lib.hid (HS.out.below b2)
  have B2 := Lib.hid b2
  have hs2 : w2.heap.size = w.heap.size := by rw [hq]; rfl
  clear hq b2 q0 q1
  have q0 := P2.out.cell 0
  have q1 := P2.out.cell 1
  have f2 := P2.out.free
  unfold SR.kv at q0
  unfold SR.vv at q1
  simp at q0 q1
  obtain ⟨ht, hht⟩ : ∃ ht, hitI (kvs ps) m = ht := ⟨_, rfl⟩
  have HT := Lib.hid hht
  rw [hht]
  clear hht
  cases ht with
  | false =>
    obtain ⟨i, hi⟩ : ∃ i, lowI (kvs ps) m = i := ⟨_, rfl⟩
    rw [hi]
    clear hi
    go_wp2
    go_ret
    exact .inl ⟨HT.out, rfl, B2.out⟩
  | true =>
    obtain ⟨hk, _⟩ := hit_parts ps m HT.out
    obtain ⟨i, hi⟩ : ∃ i, lowI (kvs ps) m = i := ⟨_, rfl⟩
    have HI := Lib.hid hi
    rw [hi] at hk ⊢
    clear hi
    obtain ⟨q, hq⟩ : ∃ q, ps.length = q + 1 := ⟨ps.length - 1, by omega⟩
    have hkeys := S2.out.keys
    have hvals := S2.out.vals
    have hcap := own_cap hkeys
    have hcapv := own_cap hvals
    obtain ⟨gk, hgk, _⟩ := S2.out.keys.form (by omega)
    obtain ⟨gv, hgv, _⟩ := S2.out.row (by omega)
    have hw1 : IntKind.i64.wrap ((i : Int) + 1) = (i : Int) + 1 := by rw [IntKind.wrap_i64]; omega
    rw [hgk, hq] at hkeys q0
    rw [hgv, hq] at hvals q1
    have VS := Lib.hid hvals
    have KS := Lib.hid hkeys
    clear hkeys hvals
    go_wp2_with fail
    refine (delI_any lo q R.ck i gk ((kvs ps).map (Value.int .i64)) w2 KS.out (by omega) (by omega) (kvs_one _)).mono ?_
    rintro e w3 ⟨rfl, o3, gr3⟩
    rw [kvs_del] at o3
    have t3 := Touch.of_grown gr3
    have gkp : gk ≠ p := fun e => own_box_ne KS.out P2.out (by decide) (by rw [e]; rfl)
    have gvp : gv ≠ p := fun e => own_box_ne VS.out P2.out (by decide) (by rw [e]; rfl)
    have gkv : gk ≠ gv := fun e => own_own_ne KS.out VS.out (by decide) gk rfl (by rw [e]; rfl)
    have p3 : Box w3 p 59 #[R.kv ps.length, R.vv ps.length] := (t3.block p (by omega) (fun e => gkp (by injection e with e; omega))).trans P2.out
    have v3 := own_touch VS.out t3 (fun g hg e => gkv (by have e1 : gv = g := (by simpa [Value.ownBlock] using hg); injection e with e; omega))
    obtain ⟨w4, hw4⟩ : ∃ w4, w3.setCell ⟨p, 0, none⟩ (.slice (some ⟨gk, 0, none⟩) q R.ck) = w4 := ⟨_, rfl⟩
    have t4 : Touch (fun g => g = p) w3 w4 := by rw [← hw4]; exact touch_set w3 p 0 _ rfl
    have p4 : Box w4 p 59 #[.slice (some ⟨gk, 0, none⟩) q R.ck, R.vv ps.length] := by rw [← hw4]; exact p3.set_ 0 _
    have k4 := own_touch o3 t4 (fun g hg e => gkp (by have e1 : gk = g := (by simpa [Value.ownBlock] using hg); omega))
    have v4 := own_touch v3 t4 (fun g hg e => gvp (by have e1 : gv = g := (by simpa [Value.ownBlock] using hg); omega))
    have c3 := p3.cell 0
    have f3 := p3.free
    have c4 := p4.cell 1
    have f4 := p4.free
    unfold SR.vv at c4
    rw [hgv, hq] at c4
    simp at c3 c4
    have T4 := Lib.hid ((t3.mono (T := fun g => g = p ∨ R.at_ g) (fun k hk => .inr (.inl ⟨_, hgk, by injection hk with hk; exact hk.symm⟩))).trans (t4.mono (fun k hk => .inl hk)))
    have V4 := Lib.hid v4
    have K4 := Lib.hid k4
    have P4 := Lib.hid p4
    clear o3 gr3 t3 t4 v4 k4 p4 p3 v3 q0 q1 f2
    go_wp2_with fail
    refine (delN_any lo q R.cv i gv (nvs ps) w4 V4.out (by omega) (by omega) (nvs_one _)).mono ?_
    rintro e w5 ⟨rfl, o5, gr5⟩
    rw [nvs_del] at o5
    have t5 := Touch.of_grown gr5
    have s4 : w2.heap.size ≤ w4.heap.size := T4.out.size
    have p5 : Box w5 p 59 #[.slice (some ⟨gk, 0, none⟩) q R.ck, R.vv ps.length] := (t5.block p (by omega) (fun e => gvp (by injection e with e; omega))).trans P4.out
    have k5 := own_touch K4.out t5 (fun g hg e => gkv (by have e1 : gk = g := (by simpa [Value.ownBlock] using hg); injection e with e; omega))
    obtain ⟨w6, hw6⟩ : ∃ w6, w5.setCell ⟨p, 1, none⟩ (.slice (some ⟨gv, 0, none⟩) q R.cv) = w6 := ⟨_, rfl⟩
    have t6 : Touch (fun g => g = p) w5 w6 := by rw [← hw6]; exact touch_set w5 p 1 _ rfl
    have p6 : Box w6 p 59 #[.slice (some ⟨gk, 0, none⟩) q R.ck, .slice (some ⟨gv, 0, none⟩) q R.cv] := by rw [← hw6]; exact p5.set_ 1 _
    have k6 := own_touch k5 t6 (fun g hg e => gkp (by have e1 : gk = g := (by simpa [Value.ownBlock] using hg); omega))
    have v6 := own_touch o5 t6 (fun g hg e => gvp (by have e1 : gv = g := (by simpa [Value.ownBlock] using hg); omega))
    have c5 := p5.cell 1
    have f5 := p5.free
    simp at c5
    have T6 : Touch (fun g => g = p ∨ R.at_ g) w w6 := (((Touch.of_below B2.out).trans T4.out).trans (t5.mono (fun k hk => .inr (.inr ⟨_, hgv, by injection hk with hk; exact hk.symm⟩)))).trans (t6.mono (fun k hk => .inl hk))
    have hdl : (delP ps i).length = q := by rw [delP_len ps i hk]; omega
    have hfin : Box w6 p 59 #[R.kv (ps.length - 1), R.vv (ps.length - 1)] ∧ SLN w6 lo R (delP ps i) ∧ Touch (fun g => g = p ∨ R.at_ g) w w6 := by
      have hq1 : ps.length - 1 = q := by omega
      refine ⟨by rw [hq1]; unfold SR.kv SR.vv; rw [hgk, hgv]; exact p6, ⟨by rw [hdl, hgk]; exact k6, by rw [hdl, hgv]; exact v6, fun y hy => ?_, fun y hy => HS.out.apart y (delP_mem _ _ _ hy), ?_, by omega⟩, T6⟩
      · have hy := delP_mem _ _ _ hy
        exact (NV.touch (HS.out.nodes y hy) T6 (Nat.le_refl _) (fun g hg e => e.elim (hpp y hy g hg) (HS.out.apart y hy g hg))).more T6.size
      · exact List.Pairwise.sublist ((delP_sub ps i).map _) HS.out.rise
    have HF := Lib.hid hfin
    clear o5 gr5 t5 t6 p5 k5 p6 k6 v6 T6 hfin c3 f3 c4 f4
    go_wp2
    go_ret
    refine .inr ⟨HT.out, rfl, ?_⟩
    rw [HI.out]
    exact HF.out
end Go.Proofs.Ytdhnhgppapkikaa

-- QuietR: A region that only reads, within a round of a range over a function: one walk of the order of the text serves every order. (The library's law for quiet regions asks that there be no round; within one every operation that is no defer goes as everywhere: so the same is shown here for regions that hold none.) No statement of the program is proved here.
namespace Go.Proofs.Ytdhnhgppapkikaa
set_option linter.unusedVariables false
section
variable {F : Fence} {n r : Nat} {P : Program} {ops : Array Oper} {C : World → Prop} {md : Region.Mode}

/-- an operation that is no defer statement. -/
def calm (o : Oper) : Bool := !(match o.op with | .defer _ => true | _ => false)
theorem calm_sem {o : Oper} (h : calm o = true) (ρ : Operand → Value) : Oper.semAt (some r) ρ o = execOp ρ o :=
  Oper.semAt_some r ρ o fun c e => by simp [calm, e] at h
theorem round_op {o : Oper} {a : Act} {K : Act → Prop} {K' : Act → World → Prop} {Q' : Exit → Act → World → Prop} {w : World} (hr : F.round = some r) (hc : calm o = true) (hC : C w)
    (hK : ∀ b v, C v → K b → K' b v) (ask : o.askedIn F P a C) (q : o.quietIn F n P a C K) : o.wpIn F n P a w K' Q' := by
  obtain ⟨u, at_, done⟩ := q
  refine ⟨ask w hC, ?_⟩
  have got : Oper.quietUponIn F n P C w u ((execOp a.eval o).run P w) := at_ w hC
  rw [hr, calm_sem hc]
  revert got
  cases (execOp a.eval o).run P w with
  | halt _ _ => exact fun e => e.elim
  | ok x v =>
    cases x with
    | value _ => rintro ⟨rfl, rfl⟩; exact hK _ _ hC done
    | skip => rintro ⟨rfl, rfl⟩; exact hK _ _ hC done
    | enter f args =>
      rintro ⟨rfl, deep, call⟩
      refine ⟨deep, call.mono ?_⟩
      rintro _ _ ⟨rfl, k⟩
      exact hK _ _ k done
    | _ => exact fun e => e.elim
theorem round_any {Q : Act → Prop} {Q' : Exit → Act → World → Prop} (hr : F.round = some r) (hc : ops.all calm = true) (hQ : ∀ a w, C w → Q a → Q' .normal a w) (fuel : Nat) :
    ∀ (listed : Array Bool) (a : Act) (w : World), C w → wpAnyQIn F n P md ops C Q fuel listed a → wpAnyIn F n P md ops Q' fuel listed a w := by
  induction fuel with
  | zero => exact fun _ _ _ k h => ⟨h.1, hQ _ _ k h.2⟩
  | succ m ih =>
    intro listed a w k h
    refine ⟨fun e => hQ _ _ k (h.1 e), fun i hi => ?_⟩
    have step := h.2 i hi
    simp only [qOpIn] at step
    simp only [wpOpIn]
    cases e : ops[i]? with
    | none => simp only [e] at step; exact ih _ _ _ k step
    | some o =>
      simp only [e] at step
      have co : calm o = true := by
        obtain ⟨l, eo⟩ := Array.getElem?_eq_some_iff.1 e
        exact eo ▸ Array.all_eq_true.1 hc i l
      by_cases wanted : Region.wanted o (yielded ops a.tmps) = true
      · simp only [wanted, if_true] at step ⊢
        exact round_op hr co k (fun b v => ih _ b v) step.1 step.2
      · simp only [wanted] at step ⊢
        exact ⟨step.1 w k, ih _ _ _ k step.2⟩
/-- the region's operations written out, at the worlds that w becomes by draws alone. -/
theorem round_quiet {id : Nat} {Q : Exit → Act → World → Prop} {a : Act} {w : World} {l : List Oper} (hr : F.round = some r) (hc : l.toArray.all calm = true) (hm : P.follows .mixedOrders = true) (hB : Region.lexB .any l.toArray = true)
    (h : wpQuietIn F n P l.toArray (fun v => ∃ k, v = w.drewN k) (fun b => ∀ v, (∃ k, v = w.drewN k) → Q .normal b v) l a) : (Code.region id l.toArray true).wpIn F n P Q a w := by
  have hB : (_ && _) = true := hB
  have both := Bool.and_eq_true_iff.1 hB
  have all := wpAnyQIn_lex (F := F) (n := n) (C := fun v => ∃ k, v = w.drewN k) (md := .any) both.1 l 0 (Array.replicate l.length false) a (by simp) (by simpa using both.2) h
  exact wpIn_region_any hm (round_any (Q := fun b => ∀ v, (∃ k, v = w.drewN k) → Q .normal b v) hr hc (fun b v k q => q v k) _ _ _ _ ⟨1, rfl⟩ (by simpa using all))
end
end Go.Proofs.Ytdhnhgppapkikaa

-- Keep: What a round of a loop over an iterator keeps: every block below n₀ but one. No statement of the program is proved here.
namespace Go.Proofs.Ytdhnhgppapkikaa
set_option maxRecDepth 20000
set_option linter.unusedVariables false
set_option linter.unusedSimpArgs false
open Go.RowKit

/-- every block below n but cb is as it was. -/
def KpB (cb n : Nat) (A B : World) : Prop := A.heap.size ≤ B.heap.size ∧ ∀ k, k < n → k ≠ cb → B.heap[k]? = A.heap[k]?
theorem KpB.refl (cb n : Nat) (A : World) : KpB cb n A A := ⟨Nat.le_refl _, fun _ _ _ => rfl⟩
theorem KpB.trans {cb n : Nat} {A B C : World} (h : KpB cb n A B) (k : KpB cb n B C) : KpB cb n A C := ⟨Nat.le_trans h.1 k.1, fun i hi hc => (k.2 i hi hc).trans (h.2 i hi hc)⟩
theorem KpB.put {cb n : Nat} {w : World} (hn : n ≤ w.heap.size) (W : World) (l : Nat) (o o' : Obj) (hl : w.heap.size ≤ l) (h : W.heap[l]? = some o) (_ : o.isCells = false) (_ : o.isWalk = false) : KpB cb n W (W.putObj l o') := by
  have hg := grownBy_putObj' W l o'
  exact ⟨hg.size, fun k hk _ => by
    have hl2 := (Array.getElem?_eq_some_iff.1 h).1
    exact hg.block k (by omega) (fun e => by cases e; omega)⟩
theorem KpB.cell {cb n : Nat} {A B : World} (h : KpB cb n A B) {a : Addr} (hn : a.block < n) (hc : a.block ≠ cb) : B.cell? a = A.cell? a := World.cell?_of_block (h.2 _ hn hc)
theorem KpB.of_below {cb n : Nat} {A B : World} (h : Below A.heap.size A B) (hn : n ≤ A.heap.size) : KpB cb n A B := ⟨h.size, fun k hk _ => h.block k (by omega)⟩
theorem KpB.box {cb n g : Nat} {A B : World} {t : TypeId} {cs : Array Value} (h : KpB cb n A B) (hb : Box A g t cs) (hg : g < n) (hc : g ≠ cb) : Box B g t cs := (h.2 g hg hc).trans hb
end Go.Proofs.Ytdhnhgppapkikaa

-- IterN: The iterator of the list of nodes.
namespace Go.Proofs.Ytdhnhgppapkikaa
set_option maxRecDepth 20000
set_option linter.unusedVariables false
set_option linter.unusedSimpArgs false
open Go.RowKit Go.Shelf
attribute [local go_sem] Oper.semAt_some

def pAt (ps : List (Int × NV)) (k : Nat) : Int × NV := ps[k]?.getD (0, nv0)
theorem pAt_mem (ps : List (Int × NV)) (k : Nat) (h : k < ps.length) : pAt ps k ∈ ps := by unfold pAt; rw [List.getElem?_eq_getElem h]; exact List.getElem_mem h
/-- what the k-th round is handed. -/
def encN (ps : List (Int × NV)) (k : Nat) : Array Value := #[.int .i64 (pAt ps k).1, (pAt ps k).2.v]
theorem range_take (k : Nat) : List.range (k + 1) = List.range k ++ [k] := List.range_succ

set_option maxHeartbeats 2000000 in
theorem allN1_in (F : Fence) (n : Nat) (h7 : F.fn 72) (hro : F.round = none) (hn : 1 ≤ n) (l Bs n₀ cb p lo : Nat) (R : SR) (ps : List (Int × NV))
    (J Jx : List Nat → World → Prop) (W : World) (hW0 : n₀ ≤ W.heap.size)
    (hY : ∀ pre x W1, J pre W1 → pre.length < ps.length → YieldAt F (n - 1) Try.prog l (encN ps x) W1 fun e W' =>
      (e = .returned (.bool true) ∧ J (pre ++ [x]) W' ∧ KpB cb n₀ W1 W') ∨ (e = .returned (.bool false) ∧ Jx (pre ++ [x]) W'))
    (hBs : Box W Bs 63 #[.pointer (some ⟨p, 0, none⟩)]) (hB0 : Bs < n₀) (hB1 : Bs ≠ cb)
    (hP : Box W p 59 #[R.kv ps.length, R.vv ps.length]) (hP0 : p < n₀) (hP1 : p ≠ cb)
    (hS : SLN W lo R ps) (hR : ∀ g, R.at_ g → g < n₀ ∧ g ≠ cb) (h0 : J [] W) :
    CallsIn F n Try.prog 72 #[.func (.yield l) #[] #[], .pointer (some ⟨Bs, 0, none⟩)] W fun e W' => (∃ v, e = .returned v) ∧
      ((∃ ys, ys = List.range ps.length ∧ J ys W') ∨ (∃ pre, (∃ k, k ≤ ps.length ∧ pre = List.range k) ∧ Jx pre W')) := by
  have hlen := hS.len
  -- what a round reads, in whatever world the rounds have left
  have hrd : ∀ W', KpB cb n₀ W W' → W'.cell? ⟨Bs, 0, none⟩ = some (.pointer (some ⟨p, 0, none⟩)) ∧ W'.cell? ⟨p, 1, none⟩ = some (.slice R.Av ps.length R.cv) := fun W' hk => by
    have h1 := (hk.box hBs hB0 hB1).cell 0
    have h2 := (hk.box hP hP0 hP1).cell 1
    unfold SR.vv at h2
    simpa using ⟨h1, h2⟩
  have hrk : ∀ W', KpB cb n₀ W W' → ∀ k, k < ps.length → ∃ g, R.Ak = some ⟨g, 0, none⟩ ∧ W'.cell? ⟨g, k, none⟩ = some (.int .i64 (pAt ps k).1) := fun W' hk k hlt => by
    obtain ⟨g, hg, _⟩ := hS.keys.form (by omega)
    have ho := hS.keys
    rw [hg] at ho
    have hgg := hR g (.inl ⟨_, hg, rfl⟩)
    refine ⟨g, hg, ?_⟩
    rw [hk.cell (a := ⟨g, k, none⟩) hgg.1 hgg.2, ho.cell hlt, kvs_at ps k hlt]
    unfold pAt
    rw [List.getElem?_eq_getElem hlt]; rfl
  have hrv : ∀ W', KpB cb n₀ W W' → ∀ k, k < ps.length → ∃ g, R.Av = some ⟨g, 0, none⟩ ∧ ∀ j, j < 4 → W'.cell? ⟨g, k * 4 + j, none⟩ = (pAt ps k).2.cells[j]? := fun W' hk k hlt => by
    obtain ⟨g, hg, _⟩ := hS.row (by omega)
    have ho := hS.vals
    rw [hg] at ho
    have hgg := hR g (.inr ⟨_, hg, rfl⟩)
    refine ⟨g, hg, fun j hj => ?_⟩
    rw [hk.cell (a := ⟨g, k * 4 + j, none⟩) hgg.1 hgg.2, World.ownsRow.cellAt ho _ (by omega), nvs_at ps k j hj hlt]
    unfold pAt
    rw [List.getElem?_eq_getElem hlt]; rfl
  have q0 := hBs.cell 0
  have q1 := hP.cell 0
  unfold SR.kv at q1
  simp at q0 q1
  refine callsIn_of_wp Try.func72 rfl h7 ?_ hro
  simp only [Try.ntmps72, List.size_toArray, List.length_cons, List.length_nil, Nat.reduceAdd, Nat.reduceSub, Array.replicate_succ, Array.replicate_zero, List.push_toArray, List.append_toArray, List.nil_append, List.cons_append]
  obtain ⟨Ak, ck, Av, cv⟩ := R
  simp only at hrd hrk hrv q1
  have RD := Lib.hid hrd
  have RK := Lib.hid hrk
  have RV := Lib.hid hrv
  clear hrd hrk hrv hBs hP hS hR
  gi_wp2
  gi_loopw [10] (fun i wr => ∃ k : Nat, k ≤ ps.length ∧ i = .int .i64 k ∧ J (List.range k) wr ∧ KpB cb n₀ W wr)
    (fun i _ => ps.length - (intOf i).toNat)
  case atStart => exact ⟨0, Nat.zero_le _, rfl, h0, KpB.refl _ _ _⟩
  case round =>
    obtain ⟨k, hk, rfl, hJs, hnx⟩ := hrel
    have hsz := hnx.1
    have KX := Lib.hid hnx
    by_cases hlt : k < ps.length
    · obtain ⟨c0, c1⟩ := RD.out wr hnx
      obtain ⟨g, rfl, c2⟩ := RK.out wr hnx k hlt
      obtain ⟨gv, rfl, c3⟩ := RV.out wr hnx k hlt
      obtain ⟨fn, tmps, assign, body, hy, hR⟩ := hY (List.range k) k _ hJs (by simpa using hlt)
      have d0 := c3 0 (by omega)
      have d1 := c3 1 (by omega)
      have d2 := c3 2 (by omega)
      have d3 := c3 3 (by omega)
      unfold NV.cells at d0 d1 d2 d3
      unfold encN NV.v at hy
      simp at d0 d1 d2 d3
      clear c3 hnx
      gi_wp2
      refine hR.mono ?_
      rintro e W3 (⟨rfl, hJ3, hk3⟩ | ⟨rfl, hJx3⟩)
      · gi_wp2
        go_roundw
        case rel => exact ⟨k + 1, by omega, by go_num, by rw [range_take]; exact hJ3, KX.out.trans hk3⟩
        case measure => simp [intOf]; omega
      · gi_wp2
        refine bodyPost_ret (results_none rfl _ _ _) rfl ?_
        exact ⟨⟨_, rfl⟩, .inr ⟨_, ⟨k + 1, by omega, (range_take k).symm⟩, hJx3⟩⟩
    · obtain rfl : k = ps.length := by omega
      gi_wp2
      go_end0
      exact ⟨⟨_, rfl⟩, .inl ⟨_, rfl, hJs⟩⟩
theorem allN_any (p : Nat) (w : World) :
    Calls Try.prog 55 #[.pointer (some ⟨p, 0, none⟩)] w fun e w' => e = .returned (.func (.func 72) #[] #[.pointer (some ⟨w.heap.size, 0, none⟩)]) ∧ w.alloc (.cells #[.pointer (some ⟨p, 0, none⟩)] 63) = w' := by
  go_enter Try.func55, Try.ntmps55
  go_wp2
  go_ret
  exact ⟨rfl, rfl⟩
theorem allN_stops (n : Nat) (hn : 1 ≤ n) (Bs n₀ cb p lo : Nat) (R : SR) (ps : List (Int × NV)) (w : World) (hW0 : n₀ ≤ w.heap.size)
    (hBs : Box w Bs 63 #[.pointer (some ⟨p, 0, none⟩)]) (hB0 : Bs < n₀) (hB1 : Bs ≠ cb)
    (hP : Box w p 59 #[R.kv ps.length, R.vv ps.length]) (hP0 : p < n₀) (hP1 : p ≠ cb)
    (hS : SLN w lo R ps) (hR : ∀ g, R.at_ g → g < n₀ ∧ g ≠ cb) :
    SeqStopsK Fence.wide n Try.prog 72 #[.pointer (some ⟨Bs, 0, none⟩)] (encN ps) (KpB cb n₀) (fun ys => ys = List.range ps.length) (fun pre => ∃ k, k ≤ ps.length ∧ pre = List.range k) ps.length w := fun l J Jx W hW hJ _ hY h0 =>
  allN1_in Fence.wide n trivial rfl hn l Bs n₀ cb p lo R ps J Jx W (Nat.le_trans hW0 hW.size) hY (hBs.below hW (by omega)) hB0 hB1 (hP.below hW (by omega)) hP0 hP1 (hS.below hW) hR h0
end Go.Proofs.Ytdhnhgppapkikaa

-- Round: A region that draws its order, within a round of a range over a function: what holds of it outside every fence holds there, where it bears no defer statement. No statement of the program is proved here.
namespace Go.Proofs.Ytdhnhgppapkikaa
set_option linter.unusedVariables false
section
variable {n r : Nat} {P : Program} {ops : Array Oper} {md : Region.Mode}
theorem rows_round {row : String} {args : Array Value} {w : World} {R : Value → World → Prop} (h : Rows P row args w R) : RowsIn (Fence.wide.inRound r) n P row args w R :=
  fun c cs _ => let ⟨v, w', k, s⟩ := h c cs; ⟨v, w', k, stepsIn_wide.2 s⟩
theorem op_round {o : Oper} {a : Act} {K : Act → World → Prop} {Q : Exit → Act → World → Prop} {w : World} (hc : calm o = true) (h : o.wp P a w K Q) : o.wpIn (Fence.wide.inRound r) n P a w K Q := by
  refine ⟨fun _ _ => trivial, ?_⟩
  have hs : o.semAt (Fence.wide.inRound r).round a.eval = execOp a.eval o := calm_sem hc _
  rw [hs]
  unfold Oper.wp at h
  generalize (execOp a.eval o).run P w = x at h
  cases x with
  | ok y w' =>
    cases y with
    | value v => exact h
    | skip => exact h
    | defer d => exact h
    | enter f args => exact ⟨fun hd => by simp [Fence.inRound, Fence.wide] at hd, CallsIn.inRound r (callsIn_wide.2 h)⟩
    | row row args => exact ⟨fun hd => by simp [Fence.inRound, Fence.wide] at hd, rows_round h⟩
    | _ => exact h.elim
  | halt y w' =>
    cases y <;> exact h
theorem any_round {Q : Exit → Act → World → Prop} (hc : ops.all calm = true) (hQ : ¬ LetsOut Q) (fuel : Nat) :
    ∀ (listed : Array Bool) (a : Act) (w : World), wpAny P md ops Q fuel listed a w → wpAnyIn (Fence.wide.inRound r) n P md ops Q fuel listed a w := by
  induction fuel with
  | zero => exact fun _ _ _ h => h
  | succ m ih =>
    intro listed a w h
    refine ⟨h.1, fun i hi => ?_⟩
    have step := h.2 i hi
    simp only [wpOp] at step
    simp only [wpOpIn]
    cases e : ops[i]? with
    | none => simp only [e] at step; exact ih _ _ _ step
    | some o =>
      simp only [e] at step
      have co : calm o = true := by
        obtain ⟨l, eo⟩ := Array.getElem?_eq_some_iff.1 e
        exact eo ▸ Array.all_eq_true.1 hc i l
      by_cases wanted : Region.wanted o (yielded ops a.tmps) = true
      · simp only [wanted, if_true] at step ⊢
        rcases step with step | ⟨_, step⟩
        · exact Oper.wpIn_mono (fun a w => ih _ a w) (op_round co step)
        · exact absurd step hQ
      · simp only [wanted] at step ⊢
        exact ⟨fun _ _ => trivial, ih _ _ _ step⟩
theorem region_round {id : Nat} {Q : Exit → Act → World → Prop} {a : Act} {w : World} (hm : P.follows .mixedOrders = true) (hc : ops.all calm = true) (hQ : ¬ LetsOut Q)
    (h : wpAny P .any ops Q ops.size (Array.replicate ops.size false) a w.drew) : (Code.region id ops true).wpIn (Fence.wide.inRound r) n P Q a w :=
  wpIn_region_any hm (any_round hc hQ _ _ _ _ h)
end
end Go.Proofs.Ytdhnhgppapkikaa

-- NodeY: The bytes of a node, as the program writes them: a row of the call's own.
namespace Go.Proofs.Ytdhnhgppapkikaa
set_option maxRecDepth 20000
set_option linter.unusedSimpArgs false
open Go.RowKit

theorem kidsOk_mem' (ks : List (Int × Int)) {kind path val} (h : nodeOk ⟨kind, path, ks, val⟩ = true) (k : Int × Int) (hk : k ∈ ks) : 1 ≤ k.2 := by
  unfold nodeOk at h
  simp only [Bool.and_eq_true] at h
  have h2 := h.1.1.2
  unfold kidsOk at h2
  obtain ⟨i, hi, rfl⟩ := List.getElem_of_mem hk
  have := (of_decide_eq_true h2 i hi).2.1
  rw [List.getElem?_eq_getElem hi] at this
  exact this

theorem shown_any (k : Int) (w : World) :
    Calls Try.prog 66 #[.int .i64 k] w fun e w' => e = .returned (.int .u8 (k % 256)) ∧ w' = w := by
  go_enter Try.func66, Try.ntmps66
  go_wp2
  go_ret
  exact ⟨rfl, rfl⟩

theorem strCells_sb (s : ByteArray) : Lib.strCells s = (sb s).map (Value.int .u8) := by
  apply List.ext_getElem?
  intro i
  by_cases h : i < s.size
  · have e := sb_at s i h
    have hl : i < (sb s).length := by rw [sb_len]; exact h
    have h2 : i < s.data.size := h
    rw [List.getElem?_eq_getElem hl] at e
    simp [Lib.strCells, hl, h2]
    simp at e
    rw [e]
    exact ⟨_, Array.getElem?_eq_getElem h2, rfl⟩
  · rw [List.getElem?_eq_none (by rw [Lib.strCells_length]; omega), List.getElem?_eq_none (by rw [List.length_map, sb_len]; omega)]

theorem bytes_some (x : Int) (hx : 0 ≤ x) (w : World) :
    Calls Try.prog 67 #[.int .i64 x] w fun e w' => ∃ g n c, e = .returned (.slice (some ⟨g, 0, none⟩) n c) ∧ Mine w' w.heap.size (some ⟨g, 0, none⟩) n c (nameBytes x) ∧ Below w.heap.size w w' := by
  refine (bytes_any x w).mono ?_
  rintro e w' ⟨A, n, c, rfl, hm, hb⟩
  have hl := hm.len
  rw [nameBytes_yes x (by omega), nb_len] at hl
  obtain ⟨g, rfl, _⟩ := hm.form (by omega)
  exact ⟨g, n, c, rfl, hm, hb⟩

set_option maxHeartbeats 2000000 in      -- one walk, two loops and three appends between them
theorem implNodeBytes_any (v : Value) (nd : MNode) (B : Nat) (w : World) (hB : B ≤ w.heap.size) (hv : NodeIn w B v nd) :
    Calls Try.prog 50 #[v] w fun e w' => ∃ A n c, e = .returned (.slice A n c) ∧ Mine w' w.heap.size A n c (nodeBytes nd) ∧ Below w.heap.size w w' := by
  have HV := Lib.hid (hv.more hB)
  obtain ⟨Ap, np, cp, Ak, nk, ck, rfl, hnp, hnk, hsz, hp, hk⟩ := hv
  obtain ⟨kind, path, kids, val⟩ := nd
  have HP := Lib.hid (hp.more hB)
  have HK := Lib.hid (hk.more hB)
  have LP : Hid (path.length = np) := HP.out.1
  have LK : Hid (kids.length = nk) := HK.out.1
  clear hp hk
  obtain ⟨wa, hwa⟩ : ∃ wa, w.alloc (.cells #[.int .i64 kind, .slice Ap np cp, .slice Ak nk ck, .string val] 35) = wa := ⟨_, rfl⟩
  have xa : Box wa w.heap.size _ _ := hwa ▸ heap_alloc_new _ _
  have ba : Below w.heap.size w wa := hwa ▸ (Below.refl _ _).alloc (Nat.le_refl _) _
  have sa : w.heap.size < wa.heap.size := hwa ▸ by simp
  have XA := Lib.hid xa
  have BA := Lib.hid ba
  have HW := Lib.hid hwa
  clear xa ba hwa
  go_enter Try.func50, Try.ntmps50
  go_wp2_with fail
  rw [HW.out]
  refine (progNodeOk_any _ ⟨kind, path, kids, val⟩ _ wa (by omega) (HV.out.below BA.out)).mono ?_
  rintro e wb ⟨rfl, bb⟩
  have XB := Lib.hid (XA.out.below bb sa)
  have BB := Lib.hid (BA.out.trans (bb.mono (by omega)))
  have sb0 : w.heap.size < wb.heap.size := by have := bb.size; omega
  clear bb
  by_cases hok : nodeOk ⟨kind, path, kids, val⟩ = true
  · have hr := Lib.hid (show nodeBytes ⟨kind, path, kids, val⟩ = rawBytes ⟨kind, path, kids, val⟩ from if_pos hok)
    have HKM := Lib.hid (fun k (hk : k ∈ kids) => kidsOk_mem' kids hok k hk)
    rw [hok]
    have q0 := XB.out.cell 0
    have q1 := XB.out.cell 1
    have q2 := XB.out.cell 2
    have q3 := XB.out.cell 3
    simp at q0 q1 q2 q3
    obtain ⟨i0, hi, hz0, hz1, hz2⟩ := info_parts Try.info5
    have HI := Lib.hid hi
    have HZ0 := Lib.hid hz0
    have HZ1 := Lib.hid hz1
    have HZ2 := Lib.hid hz2
    clear hi hz0 hz1 hz2
    go_wp2
    refine wp_region_still_tail 7 (by kernel_rfl) (by kernel_rfl) ?_
    simp only [List.take_succ_cons, List.take_zero, List.drop_succ_cons, List.drop_zero]
    still_step
    still_step
    still_call (shown_any kind _)
    repeat still_step
    refine wpStill_nil ?_
    change wpList _ _ _ _ _ wb.drew
    have x1 : Box wb.drew w.heap.size _ _ := XB.out.below ((Below.refl wb.heap.size wb).drew) XB.out.lt
    have b1 : Below w.heap.size w wb.drew := BB.out.drew
    have s1 : wb.drew.heap.size = wb.heap.size := rfl
    obtain ⟨w1, hw1⟩ : ∃ w1, wb.drew = w1 := ⟨_, rfl⟩
    rw [hw1] at x1 b1 s1 ⊢
    obtain ⟨z, hz⟩ : ∃ z, w1.heap.size = z := ⟨_, rfl⟩
    have hzw : w.heap.size < z := by omega
    have X1 := Lib.hid x1
    have B1 := Lib.hid b1
    clear x1 b1 hw1 q0 q1 q2 q3 s1
    have m0 := Mine.of_alloc w1 z [kind % 256, (np : Int) % 256] 2 (by omega) rfl (by unfold maxLen; omega) (by intro z hz; simp at hz; omega)
    rw [hz] at m0
    have M0 := Lib.hid m0
    clear m0
    have X0 := Lib.hid (X1.out.below ((Below.refl w1.heap.size w1).alloc (Nat.le_refl _) (.cells #[.int .u8 (kind % 256), .int .u8 ((np : Int) % 256)] 5)) X1.out.lt)
    have q1 := X0.out.cell 1
    simp at q1
    go_wp2
    clear q1
    go_loopw [3, 22] (fun b i wr => ∃ k g n c : Nat, k ≤ np ∧ i = .int .i64 k ∧ b = .slice (some ⟨g, 0, none⟩) n c ∧ Mine wr z (some ⟨g, 0, none⟩) n c ([kind % 256, (np : Int) % 256] ++ (path.take k).map (· % 256)) ∧ Below z w1 wr) (fun _ i _ => np - (intOf i).toNat)
    case atStart => exact ⟨0, _, 2, 2, Nat.zero_le _, rfl, rfl, M0.out, (Below.refl _ _).alloc (by omega) _⟩
    case round =>
      obtain ⟨k, g, n, c, hk, rfl, rfl, hm, hbr⟩ := hrel
      have hlen := hm.len
      have XR := Lib.hid (X1.out.below hbr (by omega))
      have BR := Lib.hid hbr
      have BW := Lib.hid (B1.out.trans (hbr.mono (by omega)))
      have MR := Lib.hid hm
      clear hm hbr
      have sr := BR.out.size
      by_cases hlt : k < np
      · have hn : n = 2 + k := by
          have := LP.out
          simp at hlen; omega
        obtain ⟨b, off, rfl, hbB, hc⟩ := (HP.out.below BW.out).at_ hlt
        have hst := map_take_step (· % 256) path k (by rw [LP.out]; exact hlt)
        generalize path[k]?.getD 0 = y at hc hst
        have HST := Lib.hid hst
        clear hst
        go_wp2_with (at_builtin; refine wpList_append_lies _ rfl _ _ 43 rfl z 5 i0 (.int .u8 0) 1 1 Try.underlying43 HI.out HZ0.out HZ1.out HZ2.out rfl (by decide) _ _ _ rfl (MR.out.1.alloc _) ⟨wr.heap.size, 0, none⟩ 1 1 ([y % 256].map (Value.int .u8)) rfl ?a0 ?a1 ?a2 (by omega) ?a3 ?a4 ?a5 _ rfl ?_)
        case a0 => first | rfl | (simp; done) | simp [sb_len]
        case a1 =>
          intro j u hj
          match j, hj with
          | 0, hj => simp at hj; subst hj; simp [Addr.add]
        case a2 => intro u hu; obtain ⟨z, _, rfl⟩ := List.mem_map.1 hu; rfl
        case a3 => unfold maxLen; omega
        case a4 => omega
        case a5 => simp; omega
        intro g2 c2 w2 hown2 hgrow2 _ _
        have hm2 := MR.out.app (ys := [y % 256]) (by intro y hy; simp at hy; omega) (by simpa using hown2)
        have hb2 : Below z w1 w2 := (BR.out.alloc (by omega) _).grown hgrow2 (by simp; omega) (fun g hg => (MR.out.1.lt g hg).1)
        rw [List.append_assoc, ← HST.out] at hm2
        have M2 := Lib.hid hm2
        have B2 := Lib.hid hb2
        clear hm2 hb2 hown2 hgrow2
        go_wp2
        go_roundw
        case rel => exact ⟨k + 1, _, _, _, by omega, by go_num, rfl, M2.out, B2.out⟩
        case measure => simp [intOf]; omega
      · have hpt : path.take k = path := List.take_of_length_le (by rw [LP.out]; omega)
        rw [hpt] at MR
        have hn : n = 2 + np := by
          have h0 := MR.out.len
          have := LP.out
          simp at h0; omega
        have q3 := XR.out.cell 3
        simp at q3
        go_wp2_with (at_builtin; refine wpList_append_lies _ rfl _ _ 43 rfl z 5 i0 (.int .u8 0) 1 1 Try.underlying43 HI.out HZ0.out HZ1.out HZ2.out rfl (by decide) _ _ _ rfl (MR.out.1.alloc _) ⟨wr.heap.size, 0, none⟩ 1 1 ([(val.size : Int) % 256].map (Value.int .u8)) rfl ?d0 ?d1 ?d2 (by omega) ?d3 ?d4 ?d5 _ rfl ?_)
        case d0 => first | rfl | (simp; done) | simp [sb_len]
        case d1 =>
          intro j u hj
          match j, hj with
          | 0, hj => simp at hj; subst hj; simp [Addr.add]
        case d2 => intro u hu; obtain ⟨z, _, rfl⟩ := List.mem_map.1 hu; rfl
        case d3 => unfold maxLen; omega
        case d4 => omega
        case d5 => simp; omega
        intro g5 c5 w5 hown5 hgrow5 _ _
        have hm5 := MR.out.app (ys := [(val.size : Int) % 256]) (by intro y hy; simp at hy; omega) (by simpa using hown5)
        have hb5 : Below z w1 w5 := (BR.out.alloc (by omega) _).grown hgrow5 (by simp; omega) (fun g hg => (MR.out.1.lt g hg).1)
        have M5 := Lib.hid hm5
        have B5 := Lib.hid hb5
        clear hm5 hb5 hown5 hgrow5 q3
        have s5 := B5.out.size
        have X5 := Lib.hid (X1.out.below B5.out (by omega))
        have q3 := X5.out.cell 3
        simp at q3
        go_wp2_with (at_builtin; refine Lib.wpList_append_own_string _ rfl _ _ 43 9 rfl z 5 i0 Try.underlying43 Try.underlying9 HI.out HZ0.out HZ1.out HZ2.out _ _ _ rfl M5.out.1 val rfl ?e3 ?e4 ?e5 ?_)
        case e3 => unfold maxLen; omega
        case e4 => omega
        case e5 => omega
        intro v7 w7 hown7 hgrow7 hnil7
        rw [strCells_sb] at hown7
        have hv : ∃ g c, v7 = .slice (some ⟨g, 0, none⟩) (2 + np + 1 + val.size) c := by
          have h0 : v7 ≠ .slice none 0 0 := by simpa using hnil7
          rcases hown7.2 with ⟨e, _⟩ | ⟨g, cap, cur, e, _⟩
          · exact absurd e h0
          · exact ⟨g, cap, e⟩
        obtain ⟨g7, c7, rfl⟩ := hv
        have hm7 := M5.out.app (ys := sb val) (sb_bd val) (by simpa using hown7)
        have hb7 : Below z w1 w7 := B5.out.grown hgrow7 (by omega) (fun g hg => (M5.out.1.lt g hg).1)
        have M7 := Lib.hid hm7
        have B7 := Lib.hid hb7
        clear hm7 hb7 hown7 hgrow7 hnil7 q3
        have s7 := B7.out.size
        have X7 := Lib.hid (X1.out.below B7.out (by omega))
        have q2 := X7.out.cell 2
        simp at q2
        go_wp2_with (at_builtin; refine wpList_append_lies _ rfl _ _ 43 rfl z 5 i0 (.int .u8 0) 1 1 Try.underlying43 HI.out HZ0.out HZ1.out HZ2.out rfl (by decide) _ _ _ rfl (M7.out.1.alloc _) ⟨w7.heap.size, 0, none⟩ 1 1 ([(nk : Int) % 256].map (Value.int .u8)) rfl ?f0 ?f1 ?f2 (by omega) ?f3 ?f4 ?f5 _ rfl ?_)
        case f0 => first | rfl | (simp; done) | simp [sb_len]
        case f1 =>
          intro j u hj
          match j, hj with
          | 0, hj => simp at hj; subst hj; simp [Addr.add]
        case f2 => intro u hu; obtain ⟨z, _, rfl⟩ := List.mem_map.1 hu; rfl
        case f3 => unfold maxLen; omega
        case f4 => omega
        case f5 => simp; omega
        intro g8 c8 w8 hown8 hgrow8 _ _
        have hm8 := M7.out.app (ys := [(nk : Int) % 256]) (by intro y hy; simp at hy; omega) (by simpa using hown8)
        have hb8 : Below z w1 w8 := (B7.out.alloc (by omega) _).grown hgrow8 (by simp; omega) (fun g hg => (M7.out.1.lt g hg).1)
        generalize hpre : [kind % 256, (np : Int) % 256] ++ path.map (· % 256) ++ [(val.size : Int) % 256] ++ sb val ++ [(nk : Int) % 256] = pre at hm8
        have hplen : pre.length = 2 + np + 1 + val.size + 1 := hm8.len
        have HPRE := Lib.hid hpre
        have M8 := Lib.hid hm8
        have B8 := Lib.hid hb8
        clear hm8 hb8 hown8 hgrow8 q2 hpre
        have s8 := B8.out.size
        have X8 := Lib.hid (X1.out.below B8.out (by omega))
        have q2 := X8.out.cell 2
        simp at q2
        go_wp2
        clear q2
        go_loopw [3, 53] (fun b i wr => ∃ k g n c : Nat, k ≤ nk ∧ i = .int .i64 k ∧ b = .slice (some ⟨g, 0, none⟩) n c ∧ Mine wr z (some ⟨g, 0, none⟩) n c (pre ++ (kids.take k).flatMap kidBytes) ∧ Below z w1 wr) (fun _ i _ => nk - (intOf i).toNat)
        case atStart => exact ⟨0, _, _, _, Nat.zero_le _, rfl, rfl, by simpa using M8.out, B8.out⟩
        case round =>
          obtain ⟨k, g, n, c, hk, rfl, rfl, hm, hbr⟩ := hrel
          have hlen := hm.len
          have BR := Lib.hid hbr
          have BW := Lib.hid (B1.out.trans (hbr.mono (by omega)))
          have MR := Lib.hid hm
          clear hm hbr
          have sr := BR.out.size
          have hn : n ≤ 20000000 := by
            have h1 := kidBytes_len (kids.take k)
            have h2 : (kids.take k).length ≤ nk := by rw [List.length_take, LK.out]; omega
            rw [List.length_append] at hlen
            omega
          clear hlen
          by_cases hlt : k < nk
          · have hst : (kids.take (k + 1)).flatMap kidBytes = (kids.take k).flatMap kidBytes ++ kidBytes (kids[k]?.getD (0, 0)) := by
              rw [List.take_succ_eq_append_getElem (by rw [LK.out]; exact hlt), List.flatMap_append, List.getElem?_eq_getElem (by rw [LK.out]; exact hlt)]
              simp
            have hx1 : 1 ≤ (kids[k]?.getD (0, 0)).2 := by
              rw [List.getElem?_eq_getElem (by rw [LK.out]; exact hlt)]
              exact HKM.out _ (List.getElem_mem _)
            obtain ⟨b, off, rfl, hbB, h0, h1⟩ := (HK.out.below BW.out).at_ hlt
            generalize kids[k]?.getD (0, 0) = x at h0 h1 hst hx1
            have HST := Lib.hid hst
            clear hst
            obtain ⟨wk, hwk⟩ : ∃ wk, wr.alloc (.cells #[.int .i64 x.1, .int .i64 x.2] 79) = wk := ⟨_, rfl⟩
            have xk : Box wk wr.heap.size _ _ := hwk ▸ heap_alloc_new _ _
            have bk : Below wr.heap.size wr wk := hwk ▸ (Below.refl _ _).alloc (Nat.le_refl _) _
            have sk : wr.heap.size < wk.heap.size := hwk ▸ by simp
            have XK := Lib.hid xk
            have MK := Lib.hid (MR.out.below bk)
            have BK := Lib.hid (BR.out.trans (bk.mono (by omega)))
            have hgk : g < wr.heap.size := (MR.out.1.lt g rfl).2
            clear xk bk
            have p0 := XK.out.cell 0
            have p1 := XK.out.cell 1
            simp at p0 p1
            go_wp2_with (at_builtin; refine wpList_append_lies _ rfl _ _ 43 rfl z 5 i0 (.int .u8 0) 1 1 Try.underlying43 HI.out HZ0.out HZ1.out HZ2.out rfl (by decide) _ _ _ rfl (MK.out.1.alloc _) ⟨wk.heap.size, 0, none⟩ 1 1 ([x.1 % 256].map (Value.int .u8)) rfl ?g0 ?g1 ?g2 (by omega) ?g3 ?g4 ?g5 _ rfl ?_)
            case g0 => first | rfl | (simp; done) | simp [sb_len]
            case g1 =>
              intro j u hj
              match j, hj with
              | 0, hj => simp at hj; subst hj; simp [Addr.add]
            case g2 => intro u hu; obtain ⟨z, _, rfl⟩ := List.mem_map.1 hu; rfl
            case g3 => unfold maxLen; omega
            case g4 => omega
            case g5 => simp; omega
            intro g2 c2 w2 hown2 hgrow2 _ _
            have hm2 := MK.out.app (ys := [x.1 % 256]) (by intro y hy; simp at hy; omega) (by simpa using hown2)
            have hb2 : Below z w1 w2 := (BK.out.alloc (by omega) _).grown hgrow2 (by simp; omega) (fun g hg => (MK.out.1.lt g hg).1)
            have xk2 : Box w2 wr.heap.size _ _ := (XK.out.below ((Below.refl wk.heap.size wk).alloc (Nat.le_refl _) _) sk).grown hgrow2 (by simp [Value.ownBlock]; omega)
            have XK := Lib.hid xk2
            have M2 := Lib.hid hm2
            have B2 := Lib.hid hb2
            clear hm2 hb2 hown2 hgrow2 p0 p1 h0 h1 hwk xk2
            have s2 := B2.out.size
            have p0 := XK.out.cell 0
            have p1 := XK.out.cell 1
            simp at p0 p1
            go_wp2_with fail
            refine (bytes_some x.2 (by omega) _).mono ?_
            rintro e w3 ⟨g3, n3, c3, rfl, m3, b3⟩
            have hn3 : n3 ≤ 8 := by have := nameBytes_len8 x.2; have := m3.len; omega
            have M3 := Lib.hid m3
            have M2 := Lib.hid (M2.out.below b3)
            have B3 := Lib.hid (B2.out.trans (b3.mono (by omega)))
            clear m3 b3 p0 p1
            have s3 := B3.out.size
            go_wp2_with (at_builtin; refine wpList_append_own _ rfl _ _ 43 rfl z 5 i0 (.int .u8 0) 1 1 Try.underlying43 HI.out HZ0.out HZ1.out HZ2.out rfl (by decide) _ _ _ rfl M2.out.1 ⟨g3, 0, none⟩ n3 _ ((nameBytes x.2).map (Value.int .u8)) rfl ?h0 ?h1 ?h2 ?h3 ?h4 ?h5 ?_)
            case h0 => rw [List.length_map, Nat.mul_one]; first | rfl | exact sb_len _ | exact M3.out.len
            case h1 => exact World.ownsRow.cells M3.out.1 rfl
            case h2 => intro u hu; obtain ⟨z, _, rfl⟩ := List.mem_map.1 hu; rfl
            case h3 => unfold maxLen; omega
            case h4 => omega
            case h5 => omega
            intro v4 w4 hown4 hgrow4 hnil4
            have hv : ∃ g c, v4 = .slice (some ⟨g, 0, none⟩) (n + 1 + n3) c := by
              rcases hown4.2 with ⟨e, _⟩ | ⟨g, cap, cur, e, _⟩
              · exact absurd e hnil4
              · exact ⟨g, cap, e⟩
            obtain ⟨g4, c4, rfl⟩ := hv
            have hm4 := M2.out.app (ys := nameBytes x.2) M3.out.2 (by simpa using hown4)
            have hb4 : Below z w1 w4 := B3.out.grown hgrow4 (by omega) (fun g hg => (M2.out.1.lt g hg).1)
            have he : pre ++ (kids.take k).flatMap kidBytes ++ [x.1 % 256] ++ nameBytes x.2 = pre ++ (kids.take (k + 1)).flatMap kidBytes := by
              rw [HST.out]; simp [kidBytes]
            rw [he] at hm4
            have M4 := Lib.hid hm4
            have B4 := Lib.hid hb4
            clear hm4 hb4 hown4 hgrow4 hnil4 he
            go_wp2
            go_roundw
            case rel => exact ⟨k + 1, _, _, _, by omega, by go_num, rfl, M4.out, B4.out⟩
            case measure => simp [intOf]; omega
          · have hkt : kids.take k = kids := List.take_of_length_le (by rw [LK.out]; omega)
            rw [hkt] at MR
            go_wp2
            go_ret
            refine ⟨_, n, c, rfl, ?_, BW.out⟩
            have hrw : rawBytes ⟨kind, path, kids, val⟩ = pre ++ kids.flatMap kidBytes := by
              unfold rawBytes
              rw [← HPRE.out]
              simp only [LP.out, LK.out]
            rw [hr.out, hrw]
            exact MR.out.base (by omega)
  · have hr := Lib.hid (show nodeBytes ⟨kind, path, kids, val⟩ = [] from if_neg hok)
    have hok : nodeOk ⟨kind, path, kids, val⟩ = false := by simpa using hok
    rw [hok]
    go_wp2
    go_ret
    exact ⟨none, 0, 0, rfl, by rw [hr.out]; exact Mine.nil _ _, BB.out⟩
end Go.Proofs.Ytdhnhgppapkikaa

-- CellsOf: What the program makes of its list of nodes: cells.
namespace Go.Proofs.Ytdhnhgppapkikaa
set_option maxRecDepth 20000
set_option linter.unusedVariables false
set_option linter.unusedSimpArgs false
open Go.RowKit Go.Shelf
attribute [local go_sem] Oper.semAt_some

def cellAt (ps : List (Int × NV)) (k : Nat) : Int × List Int := ((pAt ps k).1, nodeBytes (pAt ps k).2.nd)
/-- the cells of a list. -/
def cellsL (ps : List (Int × NV)) : List (Int × List Int) := ps.map fun p => (p.1, nodeBytes p.2.nd)
theorem cells_range (ps : List (Int × NV)) : (List.range ps.length).map (cellAt ps) = cellsL ps := by
  apply List.ext_getElem?
  intro i
  unfold cellsL cellAt pAt
  by_cases h : i < ps.length
  · simp [h]
  · simp [h]
theorem own_cells {w : World} {lo size n : Nat} {e : TypeId} {v : Value} {xs : List Value} (h : w.ownsRow lo e size v n xs) (g : Nat) (hg : v.ownBlock = some g) : ∃ cur z, w.heap[g]? = some (.cells cur e z) := by
  rcases h.2 with ⟨rfl, _⟩ | ⟨g', cap, cur, rfl, _, h2, _⟩
  · simp [Value.ownBlock] at hg
  · simp [Value.ownBlock] at hg
    subst hg
    exact ⟨_, _, h2⟩
/-- cells of the call's own abide the turn of what is no cells. -/
theorem OwnC.abide {X Y : World} {row : Option Nat} {lo n c : Nat} {A : Option Addr} {cs : List (Int × List Int)} (h : OwnC X lo X.heap.size A n c cs) (hg : X.grownBy Y row) (hr : ∀ r, row = some r → ∃ o : Obj, X.heap[r]? = some o ∧ o.isCells = false) : OwnC Y lo Y.heap.size A n c cs := by
  obtain ⟨hl, hu, sl, hrow, hs⟩ := h
  have t := Touch.of_grown hg
  have no : ∀ {size k : Nat} {e : TypeId} {v : Value} {xs : List Value}, X.ownsRow lo e size v k xs → ∀ g, v.ownBlock = some g → ¬ (some g = row) := fun ho g hv e => by
    obtain ⟨o, h1, h2⟩ := hr g e.symm
    obtain ⟨cur, z, h3⟩ := own_cells ho g hv
    rw [h1] at h3; cases h3; cases h2
  exact ⟨hl, fun b hb => Nat.lt_of_lt_of_le (hu b hb) hg.size, sl, own_touch hrow t (no hrow), fun i hi => (hs.mine i hi).touch t (no (hs.mine i hi).1), hs.apart, hs.other, fun i hi b hb => Nat.lt_of_lt_of_le (hs.under i hi b hb) hg.size⟩
theorem cells_push {W w1 w6 : World} {cb n₀ b0 q c n1 c1 g6 c6 : Nat} {A A1 : Option Addr} {cs : List (Int × List Int)} {bs : List Int} {m : Int} {sl : Nat → Sub} {C : Obj} (hcb : cb < n₀) (hb0 : b0 ≤ cb) (hW : n₀ ≤ W.heap.size)
    (bC : Boxed W cb 29 (.slice A q c)) (hl : cs.length = q) (hu : ∀ b, (Value.slice A q c).ownBlock = some b → b < W.heap.size) (hrow : W.ownsRow n₀ 51 2 (.slice A q c) q (cvs q cs sl)) (hs : Subs W n₀ W.heap.size (Value.slice A q c).ownBlock q cs sl)
    (b1 : Below W.heap.size W w1) (mx : Mine w1 W.heap.size A1 n1 c1 bs)
    (hr6 : w6.ownsRow n₀ 51 2 (.slice (some ⟨g6, 0, none⟩) (q + 1) c6) (q + 1) (cvs q cs sl ++ [.int .i64 m, .slice A1 n1 c1])) (hg6 : (w1.alloc C).grownBy w6 (Value.slice A q c).ownBlock)
    (hw6 : (Value.slice A q c).ownBlock = some g6 ∨ g6 = (w1.alloc C).heap.size) :
    Boxed w6 cb 29 (.slice A q c) ∧ (∀ B, KeepsFrom B W (w6.setCell ⟨cb, 0, none⟩ (.slice (some ⟨g6, 0, none⟩) (q + 1) c6))) ∧ KpB cb n₀ W (w6.setCell ⟨cb, 0, none⟩ (.slice (some ⟨g6, 0, none⟩) (q + 1) c6)) ∧
      Below b0 W (w6.setCell ⟨cb, 0, none⟩ (.slice (some ⟨g6, 0, none⟩) (q + 1) c6)) ∧ Boxed (w6.setCell ⟨cb, 0, none⟩ (.slice (some ⟨g6, 0, none⟩) (q + 1) c6)) cb 29 (.slice (some ⟨g6, 0, none⟩) (q + 1) c6) ∧
      OwnC (w6.setCell ⟨cb, 0, none⟩ (.slice (some ⟨g6, 0, none⟩) (q + 1) c6)) n₀ (w6.setCell ⟨cb, 0, none⟩ (.slice (some ⟨g6, 0, none⟩) (q + 1) c6)).heap.size (some ⟨g6, 0, none⟩) (q + 1) c6 (cs ++ [(m, bs)]) := by
  have s1 := b1.size
  have ba : Below w1.heap.size w1 (w1.alloc C) := (Below.refl _ _).alloc (Nat.le_refl _) _
  have b2 : Below W.heap.size W (w1.alloc C) := b1.trans (ba.mono s1)
  have s2 : (w1.alloc C).heap.size = w1.heap.size + 1 := by simp
  have t6 := Touch.of_grown hg6
  have s6 := hg6.size
  have hng : ∀ b, (Value.slice A q c).ownBlock = some b → n₀ ≤ b := fun b hb => (hrow.lt b hb).1
  have bC6 : Boxed w6 cb 29 (.slice A q c) := (t6.block cb (by have := bC.lt; omega) (fun e => by have := hng _ e.symm; omega)).trans ((b2.block cb bC.lt).trans bC)
  obtain ⟨w7, hw7⟩ : ∃ w7, w6.setCell ⟨cb, 0, none⟩ (.slice (some ⟨g6, 0, none⟩) (q + 1) c6) = w7 := ⟨_, rfl⟩
  have t7 : Touch (fun g => g = cb) w6 w7 := by rw [← hw7]; exact touch_set w6 cb 0 _ rfl
  have s7 := t7.size
  have bC7 : Boxed w7 cb 29 (.slice (some ⟨g6, 0, none⟩) (q + 1) c6) := by rw [← hw7]; exact bC6.set _
  have tt : Touch (fun g => g = cb ∨ (Value.slice A q c).ownBlock = some g) W w7 := ((Touch.of_below b2).trans (t6.mono (fun k hk => .inr hk.symm))).trans (t7.mono (fun k hk => .inl hk))
  have hs2 : Subs (w1.alloc C) n₀ W.heap.size (Value.slice A q c).ownBlock q cs sl := ⟨fun i hi => (hs.mine i hi).below b2, hs.apart, hs.other, hs.under⟩
  have o6 := OwnC.pushed hl hu hs2 ((mx.below ba).base hW) (fun b hb => (mx.1.lt b hb).1) hr6 hg6 hw6 (by omega) (Nat.le_refl _)
  have o7 : OwnC w7 n₀ w7.heap.size (some ⟨g6, 0, none⟩) (q + 1) c6 (cs ++ [(m, bs)]) := (o6.touch t7 (fun b h1 h2 e => by omega)).more s7
  rw [hw7]
  refine ⟨bC6, fun B => ⟨tt.size, fun k o hk ho hn => ?_⟩, ⟨tt.size, fun k hk hc => tt.block k (by omega) (fun e => e.elim hc (fun e => by have := hng _ e; omega))⟩, tt.below (by omega) (fun k hk e => e.elim (fun e => by omega) (fun e => by have := hng _ e; omega)), bC7, o7⟩
  refine (tt.block k (Array.getElem?_eq_some_iff.1 ho).1 (fun e => ?_)).trans ho
  rcases e with e | e
  · subst e
    rw [show W.heap[k]? = _ from bC] at ho; cases ho; cases hn
  · obtain ⟨cur, z, h3⟩ := own_cells hrow k e
    rw [h3] at ho; cases ho; cases hn
set_option maxHeartbeats 4000000 in
theorem cellsOf_any (lo : Nat) (R : SR) (ps : List (Int × NV)) (w : World) (hS : SLN w lo R ps) :
    Calls Try.prog 29 #[.agg #[R.kv ps.length, R.vv ps.length]] w fun e w' => ∃ A n c, e = .returned (.slice A n c) ∧ OwnC w' w.heap.size w'.heap.size A n c (cellsL ps) ∧ Below w.heap.size w w' := by
  have hlen := hS.len
  have HS := Lib.hid hS
  have hn0 : ∀ x, NodeIn w w.heap.size (pAt ps x).2.v (pAt ps x).2.nd := fun x => by
    by_cases h : x < ps.length
    · exact hS.nodes _ (pAt_mem ps x h)
    · have e : pAt ps x = (0, nv0) := by unfold pAt; rw [List.getElem?_eq_none (by omega)]; rfl
      rw [e]
      exact ⟨none, 0, 0, none, 0, 0, rfl, by omega, by omega, by decide, Ints.none_, Kids.none_⟩
  have HN := Lib.hid hn0
  clear hS hn0
  obtain ⟨i0, hi0, hz0, hz1, hz2⟩ := info_parts Try.infoC
  refine (callsIn_wide (n := 6)).1 ?_
  refine callsIn_of_wp_marks Try.func29 rfl trivial ?_ rfl
  simp only [Try.ntmps29, List.size_toArray, List.length_cons, List.length_nil, Nat.reduceAdd, Nat.reduceSub, Array.replicate_succ, Array.replicate_zero, List.push_toArray, List.append_toArray, List.nil_append, List.cons_append]
  gi_wp2_with (refine ⟨trivial, ?_⟩; gi_at_call 55; refine (callsIn_wide.2 (allN_any _ _)).mono ?_; rintro e w' ⟨rfl, rfl⟩)
  obtain ⟨W0, hW0⟩ : ∃ W0, ((w.alloc (.cells #[R.kv ps.length, R.vv ps.length] 59)).alloc (.cells #[.slice none 0 0] 29)).alloc (.cells #[.pointer (some ⟨w.heap.size, 0, none⟩)] 63) = W0 := ⟨_, rfl⟩
  have bR : Box W0 w.heap.size 59 #[R.kv ps.length, R.vv ps.length] := hW0 ▸ heap3_0 _ _ _ _
  have bC : Boxed W0 (w.heap.size + 1) 29 (.slice none 0 0) := hW0 ▸ heap3_1 _ _ _ _
  have bP : Box W0 (w.heap.size + 1 + 1) 63 #[.pointer (some ⟨w.heap.size, 0, none⟩)] := hW0 ▸ heap3_2 _ _ _ _
  have hsz : W0.heap.size = w.heap.size + 3 := hW0 ▸ size3 _ _ _ _
  have hB0 : Below w.heap.size w W0 := hW0 ▸ below3 _ _ _ _
  rw [hW0]
  clear hW0
  refine wpIn_rangeFunc_ownH rfl (by omega) (gf := 72) (lb := #[.pointer (some ⟨w.heap.size + 1 + 1, 0, none⟩)]) rfl trivial (enters_of Try.func72 (by kernel_rfl) rfl)
    (allN_stops 5 (by omega) (w.heap.size + 1 + 1) (w.heap.size + 3) (w.heap.size + 1) w.heap.size lo R ps W0 (by omega) bP (by omega) (by omega) bR (by omega) (by omega) (HS.out.below hB0) (fun g hg => by have := (HS.out.lt g hg).2; omega))
    (fun h k => h.trans k) (KpB.put (by omega)) (Below.refl _ _) (fun _ => rfl)
    (fun pre W => ∃ A q c, Boxed W (w.heap.size + 1) 29 (.slice A q c) ∧ OwnC W (w.heap.size + 3) W.heap.size A q c (pre.map (cellAt ps)) ∧ KpB (w.heap.size + 1) (w.heap.size + 3) W0 W ∧ Below w.heap.size w W)
    (fun _ _ _ => False)
    (fun pre X Y row hs hg hr => by
      obtain ⟨A, q, c, h1, h2, h3, h4⟩ := hs
      refine ⟨A, q, c, h1.kept hg (fun e => ?_), h2.abide hg (fun r e => (hr r e).2), h3.trans ⟨hg.size, fun k hk _ => hg.block k (by have := h3.1; omega) (fun e => by have := (hr k e.symm).1; omega)⟩, h4.grown hg (by have := h4.size; omega) (fun k e => by have := (hr k e).1; omega)⟩
      obtain ⟨_, o, ho, hc⟩ := hr _ e.symm
      rw [show X.heap[w.heap.size + 1]? = _ from h1] at ho; cases ho; cases hc)
    (fun _ _ _ _ _ hs _ _ => hs)
    ⟨none, 0, 0, bC, OwnC.nil _ _ _, KpB.refl _ _ _, hB0⟩
    (fun x a' W => ∃ Bx, w.heap.size + 1 + 1 < Bx ∧ Box W Bx 35 #[.int .i64 (pAt ps x).2.nd.kind, .slice (pAt ps x).2.Ap (pAt ps x).2.np (pAt ps x).2.cp, .slice (pAt ps x).2.Ak (pAt ps x).2.nk (pAt ps x).2.ck, .string (pAt ps x).2.nd.val] ∧ a' = { tmps := #[.agg #[R.kv ps.length, R.vv ps.length], .pointer (some ⟨w.heap.size, 0, none⟩), .slice none 0 0, .pointer (some ⟨w.heap.size + 1, 0, none⟩), .int .i64 (pAt ps x).1, .pointer (some ⟨Bx, 0, none⟩), .func (.func 72) #[] #[.pointer (some ⟨w.heap.size + 1 + 1, 0, none⟩)], .int .i64 (pAt ps x).1, .agg #[.int .i64 (pAt ps x).2.nd.kind, .slice (pAt ps x).2.Ap (pAt ps x).2.np (pAt ps x).2.cp, .slice (pAt ps x).2.Ak (pAt ps x).2.nk (pAt ps x).2.ck, .string (pAt ps x).2.nd.val], undef, undef, undef, undef, undef, undef, undef, undef], defers := [] })
    (fun x a' _ X Y row hs hg hr => by obtain ⟨Bx, h1, h2, h3⟩ := hs; exact ⟨Bx, h1, (hg.block Bx h2.lt (fun e => by obtain ⟨_, o, ho, hc⟩ := hr Bx e.symm; rw [show X.heap[Bx]? = _ from h2] at ho; cases ho; cases hc)).trans h2, h3⟩)
    ?assign ?body ?done ?stop
  case assign =>
    rintro l pre x W K ⟨A, q, c, h1, h2, h3, h4⟩ hK
    have hbx : w.heap.size + 3 ≤ W.heap.size := by have := h3.1; omega
    unfold encN NV.v
    gi_wp2
    exact hK _ _ ((KeepsOthers.alloc _ _).from _) ⟨by simp, fun k hk _ => ((Below.refl W.heap.size W).alloc (Nat.le_refl _) _).block k (by omega)⟩ ⟨A, q, c, h1.alloc _, (h2.below ((Below.refl _ _).alloc (Nat.le_refl _) _)).more (by simp), h3.trans ⟨by simp, fun k hk _ => ((Below.refl W.heap.size W).alloc (Nat.le_refl _) _).block k (by omega)⟩, h4.alloc (by omega) _⟩ ⟨W.heap.size, by omega, heap_alloc_new _ _, rfl⟩
  case body =>
    rintro l pre x a' W hl ⟨r, hr⟩ ⟨A, q, c, hbc, hoc, hkp, hbw⟩ ⟨Bx, hBx, xb, rfl⟩ hlt
    have hW3 : w.heap.size + 3 ≤ W.heap.size := by have := hkp.1; omega
    have c0 := hbc.cell
    have f0 := hbc.frozen
    have x0 := xb.cell 0
    have x1 := xb.cell 1
    have x2 := xb.cell 2
    have x3 := xb.cell 3
    have hlb := hbc.lt
    have hlx := xb.lt
    simp at x0 x1 x2 x3
    have BC := Lib.hid hbc
    have KP := Lib.hid hkp
    have BW := Lib.hid hbw
    have NX := Lib.hid (show NodeIn W.drew w.heap.size (pAt ps x).2.v (pAt ps x).2.nd from (HN.out x).below hbw.drew)
    have hql := hoc.len
    simp at hql
    obtain ⟨h1, h2, sl, h3, h4⟩ := hoc
    have HL := Lib.hid h1
    have HU := Lib.hid h2
    have HROW := Lib.hid h3
    have HSUB := Lib.hid h4
    clear h1 h2 h3 h4 hbc hkp hbw xb hr
    gi_wp2
    refine region_round (by kernel_rfl) (by kernel_rfl) (by rintro ⟨_, _, h⟩; exact h) ?_
    change wpAny _ _ _ _ _ _ _ _
    refine wpAny_take (i := 1) (v := ?tv) rfl (by kernel_rfl) (by kernel_rfl) (by kernel_rfl) (fun _ _ _ h => h) (Or.inl ⟨by rfl, ?ty⟩) ?tk
    case ty =>
      intro w
      go_simp
      try (with_reducible rfl)
    refine wpAny_ready (rs := [0, 2]) (by kernel_rfl) (by simp) ?_
    refine AllReady.cons rfl (fun K hK => ?_) ?_
    · go_simp
      refine hK _ _ ?_
      clear hK K
      refine wpAny_ready (rs := [2]) (by kernel_rfl) (by simp) ?_
      refine AllReady.cons rfl (fun K hK => ?_) AllReady.nil
      go_simp
      refine hK _ _ ?_
      clear hK K
      refine wpAny_ready (rs := [3]) (by kernel_rfl) (by simp) ?_
      refine AllReady.cons rfl (fun K hK => ?_) AllReady.nil
      go_simp
      refine (implNodeBytes_any _ _ w.heap.size W.drew (Nat.le_trans BW.out.size (Nat.le_refl _)) NX.out).mono ?_
      rintro e w1 ⟨A1, n1, c1, rfl, m1, b1⟩
      have b1 : Below W.heap.size W w1 := (show Below W.heap.size W W.drew from (Below.refl _ _).drew).trans b1
      have hs1 : W.heap.size ≤ w1.heap.size := b1.size
      have c1' : w1.cell? ⟨w.heap.size + 1, 0, none⟩ = some (.slice A q c) := (b1.cell (p := ⟨w.heap.size + 1, 0, none⟩) BC.out.lt).trans BC.out.cell
      have hlb1 : w.heap.size + 1 < w1.heap.size := by omega
      have B1 := Lib.hid b1
      have M1 := Lib.hid (show Mine w1 W.heap.size A1 n1 c1 (nodeBytes (pAt ps x).2.nd) from m1)
      clear b1 m1
      refine hK _ _ ?_
      clear hK K
      refine wpAny_ready (rs := [4]) (by kernel_rfl) (by simp) ?_
      refine AllReady.cons rfl (fun K hK => ?_) AllReady.nil
      go_simp
      refine hK _ _ ?_
      clear hK K
      refine wpAny_ready (rs := [5]) (by kernel_rfl) (by simp) ?_
      refine AllReady.cons rfl (fun K hK => ?_) AllReady.nil
      go_simp
      refine hK _ _ ?_
      clear hK K
      refine wpAny_ready (rs := [6]) (by kernel_rfl) (by simp) ?_
      refine AllReady.cons rfl (fun K hK => ?_) AllReady.nil
      refine step_append_lies _ rfl _ _ 29 rfl (w.heap.size + 3) 51 i0 (.agg #[.int .i64 0, .slice none 0 0]) 2 32 Try.underlying29 hi0 hz0 hz1 hz2 rfl (by decide) (.slice A q c) q (cvs q (pre.map (cellAt ps)) sl) (by simp [Act.eval]) (own_touch (S := fun _ => False) HROW.out (Touch.of_below (B1.out.trans (((Below.refl w1.heap.size w1).alloc (Nat.le_refl _) _).mono hs1))) (fun _ _ h => h)) ⟨w1.heap.size, 0, none⟩ 1 1 [.int .i64 (pAt ps x).1, .slice A1 n1 c1] (by simp [Act.eval]) rfl (by
          intro j u hj
          match j, hj with
          | 0, hj => simp at hj; subst hj; simp [Addr.add]
          | 1, hj => simp at hj; subst hj; simp [Addr.add]) (by intro u hu; simp at hu; rcases hu with rfl | rfl <;> rfl) (by omega) (by unfold maxLen; omega) (by omega) (by simp; omega) _ rfl ?_
      intro g6 c6 w6 hown6 hgrow6 hwh6 hlt6
      have PF := cells_push (W := W) (w1 := w1) (b0 := w.heap.size) (n₀ := w.heap.size + 3) (cb := w.heap.size + 1) (by omega) (by omega) hW3 BC.out HL.out HU.out HROW.out HSUB.out B1.out M1.out hown6 hgrow6 hwh6
      have q6 := PF.1.cell
      have f6 := PF.1.frozen
      have PF := Lib.hid PF.2
      clear hown6 hgrow6 hwh6 hlt6
      go_simp
      refine hK _ _ ?_
      clear hK K
      refine wpAny_ready (rs := [7]) (by kernel_rfl) (by simp) ?_
      refine AllReady.cons rfl (fun K hK => ?_) AllReady.nil
      go_simp
      refine hK _ _ ?_
      clear hK K
      refine wpAny_done (by kernel_rfl) ?_ _
      exact ⟨PF.out.1 _, PF.out.2.1, _, _, _, PF.out.2.2.2.1, by rw [List.map_append]; exact PF.out.2.2.2.2, KP.out.trans PF.out.2.1, BW.out.trans PF.out.2.2.1⟩
    refine AllReady.cons rfl (fun K hK => ?_) AllReady.nil
    go_simp
    refine hK _ _ ?_
    clear hK K
    refine wpAny_ready (rs := [0, 3]) (by kernel_rfl) (by simp) ?_
    refine AllReady.cons rfl (fun K hK => ?_) ?_
    · go_simp
      refine hK _ _ ?_
      clear hK K
      refine wpAny_ready (rs := [3]) (by kernel_rfl) (by simp) ?_
      refine AllReady.cons rfl (fun K hK => ?_) AllReady.nil
      go_simp
      refine (implNodeBytes_any _ _ w.heap.size W.drew (Nat.le_trans BW.out.size (Nat.le_refl _)) NX.out).mono ?_
      rintro e w1 ⟨A1, n1, c1, rfl, m1, b1⟩
      have b1 : Below W.heap.size W w1 := (show Below W.heap.size W W.drew from (Below.refl _ _).drew).trans b1
      have hs1 : W.heap.size ≤ w1.heap.size := b1.size
      have c1' : w1.cell? ⟨w.heap.size + 1, 0, none⟩ = some (.slice A q c) := (b1.cell (p := ⟨w.heap.size + 1, 0, none⟩) BC.out.lt).trans BC.out.cell
      have hlb1 : w.heap.size + 1 < w1.heap.size := by omega
      have B1 := Lib.hid b1
      have M1 := Lib.hid (show Mine w1 W.heap.size A1 n1 c1 (nodeBytes (pAt ps x).2.nd) from m1)
      clear b1 m1
      refine hK _ _ ?_
      clear hK K
      refine wpAny_ready (rs := [4]) (by kernel_rfl) (by simp) ?_
      refine AllReady.cons rfl (fun K hK => ?_) AllReady.nil
      go_simp
      refine hK _ _ ?_
      clear hK K
      refine wpAny_ready (rs := [5]) (by kernel_rfl) (by simp) ?_
      refine AllReady.cons rfl (fun K hK => ?_) AllReady.nil
      go_simp
      refine hK _ _ ?_
      clear hK K
      refine wpAny_ready (rs := [6]) (by kernel_rfl) (by simp) ?_
      refine AllReady.cons rfl (fun K hK => ?_) AllReady.nil
      refine step_append_lies _ rfl _ _ 29 rfl (w.heap.size + 3) 51 i0 (.agg #[.int .i64 0, .slice none 0 0]) 2 32 Try.underlying29 hi0 hz0 hz1 hz2 rfl (by decide) (.slice A q c) q (cvs q (pre.map (cellAt ps)) sl) (by simp [Act.eval]) (own_touch (S := fun _ => False) HROW.out (Touch.of_below (B1.out.trans (((Below.refl w1.heap.size w1).alloc (Nat.le_refl _) _).mono hs1))) (fun _ _ h => h)) ⟨w1.heap.size, 0, none⟩ 1 1 [.int .i64 (pAt ps x).1, .slice A1 n1 c1] (by simp [Act.eval]) rfl (by
          intro j u hj
          match j, hj with
          | 0, hj => simp at hj; subst hj; simp [Addr.add]
          | 1, hj => simp at hj; subst hj; simp [Addr.add]) (by intro u hu; simp at hu; rcases hu with rfl | rfl <;> rfl) (by omega) (by unfold maxLen; omega) (by omega) (by simp; omega) _ rfl ?_
      intro g6 c6 w6 hown6 hgrow6 hwh6 hlt6
      have PF := cells_push (W := W) (w1 := w1) (b0 := w.heap.size) (n₀ := w.heap.size + 3) (cb := w.heap.size + 1) (by omega) (by omega) hW3 BC.out HL.out HU.out HROW.out HSUB.out B1.out M1.out hown6 hgrow6 hwh6
      have q6 := PF.1.cell
      have f6 := PF.1.frozen
      have PF := Lib.hid PF.2
      clear hown6 hgrow6 hwh6 hlt6
      go_simp
      refine hK _ _ ?_
      clear hK K
      refine wpAny_ready (rs := [7]) (by kernel_rfl) (by simp) ?_
      refine AllReady.cons rfl (fun K hK => ?_) AllReady.nil
      go_simp
      refine hK _ _ ?_
      clear hK K
      refine wpAny_done (by kernel_rfl) ?_ _
      exact ⟨PF.out.1 _, PF.out.2.1, _, _, _, PF.out.2.2.2.1, by rw [List.map_append]; exact PF.out.2.2.2.2, KP.out.trans PF.out.2.1, BW.out.trans PF.out.2.2.1⟩
    refine AllReady.cons rfl (fun K hK => ?_) AllReady.nil
    go_simp
    refine (implNodeBytes_any _ _ w.heap.size W.drew (Nat.le_trans BW.out.size (Nat.le_refl _)) NX.out).mono ?_
    rintro e w1 ⟨A1, n1, c1, rfl, m1, b1⟩
    have b1 : Below W.heap.size W w1 := (show Below W.heap.size W W.drew from (Below.refl _ _).drew).trans b1
    have hs1 : W.heap.size ≤ w1.heap.size := b1.size
    have c1' : w1.cell? ⟨w.heap.size + 1, 0, none⟩ = some (.slice A q c) := (b1.cell (p := ⟨w.heap.size + 1, 0, none⟩) BC.out.lt).trans BC.out.cell
    have hlb1 : w.heap.size + 1 < w1.heap.size := by omega
    have B1 := Lib.hid b1
    have M1 := Lib.hid (show Mine w1 W.heap.size A1 n1 c1 (nodeBytes (pAt ps x).2.nd) from m1)
    clear b1 m1
    refine hK _ _ ?_
    clear hK K
    refine wpAny_ready (rs := [0, 4]) (by kernel_rfl) (by simp) ?_
    refine AllReady.cons rfl (fun K hK => ?_) ?_
    · go_simp
      refine hK _ _ ?_
      clear hK K
      refine wpAny_ready (rs := [4]) (by kernel_rfl) (by simp) ?_
      refine AllReady.cons rfl (fun K hK => ?_) AllReady.nil
      go_simp
      refine hK _ _ ?_
      clear hK K
      refine wpAny_ready (rs := [5]) (by kernel_rfl) (by simp) ?_
      refine AllReady.cons rfl (fun K hK => ?_) AllReady.nil
      go_simp
      refine hK _ _ ?_
      clear hK K
      refine wpAny_ready (rs := [6]) (by kernel_rfl) (by simp) ?_
      refine AllReady.cons rfl (fun K hK => ?_) AllReady.nil
      refine step_append_lies _ rfl _ _ 29 rfl (w.heap.size + 3) 51 i0 (.agg #[.int .i64 0, .slice none 0 0]) 2 32 Try.underlying29 hi0 hz0 hz1 hz2 rfl (by decide) (.slice A q c) q (cvs q (pre.map (cellAt ps)) sl) (by simp [Act.eval]) (own_touch (S := fun _ => False) HROW.out (Touch.of_below (B1.out.trans (((Below.refl w1.heap.size w1).alloc (Nat.le_refl _) _).mono hs1))) (fun _ _ h => h)) ⟨w1.heap.size, 0, none⟩ 1 1 [.int .i64 (pAt ps x).1, .slice A1 n1 c1] (by simp [Act.eval]) rfl (by
          intro j u hj
          match j, hj with
          | 0, hj => simp at hj; subst hj; simp [Addr.add]
          | 1, hj => simp at hj; subst hj; simp [Addr.add]) (by intro u hu; simp at hu; rcases hu with rfl | rfl <;> rfl) (by omega) (by unfold maxLen; omega) (by omega) (by simp; omega) _ rfl ?_
      intro g6 c6 w6 hown6 hgrow6 hwh6 hlt6
      have PF := cells_push (W := W) (w1 := w1) (b0 := w.heap.size) (n₀ := w.heap.size + 3) (cb := w.heap.size + 1) (by omega) (by omega) hW3 BC.out HL.out HU.out HROW.out HSUB.out B1.out M1.out hown6 hgrow6 hwh6
      have q6 := PF.1.cell
      have f6 := PF.1.frozen
      have PF := Lib.hid PF.2
      clear hown6 hgrow6 hwh6 hlt6
      go_simp
      refine hK _ _ ?_
      clear hK K
      refine wpAny_ready (rs := [7]) (by kernel_rfl) (by simp) ?_
      refine AllReady.cons rfl (fun K hK => ?_) AllReady.nil
      go_simp
      refine hK _ _ ?_
      clear hK K
      refine wpAny_done (by kernel_rfl) ?_ _
      exact ⟨PF.out.1 _, PF.out.2.1, _, _, _, PF.out.2.2.2.1, by rw [List.map_append]; exact PF.out.2.2.2.2, KP.out.trans PF.out.2.1, BW.out.trans PF.out.2.2.1⟩
    refine AllReady.cons rfl (fun K hK => ?_) AllReady.nil
    go_simp
    refine hK _ _ ?_
    clear hK K
    refine wpAny_ready (rs := [0, 5]) (by kernel_rfl) (by simp) ?_
    refine AllReady.cons rfl (fun K hK => ?_) ?_
    · go_simp
      refine hK _ _ ?_
      clear hK K
      refine wpAny_ready (rs := [5]) (by kernel_rfl) (by simp) ?_
      refine AllReady.cons rfl (fun K hK => ?_) AllReady.nil
      go_simp
      refine hK _ _ ?_
      clear hK K
      refine wpAny_ready (rs := [6]) (by kernel_rfl) (by simp) ?_
      refine AllReady.cons rfl (fun K hK => ?_) AllReady.nil
      refine step_append_lies _ rfl _ _ 29 rfl (w.heap.size + 3) 51 i0 (.agg #[.int .i64 0, .slice none 0 0]) 2 32 Try.underlying29 hi0 hz0 hz1 hz2 rfl (by decide) (.slice A q c) q (cvs q (pre.map (cellAt ps)) sl) (by simp [Act.eval]) (own_touch (S := fun _ => False) HROW.out (Touch.of_below (B1.out.trans (((Below.refl w1.heap.size w1).alloc (Nat.le_refl _) _).mono hs1))) (fun _ _ h => h)) ⟨w1.heap.size, 0, none⟩ 1 1 [.int .i64 (pAt ps x).1, .slice A1 n1 c1] (by simp [Act.eval]) rfl (by
          intro j u hj
          match j, hj with
          | 0, hj => simp at hj; subst hj; simp [Addr.add]
          | 1, hj => simp at hj; subst hj; simp [Addr.add]) (by intro u hu; simp at hu; rcases hu with rfl | rfl <;> rfl) (by omega) (by unfold maxLen; omega) (by omega) (by simp; omega) _ rfl ?_
      intro g6 c6 w6 hown6 hgrow6 hwh6 hlt6
      have PF := cells_push (W := W) (w1 := w1) (b0 := w.heap.size) (n₀ := w.heap.size + 3) (cb := w.heap.size + 1) (by omega) (by omega) hW3 BC.out HL.out HU.out HROW.out HSUB.out B1.out M1.out hown6 hgrow6 hwh6
      have q6 := PF.1.cell
      have f6 := PF.1.frozen
      have PF := Lib.hid PF.2
      clear hown6 hgrow6 hwh6 hlt6
      go_simp
      refine hK _ _ ?_
      clear hK K
      refine wpAny_ready (rs := [7]) (by kernel_rfl) (by simp) ?_
      refine AllReady.cons rfl (fun K hK => ?_) AllReady.nil
      go_simp
      refine hK _ _ ?_
      clear hK K
      refine wpAny_done (by kernel_rfl) ?_ _
      exact ⟨PF.out.1 _, PF.out.2.1, _, _, _, PF.out.2.2.2.1, by rw [List.map_append]; exact PF.out.2.2.2.2, KP.out.trans PF.out.2.1, BW.out.trans PF.out.2.2.1⟩
    refine AllReady.cons rfl (fun K hK => ?_) AllReady.nil
    go_simp
    refine hK _ _ ?_
    clear hK K
    refine wpAny_ready (rs := [0]) (by kernel_rfl) (by simp) ?_
    refine AllReady.cons rfl (fun K hK => ?_) AllReady.nil
    go_simp
    refine hK _ _ ?_
    clear hK K
    refine wpAny_ready (rs := [6]) (by kernel_rfl) (by simp) ?_
    refine AllReady.cons rfl (fun K hK => ?_) AllReady.nil
    refine step_append_lies _ rfl _ _ 29 rfl (w.heap.size + 3) 51 i0 (.agg #[.int .i64 0, .slice none 0 0]) 2 32 Try.underlying29 hi0 hz0 hz1 hz2 rfl (by decide) (.slice A q c) q (cvs q (pre.map (cellAt ps)) sl) (by simp [Act.eval]) (own_touch (S := fun _ => False) HROW.out (Touch.of_below (B1.out.trans (((Below.refl w1.heap.size w1).alloc (Nat.le_refl _) _).mono hs1))) (fun _ _ h => h)) ⟨w1.heap.size, 0, none⟩ 1 1 [.int .i64 (pAt ps x).1, .slice A1 n1 c1] (by simp [Act.eval]) rfl (by
        intro j u hj
        match j, hj with
        | 0, hj => simp at hj; subst hj; simp [Addr.add]
        | 1, hj => simp at hj; subst hj; simp [Addr.add]) (by intro u hu; simp at hu; rcases hu with rfl | rfl <;> rfl) (by omega) (by unfold maxLen; omega) (by omega) (by simp; omega) _ rfl ?_
    intro g6 c6 w6 hown6 hgrow6 hwh6 hlt6
    have PF := cells_push (W := W) (w1 := w1) (b0 := w.heap.size) (n₀ := w.heap.size + 3) (cb := w.heap.size + 1) (by omega) (by omega) hW3 BC.out HL.out HU.out HROW.out HSUB.out B1.out M1.out hown6 hgrow6 hwh6
    have q6 := PF.1.cell
    have f6 := PF.1.frozen
    have PF := Lib.hid PF.2
    clear hown6 hgrow6 hwh6 hlt6
    go_simp
    refine hK _ _ ?_
    clear hK K
    refine wpAny_ready (rs := [7]) (by kernel_rfl) (by simp) ?_
    refine AllReady.cons rfl (fun K hK => ?_) AllReady.nil
    go_simp
    refine hK _ _ ?_
    clear hK K
    refine wpAny_done (by kernel_rfl) ?_ _
    exact ⟨PF.out.1 _, PF.out.2.1, _, _, _, PF.out.2.2.2.1, by rw [List.map_append]; exact PF.out.2.2.2.2, KP.out.trans PF.out.2.1, BW.out.trans PF.out.2.2.1⟩
  case done =>
    rintro D ys W hD rfl ⟨A, q, c, h1, h2, h3, h4⟩ hK
    have c0 := h1.cell
    rw [cells_range] at h2
    have O2 := Lib.hid (h2.abide (grownBy_putObj' W D (.deferred none)) (fun r e => by cases e; exact ⟨_, hK, rfl⟩))
    have B2 := Lib.hid (h4.trans (belowK_b (w := w) (Nat.le_refl _) W D _ (.deferred none) (by omega) hK rfl rfl))
    clear h1 h2 h3 h4
    gi_wp2
    refine ⟨by simp, .inl ⟨_, _, rfl, run_takeDeferred hK, ?_⟩⟩
    exact ⟨_, results_tmp rfl _ _ _, _, _, _, rfl, O2.out.base (by omega), B2.out⟩
  case stop =>
    rintro D cx pre W hD _ h
    exact h.elim
end Go.Proofs.Ytdhnhgppapkikaa

-- CellQ: The program's CellsOk, NodeAt, Without and WithNode: for all cells.
namespace Go.Proofs.Ytdhnhgppapkikaa
set_option maxRecDepth 100000
set_option linter.unusedVariables false
set_option linter.unusedSimpArgs false
open Go.RowKit

end Go.Proofs.Ytdhnhgppapkikaa

-- CellR: The program's Without and WithNode: for all cells.
namespace Go.Proofs.Ytdhnhgppapkikaa
set_option maxRecDepth 100000
set_option linter.unusedVariables false
set_option linter.unusedSimpArgs false
open Go.RowKit

theorem NodesIs.cells {w : World} {lo : Nat} {R : SR} {ps : List (Int × NV)} {cs : List (Int × List Int)} (h : NodesIs w lo R ps cs) : cellsL ps = cs := by
  apply List.ext_getElem?
  intro i
  unfold cellsL
  have hl := h.len
  by_cases hi : i < ps.length
  · have h1 := h.at_ i hi
    rw [List.getElem?_map, List.getElem?_eq_getElem hi, List.getElem?_eq_getElem (by omega)]
    rw [List.getElem?_eq_getElem hi] at h1
    unfold cel at h1
    rw [List.getElem?_eq_getElem (by omega)] at h1
    obtain ⟨h1, h2⟩ := h1
    have h3 : nodeBytes ps[i].2.nd = cs[i].2 := by
      rcases h2 with ⟨_, _, _, h2⟩ | ⟨h2, _⟩
      · exact h2
      · cases h2
    have h1 : ps[i].1 = cs[i].1 := h1
    simp only [Option.map_some, Option.some.injEq]
    exact Prod.ext h1 h3
  · rw [List.getElem?_eq_none (by simp; omega), List.getElem?_eq_none (by omega)]
theorem cellsL_del (ps : List (Int × NV)) (i : Nat) : cellsL (delP ps i) = delP (cellsL ps) i := by unfold cellsL delP; simp [List.map_take, List.map_drop]
theorem cellsL_ins (ps : List (Int × NV)) (i : Nat) (q : Int × NV) : cellsL (insP ps i q) = insP (cellsL ps) i (q.1, nodeBytes q.2.nd) := insP_map _ _ _ _
theorem cel_get (cs : List (Int × List Int)) (i : Nat) (h : i < cs.length) : cs[i] = cel cs i := by unfold cel; rw [List.getElem?_eq_getElem h]; rfl
theorem less_del (cs : List (Int × List Int)) (m : Int) (i : Nat) (hr : Right cs) (hi : i < cs.length) (hm : (cel cs i).1 = m) : lessC cs m = delP cs i := by
  unfold lessC delP
  conv => lhs; rw [← List.take_append_drop i cs]
  rw [List.drop_eq_getElem_cons hi, List.filter_append, List.filter_cons, if_neg (by rw [cel_get cs i hi]; simp [hm])]
  congr 1
  · refine List.filter_eq_self.2 fun c hc => ?_
    obtain ⟨j, hj, rfl⟩ := List.mem_iff_getElem.1 hc
    have hj2 : j < i := by simp at hj; omega
    rw [List.getElem_take, cel_get cs j (by omega)]
    have := hr.rise j i hj2 hi
    exact decide_eq_true (by omega)
  · refine List.filter_eq_self.2 fun c hc => ?_
    obtain ⟨j, hj, rfl⟩ := List.mem_iff_getElem.1 hc
    have hj2 : i + 1 + j < cs.length := by simp at hj; omega
    rw [List.getElem_drop, cel_get cs _ hj2]
    have := hr.rise i (i + 1 + j) (by omega) hj2
    exact decide_eq_true (by omega)
theorem less_none (cs : List (Int × List Int)) (m : Int) (h : ¬ findC cs m < cs.length) : lessC cs m = cs := by
  unfold lessC
  refine List.filter_eq_self.2 fun c hc => ?_
  obtain ⟨j, hj, rfl⟩ := List.mem_iff_getElem.1 hc
  rw [cel_get cs j hj]
  exact decide_eq_true (findC_not cs m j (by have := findC_le cs m; omega))
theorem ins_place (ps : List (Int × NV)) (cs : List (Int × List Int)) (m : Int) (bs : List Int) (w : World) (lo : Nat) (R : SR) (h : NodesIs w lo R ps cs) (ht : hitI (kvs ps) m = false) : insP cs (lowI (kvs ps) m) (m, bs) = insC cs m bs := by
  have hl := h.len
  have hk : ∀ i (hi : i < ps.length), (kvs ps)[i]?.getD 0 = (cel cs i).1 := fun i hi => by
    have := (h.at_ i hi).1
    rw [List.getElem?_eq_getElem hi] at this
    rw [kvs_at ps i hi]
    exact this
  have hp : placeC cs m = lowI (kvs ps) m := placeC_at cs m _ (by have := lowI_len ps m; omega) (fun j hj => by
    have h1 := lowI_below (kvs ps) m j hj
    have h2 := lowI_len ps m
    rw [hk j (by omega)] at h1; omega) (fun hlt => by
    have h1 := lowI_above (kvs ps) m (by rw [kvs_len]; omega)
    rw [hk _ (by omega)] at h1
    rcases Int.lt_or_eq_of_le h1 with h2 | h2
    · exact h2
    · exact absurd (show hitI (kvs ps) m = true from decide_eq_true ⟨by rw [kvs_len]; omega, by rw [hk _ (by omega)]; exact h2.symm⟩) (by rw [ht]; simp))
  unfold insP insC
  rw [hp]
end Go.Proofs.Ytdhnhgppapkikaa

-- CellT: The program's WithNode: for all cells and nodes.
namespace Go.Proofs.Ytdhnhgppapkikaa
set_option maxRecDepth 100000
set_option linter.unusedVariables false
set_option linter.unusedSimpArgs false
open Go.RowKit

theorem nodeBytes_pos (nd : MNode) : (nodeOk nd = true → 0 < (nodeBytes nd).length) ∧ (nodeOk nd = false → nodeBytes nd = []) := by
  refine ⟨fun h => ?_, fun h => by unfold nodeBytes; rw [if_neg (by simp [h])]⟩
  rw [nodeBytes_raw nd h]
  simp [rawBytes]
/-- what adding a node says and leaves. -/
def AddIs (w : World) (p lo : Nat) (R : SR) (ps : List (Int × NV)) (x : NV) (e : Ending) (w' : World) : Prop :=
  (nodeOk x.nd = false ∧ e = .returned (.int .i64 (-1)) ∧ Below w.heap.size w w') ∨
  (nodeOk x.nd = true ∧ hitI (kvs ps) (nameOf (nodeBytes x.nd)) = true ∧ e = .returned (.int .i64 (nameOf (nodeBytes x.nd))) ∧ Below w.heap.size w w') ∨
  (nodeOk x.nd = true ∧ hitI (kvs ps) (nameOf (nodeBytes x.nd)) = false ∧ e = .returned (.int .i64 (nameOf (nodeBytes x.nd))) ∧
    ∃ R', Box w' p 59 #[R'.kv (ps.length + 1), R'.vv (ps.length + 1)] ∧ SLN w' lo R' (insP ps (lowI (kvs ps) (nameOf (nodeBytes x.nd))) (nameOf (nodeBytes x.nd), x)) ∧ Touch (fun g => g = p ∨ R.at_ g) w w')
set_option maxHeartbeats 2000000 in
theorem addNode_any (p lo : Nat) (R : SR) (ps : List (Int × NV)) (x : NV) (w : World) (hx : Box w p 59 #[R.kv ps.length, R.vv ps.length]) (h : SLN w lo R ps) (hlo : lo ≤ w.heap.size)
    (hn : NodeIn w w.heap.size x.v x.nd) (hu : ∀ g, x.use g → ¬ R.at_ g) (hup : ∀ g, x.use g → g ≠ p) (hpp : ∀ y ∈ ps, ∀ g, y.2.use g → g ≠ p) (hl : ps.length ≤ 80) :
    Calls Try.prog 27 #[.pointer (some ⟨p, 0, none⟩), x.v] w (AddIs w p lo R ps x) := by
  have hp := hx.lt
  obtain ⟨Ap, np, cp, Ak, nk, ck, nd⟩ := x
  have hbl : (nodeBytes nd).length ≤ 9223372036854775807 := by
    have h1 := nodeBytes_len nd
    obtain ⟨_, _, _, _, _, _, e, h2, h3, h4, h5, h6⟩ := hn
    have h7 := h5.1
    have h8 := h6.1
    simp only at h1 h4 h7 h8
    omega
  obtain ⟨w1, hw1⟩ : ∃ w1, w.alloc (.cells #[.int .i64 nd.kind, .slice Ap np cp, .slice Ak nk ck, .string nd.val] 35) = w1 := ⟨_, rfl⟩
  have b1 : Below w.heap.size w w1 := hw1 ▸ (Below.refl _ _).alloc (Nat.le_refl _) _
  have X1 := Lib.hid (show Box w1 w.heap.size 35 #[.int .i64 nd.kind, .slice Ap np cp, .slice Ak nk ck, .string nd.val] from hw1 ▸ heap_alloc_new _ _)
  have s1 : w1.heap.size = w.heap.size + 1 := hw1 ▸ by simp
  have B1 := Lib.hid b1
  have P1 := Lib.hid (hx.below b1 hp)
  have H1 := Lib.hid (h.below b1)
  have N1 := Lib.hid (hn.below b1)
  clear hx h hn b1
  have q0 := X1.out.cell 0
  have q1 := X1.out.cell 1
  have q2 := X1.out.cell 2
  have q3 := X1.out.cell 3
  simp at q0 q1 q2 q3
  unfold NV.v
  go_enter Try.func27, Try.ntmps27
  go_wp2_with fail
  clear hw1
  refine (implNodeBytes_any _ nd w.heap.size w1 (by omega) N1.out).mono ?_
  rintro e w2 ⟨A2, n2, c2, rfl, m2, b2⟩
  have hn2 : (nodeBytes nd).length = n2 := m2.len
  have s2 := b2.size
  have B2 := Lib.hid (B1.out.trans (b2.mono (by omega)))
  have BY := Lib.hid m2.byts
  have X2 := Lib.hid (X1.out.below b2 (by omega))
  have P2 := Lib.hid (P1.out.below b2 (by omega))
  have H2 := Lib.hid (H1.out.below b2)
  have N2 := Lib.hid (N1.out.below (b2.mono (by omega)))
  clear m2 b2 q0 q1 q2 q3
  obtain ⟨ok, hok⟩ : ∃ ok, nodeOk nd = ok := ⟨_, rfl⟩
  have OK := Lib.hid hok
  cases ok with
  | false =>
    have h0 : n2 = 0 := by rw [← hn2, (nodeBytes_pos nd).2 hok]; rfl
    subst h0
    clear hok
    go_wp2
    go_ret
    exact .inl ⟨OK.out, rfl, B2.out⟩
  | true =>
    have hn0 : 0 < n2 := by rw [← hn2]; exact (nodeBytes_pos nd).1 hok
    have hne : ¬ ((n2 : Int) = 0) := by omega
    clear hok
    obtain ⟨nm, hnm⟩ : ∃ nm, nameOf (nodeBytes nd) = nm := ⟨_, rfl⟩
    have NM := Lib.hid hnm
    go_wp2_with fail
    refine (name_any A2 n2 c2 (nodeBytes nd) _ w2 (by omega) BY.out).mono ?_
    rintro e w' ⟨rfl, rfl⟩
    rw [hnm]
    clear hnm
    have q20 := X2.out.cell 0
    have q21 := X2.out.cell 1
    have q22 := X2.out.cell 2
    have q23 := X2.out.cell 3
    simp at q20 q21 q22 q23
    go_wp2_with fail
    refine (put_any p lo R ps nm ⟨Ap, np, cp, Ak, nk, ck, nd⟩ w2 P2.out H2.out (by omega) (N2.out.more (by omega)) hu hup hpp (by omega)).mono ?_
    rintro e w5 (⟨h5, rfl, b5⟩ | ⟨h5, rfl, R', p5, l5, _, t5⟩)
    · have B5 := Lib.hid (B2.out.trans (b5.mono (by omega)))
      have H5 := Lib.hid h5
      clear b5 h5
      go_wp2
      go_ret
      exact .inr (.inl ⟨OK.out, by rw [NM.out]; exact H5.out, by first | (rw [NM.out]; done) | (rw [NM.out]; rfl), B5.out⟩)
    · have H5 := Lib.hid h5
      have P5 := Lib.hid p5
      have L5 := Lib.hid l5
      have T5 := Lib.hid (show Touch (fun g => g = p ∨ R.at_ g) w w5 from (Touch.of_below B2.out).trans t5)
      clear h5 p5 l5 t5
      go_wp2
      go_ret
      exact .inr (.inr ⟨OK.out, by rw [NM.out]; exact H5.out, by first | (rw [NM.out]; done) | (rw [NM.out]; rfl), R', P5.out, by rw [NM.out]; exact L5.out, T5.out⟩)
end Go.Proofs.Ytdhnhgppapkikaa

-- CellU: The program's WithNode: for all cells and nodes.
namespace Go.Proofs.Ytdhnhgppapkikaa
set_option maxRecDepth 100000
set_option linter.unusedVariables false
set_option linter.unusedSimpArgs false
open Go.RowKit

theorem ins_del {α : Type} (l : List α) (i : Nat) (q : α) (hi : i ≤ l.length) : delP (insP l i q) i = l := by
  unfold delP insP
  have h1 : (l.take i).length = i := by simp; omega
  rw [List.take_append_of_le_length (by omega), List.drop_append, h1, List.take_of_length_le (by omega), List.drop_eq_nil_of_le (by omega)]
  simp
theorem ins_low (ps : List (Int × NV)) (m : Int) (x : NV) : lowI (kvs (insP ps (lowI (kvs ps) m) (m, x))) m = lowI (kvs ps) m ∧ hitI (kvs (insP ps (lowI (kvs ps) m) (m, x))) m = true := by
  have hl := lowI_len ps m
  have he : kvs (insP ps (lowI (kvs ps) m) (m, x)) = insP (kvs ps) (lowI (kvs ps) m) m := by unfold kvs; rw [insP_map]
  obtain ⟨i, hi⟩ : ∃ i, lowI (kvs ps) m = i := ⟨_, rfl⟩
  have hlen : (kvs ps).length = ps.length := kvs_len ps
  rw [he]
  have h1 : (insP (kvs ps) i m)[i]? = some m := by
    unfold insP
    rw [List.getElem?_append_right (by simp; omega)]
    simp [hlen, show min i ps.length = i from by omega]
  have h2 : ∀ j, j < i → (insP (kvs ps) i m)[j]?.getD 0 < m := by
    intro j hj
    have h3 := lowI_below (kvs ps) m j (by omega)
    unfold insP
    rw [List.getElem?_append_left (by simp; omega)]
    simpa [List.getElem?_take, hj] using h3
  have h4 : (insP (kvs ps) i m).length = (kvs ps).length + 1 := insP_len _ _ _ (by omega)
  rw [hi]
  have h5 : lowI (insP (kvs ps) i m) m = i := lowI_at _ _ _ (by omega) h2 (fun _ => by rw [h1]; simp)
  refine ⟨h5, ?_⟩
  unfold hitI
  rw [h5, h1]
  simp
  omega
set_option maxHeartbeats 1000000 in
theorem implWithNode_any (A : Option Addr) (n c : Nat) (cs : List (Int × List Int)) (v : Value) (nd : MNode) (B : Nat) (w : World) (hn : n ≤ 1048576) (hc : n ≤ c) (hA : A = none → c = 0) (hm : ∀ i, (cel cs i).2.length ≤ 1048576) (hB : B ≤ w.heap.size) (hb : Cells w B A n cs) (hv : NodeIn w B v nd) :
    Calls Try.prog 9 #[.slice A n c, v] w fun e w' => ∃ A' n' c' l m, e = .returned (.tuple #[.slice A' n' c', .int .i64 m]) ∧ WithIs cs nd l m ∧ OwnC w' w.heap.size w'.heap.size A' n' c' l ∧ Below w.heap.size w w' := by
  obtain ⟨x, rfl, rfl⟩ := NV.of hv
  have HB := Lib.hid hb
  have HV := Lib.hid (hv.more hB)
  clear hb hv
  obtain ⟨Ap, np, cp, Ak, nk, ck, nd⟩ := x
  obtain ⟨x, hxe⟩ : ∃ x : NV, (⟨Ap, np, cp, Ak, nk, ck, nd⟩ : NV) = x := ⟨_, rfl⟩
  have hxn : x.nd = nd := by rw [← hxe]
  have hxv : x.v = .agg #[.int .i64 nd.kind, .slice Ap np cp, .slice Ak nk ck, .string nd.val] := by rw [← hxe]; rfl
  rw [hxe] at HV
  obtain ⟨w1, hw1⟩ : ∃ w1, w.alloc (.cells #[.int .i64 nd.kind, .slice Ap np cp, .slice Ak nk ck, .string nd.val] 35) = w1 := ⟨_, rfl⟩
  have b1 : Below w.heap.size w w1 := hw1 ▸ (Below.refl _ _).alloc (Nat.le_refl _) _
  have X1 := Lib.hid (show Box w1 w.heap.size 35 #[.int .i64 nd.kind, .slice Ap np cp, .slice Ak nk ck, .string nd.val] from hw1 ▸ heap_alloc_new _ _)
  have s1 : w1.heap.size = w.heap.size + 1 := hw1 ▸ by simp
  have B1 := Lib.hid b1
  have HB := Lib.hid (HB.out.below (b1.mono hB))
  have HXV := Lib.hid hxv
  have HXN := Lib.hid hxn
  clear b1 hxe hxv hxn
  unfold NV.v
  simp only
  go_enter Try.func9, Try.ntmps9
  go_wp2_with fail
  clear hw1
  refine (nodesOf_any A n c cs B w1 hn hc hA hm (by omega) HB.out).mono ?_
  rintro e w2 ⟨R, ps, b, rfl, b2, hor⟩
  have s2 := b2.size
  have X2 := Lib.hid (X1.out.below b2 (by omega))
  have B2 := Lib.hid (B1.out.trans (b2.mono (by omega)))
  rcases hor with ⟨rfl, hR, hnd⟩ | ⟨rfl, hno, hR0, hp0⟩
  · obtain ⟨w3, hw3⟩ : ∃ w3, w2.alloc (.cells #[R.kv ps.length, R.vv ps.length] 59) = w3 := ⟨_, rfl⟩
    have b3 : Below w2.heap.size w2 w3 := hw3 ▸ (Below.refl _ _).alloc (Nat.le_refl _) _
    have P3 := Lib.hid (show Box w3 w2.heap.size 59 #[R.kv ps.length, R.vv ps.length] from hw3 ▸ heap_alloc_new _ _)
    have s3 : w3.heap.size = w2.heap.size + 1 := hw3 ▸ by simp
    have B3 := Lib.hid (B2.out.trans (b3.mono (by omega)))
    unfold SR.kv SR.vv at hw3
    have D3 := Lib.hid (hnd.below b3)
    have RT := Lib.hid hR
    have hpp : ∀ y ∈ ps, ∀ g, y.2.use g → g ≠ w2.heap.size := fun y hy g hg => by have := ((hnd.own y hy).blk (NV.use_blk hg)).2; omega
    have PP := Lib.hid hpp
    have hus : ∀ g, x.use g → g < w.heap.size := fun g hg => NV.use_lt HV.out g hg
    have US := Lib.hid hus
    have X3 := Lib.hid (X2.out.below b3 (by omega))
    have q20 := X3.out.cell 0
    have q21 := X3.out.cell 1
    have q22 := X3.out.cell 2
    have q23 := X3.out.cell 3
    simp at q20 q21 q22 q23
    have hps : ps.length ≤ 80 := by have h1 := hnd.len; have h2 := hR.1; omega
    clear hnd hR b2 b3 hpp hus
    unfold SR.kv SR.vv
    go_wp2_with fail
    clear hw3 q20 q21 q22 q23
    rw [← HXV.out]
    refine (addNode_any w2.heap.size w1.heap.size R ps x w3 P3.out D3.out.sl (by omega) ((HV.out.below B3.out).more (by omega)) (fun g hg e => by have h1 := US.out g hg; have h2 := (D3.out.sl.lt g e).1; omega) (fun g hg => by have h1 := US.out g hg; omega) PP.out hps).mono ?_
    rintro e w4 h4
    unfold AddIs at h4
    rw [HXN.out] at h4
    have hf := D3.out.find RT.out (nameOf (nodeBytes nd))
    have hl3 := D3.out.len
    have key : ∃ m R' ps', e = .returned (.int .i64 m) ∧ Box w4 w2.heap.size 59 #[R'.kv ps'.length, R'.vv ps'.length] ∧ SLN w4 w1.heap.size R' ps' ∧ (∀ y ∈ ps', ∀ g, y.2.use g → g ≠ w2.heap.size) ∧
        ((ps'.length ≤ 80 ∧ WithIs cs nd (cellsL ps') m) ∨ (ps'.length = 81 ∧ hitI (kvs ps') m = true ∧ WithIs cs nd (cellsL (delP ps' (lowI (kvs ps') m))) (-1))) ∧ Below w.heap.size w w4 := by
      have hce := D3.out.cells
      rcases h4 with ⟨hk, rfl, b4⟩ | ⟨hk, ht, rfl, b4⟩ | ⟨hk, ht, rfl, R', hbx, hsl, t4⟩
      · exact ⟨-1, R, ps, rfl, P3.out.below b4 (by omega), D3.out.sl.below b4, PP.out, .inl ⟨hps, .inr (.inl ⟨RT.out, hk, hce, rfl⟩)⟩, B3.out.trans (b4.mono (by omega))⟩
      · exact ⟨_, R, ps, rfl, P3.out.below b4 (by omega), D3.out.sl.below b4, PP.out, .inl ⟨hps, .inr (.inr (.inl ⟨RT.out, hk, by have := hf.1 ht; omega, hce, rfl⟩))⟩, B3.out.trans (b4.mono (by omega))⟩
      · have hli := lowI_len ps (nameOf (nodeBytes nd))
        have hil := insP_len ps (lowI (kvs ps) (nameOf (nodeBytes nd))) (nameOf (nodeBytes nd), x) hli
        have hpx : ∀ y ∈ insP ps (lowI (kvs ps) (nameOf (nodeBytes nd))) (nameOf (nodeBytes nd), x), ∀ g, y.2.use g → g ≠ w2.heap.size := by
          intro y hy g hg
          rcases (insP_mem _ _ _ _).1 hy with rfl | hy
          · have := US.out g hg; omega
          · exact PP.out y hy g hg
        refine ⟨_, R', _, rfl, by rw [hil]; exact hbx, hsl, hpx, ?_, B3.out.trans (t4.below (by omega) (fun k hk e => e.elim (fun e => by omega) (fun e => by have := (D3.out.sl.lt k e).1; omega)))⟩
        rw [hil]
        rcases Nat.lt_or_ge ps.length 80 with h80 | h80
        · refine .inl ⟨by omega, .inr (.inr (.inr (.inr ⟨RT.out, hk, hf.2 ht, by omega, ?_, rfl⟩)))⟩
          rw [cellsL_ins, hce]
          simp only
          rw [HXN.out]
          exact ins_place ps cs _ _ w3 w1.heap.size R D3.out ht
        · have hil2 := ins_low ps (nameOf (nodeBytes nd)) x
          refine .inr ⟨by omega, hil2.2, .inr (.inr (.inr (.inl ⟨RT.out, hk, hf.2 ht, by omega, ?_, rfl⟩)))⟩
          rw [hil2.1, ins_del _ _ _ hli]
          exact hce
    obtain ⟨m, R', ps', rfl, bx4, sl4, hpp4, hor4, b4⟩ := key
    have S4 := Lib.hid sl4
    have BX4 := Lib.hid bx4
    have PP4 := Lib.hid hpp4
    have B4 := Lib.hid b4
    have s4 := b4.size
    have q0 := bx4.cell 0
    have q1 := bx4.cell 1
    unfold SR.kv at q0
    unfold SR.vv at q1
    simp at q0 q1
    clear h4 hf sl4 b4 bx4 hpp4
    rcases hor4 with ⟨hle, hwi⟩ | ⟨hle, hht, hwi⟩
    · have WI := Lib.hid hwi
      have hd : decide ((80 : Int) < (ps'.length : Int)) = false := decide_eq_false (by omega)
      clear hwi
      go_wp2_with fail
      refine (cellsOf_any w1.heap.size R' ps' w4 S4.out).mono ?_
      rintro e w5 ⟨A5, n5, c5, rfl, o5, b5⟩
      have O5 := Lib.hid o5
      have B5 := Lib.hid (B4.out.trans (b5.mono s4))
      clear o5 b5 q0 q1
      go_wp2
      go_ret2
      exact ⟨_, _, _, _, m, rfl, WI.out, O5.out.base s4, B5.out⟩
    · have WI := Lib.hid hwi
      have hd : decide ((80 : Int) < (ps'.length : Int)) = true := decide_eq_true (by omega)
      have HT := Lib.hid hht
      clear hwi hht
      go_wp2_with fail
      refine (drop_any w2.heap.size w1.heap.size R' ps' m w4 BX4.out S4.out PP4.out).mono ?_
      rintro e w5 (⟨h5, rfl, b5⟩ | ⟨h5, rfl, bx5, sl5, t5⟩)
      · exact absurd (HT.out.symm.trans h5) (by simp)
      · have hlw : lowI (kvs ps') m < ps'.length := by
          have := HT.out
          unfold hitI at this
          simp only [decide_eq_true_eq] at this
          rw [kvs_len] at this
          exact this.1
        have hdl := delP_len ps' _ hlw
        have B5 := Lib.hid (B4.out.trans (t5.below (by omega) (fun k hk e => e.elim (fun e => by omega) (fun e => by have := (S4.out.lt k e).1; omega))))
        have S5 := Lib.hid sl5
        have r0 := bx5.cell 0
        have r1 := bx5.cell 1
        unfold SR.kv at r0
        unfold SR.vv at r1
        simp at r0 r1
        obtain ⟨qs, hqs⟩ : ∃ qs, delP ps' (lowI (kvs ps') m) = qs := ⟨_, rfl⟩
        rw [hqs] at hdl
        rw [← hdl] at r0 r1
        have S5 := Lib.hid (hqs ▸ S5.out)
        have WI := Lib.hid (hqs ▸ WI.out)
        have s5 := t5.size
        clear t5 bx5 sl5 h5 hqs q0 q1 hdl
        go_wp2_with fail
        refine (cellsOf_any w1.heap.size R' qs w5 S5.out).mono ?_
        rintro e w6 ⟨A5, n5, c5, rfl, o5, b5⟩
        have O5 := Lib.hid o5
        have B6 := Lib.hid (B5.out.trans (b5.mono (by omega)))
        clear o5 b5 r0 r1
        go_wp2
        go_ret2
        exact ⟨_, _, _, _, _, rfl, WI.out, O5.out.base (by omega), B6.out⟩
  · subst hR0
    subst hp0
    clear b2
    unfold SR.kv SR.vv
    simp only [SR0, List.length_nil]
    go_wp2
    go_ret2
    exact ⟨none, 0, 0, [], -1, rfl, .inl ⟨hno, rfl, rfl⟩, OwnC.nil _ _ _, B2.out.trans (((Below.refl _ _).alloc (Nat.le_refl _) _).mono (by omega))⟩
end Go.Proofs.Ytdhnhgppapkikaa
