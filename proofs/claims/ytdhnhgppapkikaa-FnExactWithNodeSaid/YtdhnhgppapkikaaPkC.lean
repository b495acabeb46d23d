/- Several texts in one, in build order: CellsY, NameB, NodeB, NameF, NameM, NodeI, CellM, Part, NodeR, Conv, NodeF, Sums, CellS, CellN. -/
import Derived.Test.YtdhnhgppapkikaaPkB
import Derived.Laws.IdiomStrings
import Derived.Laws.BitsAllLaws
import Derived.Laws.BitsLemmas
import Derived.Laws.BytesArg
import Derived.Deep.RegionLaw
import Derived.Deep.AppendLies
import Derived.BigRegion
import Derived.Deep.RegionHeld3
import Derived.Test.YtdhnhgppapkikaaRows
import Derived.LoopTactic
import Derived.Outline
-- CellsY: What the helpers of the exact laws do at slices of cells: copied, compared, marked, held against the marks.
namespace Go.Proofs.Ytdhnhgppapkikaa
set_option maxRecDepth 20000
set_option linter.unusedVariables false
set_option linter.unusedSimpArgs false
open Go.RowKit

theorem toCell_any (m : Int) (A : Option Addr) (n c : Nat) (bs : List Int) (B : Nat) (w : World) (hn : n ≤ 1048576) (hB : B ≤ w.heap.size) (hb : Byts w B A n bs) :
    Calls Try.prog 23 #[.agg #[.int .i64 m, .slice A n c]] w fun e w' => ∃ A' n' c', e = .returned (.agg #[.int .i64 m, .slice A' n' c']) ∧ Mine w' w.heap.size A' n' c' bs ∧ Below w.heap.size w w' := by
  have hn' : n ≤ 140737488355328 := by omega
  have HP := Lib.hid (hb.more hB)
  have hlen := hb.1
  clear hb
  obtain ⟨w3, hw3⟩ : ∃ w3, (((w.alloc (.cells #[.int .i64 m, .slice A n c] 45)).alloc (.cells #[.int .i64 0, .slice none 0 0] 51)).alloc
    (.cells #[.int .i64 m, .slice none 0 0] 51)) = w3 := ⟨_, rfl⟩
  have x0 : Box w3 w.heap.size _ _ := hw3 ▸ heap3_0 _ _ _ _
  have x1 : Box w3 (w.heap.size + 1) _ _ := hw3 ▸ heap3_1 _ _ _ _
  have x2 : Box w3 (w.heap.size + 1 + 1) _ _ := hw3 ▸ heap3_2 _ _ _ _
  have s3 : w3.heap.size = w.heap.size + 3 := hw3 ▸ size3 _ _ _ _
  have b3 : Below w.heap.size w w3 := hw3 ▸ below3 _ _ _ _
  have X0 := Lib.hid x0
  have X1 := Lib.hid x1
  have X2 := Lib.hid x2
  have B3 := Lib.hid b3
  have HW := Lib.hid hw3
  clear x0 x1 x2 b3 hw3
  go_enter Try.func23, Try.ntmps23
  go_wp2_with fail
  rw [HW.out]
  refine (copy_own _ _ _ bs _ w3 hn' (by omega) (HP.out.below B3.out)).mono ?_
  rintro e w4 ⟨g4, rfl, hg4, r4, b4⟩
  have s4 := b4.size
  have l4 := r4.lt
  have R4 := Lib.hid r4
  have X1 := Lib.hid (X1.out.below b4 (by omega))
  have X2 := Lib.hid (X2.out.below b4 (by omega))
  have B4 := Lib.hid (B3.out.trans (b4.mono (by omega)))
  clear r4 b4
  have q10 := X1.out.cell 0
  have q11 := X1.out.cell 1
  have q20 := X2.out.cell 0
  have q21 := X2.out.cell 1
  have f1 := X1.out.free
  have f2 := X2.out.free
  simp at q10 q11 q20 q21
  go_wp2
  have hX := ((X1.out.other (g' := w.heap.size + 1 + 1) (by omega) 1 (.slice (some ⟨g4, 0, none⟩) n n)).set_ 0 (.int .i64 m)).set_ 1 (.slice (some ⟨g4, 0, none⟩) n n)
  have hS : Touch (fun k => w.heap.size ≤ k ∧ k < w.heap.size + 3) w4 _ :=
    ((touch_set w4 (w.heap.size + 1 + 1) 1 (.slice (some ⟨g4, 0, none⟩) n n) ⟨by omega, by omega⟩).trans (touch_set _ (w.heap.size + 1) 0 (.int .i64 m) ⟨by omega, by omega⟩)).trans (touch_set _ (w.heap.size + 1) 1 (.slice (some ⟨g4, 0, none⟩) n n) ⟨by omega, by omega⟩)
  refine bodyPost_ret (v := .agg #[.int .i64 m, .slice (some ⟨g4, 0, none⟩) n n]) (results_cell_row Try.results23 _ _ (w.heap.size + 1) _ _ _ _ rfl hX Try.underlying51 rfl (by kernel_rfl)) rfl ?_
  have hle := B4.out.size
  exact ⟨_, _, _, rfl, ((row_mine R4.out hlen hg4 (by unfold maxLen; omega)).touch hS (fun g hg h => by simp [Value.ownBlock] at hg; omega)).base (by omega), B4.out.trans (hS.below hle (fun k hk h => by omega))⟩

/-- the cells as far as they are filled. -/
def filledC (cs : List (Int × List Int)) (n k : Nat) : List (Int × List Int) := cs.take k ++ List.replicate (n - k) (0, [])
theorem filledC_len (cs : List (Int × List Int)) (n k : Nat) (hk : cs.length = n) (h : k ≤ n) : (filledC cs n k).length = n := by simp [filledC]; omega
theorem filledC_set (cs : List (Int × List Int)) (n k : Nat) (hz : cs.length = n) (hk : k < n) : (filledC cs n k).set k (cel cs k) = filledC cs n (k + 1) := by
  unfold filledC
  obtain ⟨m, hm⟩ : ∃ m, n - k = m + 1 := ⟨n - k - 1, by omega⟩
  have hm' : n - (k + 1) = m := by omega
  have hl : min k cs.length = k := by omega
  rw [hm, hm', cel_take cs k (by omega)]
  simp [List.replicate_succ, hl]
theorem filledC_all (cs : List (Int × List Int)) (n : Nat) (hz : cs.length = n) : filledC cs n n = cs := by
  unfold filledC
  rw [List.take_of_length_le (by omega)]; simp
def noSub : Sub := ⟨none, 0, 0, []⟩
theorem make_cells (n : Nat) (hn : n ≤ 4398046511104) (W : World) :
    (Instr.makeSlice 29 (.int .i64 (n : Int)) (.int .i64 (n : Int))).run Try.prog W = .ok (.slice (some ⟨W.heap.size, 0, none⟩) n n) (W.alloc (.cells (cvs n (List.replicate n (0, [])) fun _ => noSub).toArray 51)) := by
  obtain ⟨i0, hi, hz0, hz1, hz2⟩ := info_parts Try.infoC
  have hr := run_make (P := Try.prog) W 29 51 i0 (.agg #[.int .i64 0, .slice none 0 0]) Try.underlying29 hi hz0 .i64 .i64 n n (by omega) (by omega) (by rw [hz2]; omega) (by omega)
  simp only [Int.toNat_natCast] at hr
  rw [hr, hz1]
  have e : madeCells (Value.agg #[.int .i64 0, .slice none 0 0]).cells (n * 2) = (cvs n (List.replicate n (0, [])) fun _ => noSub).toArray := by
    apply Array.ext
    · simp [madeCells, cvs]
    · intro i h1 h2
      have hn : i < n * 2 := by simpa [madeCells] using h1
      have hd : i / 2 < n := by omega
      simp [madeCells, cvs, Value.cells, cf, cel, hd, Sub.v, noSub]
      rcases Nat.mod_two_eq_zero_or_one i with h | h <;> simp [h]
  rw [e]
theorem OwnC.of_made (w : World) (n : Nat) (hm : n ≤ maxLen) : OwnC (w.alloc (.cells (cvs n (List.replicate n (0, [])) fun _ => noSub).toArray 51)) w.heap.size (w.heap.size + 1) (some ⟨w.heap.size, 0, none⟩) n n (List.replicate n (0, [])) := by
  refine ⟨by simp, fun b h => by simp [Value.ownBlock] at h; omega, fun _ => noSub, ?_, ?_⟩
  · refine ⟨by simp [cvs], .inr ⟨w.heap.size, n, _, rfl, Nat.le_refl _, heap_alloc_new _ _, Nat.le_refl _, hm, by simp [cvs], List.take_of_length_le (by simp [cvs])⟩⟩
  · refine ⟨fun i hi => ?_, fun i j _ _ _ b h => by simp [Sub.v, noSub, Value.ownBlock] at h, fun i _ b h => by simp [Sub.v, noSub, Value.ownBlock] at h, fun i _ b h => by simp [Sub.v, noSub, Value.ownBlock] at h⟩
    have e : cel (List.replicate n ((0 : Int), ([] : List Int))) i = (0, []) := by simp [cel, hi]
    rw [e]
    exact Mine.nil _ _
/-- the call answered with cells of its own. -/
def GaveC (w : World) (cs : List (Int × List Int)) (e : Ending) (w' : World) : Prop := ∃ A n c, e = .returned (.slice A n c) ∧ OwnC w' w.heap.size w'.heap.size A n c cs ∧ Below w.heap.size w w'

theorem copyC_any (A : Option Addr) (n c : Nat) (cs : List (Int × List Int)) (B : Nat) (w : World) (hn : n ≤ 4398046511104) (hm : ∀ i, (cel cs i).2.length ≤ 1048576) (hB : B ≤ w.heap.size) (hb : Cells w B A n cs) :
    Calls Try.prog 7 #[.slice A n c] w (GaveC w cs) := by
  have HB := Lib.hid hb
  have hlen := hb.1
  clear hb
  have HM := Lib.hid (make_cells n hn)
  go_enter Try.func7, Try.ntmps7
  have hmk := HM.out
  go_wp2
  clear hmk
  have M0 := Lib.hid (OwnC.of_made w n (by unfold maxLen; omega))
  go_loopw [4] (fun i wr => ∃ k : Nat, k ≤ n ∧ i = .int .i64 k ∧ OwnC wr w.heap.size wr.heap.size (some ⟨w.heap.size, 0, none⟩) n n (filledC cs n k) ∧ Below w.heap.size w wr) (fun i _ => n - (intOf i).toNat)
  case atStart => exact ⟨0, Nat.zero_le _, rfl, by simpa [filledC] using M0.out, (Below.refl _ _).alloc (Nat.le_refl _) _⟩
  case round =>
    obtain ⟨k, hk, rfl, hm', hbel⟩ := hrel
    by_cases hlt : k < n
    · obtain ⟨b, off, Ai, ni, ci, rfl, hbB, h0, h1, _, _, hby⟩ := (HB.out.below (hbel.mono hB)).at_ hlt
      have hni : (cel cs k).2.length = ni := hby.1
      have hset := filledC_set cs n k hlen hlt
      have hnm := hm k
      have hs0 := hbel.size
      generalize cel cs k = x at h0 h1 hset hby hni hnm
      have HS := Lib.hid hset
      have HY := Lib.hid hby
      clear hset hby
      have MR := Lib.hid hm'
      have BR := Lib.hid hbel
      clear hm' hbel
      go_wp2_with fail
      refine (toCell_any _ _ _ _ x.2 B _ (by omega) (by omega) HY.out).mono ?_
      rintro e w1 ⟨A1, n1, c1, rfl, m1, b1⟩
      have o1 := MR.out.below b1
      have hc0 := o1.cell0 hlt
      obtain ⟨Aj, nj, cj, hc1, _, _, _⟩ := o1.cell1 hlt
      have hf0 := o1.free (k * 2)
      have hf1 := o1.free (k * 2 + 1)
      have hp := MR.out.put x.1 (Nat.le_refl _) b1 m1 hlt (Nat.le_refl _) hs0
      rw [show ((x.1, x.2) : Int × List Int) = x by rfl, HS.out] at hp
      have S1 := Lib.hid hp
      have B1 := Lib.hid (BR.out.trans (b1.mono BR.out.size))
      have Z1 := Lib.hid hs0
      clear hp b1 o1 m1 h0 h1 hs0
      go_wp2
      go_roundw
      case rel =>
        refine ⟨k + 1, by omega, by go_num, ?_, B1.out.trans (S1.out.2.below B1.out.size (fun b hb h => by omega))⟩
        simpa using S1.out.1
      case measure => simp [intOf]; omega
    · go_wp2
      go_ret
      obtain rfl : k = n := by omega
      rw [filledC_all cs k hlen] at hm'
      exact ⟨_, k, k, rfl, hm', hbel⟩
theorem eqCell_yes (m : Int) (A A' : Option Addr) (n c c' : Nat) (bs : List Int) (B B' : Nat) (w : World) (hn : n ≤ 1048576) (hB : B ≤ w.heap.size) (hB' : B' ≤ w.heap.size) (hb : Byts w B A n bs) (hb' : Byts w B' A' n bs) :
    Calls Try.prog 30 #[.agg #[.int .i64 m, .slice A n c], .agg #[.int .i64 m, .slice A' n c']] w fun e w' => e = .returned (.bool true) ∧ Below w.heap.size w w' := by
  have HP := Lib.hid (hb.more hB)
  have HP' := Lib.hid (hb'.more hB')
  clear hb hb'
  obtain ⟨w3, hw3⟩ : ∃ w3, ((w.alloc (.cells #[.int .i64 m, .slice A n c] 51)).alloc (.cells #[.int .i64 m, .slice A' n c'] 51)) = w3 := ⟨_, rfl⟩
  have s3 : w3.heap.size = w.heap.size + 2 := hw3 ▸ size2 _ _ _
  have b3 : Below w.heap.size w w3 := hw3 ▸ below2 _ _ _
  have B3 := Lib.hid b3
  have HW := Lib.hid hw3
  clear b3 hw3
  go_enter Try.func30, Try.ntmps30
  go_wp2_with fail
  rw [HW.out]
  refine (like_yes _ _ _ _ _ bs _ _ w3 (by omega) (HP.out.below B3.out) (HP'.out.below B3.out)).mono ?_
  rintro e w4 ⟨rfl, q, hq⟩
  have b4 : Below w3.heap.size w3 w4 := by rw [hq]; exact below_drewN (Below.refl _ _) q
  clear hq
  have B4 := Lib.hid (B3.out.trans (b4.mono (by omega)))
  clear b4
  go_wp2
  go_ret
  exact ⟨rfl, B4.out⟩
theorem likeC_yes (A A' : Option Addr) (n c c' : Nat) (cs : List (Int × List Int)) (B B' : Nat) (w : World) (hn : n ≤ 1048576) (hm : ∀ i, (cel cs i).2.length ≤ 1048576) (hB : B ≤ w.heap.size) (hB' : B' ≤ w.heap.size) (hb : Cells w B A n cs) (hb' : Cells w B' A' n cs) :
    Calls Try.prog 10 #[.slice A n c, .slice A' n c'] w fun e w' => e = .returned (.bool true) ∧ Below w.heap.size w w' := by
  have HB := Lib.hid (hb.more hB)
  have HB' := Lib.hid (hb'.more hB')
  clear hb hb'
  go_enter Try.func10, Try.ntmps10
  go_wp2
  go_loopw [5] (fun i wr => ∃ k : Nat, k ≤ n ∧ i = .int .i64 k ∧ Below w.heap.size w wr) (fun i _ => n - (intOf i).toNat)
  case atStart => exact ⟨0, Nat.zero_le _, rfl, Below.refl _ _⟩
  case round =>
    obtain ⟨k, hk, rfl, hbel⟩ := hrel
    by_cases hlt : k < n
    · obtain ⟨b, off, Ai, ni, ci, rfl, hbB, h0, h1, _, _, hy⟩ := (HB.out.below hbel).at_ hlt
      obtain ⟨b', off', Ai', ni', ci', rfl, hbB', h0', h1', _, _, hy'⟩ := (HB'.out.below hbel).at_ hlt
      have hnm := hm k
      have e1 : ni' = ni := hy'.1.symm.trans hy.1
      obtain rfl := e1
      have hl := hy.1
      generalize cel cs k = x at h0 h1 h0' h1' hy hy' hnm hl
      have Y := Lib.hid hy
      have Y' := Lib.hid hy'
      have BR := Lib.hid hbel
      clear hbel hy hy'
      go_wp2
      go_still_tail 8, (by kernel_rfl)
      change wpList _ _ _ _ _ wr.drew
      have BD := Lib.hid BR.out.drew
      have hsz := BR.out.size
      have Y := Lib.hid (Y.out.drewN 1)
      have Y' := Lib.hid (Y'.out.drewN 1)
      have e2 : wr.drewN 1 = wr.drew := rfl
      rw [e2] at Y Y'
      have hsz2 : wr.drew.heap.size = wr.heap.size := rfl
      generalize wr.drew = w2 at BD Y Y' hsz2
      clear h0 h1 h0' h1' e2
      go_wp2_with fail
      refine (eqCell_yes _ _ _ _ _ _ x.2 _ _ _ (by omega) (by omega) (by omega) Y.out Y'.out).mono ?_
      rintro e w3 ⟨rfl, b3⟩
      have B3 := Lib.hid (BD.out.trans (b3.mono BD.out.size))
      clear b3
      go_wp2
      go_roundw
      case rel => exact ⟨k + 1, by omega, by go_num, B3.out⟩
      case measure => simp [intOf]; omega
    · go_wp2
      go_ret
      exact ⟨rfl, hbel⟩

theorem markC_any (A : Option Addr) (n c lo hi : Nat) (cs : List (Int × List Int)) (k0 : Int) (w : World) (h0 : 0 ≤ k0) (h1 : k0 + szC cs ≤ 4611686018427387904) (hm : OwnC w lo hi A n c cs) :
    Calls Try.prog 12 #[.slice A n c, .int .i64 k0] w fun e w' => e = .returned (.int .i64 (k0 + szC cs)) ∧ OwnC w' lo hi A n c (markC k0 cs) ∧ Touch (fun b => lo ≤ b ∧ b < hi) w w' := by
  have hx := hm.len
  have hnb : n ≤ 4611686018427387904 := by have := szC_len cs; omega
  have HM := Lib.hid hm
  clear hm
  go_enter Try.func12, Try.ntmps12
  go_wp2
  go_loopw [1, 5] (fun q i wr => ∃ k : Nat, k ≤ n ∧ i = .int .i64 k ∧ q = .int .i64 (k0 + szC (cs.take k)) ∧ OwnC wr lo hi A n c (markTo k0 cs k) ∧ Touch (fun b => lo ≤ b ∧ b < hi) w wr) (fun _ i _ => n - (intOf i).toNat)
  case atStart => exact ⟨0, Nat.zero_le _, rfl, by simp [szC], by simpa [markTo, markC] using HM.out, Touch.of_below (Below.refl _ _)⟩
  case round =>
    obtain ⟨k, hk, rfl, rfl, hmr, htr⟩ := hrel
    by_cases hlt : k < n
    · obtain ⟨g, rfl, hbg, hgh, hlt'⟩ := hmr.form (by omega)
      have hc0 := hmr.cell0 hlt
      have hf0 := hmr.free (k * 2)
      have hs1 := hmr.setName (k0 + szC (cs.take k)) hlt
      have hst := szC_take cs k (by omega)
      have hall := szC_take_le cs (k + 1)
      rw [markTo_cel k0 cs k (by omega)] at hs1
      obtain ⟨Ai, ni, ci, hc1, hmi, hui, hin⟩ := hs1.inner hlt
      have hcc : cel ((markTo k0 cs k).set k (k0 + szC (cs.take k), (cel cs k).2)) k = (k0 + szC (cs.take k), (cel cs k).2) := by
        rw [cel_set _ _ _ _ (by rw [markTo_len]; omega), if_pos rfl]
      rw [hcc] at hmi hin
      have hni : (cel cs k).2.length = ni := hmi.len
      have hstep := markTo_step k0 cs k (by omega)
      have T1 := Lib.hid (htr.trans (touch_set (S := fun b => lo ≤ b ∧ b < hi) wr g (k * 2) (.int .i64 (k0 + szC (cs.take k))) ⟨hbg, hgh⟩))
      have MI := Lib.hid hmi
      have IN := Lib.hid hin
      have UI := Lib.hid hui
      have HST := Lib.hid hstep
      have HR := Lib.hid hst
      have HLN := Lib.hid hni
      have hk2 : k0 + szC (cs.take k) + 1 + ni ≤ 4611686018427387904 := by omega
      have hkp : 0 ≤ k0 + szC (cs.take k) + 1 := by omega
      have hfin : k0 + szC (cs.take k) + 1 + ni = k0 + szC (cs.take (k + 1)) := by omega
      have HF := Lib.hid hfin
      generalize hq : k0 + (szC (cs.take k) : Int) = q at *
      have HQ := Lib.hid hq
      clear hmr htr hs1 hmi hin hui hstep hst hfin hall hcc hq
      go_wp2_with fail
      refine (mark_any Ai ni ci lo _ (q + 1) _ hkp hk2 MI.out).mono ?_
      rintro e w1 ⟨rfl, m1, g1⟩
      have hc := IN.out _ _ m1 g1
      rw [List.set_set] at hc
      have hs2 := HST.out
      rw [HLN.out] at hs2
      rw [show (q, marks (q + 1) ni) = ((q, (cel cs k).2).1, marks (q + 1) ni) from rfl] at hs2
      rw [show ((q, (cel cs k).2).1, marks (q + 1) ni) = (q, marks (q + 1) ni) from rfl] at hs2
      have hc' : OwnC w1 lo hi (some ⟨g, 0, none⟩) n c (markTo k0 cs (k + 1)) := by rw [← hs2]; exact hc
      have O1 := Lib.hid hc'
      have T2 := Lib.hid (T1.out.trans ((Touch.of_grown g1).mono (fun b e => UI.out b e.symm)))
      clear hc m1 g1 hs2 hc' hc0 hc1 hf0
      go_wp2
      go_roundw
      case rel => exact ⟨k + 1, by omega, by go_num, by rw [← HF.out], O1.out, T2.out⟩
      case measure => simp [intOf]; omega
    · go_wp2
      go_ret
      obtain rfl : k = n := by omega
      subst hx
      rw [List.take_length, markTo_all] at *
      exact ⟨rfl, hmr, htr⟩
theorem heldC_yes (A : Option Addr) (n c : Nat) (B : Nat) (cs : List (Int × List Int)) (k0 : Int) (w : World) (h0 : 0 ≤ k0) (h1 : k0 + szC cs ≤ 4611686018427387904) (hb : Cells w B A n (markC k0 cs)) :
    Calls Try.prog 14 #[.slice A n c, .int .i64 k0] w fun e w' => e = .returned (.int .i64 (k0 + szC cs)) ∧ w = w' := by
  have HB := Lib.hid hb
  have hx : cs.length = n := (markC_len k0 cs).symm.trans hb.1
  have hnb : n ≤ 4611686018427387904 := by have := szC_len cs; omega
  clear hb
  go_enter Try.func14, Try.ntmps14
  go_wp2
  go_loop [1, 5] (fun q i => ∃ k : Nat, k ≤ n ∧ i = .int .i64 k ∧ q = .int .i64 (k0 + szC (cs.take k))) (fun _ i => n - (intOf i).toNat)
  case atStart => exact ⟨0, Nat.zero_le _, rfl, by simp [szC]⟩
  case round =>
    obtain ⟨k, hk, rfl, rfl⟩ := hrel
    by_cases hlt : k < n
    · obtain ⟨b, off, Ai, ni, ci, rfl, hbB, hc0, hc1, _, _, hy⟩ := HB.out.at_ hlt
      rw [markC_cel k0 cs k (by omega)] at hc0 hy
      have hst := szC_take cs k (by omega)
      have hall := szC_take_le cs (k + 1)
      have hni : (cel cs k).2.length = ni := (marks_len _ _).symm.trans hy.1
      rw [hni] at hy hst
      have hk2 : k0 + szC (cs.take k) + 1 + ni ≤ 4611686018427387904 := by omega
      have hkp : 0 ≤ k0 + szC (cs.take k) + 1 := by omega
      have hfin : k0 + szC (cs.take k) + 1 + ni = k0 + szC (cs.take (k + 1)) := by omega
      have HF := Lib.hid hfin
      have Y := Lib.hid hy
      clear hfin hall hst hy
      generalize hq : k0 + (szC (cs.take k) : Int) = q at *
      have hd : decide ((((k0 : Int) + ni)) < 0) = false := decide_eq_false (by omega)
      clear hq
      go_wp2_with fail
      refine (held_yes Ai ni ci B (q + 1) _ hkp hk2 Y.out).mono ?_
      rintro e w' ⟨rfl, rfl⟩
      have hd2 : decide ((q + 1 + (ni : Int)) < 0) = false := decide_eq_false (by omega)
      go_wp2
      go_round
      case rel => exact ⟨k + 1, by omega, by go_num, by rw [← HF.out]⟩
      case measure => simp [intOf]; omega
    · go_wp2
      go_ret
      obtain rfl : k = n := by omega
      subst hx
      rw [List.take_length]
      exact ⟨rfl, rfl⟩
end Go.Proofs.Ytdhnhgppapkikaa

-- NameB: The eight bytes of a name, as the program and as the model write them: a row of the call's own.
namespace Go.Proofs.Ytdhnhgppapkikaa
set_option maxRecDepth 20000
open Go.RowKit

/-- the first k of the bytes of x, the lowest one first. -/
def nb (x : Int) (k : Nat) : List Int := (List.range k).map fun (i : Nat) => x / 2 ^ (8 * i) % 256
def nameBytes (x : Int) : List Int := if x < 0 then [] else nb x 8
theorem nb_len (x : Int) (k : Nat) : (nb x k).length = k := by simp [nb]
theorem nb_at (x : Int) (n k : Nat) (h : k < n) : (nb x n)[k]?.getD 0 = x / 2 ^ (8 * k) % 256 := by simp [nb, h]
theorem nb_bd (x : Int) (k : Nat) : ∀ z ∈ nb x k, 0 ≤ z ∧ z ≤ 255 := by
  intro z hz
  simp only [nb, List.mem_map] at hz
  obtain ⟨i, _, rfl⟩ := hz
  omega
theorem nb_step (x : Int) (k : Nat) : nb x (k + 1) = nb x k ++ [x / 2 ^ (8 * k) % 256] := by simp [nb, List.range_succ]
theorem nameBytes_no (x : Int) (h : x < 0) : nameBytes x = [] := if_pos h
theorem nameBytes_yes (x : Int) (h : ¬ x < 0) : nameBytes x = nb x 8 := if_neg h

theorem bytes_any (x : Int) (w : World) :
    Calls Try.prog 67 #[.int .i64 x] w fun e w' => ∃ A n c, e = .returned (.slice A n c) ∧ Mine w' w.heap.size A n c (nameBytes x) ∧ Below w.heap.size w w' := by
  by_cases hx : x < 0
  · have hr := Lib.hid (nameBytes_no x hx)
    go_enter Try.func67, Try.ntmps67
    go_wp2
    go_ret
    exact ⟨none, 0, 0, rfl, by rw [hr.out]; exact Mine.nil _ _, Below.refl _ _⟩
  · have hr := Lib.hid (nameBytes_yes x hx)
    have hmk : ∀ W : World, (Instr.makeSlice 43 (.int .i64 8) (.int .i64 8)).run Try.prog W = .ok (.slice (some ⟨W.heap.size, 0, none⟩) 8 8) (W.alloc (.cells (filled (nb x 8) 8 0) 5)) :=
      fun W => make_bytes (nb x 8) 8 (by omega) W
    go_enter Try.func67, Try.ntmps67
    go_wp2
    clear hmk
    go_loopw [10] (fun i wr => ∃ k : Nat, k ≤ 8 ∧ i = .int .i64 k ∧ wr = w.alloc (.cells (filled (nb x 8) 8 k) 5)) (fun i _ => 8 - (intOf i).toNat)
    case atStart => exact ⟨0, Nat.zero_le _, rfl, rfl⟩
    case round =>
      obtain ⟨k, hk, rfl, rfl⟩ := hrel
      by_cases hlt : k < 8
      · have hg : (filled (nb x 8) 8 k)[k]? = some (.int .u8 0) := filled_at _ 8 k (nb_len x 8) hlt
        have hst := filled_set (nb x 8) 8 k (nb_len x 8) hlt
        rw [nb_at x 8 k hlt] at hst
        have HS := Lib.hid hst
        clear hst
        go_wp2
        go_roundw
        case rel => exact ⟨k + 1, by omega, by go_num, by rw [HS.out]⟩
        case measure => simp [intOf]; omega
      · go_wp2
        go_ret
        exact ⟨some ⟨w.heap.size, 0, none⟩, 8, 8, rfl, by rw [hr.out, show k = 8 by omega, filled_all _ 8 (nb_len x 8)]; exact Mine.of_alloc w _ _ 8 (Nat.le_refl _) (nb_len x 8) (by unfold maxLen; omega) (nb_bd x 8), (Below.refl _ _).alloc (Nat.le_refl _) _⟩
theorem specBytes_no (x : Int) (w : World) (hx : x < 0) :
    Calls Try.prog 61 #[.int .i64 x] w fun e w' => ∃ g n c, e = .returned (.slice (some ⟨g, 0, none⟩) n c) ∧ Mine w' w.heap.size (some ⟨g, 0, none⟩) n c (nameBytes x) ∧ Below w.heap.size w w' := by
  have hr := Lib.hid (nameBytes_no x hx)
  have hx' : decide (0 ≤ x) = false := by simp; omega
  go_enter Try.func61, Try.ntmps61
  go_wp2
  refine wp_loop_rounds 1 ?_
  rw [rounds_succ]
  go_wp2
  go_ret
  exact ⟨w.heap.size, 0, 0, rfl, by rw [hr.out]; exact Mine.empty w, (Below.refl _ _).alloc (Nat.le_refl _) _⟩
theorem specBytes_yes (x : Int) (w : World) (hx : ¬ x < 0) :
    Calls Try.prog 61 #[.int .i64 x] w fun e w' => ∃ g n c, e = .returned (.slice (some ⟨g, 0, none⟩) n c) ∧ Mine w' w.heap.size (some ⟨g, 0, none⟩) n c (nameBytes x) ∧ Below w.heap.size w w' := by
  obtain ⟨i0, hi, hz0, hz1, hz2⟩ := info_parts Try.info5
  have HI := Lib.hid hi
  have HZ0 := Lib.hid hz0
  have HZ1 := Lib.hid hz1
  have HZ2 := Lib.hid hz2
  clear hi hz0 hz1 hz2
  have hr := Lib.hid (nameBytes_yes x hx)
  go_enter Try.func61, Try.ntmps61
  go_wp2
  go_loopw [3, 4] (fun v i wr => ∃ k : Nat, k ≤ 8 ∧ i = .int .i64 k ∧ wr.ownsRow w.heap.size 5 1 v k ((nb x k).map (Value.int .u8)) ∧ Below w.heap.size w wr) (fun _ i _ => 8 - (intOf i).toNat)
  case atStart => exact ⟨0, Nat.zero_le _, rfl, (Mine.empty w).1, (Below.refl _ _).alloc (Nat.le_refl _) _⟩
  case round =>
    obtain ⟨k, hk, rfl, hown, hbel⟩ := hrel
    by_cases hlt : k < 8
    · have hp : (0 : Int) ≤ x / 2 ^ (8 * k) := Int.ediv_nonneg (by omega) (Int.pow_nonneg (by decide))
      have hs := hbel.size
      go_wp2_with (at_builtin; refine wpList_append_own _ rfl _ _ 43 rfl w.heap.size 5 i0 (.int .u8 0) 1 1 Try.underlying43 HI.out HZ0.out HZ1.out HZ2.out rfl (by decide) _ _ _ rfl (hown.alloc _) ⟨wr.heap.size, 0, none⟩ 1 1 [.int .u8 (x / 2 ^ (8 * k) % 256)] rfl rfl ?c1 ?c2 ?c3 ?c4 ?c5 ?_)
      case c1 =>
        intro j u hj
        match j, hj with
        | 0, hj => simp at hj; subst hj; simp [Addr.add]
      case c2 => intro u hu; simp at hu; subst hu; rfl
      case c3 => unfold maxLen; omega
      case c4 => omega
      case c5 => simp; omega
      intro v' w1 hown' hgrow _
      have hb1 : Below w.heap.size w w1 := (hbel.alloc hs _).grown hgrow (by simp; omega) (fun g hg => (hown.lt g hg).1)
      rw [show (nb x k).map (Value.int .u8) ++ [Value.int .u8 (x / 2 ^ (8 * k) % 256)] = (nb x (k + 1)).map (Value.int .u8) by rw [nb_step]; simp] at hown'
      clear hgrow hown hbel
      go_wp2
      go_roundw
      case rel => exact ⟨k + 1, by omega, by go_num, hown', hb1⟩
      case measure => simp [intOf]; omega
    · obtain rfl : k = 8 := by omega
      have hm : ∃ g c, u3 = .slice (some ⟨g, 0, none⟩) 8 c := by
        obtain ⟨g, c, h, _⟩ := hown.form (by omega)
        exact ⟨g, c, h⟩
      obtain ⟨g, c, rfl⟩ := hm
      go_wp2
      go_ret
      exact ⟨g, 8, c, rfl, by rw [hr.out]; exact ⟨hown, nb_bd x 8⟩, hbel⟩
theorem specBytes_some (x : Int) (w : World) :
    Calls Try.prog 61 #[.int .i64 x] w fun e w' => ∃ g n c, e = .returned (.slice (some ⟨g, 0, none⟩) n c) ∧ Mine w' w.heap.size (some ⟨g, 0, none⟩) n c (nameBytes x) ∧ Below w.heap.size w w' := by
  by_cases hx : x < 0
  · exact specBytes_no x w hx
  · exact specBytes_yes x w hx
theorem specBytes_any (x : Int) (w : World) :
    Calls Try.prog 61 #[.int .i64 x] w fun e w' => ∃ A n c, e = .returned (.slice A n c) ∧ Mine w' w.heap.size A n c (nameBytes x) ∧ Below w.heap.size w w' := by
  refine (specBytes_some x w).mono ?_
  rintro e w' ⟨g, n, c, h⟩
  exact ⟨_, n, c, h⟩
end Go.Proofs.Ytdhnhgppapkikaa

-- NodeB: The bytes of a node, as the model writes them: a row of the call's own.
namespace Go.Proofs.Ytdhnhgppapkikaa
set_option maxRecDepth 20000
open Go.RowKit

/-- the bytes that are written of a node, each number in one byte. -/
def kidBytes (k : Int × Int) : List Int := k.1 % 256 :: nameBytes k.2
def rawBytes (nd : MNode) : List Int :=
  [nd.kind % 256, (nd.path.length : Int) % 256] ++ nd.path.map (· % 256) ++ [(nd.val.size : Int) % 256] ++ sb nd.val ++ [(nd.kids.length : Int) % 256] ++ nd.kids.flatMap kidBytes
theorem nameBytes_len8 (x : Int) : (nameBytes x).length ≤ 8 := by
  unfold nameBytes
  split <;> simp [nb]
theorem kidBytes_len (ks : List (Int × Int)) : (ks.flatMap kidBytes).length ≤ ks.length * 9 := by
  induction ks with
  | nil => simp
  | cons k r ih =>
    have := nameBytes_len8 k.2
    simp [kidBytes] at ih ⊢
    omega
theorem Mine.app {w1 w2 : World} {base g n c g' c' m : Nat} {xs ys : List Int} (hm : Mine w1 base (some ⟨g, 0, none⟩) n c xs) (hys : ∀ z ∈ ys, 0 ≤ z ∧ z ≤ 255)
    (hown' : w2.ownsRow base 5 1 (.slice (some ⟨g', 0, none⟩) m c') m (xs.map (Value.int .u8) ++ ys.map (Value.int .u8))) : Mine w2 base (some ⟨g', 0, none⟩) m c' (xs ++ ys) := by
  refine ⟨by rw [List.map_append]; exact hown', fun z hz => ?_⟩
  rcases List.mem_append.1 hz with hz | hz
  · exact hm.2 z hz
  · exact hys z hz
/-- a text turned into bytes: a new row of just these. -/
theorem conv_str (s : ByteArray) (w : World) : ∃ cap w', (convert 9 43 (.string s)).run Try.prog w = .ok (.slice (some ⟨w.heap.size, 0, none⟩) s.size cap) w' ∧ Below w.heap.size w w' ∧ w'.heap.size = w.heap.size + 1 ∧
    ∀ j u, ((sb s).map (Value.int .u8))[j]? = some u → w'.cell? ((⟨w.heap.size, 0, none⟩ : Addr).add j) = some u := by
  refine ⟨_, _, run_bytes_of_string w _ _ _ s Try.underlying9 Try.underlying43 Try.underlying5, ?_, by simp, ?_⟩
  · exact (Below.refl w.heap.size w).drew.alloc (Nat.le_refl _) _
  · intro j u hj
    have hadd : (⟨w.heap.size, 0, none⟩ : Addr).add j = ⟨w.heap.size, j, none⟩ := by unfold Addr.add; split <;> simp_all
    rw [hadd]
    have hjl : j < (sb s).length := by
      rcases Nat.lt_or_ge j (sb s).length with h | h
      · exact h
      · rw [List.getElem?_eq_none (by simpa using h)] at hj; cases hj
    have hj2 : j < s.data.size := by rw [sb_len] at hjl; exact hjl
    have h := World.cell?_alloc_mark w.drew (bytesRow s (grownCap w s.size 0 5)) 5 ((bytesRow s (grownCap w s.size 0 5)).size, (bytesRow s (grownCap w s.size 0 5)).size + 1) j
    have h' : (w.drew.alloc (.cells (bytesRow s (grownCap w s.size 0 5)) 5 ((bytesRow s (grownCap w s.size 0 5)).size, (bytesRow s (grownCap w s.size 0 5)).size + 1))).cell? ⟨w.heap.size, j, none⟩ = _ := h
    rw [h', bytesRow_at s _ j hj2]
    have e := sb_at s j hj2
    simp [hjl] at hj e
    rw [← hj, e]
    rfl

theorem l3Bytes_any (v : Value) (nd : MNode) (B : Nat) (w : World) (hB : B ≤ w.heap.size) (hv : NodeIn w B v nd) :
    Calls Try.prog 44 #[v] w fun e w' => ∃ g n c, e = .returned (.slice (some ⟨g, 0, none⟩) n c) ∧ Mine w' w.heap.size (some ⟨g, 0, none⟩) n c (rawBytes nd) ∧ Below w.heap.size w w' := by
  obtain ⟨Ap, np, cp, Ak, nk, ck, rfl, hnp, hnk, hsz, hp, hk⟩ := hv
  obtain ⟨kind, path, kids, val⟩ := nd
  have HP := Lib.hid (hp.more hB)
  have HK := Lib.hid (hk.more hB)
  clear hp hk
  obtain ⟨w1, hw1⟩ : ∃ w1, w.alloc (.cells #[.int .i64 kind, .slice Ap np cp, .slice Ak nk ck, .string val] 35) = w1 := ⟨_, rfl⟩
  have x1 : Box w1 w.heap.size _ _ := hw1 ▸ heap_alloc_new _ _
  have s1 : w1.heap.size = w.heap.size + 1 := hw1 ▸ by simp
  have b1 : Below w.heap.size w w1 := hw1 ▸ (Below.refl _ _).alloc (Nat.le_refl _) _
  have X1 := Lib.hid x1
  have B1 := Lib.hid b1
  have HW := Lib.hid hw1
  clear x1 b1 hw1
  go_enter Try.func44, Try.ntmps44
  go_wp2
  rw [HW.out]
  obtain ⟨i0, hi, hz0, hz1, hz2⟩ := info_parts Try.info5
  have HI := Lib.hid hi
  have HZ0 := Lib.hid hz0
  have HZ1 := Lib.hid hz1
  have HZ2 := Lib.hid hz2
  clear hi hz0 hz1 hz2
  have m0 := (Mine.of_alloc w1 (w.heap.size + 1) [kind % 256, (np : Int) % 256] 2 (by omega) rfl (by unfold maxLen; omega) (by intro z hz; simp at hz; omega))
  rw [s1] at m0
  have M0 := Lib.hid m0
  clear m0
  have LP : Hid (path.length = np) := HP.out.1
  have LK : Hid (kids.length = nk) := HK.out.1
  go_loopw [3, 4] (fun b i wr => ∃ k g n c : Nat, k ≤ np ∧ i = .int .i64 k ∧ b = .slice (some ⟨g, 0, none⟩) n c ∧ Mine wr (w.heap.size + 1) (some ⟨g, 0, none⟩) n c ([kind % 256, (np : Int) % 256] ++ (path.take k).map (· % 256)) ∧ Below (w.heap.size + 1) w1 wr) (fun _ i _ => np - (intOf i).toNat)
  case atStart => exact ⟨0, _, 2, 2, Nat.zero_le _, rfl, rfl, M0.out, (Below.refl _ _).alloc (by omega) _⟩
  case round =>
    obtain ⟨k, g, n, c, hk, rfl, rfl, hm, hbr⟩ := hrel
    have hlen := hm.len
    have XR := Lib.hid (X1.out.below hbr (by omega))
    have BR := Lib.hid hbr
    have BW := Lib.hid (B1.out.trans (hbr.mono (by omega)))
    have MR := Lib.hid hm
    clear hm hbr
    have sr := BR.out.size
    have q1 := XR.out.cell 1
    simp at q1
    by_cases hlt : k < np
    · have hn : n = 2 + k := by
        have := LP.out
        simp at hlen; omega
      obtain ⟨b, off, rfl, hbB, hc⟩ := (HP.out.below BW.out).at_ hlt
      have hst := map_take_step (· % 256) path k (by rw [LP.out]; exact hlt)
      generalize path[k]?.getD 0 = z at hc hst
      have HST := Lib.hid hst
      clear hst
      go_wp2_with (at_builtin; refine wpList_append_lies _ rfl _ _ 43 rfl (w.heap.size + 1) 5 i0 (.int .u8 0) 1 1 Try.underlying43 HI.out HZ0.out HZ1.out HZ2.out rfl (by decide) _ _ _ rfl (MR.out.1.alloc _) ⟨wr.heap.size, 0, none⟩ 1 1 ([z % 256].map (Value.int .u8)) rfl ?a0 ?a1 ?a2 (by omega) ?a3 ?a4 ?a5 _ rfl ?_)
      case a0 => first | rfl | (simp; done) | simp [sb_len]
      case a1 =>
        intro j u hj
        match j, hj with
        | 0, hj => simp at hj; subst hj; simp [Addr.add]
      case a2 => intro u hu; obtain ⟨z, _, rfl⟩ := List.mem_map.1 hu; rfl
      case a3 => unfold maxLen; omega
      case a4 => omega
      case a5 => simp; omega
      intro g2 c2 w2 hown hgrow _ _
      have hm2 := MR.out.app (ys := [z % 256]) (by intro y hy; simp at hy; omega) (by simpa using hown)
      have hb2 : Below (w.heap.size + 1) w1 w2 := (BR.out.alloc (by omega) _).grown hgrow (by simp; omega) (fun g hg => (MR.out.1.lt g hg).1)
      rw [List.append_assoc, ← HST.out] at hm2
      have M2 := Lib.hid hm2
      have B2 := Lib.hid hb2
      clear hm2 hb2 hown hgrow
      go_wp2
      go_roundw
      case rel => exact ⟨k + 1, _, _, _, by omega, by go_num, rfl, M2.out, B2.out⟩
      case measure => simp [intOf]; omega
    · have hpt : path.take k = path := List.take_of_length_le (by rw [LP.out]; omega)
      rw [hpt] at MR
      have hn : n = 2 + np := by
        have h0 := MR.out.len
        have := LP.out
        simp at h0; omega
      have q3 := XR.out.cell 3
      simp at q3
      go_wp2_with (at_builtin; refine wpList_append_lies _ rfl _ _ 43 rfl (w.heap.size + 1) 5 i0 (.int .u8 0) 1 1 Try.underlying43 HI.out HZ0.out HZ1.out HZ2.out rfl (by decide) _ _ _ rfl (MR.out.1.alloc _) ⟨wr.heap.size, 0, none⟩ 1 1 ([(val.size : Int) % 256].map (Value.int .u8)) rfl ?d0 ?d1 ?d2 (by omega) ?d3 ?d4 ?d5 _ rfl ?_)
      case d0 => first | rfl | (simp; done) | simp [sb_len]
      case d1 =>
        intro j u hj
        match j, hj with
        | 0, hj => simp at hj; subst hj; simp [Addr.add]
      case d2 => intro u hu; obtain ⟨z, _, rfl⟩ := List.mem_map.1 hu; rfl
      case d3 => unfold maxLen; omega
      case d4 => omega
      case d5 => simp; omega
      intro g5 c5 w5 hown5 hgrow5 _ _
      have hm5 := MR.out.app (ys := [(val.size : Int) % 256]) (by intro y hy; simp at hy; omega) (by simpa using hown5)
      have hb5 : Below (w.heap.size + 1) w1 w5 := (BR.out.alloc (by omega) _).grown hgrow5 (by simp; omega) (fun g hg => (MR.out.1.lt g hg).1)
      have M5 := Lib.hid hm5
      have B5 := Lib.hid hb5
      clear hm5 hb5 hown5 hgrow5 q1 q3
      have s5 := B5.out.size
      have X5 := Lib.hid (X1.out.below B5.out (by omega))
      have q3 := X5.out.cell 3
      simp at q3
      obtain ⟨cap6, w6, hconv, b6, s6, hcell6⟩ := conv_str val w5
      have C6 := Lib.hid hcell6
      have M6 := Lib.hid (M5.out.below b6)
      have B6 := Lib.hid (B5.out.trans (b6.mono (by omega)))
      clear hcell6 b6
      go_wp2_with (at_builtin; refine wpList_append_own _ rfl _ _ 43 rfl (w.heap.size + 1) 5 i0 (.int .u8 0) 1 1 Try.underlying43 HI.out HZ0.out HZ1.out HZ2.out rfl (by decide) _ _ _ rfl M6.out.1 ⟨w5.heap.size, 0, none⟩ val.size _ ((sb val).map (Value.int .u8)) rfl ?e0 ?e1 ?e2 ?e3 ?e4 ?e5 ?_)
      case e0 => rw [List.length_map, Nat.mul_one]; first | rfl | exact sb_len _ | exact M8.out.len
      case e1 => exact C6.out
      case e2 => intro u hu; obtain ⟨z, _, rfl⟩ := List.mem_map.1 hu; rfl
      case e3 => unfold maxLen; omega
      case e4 => omega
      case e5 => omega
      intro v7 w7 hown7 hgrow7 hnil7
      clear hconv
      have hv : ∃ g c, v7 = .slice (some ⟨g, 0, none⟩) (2 + np + 1 + val.size) c := by
        rcases hown7.2 with ⟨e, _⟩ | ⟨g, cap, cur, e, _⟩
        · exact absurd e hnil7
        · exact ⟨g, cap, e⟩
      obtain ⟨g7, c7, rfl⟩ := hv
      have hm7 := M6.out.app (ys := sb val) (sb_bd val) (by simpa using hown7)
      have hb7 : Below (w.heap.size + 1) w1 w7 := B6.out.grown hgrow7 (by omega) (fun g hg => (M6.out.1.lt g hg).1)
      have M7 := Lib.hid hm7
      have B7 := Lib.hid hb7
      clear hm7 hb7 hown7 hgrow7 hnil7 q3
      have s7 := B7.out.size
      have X7 := Lib.hid (X1.out.below B7.out (by omega))
      have q2 := X7.out.cell 2
      simp at q2
      go_wp2_with (at_builtin; refine wpList_append_lies _ rfl _ _ 43 rfl (w.heap.size + 1) 5 i0 (.int .u8 0) 1 1 Try.underlying43 HI.out HZ0.out HZ1.out HZ2.out rfl (by decide) _ _ _ rfl (M7.out.1.alloc _) ⟨w7.heap.size, 0, none⟩ 1 1 ([(nk : Int) % 256].map (Value.int .u8)) rfl ?f0 ?f1 ?f2 (by omega) ?f3 ?f4 ?f5 _ rfl ?_)
      case f0 => first | rfl | (simp; done) | simp [sb_len]
      case f1 =>
        intro j u hj
        match j, hj with
        | 0, hj => simp at hj; subst hj; simp [Addr.add]
      case f2 => intro u hu; obtain ⟨z, _, rfl⟩ := List.mem_map.1 hu; rfl
      case f3 => unfold maxLen; omega
      case f4 => omega
      case f5 => simp; omega
      intro g8 c8 w8 hown8 hgrow8 _ _
      have hm8 := M7.out.app (ys := [(nk : Int) % 256]) (by intro y hy; simp at hy; omega) (by simpa using hown8)
      have hb8 : Below (w.heap.size + 1) w1 w8 := (B7.out.alloc (by omega) _).grown hgrow8 (by simp; omega) (fun g hg => (M7.out.1.lt g hg).1)
      generalize hpre : [kind % 256, (np : Int) % 256] ++ path.map (· % 256) ++ [(val.size : Int) % 256] ++ sb val ++ [(nk : Int) % 256] = pre at hm8
      have hplen : pre.length = 2 + np + 1 + val.size + 1 := hm8.len
      have HPRE := Lib.hid hpre
      have M8 := Lib.hid hm8
      have B8 := Lib.hid hb8
      clear hm8 hb8 hown8 hgrow8 q2 hpre
      go_wp2
      go_loopw [3, 5] (fun b i wr => ∃ k g n c : Nat, k ≤ nk ∧ i = .int .i64 k ∧ b = .slice (some ⟨g, 0, none⟩) n c ∧ Mine wr (w.heap.size + 1) (some ⟨g, 0, none⟩) n c (pre ++ (kids.take k).flatMap kidBytes) ∧ Below (w.heap.size + 1) w1 wr) (fun _ i _ => nk - (intOf i).toNat)
      case atStart => exact ⟨0, _, _, _, Nat.zero_le _, rfl, rfl, by simpa using M8.out, B8.out⟩
      case round =>
        obtain ⟨k, g, n, c, hk, rfl, rfl, hm, hbr⟩ := hrel
        have hlen := hm.len
        have XR := Lib.hid (X1.out.below hbr (by omega))
        have BR := Lib.hid hbr
        have BW := Lib.hid (B1.out.trans (hbr.mono (by omega)))
        have MR := Lib.hid hm
        clear hm hbr
        have sr := BR.out.size
        have q2 := XR.out.cell 2
        simp at q2
        have hn : n ≤ 20000000 := by
          have h1 := kidBytes_len (kids.take k)
          have h2 : (kids.take k).length ≤ nk := by rw [List.length_take, LK.out]; omega
          rw [List.length_append] at hlen
          omega
        clear hlen
        by_cases hlt : k < nk
        · have hst : (kids.take (k + 1)).flatMap kidBytes = (kids.take k).flatMap kidBytes ++ kidBytes (kids[k]?.getD (0, 0)) := by
            rw [List.take_succ_eq_append_getElem (by rw [LK.out]; exact hlt), List.flatMap_append, List.getElem?_eq_getElem (by rw [LK.out]; exact hlt)]
            simp
          obtain ⟨b, off, rfl, hbB, h0, h1⟩ := (HK.out.below BW.out).at_ hlt
          generalize hx : kids[k]?.getD (0, 0) = x at h0 h1 hst
          have HX := Lib.hid hx
          clear hx
          have HST := Lib.hid hst
          clear hst
          go_wp2_with (at_builtin; refine wpList_append_lies _ rfl _ _ 43 rfl (w.heap.size + 1) 5 i0 (.int .u8 0) 1 1 Try.underlying43 HI.out HZ0.out HZ1.out HZ2.out rfl (by decide) _ _ _ rfl (MR.out.1.alloc _) ⟨wr.heap.size, 0, none⟩ 1 1 ([x.1 % 256].map (Value.int .u8)) rfl ?g0 ?g1 ?g2 (by omega) ?g3 ?g4 ?g5 _ rfl ?_)
          case g0 => first | rfl | (simp; done) | simp [sb_len]
          case g1 =>
            intro j u hj
            match j, hj with
            | 0, hj => simp at hj; subst hj; simp [Addr.add]
          case g2 => intro u hu; obtain ⟨z, _, rfl⟩ := List.mem_map.1 hu; rfl
          case g3 => unfold maxLen; omega
          case g4 => omega
          case g5 => simp; omega
          intro g2 c2 w2 hown hgrow _ _
          have hm2 := MR.out.app (ys := [x.1 % 256]) (by intro y hy; simp at hy; omega) (by simpa using hown)
          have hb2 : Below (w.heap.size + 1) w1 w2 := (BR.out.alloc (by omega) _).grown hgrow (by simp; omega) (fun g hg => (MR.out.1.lt g hg).1)
          have M2 := Lib.hid hm2
          have B2 := Lib.hid hb2
          clear hm2 hb2 hown hgrow q2 h0 h1
          have s2 := B2.out.size
          have XR := Lib.hid (X1.out.below B2.out (by omega))
          obtain ⟨b', off', e', hbB', h0, h1⟩ := (HK.out.below (B1.out.trans (B2.out.mono (by omega)))).at_ hlt
          cases e'
          rw [HX.out] at h0 h1
          have q2 := XR.out.cell 2
          simp at q2
          go_wp2_with fail
          refine (specBytes_some x.2 _).mono ?_
          rintro e w3 ⟨g3, n3, c3, rfl, m3, b3⟩
          have hn3 : n3 ≤ 8 := by have := nameBytes_len8 x.2; have := m3.len; omega
          have M3 := Lib.hid m3
          have M2 := Lib.hid (M2.out.below b3)
          have B3 := Lib.hid (B2.out.trans (b3.mono (by omega)))
          clear m3 b3 q2 h0 h1
          have s3 := B3.out.size
          go_wp2_with (at_builtin; refine wpList_append_own _ rfl _ _ 43 rfl (w.heap.size + 1) 5 i0 (.int .u8 0) 1 1 Try.underlying43 HI.out HZ0.out HZ1.out HZ2.out rfl (by decide) _ _ _ rfl M2.out.1 ⟨g3, 0, none⟩ n3 _ ((nameBytes x.2).map (Value.int .u8)) rfl ?h0 ?h1 ?h2 ?h3 ?h4 ?h5 ?_)
          case h0 => rw [List.length_map, Nat.mul_one]; first | rfl | exact sb_len _ | exact M3.out.len
          case h1 => exact World.ownsRow.cells M3.out.1 rfl
          case h2 => intro u hu; obtain ⟨z, _, rfl⟩ := List.mem_map.1 hu; rfl
          case h3 => unfold maxLen; omega
          case h4 => omega
          case h5 => omega
          intro v4 w4 hown4 hgrow4 hnil4
          have hv : ∃ g c, v4 = .slice (some ⟨g, 0, none⟩) (n + 1 + n3) c := by
            rcases hown4.2 with ⟨e, _⟩ | ⟨g, cap, cur, e, _⟩
            · exact absurd e hnil4
            · exact ⟨g, cap, e⟩
          obtain ⟨g4, c4, rfl⟩ := hv
          have hm4 := M2.out.app (ys := nameBytes x.2) M3.out.2 (by simpa using hown4)
          have hb4 : Below (w.heap.size + 1) w1 w4 := B3.out.grown hgrow4 (by omega) (fun g hg => (M2.out.1.lt g hg).1)
          have he : pre ++ (kids.take k).flatMap kidBytes ++ [x.1 % 256] ++ nameBytes x.2 = pre ++ (kids.take (k + 1)).flatMap kidBytes := by
            rw [HST.out]; simp [kidBytes]
          rw [he] at hm4
          have M4 := Lib.hid hm4
          have B4 := Lib.hid hb4
          clear hm4 hb4 hown4 hgrow4 hnil4 he
          go_wp2
          go_roundw
          case rel => exact ⟨k + 1, _, _, _, by omega, by go_num, rfl, M4.out, B4.out⟩
          case measure => simp [intOf]; omega
        · have hkt : kids.take k = kids := List.take_of_length_le (by rw [LK.out]; omega)
          rw [hkt] at MR
          go_wp2
          go_ret
          refine ⟨g, n, c, rfl, ?_, BW.out⟩
          have hr : rawBytes ⟨kind, path, kids, val⟩ = pre ++ kids.flatMap kidBytes := by
            unfold rawBytes
            rw [← HPRE.out]
            simp only [LP.out, LK.out]
          rw [hr]
          exact MR.out.base (by omega)

/-- the bytes of a node; none where it is no right node. -/
def nodeBytes (nd : MNode) : List Int := if nodeOk nd then rawBytes nd else []
theorem nodeBytes_len (nd : MNode) : (nodeBytes nd).length ≤ 4 + nd.path.length + nd.val.size + nd.kids.length * 9 := by
  unfold nodeBytes
  split
  · unfold rawBytes
    have h1 := kidBytes_len nd.kids
    have h2 := sb_len nd.val
    simp only [List.length_append, List.length_map, List.length_cons, List.length_nil]
    omega
  · simp
end Go.Proofs.Ytdhnhgppapkikaa

-- NameF: The name of which eight bytes are the bytes, as the program and as the model read it.
namespace Go.Proofs.Ytdhnhgppapkikaa
set_option maxRecDepth 20000
open Go.RowKit

/-- the number that these bytes write, the lowest one first. -/
def leVal : List Int → Int
  | [] => 0
  | z :: r => z + 256 * leVal r
theorem leVal_append (a : List Int) (c : Int) : leVal (a ++ [c]) = leVal a + c * 2 ^ (8 * a.length) := by
  induction a with
  | nil => simp [leVal]
  | cons z r ih =>
    simp only [List.cons_append, leVal, ih, List.length_cons]
    rw [show 8 * (r.length + 1) = 8 * r.length + 8 by omega, Int.pow_add, show (2 : Int) ^ 8 = 256 by rfl, Int.mul_add, ← Int.mul_assoc c, Int.mul_comm _ 256, ← Int.add_assoc]
theorem leVal_bd (zs : List Int) (h : ∀ z ∈ zs, 0 ≤ z ∧ z ≤ 255) : 0 ≤ leVal zs ∧ leVal zs < 2 ^ (8 * zs.length) := by
  induction zs with
  | nil => simp [leVal]
  | cons z r ih =>
    have hz := h z (by simp)
    have ir := ih fun y hy => h y (by simp [hy])
    simp only [leVal, List.length_cons]
    rw [show 8 * (r.length + 1) = 8 * r.length + 8 by omega, Int.pow_add, show (2 : Int) ^ 8 = 256 by rfl]
    omega
theorem leVal_take (zs : List Int) (k : Nat) (h : k < zs.length) : leVal (zs.take (k + 1)) = leVal (zs.take k) + zs[k]?.getD 0 * 2 ^ (8 * k) := by
  rw [take_step zs k h, leVal_append]
  rw [show (zs.take k).length = k by simp; omega]
theorem leVal_drop (zs : List Int) (k : Nat) (h : k < zs.length) : leVal (zs.drop k) = zs[k]?.getD 0 + 256 * leVal (zs.drop (k + 1)) := by
  rw [List.drop_eq_getElem_cons h, leVal, List.getElem?_eq_getElem h]; rfl
theorem leVal_drop_le (zs : List Int) (h : ∀ z ∈ zs, 0 ≤ z ∧ z ≤ 255) (k : Nat) : 0 ≤ leVal (zs.drop k) ∧ leVal (zs.drop k) ≤ leVal zs := by
  refine ⟨(leVal_bd _ fun z hz => h z (List.mem_of_mem_drop hz)).1, ?_⟩
  induction k with
  | zero => simp
  | succ k ih =>
    by_cases hk : k < zs.length
    · have h1 := leVal_drop zs k hk
      have h2 := (leVal_bd (zs.drop (k + 1)) fun z hz => h z (List.mem_of_mem_drop hz)).1
      have h3 : 0 ≤ zs[k]?.getD 0 := by rw [List.getElem?_eq_getElem hk]; exact (h _ (List.getElem_mem hk)).1
      omega
    · rw [List.drop_eq_nil_of_le (by omega)]
      rw [List.drop_eq_nil_of_le (by omega)] at ih
      exact ih
theorem mem_at (zs : List Int) (h : ∀ z ∈ zs, 0 ≤ z ∧ z ≤ 255) (k : Nat) : 0 ≤ zs[k]?.getD 0 ∧ zs[k]?.getD 0 ≤ 255 := by
  by_cases hk : k < zs.length
  · rw [List.getElem?_eq_getElem hk]; exact h _ (List.getElem_mem hk)
  · rw [List.getElem?_eq_none (by omega)]; simp
theorem leVal_8 (zs : List Int) (h : ∀ z ∈ zs, 0 ≤ z ∧ z ≤ 255) (hl : zs.length = 8) : ∃ s, 0 ≤ s ∧ s < 72057594037927936 ∧ leVal zs = s + zs[7]?.getD 0 * 72057594037927936 := by
  have h1 := leVal_take zs 7 (by omega)
  have h2 := leVal_bd (zs.take 7) fun z hz => h z (List.mem_of_mem_take hz)
  rw [List.take_of_length_le (by omega)] at h1
  rw [show (zs.take 7).length = 7 by simp; omega] at h2
  exact ⟨_, h2.1, h2.2, h1⟩
theorem or_nat (a b : Nat) (ha : a < 18446744073709551616) (hb : b < 18446744073709551616) (y : Int) (hy : y = IntKind.i64.wrap (b : Int)) : bits .or .i64 (a : Int) y = IntKind.i64.wrap ((a ||| b : Nat) : Int) := by
  subst hy
  show IntKind.i64.wrap ((BitVec.ofInt 64 (a : Int) ||| BitVec.ofInt 64 (IntKind.i64.wrap (b : Int))).toNat : Int) = _
  have h2 : BitVec.ofInt 64 (IntKind.i64.wrap (b : Int)) = BitVec.ofInt 64 (b : Int) := by
    apply BitVec.eq_of_toNat_eq
    simp only [BitVec.toNat_ofInt, IntKind.wrap_i64]
    omega
  rw [h2, BitVec.toNat_or, ofInt_u64 a ha, ofInt_u64 b hb]
/-- what is read of the first k bytes, as the sum wraps. -/
def leW (zs : List Int) (k : Nat) : Int := wrap64 (leVal (zs.take k))
theorem wrap64_eq (n : Int) : wrap64 n = IntKind.i64.wrap n := by rw [IntKind.wrap_i64, wrap64]
theorem or_step (s c : Int) (k : Nat) (hk : k ≤ 7) (hs : 0 ≤ s ∧ s < 2 ^ (8 * k)) (hc : 0 ≤ c ∧ c ≤ 255) : bits .or .i64 s (wrap64 (c * 2 ^ (8 * k))) = wrap64 (s + c * 2 ^ (8 * k)) := by
  obtain ⟨a, rfl⟩ : ∃ a : Nat, s = a := ⟨s.toNat, by omega⟩
  obtain ⟨d, rfl⟩ : ∃ d : Nat, c = d := ⟨c.toNat, by omega⟩
  have hp : ((2 : Int) ^ (8 * k)) = ((2 ^ (8 * k) : Nat) : Int) := by simp
  have ha : a < 2 ^ (8 * k) := by have := hs.2; rw [hp] at this; omega
  have hle : 2 ^ (8 * k) ≤ 2 ^ 56 := Nat.pow_le_pow_right (by omega) (by omega)
  have hb : d * 2 ^ (8 * k) ≤ 255 * 2 ^ 56 := Nat.mul_le_mul (by omega) hle
  have hm : ((d : Int) * 2 ^ (8 * k)) = ((d * 2 ^ (8 * k) : Nat) : Int) := by simp
  rw [hm, wrap64_eq ((d * 2 ^ (8 * k) : Nat) : Int), or_nat a (d * 2 ^ (8 * k)) (by omega) (by omega) _ rfl, Nat.or_comm, nat_join (8 * k) _ _ (by simp) ha]
  rw [IntKind.wrap_i64]
  unfold wrap64
  generalize d * 2 ^ (8 * k) = X
  omega
theorem leW_step (zs : List Int) (h : ∀ z ∈ zs, 0 ≤ z ∧ z ≤ 255) (k : Nat) (hk : k < zs.length) (h7 : k ≤ 7) :
    bits .or .i64 (leW zs k) (wrap64 (zs[k]?.getD 0 * 2 ^ (8 * k))) = leW zs (k + 1) := by
  have hb := leVal_bd (zs.take k) fun z hz => h z (List.mem_of_mem_take hz)
  rw [show (zs.take k).length = k by simp; omega] at hb
  have hle : (2 : Int) ^ (8 * k) ≤ 2 ^ 56 := by
    have : 2 ^ (8 * k) ≤ 2 ^ 56 := Nat.pow_le_pow_right (by omega) (by omega)
    exact_mod_cast this
  unfold leW
  rw [leVal_take zs k hk, show wrap64 (leVal (zs.take k)) = leVal (zs.take k) by unfold wrap64; omega]
  exact or_step _ _ k h7 hb (mem_at zs h k)
theorem leW_0 (zs : List Int) : leW zs 0 = 0 := by simp [leW, leVal, wrap64]
theorem leW_yes (zs : List Int) (h : ∀ z ∈ zs, 0 ≤ z ∧ z ≤ 255) (hl : zs.length = 8) (h7 : zs[7]?.getD 0 ≤ 127) : leW zs 8 = leVal zs ∧ 0 ≤ leVal zs ∧ leVal zs ≤ 9223372036854775807 := by
  obtain ⟨s, h1, h2, h3⟩ := leVal_8 zs h hl
  have hm := mem_at zs h 7
  unfold leW wrap64
  rw [List.take_of_length_le (by omega)]
  omega
theorem leW_no (zs : List Int) (h : ∀ z ∈ zs, 0 ≤ z ∧ z ≤ 255) (hl : zs.length = 8) (h7 : (127 : Int) < zs[7]?.getD 0) : leW zs 8 < 0 := by
  obtain ⟨s, h1, h2, h3⟩ := leVal_8 zs h hl
  have hm := mem_at zs h 7
  unfold leW wrap64
  rw [List.take_of_length_le (by omega)]
  omega

theorem from_no_len (A : Option Addr) (n c : Nat) (w : World) (hn : n ≠ 8) :
    Calls Try.prog 91 #[.slice A n c] w fun e w' => e = .returned (.tuple #[.int .i64 0, .bool false]) ∧ w = w' := by
  go_enter Try.func91, Try.ntmps91
  go_wp2
  go_ret2
  exact ⟨rfl, rfl⟩
theorem specFrom_no_len (A : Option Addr) (n c : Nat) (w : World) (hn : n ≠ 8) :
    Calls Try.prog 59 #[.slice A n c] w fun e w' => e = .returned (.tuple #[.int .i64 0, .bool false]) ∧ w = w' := by
  go_enter Try.func59, Try.ntmps59
  go_wp2
  go_ret2
  exact ⟨rfl, rfl⟩

theorem from_high (A : Option Addr) (c : Nat) (zs : List Int) (B : Nat) (w : World) (hb : Byts w B A 8 zs) (h7 : (127 : Int) < zs[7]?.getD 0) :
    Calls Try.prog 91 #[.slice A 8 c] w fun e w' => e = .returned (.tuple #[.int .i64 0, .bool false]) ∧ w = w' := by
  have HN := Lib.hid (leW_no zs hb.2.1 hb.1 h7)
  have H0 := Lib.hid (leW_0 zs)
  have HB := Lib.hid hb
  clear hb h7
  go_enter Try.func91, Try.ntmps91
  go_wp2
  go_loop [4, 12] (fun s i => ∃ k : Nat, k ≤ 8 ∧ i = .int .i64 k ∧ s = .int .i64 (leW zs k)) (fun _ i => 8 - (intOf i).toNat)
  case atStart => exact ⟨0, Nat.zero_le _, rfl, by rw [H0.out]⟩
  case round =>
    obtain ⟨k, hk, rfl, rfl⟩ := hrel
    by_cases hlt : k < 8
    · obtain ⟨b, off, rfl, _, hc⟩ := HB.out.at_ hlt
      have hr := HB.out.range k
      have HS := Lib.hid (leW_step zs HB.out.2.1 k (by have := HB.out.1; omega) (by omega))
      go_wp2
      go_round
      case rel => exact ⟨k + 1, by omega, by go_num, by rw [HS.out]⟩
      case measure => simp [intOf]; omega
    · obtain rfl : k = 8 := by omega
      have hneg := HN.out
      go_wp2
      go_ret2
      exact ⟨rfl, rfl⟩
theorem from_yes (A : Option Addr) (c : Nat) (zs : List Int) (B : Nat) (w : World) (hb : Byts w B A 8 zs) (h7 : zs[7]?.getD 0 ≤ (127 : Int)) :
    Calls Try.prog 91 #[.slice A 8 c] w fun e w' => e = .returned (.tuple #[.int .i64 (leVal zs), .bool true]) ∧ w = w' := by
  have HN := Lib.hid (leW_yes zs hb.2.1 hb.1 h7)
  have H0 := Lib.hid (leW_0 zs)
  have HB := Lib.hid hb
  clear hb h7
  go_enter Try.func91, Try.ntmps91
  go_wp2
  go_loop [4, 12] (fun s i => ∃ k : Nat, k ≤ 8 ∧ i = .int .i64 k ∧ s = .int .i64 (leW zs k)) (fun _ i => 8 - (intOf i).toNat)
  case atStart => exact ⟨0, Nat.zero_le _, rfl, by rw [H0.out]⟩
  case round =>
    obtain ⟨k, hk, rfl, rfl⟩ := hrel
    by_cases hlt : k < 8
    · obtain ⟨b, off, rfl, _, hc⟩ := HB.out.at_ hlt
      have hr := HB.out.range k
      have HS := Lib.hid (leW_step zs HB.out.2.1 k (by have := HB.out.1; omega) (by omega))
      go_wp2
      go_round
      case rel => exact ⟨k + 1, by omega, by go_num, by rw [HS.out]⟩
      case measure => simp [intOf]; omega
    · obtain rfl : k = 8 := by omega
      have hpos : 0 ≤ leW zs 8 := by have := HN.out; omega
      go_wp2
      go_ret2
      exact ⟨by rw [HN.out.1]; rfl, rfl⟩

theorem specFrom_high (A : Option Addr) (c : Nat) (zs : List Int) (B : Nat) (w : World) (hb : Byts w B A 8 zs) (h7 : (127 : Int) < zs[7]?.getD 0) :
    Calls Try.prog 59 #[.slice A 8 c] w fun e w' => e = .returned (.tuple #[.int .i64 0, .bool false]) ∧ w = w' := by
  obtain ⟨b, off, rfl, _, hc⟩ := hb.at_ (k := 7) (by omega)
  have hr := hb.range 7
  clear hb
  go_enter Try.func59, Try.ntmps59
  go_wp2
  go_ret2
  exact ⟨rfl, rfl⟩
theorem specFrom_yes (A : Option Addr) (c : Nat) (zs : List Int) (B : Nat) (w : World) (hb : Byts w B A 8 zs) (h7 : zs[7]?.getD 0 ≤ (127 : Int)) :
    Calls Try.prog 59 #[.slice A 8 c] w fun e w' => e = .returned (.tuple #[.int .i64 (leVal zs), .bool true]) ∧ w = w' := by
  have HN := Lib.hid (leW_yes zs hb.2.1 hb.1 h7)
  have HB := Lib.hid hb
  obtain ⟨b, off, rfl, _, hc7⟩ := hb.at_ (k := 7) (by omega)
  have hr7 := hb.range 7
  clear hb
  go_enter Try.func59, Try.ntmps59
  go_wp2
  clear hc7 hr7 h7
  go_loop [4, 5] (fun s i => ∃ m : Nat, m ≤ 8 ∧ i = .int .i64 ((m : Int) - 1) ∧ s = .int .i64 (leVal (zs.drop m))) (fun _ i => (intOf i + 1).toNat)
  case atStart => exact ⟨8, Nat.le_refl _, rfl, by rw [List.drop_eq_nil_of_le (by have := HB.out.1; omega)]; rfl⟩
  case round =>
    obtain ⟨m, hm, rfl, rfl⟩ := hrel
    rcases m with _ | k
    · go_wp2
      go_ret2
      exact ⟨rfl, rfl⟩
    · have e1 : ((k + 1 : Nat) : Int) - 1 = (k : Int) := by omega
      rw [e1]
      clear e1
      obtain ⟨b', off', hA, _, hc⟩ := HB.out.at_ (k := k) (by omega)
      injection hA with hA
      injection hA with hA1 hA2
      subst hA1 hA2
      have hr := HB.out.range k
      have hd1 := leVal_drop_le zs HB.out.2.1 (k + 1)
      have hd0 := leVal_drop_le zs HB.out.2.1 k
      have HS := Lib.hid (leVal_drop zs k (by have := HB.out.1; omega))
      have hbd : leVal (zs.drop (k + 1)) * 256 + zs[k]?.getD 0 ≤ 9223372036854775807 := by have := HN.out; have := HS.out; omega
      go_wp2
      go_round
      case rel => exact ⟨k, by omega, rfl, by rw [HS.out]; go_num⟩
      case measure => simp [intOf]
end Go.Proofs.Ytdhnhgppapkikaa

-- NameM: Plain facts on names: a name is read as it was written, what is read is written as it was, and one other byte makes another name.
namespace Go.Proofs.Ytdhnhgppapkikaa
set_option maxRecDepth 20000
open Go.RowKit

theorem nameOf_bd (zs : List Int) : 1 ≤ nameOf zs ∧ nameOf zs ≤ 9223372036854775807 := by
  have h1 := upSum_bd zs
  have h2 := loSum_bd zs
  unfold nameOf
  omega
theorem list8 (zs : List Int) (h : zs.length = 8) : ∃ a b c d e f g i, zs = [a, b, c, d, e, f, g, i] := by
  match zs, h with
  | [a, b, c, d, e, f, g, i], _ => exact ⟨a, b, c, d, e, f, g, i, rfl⟩
theorem nb8 (x : Int) : nb x 8 = [x % 256, x / 256 % 256, x / 65536 % 256, x / 16777216 % 256, x / 4294967296 % 256, x / 1099511627776 % 256, x / 281474976710656 % 256, x / 72057594037927936 % 256] := by
  simp [nb, List.range, List.range.loop]
theorem back_of_bytes (x : Int) (h : 0 ≤ x ∧ x ≤ 9223372036854775807) : leVal (nameBytes x) = x ∧ (nameBytes x).length = 8 ∧ (nameBytes x)[7]?.getD 0 ≤ (127 : Int) := by
  rw [nameBytes_yes x (by omega), nb8]
  refine ⟨?_, rfl, ?_⟩
  · simp only [leVal]
    omega
  · simp
    omega
theorem bytes_of_back (zs : List Int) (h : ∀ z ∈ zs, 0 ≤ z ∧ z ≤ 255) (hl : zs.length = 8) (h7 : zs[7]?.getD 0 ≤ (127 : Int)) : nameBytes (leVal zs) = zs := by
  have hp := (leW_yes zs h hl h7).2.1
  rw [nameBytes_yes _ (by omega), nb8]
  obtain ⟨z0, z1, z2, z3, z4, z5, z6, z7, rfl⟩ := list8 zs hl
  have h0 := h z0 (by simp)
  have h1 := h z1 (by simp)
  have h2 := h z2 (by simp)
  have h3 := h z3 (by simp)
  have h4 := h z4 (by simp)
  have h5 := h z5 (by simp)
  have h6 := h z6 (by simp)
  have h7 := h z7 (by simp)
  clear hp h
  simp only [leVal, List.cons.injEq, and_true]
  refine ⟨?_, ?_, ?_, ?_, ?_, ?_, ?_, ?_⟩ <;> omega

/-! one other byte, another name -/
theorem upStep_inj (s t z : Int) (hs : 0 ≤ s ∧ s < 2147483647) (ht : 0 ≤ t ∧ t < 2147483647) (h : upStep s z = upStep t z) : s = t := by
  unfold upStep at h
  omega
theorem upFold_inj (r : List Int) : ∀ (s t : Int), 0 ≤ s ∧ s < 2147483647 → 0 ≤ t ∧ t < 2147483647 → r.foldl upStep s = r.foldl upStep t → s = t := by
  induction r with
  | nil => intro s t _ _ h; exact h
  | cons z r ih =>
    intro s t hs ht h
    refine upStep_inj s t z hs ht (ih _ _ ?_ ?_ h)
    · unfold upStep; omega
    · unfold upStep; omega
theorem upStep_ne (s z z' : Int) (hz : 0 ≤ z ∧ z ≤ 255) (hz' : 0 ≤ z' ∧ z' ≤ 255) (h : upStep s z = upStep s z') : z = z' := by
  unfold upStep at h
  omega
theorem upSum_set (zs : List Int) (h : ∀ z ∈ zs, 0 ≤ z ∧ z ≤ 255) (k : Nat) (hk : k < zs.length) (z' : Int) (hz' : 0 ≤ z' ∧ z' ≤ 255) (hne : z' ≠ zs[k]?.getD 0) : upSum (zs.set k z') ≠ upSum zs := by
  intro e
  have e1 : zs = zs.take k ++ zs[k] :: zs.drop (k + 1) := by rw [← List.drop_eq_getElem_cons hk, List.take_append_drop]
  have e2 : zs.set k z' = zs.take k ++ z' :: zs.drop (k + 1) := by rw [List.set_eq_take_append_cons_drop, if_pos hk]
  rw [e2] at e
  have e3 : upSum zs = upSum (zs.take k ++ zs[k] :: zs.drop (k + 1)) := congrArg upSum e1
  rw [e3] at e
  unfold upSum at e
  rw [List.foldl_append, List.foldl_append, List.foldl_cons, List.foldl_cons] at e
  have hs := fold_bd upStep 2147483647 (fun s c => by unfold upStep; omega) (zs.take k) 7 (by omega)
  have := upFold_inj _ _ _ (by unfold upStep; omega) (by unfold upStep; omega) e
  have hz := h zs[k] (List.getElem_mem hk)
  apply hne
  rw [List.getElem?_eq_getElem hk]
  exact upStep_ne _ _ _ hz' hz this
theorem nameOf_set (zs : List Int) (h : ∀ z ∈ zs, 0 ≤ z ∧ z ≤ 255) (k : Nat) (hk : k < zs.length) : nameOf (zs.set k ((zs[k]?.getD 0 + 1) % 256)) ≠ nameOf zs := by
  have hz := mem_at zs h k
  have hu := upSum_set zs h k hk ((zs[k]?.getD 0 + 1) % 256) (by omega) (by omega)
  have a1 := loSum_bd zs
  have a2 := loSum_bd (zs.set k ((zs[k]?.getD 0 + 1) % 256))
  unfold nameOf
  omega
end Go.Proofs.Ytdhnhgppapkikaa

-- NodeI: Plain facts on the bytes of nodes: two right nodes that write the same bytes are one; what a reading of bytes says.
namespace Go.Proofs.Ytdhnhgppapkikaa
set_option maxRecDepth 20000
open Go.RowKit

/-- the names of its kids are numbers of 64 bits. -/
def NodeWf (nd : MNode) : Prop := ∀ k ∈ nd.kids, k.2 ≤ 9223372036854775807
theorem map_mod (ps : List Int) (h : ∀ z ∈ ps, 0 ≤ z ∧ z ≤ 15) : ps.map (· % 256) = ps := by
  conv => rhs; rw [← List.map_id ps]
  apply List.map_congr_left
  intro z hz
  have := h z hz
  simp; omega
theorem nodeOk_parts (nd : MNode) (h : nodeOk nd = true) : isPath nd.path = true ∧ kidsOk nd.kids = true ∧ (hasVal nd = true → valOk (sb nd.val) = true) ∧ kindOk nd = true := by
  unfold nodeOk at h
  simp only [Bool.and_eq_true, Bool.or_eq_true, Bool.not_eq_true'] at h
  refine ⟨h.1.1.1, h.1.1.2, fun hv => ?_, h.2⟩
  rcases h.1.2 with h | h
  · rw [hv] at h; cases h
  · exact h
theorem nodeOk_kind (nd : MNode) (h : nodeOk nd = true) : 1 ≤ nd.kind ∧ nd.kind ≤ 3 := by
  have hk := (nodeOk_parts nd h).2.2.2
  unfold kindOk at hk
  split at hk
  · omega
  · split at hk
    · omega
    · split at hk
      · omega
      · cases hk
theorem nodeOk_val (nd : MNode) (h : nodeOk nd = true) : nd.val.size ≤ 12 := by
  by_cases hv : hasVal nd = true
  · have h1 := (nodeOk_parts nd h).2.2.1 hv
    unfold valOk at h1
    simp at h1
    have := sb_len nd.val
    omega
  · have h1 : nd.val.toList = [] := by
      unfold hasVal at hv
      simpa using hv
    rw [empty_str nd.val h1]; decide
theorem kidsOk_at (ks : List (Int × Int)) (h : kidsOk ks = true) (i : Nat) (hi : i < ks.length) : KidAt ks i := by
  unfold kidsOk at h
  exact of_decide_eq_true h i hi
theorem kidsOk_ge (ks : List (Int × Int)) (h : kidsOk ks = true) (i : Nat) (hi : i < ks.length) : (i : Int) ≤ (ks[i]?.getD (0, 0)).1 := by
  induction i with
  | zero => exact (kidsOk_at ks h 0 hi).1.1
  | succ i ih =>
    have h1 := ih (by omega)
    have h2 := (kidsOk_at ks h (i + 1) hi).2.2 (by omega)
    rw [Nat.add_sub_cancel] at h2
    omega
theorem kidsOk_len (ks : List (Int × Int)) (h : kidsOk ks = true) : ks.length ≤ 16 := by
  rcases Nat.lt_or_ge 16 ks.length with hl | hl
  · have h1 := kidsOk_ge ks h 16 hl
    have h2 := (kidsOk_at ks h 16 hl).1.2
    omega
  · exact hl
theorem kidsOk_mem (ks : List (Int × Int)) (h : kidsOk ks = true) (k : Int × Int) (hk : k ∈ ks) : (0 ≤ k.1 ∧ k.1 ≤ 15) ∧ 1 ≤ k.2 := by
  obtain ⟨i, hi, rfl⟩ := List.getElem_of_mem hk
  have := kidsOk_at ks h i hi
  unfold KidAt at this
  rw [List.getElem?_eq_getElem hi] at this
  exact ⟨this.1, this.2.1⟩
theorem nb_inj (x y : Int) (hx : 0 ≤ x ∧ x ≤ 9223372036854775807) (hy : 0 ≤ y ∧ y ≤ 9223372036854775807) (h : nameBytes x = nameBytes y) : x = y := by
  rw [nameBytes_yes x (by omega), nameBytes_yes y (by omega)] at h
  have e : ∀ k, k < 8 → x / 2 ^ (8 * k) % 256 = y / 2 ^ (8 * k) % 256 := by
    intro k hk
    rw [← nb_at x 8 k hk, ← nb_at y 8 k hk, h]
  have e0 := e 0 (by omega); have e1 := e 1 (by omega); have e2 := e 2 (by omega); have e3 := e 3 (by omega)
  have e4 := e 4 (by omega); have e5 := e 5 (by omega); have e6 := e 6 (by omega); have e7 := e 7 (by omega)
  simp at e0 e1 e2 e3 e4 e5 e6 e7
  omega
theorem kidBytes_inj (a b : List (Int × Int)) (hl : a.length = b.length) (ha : ∀ k ∈ a, ((0 ≤ k.1 ∧ k.1 ≤ 15) ∧ 1 ≤ k.2) ∧ k.2 ≤ 9223372036854775807) (hb : ∀ k ∈ b, ((0 ≤ k.1 ∧ k.1 ≤ 15) ∧ 1 ≤ k.2) ∧ k.2 ≤ 9223372036854775807) (h : a.flatMap kidBytes = b.flatMap kidBytes) : a = b := by
  induction a generalizing b with
  | nil => cases b with
    | nil => rfl
    | cons y q => simp at hl
  | cons x r ih =>
    cases b with
    | nil => simp at hl
    | cons y q =>
      have hx := ha x (by simp)
      have hy := hb y (by simp)
      rw [List.flatMap_cons, List.flatMap_cons] at h
      have lx : (kidBytes x).length = 9 := by unfold kidBytes; rw [nameBytes_yes x.2 (by omega)]; simp [nb]
      have ly : (kidBytes y).length = 9 := by unfold kidBytes; rw [nameBytes_yes y.2 (by omega)]; simp [nb]
      obtain ⟨h1, h2⟩ := List.append_inj h (by omega)
      have h3 := ih q (by simpa using hl) (fun k hk => ha k (by simp [hk])) (fun k hk => hb k (by simp [hk])) h2
      unfold kidBytes at h1
      injection h1 with h4 h5
      have h6 := nb_inj x.2 y.2 (by omega) (by omega) h5
      have h7 : x = y := by
        obtain ⟨x1, x2⟩ := x
        obtain ⟨y1, y2⟩ := y
        simp at h6 h4 hx hy ⊢
        omega
      rw [h7, h3]
theorem str_inj (s t : ByteArray) (h : sb s = sb t) : s = t := by rw [← str_sb s, h, str_sb t]
/-- two right nodes that write the same bytes are one. -/
theorem nodeBytes_inj (a b : MNode) (ha : nodeOk a = true) (hb : nodeOk b = true) (wa : NodeWf a) (wb : NodeWf b) (h : nodeBytes a = nodeBytes b) : a = b := by
  unfold nodeBytes at h
  rw [if_pos ha, if_pos hb] at h
  have pa := (isPath_iff _).1 (nodeOk_parts a ha).1
  have pb := (isPath_iff _).1 (nodeOk_parts b hb).1
  have ka := nodeOk_kind a ha; have kb := nodeOk_kind b hb
  have va := nodeOk_val a ha; have vb := nodeOk_val b hb
  have ca := (nodeOk_parts a ha).2.1; have cb := (nodeOk_parts b hb).2.1
  have na := kidsOk_len _ ca; have nb' := kidsOk_len _ cb
  unfold rawBytes at h
  rw [map_mod a.path pa.2, map_mod b.path pb.2] at h
  simp only [List.append_assoc, List.cons_append, List.nil_append] at h
  injection h with h1 h
  injection h with h2 h
  obtain ⟨h3, h⟩ := List.append_inj h (by omega)
  injection h with h4 h
  obtain ⟨h5, h⟩ := List.append_inj h (by rw [sb_len, sb_len]; omega)
  injection h with h6 h7
  have h8 := kidBytes_inj a.kids b.kids (by omega) (fun k hk => ⟨kidsOk_mem _ ca k hk, wa k hk⟩) (fun k hk => ⟨kidsOk_mem _ cb k hk, wb k hk⟩) h7
  have h9 := str_inj _ _ h5
  obtain ⟨ak, ap, ai, av⟩ := a
  obtain ⟨bk, bp, bi, bv⟩ := b
  simp at h1 h3 h8 h9 ka kb ⊢
  exact ⟨by omega, h3, h8, h9⟩

/-- the node that is none. -/
def node0 : MNode := ⟨0, [], [], { data := #[] }⟩
/-- what the reading of some bytes says: a right node whose bytes they are; or none, and there is none. -/
def NodeRead (bs : List Int) (nd : MNode) (b : Bool) : Prop :=
  (b = true ∧ nodeOk nd = true ∧ NodeWf nd ∧ nodeBytes nd = bs) ∨ (b = false ∧ nd = node0 ∧ ∀ n : MNode, nodeOk n = true → NodeWf n → nodeBytes n ≠ bs)
theorem NodeRead.one {bs : List Int} {nd nd' : MNode} {b b' : Bool} (h : NodeRead bs nd b) (h' : NodeRead bs nd' b') : nd = nd' ∧ b = b' := by
  rcases h with ⟨rfl, h1, h2, h3⟩ | ⟨rfl, rfl, h1⟩ <;> rcases h' with ⟨rfl, k1, k2, k3⟩ | ⟨rfl, rfl, k1⟩
  · exact ⟨nodeBytes_inj _ _ h1 k1 h2 k2 (h3.trans k3.symm), rfl⟩
  · exact absurd h3 (k1 _ h1 h2)
  · exact absurd k3 (h1 _ k1 k2)
  · exact ⟨rfl, rfl⟩
end Go.Proofs.Ytdhnhgppapkikaa

-- CellM: Plain facts on lists of cells: right ones; where a name stands. No statement of the program is proved here.
namespace Go.Proofs.Ytdhnhgppapkikaa
set_option maxRecDepth 20000
set_option linter.unusedVariables false
set_option linter.unusedSimpArgs false
open Go.RowKit

/-- bytes of a node. -/
def IsNode (bs : List Int) : Prop := ∃ nd, NodeRead bs nd true
theorem IsNode.of {bs : List Int} {nd : MNode} {b : Bool} (h : NodeRead bs nd b) : b = true ↔ IsNode bs :=
  ⟨fun e => ⟨nd, e ▸ h⟩, fun ⟨_, h'⟩ => (h.one h').2⟩
def CellAt (cs : List (Int × List Int)) (i : Nat) : Prop := IsNode (cel cs i).2 ∧ nameOf (cel cs i).2 = (cel cs i).1 ∧ (0 < i → (cel cs (i - 1)).1 < (cel cs i).1)
/-- cells as the document has them. -/
def Right (cs : List (Int × List Int)) : Prop := cs.length ≤ 80 ∧ ∀ i, i < cs.length → CellAt cs i
theorem Right.rise {cs : List (Int × List Int)} (h : Right cs) (i j : Nat) (hij : i < j) (hj : j < cs.length) : (cel cs i).1 < (cel cs j).1 := by
  induction j with
  | zero => omega
  | succ j ih =>
    have h1 := (h.2 (j + 1) hj).2.2 (by omega)
    rw [Nat.add_sub_cancel] at h1
    by_cases e : i = j
    · subst e; exact h1
    · have := ih (by omega) (by omega); omega
theorem Right.pos {cs : List (Int × List Int)} (h : Right cs) (i : Nat) (hi : i < cs.length) : 1 ≤ (cel cs i).1 ∧ (cel cs i).1 ≤ 9223372036854775807 := by
  have h1 := (h.2 i hi).2.1
  have h2 := nameOf_bd (cel cs i).2
  omega
/-- where a name stands first; behind them where it does not. -/
def findC (cs : List (Int × List Int)) (m : Int) : Nat := cs.findIdx fun c => c.1 == m
theorem findC_le (cs : List (Int × List Int)) (m : Int) : findC cs m ≤ cs.length := List.findIdx_le_length
theorem findC_is (cs : List (Int × List Int)) (m : Int) (h : findC cs m < cs.length) : (cel cs (findC cs m)).1 = m := by
  have h1 := List.findIdx_getElem (w := h)
  have h1 : cs[List.findIdx (fun c => c.1 == m) cs].1 = m := by simpa using h1
  unfold cel
  rw [List.getElem?_eq_getElem h]
  exact h1
theorem findC_not (cs : List (Int × List Int)) (m : Int) (i : Nat) (h : i < findC cs m) : (cel cs i).1 ≠ m := by
  have hl := findC_le cs m
  have h1 := List.not_of_lt_findIdx (show i < cs.findIdx fun c => c.1 == m from h)
  unfold cel
  rw [List.getElem?_eq_getElem (by omega)]
  simpa using h1
theorem findC_at (cs : List (Int × List Int)) (m : Int) (k : Nat) (hk : k < cs.length) (hm : (cel cs k).1 = m) (h : ∀ j, j < k → (cel cs j).1 ≠ m) : findC cs m = k := by
  rcases Nat.lt_trichotomy (findC cs m) k with h1 | h1 | h1
  · exact absurd (findC_is cs m (by omega)) (h _ h1)
  · exact h1
  · exact absurd hm (findC_not cs m k h1)
theorem findC_none (cs : List (Int × List Int)) (m : Int) (h : ∀ j, j < cs.length → (cel cs j).1 ≠ m) : findC cs m = cs.length := by
  have := findC_le cs m
  rcases Nat.lt_or_ge (findC cs m) cs.length with h1 | h1
  · exact absurd (findC_is cs m h1) (h _ h1)
  · omega
theorem Right.find {cs : List (Int × List Int)} (h : Right cs) (k : Nat) (hk : k < cs.length) : findC cs (cel cs k).1 = k :=
  findC_at cs _ k hk rfl fun j hj => by have := h.rise j k hj hk; omega
/-- what stands under a name: its node, and true; the zero node and false where there is none. -/
def HitIs (cs : List (Int × List Int)) (m : Int) (nd : MNode) (b : Bool) : Prop :=
  (findC cs m < cs.length ∧ NodeRead (cel cs (findC cs m)).2 nd b) ∨ (¬ findC cs m < cs.length ∧ nd = node0 ∧ b = false)
theorem HitIs.one {cs : List (Int × List Int)} {m : Int} {nd nd' : MNode} {b b' : Bool} (h : HitIs cs m nd b) (h' : HitIs cs m nd' b') : nd = nd' ∧ b = b' := by
  rcases h with ⟨h1, h2⟩ | ⟨h1, rfl, rfl⟩ <;> rcases h' with ⟨k1, k2⟩ | ⟨k1, rfl, rfl⟩
  · exact h2.one k2
  · exact absurd h1 k1
  · exact absurd k1 h1
  · exact ⟨rfl, rfl⟩
def NodeAtIs (cs : List (Int × List Int)) (m : Int) (nd : MNode) (b : Bool) : Prop := (Right cs ∧ HitIs cs m nd b) ∨ (¬ Right cs ∧ nd = node0 ∧ b = false)
theorem NodeAtIs.one {cs : List (Int × List Int)} {m : Int} {nd nd' : MNode} {b b' : Bool} (h : NodeAtIs cs m nd b) (h' : NodeAtIs cs m nd' b') : nd = nd' ∧ b = b' := by
  rcases h with ⟨h1, h2⟩ | ⟨h1, rfl, rfl⟩ <;> rcases h' with ⟨k1, k2⟩ | ⟨k1, rfl, rfl⟩
  · exact h2.one k2
  · exact absurd h1 k1
  · exact absurd k1 h1
  · exact ⟨rfl, rfl⟩
end Go.Proofs.Ytdhnhgppapkikaa

-- Part: A part of some bytes behind its count: the model's l3Part.
namespace Go.Proofs.Ytdhnhgppapkikaa
set_option maxRecDepth 20000
open Go.RowKit

/-- what stands behind the count at 'at', 'each' bytes a piece; where it ends. -/
def part (bs : List Int) (at_ : Int) (each : Nat) : List Int × Int :=
  if at_ < 0 ∨ (bs.length : Int) ≤ at_ then ([], -1)
  else if (bs.length : Int) < at_ + 1 + each * (bs[at_.toNat]?.getD 0) then ([], -1)
  else ((bs.drop (at_.toNat + 1)).take (each * (bs[at_.toNat]?.getD 0).toNat), at_ + 1 + each * (bs[at_.toNat]?.getD 0))
theorem Byts.part {w : World} {B n b off : Nat} {bs : List Int} (h : Byts w B (some ⟨b, off, none⟩) n bs) (lo len : Nat) (hl : lo + len ≤ n) : Byts w B (some ⟨b, off + lo, none⟩) len ((bs.drop lo).take len) := by
  refine ⟨?_, fun z hz => h.2.1 z (List.mem_of_mem_drop (List.mem_of_mem_take hz)), fun hp => ?_⟩
  · have := h.1
    simp; omega
  · obtain ⟨b', off', e, hb, hc⟩ := h.2.2 (by omega)
    cases e
    refine ⟨b, off + lo, rfl, hb, fun i hi => ?_⟩
    have := hc (lo + i) (by omega)
    rw [Nat.add_assoc, this]
    simp [hi]
theorem Byts.empty_at {w : World} {B : Nat} {A : Option Addr} : Byts w B A 0 [] := ⟨rfl, by simp, fun h => absurd h (by omega)⟩

theorem l3Part_any (A : Option Addr) (n c : Nat) (bs : List Int) (at_ : Int) (each : Nat) (B : Nat) (w : World) (hn : n ≤ 1048576) (hc : n ≤ c) (h1 : -1 ≤ at_) (h2 : at_ ≤ 1048576) (he : each ≤ 9) (hb : Byts w B A n bs) :
    Calls Try.prog 58 #[.slice A n c, .int .i64 at_, .int .i64 each] w fun e w' => ∃ A' n' c', e = .returned (.tuple #[.slice A' n' c', .int .i64 (part bs at_ each).2]) ∧ n' ≤ c' ∧ Byts w' B A' n' (part bs at_ each).1 ∧ Below w.heap.size w w' := by
  have HB := Lib.hid hb
  have hlen : bs.length = n := hb.1
  clear hb
  by_cases hneg : at_ < 0
  · have hp := Lib.hid (show part bs at_ each = ([], -1) from if_pos (Or.inl hneg))
    go_enter Try.func58, Try.ntmps58
    go_wp2
    go_ret2
    rw [hp.out]
    exact ⟨_, 0, 0, rfl, Nat.le_refl _, Byts.empty_at, (Below.refl _ _).alloc (Nat.le_refl _) _⟩
  obtain ⟨k, rfl⟩ : ∃ k : Nat, at_ = k := ⟨at_.toNat, by omega⟩
  by_cases hge : n ≤ k
  · have hp := Lib.hid (show part bs k each = ([], -1) from if_pos (Or.inr (by omega)))
    go_enter Try.func58, Try.ntmps58
    go_wp2
    go_ret2
    rw [hp.out]
    exact ⟨_, 0, 0, rfl, Nat.le_refl _, Byts.empty_at, (Below.refl _ _).alloc (Nat.le_refl _) _⟩
  obtain ⟨b, off, rfl, hbB, hcell⟩ := HB.out.at_ (k := k) (by omega)
  have hr := HB.out.range k
  have hx : bs[k]?.getD 0 = bs[((k : Nat) : Int).toNat]?.getD 0 := by simp
  obtain ⟨x, hxx⟩ : ∃ x : Nat, bs[k]?.getD 0 = x := ⟨(bs[k]?.getD 0).toNat, by omega⟩
  rw [hxx] at hcell hr
  have hmul : (each : Int) * (x : Int) ≤ 2295 := by
    have h1 : each * x ≤ 9 * 255 := Nat.mul_le_mul he (by omega)
    have h2 : each * x ≤ 2295 := h1
    rw [← Int.natCast_mul]
    omega
  have hmul0 : (0 : Int) ≤ (each : Int) * (x : Int) := by rw [← Int.natCast_mul]; omega
  by_cases hbig : (n : Int) < (k : Int) + 1 + each * x
  · have hp : part bs k each = ([], -1) := by
      unfold part
      rw [if_neg (by omega), ← hx, hxx, if_pos (by omega)]
    have HPP := Lib.hid hp
    have hd : decide ((n : Int) < (k : Int) + 1 + each * x) = true := decide_eq_true hbig
    clear hp hx hbig
    go_enter Try.func58, Try.ntmps58
    go_wp2
    go_ret2
    rw [HPP.out]
    exact ⟨_, 0, 0, rfl, Nat.le_refl _, Byts.empty_at, (Below.refl _ _).alloc (Nat.le_refl _) _⟩
  · have hp : part bs k each = ((bs.drop (k + 1)).take (each * x), (k : Int) + 1 + each * x) := by
      unfold part
      rw [if_neg (by omega), ← hx, hxx, if_neg (by omega)]
      simp
    have HPP := Lib.hid hp
    clear hp hx
    have hle : k + 1 + each * x ≤ n := by
      have : ((k + 1 + each * x : Nat) : Int) ≤ n := by push_cast; omega
      omega
    have hlo : (0 : Int) ≤ (k : Int) + 1 := by omega
    have hhi : (k : Int) + 1 ≤ (k : Int) + 1 + each * x := by omega
    have hcap : (k : Int) + 1 + each * x ≤ (c : Int) := by omega
    go_enter Try.func58, Try.ntmps58
    go_wp2
    · go_ret2
      rw [HPP.out]
      have hz : each * x = 0 := by omega
      exact ⟨_, _, _, rfl, by omega, by rw [hz, List.take_zero]; exact Byts.empty_at, Below.refl _ _⟩
    · go_ret2
      rw [HPP.out]
      exact ⟨_, _, _, rfl, by omega, (HB.out.part (k + 1) (each * x) hle).more (by omega), Below.refl _ _⟩
end Go.Proofs.Ytdhnhgppapkikaa

-- NodeR: Plain facts on the reading of a node: its parts, one behind the other; the kids, nine bytes each.
namespace Go.Proofs.Ytdhnhgppapkikaa
set_option maxRecDepth 20000
open Go.RowKit

/-- a part that is there: the count, the piece, what stands behind it. -/
theorem part_drop (bs ys : List Int) (at_ : Nat) (e : Int) (each : Nat) (hr : ∀ z ∈ bs, 0 ≤ z ∧ z ≤ 255) (h : part bs at_ each = (ys, e)) (he : 0 ≤ e) :
    at_ < bs.length ∧ bs.drop at_ = bs[at_]?.getD 0 :: ys ++ bs.drop e.toNat ∧ (ys.length : Int) = each * (bs[at_]?.getD 0) ∧ e = at_ + 1 + ys.length ∧ e ≤ bs.length := by
  unfold part at h
  split at h
  · cases h; omega
  · rename_i h0
    simp only [Int.toNat_natCast] at h
    have hat : at_ < bs.length := by omega
    have hx : 0 ≤ bs[at_]?.getD 0 ∧ bs[at_]?.getD 0 ≤ 255 := by rw [List.getElem?_eq_getElem hat]; exact hr _ (List.getElem_mem hat)
    split at h
    · cases h; omega
    · rename_i h1
      obtain ⟨x, hxx⟩ : ∃ x : Nat, bs[at_]?.getD 0 = x := ⟨(bs[at_]?.getD 0).toNat, by omega⟩
      rw [hxx] at h h1 ⊢
      simp only [Int.toNat_natCast, Prod.mk.injEq] at h
      obtain ⟨h2, h3⟩ := h
      have hle : at_ + 1 + each * x ≤ bs.length := by
        have : ((at_ + 1 + each * x : Nat) : Int) ≤ bs.length := by push_cast; omega
        omega
      have hyl : ys.length = each * x := by rw [← h2]; simp; omega
      have hce : ((each * x : Nat) : Int) = (each : Int) * (x : Int) := by push_cast; rfl
      refine ⟨hat, ?_, by rw [hyl, hce], by rw [← h3, hyl, hce], by omega⟩
      have he' : e.toNat = at_ + 1 + each * x := by omega
      rw [he', List.drop_eq_getElem_cons hat, ← h2]
      have hg : bs[at_] = (x : Int) := by rw [← hxx, List.getElem?_eq_getElem hat]; rfl
      rw [hg, List.cons_append]
      congr 1
      conv => lhs; rw [← List.take_append_drop (each * x) (bs.drop (at_ + 1))]
      rw [List.drop_drop]
/-- a part that stands there is read. -/
theorem part_of (bs ys rest : List Int) (at_ each : Nat) (x : Nat) (hat : at_ < bs.length) (h : bs.drop at_ = (x : Int) :: (ys ++ rest)) (hl : ys.length = each * x) : part bs at_ each = (ys, ((at_ + 1 + each * x : Nat) : Int)) := by
  have hlen : (bs.drop at_).length = 1 + ys.length + rest.length := by rw [h]; simp; omega
  rw [List.length_drop] at hlen
  have hx : bs[at_]?.getD 0 = x := by
    have h1 : (bs.drop at_)[0]? = some (x : Int) := by rw [h]; rfl
    rw [List.getElem?_drop, Nat.add_zero] at h1
    rw [h1]; rfl
  have hce : ((each * x : Nat) : Int) = (each : Int) * (x : Int) := by push_cast; rfl
  unfold part
  simp only [Int.toNat_natCast]
  rw [if_neg (by omega), hx, if_neg (by omega)]
  have hd : bs.drop (at_ + 1) = ys ++ rest := by
    have h1 : (bs.drop at_).drop 1 = ys ++ rest := by rw [h]; rfl
    rwa [List.drop_drop] at h1
  rw [hd]
  simp only [Int.toNat_natCast]
  rw [List.take_left' hl]
  simp only [Prod.mk.injEq, true_and]
  push_cast
  rfl
theorem part_end (bs : List Int) (at_ : Int) (each : Nat) : (part bs at_ each).2 = -1 ∨ at_ + 1 ≤ (part bs at_ each).2 ∧ 0 ≤ at_ ∨ (part bs at_ each).2 < at_ + 1 := by
  rcases Int.lt_or_le (part bs at_ each).2 (at_ + 1) with h | h
  · exact .inr (.inr h)
  · unfold part at h ⊢
    split
    · exact .inl rfl
    · split
      · exact .inl rfl
      · rename_i h0 h1
        rw [if_neg h0, if_neg h1] at h
        exact .inr (.inl ⟨h, by omega⟩)
theorem part_neg (bs : List Int) (each : Nat) : part bs (-1) each = ([], -1) := if_pos (Or.inl (by omega))
theorem part_range (bs : List Int) (hr : ∀ z ∈ bs, 0 ≤ z ∧ z ≤ 255) (at_ : Int) (each : Nat) : -1 ≤ (part bs at_ each).2 ∧ (part bs at_ each).2 ≤ bs.length := by
  unfold part
  split
  · simp
  · split
    · simp
    · rename_i h0 h1
      refine ⟨?_, by omega⟩
      have hat : at_.toNat < bs.length := by omega
      have hx : 0 ≤ bs[at_.toNat]?.getD 0 := by rw [List.getElem?_eq_getElem hat]; exact (hr _ (List.getElem_mem hat)).1
      have := Int.mul_nonneg (Int.natCast_nonneg each) hx
      show -1 ≤ at_ + 1 + _
      omega
theorem part_le (bs : List Int) (at_ : Int) (each : Nat) : (part bs at_ each).1.length ≤ bs.length := by
  unfold part
  split
  · simp
  · split
    · simp
    · simp only [List.length_take, List.length_drop]; omega

/-- the i-th kid that is written. -/
def kidOf (kb : List Int) (i : Nat) : Int × Int := (kb[9 * i]?.getD 0, leVal ((kb.drop (9 * i + 1)).take 8))
def kidsTo (kb : List Int) (q : Nat) : List (Int × Int) := (List.range q).map (kidOf kb)
def chunkOk (kb : List Int) (i : Nat) : Prop := kb[9 * i + 8]?.getD 0 ≤ (127 : Int)
theorem kidsTo_len (kb : List Int) (q : Nat) : (kidsTo kb q).length = q := by simp [kidsTo]
theorem kidsTo_step (kb : List Int) (q : Nat) : kidsTo kb (q + 1) = kidsTo kb q ++ [kidOf kb q] := by simp [kidsTo, List.range_succ]
theorem kidOf_drop (kb : List Int) (i : Nat) : kidOf kb (i + 1) = kidOf (kb.drop 9) i := by
  unfold kidOf
  rw [List.getElem?_drop, List.drop_drop, show 9 * (i + 1) = 9 + 9 * i by omega, show 9 + 9 * i + 1 = 9 + (9 * i + 1) by omega]
theorem kidsTo_drop (kb : List Int) (q : Nat) : kidsTo kb (q + 1) = kidOf kb 0 :: kidsTo (kb.drop 9) q := by
  unfold kidsTo
  rw [List.range_succ_eq_map, List.map_cons, List.map_map]
  congr 1
  apply List.map_congr_left
  intro i _
  exact kidOf_drop kb i
/-- the kids that are read are written as they were. -/
theorem kidsTo_back (q : Nat) (kb : List Int) (hr : ∀ z ∈ kb, 0 ≤ z ∧ z ≤ 255) (hl : kb.length = 9 * q) (hc : ∀ i, i < q → chunkOk kb i) : (kidsTo kb q).flatMap kidBytes = kb ∧ ∀ k ∈ kidsTo kb q, 0 ≤ k.2 ∧ k.2 ≤ 9223372036854775807 := by
  induction q generalizing kb with
  | zero =>
    have e : kb = [] := List.eq_nil_of_length_eq_zero (by omega)
    subst e
    exact ⟨rfl, by simp [kidsTo]⟩
  | succ q ih =>
    have h0 := hc 0 (by omega)
    obtain ⟨h1, h2⟩ := ih (kb.drop 9) (fun z hz => hr z (List.mem_of_mem_drop hz)) (by simp; omega) (fun i hi => by
      have := hc (i + 1) (by omega)
      unfold chunkOk at this ⊢
      rw [List.getElem?_drop, show 9 + (9 * i + 8) = 9 * (i + 1) + 8 by omega]
      exact this)
    rw [kidsTo_drop]
    have hcl : ((kb.drop 1).take 8).length = 8 := by simp; omega
    have hcr : ∀ z ∈ (kb.drop 1).take 8, 0 ≤ z ∧ z ≤ 255 := fun z hz => hr z (List.mem_of_mem_drop (List.mem_of_mem_take hz))
    have h7 : ((kb.drop 1).take 8)[7]?.getD 0 ≤ (127 : Int) := by
      unfold chunkOk at h0
      rw [List.getElem?_take_of_lt (by omega), List.getElem?_drop]
      exact h0
    have hb := bytes_of_back _ hcr hcl h7
    have hw := leW_yes _ hcr hcl h7
    refine ⟨?_, ?_⟩
    · rw [List.flatMap_cons, h1]
      have hk : kidBytes (kidOf kb 0) = kb.take 9 := by
        unfold kidBytes kidOf
        show kb[0]?.getD 0 % 256 :: nameBytes (leVal ((kb.drop 1).take 8)) = _
        rw [hb]
        have hkb : 0 < kb.length := by omega
        have hz := hr kb[0] (List.getElem_mem hkb)
        rw [List.getElem?_eq_getElem hkb]
        rcases kb with _ | ⟨z, r⟩
        · simp at hkb
        · simp at hz ⊢
          omega
      rw [hk, List.take_append_drop]
    · intro k hk
      rcases List.mem_cons.1 hk with rfl | hk
      · exact hw.2
      · exact h2 k hk
/-- what is written of kids is read as they. -/
theorem kidsTo_of (ks : List (Int × Int)) (h : ∀ k ∈ ks, ((0 ≤ k.1 ∧ k.1 ≤ 15) ∧ 1 ≤ k.2) ∧ k.2 ≤ 9223372036854775807) : (ks.flatMap kidBytes).length = 9 * ks.length ∧ kidsTo (ks.flatMap kidBytes) ks.length = ks ∧ ∀ i, i < ks.length → chunkOk (ks.flatMap kidBytes) i := by
  induction ks with
  | nil => exact ⟨rfl, rfl, fun i hi => by simp at hi⟩
  | cons x r ih =>
    have hx := h x (by simp)
    obtain ⟨h1, h2, h3⟩ := ih fun k hk => h k (by simp [hk])
    obtain ⟨hb1, hb2, hb3⟩ := back_of_bytes x.2 (by omega)
    have lx : (kidBytes x).length = 9 := by unfold kidBytes; simp [hb2]
    have hd : ((x :: r).flatMap kidBytes).drop 9 = r.flatMap kidBytes := by rw [List.flatMap_cons, List.drop_left' lx]
    refine ⟨by rw [List.flatMap_cons, List.length_append, lx, h1]; simp; omega, ?_, ?_⟩
    · rw [List.length_cons, kidsTo_drop, hd, h2]
      congr 1
      unfold kidOf
      rw [List.flatMap_cons]
      unfold kidBytes
      have e1 : (((x.1 % 256 :: nameBytes x.2) ++ r.flatMap kidBytes).drop (9 * 0 + 1)).take 8 = nameBytes x.2 := by
        show (nameBytes x.2 ++ r.flatMap kidBytes).take 8 = _
        exact List.take_left' hb2
      have e2 : x.1 % 256 = x.1 := by omega
      show (x.1 % 256, _) = x
      have e1' : leVal ((((x.1 % 256 :: nameBytes x.2) ++ r.flatMap (fun k => k.1 % 256 :: nameBytes k.2)).drop (9 * 0 + 1)).take 8) = x.2 := by
        have : (((x.1 % 256 :: nameBytes x.2) ++ r.flatMap (fun k => k.1 % 256 :: nameBytes k.2)).drop (9 * 0 + 1)).take 8 = nameBytes x.2 := by
          show (nameBytes x.2 ++ _).take 8 = _
          exact List.take_left' hb2
        rw [this, hb1]
      rw [e1', e2]
    · intro i hi
      rcases i with _ | i
      · unfold chunkOk
        rw [List.flatMap_cons, List.getElem?_append_left (by omega)]
        unfold kidBytes
        show (nameBytes x.2)[7]?.getD 0 ≤ 127
        exact hb3
      · have := h3 i (by simpa using hi)
        unfold chunkOk at this ⊢
        rw [← hd, List.getElem?_drop] at this
        rw [show 9 * (i + 1) + 8 = 9 + (9 * i + 8) by omega]
        exact this

theorem part_some (bs ys : List Int) (at_ e : Int) (each : Nat) (h : part bs at_ each = (ys, e)) (he : 0 ≤ e) : 0 ≤ at_ := by
  rcases Int.lt_or_le at_ 0 with h0 | h0
  · have : part bs at_ each = ([], -1) := if_pos (Or.inl h0)
    rw [this] at h
    cases h
    omega
  · exact h0
/-- all parts are there, up to the end. -/
theorem parts_all (bs r1 r2 r3 : List Int) (e1 e2 : Int) (hr : ∀ z ∈ bs, 0 ≤ z ∧ z ≤ 255) (h1 : part bs ((1 : Nat) : Int) 1 = (r1, e1)) (h2 : part bs e1 1 = (r2, e2)) (h3 : part bs e2 9 = (r3, (bs.length : Int))) (hl : 0 < bs.length) :
    ∃ q : Nat, bs = bs[0]?.getD 0 :: (r1.length : Int) :: (r1 ++ ((r2.length : Int) :: (r2 ++ ((q : Int) :: r3)))) ∧ r3.length = 9 * q := by
  have p2 := part_some _ _ _ _ _ h3 (by omega)
  have p1 := part_some _ _ _ _ _ h2 p2
  obtain ⟨k1, rfl⟩ : ∃ k : Nat, e1 = k := ⟨e1.toNat, by omega⟩
  obtain ⟨k2, rfl⟩ : ∃ k : Nat, e2 = k := ⟨e2.toNat, by omega⟩
  obtain ⟨a1, a2, a3, a4, a5⟩ := part_drop bs r1 1 k1 1 hr h1 (by omega)
  obtain ⟨b1, b2, b3, b4, b5⟩ := part_drop bs r2 k1 k2 1 hr h2 (by omega)
  obtain ⟨c1, c2, c3, c4, c5⟩ := part_drop bs r3 k2 bs.length 9 hr h3 (by omega)
  simp only [Int.toNat_natCast] at a2 b2 c2
  rw [List.drop_length, List.append_nil] at c2
  have hx : ∀ k : Nat, (0 : Int) ≤ bs[k]?.getD 0 := fun k => (mem_at bs hr k).1
  have h0 : bs = bs[0]?.getD 0 :: bs.drop 1 := by
    rcases bs with _ | ⟨z, r⟩
    · simp at hl
    · rfl
  refine ⟨(bs[k2]?.getD 0).toNat, ?_, by have := hx k2; omega⟩
  have e1 : (r1.length : Int) = bs[1]?.getD 0 := by omega
  have e2 : (r2.length : Int) = bs[k1]?.getD 0 := by omega
  have e3 : ((bs[k2]?.getD 0).toNat : Int) = bs[k2]?.getD 0 := by have := hx k2; omega
  rw [e1, e2, e3]
  conv => lhs; rw [h0, a2, b2, c2]
  simp
/-- the node that is read of the parts. -/
def nodeOf (bs r1 r2 r3 : List Int) (q : Nat) : MNode := ⟨bs[0]?.getD 0, r1, kidsTo r3 q, strOfNums r2⟩
theorem read_back (bs r1 r2 r3 : List Int) (q : Nat) (hr : ∀ z ∈ bs, 0 ≤ z ∧ z ≤ 255) (h : bs = bs[0]?.getD 0 :: (r1.length : Int) :: (r1 ++ ((r2.length : Int) :: (r2 ++ ((q : Int) :: r3))))) (h3 : r3.length = 9 * q) (hc : ∀ i, i < q → chunkOk r3 i) :
    rawBytes (nodeOf bs r1 r2 r3 q) = bs ∧ NodeWf (nodeOf bs r1 r2 r3 q) := by
  have m : ∀ z, z ∈ (bs[0]?.getD 0 :: (r1.length : Int) :: (r1 ++ ((r2.length : Int) :: (r2 ++ ((q : Int) :: r3))))) → 0 ≤ z ∧ z ≤ 255 := fun z hz => hr z (by rw [h]; exact hz)
  have b0 := m (bs[0]?.getD 0) (by simp)
  have b1 := m (r1.length : Int) (by simp)
  have b2 := m (r2.length : Int) (by simp)
  have bq := m (q : Int) (by simp)
  have c1 : ∀ z ∈ r1, 0 ≤ z ∧ z ≤ 255 := fun z hz => m z (by simp [hz])
  have c2 : ∀ z ∈ r2, 0 ≤ z ∧ z ≤ 255 := fun z hz => m z (by simp [hz])
  have c3 : ∀ z ∈ r3, 0 ≤ z ∧ z ≤ 255 := fun z hz => m z (by simp [hz])
  obtain ⟨k1, k2⟩ := kidsTo_back q r3 c3 h3 hc
  have e1 : r1.map (· % 256) = r1 := by
    conv => rhs; rw [← List.map_id r1]
    apply List.map_congr_left
    intro z hz
    have := c1 z hz
    simp; omega
  refine ⟨?_, fun k hk => (k2 k hk).2⟩
  unfold rawBytes nodeOf
  simp only [kidsTo_len, sb_str r2 c2, strOfNums_size, k1, e1]
  conv => rhs; rw [h]
  have d0 : bs[0]?.getD 0 % 256 = bs[0]?.getD 0 := by omega
  have d1 : (r1.length : Int) % 256 = r1.length := by omega
  have d2 : (r2.length : Int) % 256 = r2.length := by omega
  have d3 : (q : Int) % 256 = q := by omega
  rw [d0, d1, d2, d3]
  simp
/-- what a right node writes is read part by part. -/
theorem read_of (nd : MNode) (bs : List Int) (h : nodeOk nd = true) (hw : NodeWf nd) (he : nodeBytes nd = bs) :
    ∃ e1 e2 r3, part bs ((1 : Nat) : Int) 1 = (nd.path, e1) ∧ part bs e1 1 = (sb nd.val, e2) ∧ part bs e2 9 = (r3, (bs.length : Int)) ∧ bs ≠ [] ∧ bs[0]?.getD 0 = nd.kind ∧ r3.length = 9 * nd.kids.length ∧ kidsTo r3 nd.kids.length = nd.kids ∧ ∀ i, i < nd.kids.length → chunkOk r3 i := by
  have pa := (isPath_iff _).1 (nodeOk_parts nd h).1
  have ka := nodeOk_kind nd h
  have va := nodeOk_val nd h
  have ca := (nodeOk_parts nd h).2.1
  have na := kidsOk_len _ ca
  obtain ⟨k1, k2, k3⟩ := kidsTo_of nd.kids (fun k hk => ⟨kidsOk_mem _ ca k hk, hw k hk⟩)
  have hsb := sb_len nd.val
  have hbs : bs = nd.kind :: (nd.path.length : Int) :: (nd.path ++ ((nd.val.size : Int) :: (sb nd.val ++ ((nd.kids.length : Int) :: nd.kids.flatMap kidBytes)))) := by
    rw [← he]
    unfold nodeBytes
    rw [if_pos h]
    unfold rawBytes
    rw [map_mod nd.path pa.2]
    have d0 : nd.kind % 256 = nd.kind := by omega
    have d1 : (nd.path.length : Int) % 256 = nd.path.length := by omega
    have d2 : (nd.val.size : Int) % 256 = nd.val.size := by omega
    have d3 : (nd.kids.length : Int) % 256 = nd.kids.length := by omega
    rw [d0, d1, d2, d3]
    simp
  have hl : bs.length = 4 + nd.path.length + nd.val.size + 9 * nd.kids.length := by rw [hbs]; simp [hsb, k1]; omega
  have D1 : bs.drop 1 = (nd.path.length : Int) :: (nd.path ++ ((nd.val.size : Int) :: (sb nd.val ++ ((nd.kids.length : Int) :: nd.kids.flatMap kidBytes)))) := by rw [hbs]; rfl
  have D2 : bs.drop (2 + nd.path.length) = (nd.val.size : Int) :: (sb nd.val ++ ((nd.kids.length : Int) :: nd.kids.flatMap kidBytes)) := by
    rw [show 2 + nd.path.length = 1 + (1 + nd.path.length) by omega, ← List.drop_drop, D1, show 1 + nd.path.length = nd.path.length + 1 by omega, List.drop_succ_cons, List.drop_left]
  have D3 : bs.drop (3 + nd.path.length + nd.val.size) = (nd.kids.length : Int) :: (nd.kids.flatMap kidBytes ++ []) := by
    rw [show 3 + nd.path.length + nd.val.size = (2 + nd.path.length) + (nd.val.size + 1) by omega, ← List.drop_drop, D2, List.drop_succ_cons, ← hsb, List.drop_left, List.append_nil]
  have q1 := part_of bs _ _ 1 1 nd.path.length (by omega) D1 (by omega)
  have q2 := part_of bs _ _ (2 + nd.path.length) 1 nd.val.size (by omega) D2 (by omega)
  have q3 := part_of bs _ _ (3 + nd.path.length + nd.val.size) 9 nd.kids.length (by omega) D3 (by omega)
  have t1 : 1 + 1 + 1 * nd.path.length = 2 + nd.path.length := by omega
  have t2 : 2 + nd.path.length + 1 + 1 * nd.val.size = 3 + nd.path.length + nd.val.size := by omega
  have t3 : 3 + nd.path.length + nd.val.size + 1 + 9 * nd.kids.length = bs.length := by omega
  rw [t1] at q1
  rw [t2] at q2
  rw [t3] at q3
  exact ⟨_, _, _, q1, q2, q3, by rw [hbs]; simp, by rw [hbs]; rfl, k1, k2, k3⟩
/-- what the parts say of a reading. -/
theorem none_empty (bs : List Int) (hl : bs.length = 0) : NodeRead bs node0 false := .inr ⟨rfl, rfl, fun nd h1 h2 h3 => by
  obtain ⟨_, _, _, _, _, _, h, _⟩ := read_of nd bs h1 h2 h3
  exact h (List.eq_nil_of_length_eq_zero hl)⟩
section
variable {bs r1 r2 r3 : List Int} {e1 e2 e3 : Int} {q : Nat}
theorem none_end (p1 : part bs ((1 : Nat) : Int) 1 = (r1, e1)) (p2 : part bs e1 1 = (r2, e2)) (p3 : part bs e2 9 = (r3, e3)) (he : e3 ≠ bs.length) : NodeRead bs node0 false := .inr ⟨rfl, rfl, fun nd h1 h2 h3 => by
  obtain ⟨f1, f2, r, q1, q2, q3, _⟩ := read_of nd bs h1 h2 h3
  rw [p1] at q1
  cases q1
  rw [p2] at q2
  cases q2
  rw [p3] at q3
  cases q3
  exact he rfl⟩
theorem parts_are (p1 : part bs ((1 : Nat) : Int) 1 = (r1, e1)) (p2 : part bs e1 1 = (r2, e2)) (p3 : part bs e2 9 = (r3, (bs.length : Int))) (hl : r3.length = 9 * q) (nd : MNode) (h1 : nodeOk nd = true) (h2 : NodeWf nd) (h3 : nodeBytes nd = bs) :
    nodeOf bs r1 r2 r3 q = nd ∧ ∀ i, i < q → chunkOk r3 i := by
  obtain ⟨f1, f2, r, q1, q2, q3, _, k0, kl, kk, kc⟩ := read_of nd bs h1 h2 h3
  rw [p1] at q1
  cases q1
  rw [p2] at q2
  cases q2
  rw [p3] at q3
  cases q3
  obtain rfl : q = nd.kids.length := by omega
  refine ⟨?_, kc⟩
  unfold nodeOf
  rw [k0, kk, str_sb]
theorem none_chunk (p1 : part bs ((1 : Nat) : Int) 1 = (r1, e1)) (p2 : part bs e1 1 = (r2, e2)) (p3 : part bs e2 9 = (r3, (bs.length : Int))) (hl : r3.length = 9 * q) (i : Nat) (hi : i < q) (hc : ¬ chunkOk r3 i) : NodeRead bs node0 false :=
  .inr ⟨rfl, rfl, fun nd h1 h2 h3 => hc ((parts_are p1 p2 p3 hl nd h1 h2 h3).2 i hi)⟩
theorem none_bad (p1 : part bs ((1 : Nat) : Int) 1 = (r1, e1)) (p2 : part bs e1 1 = (r2, e2)) (p3 : part bs e2 9 = (r3, (bs.length : Int))) (hl : r3.length = 9 * q) (hb : nodeOk (nodeOf bs r1 r2 r3 q) = false) : NodeRead bs node0 false :=
  .inr ⟨rfl, rfl, fun nd h1 h2 h3 => by rw [(parts_are p1 p2 p3 hl nd h1 h2 h3).1, h1] at hb; cases hb⟩
end
theorem yes_read (bs r1 r2 r3 : List Int) (q : Nat) (hr : ∀ z ∈ bs, 0 ≤ z ∧ z ≤ 255) (h : bs = bs[0]?.getD 0 :: (r1.length : Int) :: (r1 ++ ((r2.length : Int) :: (r2 ++ ((q : Int) :: r3))))) (h3 : r3.length = 9 * q) (hc : ∀ i, i < q → chunkOk r3 i) (ok : nodeOk (nodeOf bs r1 r2 r3 q) = true) :
    NodeRead bs (nodeOf bs r1 r2 r3 q) true := by
  obtain ⟨k1, k2⟩ := read_back bs r1 r2 r3 q hr h h3 hc
  exact .inl ⟨rfl, ok, k2, by unfold nodeBytes; rw [if_pos ok]; exact k1⟩
end Go.Proofs.Ytdhnhgppapkikaa

-- Conv: A slice of bytes turned into a text: the text of just these bytes.
namespace Go.Proofs.Ytdhnhgppapkikaa
set_option maxRecDepth 20000
open Go.RowKit

theorem conv_bytes (A : Option Addr) (n c : Nat) (zs : List Int) (B : Nat) (w : World) (hb : Byts w B A n zs) :
    (convert 43 9 (.slice A n c)).run Try.prog w = .ok (.string (strOfNums zs)) w := by
  rcases Nat.eq_zero_or_pos n with h0 | hp
  · subst h0
    have hz : zs = [] := List.eq_nil_of_length_eq_zero hb.1
    subst hz
    rcases A with _ | a
    · exact run_convert_bytes_nil w _ _ Try.underlying43 Try.underlying5 0 c _ Try.underlying9
    · rw [run_convert_bytes_string w _ _ _ (some a) 0 c Try.underlying43 Try.underlying5 Try.underlying9]
      have hl : (loadCells a 0).run Try.prog w = .ok ([].map (Value.int .u8)).toArray w := by
        have := run_loadCells_list (P := Try.prog) w a [] (fun j v hj => by simp at hj)
        simpa using this
      rw [run_bytesToString w a 0 c [] hl]
      rfl
  · obtain ⟨b, off, rfl, _, hc⟩ := hb.2.2 hp
    exact run_convert_bytes_arg w _ _ Try.underlying43 Try.underlying5 b off n c zs hb.1 hc _ Try.underlying9

end Go.Proofs.Ytdhnhgppapkikaa

-- NodeF: What the model's NodeFrom reads of some bytes.
namespace Go.Proofs.Ytdhnhgppapkikaa
set_option maxRecDepth 20000
open Go.RowKit

/-- the node that is none, as a value. -/
def node0V : Value := .agg #[.int .i64 0, .slice none 0 0, .slice none 0 0, .string { data := #[] }]
theorem node0_own (w : World) (base : Nat) : OwnN w base node0V node0 :=
  ⟨none, 0, 0, none, 0, 0, rfl, by omega, by omega, by decide, OwnI.nil _ _, OwnK.nil _ _, fun g hg => by simp [Value.ownBlock] at hg⟩
set_option maxHeartbeats 1600000 in
theorem specNodeFrom_any (A : Option Addr) (n c : Nat) (bs : List Int) (B : Nat) (w : World) (hn : n ≤ 1048576) (hc : n ≤ c) (hB : B ≤ w.heap.size) (hb : Byts w B A n bs) :
    Calls Try.prog 38 #[.slice A n c] w fun e w' => ∃ v nd b, e = .returned (.tuple #[v, .bool b]) ∧ OwnN w' w.heap.size v nd ∧ NodeRead bs nd b ∧ Below w.heap.size w w' := by
  have HB := Lib.hid (hb.more hB)
  have hlen : bs.length = n := hb.1
  have hr := hb.2.1
  clear hb
  obtain ⟨w1, hw1⟩ : ∃ w1, w.alloc (.cells #[.int .i64 0, .slice none 0 0, .slice none 0 0, .string { data := #[] }] 35) = w1 := ⟨_, rfl⟩
  have x1 : Box w1 w.heap.size _ _ := hw1 ▸ heap_alloc_new _ _
  have s1 : w1.heap.size = w.heap.size + 1 := hw1 ▸ by simp
  have b1 : Below w.heap.size w w1 := hw1 ▸ (Below.refl _ _).alloc (Nat.le_refl _) _
  have X1 := Lib.hid x1
  have B1 := Lib.hid b1
  have HW := Lib.hid hw1
  clear x1 b1 hw1
  by_cases h0 : n = 0
  · have q10 := X1.out.cell 0
    have q11 := X1.out.cell 1
    have q12 := X1.out.cell 2
    have q13 := X1.out.cell 3
    have f1 := X1.out.free
    simp at q10 q11 q12 q13
    subst h0
    go_enter Try.func38, Try.ntmps38
    go_wp2_with fail
    rw [HW.out]
    refine bodyPost_ret (v := .tuple #[node0V, .bool false]) (results_box2 Try.results38 _ _ w.heap.size _ _ _ _ rfl rfl X1.out Try.underlying35 rfl (by kernel_rfl)) rfl ?_
    exact ⟨_, node0, false, rfl, node0_own _ _, none_empty bs hlen, B1.out⟩
  obtain ⟨r1, e1, hp1⟩ : ∃ r1 e1, part bs ((1 : Nat) : Int) 1 = (r1, e1) := ⟨_, _, rfl⟩
  have g1 := part_range bs hr ((1 : Nat) : Int) 1
  obtain ⟨r2, e2, hp2⟩ : ∃ r2 e2, part bs e1 1 = (r2, e2) := ⟨_, _, rfl⟩
  have g2 := part_range bs hr e1 1
  obtain ⟨r3, e3, hp3⟩ : ∃ r3 e3, part bs e2 9 = (r3, e3) := ⟨_, _, rfl⟩
  have g3 := part_range bs hr e2 9
  rw [hp1] at g1
  rw [hp2] at g2
  rw [hp3] at g3
  have P1 := Lib.hid hp1
  have P2 := Lib.hid hp2
  have P3 := Lib.hid hp3
  have hd0 : decide ((n : Int) = 0) = false := decide_eq_false (by omega)
  simp only [hlen] at g1 g2 g3
  clear hp1 hp2 hp3
  go_enter Try.func38, Try.ntmps38
  go_wp2_with fail
  rw [HW.out]
  refine (l3Part_any A n c bs ((1 : Nat) : Int) 1 _ w1 hn hc (by omega) (by omega) (by omega) (HB.out.below B1.out)).mono ?_
  rintro e w2 ⟨A2, n2, c2, rfl, hc2, y2, b2⟩
  rw [P1.out] at y2 ⊢
  have Y2 := Lib.hid y2
  have X1 := Lib.hid (X1.out.below b2 (by omega))
  have B2 := Lib.hid (B1.out.trans (b2.mono (by omega)))
  have s2 := b2.size
  clear b2 y2
  go_wp2_with fail
  refine (l3Part_any A n c bs e1 1 _ w2 hn hc (by omega) (by omega) (by omega) (HB.out.below B2.out)).mono ?_
  rintro e w3 ⟨A3, n3, c3, rfl, hc3, y3, b3⟩
  rw [P2.out] at y3 ⊢
  have Y3 := Lib.hid y3
  have Y2 := Lib.hid (Y2.out.below (b3.mono (by omega)))
  have X1 := Lib.hid (X1.out.below b3 (by omega))
  have B3 := Lib.hid (B2.out.trans (b3.mono (by omega)))
  have s3 := b3.size
  clear b3 y3
  go_wp2_with fail
  refine (l3Part_any A n c bs e2 9 _ w3 hn hc (by omega) (by omega) (by omega) (HB.out.below B3.out)).mono ?_
  rintro e w4 ⟨A4, n4, c4, rfl, hc4, y4, b4⟩
  rw [P3.out] at y4 ⊢
  have Y4 := Lib.hid y4
  have Y3 := Lib.hid (Y3.out.below (b4.mono (by omega)))
  have Y2 := Lib.hid (Y2.out.below (b4.mono (by omega)))
  have X1 := Lib.hid (X1.out.below b4 (by omega))
  have B4 := Lib.hid (B3.out.trans (b4.mono (by omega)))
  have s4 := b4.size
  clear b4 y4
  by_cases hk : e3 = n
  · subst hk
    obtain ⟨bk, off, rfl, hbB, hc0⟩ := (HB.out.below B4.out).at_ (k := 0) (by omega)
    have hr0 := (HB.out.below B4.out).range 0
    rw [Nat.add_zero] at hc0
    have hcv : ∀ W, Below w4.heap.size w4 W → (convert 43 9 (.slice A3 n3 c3)).run Try.prog W = .ok (.string (strOfNums r2)) W := fun W hW => conv_bytes A3 n3 c3 r2 _ W (Y3.out.below (hW.mono (by omega)))
    generalize hb0 : bs[0]?.getD 0 = z0 at hc0 hr0
    have Z0 := Lib.hid hb0
    clear hb0
    have hc0' : ∀ W, Below w4.heap.size w4 W → W.cell? ⟨bk, off, none⟩ = some (.int .u8 z0) := fun W hW => (hW.cell (p := ⟨bk, off, none⟩) (by show bk < w4.heap.size; omega)).trans hc0
    clear hc0
    have hpos : (0 : Int) < (n : Int) := by omega
    have hia : ∀ W : World, (Instr.indexAt 43 (.slice (some ⟨bk, off, none⟩) n c) (.int .i64 0)).run Try.prog W = .ok (.pointer (some ⟨bk, off, none⟩)) W := fun W => by go_simp
    have hwz : IntKind.i64.wrap z0 = z0 := by rw [IntKind.wrap_i64]; omega
    go_wp2
    go_region_held3 (fun W => Below w4.heap.size w4 W) (first | exact (Below.refl _ _).drew | exact ((Below.refl _ _).alloc (Nat.le_refl _) _).drew | assumption)
      (first | (fail))
    clear hcv hc0' hia
    have x5 : Box (w4.alloc (.cells #[.int .i64 z0, .slice none 0 0, .slice none 0 0, .string (strOfNums r2)] 35)).drew w4.heap.size _ _ := heap_alloc_new _ _
    have b5 : Below w4.heap.size w4 (w4.alloc (.cells #[.int .i64 z0, .slice none 0 0, .slice none 0 0, .string (strOfNums r2)] 35)).drew := ((Below.refl _ _).alloc (Nat.le_refl _) _).drew
    have s5 : (w4.alloc (.cells #[.int .i64 z0, .slice none 0 0, .slice none 0 0, .string (strOfNums r2)] 35)).drew.heap.size = w4.heap.size + 1 := by simp
    generalize (w4.alloc (.cells #[.int .i64 z0, .slice none 0 0, .slice none 0 0, .string (strOfNums r2)] 35)).drew = w5 at x5 b5 s5
    have X5 := Lib.hid x5
    have B5 := Lib.hid b5
    clear x5 b5
    obtain ⟨i0, hi, hz0, hz1, hz2⟩ := info_parts Try.infoI
    obtain ⟨iK, hki, hk0, hk1, hk2⟩ := info_parts Try.infoK
    have HK := Lib.hid hki
    have HK0 := Lib.hid hk0
    have HK1 := Lib.hid hk1
    have HK2 := Lib.hid hk2
    clear hki hk0 hk1 hk2
    have HI := Lib.hid hi
    have HZ0 := Lib.hid hz0
    have HZ1 := Lib.hid hz1
    have HZ2 := Lib.hid hz2
    clear hi hz0 hz1 hz2
    have L2 : Hid (r1.length = n2) := Y2.out.1
    have L3 : Hid (r3.length = n4) := Y4.out.1
    have hn4 : n4 ≤ 1048576 := by have := part_le bs e2 9; rw [P3.out, hlen] at this; have := L3.out; simp only at *; omega
    have L4 : Hid (r2.length = n3) := Y3.out.1
    have hn3 : r2.length ≤ 1048576 := by have := part_le bs e1 1; rw [P2.out, hlen] at this; simp only at *; omega
    have hn2 : n2 ≤ 1048576 := by have := part_le bs ((1 : Nat) : Int) 1; rw [P1.out, hlen] at this; have := L2.out; simp only at *; omega
    go_wp2
    go_loopw [11] (fun x wr => ∃ k : Nat, ∃ Ap cp, k ≤ n2 ∧ x = .int .i64 k ∧ OwnI wr (w4.heap.size + 1) Ap k cp (r1.take k) ∧ Box wr w4.heap.size 35 #[.int .i64 z0, .slice Ap k cp, .slice none 0 0, .string (strOfNums r2)] ∧ Below w4.heap.size w4 wr) (fun x _ => n2 - (intOf x).toNat)
    case atStart => exact ⟨0, none, 0, Nat.zero_le _, rfl, OwnI.nil _ _, X5.out, B5.out⟩
    case round =>
      obtain ⟨k, Ap, cp, hk2, rfl, hown, hbox, hbr⟩ := hrel
      have MR := Lib.hid hown
      have XR := Lib.hid hbox
      have BR := Lib.hid hbr
      clear hown hbox hbr
      by_cases hlt : k < n2
      · obtain ⟨b, o, rfl, hbb, hc0⟩ := (Y2.out.below (BR.out.mono (by omega))).at_ hlt
        have hrr := (Y2.out.below (BR.out.mono (by omega))).range k
        have hst := take_step r1 k (by rw [L2.out]; exact hlt)
        generalize r1[k]?.getD 0 = z at hc0 hrr hst
        have HST := Lib.hid hst
        clear hst
        have q1 := XR.out.cell 1
        have f1 := XR.out.free 1
        simp at q1
        have hwz2 : IntKind.i64.wrap z = z := by rw [IntKind.wrap_i64]; omega
        go_wp2
        have HO : Hid (∀ W, Below wr.heap.size wr W → OwnI W (w4.heap.size + 1) Ap k cp (r1.take k)) := fun W hb => MR.out.below hb
        have lx := XR.out.lt
        have hk := L2.out
        go_region_law (first
          | (refine step_append_lies _ rfl _ _ 23 rfl (w4.heap.size + 1) 2 i0 (.int .i64 0) 1 8 Try.underlying23 HI.out HZ0.out HZ1.out HZ2.out rfl (by decide) (.slice Ap k cp) k ((r1.take k).map (Value.int .i64)) (by simp [Act.eval]) (HO.out _ (((Below.refl _ _).alloc (Nat.le_refl _) _).drew)) ⟨wr.heap.size, 0, none⟩ 1 1 ([z].map (Value.int .i64)) (by simp [Act.eval]) rfl (by
              intro j u hj
              match j, hj with
              | 0, hj => simp at hj; subst hj; simp [Addr.add]) (by intro u hu; simp at hu; subst hu; rfl) (by omega) (by unfold maxLen; omega) (by omega) (by simp; omega) _ rfl ?_
             intro g6 c6 w6 hown6 hgrow6 _ _
             have x6 : Box w6 w4.heap.size _ _ := ((hgrow6.block w4.heap.size (by simp; omega) (fun e => by have := (World.ownsRow.lt MR.out _ e.symm).1; omega)).trans (heap_alloc_old _ _ lx)).trans XR.out
             have q6 := x6.cell 1
             have f6 := x6.free 1
             simp at q6))
        all_goals
          have b6 : Below w4.heap.size w4 w6 := ((BR.out.alloc (by omega) _).drew).grown hgrow6 (by simp; omega) (fun g hg => by have := (World.ownsRow.lt MR.out g hg).1; omega)
          go_wp2
          go_roundw
          case rel =>
            refine ⟨k + 1, some ⟨g6, 0, none⟩, c6, by omega, by go_num, ?_, by simpa using x6.set_ 1 _, b6.trans (grown_below (grown_set w6 _ 1 _) b6.size (Nat.le_refl _))⟩
            rw [HST.out]
            unfold OwnI
            rw [List.map_append]
            exact own_touch hown6 (touch_set (S := fun x => x = w4.heap.size) w6 _ 1 _ rfl) (fun g hg e => by have := (World.ownsRow.lt hown6 g hg).1; omega)
          case measure => simp [intOf]; omega
      · obtain rfl : k = n2 := by omega
        have hst : r1.take k = r1 := List.take_of_length_le (by rw [L2.out]; exact Nat.le_refl _)
        have MP : Hid (OwnI wr (w4.heap.size + 1) Ap k cp r1) := by rw [← hst]; exact MR.out
        clear MR hst
        have hp3 := P3.out
        rw [← hlen] at hp3
        have hl4 := L3.out
        obtain ⟨q0, hq, hq3⟩ := parts_all bs r1 r2 r3 e1 e2 hr P1.out P2.out hp3 (by omega)
        have HQ := Lib.hid hq
        clear hq hp3
        go_wp2
        go_loopw [12] (fun x wr => ∃ q m : Nat, ∃ Ak ck, q ≤ q0 ∧ m = 9 * q ∧ x = .int .i64 m ∧ OwnK wr (w4.heap.size + 1) Ak q ck (kidsTo r3 q) ∧ OwnI wr (w4.heap.size + 1) Ap k cp r1 ∧ (∀ g, (Value.slice Ap k cp).ownBlock = some g → (Value.slice Ak q ck).ownBlock ≠ some g) ∧
          Box wr w4.heap.size 35 #[.int .i64 z0, .slice Ap k cp, .slice Ak q ck, .string (strOfNums r2)] ∧ Below w4.heap.size w4 wr ∧ ∀ i, i < q → chunkOk r3 i) (fun x _ => n4 - (intOf x).toNat)
        case atStart => exact ⟨0, 0, none, 0, Nat.zero_le _, rfl, rfl, OwnK.nil _ _, MP.out, by simp [Value.ownBlock], XR.out, BR.out, fun i hi => absurd hi (by omega)⟩
        case round =>
          obtain ⟨q, m, Ak, ck, hqq, hm, rfl, hown, howp, hdis, hbox, hbr, hchk⟩ := hrel
          have MK := Lib.hid hown
          have MP := Lib.hid howp
          have HD := Lib.hid hdis
          have XR := Lib.hid hbox
          have BR := Lib.hid hbr
          have HC := Lib.hid hchk
          clear hown howp hdis hbox hbr hchk
          have hmm : q < q0 → m + 9 ≤ n4 := fun h => by omega
          have hmm' : ¬ q < q0 → m = n4 := fun h => by omega
          have HM := Lib.hid hm
          clear hm
          by_cases hlt : q < q0
          · have hm9 := hmm hlt
            obtain ⟨b, o, rfl, hbb, hc0⟩ := (Y4.out.below (BR.out.mono (by omega))).at_ (k := m) (by omega)
            have hrr := Y4.out.range m
            have hlo : (0 : Int) ≤ (m : Int) + 1 := by omega
            have hhi : (m : Int) + 1 ≤ (m : Int) + 9 := by omega
            have hcap : (m : Int) + 9 ≤ (c4 : Int) := by omega
            have yb := (Y4.out.below (BR.out.mono (by omega))).part (m + 1) 8 (by omega)
            have h8 : ((r3.drop (m + 1)).take 8)[7]?.getD 0 = r3[m + 8]?.getD 0 := by rw [List.getElem?_take_of_lt (by omega), List.getElem?_drop]
            clear hmm hmm'
            by_cases h7 : r3[m + 8]?.getD 0 ≤ (127 : Int)
            · have hko : kidsTo r3 (q + 1) = kidsTo r3 q ++ [(r3[m]?.getD 0, leVal ((r3.drop (m + 1)).take 8))] := by rw [kidsTo_step]; unfold kidOf; rw [HM.out]
              have hco : chunkOk r3 q := by unfold chunkOk; rw [← HM.out]; exact h7
              generalize r3[m]?.getD 0 = z at hc0 hrr hko
              have hwz2 : IntKind.i64.wrap z = z := by rw [IntKind.wrap_i64]; omega
              go_wp2_with fail
              refine (specFrom_yes _ _ _ w.heap.size wr yb (by rw [h8]; exact h7)).mono ?_
              rintro e _ ⟨rfl, rfl⟩
              generalize leVal ((r3.drop (m + 1)).take 8) = nm at hko
              have HKO := Lib.hid hko
              have HCO := Lib.hid hco
              clear hko hco yb h8
              have q1 := XR.out.cell 2
              have f1 := XR.out.free 2
              simp at q1
              go_wp2_with fail
              have HO : Hid (∀ W, Below wr.heap.size wr W → OwnK W (w4.heap.size + 1) Ak q ck (kidsTo r3 q)) := fun W hb => MK.out.below hb
              have lx := XR.out.lt
              go_region_law (first
                | (refine step_append_lies _ rfl _ _ 33 rfl (w4.heap.size + 1) 79 iK (.agg #[.int .i64 0, .int .i64 0]) 2 16 Try.underlying33 HK.out HK0.out HK1.out HK2.out rfl (by decide) (.slice Ak q ck) q ((kv (kidsTo r3 q)).map (Value.int .i64)) (by simp [Act.eval]) (HO.out _ (((Below.refl _ _).alloc (Nat.le_refl _) _).drew)) ⟨wr.heap.size, 0, none⟩ 1 1 ([z, nm].map (Value.int .i64)) (by simp [Act.eval]) rfl (by
                    intro j u hj
                    match j, hj with
                    | 0, hj => simp at hj; subst hj; simp [Addr.add]
                    | 1, hj => simp at hj; subst hj; simp [Addr.add]) (by intro u hu; simp at hu; rcases hu with rfl | rfl <;> rfl) (by omega) (by unfold maxLen; omega) (by omega) (by simp; omega) _ rfl ?_
                   intro g6 c6 w6 hown6 hgrow6 hwh6 _
                   have x6 : Box w6 w4.heap.size _ _ := ((hgrow6.block w4.heap.size (by simp; omega) (fun e => by have := (World.ownsRow.lt MK.out _ e.symm).1; omega)).trans (heap_alloc_old _ _ lx)).trans XR.out
                   have q6 := x6.cell 2
                   have f6 := x6.free 2
                   simp at q6))
              all_goals
                have b6 : Below w4.heap.size w4 w6 := ((BR.out.alloc (by omega) _).drew).grown hgrow6 (by simp; omega) (fun g hg => by have := (World.ownsRow.lt MK.out g hg).1; omega)
                have m6 : OwnI w6 (w4.heap.size + 1) Ap k cp r1 := OwnI.touch (OwnI.touch MP.out (Touch.of_below ((Below.refl _ _).alloc (Nat.le_refl _) _).drew : Touch (fun _ => False) wr _) (fun _ _ h => h)) (Touch.of_grown hgrow6) (fun g hg e => HD.out g hg e.symm)
                go_wp2
                go_roundw
                case rel =>
                  refine ⟨q + 1, m + 9, some ⟨g6, 0, none⟩, c6, by omega, by have := HM.out; omega, by go_num, ?_, ?_, ?_, by simpa using x6.set_ 2 _, b6.trans (grown_below (grown_set w6 _ 2 _) b6.size (Nat.le_refl _)), fun i hi => ?_⟩
                  · rw [HKO.out]
                    unfold OwnK
                    rw [kv_append, List.map_append]
                    exact own_touch hown6 (touch_set (S := fun x => x = w4.heap.size) w6 _ 2 _ rfl) (fun g hg e => by have := (World.ownsRow.lt hown6 g hg).1; omega)
                  · exact m6.touch (touch_set (S := fun x => x = w4.heap.size) w6 _ 2 _ rfl) (fun g hg e => by have := (World.ownsRow.lt m6 g hg).1; omega)
                  · intro g hg h
                    have hgg := own_eq h.symm
                    subst hgg
                    rcases hwh6 with h1 | h1
                    · exact HD.out _ hg h1
                    · have := (World.ownsRow.lt MP.out _ hg).2
                      simp at h1
                      omega
                  · rcases Nat.lt_or_ge i q with h | h
                    · exact HC.out i h
                    · rw [show i = q by omega]; exact HCO.out
                case measure => simp [intOf]; omega
            · have hno := none_chunk P1.out P2.out (by rw [hlen]; exact P3.out) hq3 q hlt (by unfold chunkOk; rw [← HM.out]; exact h7)
              have HNO := Lib.hid hno
              clear hno
              have X1 := Lib.hid (X1.out.below (BR.out.mono (by omega : w.heap.size + 1 ≤ w4.heap.size)) (by omega))
              have q10 := X1.out.cell 0
              have q11 := X1.out.cell 1
              have q12 := X1.out.cell 2
              have q13 := X1.out.cell 3
              have f1 := X1.out.free
              simp at q10 q11 q12 q13
              go_wp2_with fail
              refine (specFrom_high _ _ _ w.heap.size wr yb (by rw [h8]; omega)).mono ?_
              rintro e _ ⟨rfl, rfl⟩
              go_wp2_with fail
              obtain ⟨hX, hb⟩ := set4 X1.out (.int .i64 0) (.slice none 0 0) (.slice none 0 0) (.string { data := #[] })
              refine bodyPost_ret (v := .tuple #[node0V, .bool false]) (results_box2 Try.results38 _ _ w.heap.size _ _ _ _ rfl rfl hX Try.underlying35 rfl (by kernel_rfl)) rfl ?_
              have b7 := B4.out.trans (BR.out.mono (by omega))
              exact ⟨_, node0, false, rfl, node0_own _ _, HNO.out, b7.trans (hb.below b7.size (fun k hk h => by omega))⟩
          · have hme := hmm' hlt
            obtain rfl : q = q0 := by omega
            have hv : Hid (OwnN wr (w4.heap.size + 1) (.agg #[.int .i64 z0, .slice Ap k cp, .slice Ak q ck, .string (strOfNums r2)]) (nodeOf bs r1 r2 r3 q)) :=
              ⟨Ap, k, cp, Ak, q, ck, by unfold nodeOf; rw [Z0.out], hn2, by omega, by unfold nodeOf; rw [strOfNums_size]; omega, MP.out, MK.out, HD.out⟩
            have X1 := Lib.hid (X1.out.below (BR.out.mono (by omega : w.heap.size + 1 ≤ w4.heap.size)) (by omega))
            have q20 := XR.out.cell 0
            have q21 := XR.out.cell 1
            have q22 := XR.out.cell 2
            have q23 := XR.out.cell 3
            have lx := XR.out.lt
            have l1 := X1.out.lt
            simp at q20 q21 q22 q23
            go_wp2_with fail
            refine (specNodeOk_any _ _ wr.heap.size wr (Nat.le_refl _) hv.out.node).mono ?_
            rintro e w7 ⟨rfl, b7⟩
            have V := Lib.hid (hv.out.below b7)
            have X1 := Lib.hid (X1.out.below b7 l1)
            have XR := Lib.hid (XR.out.below b7 lx)
            have B7 := Lib.hid ((B4.out.trans (BR.out.mono (by omega))).trans (b7.mono (by omega)))
            clear b7 q20 q21 q22 q23
            have q10 := X1.out.cell 0
            have q11 := X1.out.cell 1
            have q12 := X1.out.cell 2
            have q13 := X1.out.cell 3
            have f1 := X1.out.free
            have q20 := XR.out.cell 0
            have q21 := XR.out.cell 1
            have q22 := XR.out.cell 2
            have q23 := XR.out.cell 3
            simp at q10 q11 q12 q13 q20 q21 q22 q23
            by_cases hok : nodeOk (nodeOf bs r1 r2 r3 q) = true
            · rw [hok]
              go_wp2_with fail
              obtain ⟨hX, hb⟩ := set4 X1.out (.int .i64 z0) (.slice Ap k cp) (.slice Ak q ck) (.string (strOfNums r2))
              refine bodyPost_ret (v := .tuple #[.agg #[.int .i64 z0, .slice Ap k cp, .slice Ak q ck, .string (strOfNums r2)], .bool true]) (results_box2 Try.results38 _ _ w.heap.size _ _ _ _ rfl rfl hX Try.underlying35 rfl (by kernel_rfl)) rfl ?_
              exact ⟨_, nodeOf bs r1 r2 r3 q, true, rfl, (V.out.touch hb (fun g hg h => by have := (V.out.blk hg).1; omega)).base (by omega), yes_read bs r1 r2 r3 q hr HQ.out hq3 HC.out hok, B7.out.trans (hb.below B7.out.size (fun k hk h => by omega))⟩
            · have hok' : nodeOk (nodeOf bs r1 r2 r3 q) = false := by simpa using hok
              rw [hok']
              go_wp2_with fail
              obtain ⟨hX, hb⟩ := set4 X1.out (.int .i64 0) (.slice none 0 0) (.slice none 0 0) (.string { data := #[] })
              refine bodyPost_ret (v := .tuple #[node0V, .bool false]) (results_box2 Try.results38 _ _ w.heap.size _ _ _ _ rfl rfl hX Try.underlying35 rfl (by kernel_rfl)) rfl ?_
              exact ⟨_, node0, false, rfl, node0_own _ _, none_bad P1.out P2.out (by rw [hlen]; exact P3.out) hq3 hok', B7.out.trans (hb.below B7.out.size (fun k hk h => by omega))⟩
  · have q10 := X1.out.cell 0
    have q11 := X1.out.cell 1
    have q12 := X1.out.cell 2
    have q13 := X1.out.cell 3
    have f1 := X1.out.free
    simp at q10 q11 q12 q13
    go_wp2
    obtain ⟨hX, hb⟩ := set4 X1.out (.int .i64 0) (.slice none 0 0) (.slice none 0 0) (.string { data := #[] })
    refine bodyPost_ret (v := .tuple #[node0V, .bool false]) (results_box2 Try.results38 _ _ w.heap.size _ _ _ _ rfl rfl hX Try.underlying35 rfl (by kernel_rfl)) rfl ?_
    exact ⟨_, node0, false, rfl, node0_own _ _, none_end P1.out P2.out P3.out (by rw [hlen]; exact hk), B4.out.trans (hb.below B4.out.size (fun k hk h => by omega))⟩
end Go.Proofs.Ytdhnhgppapkikaa

-- Sums: The two sums of a name and the name of bytes, as the program and as the model reckon them: what each call returns, the world left as it was.
namespace Go.Proofs.Ytdhnhgppapkikaa
set_option maxRecDepth 20000
open Go.RowKit

theorem up_any (A : Option Addr) (n c : Nat) (zs : List Int) (B : Nat) (w : World) (hn : n ≤ 9223372036854775807) (hb : Byts w B A n zs) :
    Calls Try.prog 68 #[.slice A n c, .int .i64 7, .int .i64 131, .int .i64 2147483647] w fun e w' => e = .returned (.int .i64 (upSum zs)) ∧ w = w' := by
  have HB := Lib.hid hb
  have hlen : zs.length = n := hb.1
  have HL := Lib.hid hlen
  clear hb hlen
  go_enter Try.func68, Try.ntmps68
  go_wp2
  go_loop [9, 15] (fun s i => ∃ k : Nat, k ≤ n ∧ i = .int .i64 k ∧ s = .int .i64 (upSum (zs.take k))) (fun _ i => n - (intOf i).toNat)
  case atStart => exact ⟨0, Nat.zero_le _, rfl, rfl⟩
  case round =>
    obtain ⟨k, hk, rfl, rfl⟩ := hrel
    have hs := upSum_bd (zs.take k)
    by_cases hlt : k < n
    · obtain ⟨b, off, rfl, _, hc⟩ := HB.out.at_ hlt
      have hr := HB.out.range k
      have HS := Lib.hid (upSum_step zs k (by have := HL.out; omega))
      go_wp2
      go_round
      case rel => exact ⟨k + 1, by omega, by go_num, by rw [HS.out]⟩
      case measure => simp [intOf]; omega
    · go_wp2
      go_ret
      exact ⟨ret_i64 (by rw [List.take_of_length_le (by have := HL.out; omega)]), rfl⟩
theorem lo_any (A : Option Addr) (n c : Nat) (zs : List Int) (B : Nat) (w : World) (hn : n ≤ 9223372036854775807) (hb : Byts w B A n zs) :
    Calls Try.prog 69 #[.slice A n c, .int .i64 11, .int .i64 137, .int .i64 2147483629] w fun e w' => e = .returned (.int .i64 (loSum zs)) ∧ w = w' := by
  have HB := Lib.hid hb
  have hlen : zs.length = n := hb.1
  have HL := Lib.hid hlen
  clear hb hlen
  go_enter Try.func69, Try.ntmps69
  go_wp2
  go_loop [9, 15] (fun s i => ∃ k : Nat, k ≤ n ∧ i = .int .i64 k ∧ s = .int .i64 (loSum (zs.take k))) (fun _ i => n - (intOf i).toNat)
  case atStart => exact ⟨0, Nat.zero_le _, rfl, rfl⟩
  case round =>
    obtain ⟨k, hk, rfl, rfl⟩ := hrel
    have hs := loSum_bd (zs.take k)
    by_cases hlt : k < n
    · obtain ⟨b, off, rfl, _, hc⟩ := HB.out.at_ hlt
      have hr := HB.out.range k
      have HS := Lib.hid (loSum_step zs k (by have := HL.out; omega))
      go_wp2
      go_round
      case rel => exact ⟨k + 1, by omega, by go_num, by rw [HS.out]⟩
      case measure => simp [intOf]; omega
    · go_wp2
      go_ret
      exact ⟨ret_i64 (by rw [List.take_of_length_le (by have := HL.out; omega)]), rfl⟩
theorem name_any (A : Option Addr) (n c : Nat) (zs : List Int) (B : Nat) (w : World) (hn : n ≤ 9223372036854775807) (hb : Byts w B A n zs) :
    Calls Try.prog 51 #[.slice A n c] w fun e w' => e = .returned (.int .i64 (nameOf zs)) ∧ w = w' := by
  have h1 := upSum_bd zs
  have h2 := loSum_bd zs
  have HB := Lib.hid hb
  clear hb
  go_enter Try.func51, Try.ntmps51
  go_wp2_with (first
    | (go_at_call 68; refine (up_any _ _ _ zs _ _ (by omega) HB.out).mono ?_; rintro e w' ⟨rfl, rfl⟩)
    | (go_at_call 69; refine (lo_any _ _ _ zs _ _ (by omega) HB.out).mono ?_; rintro e w' ⟨rfl, rfl⟩))
  go_ret
  exact ⟨ret_i64 (by unfold nameOf; omega), rfl⟩

theorem specName_any (A : Option Addr) (n c : Nat) (zs : List Int) (B : Nat) (w : World) (hn : n ≤ 9223372036854775807) (hb : Byts w B A n zs) :
    Calls Try.prog 39 #[.slice A n c] w fun e w' => e = .returned (.int .i64 (nameOf zs)) ∧ w = w' := by
  have HB := Lib.hid hb
  have hlen : zs.length = n := hb.1
  have HL := Lib.hid hlen
  clear hb hlen
  go_enter Try.func39, Try.ntmps39
  go_wp2
  go_loop [3, 4, 5] (fun s t i => ∃ k : Nat, k ≤ n ∧ i = .int .i64 k ∧ s = .int .i64 (upSum (zs.take k)) ∧ t = .int .i64 (loSum (zs.take k))) (fun _ _ i => n - (intOf i).toNat)
  case atStart => exact ⟨0, Nat.zero_le _, rfl, rfl, rfl⟩
  case round =>
    obtain ⟨k, hk, rfl, rfl, rfl⟩ := hrel
    have hs := upSum_bd (zs.take k)
    have ht := loSum_bd (zs.take k)
    by_cases hlt : k < n
    · obtain ⟨b, off, rfl, _, hc⟩ := HB.out.at_ hlt
      have hr := HB.out.range k
      have HS := Lib.hid (upSum_step zs k (by have := HL.out; omega))
      have HT := Lib.hid (loSum_step zs k (by have := HL.out; omega))
      go_wp2
      go_round
      case rel => exact ⟨k + 1, by omega, by go_num, by rw [HS.out], by rw [HT.out]⟩
      case measure => simp [intOf]; omega
    · go_wp2
      go_ret
      exact ⟨ret_i64 (by rw [List.take_of_length_le (by have := HL.out; omega)]; rfl), rfl⟩
end Go.Proofs.Ytdhnhgppapkikaa

-- CellS: The model's CellsOk, and where it finds a name.
namespace Go.Proofs.Ytdhnhgppapkikaa
set_option maxRecDepth 20000
set_option linter.unusedVariables false
set_option linter.unusedSimpArgs false
open Go.RowKit

theorem index_cell (b off n c j : Nat) (h : j < n) (W : World) : (Instr.indexAt 29 (.slice (some ⟨b, off, none⟩) n c) (.int .i64 (j : Int))).run Try.prog W = .ok (.pointer (some ⟨b, off + j * 2, none⟩)) W := by
  go_simp
theorem index_cell_pred (b off n c k : Nat) (h0 : 0 < k) (h : k - 1 < n) (W : World) : (Instr.indexAt 29 (.slice (some ⟨b, off, none⟩) n c) (.int .i64 ((k : Int) - 1))).run Try.prog W = .ok (.pointer (some ⟨b, off + (k - 1) * 2, none⟩)) W := by
  obtain ⟨j, hj⟩ : ∃ j, k - 1 = j := ⟨_, rfl⟩
  have e : (k : Int) - 1 = (j : Int) := by omega
  rw [e, hj]
  exact index_cell b off n c j (by omega) W

theorem l4Find_any (A : Option Addr) (n c : Nat) (cs : List (Int × List Int)) (m : Int) (B : Nat) (w : World) (hn : n ≤ 1048576) (hb : Cells w B A n cs) :
    Calls Try.prog 45 #[.slice A n c, .int .i64 m] w fun e w' => e = .returned (.int .i64 (if findC cs m < n then (findC cs m : Int) else -1)) ∧ w = w' := by
  have HB := Lib.hid hb
  have hlen := hb.1
  clear hb
  obtain ⟨R, hR⟩ : ∃ R : Int, (if findC cs m < n then (findC cs m : Int) else -1) = R := ⟨_, rfl⟩
  rw [hR]
  have HR := Lib.hid hR
  clear hR
  go_enter Try.func45, Try.ntmps45
  go_wp2
  go_loop [5] (fun i => ∃ k : Nat, k ≤ n ∧ i = .int .i64 k ∧ ∀ j, j < k → (cel cs j).1 ≠ m) (fun i => n - (intOf i).toNat)
  case atStart => exact ⟨0, Nat.zero_le _, rfl, fun j hj => absurd hj (by omega)⟩
  case round =>
    obtain ⟨k, hk, rfl, hno⟩ := hrel
    by_cases hlt : k < n
    · obtain ⟨b, off, Ai, ni, ci, rfl, hbB, h0, h1, _, _, hy⟩ := HB.out.at_ hlt
      have hx : ∃ x, (cel cs k).1 = x := ⟨_, rfl⟩
      obtain ⟨x, hx⟩ := hx
      rw [hx] at h0
      clear h1
      by_cases he : x = m
      · subst he
        have hf := Lib.hid (findC_at cs x k (by omega) hx hno)
        have hr : (k : Int) = R := by rw [← HR.out, hf.out, if_pos hlt]
        subst hr
        go_wp2
        go_ret
        exact ⟨rfl, rfl⟩
      · have hb0 : (x == m) = false := by simpa using he
        go_wp2
        go_round
        case rel =>
          refine ⟨k + 1, by omega, by go_num, fun j hj => ?_⟩
          rcases Nat.lt_or_ge j k with h | h
          · exact hno j h
          · rw [show j = k by omega, hx]; exact he
        case measure => simp [intOf]; omega
    · have hr : -1 = R := by rw [← HR.out, findC_none cs m (fun j hj => hno j (by omega)), if_neg (by omega)]
      subst hr
      clear HR
      go_wp2
      go_ret
      exact ⟨rfl, rfl⟩

theorem specCellsOk_any (A : Option Addr) (n c : Nat) (cs : List (Int × List Int)) (B : Nat) (w : World) (hn : n ≤ 1048576) (hm : ∀ i, (cel cs i).2.length ≤ 1048576) (hB : B ≤ w.heap.size) (hb : Cells w B A n cs) :
    Calls Try.prog 18 #[.slice A n c] w fun e w' => ∃ b, e = .returned (.bool b) ∧ (b = true ↔ Right cs) ∧ Below w.heap.size w w' := by
  have HB := Lib.hid (hb.more hB)
  have hlen := hb.1
  clear hb
  go_enter Try.func18, Try.ntmps18
  go_wp2
  go_loopw [3] (fun i wr => ∃ k : Nat, k ≤ n ∧ i = .int .i64 k ∧ (∀ j, j < k → CellAt cs j) ∧ Below w.heap.size w wr) (fun i _ => n - (intOf i).toNat)
  case atStart => exact ⟨0, Nat.zero_le _, rfl, fun j hj => absurd hj (by omega), Below.refl _ _⟩
  case round =>
    obtain ⟨k, hk, rfl, hgood, hbel⟩ := hrel
    have HK := Lib.hid (HB.out.below hbel)
    by_cases hlt : k < n
    · obtain ⟨b, off, Ai, ni, ci, rfl, hbB, h0, h1, hc, hA, hy⟩ := HK.out.at_ hlt
      obtain ⟨x, hx⟩ : ∃ x, cel cs k = x := ⟨_, rfl⟩
      have hnm := hm k
      have hni := hy.1
      have hs0 := hbel.size
      rw [hx] at h0 hy hni hnm
      have Y := Lib.hid hy
      have BR := Lib.hid hbel
      clear hy hbel
      have hle : ni ≤ 1048576 := by omega
      go_wp2_with fail
      refine (specNodeFrom_any Ai ni ci x.2 w.heap.size _ hle hc hs0 Y.out).mono ?_
      rintro e w1 ⟨v, nd, r, rfl, own, rd, b1⟩
      have hr := Lib.hid (IsNode.of rd)
      have HK1 := Lib.hid (HK.out.below (b1.mono hs0))
      have B1 := Lib.hid (BR.out.trans (b1.mono hs0))
      obtain ⟨Ap, np, cp, Ak, nk, ck, rfl, _⟩ := own
      clear rd h0 h1 b1
      obtain ⟨w2, hw2⟩ : ∃ w2, w1.alloc (.cells #[.int .i64 0, .slice none 0 0, .slice none 0 0, .string { data := #[] }] 35) = w2 := ⟨_, rfl⟩
      have x2 : Box w2 w1.heap.size _ _ := hw2 ▸ heap_alloc_new _ _
      have b2 : Below w1.heap.size w1 w2 := hw2 ▸ (Below.refl _ _).alloc (Nat.le_refl _) _
      have X2 := Lib.hid x2
      obtain ⟨w3, hw3⟩ : ∃ w3, (((w2.setCell ⟨w1.heap.size, 0, none⟩ (.int .i64 nd.kind)).setCell ⟨w1.heap.size, 1, none⟩ (.slice Ap np cp)).setCell ⟨w1.heap.size, 2, none⟩ (.slice Ak nk ck)).setCell ⟨w1.heap.size, 3, none⟩ (.string nd.val) = w3 := ⟨_, rfl⟩
      have t3 : Touch (fun b => b = w1.heap.size) w2 w3 := hw3 ▸ (set4 x2 _ _ _ _).2
      have hs1 := B1.out.size
      have b3 : Below w1.heap.size w1 w3 := b2.trans (t3.below b2.size (fun b hb e => by omega))
      have HK3 := Lib.hid (HK1.out.below (b3.mono hs1))
      have B3 := Lib.hid (B1.out.trans (b3.mono hs1))
      have q20 := X2.out.cell 0
      have q21 := X2.out.cell 1
      have q22 := X2.out.cell 2
      have q23 := X2.out.cell 3
      have f2 := X2.out.free
      simp at q20 q21 q22 q23
      clear b2 b3 t3 x2
      obtain ⟨_, _, Aj, nj, cj, e1, _, h0, h1, _, _, hy3⟩ := HK3.out.at_ hlt
      cases e1
      rw [hx] at h0 hy3
      have hnj := hy3.1
      have Y3 := Lib.hid hy3
      have hle2 : nj ≤ 9223372036854775807 := by omega
      clear hy3
      cases r with
      | false =>
        go_wp2
        go_quiet (fail)
        go_wp2
        go_ret
        exact ⟨false, rfl, iff_of_false (by simp) (fun hR => by
          have := (hR.2 k (by omega)).1
          rw [hx] at this
          exact absurd (hr.out.2 this) (by simp)), below_drewN B3.out _⟩
      | true =>
        have hNM : ∀ q, Calls Try.prog 39 #[.slice Aj nj cj] (w3.drewN q) fun e w' => e = .returned (.int .i64 (nameOf x.2)) ∧ w' = w3.drewN q :=
          fun q => (specName_any Aj nj cj x.2 w.heap.size (w3.drewN q) hle2 (Y3.out.drewN q)).mono fun e w' h => ⟨h.1, h.2.symm⟩
        have NM := Lib.hid hNM
        clear hNM
        by_cases hN : nameOf x.2 = x.1
        · have hb1 : (nameOf x.2 != x.1) = false := by simp [hN]
          by_cases hk0 : 0 < k
          · obtain ⟨_, _, _, _, _, e1, _, p0, _⟩ := HK3.out.at_ (k := k - 1) (by omega)
            cases e1
            obtain ⟨y, hy⟩ : ∃ y, cel cs (k - 1) = y := ⟨_, rfl⟩
            rw [hy] at p0
            have hia := index_cell_pred b off n c k hk0 (by omega)
            have hwk : IntKind.i64.wrap ((k : Int) - 1) = (k : Int) - 1 := by rw [IntKind.wrap_i64]; omega
            have hd : decide ((0 : Int) < (k : Int)) = true := decide_eq_true (by omega)
            by_cases hR : x.1 ≤ y.1
            · have hdR : decide (x.1 ≤ y.1) = true := decide_eq_true hR
              go_wp2
              go_quiet (first | (go_at_call 39; exact Calls.quiet_of_same (NM.out _)))
              go_wp2
              go_ret
              exact ⟨false, rfl, iff_of_false (by simp) (fun hR' => by
                have := (hR'.2 k (by omega)).2.2 hk0
                rw [hx, hy] at this
                omega), below_drewN B3.out _⟩
            · have hdR : decide (x.1 ≤ y.1) = false := decide_eq_false hR
              go_wp2
              go_quiet (first | (go_at_call 39; exact Calls.quiet_of_same (NM.out _)))
              go_wp2
              go_roundw
              case rel =>
                refine ⟨k + 1, by omega, by go_num, fun j hj => ?_, below_drewN B3.out _⟩
                rcases Nat.lt_or_ge j k with h | h
                · exact hgood j h
                · rw [show j = k by omega]
                  exact ⟨by rw [hx]; exact hr.out.1 (by trivial), by rw [hx]; exact hN, fun _ => by rw [hx, hy]; omega⟩
              case measure => simp [intOf]; omega
          · obtain rfl : k = 0 := by omega
            rw [Nat.zero_mul, Nat.add_zero] at h0 h1
            go_wp2
            go_quiet (first | (go_at_call 39; exact Calls.quiet_of_same (NM.out _)))
            go_wp2
            go_roundw
            case rel =>
              refine ⟨1, by omega, by go_num, fun j hj => ?_, below_drewN B3.out _⟩
              rw [show j = 0 by omega]
              exact ⟨by rw [hx]; exact hr.out.1 (by trivial), by rw [hx]; exact hN, fun h => absurd h (by omega)⟩
            case measure => simp [intOf]; omega
        · have hb1 : (nameOf x.2 != x.1) = true := by simp [hN]
          go_wp2
          go_quiet (first | (go_at_call 39; exact Calls.quiet_of_same (NM.out _)))
          go_wp2
          go_ret
          exact ⟨false, rfl, iff_of_false (by simp) (fun hR => by
            have := (hR.2 k (by omega)).2.1
            rw [hx] at this
            exact hN this), below_drewN B3.out _⟩
    · obtain rfl : k = n := by omega
      go_wp2
      go_ret
      refine ⟨_, rfl, ?_, hbel⟩
      constructor
      · intro h
        exact ⟨by have := of_decide_eq_true h; omega, fun i hi => hgood i (by omega)⟩
      · intro h
        have := h.1
        exact decide_eq_true (by omega)
end Go.Proofs.Ytdhnhgppapkikaa

-- CellN: The model's node under a name, and NodeAt.
namespace Go.Proofs.Ytdhnhgppapkikaa
set_option maxRecDepth 20000
set_option linter.unusedVariables false
set_option linter.unusedSimpArgs false
open Go.RowKit

end Go.Proofs.Ytdhnhgppapkikaa
