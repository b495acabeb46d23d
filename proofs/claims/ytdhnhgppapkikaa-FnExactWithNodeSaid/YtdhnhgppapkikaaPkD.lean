/- Several texts in one, in build order: CellC, CellA, CellP, CellW, CellO, ReachM, CellL, RowL, Srch, InsI, InsN. -/
import Derived.Test.YtdhnhgppapkikaaPkC
import Derived.Shelf.Spec.SlicesInsertGrow
-- CellC: Cells that are put behind others; the model's copies of bytes and of cells.
namespace Go.Proofs.Ytdhnhgppapkikaa
set_option maxRecDepth 20000
set_option linter.unusedVariables false
set_option linter.unusedSimpArgs false
open Go.RowKit

theorem Byts.row {w : World} {B n : Nat} {A : Option Addr} {zs : List Int} (h : Byts w B A n zs) (hn : 0 < n) :
    ∃ b off, A = some ⟨b, off, none⟩ ∧ b < B ∧ ∀ j u, (zs.map (Value.int .u8))[j]? = some u → w.cell? ((⟨b, off, none⟩ : Addr).add j) = some u := by
  obtain ⟨b, off, rfl, hb, hc⟩ := h.2.2 hn
  refine ⟨b, off, rfl, hb, fun j u hj => ?_⟩
  have hadd : (⟨b, off, none⟩ : Addr).add j = ⟨b, off + j, none⟩ := by unfold Addr.add; split <;> simp_all
  have hjl : j < zs.length := by
    rcases Nat.lt_or_ge j zs.length with h | h
    · exact h
    · rw [List.getElem?_eq_none (by simpa using h)] at hj; cases hj
  have hl := h.1
  rw [hadd, hc j (by omega)]
  rw [List.getElem?_map, List.getElem?_eq_getElem hjl] at hj
  simp only [Option.map_some, Option.some.injEq] at hj
  rw [← hj]
  simp [List.getElem?_eq_getElem hjl]

/-- cells that are put behind those that the call owns. -/
theorem OwnC.pushed {w w' : World} {lo hi hi' n c n' c' g cap : Nat} {A A' : Option Addr} {cs : List (Int × List Int)} {bs : List Int} {m : Int} {sl : Nat → Sub}
    (hl : cs.length = n) (hu : ∀ b, (Value.slice A n c).ownBlock = some b → b < hi) (hs : Subs w lo hi (Value.slice A n c).ownBlock n cs sl) (hx : Mine w lo A' n' c' bs)
    (hxb : ∀ b, (Value.slice A' n' c').ownBlock = some b → hi ≤ b)
    (hr : w'.ownsRow lo 51 2 (.slice (some ⟨g, 0, none⟩) (n + 1) cap) (n + 1) (cvs n cs sl ++ [.int .i64 m, .slice A' n' c'])) (hg : w.grownBy w' (Value.slice A n c).ownBlock)
    (hgo : (Value.slice A n c).ownBlock = some g ∨ g = w.heap.size) (hh : hi ≤ w.heap.size) (hi1 : w'.heap.size ≤ hi') : OwnC w' lo hi' (some ⟨g, 0, none⟩) (n + 1) cap (cs ++ [(m, bs)]) := by
  have hsz := hg.size
  have t := Touch.of_grown hg
  refine ⟨by simp [hl], fun b hb => ?_, fun i => if i = n then ⟨A', n', c', bs⟩ else sl i, ?_, ?_⟩
  · have := (World.ownsRow.lt hr b hb).2
    omega
  · rw [← cvs_append n cs sl ⟨A', n', c', bs⟩ m bs hl]; exact hr
  · have hlt : ∀ i, i < n → ∀ b, (sl i).v.ownBlock = some b → b < w.heap.size := fun i hi b hb => (World.ownsRow.lt (hs.mine i hi).1 b hb).2
    have hxl : ∀ b, (Value.slice A' n' c').ownBlock = some b → b < w.heap.size := fun b hb => (World.ownsRow.lt hx.1 b hb).2
    refine ⟨fun i hi => ?_, fun i j hi hj hij b => ?_, fun i hi b => ?_, fun i hi b => ?_⟩
    · rw [cel_append, hl]
      by_cases h : i = n
      · simp only [h, if_true]
        exact hx.touch t (fun b hb e => by have := hxb b hb; have := hu b e.symm; omega)
      · simp only [h, if_false]
        exact (hs.mine i (by omega)).touch t (fun b hb e => hs.other i (by omega) b hb e.symm)
    · by_cases h : i = n
      · have h2 : ¬ j = n := by omega
        simp only [h, h2, if_true, if_false]
        intro e1 e2
        have := hxb b e1
        have := hs.under j (by omega) b e2
        omega
      · by_cases h2 : j = n
        · simp only [h, h2, if_true, if_false]
          intro e1 e2
          have := hxb b e2
          have := hs.under i (by omega) b e1
          omega
        · simp only [h, h2, if_false]
          exact hs.apart i j (by omega) (by omega) hij b
    · have hown : (Value.slice (some (⟨g, 0, none⟩ : Addr)) (n + 1) cap).ownBlock = some g := by simp [Value.ownBlock]
      rw [hown]
      by_cases h : i = n
      · simp only [h, if_true]
        intro e1 e2
        cases e2
        have := hxb _ e1
        have := hxl _ e1
        rcases hgo with e | e
        · have := hu _ e; omega
        · omega
      · simp only [h, if_false]
        intro e1 e2
        cases e2
        rcases hgo with e | e
        · exact hs.other i (by omega) _ e1 e
        · have := hlt i (by omega) _ e1; omega
    · by_cases h : i = n
      · simp only [h, if_true]
        intro e1
        have := hxl b e1
        omega
      · simp only [h, if_false]
        intro e1
        have := hlt i (by omega) b e1
        omega

theorem l1Bytes_any (A : Option Addr) (n c : Nat) (bs : List Int) (B : Nat) (w : World) (h0 : 0 < n) (hn : n ≤ 1048576) (hB : B ≤ w.heap.size) (hb : Byts w B A n bs) :
    Calls Try.prog 40 #[.slice A n c] w fun e w' => ∃ A' n' c', e = .returned (.slice A' n' c') ∧ Mine w' w.heap.size A' n' c' bs ∧ Below w.heap.size w w' := by
  have hlen := hb.1
  have hr := hb.2.1
  obtain ⟨b, off, rfl, hbB, hrow⟩ := (hb.alloc hB (.cells #[] 5)).row h0
  obtain ⟨i0, hi, hz0, hz1, hz2⟩ := info_parts Try.info5
  have HI := Lib.hid hi
  have HZ0 := Lib.hid hz0
  have HZ1 := Lib.hid hz1
  have HZ2 := Lib.hid hz2
  have HR := Lib.hid hrow
  have E0 := Lib.hid (Mine.empty w)
  have B0 := Lib.hid ((Below.refl w.heap.size w).alloc (Nat.le_refl _) (.cells #[] 5))
  clear hi hz0 hz1 hz2 hrow hb
  go_enter Try.func40, Try.ntmps40
  go_wp2_with (at_builtin; refine wpList_append_own _ rfl _ _ 43 rfl w.heap.size 5 i0 (.int .u8 0) 1 1 Try.underlying43 HI.out HZ0.out HZ1.out HZ2.out rfl (by decide) _ _ _ rfl E0.out.1 ⟨b, off, none⟩ n _ (bs.map (Value.int .u8)) rfl ?e0 ?e1 ?e2 ?e3 ?e4 ?e5 ?_)
  case e0 => rw [List.length_map, Nat.mul_one]; exact hlen
  case e1 => exact HR.out
  case e2 => intro u hu; obtain ⟨z, _, rfl⟩ := List.mem_map.1 hu; rfl
  case e3 => unfold maxLen; omega
  case e4 => omega
  case e5 => simp
  intro v1 w1 hown1 hgrow1 hnil1
  have hv : ∃ g c, v1 = .slice (some ⟨g, 0, none⟩) n c := by
    rcases hown1.2 with ⟨e, _⟩ | ⟨g, cap, cur, e, _⟩
    · exact absurd e hnil1
    · exact ⟨g, cap, e⟩
  obtain ⟨g1, c1, rfl⟩ := hv
  have hm1 := E0.out.app (ys := bs) hr (by simpa using hown1)
  have hb1 : Below w.heap.size w w1 := B0.out.grown hgrow1 (by simp) (fun g hg => (E0.out.1.lt g hg).1)
  go_wp2
  go_ret
  exact ⟨_, _, _, rfl, by simpa using hm1, hb1⟩
theorem OwnC.made0 (w : World) : OwnC (w.alloc (.cells #[] 51)) w.heap.size (w.heap.size + 1) (some ⟨w.heap.size, 0, none⟩) 0 0 [] := by
  have h := OwnC.of_made w 0 (by unfold maxLen; omega)
  simpa [cvs] using h

/-- .. and they lie in a block, also where there are none. -/
def GaveC1 (w : World) (cs : List (Int × List Int)) (e : Ending) (w' : World) : Prop := ∃ g n c, e = .returned (.slice (some ⟨g, 0, none⟩) n c) ∧ OwnC w' w.heap.size w'.heap.size (some ⟨g, 0, none⟩) n c cs ∧ Below w.heap.size w w'
theorem l4Copy_any (A : Option Addr) (n c : Nat) (cs : List (Int × List Int)) (B : Nat) (w : World) (hn : n ≤ 1048576) (hm : ∀ i, (cel cs i).2.length ≤ 1048576) (hp : ∀ i, i < n → 0 < (cel cs i).2.length) (hB : B ≤ w.heap.size) (hb : Cells w B A n cs) :
    Calls Try.prog 19 #[.slice A n c] w (GaveC1 w cs) := by
  have HB := Lib.hid (hb.more hB)
  have hlen := hb.1
  clear hb
  obtain ⟨i0, hi, hz0, hz1, hz2⟩ := info_parts Try.infoC
  have HI := Lib.hid hi
  have HZ0 := Lib.hid hz0
  have HZ1 := Lib.hid hz1
  have HZ2 := Lib.hid hz2
  clear hi hz0 hz1 hz2
  go_enter Try.func19, Try.ntmps19
  go_wp2
  go_loopw [3, 4] (fun o i wr => ∃ (k : Nat) (go : Nat) (co : Nat), k ≤ n ∧ i = .int .i64 k ∧ o = .slice (some ⟨go, 0, none⟩) k co ∧ OwnC wr w.heap.size wr.heap.size (some ⟨go, 0, none⟩) k co (cs.take k) ∧ Below w.heap.size w wr) (fun _ i _ => n - (intOf i).toNat)
  case atStart => exact ⟨0, w.heap.size, 0, Nat.zero_le _, rfl, rfl, by simpa using OwnC.made0 w, (Below.refl _ _).alloc (Nat.le_refl _) _⟩
  case round =>
    obtain ⟨k, go, co, hk, rfl, rfl, hown, hbel⟩ := hrel
    by_cases hlt : k < n
    · obtain ⟨b, off, Ai, ni, ci, rfl, hbB, h0, h1, _, _, hy⟩ := (HB.out.below hbel).at_ hlt
      obtain ⟨x, hx⟩ : ∃ x, cel cs k = x := ⟨_, rfl⟩
      have hnm := hm k
      have hpk := hp k hlt
      have hst := cel_take cs k (by omega)
      rw [hx] at h0 hy hnm hpk hst
      have hni := hy.1
      have Y := Lib.hid hy
      have HST := Lib.hid hst
      have OR := Lib.hid hown
      have BR := Lib.hid hbel
      have hs0 := hbel.size
      clear hy hown hbel hst
      go_wp2
      go_region_law (first
        | (refine step_append_lies _ rfl _ _ 29 rfl w.heap.size 51 i0 (.agg #[.int .i64 0, .slice none 0 0]) 2 32 Try.underlying29 HI.out HZ0.out HZ1.out HZ2.out rfl (by decide) (.slice (some ⟨go, 0, none⟩) k co) k (cvs k (cs.take k) sl) (by simp [Act.eval]) hrow ⟨w1.heap.size, 0, none⟩ 1 1 [.int .i64 x.1, .slice A1 n1 c1] (by simp [Act.eval]) rfl (by
              intro j u hj
              match j, hj with
              | 0, hj => simp at hj; subst hj; simp [Addr.add]
              | 1, hj => simp at hj; subst hj; simp [Addr.add]) (by intro u hu; simp at hu; rcases hu with rfl | rfl <;> rfl) (by omega) (by unfold maxLen; omega) (by omega) (by simp; omega) _ rfl ?_
           intro g6 c6 w6 hown6 hgrow6 hwh6 hlt6
           have h6 := OwnC.pushed hl hu hsub mx hxb hown6 hgrow6 hwh6 hhi (Nat.le_refl _)
           have b6 := B1.out.grown hgrow6 (by simp; omega) (fun g hg => (hrow.lt g hg).1))
        | (go_simp
           refine (l1Bytes_any Ai ni ci x.2 w.heap.size wr.drew (by omega) (by omega) hs0 Y.out.drew).mono ?_
           rintro e w1 ⟨A1, n1, c1, rfl, m1, b1⟩
           have hs1 : wr.heap.size ≤ w1.heap.size := b1.size
           have HK1 := HB.out.below ((BR.out.drew).trans (b1.mono hs0))
           obtain ⟨_, _, _, _, _, e1, _, h0, _⟩ := HK1.at_ hlt
           cases e1
           rw [hx] at h0
           have ba : Below w1.heap.size w1 (w1.alloc (.cells #[.int .i64 x.1, .slice A1 n1 c1] 51)) := (Below.refl _ _).alloc (Nat.le_refl _) _
           obtain ⟨hl, hu, sl, hrow, hsub⟩ := ((OR.out.below (below_drewN (Below.refl _ _) 1)).below b1).below (ba.mono hs1)
           have mx := (m1.below ba).base hs0
           have hxb : ∀ b, (Value.slice A1 n1 c1).ownBlock = some b → wr.heap.size ≤ b := fun b hb => (m1.1.lt b hb).1
           have B1 := Lib.hid ((BR.out.drew.trans (b1.mono hs0)).trans (ba.mono (Nat.le_trans hs0 hs1)))
           have hhi : wr.heap.size ≤ (w1.alloc (.cells #[.int .i64 x.1, .slice A1 n1 c1] 51)).heap.size := by simp; omega))
      all_goals
        rw [show ((x.1, x.2) : Int × List Int) = x from rfl, ← HST.out] at h6
        have H6 := Lib.hid h6
        have B6 := Lib.hid b6
        clear h6 b6 hown6 hgrow6 hwh6 hrow hsub mx hxb
        go_wp2
        go_roundw
        case rel => exact ⟨k + 1, _, _, by omega, by go_num, rfl, H6.out, B6.out⟩
        case measure => simp [intOf]; omega
    · obtain rfl : k = n := by omega
      rw [List.take_of_length_le (by omega)] at hown
      go_wp2
      go_ret
      exact ⟨_, _, _, rfl, hown, hbel⟩
end Go.Proofs.Ytdhnhgppapkikaa

-- CellA: A cell of a node; a cell put among others.
namespace Go.Proofs.Ytdhnhgppapkikaa
set_option maxRecDepth 20000
set_option linter.unusedVariables false
set_option linter.unusedSimpArgs false
open Go.RowKit

theorem l4CellOf_any (v : Value) (nd : MNode) (B : Nat) (w : World) (hB : B ≤ w.heap.size) (hv : NodeIn w B v nd) (hlen : (rawBytes nd).length ≤ 1048576) :
    Calls Try.prog 21 #[v] w fun e w' => ∃ g n c, e = .returned (.agg #[.int .i64 (nameOf (rawBytes nd)), .slice (some ⟨g, 0, none⟩) n c]) ∧ Mine w' w.heap.size (some ⟨g, 0, none⟩) n c (rawBytes nd) ∧ Below w.heap.size w w' := by
  have HV := Lib.hid (hv.more hB)
  obtain ⟨Ap, np, cp, Ak, nk, ck, rfl, hnp, hnk, hsz, hp, hk⟩ := hv
  clear hp hk
  obtain ⟨w2, hw2⟩ : ∃ w2, (w.alloc (.cells #[.int .i64 nd.kind, .slice Ap np cp, .slice Ak nk ck, .string nd.val] 35)).alloc (.cells #[.int .i64 0, .slice none 0 0] 51) = w2 := ⟨_, rfl⟩
  have x2 : Box w2 (w.heap.size + 1) _ _ := hw2 ▸ heap2_1 _ _ _
  have s2 : w2.heap.size = w.heap.size + 2 := hw2 ▸ size2 _ _ _
  have b2 : Below w.heap.size w w2 := hw2 ▸ below2 _ _ _
  have X2 := Lib.hid x2
  have B2 := Lib.hid b2
  have HW := Lib.hid hw2
  clear x2 b2 hw2
  go_enter Try.func21, Try.ntmps21
  go_wp2_with fail
  rw [HW.out]
  refine (l3Bytes_any _ nd w.heap.size w2 (by omega) (HV.out.below B2.out)).mono ?_
  rintro e w3 ⟨g3, n3, c3, rfl, m3, b3⟩
  have hs3 := b3.size
  have hl3 := m3.len
  have hby := m3.byts
  have X3 := Lib.hid (X2.out.below b3 (by omega))
  have B3 := Lib.hid (B2.out.trans (b3.mono (by omega)))
  have M3 := Lib.hid m3
  have BY := Lib.hid hby
  clear m3 b3 hby
  have q0 := X3.out.cell 0
  have q1 := X3.out.cell 1
  have f3 := X3.out.free
  simp at q0 q1
  go_wp2_with fail
  refine (specName_any _ n3 c3 (rawBytes nd) _ w3 (by omega) BY.out).mono ?_
  rintro e w' ⟨rfl, rfl⟩
  have hX := (X3.out.set_ 0 (.int .i64 (nameOf (rawBytes nd)))).set_ 1 (.slice (some ⟨g3, 0, none⟩) n3 c3)
  have hS : Touch (fun k => k = w.heap.size + 1) w3 _ := (touch_set (S := fun k => k = w.heap.size + 1) w3 (w.heap.size + 1) 0 (.int .i64 (nameOf (rawBytes nd))) rfl).trans (touch_set _ (w.heap.size + 1) 1 (.slice (some ⟨g3, 0, none⟩) n3 c3) rfl)
  have HX := Lib.hid hX
  have HS := Lib.hid hS
  clear hX hS
  go_wp2
  refine bodyPost_ret (v := .agg #[.int .i64 (nameOf (rawBytes nd)), .slice (some ⟨g3, 0, none⟩) n3 c3]) (results_cell_row Try.results21 _ _ (w.heap.size + 1) _ _ _ _ rfl HX.out Try.underlying51 rfl (by kernel_rfl)) rfl ?_
  have hle := B3.out.size
  exact ⟨g3, n3, c3, rfl, (M3.out.touch HS.out (fun g hg e => by have := (M3.out.1.lt g hg).1; omega)).base (by omega), B3.out.trans (HS.out.below hle (fun k hk e => by omega))⟩

/-- cells whose names rise. -/
def Rise (cs : List (Int × List Int)) : Prop := ∀ i j, i < j → j < cs.length → (cel cs i).1 < (cel cs j).1
/-- where a name belongs. -/
def placeC (cs : List (Int × List Int)) (m : Int) : Nat := cs.findIdx fun c => decide (m < c.1)
theorem placeC_le (cs : List (Int × List Int)) (m : Int) : placeC cs m ≤ cs.length := List.findIdx_le_length
theorem placeC_at (cs : List (Int × List Int)) (m : Int) (k : Nat) (hk : k ≤ cs.length) (h0 : ∀ j, j < k → (cel cs j).1 ≤ m) (h1 : k < cs.length → m < (cel cs k).1) : placeC cs m = k := by
  have hle := placeC_le cs m
  have hc : ∀ i (h : i < cs.length), cs[i] = cel cs i := fun i h => by unfold cel; rw [List.getElem?_eq_getElem h]; rfl
  rcases Nat.lt_trichotomy (placeC cs m) k with h | h | h
  · have h2 := List.findIdx_getElem (w := show cs.findIdx (fun c => decide (m < c.1)) < cs.length from by unfold placeC at h; omega)
    have h3 := h0 _ h
    rw [hc] at h2
    have h2 : m < (cel cs (placeC cs m)).1 := of_decide_eq_true h2
    omega
  · exact h
  · have h2 := List.not_of_lt_findIdx (show k < cs.findIdx fun c => decide (m < c.1) from h)
    have hkl : k < cs.length := by omega
    rw [hc k hkl] at h2
    have h2 : (cel cs k).1 ≤ m := by simpa using h2
    have := h1 hkl
    omega
def insC (cs : List (Int × List Int)) (m : Int) (bs : List Int) : List (Int × List Int) := cs.take (placeC cs m) ++ (m, bs) :: cs.drop (placeC cs m)
theorem insC_len (cs : List (Int × List Int)) (m : Int) (bs : List Int) : (insC cs m bs).length = cs.length + 1 := by
  have := placeC_le cs m
  unfold insC; simp; omega
theorem cvs_len (n : Nat) (cs : List (Int × List Int)) (sl : Nat → Sub) : (cvs n cs sl).length = n * 2 := by simp [cvs]
theorem cel_ins (cs : List (Int × List Int)) (k : Nat) (x : Int × List Int) (hk : k ≤ cs.length) (i : Nat) : cel (cs.take k ++ x :: cs.drop k) i = if i < k then cel cs i else if i = k then x else cel cs (i - 1) := by
  have hl : (cs.take k).length = k := by simp; omega
  unfold cel
  by_cases h : i < k
  · rw [if_pos h, List.getElem?_append_left (by omega), List.getElem?_take_of_lt h]
  · rw [if_neg h, List.getElem?_append_right (by omega), hl]
    by_cases h1 : i = k
    · subst h1; simp
    · rw [if_neg h1, show i - k = i - 1 - k + 1 by omega, List.getElem?_cons_succ, List.getElem?_drop, show k + (i - 1 - k) = i - 1 by omega]
/-- the row of cells with one put in. -/
theorem cvs_ins (n k : Nat) (cs : List (Int × List Int)) (sl : Nat → Sub) (m : Int) (bs : List Int) (x : Sub) (hk : k ≤ n) (hl : cs.length = n) :
    ((cvs n cs sl).take (k * 2) ++ [.int .i64 m, x.v]) ++ (cvs n cs sl).drop (k * 2) = cvs (n + 1) (cs.take k ++ (m, bs) :: cs.drop k) (fun i => if i < k then sl i else if i = k then x else sl (i - 1)) := by
  have hlen := cvs_len n cs sl
  have ht : ((cvs n cs sl).take (k * 2)).length = k * 2 := by rw [List.length_take, hlen]; omega
  have ht2 : ((cvs n cs sl).take (k * 2) ++ [.int .i64 m, x.v]).length = k * 2 + 2 := by rw [List.length_append, ht]; rfl
  apply List.ext_getElem?
  intro j
  by_cases hj : j < (n + 1) * 2
  · rw [cvs_at _ _ _ j hj]
    unfold cf
    rw [cel_ins cs k _ (by omega)]
    by_cases h1 : j < k * 2
    · rw [List.getElem?_append_left (by omega), List.getElem?_append_left (by omega), List.getElem?_take_of_lt h1, cvs_at _ _ _ _ (by omega)]
      unfold cf
      simp only [show j / 2 < k by omega, if_true]
    · by_cases h2 : j < k * 2 + 2
      · rw [List.getElem?_append_left (by omega), List.getElem?_append_right (by omega), ht]
        simp only [show ¬ j / 2 < k by omega, show j / 2 = k by omega, if_false, if_true]
        by_cases h3 : j = k * 2
        · subst h3; simp
        · rw [show j - k * 2 = 1 by omega, if_neg (by omega)]; simp
      · rw [List.getElem?_append_right (by omega), ht2, List.getElem?_drop, cvs_at _ _ _ _ (by omega)]
        unfold cf
        simp only [show ¬ j / 2 < k by omega, show ¬ j / 2 = k by omega, if_false]
        rw [show (k * 2 + (j - (k * 2 + 2))) % 2 = j % 2 by omega, show (k * 2 + (j - (k * 2 + 2))) / 2 = j / 2 - 1 by omega]
  · rw [List.getElem?_eq_none (by rw [List.length_append, ht2, List.length_drop, hlen]; omega), List.getElem?_eq_none (by rw [cvs_len]; omega)]
end Go.Proofs.Ytdhnhgppapkikaa

-- CellP: The model's putting of a cell among others.
namespace Go.Proofs.Ytdhnhgppapkikaa
set_option maxRecDepth 20000
set_option linter.unusedVariables false
set_option linter.unusedSimpArgs false
open Go.RowKit

theorem OwnC.cap {w : World} {lo hi n c : Nat} {A : Option Addr} {cs : List (Int × List Int)} (h : OwnC w lo hi A n c cs) : n ≤ c := by
  obtain ⟨hl, hu, sl, hr, hs⟩ := h
  rcases hr.2 with ⟨e, he⟩ | ⟨g, cap, cur, e, _, _, hc, _⟩
  · have := cvs_len n cs sl
    rw [he] at this
    simp at this; omega
  · cases e; exact hc
theorem OwnC.open0 {w : World} {lo hi g c : Nat} (h : OwnC w lo hi (some ⟨g, 0, none⟩) 0 c []) : w.ownsRow lo 51 2 (.slice (some ⟨g, 0, none⟩) 0 c) 0 [] := by
  obtain ⟨_, _, sl, hr, _⟩ := h
  simpa [cvs] using hr
/-- a cell put in among those that the call owns: in a new row. -/
theorem OwnC.inserted {w w' : World} {lo hi n n' c' g k cap : Nat} {r : Option Nat} {A' : Option Addr} {cs : List (Int × List Int)} {bs : List Int} {m : Int} {sl : Nat → Sub}
    (hl : cs.length = n) (hs : Subs w lo hi r n cs sl) (hx : Mine w lo A' n' c' bs) (hxb : ∀ b, (Value.slice A' n' c').ownBlock = some b → hi ≤ b) (hb : Below w.heap.size w w')
    (hr : w'.ownsRow w.heap.size 51 2 (.slice (some ⟨g, 0, none⟩) (n + 1) cap) (n + 1) (((cvs n cs sl).take (k * 2) ++ [.int .i64 m, .slice A' n' c']) ++ (cvs n cs sl).drop (k * 2)))
    (hk : k ≤ n) (hlo : lo ≤ w.heap.size) (hh : hi ≤ w.heap.size) : OwnC w' lo w'.heap.size (some ⟨g, 0, none⟩) (n + 1) cap (cs.take k ++ (m, bs) :: cs.drop k) := by
  have hsz := hb.size
  have hlt : ∀ i, i < n → ∀ b, (sl i).v.ownBlock = some b → b < w.heap.size := fun i hi b hb => (World.ownsRow.lt (hs.mine i hi).1 b hb).2
  have hxl : ∀ b, (Value.slice A' n' c').ownBlock = some b → b < w.heap.size := fun b hb => (World.ownsRow.lt hx.1 b hb).2
  refine ⟨by simp; omega, fun b h => (World.ownsRow.lt hr b h).2, fun i => if i < k then sl i else if i = k then ⟨A', n', c', bs⟩ else sl (i - 1), ?_, ?_⟩
  · rw [← cvs_ins n k cs sl m bs ⟨A', n', c', bs⟩ hk hl]
    refine ⟨hr.1, ?_⟩
    rcases hr.2 with h | ⟨g, cap, cur, hv, hg, rest⟩
    · exact .inl h
    · exact .inr ⟨g, cap, cur, hv, by omega, rest⟩
  · have hgw : w.heap.size ≤ g := (World.ownsRow.lt hr g (by simp [Value.ownBlock])).1
    have own1 : (Value.slice (some (⟨g, 0, none⟩ : Addr)) (n + 1) cap).ownBlock = some g := by simp [Value.ownBlock]
    refine ⟨fun i hi => ?_, fun i j hi hj hij b => ?_, fun i hi b => ?_, fun i hi b => ?_⟩
    · rw [cel_ins cs k _ (by omega)]
      by_cases h : i < k
      · simp only [h, if_true]
        exact (hs.mine i (by omega)).below hb
      · by_cases h1 : i = k
        · subst h1
          simp only [h, if_true, if_false]
          exact hx.below hb
        · simp only [h, h1, if_false]
          exact (hs.mine (i - 1) (by omega)).below hb
    · by_cases h1 : i < k <;> by_cases h2 : j < k <;> by_cases h3 : i = k <;> by_cases h4 : j = k <;> simp only [h1, h2, h3, h4, if_true, if_false, Nat.lt_irrefl] <;> first
        | omega
        | exact hs.apart _ _ (by omega) (by omega) (by omega) b
        | (intro e1 e2; have := hxb b e1; have := hs.under _ (by omega) b e2; omega)
        | (intro e1 e2; have := hxb b e2; have := hs.under _ (by omega) b e1; omega)
    · rw [own1]
      intro e1 e2
      cases e2
      by_cases h : i < k
      · simp only [h, if_true] at e1
        have := hlt i (by omega) _ e1; omega
      · by_cases h1 : i = k
        · simp only [h1, Nat.lt_irrefl, if_true, if_false] at e1
          have := hxl _ e1; omega
        · simp only [h, h1, if_false] at e1
          have := hlt (i - 1) (by omega) _ e1; omega
    · intro e1
      by_cases h : i < k
      · simp only [h, if_true] at e1
        have := hlt i (by omega) _ e1; omega
      · by_cases h1 : i = k
        · simp only [h1, Nat.lt_irrefl, if_true, if_false] at e1
          have := hxl _ e1; omega
        · simp only [h, h1, if_false] at e1
          have := hlt (i - 1) (by omega) _ e1; omega
theorem cvs_one (n : Nat) (cs : List (Int × List Int)) (sl : Nat → Sub) : ∀ u ∈ cvs n cs sl, u.oneCell' = true := by
  intro u hu
  unfold cvs at hu
  obtain ⟨j, _, rfl⟩ := List.mem_map.1 hu
  unfold cf
  split <;> rfl
theorem l4Add_any (g n c lo hi : Nat) (cs : List (Int × List Int)) (m : Int) (A' : Option Addr) (n' c' : Nat) (bs : List Int) (w : World) (hn : n ≤ 1048575) (ho : OwnC w lo hi (some ⟨g, 0, none⟩) n c cs) (hhi : hi ≤ w.heap.size)
    (hx : Mine w lo A' n' c' bs) (hxb : ∀ b, (Value.slice A' n' c').ownBlock = some b → hi ≤ b) (hR : Rise cs) :
    Calls Try.prog 22 #[.slice (some ⟨g, 0, none⟩) n c, .agg #[.int .i64 m, .slice A' n' c']] w fun e w' => Below w.heap.size w w' ∧
      ((findC cs m < n ∧ e = .returned (.slice (some ⟨g, 0, none⟩) n c)) ∨
        (¬ findC cs m < n ∧ ∃ g' c2, e = .returned (.slice (some ⟨g', 0, none⟩) (n + 1) c2) ∧ OwnC w' lo w'.heap.size (some ⟨g', 0, none⟩) (n + 1) c2 (insC cs m bs))) := by
  have hlen := ho.len
  have HO := Lib.hid ho
  have HX := Lib.hid hx
  have HXB := Lib.hid hxb
  have HR := Lib.hid hR
  clear ho hx hxb hR
  obtain ⟨i0, hi0, hz0, hz1, hz2⟩ := info_parts Try.infoC
  have HI := Lib.hid hi0
  have HZ0 := Lib.hid hz0
  have HZ1 := Lib.hid hz1
  have HZ2 := Lib.hid hz2
  clear hi0 hz0 hz1 hz2
  obtain ⟨w1, hw1⟩ : ∃ w1, w.alloc (.cells #[.int .i64 m, .slice A' n' c'] 51) = w1 := ⟨_, rfl⟩
  have x1 : Box w1 w.heap.size _ _ := hw1 ▸ heap_alloc_new _ _
  have s1 : w1.heap.size = w.heap.size + 1 := hw1 ▸ by simp
  have b1 : Below w.heap.size w w1 := hw1 ▸ (Below.refl _ _).alloc (Nat.le_refl _) _
  have X1 := Lib.hid x1
  have B1 := Lib.hid b1
  have HW := Lib.hid hw1
  have q10 := X1.out.cell 0
  simp at q10
  clear x1 b1 hw1
  have O1 := Lib.hid (HO.out.below (B1.out.mono hhi))
  go_enter Try.func22, Try.ntmps22
  go_wp2_with fail
  rw [HW.out]
  refine (l4Find_any _ n c cs m _ w1 (by omega) O1.out.cells).mono ?_
  rintro e w' ⟨rfl, rfl⟩
  by_cases hf : findC cs m < n
  · rw [if_pos hf]
    have hd : decide ((0 : Int) ≤ ((findC cs m : Nat) : Int)) = true := decide_eq_true (by omega)
    obtain ⟨k, hk⟩ : ∃ k, findC cs m = k := ⟨_, rfl⟩
    have HF := Lib.hid hk
    rw [hk] at hd hf ⊢
    clear hk
    go_wp2
    go_ret
    exact ⟨B1.out, .inl ⟨by rw [HF.out]; exact hf, rfl⟩⟩
  · rw [if_neg hf]
    have HF := Lib.hid hf
    clear hf
    go_wp2
    go_loopw [5] (fun i wr => ∃ k : Nat, k ≤ n ∧ i = .int .i64 k ∧ (∀ j, k ≤ j → j < n → m < (cel cs j).1) ∧ Below w1.heap.size w1 wr) (fun i _ => (intOf i).toNat)
    case atStart => exact ⟨n, Nat.le_refl _, rfl, fun j h1 h2 => by omega, Below.refl _ _⟩
    case round =>
      obtain ⟨k, hk, rfl, hgt, hbr⟩ := hrel
      have HBR := Lib.hid hbr
      have BR := Lib.hid (B1.out.trans (hbr.mono (by omega)))
      have OR := Lib.hid (O1.out.below (hbr.mono (by omega)))
      have XR := Lib.hid (X1.out.below hbr (by omega))
      have hsr : w1.heap.size ≤ wr.heap.size := hbr.size
      have hq := XR.out.cell 0
      simp at hq
      have GT := Lib.hid hgt
      clear hbr q10 hgt
      have hcap := OR.out.cap
      by_cases hrun : 0 < k ∧ m < (cel cs (k - 1)).1
      · obtain ⟨hk0, hlt⟩ := hrun
        have hia := index_cell_pred g 0 n c k hk0 (by omega)
        simp only [Nat.zero_add] at hia
        have hwk : IntKind.i64.wrap ((k : Int) - 1) = (k : Int) - 1 := by rw [IntKind.wrap_i64]; omega
        have hd : decide ((0 : Int) < (k : Int)) = true := decide_eq_true (by omega)
        have p0 := OR.out.cell0 (k := k - 1) (by omega)
        obtain ⟨y, hy⟩ : ∃ y, (cel cs (k - 1)).1 = y := ⟨_, rfl⟩
        rw [hy] at p0 hlt
        have hdR : decide (m < y) = true := decide_eq_true hlt
        go_wp2
        go_quiet (fail)
        go_wp2
        go_roundw
        case rel =>
          refine ⟨k - 1, by omega, by go_num, fun j h1 h2 => ?_, below_drewN HBR.out _⟩
          rcases Nat.lt_or_ge j k with h | h
          · rw [show j = k - 1 by omega, hy]; exact hlt
          · exact GT.out j h h2
        case measure => simp [intOf]; omega
      · have hpl := placeC_at cs m k (by omega) (fun j hj => by
          rcases Nat.lt_or_ge j (k - 1) with h | h
          · have := HR.out j (k - 1) h (by omega); omega
          · rw [show j = k - 1 by omega]; omega) (fun h => GT.out k (Nat.le_refl _) (by omega))
        have PL := Lib.hid hpl
        have NR := Lib.hid hrun
        clear hpl hrun
        by_cases hk0 : 0 < k
        · have hia := index_cell_pred g 0 n c k hk0 (by omega)
          simp only [Nat.zero_add] at hia
          have hwk : IntKind.i64.wrap ((k : Int) - 1) = (k : Int) - 1 := by rw [IntKind.wrap_i64]; omega
          have hd : decide ((0 : Int) < (k : Int)) = true := decide_eq_true (by omega)
          have p0 := OR.out.cell0 (k := k - 1) (by omega)
          obtain ⟨y, hy⟩ : ∃ y, (cel cs (k - 1)).1 = y := ⟨_, rfl⟩
          have hlt := NR.out
          rw [hy] at p0 hlt
          have hdR : decide (m < y) = false := decide_eq_false (by omega)
          clear hlt
          go_wp2
          go_quiet (fail)
          clear hia hwk hd p0 hdR
          have B2 := Lib.hid (below_drewN BR.out nq)
          have O2 := Lib.hid (OR.out.below (below_drewN (Below.refl _ _) nq))
          have X2 := Lib.hid (XR.out.below (below_drewN (Below.refl _ _) nq) XR.out.lt)
          have M2 := Lib.hid ((HX.out.below BR.out).below (below_drewN (Below.refl _ _) nq))
          have hs2 : w.heap.size ≤ (wr.drewN nq).heap.size := B2.out.size
          generalize wr.drewN nq = w2 at B2 O2 X2 M2 hs2 ⊢
          clear hq hsr
          obtain ⟨hl, hu, sl, hrow, hsub⟩ := O2.out
          have HROW := Lib.hid hrow
          have HSUB := Lib.hid hsub
          have HL := Lib.hid hl
          clear hrow hsub hl
          have hg : g < w.heap.size := Nat.lt_of_lt_of_le (hu g (by simp [Value.ownBlock])) hhi
          have E0 := Lib.hid (OwnC.made0 w2).open0
          have ba : Below w2.heap.size w2 (w2.alloc (.cells #[] 51)) := (Below.refl _ _).alloc (Nat.le_refl _) _
          have BA := Lib.hid ba
          clear ba
          have hrd : ∀ (W : World), Below w.heap.size w2 W → ∀ j, j < n * 2 → W.cell? ⟨g, j, none⟩ = (cvs n cs sl)[j]? := fun W hW j hj => by
            rw [hW.cell (p := ⟨g, j, none⟩) hg]
            rw [World.ownsRow.cellAt HROW.out j (by omega)]
          have RD := Lib.hid hrd
          clear hrd
          go_wp2_with (at_builtin; refine wpList_append_own _ rfl _ _ 29 rfl w2.heap.size 51 i0 (.agg #[.int .i64 0, .slice none 0 0]) 2 32 Try.underlying29 HI.out HZ0.out HZ1.out HZ2.out rfl (by decide) _ _ _ rfl E0.out ⟨g, 0, none⟩ k _ ((cvs n cs sl).take (k * 2)) rfl ?bp0 ?bp1 ?bp2 ?bp3 ?bp4 ?bp5 ?_)
          case bp0 => rw [List.length_take, cvs_len]; omega
          case bp1 =>
            intro j u hj
            have hadd : (⟨g, 0, none⟩ : Addr).add j = ⟨g, j, none⟩ := by unfold Addr.add; split <;> simp_all
            have hjl : j < k * 2 := by
              rcases Nat.lt_or_ge j (k * 2) with h | h
              · exact h
              · rw [List.getElem?_eq_none (by rw [List.length_take, cvs_len]; omega)] at hj; cases hj
            rw [hadd, RD.out _ (BA.out.mono hs2) j (by omega), ← hj, List.getElem?_take_of_lt hjl]
          case bp2 => intro u hu; exact cvs_one n cs sl u (List.mem_of_mem_take hu)
          case bp3 => unfold maxLen; omega
          case bp4 => omega
          case bp5 => simp
          intro v3 w3 hown3 hgrow3 hnil3
          obtain ⟨g3, c3, rfl⟩ : ∃ g3 c3, v3 = .slice (some ⟨g3, 0, none⟩) k c3 := by
            rcases hown3.2 with ⟨e, _⟩ | ⟨g, cap, cur, e, _⟩
            · exact absurd e hnil3
            · exact ⟨g, cap, e⟩
          have b3 : Below w2.heap.size w2 w3 := BA.out.grown hgrow3 (by simp) (fun b hb => by simp [Value.ownBlock] at hb; omega)
          have hs3 : w2.heap.size ≤ w3.heap.size := b3.size
          have X3 := Lib.hid (X2.out.below b3 X2.out.lt)
          have OW3 := Lib.hid hown3
          have B3 := Lib.hid b3
          clear hown3 hgrow3 hnil3 b3
          have q30 := X3.out.cell 0
          have q31 := X3.out.cell 1
          simp at q30 q31
          go_wp2_with (at_builtin; refine wpList_append_lies _ rfl _ _ 29 rfl w2.heap.size 51 i0 (.agg #[.int .i64 0, .slice none 0 0]) 2 32 Try.underlying29 HI.out HZ0.out HZ1.out HZ2.out rfl (by decide) _ _ _ rfl (own_touch (S := fun _ => False) OW3.out (Touch.of_below ((Below.refl _ _).alloc (Nat.le_refl _) _)) (fun _ _ h => h)) ⟨w3.heap.size, 0, none⟩ 1 1 [.int .i64 m, .slice A' n' c'] rfl ?bq0 ?bq1 ?bq2 (by omega) ?bq3 ?bq4 ?bq5 _ rfl ?_)
          case bq0 => rfl
          case bq1 =>
            intro j u hj
            match j, hj with
            | 0, hj => simp at hj; subst hj; simp [Addr.add]
            | 1, hj => simp at hj; subst hj; simp [Addr.add]
          case bq2 => intro u hu; simp at hu; rcases hu with rfl | rfl <;> rfl
          case bq3 => unfold maxLen; omega
          case bq4 => omega
          case bq5 => simp; omega
          intro g4 c4 w4 hown4 hgrow4 _ _
          have b4 : Below w2.heap.size w2 w4 := (B3.out.trans (((Below.refl w3.heap.size w3).alloc (Nat.le_refl _) _).mono hs3)).grown hgrow4 (by simp; omega) (fun b hb => (OW3.out.lt b hb).1)
          have hs4 : w2.heap.size ≤ w4.heap.size := b4.size
          have OW4 := Lib.hid hown4
          obtain ⟨off, hoff, hofk⟩ : ∃ off, (if c = k then (some ⟨g, 0, none⟩ : Option Addr) else some ⟨g, k * 2, none⟩) = some ⟨g, off, none⟩ ∧ (k < n → off = k * 2) := by
            by_cases h : c = k
            · exact ⟨0, if_pos h, fun h2 => by omega⟩
            · exact ⟨k * 2, if_neg h, fun _ => rfl⟩
          have B4 := Lib.hid b4
          clear hown4 hgrow4 b4 q30 q31
          go_wp2_with (at_builtin; refine wpList_append_own _ rfl _ _ 29 rfl w2.heap.size 51 i0 (.agg #[.int .i64 0, .slice none 0 0]) 2 32 Try.underlying29 HI.out HZ0.out HZ1.out HZ2.out rfl (by decide) _ _ _ rfl OW4.out ⟨g, off, none⟩ (n - k) _ ((cvs n cs sl).drop (k * 2)) rfl ?br0 ?br1 ?br2 ?br3 ?br4 ?br5 ?_)
          case br0 => rw [List.length_drop, cvs_len]; omega
          case br1 =>
            intro j u hj
            have hadd : (⟨g, off, none⟩ : Addr).add j = ⟨g, off + j, none⟩ := by unfold Addr.add; split <;> simp_all
            have hjl : j < n * 2 - k * 2 := by
              rcases Nat.lt_or_ge j (n * 2 - k * 2) with h | h
              · exact h
              · rw [List.getElem?_eq_none (by rw [List.length_drop, cvs_len]; omega)] at hj; cases hj
            rw [hadd, hofk (by omega), RD.out _ (B4.out.mono hs2) (k * 2 + j) (by omega), ← hj, List.getElem?_drop]
          case br2 => intro u hu; exact cvs_one n cs sl u (List.mem_of_mem_drop hu)
          case br3 => unfold maxLen; omega
          case br4 => omega
          case br5 => omega
          intro v5 w5 hown5 hgrow5 hnil5
          obtain ⟨g5, c5, rfl⟩ : ∃ g5 c5, v5 = .slice (some ⟨g5, 0, none⟩) (k + 1 + (n - k)) c5 := by
            rcases hown5.2 with ⟨e, _⟩ | ⟨g, cap, cur, e, _⟩
            · exact absurd e hnil5
            · exact ⟨g, cap, e⟩
          have b5 : Below w2.heap.size w2 w5 := B4.out.grown hgrow5 (by omega) (fun b hb => (OW4.out.lt b hb).1)
          have B5 := Lib.hid b5
          have OW5 := Lib.hid hown5
          clear hown5 hgrow5 hnil5 b5
          rw [show k + 1 + (n - k) = n + 1 by omega] at OW5 ⊢
          go_wp2
          go_ret
          refine ⟨B2.out.trans (B5.out.mono hs2), .inr ⟨HF.out, g5, c5, rfl, ?_⟩⟩
          unfold insC
          rw [PL.out]
          exact OwnC.inserted HL.out HSUB.out M2.out HXB.out B5.out (by simpa using OW5.out) hk (Nat.le_trans (HROW.out.lt g (by simp [Value.ownBlock])).1 (by omega)) (by omega)
        · have hd : decide ((0 : Int) < (k : Int)) = false := decide_eq_false (by omega)
          go_wp2
          go_quiet (fail)
          clear hd
          have B2 := Lib.hid (below_drewN BR.out nq)
          have O2 := Lib.hid (OR.out.below (below_drewN (Below.refl _ _) nq))
          have X2 := Lib.hid (XR.out.below (below_drewN (Below.refl _ _) nq) XR.out.lt)
          have M2 := Lib.hid ((HX.out.below BR.out).below (below_drewN (Below.refl _ _) nq))
          have hs2 : w.heap.size ≤ (wr.drewN nq).heap.size := B2.out.size
          generalize wr.drewN nq = w2 at B2 O2 X2 M2 hs2 ⊢
          clear hq hsr
          obtain ⟨hl, hu, sl, hrow, hsub⟩ := O2.out
          have HROW := Lib.hid hrow
          have HSUB := Lib.hid hsub
          have HL := Lib.hid hl
          clear hrow hsub hl
          have hg : g < w.heap.size := Nat.lt_of_lt_of_le (hu g (by simp [Value.ownBlock])) hhi
          have E0 := Lib.hid (OwnC.made0 w2).open0
          have ba : Below w2.heap.size w2 (w2.alloc (.cells #[] 51)) := (Below.refl _ _).alloc (Nat.le_refl _) _
          have BA := Lib.hid ba
          clear ba
          have hrd : ∀ (W : World), Below w.heap.size w2 W → ∀ j, j < n * 2 → W.cell? ⟨g, j, none⟩ = (cvs n cs sl)[j]? := fun W hW j hj => by
            rw [hW.cell (p := ⟨g, j, none⟩) hg]
            rw [World.ownsRow.cellAt HROW.out j (by omega)]
          have RD := Lib.hid hrd
          clear hrd
          go_wp2_with (at_builtin; refine wpList_append_own _ rfl _ _ 29 rfl w2.heap.size 51 i0 (.agg #[.int .i64 0, .slice none 0 0]) 2 32 Try.underlying29 HI.out HZ0.out HZ1.out HZ2.out rfl (by decide) _ _ _ rfl E0.out ⟨g, 0, none⟩ k _ ((cvs n cs sl).take (k * 2)) rfl ?cp0 ?cp1 ?cp2 ?cp3 ?cp4 ?cp5 ?_)
          case cp0 => rw [List.length_take, cvs_len]; omega
          case cp1 =>
            intro j u hj
            have hadd : (⟨g, 0, none⟩ : Addr).add j = ⟨g, j, none⟩ := by unfold Addr.add; split <;> simp_all
            have hjl : j < k * 2 := by
              rcases Nat.lt_or_ge j (k * 2) with h | h
              · exact h
              · rw [List.getElem?_eq_none (by rw [List.length_take, cvs_len]; omega)] at hj; cases hj
            rw [hadd, RD.out _ (BA.out.mono hs2) j (by omega), ← hj, List.getElem?_take_of_lt hjl]
          case cp2 => intro u hu; exact cvs_one n cs sl u (List.mem_of_mem_take hu)
          case cp3 => unfold maxLen; omega
          case cp4 => omega
          case cp5 => simp
          intro v3 w3 hown3 hgrow3 hnil3
          obtain ⟨g3, c3, rfl⟩ : ∃ g3 c3, v3 = .slice (some ⟨g3, 0, none⟩) k c3 := by
            rcases hown3.2 with ⟨e, _⟩ | ⟨g, cap, cur, e, _⟩
            · exact absurd e hnil3
            · exact ⟨g, cap, e⟩
          have b3 : Below w2.heap.size w2 w3 := BA.out.grown hgrow3 (by simp) (fun b hb => by simp [Value.ownBlock] at hb; omega)
          have hs3 : w2.heap.size ≤ w3.heap.size := b3.size
          have X3 := Lib.hid (X2.out.below b3 X2.out.lt)
          have OW3 := Lib.hid hown3
          have B3 := Lib.hid b3
          clear hown3 hgrow3 hnil3 b3
          have q30 := X3.out.cell 0
          have q31 := X3.out.cell 1
          simp at q30 q31
          go_wp2_with (at_builtin; refine wpList_append_lies _ rfl _ _ 29 rfl w2.heap.size 51 i0 (.agg #[.int .i64 0, .slice none 0 0]) 2 32 Try.underlying29 HI.out HZ0.out HZ1.out HZ2.out rfl (by decide) _ _ _ rfl (own_touch (S := fun _ => False) OW3.out (Touch.of_below ((Below.refl _ _).alloc (Nat.le_refl _) _)) (fun _ _ h => h)) ⟨w3.heap.size, 0, none⟩ 1 1 [.int .i64 m, .slice A' n' c'] rfl ?cq0 ?cq1 ?cq2 (by omega) ?cq3 ?cq4 ?cq5 _ rfl ?_)
          case cq0 => rfl
          case cq1 =>
            intro j u hj
            match j, hj with
            | 0, hj => simp at hj; subst hj; simp [Addr.add]
            | 1, hj => simp at hj; subst hj; simp [Addr.add]
          case cq2 => intro u hu; simp at hu; rcases hu with rfl | rfl <;> rfl
          case cq3 => unfold maxLen; omega
          case cq4 => omega
          case cq5 => simp; omega
          intro g4 c4 w4 hown4 hgrow4 _ _
          have b4 : Below w2.heap.size w2 w4 := (B3.out.trans (((Below.refl w3.heap.size w3).alloc (Nat.le_refl _) _).mono hs3)).grown hgrow4 (by simp; omega) (fun b hb => (OW3.out.lt b hb).1)
          have hs4 : w2.heap.size ≤ w4.heap.size := b4.size
          have OW4 := Lib.hid hown4
          obtain ⟨off, hoff, hofk⟩ : ∃ off, (if c = k then (some ⟨g, 0, none⟩ : Option Addr) else some ⟨g, k * 2, none⟩) = some ⟨g, off, none⟩ ∧ (k < n → off = k * 2) := by
            by_cases h : c = k
            · exact ⟨0, if_pos h, fun h2 => by omega⟩
            · exact ⟨k * 2, if_neg h, fun _ => rfl⟩
          have B4 := Lib.hid b4
          clear hown4 hgrow4 b4 q30 q31
          go_wp2_with (at_builtin; refine wpList_append_own _ rfl _ _ 29 rfl w2.heap.size 51 i0 (.agg #[.int .i64 0, .slice none 0 0]) 2 32 Try.underlying29 HI.out HZ0.out HZ1.out HZ2.out rfl (by decide) _ _ _ rfl OW4.out ⟨g, off, none⟩ (n - k) _ ((cvs n cs sl).drop (k * 2)) rfl ?cr0 ?cr1 ?cr2 ?cr3 ?cr4 ?cr5 ?_)
          case cr0 => rw [List.length_drop, cvs_len]; omega
          case cr1 =>
            intro j u hj
            have hadd : (⟨g, off, none⟩ : Addr).add j = ⟨g, off + j, none⟩ := by unfold Addr.add; split <;> simp_all
            have hjl : j < n * 2 - k * 2 := by
              rcases Nat.lt_or_ge j (n * 2 - k * 2) with h | h
              · exact h
              · rw [List.getElem?_eq_none (by rw [List.length_drop, cvs_len]; omega)] at hj; cases hj
            rw [hadd, hofk (by omega), RD.out _ (B4.out.mono hs2) (k * 2 + j) (by omega), ← hj, List.getElem?_drop]
          case cr2 => intro u hu; exact cvs_one n cs sl u (List.mem_of_mem_drop hu)
          case cr3 => unfold maxLen; omega
          case cr4 => omega
          case cr5 => omega
          intro v5 w5 hown5 hgrow5 hnil5
          obtain ⟨g5, c5, rfl⟩ : ∃ g5 c5, v5 = .slice (some ⟨g5, 0, none⟩) (k + 1 + (n - k)) c5 := by
            rcases hown5.2 with ⟨e, _⟩ | ⟨g, cap, cur, e, _⟩
            · exact absurd e hnil5
            · exact ⟨g, cap, e⟩
          have b5 : Below w2.heap.size w2 w5 := B4.out.grown hgrow5 (by omega) (fun b hb => (OW4.out.lt b hb).1)
          have B5 := Lib.hid b5
          have OW5 := Lib.hid hown5
          clear hown5 hgrow5 hnil5 b5
          rw [show k + 1 + (n - k) = n + 1 by omega] at OW5 ⊢
          go_wp2
          go_ret
          refine ⟨B2.out.trans (B5.out.mono hs2), .inr ⟨HF.out, g5, c5, rfl, ?_⟩⟩
          unfold insC
          rw [PL.out]
          exact OwnC.inserted HL.out HSUB.out M2.out HXB.out B5.out (by simpa using OW5.out) hk (Nat.le_trans (HROW.out.lt g (by simp [Value.ownBlock])).1 (by omega)) (by omega)
end Go.Proofs.Ytdhnhgppapkikaa

-- CellW: The model's WithNode.
namespace Go.Proofs.Ytdhnhgppapkikaa
set_option maxRecDepth 20000
set_option linter.unusedVariables false
set_option linter.unusedSimpArgs false
open Go.RowKit

/-- what putting a node under its name makes of cells. -/
def WithIs (cs : List (Int × List Int)) (nd : MNode) (l : List (Int × List Int)) (m : Int) : Prop :=
  (¬ Right cs ∧ l = [] ∧ m = -1) ∨ (Right cs ∧ nodeOk nd = false ∧ l = cs ∧ m = -1) ∨
    (Right cs ∧ nodeOk nd = true ∧ findC cs (nameOf (nodeBytes nd)) < cs.length ∧ l = cs ∧ m = nameOf (nodeBytes nd)) ∨
    (Right cs ∧ nodeOk nd = true ∧ ¬ findC cs (nameOf (nodeBytes nd)) < cs.length ∧ 80 ≤ cs.length ∧ l = cs ∧ m = -1) ∨
    (Right cs ∧ nodeOk nd = true ∧ ¬ findC cs (nameOf (nodeBytes nd)) < cs.length ∧ cs.length < 80 ∧ l = insC cs (nameOf (nodeBytes nd)) (nodeBytes nd) ∧ m = nameOf (nodeBytes nd))
theorem WithIs.one {cs : List (Int × List Int)} {nd : MNode} {l l' : List (Int × List Int)} {m m' : Int} (h : WithIs cs nd l m) (h' : WithIs cs nd l' m') : l = l' ∧ m = m' := by
  rcases h with ⟨a, rfl, rfl⟩ | ⟨a, b, rfl, rfl⟩ | ⟨a, b, c, rfl, rfl⟩ | ⟨a, b, c, d, rfl, rfl⟩ | ⟨a, b, c, d, rfl, rfl⟩ <;>
    rcases h' with ⟨a', rfl, rfl⟩ | ⟨a', b', rfl, rfl⟩ | ⟨a', b', c', rfl, rfl⟩ | ⟨a', b', c', d', rfl, rfl⟩ | ⟨a', b', c', d', rfl, rfl⟩ <;> first
      | exact ⟨rfl, rfl⟩
      | exact absurd a' a
      | exact absurd a a'
      | exact absurd c' c
      | exact absurd c c'
      | omega
      | exact absurd (b.symm.trans b') (by simp)
theorem Right.rises {cs : List (Int × List Int)} (h : Right cs) : Rise cs := fun i j => h.rise i j
theorem nodeBytes_raw (nd : MNode) (h : nodeOk nd = true) : nodeBytes nd = rawBytes nd := by unfold nodeBytes; rw [if_pos h]
theorem isNode_len {bs : List Int} (h : IsNode bs) : 4 ≤ bs.length := by
  obtain ⟨nd, h⟩ := h
  rcases h with ⟨_, h1, _, h2⟩ | ⟨h, _⟩
  · rw [← h2, nodeBytes_raw nd h1]
    simp [rawBytes]; omega
  · cases h

theorem specWithNode_any (A : Option Addr) (n c : Nat) (cs : List (Int × List Int)) (v : Value) (nd : MNode) (B : Nat) (w : World) (hn : n ≤ 1048576) (hm : ∀ i, (cel cs i).2.length ≤ 1048576) (hB : B ≤ w.heap.size) (hb : Cells w B A n cs) (hv : NodeIn w B v nd) :
    Calls Try.prog 6 #[.slice A n c, v] w fun e w' => ∃ A' n' c' l m, e = .returned (.tuple #[.slice A' n' c', .int .i64 m]) ∧ WithIs cs nd l m ∧ OwnC w' w.heap.size w'.heap.size A' n' c' l ∧ Below w.heap.size w w' := by
  have HB := Lib.hid (hb.more hB)
  have hlen := hb.1
  have HV := Lib.hid (hv.more hB)
  obtain ⟨Ap, np, cp, Ak, nk, ck, rfl, hnp, hnk, hsz, hp, hk⟩ := hv
  clear hp hk hb
  obtain ⟨w1, hw1⟩ : ∃ w1, w.alloc (.cells #[.int .i64 nd.kind, .slice Ap np cp, .slice Ak nk ck, .string nd.val] 35) = w1 := ⟨_, rfl⟩
  have x1 : Box w1 w.heap.size _ _ := hw1 ▸ heap_alloc_new _ _
  have s1 : w1.heap.size = w.heap.size + 1 := hw1 ▸ by simp
  have b1 : Below w.heap.size w w1 := hw1 ▸ (Below.refl _ _).alloc (Nat.le_refl _) _
  have X1 := Lib.hid x1
  have B1 := Lib.hid b1
  have HW := Lib.hid hw1
  clear x1 b1 hw1
  go_enter Try.func6, Try.ntmps6
  go_wp2_with fail
  rw [HW.out]
  refine (specCellsOk_any A n c cs w.heap.size w1 (by omega) hm (by omega) (HB.out.below B1.out)).mono ?_
  rintro e w2 ⟨r, rfl, hr, b2⟩
  have HR := Lib.hid hr
  have X2 := Lib.hid (X1.out.below b2 (by omega))
  have B2 := Lib.hid (B1.out.trans (b2.mono (by omega)))
  have s2 : w.heap.size ≤ w2.heap.size := B2.out.size
  clear hr b2
  cases r with
  | false =>
    have hno : ¬ Right cs := fun h => absurd (HR.out.2 h) (by simp)
    have HNO := Lib.hid hno
    clear hno
    go_wp2
    go_ret2
    exact ⟨_, _, _, [], -1, rfl, .inl ⟨HNO.out, rfl, rfl⟩, by simpa using (OwnC.made0 w2).base s2, B2.out.trans (((Below.refl _ _).alloc (Nat.le_refl _) _).mono s2)⟩
  | true =>
    have hR : Right cs := HR.out.1 (by trivial)
    have RT := Lib.hid hR
    clear hR HR
    go_wp2_with fail
    refine (l4Copy_any A n c cs w.heap.size w2 (by omega) hm (fun i hi => by have := isNode_len (RT.out.2 i (by omega)).1; omega) (by omega) (HB.out.below B2.out)).mono ?_
    rintro e w3 ⟨g3, n3, c3, rfl, o3, b3⟩
    obtain rfl : n3 = n := o3.len.symm.trans hlen
    have X3 := Lib.hid (X2.out.below b3 X2.out.lt)
    have B3 := Lib.hid (B2.out.trans (b3.mono (by omega)))
    have s3 : w2.heap.size ≤ w3.heap.size := b3.size
    have O3 := Lib.hid o3
    clear o3 b3
    have q0 := X3.out.cell 0
    have q1 := X3.out.cell 1
    have q2 := X3.out.cell 2
    have q3 := X3.out.cell 3
    simp at q0 q1 q2 q3
    go_wp2_with fail
    refine (specNodeOk_any _ nd w.heap.size w3 (by omega) (HV.out.below B3.out)).mono ?_
    rintro e w4 ⟨rfl, b4⟩
    have X4 := Lib.hid (X3.out.below b4 X3.out.lt)
    have B4 := Lib.hid (B3.out.trans (b4.mono (by omega)))
    have s4 : w3.heap.size ≤ w4.heap.size := b4.size
    have O4 := Lib.hid (O3.out.below b4)
    clear b4 q0 q1 q2 q3
    have hok : ∃ ok, nodeOk nd = ok := ⟨_, rfl⟩
    obtain ⟨ok, hok⟩ := hok
    rw [hok]
    have OK := Lib.hid hok
    clear hok
    cases ok with
    | false =>
      go_wp2
      go_ret2
      exact ⟨_, _, _, cs, -1, rfl, .inr (.inl ⟨RT.out, OK.out, rfl, rfl⟩), (O4.out.more s4).base (by omega), B4.out⟩
    | true =>
      have q0 := X4.out.cell 0
      have q1 := X4.out.cell 1
      have q2 := X4.out.cell 2
      have q3 := X4.out.cell 3
      simp at q0 q1 q2 q3
      have hrl : (rawBytes nd).length ≤ 1048576 := by
        have h1 := nodeBytes_len nd
        rw [nodeBytes_raw nd OK.out] at h1
        have h2 := (nodeOk_parts nd OK.out)
        have h3 := nodeOk_val nd OK.out
        have h4 := kidsOk_len nd.kids h2.2.1
        have h5 : nd.path.length ≤ 1048000 := by
          have := h2.1
          unfold isPath at this
          simp at this
          omega
        omega
      go_wp2_with fail
      refine (l4CellOf_any _ nd w.heap.size w4 (by omega) (HV.out.below B4.out) hrl).mono ?_
      rintro e w5 ⟨g5, n5, c5, rfl, m5, b5⟩
      rw [← nodeBytes_raw nd OK.out] at m5 ⊢
      obtain ⟨nm, hnm⟩ : ∃ nm, nameOf (nodeBytes nd) = nm := ⟨_, rfl⟩
      rw [hnm]
      have NM := Lib.hid hnm
      have B5 := Lib.hid (B4.out.trans (b5.mono (by omega)))
      have s5 : w4.heap.size ≤ w5.heap.size := b5.size
      have O5 := Lib.hid (O4.out.below (b5.mono s4))
      have M5 := Lib.hid m5
      clear b5 m5 hnm q0 q1 q2 q3
      obtain ⟨w6, hw6⟩ : ∃ w6, w5.alloc (.cells #[.int .i64 nm, .slice (some ⟨g5, 0, none⟩) n5 c5] 51) = w6 := ⟨_, rfl⟩
      have x6 : Box w6 w5.heap.size _ _ := hw6 ▸ heap_alloc_new _ _
      have s6 : w6.heap.size = w5.heap.size + 1 := hw6 ▸ by simp
      have b6 : Below w5.heap.size w5 w6 := hw6 ▸ (Below.refl _ _).alloc (Nat.le_refl _) _
      have X6 := Lib.hid x6
      have B6 := Lib.hid (B5.out.trans (b6.mono (by omega)))
      have O6 := Lib.hid (O5.out.below (b6.mono (by omega)))
      have M6 := Lib.hid ((M5.out.below b6).base (show w2.heap.size ≤ w4.heap.size by omega))
      have HB6 : ∀ b, (Value.slice (some (⟨g5, 0, none⟩ : Addr)) n5 c5).ownBlock = some b → w3.heap.size ≤ b := fun b hb => by have := (M5.out.1.lt b hb).1; omega
      have HB6 := Lib.hid HB6
      have HW6 := Lib.hid hw6
      clear x6 b6 hw6
      go_wp2_with fail
      rw [HW6.out]
      refine (l4Add_any g3 n3 c3 w2.heap.size w3.heap.size cs nm _ n5 c5 (nodeBytes nd) w6 (by have := RT.out.1; omega) O6.out (by omega) M6.out HB6.out RT.out.rises).mono ?_
      rintro e w7 ⟨b7, h7⟩
      have X7 := Lib.hid (X6.out.below b7 X6.out.lt)
      have B7 := Lib.hid (B6.out.trans (b7.mono (by omega)))
      have O7 := Lib.hid (O6.out.below (b7.mono (by omega)))
      have s7 : w6.heap.size ≤ w7.heap.size := b7.size
      have hR80 : n3 ≤ 80 := by have := RT.out.1; omega
      have q0 := X7.out.cell 0
      simp at q0
      clear b7
      rcases h7 with ⟨hf, rfl⟩ | ⟨hf, g8, c8, rfl, o8⟩
      · have HF := Lib.hid hf
        clear hf
        go_wp2
        go_quiet (fail)
        go_wp2
        go_ret2
        exact ⟨_, _, _, cs, nm, rfl, .inr (.inr (.inl ⟨RT.out, OK.out, by rw [NM.out, hlen]; exact HF.out, rfl, NM.out.symm⟩)), ((O7.out.more (show w3.heap.size ≤ w7.heap.size by omega)).base (show w.heap.size ≤ w2.heap.size by omega)).below (below_drewN (Below.refl _ _) _), below_drewN B7.out _⟩
      · have HF := Lib.hid hf
        have O8 := Lib.hid o8
        clear hf o8
        by_cases h80 : n3 < 80
        · have hd : decide ((80 : Int) < ((n3 + 1 : Nat) : Int)) = false := decide_eq_false (by omega)
          go_wp2
          go_quiet (fail)
          go_wp2
          go_ret2
          refine ⟨_, _, _, insC cs nm (nodeBytes nd), nm, rfl, .inr (.inr (.inr (.inr ⟨RT.out, OK.out, by rw [NM.out, hlen]; exact HF.out, by omega, by rw [NM.out], NM.out.symm⟩))), (O8.out.base (show w.heap.size ≤ w2.heap.size by omega)).below (below_drewN (Below.refl _ _) _), below_drewN B7.out _⟩
        · have hd : decide ((80 : Int) < ((n3 + 1 : Nat) : Int)) = true := decide_eq_true (by omega)
          go_wp2
          go_ret2
          exact ⟨_, _, _, cs, -1, rfl, .inr (.inr (.inr (.inl ⟨RT.out, OK.out, by rw [NM.out, hlen]; exact HF.out, by omega, rfl, rfl⟩))), (O7.out.more (by omega)).base (by omega), B7.out⟩
end Go.Proofs.Ytdhnhgppapkikaa

-- CellO: The model's Without.
namespace Go.Proofs.Ytdhnhgppapkikaa
set_option maxRecDepth 20000
set_option linter.unusedVariables false
set_option linter.unusedSimpArgs false
open Go.RowKit

/-- the cells without those of a name. -/
def lessC (cs : List (Int × List Int)) (m : Int) : List (Int × List Int) := cs.filter fun c => decide (c.1 ≠ m)
theorem lessC_step (cs : List (Int × List Int)) (m : Int) (k : Nat) (hk : k < cs.length) : lessC (cs.take (k + 1)) m = if (cel cs k).1 = m then lessC (cs.take k) m else lessC (cs.take k) m ++ [cel cs k] := by
  unfold lessC
  rw [cel_take cs k hk, List.filter_append]
  by_cases h : (cel cs k).1 = m
  · rw [if_pos h]; simp [h]
  · rw [if_neg h]; simp [h]
/-- a row of cells that are picked from others. -/
structure Picked (w : World) (lo : Nat) (g q c : Nat) (cs : List (Int × List Int)) (sl : Nat → Sub) (k : Nat) (l : List (Int × List Int)) (ix : Nat → Nat) : Prop where
  len : l.length = q
  row : w.ownsRow lo 51 2 (.slice (some ⟨g, 0, none⟩) q c) q (cvs q l fun i => sl (ix i))
  at_ : ∀ i, i < q → ix i < k ∧ cel l i = cel cs (ix i)
  rise : ∀ i j, i < j → j < q → ix i < ix j
theorem Picked.own {w w0 : World} {lo hi g q c n : Nat} {r : Option Nat} {cs l : List (Int × List Int)} {sl : Nat → Sub} {ix : Nat → Nat} (h : Picked w w0.heap.size g q c cs sl n l ix) (hs : Subs w0 lo hi r n cs sl) (hb : Below w0.heap.size w0 w) (hlo : lo ≤ w0.heap.size) :
    OwnC w lo w.heap.size (some ⟨g, 0, none⟩) q c l := by
  have hsz := hb.size
  have hlt : ∀ i, i < n → ∀ b, (sl i).v.ownBlock = some b → b < w0.heap.size := fun i hi b hb => (World.ownsRow.lt (hs.mine i hi).1 b hb).2
  refine ⟨h.len, fun b hb => (World.ownsRow.lt h.row b hb).2, fun i => sl (ix i), ?_, ?_⟩
  · refine ⟨h.row.1, ?_⟩
    rcases h.row.2 with h | ⟨g, cap, cur, hv, hg, rest⟩
    · exact .inl h
    · exact .inr ⟨g, cap, cur, hv, by omega, rest⟩
  · refine ⟨fun i hi => ?_, fun i j hi hj hij b => ?_, fun i hi b e1 e2 => ?_, fun i hi b e => ?_⟩
    · obtain ⟨h1, h2⟩ := h.at_ i hi
      rw [h2]
      exact (hs.mine _ h1).below hb
    · have h1 := (h.at_ i hi).1
      have h2 := (h.at_ j hj).1
      refine hs.apart _ _ h1 h2 (fun e => ?_) b
      rcases Nat.lt_trichotomy i j with h3 | h3 | h3
      · have := h.rise i j h3 hj; omega
      · exact hij h3
      · have := h.rise j i h3 hi; omega
    · have h1 := hlt _ (h.at_ i hi).1 b e1
      have h2 := (World.ownsRow.lt h.row b e2).1
      omega
    · have := hlt _ (h.at_ i hi).1 b e; omega

/-- what taking a name away makes of cells. -/
def LessIs (cs : List (Int × List Int)) (m : Int) (l : List (Int × List Int)) (b : Bool) : Prop :=
  (¬ Right cs ∧ l = [] ∧ b = false) ∨ (Right cs ∧ l = lessC cs m ∧ (b = true ↔ findC cs m < cs.length))
theorem LessIs.one {cs : List (Int × List Int)} {m : Int} {l l' : List (Int × List Int)} {b b' : Bool} (h : LessIs cs m l b) (h' : LessIs cs m l' b') : l = l' ∧ b = b' := by
  rcases h with ⟨a, rfl, rfl⟩ | ⟨a, rfl, h⟩ <;> rcases h' with ⟨a', rfl, rfl⟩ | ⟨a', rfl, h'⟩
  · exact ⟨rfl, rfl⟩
  · exact absurd a' a
  · exact absurd a a'
  · refine ⟨rfl, ?_⟩
    cases b <;> cases b'
    · rfl
    · exact absurd (h.2 (h'.1 rfl)) (by simp)
    · exact absurd (h'.2 (h.1 rfl)) (by simp)
    · rfl

end Go.Proofs.Ytdhnhgppapkikaa

-- ReachM: Plain facts on what is reached among cells. No statement of the program is proved here.
namespace Go.Proofs.Ytdhnhgppapkikaa
set_option maxRecDepth 20000
set_option linter.unusedVariables false
set_option linter.unusedSimpArgs false
open Go.RowKit

/-- a list of numbers that rises. -/
def RiseI (l : List Int) : Prop := l.Pairwise (· < ·)
theorem riseI_at (l : List Int) (h : RiseI l) (i j : Nat) (hij : i < j) (hj : j < l.length) : l[i]?.getD 0 < l[j]?.getD 0 := by
  rw [List.getElem?_eq_getElem (show i < l.length by omega), List.getElem?_eq_getElem hj]
  exact List.pairwise_iff_getElem.1 h i j (by omega) hj hij
theorem riseI_one (a b : List Int) (ha : RiseI a) (hb : RiseI b) (h : ∀ x, x ∈ a ↔ x ∈ b) : a = b := by
  induction a generalizing b with
  | nil =>
    cases b with
    | nil => rfl
    | cons y b => exact absurd ((h y).2 (by simp)) (by simp)
  | cons x a ih =>
    cases b with
    | nil => exact absurd ((h x).1 (by simp)) (by simp)
    | cons y b =>
      have ha1 := List.pairwise_cons.1 ha
      have hb1 := List.pairwise_cons.1 hb
      have hxy : x = y := by
        have h1 := (h x).1 (by simp)
        have h2 := (h y).2 (by simp)
        rcases List.mem_cons.1 h1 with e | h1
        · exact e
        · rcases List.mem_cons.1 h2 with e | h2
          · exact e.symm
          · have := hb1.1 x h1
            have := ha1.1 y h2
            omega
      subst hxy
      congr 1
      refine ih b ha1.2 hb1.2 fun z => ⟨fun hz => ?_, fun hz => ?_⟩
      · rcases List.mem_cons.1 ((h z).1 (List.mem_cons_of_mem _ hz)) with e | e
        · subst e; have := ha1.1 z hz; omega
        · exact e
      · rcases List.mem_cons.1 ((h z).2 (List.mem_cons_of_mem _ hz)) with e | e
        · subst e; have := hb1.1 z hz; omega
        · exact e
theorem riseI_len (l u : List Int) (h : RiseI l) (hs : ∀ x, x ∈ l → x ∈ u) : l.length ≤ u.length := by
  induction l generalizing u with
  | nil => simp
  | cons x l ih =>
    have h1 := List.pairwise_cons.1 h
    have hx := hs x (by simp)
    have := ih (u.erase x) h1.2 (fun y hy => by
      have hne : y ≠ x := by have := h1.1 y hy; omega
      exact (List.mem_erase_of_ne hne).2 (hs y (List.mem_cons_of_mem _ hy)))
    rw [List.length_erase_of_mem hx] at this
    have hp : 0 < u.length := List.length_pos_of_mem hx
    simp only [List.length_cons]
    omega
/-- where a number belongs. -/
def placeI (l : List Int) (m : Int) : Nat := l.findIdx fun x => decide (m < x)
theorem placeI_le (l : List Int) (m : Int) : placeI l m ≤ l.length := List.findIdx_le_length
theorem placeI_at (l : List Int) (m : Int) (k : Nat) (hk : k ≤ l.length) (h0 : ∀ j, j < k → l[j]?.getD 0 ≤ m) (h1 : k < l.length → m < l[k]?.getD 0) : placeI l m = k := by
  have hle := placeI_le l m
  have hc : ∀ i (h : i < l.length), l[i] = l[i]?.getD 0 := fun i h => by rw [List.getElem?_eq_getElem h]; rfl
  rcases Nat.lt_trichotomy (placeI l m) k with h | h | h
  · have h2 := List.findIdx_getElem (w := show l.findIdx (fun x => decide (m < x)) < l.length from by unfold placeI at h; omega)
    have h3 := h0 _ h
    rw [hc] at h2
    have h2 : m < l[placeI l m]?.getD 0 := of_decide_eq_true h2
    omega
  · exact h
  · have h2 := List.not_of_lt_findIdx (show k < l.findIdx fun x => decide (m < x) from h)
    have hkl : k < l.length := by omega
    rw [hc k hkl] at h2
    have h2 : l[k]?.getD 0 ≤ m := by simpa using h2
    have := h1 hkl
    omega
def insI (l : List Int) (m : Int) : List Int := l.take (placeI l m) ++ m :: l.drop (placeI l m)
theorem insI_len (l : List Int) (m : Int) : (insI l m).length = l.length + 1 := by
  have := placeI_le l m
  unfold insI; simp; omega
theorem insI_mem (l : List Int) (m x : Int) : x ∈ insI l m ↔ x = m ∨ x ∈ l := by
  unfold insI
  conv => rhs; rw [← List.take_append_drop (placeI l m) l]
  simp only [List.mem_append, List.mem_cons]
  constructor
  · rintro (h | h | h)
    · exact .inr (.inl h)
    · exact .inl h
    · exact .inr (.inr h)
  · rintro (h | h | h)
    · exact .inr (.inl h)
    · exact .inl h
    · exact .inr (.inr h)
theorem insI_rise (l : List Int) (m : Int) (h : RiseI l) (hm : m ∉ l) : RiseI (insI l m) := by
  have hle := placeI_le l m
  have hc : ∀ i (h : i < l.length), l[i] = l[i]?.getD 0 := fun i h => by rw [List.getElem?_eq_getElem h]; rfl
  have hlo : ∀ x, x ∈ l.take (placeI l m) → x < m := by
    intro x hx
    obtain ⟨i, hi, rfl⟩ := List.mem_iff_getElem.1 hx
    have hi2 : i < placeI l m := by simp at hi; omega
    have h2 := List.not_of_lt_findIdx (show i < l.findIdx fun x => decide (m < x) from hi2)
    have h3 : l[i]'(by omega) ≤ m := by simpa using h2
    rw [List.getElem_take]
    rcases Int.lt_or_eq_of_le h3 with h | h
    · exact h
    · exact absurd (h ▸ List.getElem_mem _) hm
  have hhi : ∀ x, x ∈ l.drop (placeI l m) → m < x := by
    intro x hx
    obtain ⟨i, hi, rfl⟩ := List.mem_iff_getElem.1 hx
    have hi2 : placeI l m + i < l.length := by simp at hi; omega
    rw [List.getElem_drop]
    have h0 : m < l[placeI l m]'(by omega) := by
      have h2 := List.findIdx_getElem (w := show l.findIdx (fun x => decide (m < x)) < l.length from by unfold placeI at hi2; omega)
      exact of_decide_eq_true h2
    rcases Nat.eq_zero_or_pos i with e | e
    · subst e; exact h0
    · have := List.pairwise_iff_getElem.1 h (placeI l m) (placeI l m + i) (by omega) hi2 (by omega)
      omega
  unfold RiseI insI
  rw [List.pairwise_append]
  refine ⟨h.sublist (List.take_sublist _ _), List.pairwise_cons.2 ⟨fun x hx => hhi x hx, h.sublist (List.drop_sublist _ _)⟩, fun a ha b hb => ?_⟩
  rcases List.mem_cons.1 hb with e | hb
  · rw [e]; exact hlo a ha
  · have := hlo a ha; have := hhi b hb; omega

/-- k is the name of a kid of what stands under x. -/
def KidOf (cs : List (Int × List Int)) (x k : Int) : Prop := ∃ nd a, HitIs cs x nd true ∧ (a, k) ∈ nd.kids
/-- x is reached from these roots. -/
def Reached (cs : List (Int × List Int)) (roots : List Int) (x : Int) : Prop := ∀ S : Int → Prop, (∀ r, r ∈ roots → r ≠ 0 → S r) → (∀ y k, S y → KidOf cs y k → S k) → S x
theorem Reached.root {cs : List (Int × List Int)} {roots : List Int} {x : Int} (h : x ∈ roots) (h0 : x ≠ 0) : Reached cs roots x := fun S h1 _ => h1 x h h0
theorem Reached.kid {cs : List (Int × List Int)} {roots : List Int} {x k : Int} (h : Reached cs roots x) (hk : KidOf cs x k) : Reached cs roots k := fun S h1 h2 => h2 x k (h S h1 h2) hk
theorem hit_ok {cs : List (Int × List Int)} {x : Int} {nd : MNode} (h : HitIs cs x nd true) : nodeOk nd = true := by
  rcases h with ⟨_, ⟨_, h, _⟩ | ⟨h, _⟩⟩ | ⟨_, _, h⟩
  · exact h
  · cases h
  · cases h
theorem kidOf_pos {cs : List (Int × List Int)} {x k : Int} (h : KidOf cs x k) : k ≠ 0 := by
  obtain ⟨nd, a, h1, h2⟩ := h
  obtain ⟨i, hi, e⟩ := List.mem_iff_getElem.1 h2
  have h3 := kidsOk_at nd.kids (nodeOk_parts nd (hit_ok h1)).2.1 i hi
  unfold KidAt at h3
  rw [List.getElem?_eq_getElem hi, e] at h3
  have := h3.2.1
  simp at this
  omega
theorem hit_found {cs : List (Int × List Int)} {x : Int} {nd : MNode} {b : Bool} (hR : Right cs) (h : HitIs cs x nd b) : b = true ↔ findC cs x < cs.length := by
  rcases h with ⟨h1, h2⟩ | ⟨h1, _, rfl⟩
  · exact ⟨fun _ => h1, fun _ => (IsNode.of h2).2 (hR.2 _ h1).1⟩
  · exact ⟨fun h => absurd h (by simp), fun h => absurd h h1⟩
/-- there is a short list of all that can be reached. -/
theorem reach_bound (cs : List (Int × List Int)) (roots : List Int) : ∃ u : List Int, u.length ≤ roots.length + 16 * cs.length ∧ ∀ x, Reached cs roots x → x ∈ u := by
  have hk : ∀ k, k ≤ cs.length → ∃ u : List Int, u.length ≤ 16 * k ∧ ∀ i, i < k → ∀ nd, NodeRead (cel cs i).2 nd true → ∀ p, p ∈ nd.kids → p.2 ∈ u := by
    intro k
    induction k with
    | zero => exact fun _ => ⟨[], by simp, fun i hi => by omega⟩
    | succ k ih =>
      intro hk
      obtain ⟨u, hu, h⟩ := ih (by omega)
      by_cases hn : IsNode (cel cs k).2
      · obtain ⟨nd, hnd⟩ := hn
        refine ⟨u ++ nd.kids.map (·.2), ?_, fun i hi nd' h' p hp => ?_⟩
        · have hok : nodeOk nd = true := by
            rcases hnd with ⟨_, h, _⟩ | ⟨h, _⟩
            · exact h
            · cases h
          have := kidsOk_len nd.kids (nodeOk_parts nd hok).2.1
          simp; omega
        · rcases Nat.lt_or_ge i k with hik | hik
          · exact List.mem_append_left _ (h i hik nd' h' p hp)
          · obtain rfl : i = k := by omega
            have := (hnd.one h').1
            subst this
            exact List.mem_append_right _ (List.mem_map_of_mem hp)
      · refine ⟨u, by omega, fun i hi nd' h' p hp => ?_⟩
        rcases Nat.lt_or_ge i k with hik | hik
        · exact h i hik nd' h' p hp
        · obtain rfl : i = k := by omega
          exact absurd ⟨nd', h'⟩ hn
  obtain ⟨u, hu, h⟩ := hk cs.length (Nat.le_refl _)
  refine ⟨roots ++ u, by simp; omega, fun x hx => ?_⟩
  refine hx (fun y => y ∈ roots ++ u) (fun r hr _ => List.mem_append_left _ hr) (fun y k _ hk => ?_)
  obtain ⟨nd, a, h1, h2⟩ := hk
  rcases h1 with ⟨h3, h4⟩ | ⟨_, _, h4⟩
  · exact List.mem_append_right _ (h _ h3 nd h4 (a, k) h2)
  · cases h4
/-- what is told of the names that are reached. -/
def ReachIs (cs : List (Int × List Int)) (roots l : List Int) (b : Bool) : Prop :=
  (¬ (Right cs ∧ roots.length ≤ 80) ∧ l = [] ∧ b = false) ∨ ((Right cs ∧ roots.length ≤ 80) ∧ RiseI l ∧ (∀ x, x ∈ l ↔ Reached cs roots x) ∧ (b = true ↔ ∀ x, x ∈ l → findC cs x < cs.length))
theorem ReachIs.one {cs : List (Int × List Int)} {roots l l' : List Int} {b b' : Bool} (h : ReachIs cs roots l b) (h' : ReachIs cs roots l' b') : l = l' ∧ b = b' := by
  rcases h with ⟨a, rfl, rfl⟩ | ⟨a, h1, h2, h3⟩ <;> rcases h' with ⟨a', rfl, rfl⟩ | ⟨a', k1, k2, k3⟩
  · exact ⟨rfl, rfl⟩
  · exact absurd a' a
  · exact absurd a a'
  · have e := riseI_one l l' h1 k1 (fun x => (h2 x).trans (k2 x).symm)
    subst e
    refine ⟨rfl, ?_⟩
    cases b <;> cases b'
    · rfl
    · exact absurd (h3.2 (k3.1 rfl)) (by simp)
    · exact absurd (k3.2 (h3.1 rfl)) (by simp)
    · rfl
end Go.Proofs.Ytdhnhgppapkikaa

-- CellL: Plain facts on the sizes of what comes of cells. No statement of the program is proved here.
namespace Go.Proofs.Ytdhnhgppapkikaa
set_option maxRecDepth 20000
set_option linter.unusedVariables false
set_option linter.unusedSimpArgs false
open Go.RowKit

theorem cel_bd (cs : List (Int × List Int)) (h : szC cs ≤ 1048576) (i : Nat) : (cel cs i).2.length ≤ 1048576 := by
  by_cases hi : i < cs.length
  · have := szC_cel cs i hi; omega
  · have e : cel cs i = (0, []) := by unfold cel; rw [List.getElem?_eq_none (by omega)]; rfl
    rw [e]; simp
theorem OwnC.nilc {w : World} {lo hi n c : Nat} {A : Option Addr} {cs : List (Int × List Int)} (h : OwnC w lo hi A n c cs) (hA : A = none) : c = 0 := by
  obtain ⟨hl, hu, sl, hr, hs⟩ := h
  rcases hr.2 with ⟨e, _⟩ | ⟨g, cap, cur, e, _⟩
  · cases e; rfl
  · subst hA; cases e
theorem szC_filter (cs : List (Int × List Int)) (p : Int × List Int → Bool) : szC (cs.filter p) ≤ szC cs := by
  induction cs with
  | nil => simp
  | cons x r ih =>
    rw [List.filter_cons]
    split
    · simp [szC]; omega
    · simp [szC]; omega
theorem less_bd {cs l : List (Int × List Int)} {m : Int} {b : Bool} (h : LessIs cs m l b) (hs : szC cs ≤ 1048576) : szC l ≤ 1048576 := by
  rcases h with ⟨_, rfl, _⟩ | ⟨_, rfl, _⟩
  · simp [szC]
  · exact Nat.le_trans (szC_filter _ _) hs
theorem nodeBytes_bd (nd : MNode) (h : nodeOk nd = true) (hp : nd.path.length ≤ 1048576) : (nodeBytes nd).length ≤ 1000000000 := by
  have h1 := nodeBytes_len nd
  have h3 := nodeOk_val nd h
  have h4 := kidsOk_len nd.kids (nodeOk_parts nd h).2.1
  omega
theorem nodeBytes_small (nd : MNode) (h : nodeOk nd = true) : (nodeBytes nd).length ≤ 1000000 := by
  have h1 := nodeBytes_len nd
  have h2 := (nodeOk_parts nd h)
  have h3 := nodeOk_val nd h
  have h4 := kidsOk_len nd.kids h2.2.1
  have h5 : nd.path.length ≤ 900000 := by
    have := h2.1
    unfold isPath at this
    simp at this
    omega
  omega
theorem with_bd {cs l : List (Int × List Int)} {nd : MNode} {m : Int} (h : WithIs cs nd l m) (hs : szC cs ≤ 1048576) : szC l ≤ 3000000 ∧ l.length ≤ 81 ∧ ∀ i, (cel l i).2.length ≤ 1048576 := by
  have hm := cel_bd cs hs
  have hsame : Right cs → szC cs ≤ 3000000 ∧ cs.length ≤ 81 ∧ ∀ i, (cel cs i).2.length ≤ 1048576 := fun h => ⟨by omega, by have := h.1; omega, hm⟩
  rcases h with ⟨_, rfl, _⟩ | ⟨hR, _, rfl, _⟩ | ⟨hR, _, _, rfl, _⟩ | ⟨hR, _, _, _, rfl, _⟩ | ⟨hR, hok, _, h80, rfl, _⟩
  · exact ⟨by simp [szC], by simp, fun i => by simp [cel]⟩
  · exact hsame hR
  · exact hsame hR
  · exact hsame hR
  · have hb := nodeBytes_small nd hok
    refine ⟨?_, by rw [insC_len]; omega, fun i => ?_⟩
    · have e : szC cs = szC (cs.take (placeC cs (nameOf (nodeBytes nd)))) + szC (cs.drop (placeC cs (nameOf (nodeBytes nd)))) := by rw [← szC_append, List.take_append_drop]
      unfold insC
      rw [szC_append]
      simp only [szC]
      omega
    · unfold insC
      rw [cel_ins cs _ _ (placeC_le _ _)]
      split
      · exact hm i
      · split
        · simp only; omega
        · exact hm (i - 1)
theorem reach_bd {cs : List (Int × List Int)} {roots l : List Int} {b : Bool} (h : ReachIs cs roots l b) : l.length ≤ 1360 := by
  rcases h with ⟨_, rfl, _⟩ | ⟨⟨hR, hr⟩, h1, h2, _⟩
  · simp
  · obtain ⟨u, hu, hx⟩ := reach_bound cs roots
    have := riseI_len l u h1 fun x hx' => hx x ((h2 x).1 hx')
    have := hR.1
    omega
theorem OwnI.cap_ {w : World} {base n c : Nat} {A : Option Addr} {xs : List Int} (h : OwnI w base A n c xs) : n ≤ c := by
  rcases h.2 with ⟨e, hx⟩ | ⟨g', cap, cur, e, _, _, hn, _⟩
  · have e2 : n = 0 := by simpa using hx
    omega
  · cases e; exact hn
theorem OwnI.nilc {w : World} {base n c : Nat} {A : Option Addr} {xs : List Int} (h : OwnI w base A n c xs) (hA : A = none) : c = 0 := by
  rcases h.2 with ⟨e, _⟩ | ⟨g, cap, cur, e, _⟩
  · cases e; rfl
  · subst hA; cases e
end Go.Proofs.Ytdhnhgppapkikaa

-- RowL: Plain laws of rows of cells: what copying into one makes; rows put together. No statement of the program is proved here.
namespace Go.Proofs.Ytdhnhgppapkikaa
set_option maxRecDepth 20000
set_option linter.unusedVariables false
set_option linter.unusedSimpArgs false
open Go.RowKit

/-- copy into a row, at elements of any size. -/
theorem run_copy_wide {P : Program} (w : World) (dT sT ty elem : TypeId) (size g o dLen dCap m : Nat) (a : Addr) (sLen sCap : Nat) (cur : Array Value) (t : TypeId) (cs : List Value)
    (hu : P.underlying dT = some (.slice elem)) (hs : (P.info? elem).map (·.size) = some size)
    (hg : w.heap[g]? = some (.cells cur t (0, 0))) (hm : m = Nat.min sLen dLen) (hn : cs.length = m * size)
    (hsrc : ∀ j v, cs[j]? = some v → w.cell? (a.add j) = some v) (hfit : o + cs.length ≤ cur.size) (h1 : ∀ v ∈ cs, v.oneCell' = true) :
    (Builtin.copy_ #[dT, sT] ty #[.slice (some ⟨g, o, none⟩) dLen dCap, .slice (some a) sLen sCap]).run P w =
      .ok (goInt m) (w.setRow g (cur.toList.take o ++ cs ++ cur.toList.drop (o + cs.length)).toArray) := by
  have hl := run_loadCells_list (P := P) w a cs hsrc
  have hst := run_storeCells_at P g o t cs 0 cur w hg (by simpa using hfit) h1
  cases hq : P.info? elem with
  | none => simp [hq] at hs
  | some i =>
    have hi : i.size = size := by simpa [hq] using hs
    simp [Builtin.copy_, run_underlying hu, Builtin.lenOf, Builtin.firstCells, sizeOf, typeInfo, hq, hi, ← hm, ← hn, hl, hst]

/-- a row with others put in at a place. -/
def putAt (xs us : List Value) (k : Nat) : List Value := xs.take k ++ us ++ xs.drop k
theorem putAt_len (xs us : List Value) (k : Nat) : (putAt xs us k).length = xs.length + us.length := by
  unfold putAt
  simp
  omega
theorem setRow_drew (w : World) (g : Nat) (cs : Array Value) : (w.setRow g cs).drew = w.drew.setRow g cs := rfl
theorem heap_setRow_other (w : World) (g k : Nat) (cs : Array Value) (h : k ≠ g) : (w.setRow g cs).heap[k]? = w.heap[k]? := setRow_other w g k cs h
theorem setRow_twice (w : World) (g : Nat) (a b : Array Value) : (w.setRow g a).setRow g b = w.setRow g b := setRow_setRow w g a b
/-- what two copies make of a row: first the tail moves up, then the new ones come in. -/
theorem shift_row (cur us xs : List Value) (k m : Nat) (hx : cur.take xs.length = xs) (hk : k ≤ xs.length) (hu : us.length = m) (hc : xs.length + m ≤ cur.length) :
    let c1 := cur.take (k + m) ++ xs.drop k ++ cur.drop (k + m + (xs.drop k).length)
    (c1.take k ++ us ++ c1.drop (k + us.length)).take (xs.length + m) = putAt xs us k ∧ (c1.take k ++ us ++ c1.drop (k + us.length)).length = cur.length := by
  intro c1
  have hl1 : c1.length = cur.length := by simp [c1]; omega
  have hxl : xs.length ≤ cur.length := by omega
  have hat : ∀ j, j < xs.length → cur[j]? = xs[j]? := fun j hj => by have := congrArg (·[j]?) hx; simp only [List.getElem?_take, if_pos hj] at this; exact this
  refine ⟨?_, by simp [hl1]; omega⟩
  apply List.ext_getElem?
  intro j
  unfold putAt
  by_cases hj : j < xs.length + m
  · rw [List.getElem?_take, if_pos hj]
    have hkc : min k cur.length = k := by omega
    by_cases h1 : j < k
    · have e1 : (c1.take k ++ us ++ c1.drop (k + us.length))[j]? = xs[j]? := by
        rw [List.append_assoc, List.getElem?_append_left (by simp [hl1]; omega), List.getElem?_take, if_pos h1]
        simp only [c1]
        rw [List.append_assoc, List.getElem?_append_left (by simp; omega), List.getElem?_take, if_pos (by omega)]
        exact hat j (by omega)
      rw [e1, List.append_assoc, List.getElem?_append_left (by simp; omega), List.getElem?_take, if_pos h1]
    · by_cases h2 : j < k + m
      · have e1 : (c1.take k ++ us ++ c1.drop (k + us.length))[j]? = us[j - k]? := by
          rw [List.append_assoc, List.getElem?_append_right (by simp [hl1]; omega), List.getElem?_append_left (by simp [hl1]; omega)]
          congr 1
          simp [hl1]; omega
        rw [e1, List.append_assoc, List.getElem?_append_right (by simp; omega), List.getElem?_append_left (by simp; omega)]
        congr 1
        simp; omega
      · have e1 : (c1.take k ++ us ++ c1.drop (k + us.length))[j]? = c1[j]? := by
          rw [List.append_assoc, List.getElem?_append_right (by simp [hl1]; omega), List.getElem?_append_right (by simp [hl1]; omega), List.getElem?_drop]
          congr 1
          simp [hl1]; omega
        rw [e1]
        simp only [c1]
        rw [List.append_assoc, List.getElem?_append_right (by simp; omega), List.getElem?_append_left (by simp; omega), List.getElem?_drop]
        rw [List.append_assoc (xs.take k), List.getElem?_append_right (by simp; omega), List.getElem?_append_right (by simp; omega), List.getElem?_drop]
        congr 1
        simp; omega
  · rw [List.getElem?_take, if_neg hj, List.getElem?_eq_none (by simp; omega)]
/-- a row that two copies fill. -/
theorem grow_row (xs us zs : List Value) (k m : Nat) (hk : k ≤ xs.length) (hu : us.length = m) (hz : xs.length - k + m ≤ zs.length) :
    let c0 := xs.take k ++ zs
    let c1 := c0.take k ++ us ++ c0.drop (k + us.length)
    (c1.take (k + m) ++ xs.drop k ++ c1.drop (k + m + (xs.drop k).length)).take (xs.length + m) = putAt xs us k ∧ (c1.take (k + m) ++ xs.drop k ++ c1.drop (k + m + (xs.drop k).length)).length = c0.length := by
  intro c0 c1
  have l0 : c0.length = k + zs.length := by simp [c0]; omega
  have l1 : c1.length = c0.length := by simp [c1, l0]; omega
  refine ⟨?_, by simp [l1, l0]; omega⟩
  apply List.ext_getElem?
  intro j
  unfold putAt
  by_cases hj : j < xs.length + m
  · rw [List.getElem?_take, if_pos hj]
    by_cases h1 : j < k + m
    · rw [List.append_assoc, List.getElem?_append_left (by simp [l1, l0]; omega), List.getElem?_take, if_pos h1, List.getElem?_append_left (by simp; omega)]
      have e0 : c0.take k = xs.take k := by
        simp only [c0]
        rw [List.take_append_of_le_length (by simp; omega), List.take_take, Nat.min_self]
      rw [e0]
      conv => rhs; rw [List.getElem?_append_left (by simp; omega)]
    · rw [List.append_assoc, List.getElem?_append_right (by simp [l1, l0]; omega), List.getElem?_append_left (by simp [l1, l0]; omega), List.getElem?_append_right (by simp; omega)]
      congr 1
      simp [l1, l0]; omega
  · rw [List.getElem?_take, if_neg hj, List.getElem?_eq_none (by simp; omega)]
theorem own_parts {w : World} {base size n cap g : Nat} {e : TypeId} {xs : List Value} (h : w.ownsRow base e size (.slice (some ⟨g, 0, none⟩) n cap) n xs) :
    ∃ cur, base ≤ g ∧ w.heap[g]? = some (.cells cur e (0, 0)) ∧ n ≤ cap ∧ cap ≤ maxLen ∧ cur.size = cap * size ∧ cur.toList.take (n * size) = xs := by
  rcases h.2 with ⟨h, _⟩ | ⟨g', cap', cur, hv, h1, h2, h3, h4, h5, h6⟩
  · cases h
  · cases hv
    exact ⟨cur, h1, h2, h3, h4, h5, h6⟩
theorem own_mk {w : World} {base size n cap g : Nat} {e : TypeId} {xs : List Value} (cur : Array Value) (hl : xs.length = n * size) (h1 : base ≤ g) (h2 : w.heap[g]? = some (.cells cur e (0, 0))) (h3 : n ≤ cap) (h4 : cap ≤ maxLen) (h5 : cur.size = cap * size) (h6 : cur.toList.take (n * size) = xs) :
    w.ownsRow base e size (.slice (some ⟨g, 0, none⟩) n cap) n xs := ⟨hl, .inr ⟨g, cap, cur, rfl, h1, h2, h3, h4, h5, h6⟩⟩
theorem own_cap {w : World} {base size n c : Nat} {A : Option Addr} {e : TypeId} {xs : List Value} (h : w.ownsRow base e size (.slice A n c) n xs) : n ≤ c ∧ c ≤ maxLen ∧ (A = none → c = 0) := by
  rcases h.2 with ⟨h, rfl⟩ | ⟨g', cap', cur, hv, h1, h2, h3, h4, h5, h6⟩
  · cases h; exact ⟨Nat.le_refl _, by unfold maxLen; omega, fun _ => rfl⟩
  · cases hv; exact ⟨h3, h4, fun h => by cases h⟩
theorem own_none {w : World} {base size n c : Nat} {A : Option Addr} {e : TypeId} {xs : List Value} (h : w.ownsRow base e size (.slice A n c) n xs) : (A = none ∧ n = 0 ∧ c = 0) ∨ ∃ g, A = some ⟨g, 0, none⟩ := by
  rcases h.2 with ⟨h, rfl⟩ | ⟨g', cap', cur, hv, _⟩
  · cases h; exact .inl ⟨rfl, rfl, rfl⟩
  · cases hv; exact .inr ⟨g', rfl⟩
theorem grown_setRow (w : World) (g : Nat) (cs : Array Value) : w.grownBy (w.setRow g cs) (some g) :=
  ⟨rfl, rfl, rfl, by simp, fun k _ hk => setRow_other w g k _ (fun e => hk (by rw [e]))⟩
end Go.Proofs.Ytdhnhgppapkikaa

-- Srch: slices.BinarySearch at int64, as the program calls it; where a number belongs in a list that rises. No statement of the program is proved here.
namespace Go.Proofs.Ytdhnhgppapkikaa
set_option maxRecDepth 100000
set_option linter.unusedVariables false
set_option linter.unusedSimpArgs false
open Go.RowKit

/-- how many of a list that rises are below a number: where it stands, or would. -/
def lowI (l : List Int) (m : Int) : Nat := l.findIdx fun x => decide (m ≤ x)
theorem lowI_le (l : List Int) (m : Int) : lowI l m ≤ l.length := List.findIdx_le_length
theorem lowI_below (l : List Int) (m : Int) (j : Nat) (h : j < lowI l m) : l[j]?.getD 0 < m := by
  have hl := lowI_le l m
  have h2 := List.not_of_lt_findIdx (show j < l.findIdx fun x => decide (m ≤ x) from h)
  rw [List.getElem?_eq_getElem (by omega)]
  simpa using h2
theorem lowI_above (l : List Int) (m : Int) (h : lowI l m < l.length) : m ≤ l[lowI l m]?.getD 0 := by
  have h2 := List.findIdx_getElem (w := show l.findIdx (fun x => decide (m ≤ x)) < l.length from h)
  have h2 : m ≤ l[lowI l m] := of_decide_eq_true h2
  rw [List.getElem?_eq_getElem h]
  exact h2
theorem lowI_at (l : List Int) (m : Int) (k : Nat) (hk : k ≤ l.length) (h0 : ∀ j, j < k → l[j]?.getD 0 < m) (h1 : k < l.length → m ≤ l[k]?.getD 0) : lowI l m = k := by
  have hle := lowI_le l m
  rcases Nat.lt_trichotomy (lowI l m) k with h | h | h
  · have h2 := lowI_above l m (by omega)
    have h3 := h0 _ h
    omega
  · exact h
  · have h2 := lowI_below l m k h
    have := h1 (by omega)
    omega
theorem riseI_le (l : List Int) (h : RiseI l) (i j : Nat) (hij : i ≤ j) (hj : j < l.length) : l[i]?.getD 0 ≤ l[j]?.getD 0 := by
  rcases Nat.lt_or_ge i j with h1 | h1
  · have := riseI_at l h i j h1 hj; omega
  · obtain rfl : i = j := by omega
    omega
/-- the number is there. -/
def hitI (l : List Int) (m : Int) : Bool := decide (lowI l m < l.length ∧ l[lowI l m]?.getD 0 = m)
theorem hitI_mem (l : List Int) (m : Int) (h : RiseI l) : hitI l m = true ↔ m ∈ l := by
  unfold hitI
  rw [decide_eq_true_iff]
  constructor
  · rintro ⟨h1, h2⟩
    rw [List.getElem?_eq_getElem h1] at h2
    have h2 : l[lowI l m] = m := h2
    rw [← h2]
    exact List.getElem_mem h1
  · intro hm
    obtain ⟨i, hi, e⟩ := List.mem_iff_getElem.1 hm
    have hk : lowI l m = i := lowI_at l m i (by omega) (fun j hj => by
      have := riseI_at l h j i hj hi
      rw [List.getElem?_eq_getElem hi] at this
      have e' : (some l[i]).getD 0 = m := e
      omega) (fun _ => by rw [List.getElem?_eq_getElem hi]; exact Int.le_of_eq e.symm)
    rw [hk]
    exact ⟨hi, by rw [List.getElem?_eq_getElem hi]; exact e⟩
theorem lowI_place (l : List Int) (m : Int) (h : m ∉ l) : lowI l m = placeI l m := by
  refine (placeI_at l m (lowI l m) (lowI_le l m) (fun j hj => by have := lowI_below l m j hj; omega) (fun hk => ?_)).symm
  have h1 := lowI_above l m hk
  rw [List.getElem?_eq_getElem hk] at h1 ⊢
  rcases Int.lt_or_eq_of_le h1 with h2 | h2
  · exact h2
  · have h2 : m = l[lowI l m] := h2
    exact absurd (h2 ▸ List.getElem_mem hk) h

theorem isNaNc_any (x : Int) (w : World) : Calls Try.prog 85 #[.int .i64 x] w fun e w' => e = .returned (.bool false) ∧ w' = w := by
  have mixed : Try.prog.follows .mixedOrders = true := by kernel_rfl
  go_enter Try.func85, Try.ntmps85
  go_wp2
  go_ret
  exact ⟨by simp, rfl⟩
theorem isNaNs_any (x : Int) (w : World) : Calls Try.prog 71 #[.int .i64 x] w fun e w' => e = .returned (.bool false) ∧ w' = w := by
  have mixed : Try.prog.follows .mixedOrders = true := by kernel_rfl
  go_enter Try.func71, Try.ntmps71
  go_wp2
  go_ret
  exact ⟨by simp, rfl⟩
theorem lessI_any (x y : Int) (w : World) : Calls Try.prog 70 #[.int .i64 x, .int .i64 y] w fun e w' => e = .returned (.bool (decide (x < y))) ∧ w' = w := by
  have mixed : Try.prog.follows .mixedOrders = true := by kernel_rfl
  go_enter Try.func70, Try.ntmps70
  go_wp2_with (go_at_call 85; refine (isNaNc_any _ _).mono ?_; rintro e w' ⟨rfl, rfl⟩)
  go_ret
  exact ⟨rfl, rfl⟩
set_option maxHeartbeats 4000000 in
theorem search_any (A : Option Addr) (n c : Nat) (l : List Int) (m : Int) (B : Nat) (w : World) (hn : n ≤ 1048576) (hb : Ints w B A n l) (hr : RiseI l) :
    Calls Try.prog 52 #[.slice A n c, .int .i64 m] w fun e w' => e = .returned (.tuple #[.int .i64 (lowI l m : Nat), .bool (hitI l m)]) ∧ ∃ q, w' = w.drewN q := by
  have mixed : Try.prog.follows .mixedOrders = true := by kernel_rfl
  have hlen := hb.1
  have HB := Lib.hid hb
  have HR := Lib.hid hr
  clear hb hr
  go_enter Try.func52, Try.ntmps52
  go_wp2
  go_loopw [7, 8] (fun s7 s8 wr => ∃ lo hi q : Nat, s7 = .int .i64 lo ∧ s8 = .int .i64 hi ∧ lo ≤ hi ∧ hi ≤ n ∧ wr = w.drewN q ∧ (∀ t, t < lo → l[t]?.getD 0 < m) ∧ (∀ t, hi ≤ t → t < n → m ≤ l[t]?.getD 0)) (fun s7 s8 _ => (intOf s8).toNat - (intOf s7).toNat)
  case atStart => exact ⟨0, n, 0, rfl, rfl, Nat.zero_le _, Nat.le_refl _, rfl, fun t ht => absurd ht (Nat.not_lt_zero _), fun t h1 h2 => by omega⟩
  case round =>
    obtain ⟨lo, hi, q, rfl, rfl, hlh, hin, hwq, h1, h2⟩ := hrel
    have H1 := Lib.hid h1
    have H2 := Lib.hid h2
    have HQ := Lib.hid hwq
    clear h1 h2
    by_cases hlt : lo < hi
    · obtain ⟨b, off, rfl, hbB, hcell⟩ := HB.out.2 (by omega)
      have cm : wr.cell? ⟨b, off + (lo + hi) / 2, none⟩ = some (.int .i64 (l[(lo + hi) / 2]?.getD 0)) := by rw [hwq]; exact hcell _ (by omega)
      clear hcell hwq
      obtain ⟨y, hy⟩ : ∃ y, l[(lo + hi) / 2]?.getD 0 = y := ⟨_, rfl⟩
      rw [hy] at cm
      have Y := Lib.hid hy
      clear hy
      by_cases hyx : y < m
      · go_wp2_with (go_at_call 70; refine (lessI_any _ _ _).mono ?_; rintro e w' ⟨rfl, rfl⟩)
        go_roundw
        case measure => simp [intOf]; omega
        case rel =>
          refine ⟨(lo + hi) / 2 + 1, hi, q, by go_num, rfl, by omega, hin, HQ.out, fun t ht => ?_, H2.out⟩
          have := riseI_le l HR.out t ((lo + hi) / 2) (by omega) (by omega)
          rw [Y.out] at this
          omega
      · go_wp2_with (go_at_call 70; refine (lessI_any _ _ _).mono ?_; rintro e w' ⟨rfl, rfl⟩)
        go_roundw
        case measure => simp [intOf]; omega
        case rel =>
          refine ⟨lo, (lo + hi) / 2, q, rfl, by go_num, by omega, by omega, HQ.out, H1.out, fun t h3 h4 => ?_⟩
          have := riseI_le l HR.out ((lo + hi) / 2) t h3 (by omega)
          rw [Y.out] at this
          omega
    · obtain rfl : lo = hi := by omega
      have hlow : lowI l m = lo := lowI_at l m lo (by omega) H1.out (fun h => H2.out lo (Nat.le_refl _) (by omega))
      have HL := Lib.hid hlow
      have hfin : hitI l m = decide (lo < n ∧ l[lo]?.getD 0 = m) := by unfold hitI; rw [hlow, hlen]
      have HF := Lib.hid hfin
      clear hlow hfin
      by_cases hn2 : lo < n
      · obtain ⟨b, off, rfl, hbB, hcell⟩ := HB.out.2 (by omega)
        have cm : wr.cell? ⟨b, off + lo, none⟩ = some (.int .i64 (l[lo]?.getD 0)) := by rw [hwq]; exact hcell _ (by omega)
        clear hcell hwq
        obtain ⟨y, hy⟩ : ∃ y, l[lo]?.getD 0 = y := ⟨_, rfl⟩
        rw [hy] at cm
        have Y := Lib.hid hy
        clear hy
        by_cases hyx : y = m
        · go_wp2_with (first | (go_at_call 70; refine (lessI_any _ _ _).mono ?_; rintro e w' ⟨rfl, rfl⟩) | (go_at_call 71; refine (isNaNs_any _ _).mono ?_; rintro e w' ⟨rfl, rfl⟩))
          go_ret2
          refine ⟨?_, q, HQ.out⟩
          rw [HL.out, HF.out, Y.out, decide_eq_true (show lo < n ∧ y = m from ⟨hn2, hyx⟩)]
          first | rfl | simp [*]
        · go_wp2_with (first | (go_at_call 70; refine (lessI_any _ _ _).mono ?_; rintro e w' ⟨rfl, rfl⟩) | (go_at_call 71; refine (isNaNs_any _ _).mono ?_; rintro e w' ⟨rfl, rfl⟩))
          go_ret2
          refine ⟨?_, q, HQ.out⟩
          rw [HL.out, HF.out, Y.out, decide_eq_false (show ¬ (lo < n ∧ y = m) from fun h => hyx h.2)]
          first | rfl | simp [*]
      · clear hwq
        go_wp2_with (first | (go_at_call 70; refine (lessI_any _ _ _).mono ?_; rintro e w' ⟨rfl, rfl⟩) | (go_at_call 71; refine (isNaNs_any _ _).mono ?_; rintro e w' ⟨rfl, rfl⟩))
        go_ret2
        refine ⟨?_, q, HQ.out⟩
        rw [HL.out, HF.out, decide_eq_false (show ¬ (lo < n ∧ l[lo]?.getD 0 = m) from fun h => hn2 h.1)]
        first | rfl | simp [*]
end Go.Proofs.Ytdhnhgppapkikaa

-- InsI: slices.Insert of one element, as the program calls it, at one type of element. No statement of the program is proved here.
namespace Go.Proofs.Ytdhnhgppapkikaa
set_option maxRecDepth 100000
set_option linter.unusedVariables false
set_option linter.unusedSimpArgs false
open Go.RowKit

theorem Try.infoInsI : (Try.prog.info? 2).map (fun i => (i.zero, i.size, i.bytes)) = some (some (.int .i64 0), 1, 8) := by kernel_rfl
theorem Try.sizeInsI : ∀ w, (Go.sizeOf 2).run Try.prog w = .ok 1 w := by
  intro w
  obtain ⟨i0, hi0, hz0, hz1, hz2⟩ := info_parts Try.infoInsI
  simp [sizeOf, typeInfo, hi0, hz1]
theorem Try.siInsI : (Try.prog.info? 2).map (·.size) = some 1 := by
  obtain ⟨i0, hi0, hz0, hz1, hz2⟩ := info_parts Try.infoInsI
  rw [hi0]; simp [hz1]
/-- what insertion of one element leaves. -/
def InsAtI (base n i : Nat) (v : Value) (xs us : List Value) (w : World) (e : Ending) (w' : World) : Prop :=
  ∃ g' c', e = .returned (.slice (some ⟨g', 0, none⟩) (n + 1) c') ∧ w'.ownsRow base 2 1 (.slice (some ⟨g', 0, none⟩) (n + 1) c') (n + 1) (putAt xs us (i * 1)) ∧ w.grownBy w' v.ownBlock ∧ (v.ownBlock = some g' ∨ w.heap.size ≤ g')
set_option maxHeartbeats 4000000 in
/-- there is no room, and the place is not the last. -/
theorem insI_grow (base n c i vb vc g : Nat) (xs us : List Value) (w : World) (hr : w.ownsRow base 2 1 (.slice (some ⟨g, 0, none⟩) n c) n xs) (hbase : base ≤ w.heap.size) (hi : i < n) (hn : n ≤ 1048576) (hc : c < n + 1)
    (hv : w.heap[vb]? = some (.cells us.toArray 2 (0, 0))) (hu : us.length = 1) (h1u : ∀ u ∈ us, u.oneCell' = true) (h1x : ∀ u ∈ xs, u.oneCell' = true) :
    Calls Try.prog 63 #[.slice (some ⟨g, 0, none⟩) n c, .int .i64 i, .slice (some ⟨vb, 0, none⟩) 1 vc] w fun e w' => InsAtI base n i (.slice (some ⟨g, 0, none⟩) n c) xs us w e w' := by
  obtain ⟨i0, hi0, hz0, hz1, hz2⟩ := info_parts Try.infoInsI
  obtain ⟨cur, hbg, hg, hnc, hcm, hcs, htk⟩ := own_parts hr
  have hxl := hr.1
  have hgw : g < w.heap.size := (Array.getElem?_eq_some_iff.1 hg).1
  have hvw : vb < w.heap.size := (Array.getElem?_eq_some_iff.1 hv).1
  obtain rfl : c = n := by omega
  have hold : (Builtin.firstCells i0.size i (.slice (some ⟨g, 0, none⟩) i c)).run Try.prog w.drew = .ok (xs.take (i * 1)).toArray w.drew := by
    rw [hz1]
    exact run_firstCells_some w.drew 1 i ⟨g, 0, none⟩ i c (xs.take (i * 1)) (by rw [List.length_take]; omega) (fun j v hj => by
      rw [Addr.add_lit, Nat.zero_add]
      rw [List.getElem?_take] at hj
      split at hj
      · exact (World.ownsRow.cellAt hr j (by omega)).trans hj
      · cases hj)
  obtain ⟨G, hG⟩ : ∃ G, G = grownCap w (c + 1) c 2 := ⟨_, rfl⟩
  have hGn : c + 1 ≤ G := by rw [hG]; exact grownCap_ge w _ _ _
  have hGm : G ≤ maxLen := by rw [hG]; exact grownCap_le_maxLen w (c + 1) c _ (by unfold maxLen; omega)
  obtain ⟨ZS, hZS⟩ : ∃ ZS : List Value, ZS = (Builtin.zeroCells (.int .i64 0 : Value).cells (c + 1 - i)).toList ++ (Builtin.zeroCells (.int .i64 0 : Value).cells (G - (c + 1))).toList := ⟨_, rfl⟩
  have hZl : ZS.length = (G - i) * 1 := by
    rw [hZS]
    simp [Builtin.zeroCells, Value.cells]
    omega
  obtain ⟨W1, hW1⟩ : ∃ W1, W1 = w.drew.alloc (.cells (xs.take (i * 1) ++ ZS).toArray 2) := ⟨_, rfl⟩
  have hrz : ∀ ty, (Builtin.append_ #[23, 3] ty #[.slice (some ⟨g, 0, none⟩) i c, .int .i64 ((c : Int) + 1 - (i : Int))]).run Try.prog w = .ok (.slice (some ⟨w.heap.size, 0, none⟩) (c + 1) G) W1 := fun ty => by
    have h := Lib.run_append_grow_zeros w 23 3 ty 2 i0 _ .i64 .i64 Try.underlying23 Try.underlying3 hi0 hz0 (some ⟨g, 0, none⟩) i c (xs.take (i * 1)) hold (c + 1 - i) (by omega) (by omega) (by omega) (by omega) (by rw [hz2]; omega)
      (by rw [hz2, show i + (c + 1 - i) = c + 1 by omega]; exact growslice_fits (by omega) (by omega))
    rw [show i + (c + 1 - i) = c + 1 by omega, ← hG, show (((c + 1 - i : Nat) : Nat) : Int) = (c : Int) + 1 - (i : Int) by omega] at h
    rw [h, hW1, hZS]
    congr 3
    apply Array.ext'
    simp
  have hg1 : W1.heap[w.heap.size]? = some (.cells (xs.take (i * 1) ++ ZS).toArray 2 (0, 0)) := by rw [hW1]; exact heap_alloc_new w.drew _
  have ho1 : ∀ k, k < w.heap.size → W1.heap[k]? = w.heap[k]? := fun k hk => by rw [hW1]; exact heap_alloc_old w.drew _ hk
  have hs1 : w.grownBy W1 (some w.heap.size) := ⟨by rw [hW1]; rfl, by rw [hW1]; rfl, by rw [hW1]; rfl, by rw [hW1]; simp, fun k hk _ => ho1 k hk⟩
  have lc0 : (xs.take (i * 1) ++ ZS).length = G * 1 := by simp [hZl]; omega
  obtain ⟨c1, hc1⟩ : ∃ c1 : List Value, c1 = (xs.take (i * 1) ++ ZS).take (i * 1) ++ us ++ (xs.take (i * 1) ++ ZS).drop (i * 1 + us.length) := ⟨_, rfl⟩
  have lc1 : c1.length = G * 1 := by rw [hc1]; simp [hZl]; omega
  obtain ⟨W2, hW2⟩ : ∃ W2, W2 = W1.setRow w.heap.size c1.toArray := ⟨_, rfl⟩
  have hcpA : ∀ ty dc, (Builtin.copy_ #[23, 23] ty #[.slice (some ⟨w.heap.size, i, none⟩) (c + 1 - i) dc, .slice (some ⟨vb, 0, none⟩) 1 vc]).run Try.prog W1 = .ok (goInt 1) W2 := fun ty dc => by
    have h := run_copy_wide (P := Try.prog) W1 23 23 ty 2 1 w.heap.size (i * 1) (c + 1 - i) dc 1 ⟨vb, 0, none⟩ 1 vc _ _ us Try.underlying23 Try.siInsI hg1 (by simp only [Nat.min_def]; split <;> omega) (by omega)
      (fun j v hj => by rw [Addr.add_lit, Nat.zero_add, cell_of_row W1 vb j us.toArray _ (0, 0) ((ho1 vb hvw).trans hv)]; simpa using hj) (by simp [hZl]; omega) h1u
    rw [hW2, hc1]
    simpa using h
  have hg2 : W2.heap[w.heap.size]? = some (.cells c1.toArray 2 (0, 0)) := by rw [hW2]; exact setRow_heap W1 _ _ _ _ _ hg1
  have ho2 : ∀ k, k < w.heap.size → W2.heap[k]? = w.heap[k]? := fun k hk => by rw [hW2, setRow_other W1 _ k _ (by omega)]; exact ho1 k hk
  obtain ⟨c2, hc2⟩ : ∃ c2 : List Value, c2 = c1.take (i * 1 + 1) ++ xs.drop (i * 1) ++ c1.drop (i * 1 + 1 + (xs.drop (i * 1)).length) := ⟨_, rfl⟩
  obtain ⟨W3, hW3⟩ : ∃ W3, W3 = W2.drew.setRow w.heap.size c2.toArray := ⟨_, rfl⟩
  have hcpB : ∀ ty dl dc sc, dl = c - i → (Builtin.copy_ #[23, 23] ty #[.slice (some ⟨w.heap.size, (i + 1), none⟩) dl dc, .slice (some ⟨g, i, none⟩) (c - i) sc]).run Try.prog W2.drew = .ok (goInt (c - i : Nat)) W3 := fun ty dl dc sc hdl => by
    subst hdl
    have h := run_copy_wide (P := Try.prog) W2.drew 23 23 ty 2 1 w.heap.size (i * 1 + 1) (c - i) dc (c - i) ⟨g, i * 1, none⟩ (c - i) sc _ _ (xs.drop (i * 1)) Try.underlying23 Try.siInsI hg2 (by simp only [Nat.min_def]; split <;> omega) (by simp; omega)
      (fun j v hj => by
        rw [Addr.add_lit]
        rw [List.getElem?_drop] at hj
        have hj' := (List.getElem?_eq_some_iff.1 hj).1
        rw [show W2.drew.cell? ⟨g, i * 1 + j, none⟩ = W2.cell? ⟨g, i * 1 + j, none⟩ from rfl, cell_of_row W2 g _ cur _ (0, 0) ((ho2 g hgw).trans hg)]
        rw [← cell_of_row w g _ cur _ (0, 0) hg]
        exact (World.ownsRow.cellAt hr _ (by omega)).trans hj) (by simp [lc1]; omega) (fun v hv => h1x v (List.mem_of_mem_drop hv))
    rw [hW3, hc2]
    simpa [Nat.add_mul] using h
  have hgr := grow_row xs us ZS (i * 1) 1 (by omega) hu (by rw [hZl]; omega)
  simp only [← hc1] at hgr
  rw [← hc2, lc0] at hgr
  have hfin : InsAtI base c i (.slice (some ⟨g, 0, none⟩) c c) xs us w (.returned (.slice (some ⟨w.heap.size, 0, none⟩) (c + 1) G)) W3 := by
    refine ⟨w.heap.size, G, rfl, own_mk c2.toArray (by rw [putAt_len]; omega) hbase (by rw [hW3]; exact setRow_heap W2.drew _ _ _ _ _ hg2) hGn hGm (by simpa using hgr.2) (by rw [show (c + 1) * 1 = xs.length + 1 by omega]; exact hgr.1), ?_, .inr (Nat.le_refl _)⟩
    refine ⟨by rw [hW3, hW2]; exact hs1.os, by rw [hW3, hW2]; exact hs1.tape, by rw [hW3, hW2]; exact hs1.output, by rw [hW3, hW2]; simpa using hs1.size, fun k hk _ => ?_⟩
    rw [hW3, setRow_other W2.drew _ k _ (by omega)]; exact ho2 k hk
  have HF := Lib.hid hfin
  have HA := Lib.hid hrz
  have HB := Lib.hid hcpA
  have HC := Lib.hid hcpB
  clear hfin hrz hcpA hcpB hgr hg1 ho1 hs1 hg2 ho2 hold hG hW1 hW2 hW3 hZS hc1 hc2 lc0 lc1 hZl htk hcs hr hz0
  unfold maxLen at hGm
  have mixed : Try.prog.follows .mixedOrders = true := by kernel_rfl
  have hz2' : ¬ ((i : Int) = (c : Int)) := by omega
  have hz3 : (c : Int) < (c : Int) + 1 := by omega
  have hw1 : IntKind.i64.wrap ((i : Int) + 1) = (i : Int) + 1 := by rw [IntKind.wrap_i64]; omega
  have htn : ((i : Int) + 1).toNat = i + 1 := by omega
  have hGi : ¬ (G = i) := by omega
  have hGim : ¬ (G = i + 1) := by omega
  have hci : ¬ (c = i) := by omega
  have hb1 : (0 : Int) ≤ (i : Int) + 1 := by omega
  have hin : i ≤ c := by omega
  have hb3 : (i : Int) ≤ (c : Int) := by omega
  go_enter Try.func63, Try.ntmps63
  go_wp2_with (first
    | (at_builtin; refine Lib.wpList_append_run _ rfl _ _ _ _ rfl _ _ rfl rfl _ _ (HA.out _) ?_)
    | (simp only [HB.out]))
  go_region_law_o (refine step_copy_runI rfl _ _ 23 23 rfl _ _ (by simp [Act.eval, Act.put]) (by simp [Act.eval, Act.put]) (HC.out _ (c - i) (G - (i + 1)) (c - i) rfl) ?_)
  go_wp2
  go_ret
  exact HF.out
set_option maxHeartbeats 4000000 in
/-- there is room, and the place is not the last. -/
theorem insI_room (base n c i vb vc g : Nat) (xs us : List Value) (w : World) (hr : w.ownsRow base 2 1 (.slice (some ⟨g, 0, none⟩) n c) n xs) (hbase : base ≤ w.heap.size) (hi : i < n) (hn : n ≤ 1048576) (hc : n + 1 ≤ c)
    (hv : w.heap[vb]? = some (.cells us.toArray 2 (0, 0))) (hu : us.length = 1) (h1u : ∀ u ∈ us, u.oneCell' = true) (h1x : ∀ u ∈ xs, u.oneCell' = true) (hne : g ≠ vb) :
    Calls Try.prog 63 #[.slice (some ⟨g, 0, none⟩) n c, .int .i64 i, .slice (some ⟨vb, 0, none⟩) 1 vc] w fun e w' => InsAtI base n i (.slice (some ⟨g, 0, none⟩) n c) xs us w e w' := by
  obtain ⟨cur, hbg, hg, hnc, hcm, hcs, htk⟩ := own_parts hr
  have hxl := hr.1
  have hgw : g < w.heap.size := (Array.getElem?_eq_some_iff.1 hg).1
  have hvw : vb < w.heap.size := (Array.getElem?_eq_some_iff.1 hv).1
  have hcl : cur.toList.length = c * 1 := by simpa using hcs
  have hov : ∀ lb cb, (callFunc 77 #[.slice (some ⟨vb, 0, none⟩) 1 vc, .slice (some ⟨g, (i + 1), none⟩) lb cb]).run Try.prog w = .ok (.value (.bool false)) w := fun lb cb => by
    rw [run_callFunc_extern Try.func77 (by kernel_rfl) (by kernel_rfl) (by kernel_rfl) (e := Extern.SlicesOverlaps.overlaps #[23, 23] #[4]) (by kernel_rfl),
      Lib.run_overlaps_apart w 23 4 2 Try.underlying23 1 Try.sizeInsI ⟨vb, 0, none⟩ ⟨g, (i + 1), none⟩ 1 vc lb cb (fun e => hne e.symm) 2 2 1 (c * 1) (by simp [World.shape?, hv, hu]) (by simp [World.shape?, hg, hcs]) (by omega) (frozen_of_row w vb 0 _ _ hv) (frozen_of_row w vb _ _ _ hv)]
    rfl
  obtain ⟨c1, hc1⟩ : ∃ c1 : List Value, c1 = cur.toList.take (i * 1 + 1) ++ xs.drop (i * 1) ++ cur.toList.drop (i * 1 + 1 + (xs.drop (i * 1)).length) := ⟨_, rfl⟩
  have lc1 : c1.length = c * 1 := by rw [hc1]; simp [hcs]; omega
  obtain ⟨W1, hW1⟩ : ∃ W1, W1 = w.drew.setRow g c1.toArray := ⟨_, rfl⟩
  have hcp1 : ∀ ty dl dc sc, dl = n - i → (Builtin.copy_ #[23, 23] ty #[.slice (some ⟨g, (i + 1), none⟩) dl dc, .slice (some ⟨g, i, none⟩) (n + 1 - i) sc]).run Try.prog w.drew = .ok (goInt (n - i : Nat)) W1 := fun ty dl dc sc hdl => by
    subst hdl
    have h := run_copy_wide (P := Try.prog) w.drew 23 23 ty 2 1 g (i * 1 + 1) (n - i) dc (n - i) ⟨g, i * 1, none⟩ (n + 1 - i) sc _ _ (xs.drop (i * 1)) Try.underlying23 Try.siInsI hg (by simp only [Nat.min_def]; split <;> omega) (by simp; omega)
      (fun j v hj => by
        rw [Addr.add_lit]
        rw [List.getElem?_drop] at hj
        have hj' := (List.getElem?_eq_some_iff.1 hj).1
        exact (World.ownsRow.cellAt hr _ (by omega)).trans hj) (by simp [hcs]; omega) (fun v hv => h1x v (List.mem_of_mem_drop hv))
    rw [hW1, hc1]
    simpa [Nat.add_mul] using h
  have hg1 : W1.heap[g]? = some (.cells c1.toArray 2 (0, 0)) := by rw [hW1]; exact setRow_heap w.drew _ _ _ _ _ hg
  have hv1 : W1.heap[vb]? = some (.cells us.toArray 2 (0, 0)) := by rw [hW1, setRow_other w.drew g vb _ (fun e => hne e.symm)]; exact hv
  obtain ⟨c2, hc2⟩ : ∃ c2 : List Value, c2 = c1.take (i * 1) ++ us ++ c1.drop (i * 1 + us.length) := ⟨_, rfl⟩
  obtain ⟨W2, hW2⟩ : ∃ W2, W2 = W1.setRow g c2.toArray := ⟨_, rfl⟩
  have hcp2 : ∀ ty dc, (Builtin.copy_ #[23, 23] ty #[.slice (some ⟨g, i, none⟩) (n + 1 - i) dc, .slice (some ⟨vb, 0, none⟩) 1 vc]).run Try.prog W1 = .ok (goInt 1) W2 := fun ty dc => by
    have h := run_copy_wide (P := Try.prog) W1 23 23 ty 2 1 g (i * 1) (n + 1 - i) dc 1 ⟨vb, 0, none⟩ 1 vc _ _ us Try.underlying23 Try.siInsI hg1 (by simp only [Nat.min_def]; split <;> omega) (by omega)
      (fun j v hj => by rw [Addr.add_lit, Nat.zero_add, cell_of_row W1 vb j us.toArray _ (0, 0) hv1]; simpa using hj) (by simp [lc1]; omega) h1u
    rw [hW2, hc2]
    simpa using h
  have hsr := shift_row cur.toList us xs (i * 1) 1 (by rw [hxl]; exact htk) (by omega) hu (by rw [hcl]; omega)
  simp only [← hc1] at hsr
  rw [← hc2, hcl] at hsr
  have hfin : InsAtI base n i (.slice (some ⟨g, 0, none⟩) n c) xs us w (.returned (.slice (some ⟨g, 0, none⟩) (n + 1) c)) W2 := by
    refine ⟨g, c, rfl, own_mk c2.toArray (by rw [putAt_len]; omega) hbg (by rw [hW2]; exact setRow_heap W1 _ _ _ _ _ hg1) hc hcm (by simpa using hsr.2) (by rw [show (n + 1) * 1 = xs.length + 1 by omega]; exact hsr.1), ?_, .inl rfl⟩
    refine ⟨by rw [hW2, hW1]; rfl, by rw [hW2, hW1]; rfl, by rw [hW2, hW1]; rfl, by rw [hW2, hW1]; simp, fun k hk hkg => ?_⟩
    have hkg : k ≠ g := fun e => hkg (by rw [e]; simp [Value.ownBlock])
    rw [hW2, setRow_other W1 _ k _ hkg, hW1, setRow_other w.drew _ k _ hkg]; rfl
  have HF := Lib.hid hfin
  have HA := Lib.hid hcp1
  have HB := Lib.hid hcp2
  unfold maxLen at hcm
  clear hfin hcp1 hcp2 hsr hg1 hv1 hW1 hW2 hc1 hc2 lc1 hcl htk hcs hr
  have mixed : Try.prog.follows .mixedOrders = true := by kernel_rfl
  have hz2' : ¬ ((i : Int) = (n : Int)) := by omega
  have hw1 : IntKind.i64.wrap ((i : Int) + 1) = (i : Int) + 1 := by rw [IntKind.wrap_i64]; omega
  have hb1 : (0 : Int) ≤ (i : Int) + 1 := by omega
  have hin : i ≤ n := by omega
  have htn : ((i : Int) + 1).toNat = i + 1 := by omega
  have hb2 : ¬ (c = i + 1) := by omega
  have hb3 : (i : Int) ≤ (n : Int) + 1 := by omega
  have hb4 : ¬ (c = i) := by omega
  go_enter Try.func63, Try.ntmps63
  go_wp2_with (simp only [hov])
  go_region_law_o (refine step_copy_runI rfl _ _ 23 23 rfl _ _ (by simp [Act.eval, Act.put]) (by simp [Act.eval, Act.put]) (HA.out _ (n - i) (c - (i + 1)) (c - i) rfl) ?_)
  go_wp2_with (simp only [HB.out])
  go_ret
  exact HF.out
set_option maxHeartbeats 4000000 in
/-- the place is the last. -/
theorem insI_end (base n c vb vc : Nat) (A : Option Addr) (xs us : List Value) (w : World) (hr : w.ownsRow base 2 1 (.slice A n c) n xs) (hbase : base ≤ w.heap.size) (hn : n ≤ 1048576)
    (hv : w.heap[vb]? = some (.cells us.toArray 2 (0, 0))) (hu : us.length = 1) (h1u : ∀ u ∈ us, u.oneCell' = true) :
    Calls Try.prog 63 #[.slice A n c, .int .i64 n, .slice (some ⟨vb, 0, none⟩) 1 vc] w fun e w' => InsAtI base n n (.slice A n c) xs us w e w' := by
  obtain ⟨i0, hi0, hz0, hz1, hz2⟩ := info_parts Try.infoInsI
  obtain ⟨hnc, hcm, hA⟩ := own_cap hr
  unfold maxLen at hcm
  have hxl := hr.1
  have hx : putAt xs us (n * 1) = xs ++ us := by unfold putAt; rw [List.take_of_length_le (by omega), List.drop_of_length_le (by omega), List.append_nil]
  unfold InsAtI
  rw [hx]
  have hnn : ((n : Int) == (n : Int)) = true := by simp
  clear hx
  go_enter Try.func63, Try.ntmps63
  rcases own_none hr with ⟨rfl, rfl, rfl⟩ | ⟨g, rfl⟩
  all_goals
    go_wp2_with (at_builtin; refine wpList_append_lies _ rfl _ _ 23 rfl base 2 i0 (.int .i64 0) 1 8 Try.underlying23 hi0 hz0 hz1 hz2 rfl (by decide) _ _ _ rfl hr ⟨vb, 0, none⟩ 1 vc us rfl (by omega) (fun j u hj => by rw [Addr.add_lit, Nat.zero_add, cell_of_row w vb j us.toArray _ (0, 0) hv]; simpa using hj) h1u (by omega) (by unfold maxLen; omega) (by omega) hbase _ rfl ?_)
    all_goals
      intro g' c' w1 hown hgrow hat hlt
      go_wp2
      go_ret
      refine ⟨g', c', rfl, hown, hgrow, ?_⟩
      rcases hat with h | h
      · exact .inl h
      · exact .inr (by omega)
theorem insI_any (base n c i vb vc : Nat) (A : Option Addr) (xs us : List Value) (w : World) (hr : w.ownsRow base 2 1 (.slice A n c) n xs) (hbase : base ≤ w.heap.size) (hi : i ≤ n) (hn : n ≤ 1048576)
    (hv : w.heap[vb]? = some (.cells us.toArray 2 (0, 0))) (hu : us.length = 1) (h1u : ∀ u ∈ us, u.oneCell' = true) (h1x : ∀ u ∈ xs, u.oneCell' = true) (hne : (Value.slice A n c).ownBlock ≠ some vb) :
    Calls Try.prog 63 #[.slice A n c, .int .i64 i, .slice (some ⟨vb, 0, none⟩) 1 vc] w fun e w' => InsAtI base n i (.slice A n c) xs us w e w' := by
  rcases Nat.lt_or_ge i n with h | h
  · rcases own_none hr with ⟨rfl, rfl, rfl⟩ | ⟨g, rfl⟩
    · omega
    · have hne : g ≠ vb := fun e => hne (by rw [e]; simp [Value.ownBlock])
      rcases Nat.lt_or_ge c (n + 1) with h1 | h1
      · exact insI_grow base n c i vb vc g xs us w hr hbase h hn h1 hv hu h1u h1x
      · exact insI_room base n c i vb vc g xs us w hr hbase h hn h1 hv hu h1u h1x hne
  · obtain rfl : i = n := by omega
    exact insI_end base i c vb vc A xs us w hr hbase hn hv hu h1u
end Go.Proofs.Ytdhnhgppapkikaa

-- InsN: slices.Insert of one element, as the program calls it, at one type of element. No statement of the program is proved here.
namespace Go.Proofs.Ytdhnhgppapkikaa
set_option maxRecDepth 100000
set_option linter.unusedVariables false
set_option linter.unusedSimpArgs false
open Go.RowKit

theorem Try.infoInsN : (Try.prog.info? 35).map (fun i => (i.zero, i.size, i.bytes)) = some (some (.agg #[.int .i64 0, .slice none 0 0, .slice none 0 0, .string ⟨#[]⟩]), 4, 72) := by kernel_rfl
theorem Try.sizeInsN : ∀ w, (Go.sizeOf 35).run Try.prog w = .ok 4 w := by
  intro w
  obtain ⟨i0, hi0, hz0, hz1, hz2⟩ := info_parts Try.infoInsN
  simp [sizeOf, typeInfo, hi0, hz1]
theorem Try.siInsN : (Try.prog.info? 35).map (·.size) = some 4 := by
  obtain ⟨i0, hi0, hz0, hz1, hz2⟩ := info_parts Try.infoInsN
  rw [hi0]; simp [hz1]
/-- what insertion of one element leaves. -/
def InsAtN (base n i : Nat) (v : Value) (xs us : List Value) (w : World) (e : Ending) (w' : World) : Prop :=
  ∃ g' c', e = .returned (.slice (some ⟨g', 0, none⟩) (n + 1) c') ∧ w'.ownsRow base 35 4 (.slice (some ⟨g', 0, none⟩) (n + 1) c') (n + 1) (putAt xs us (i * 4)) ∧ w.grownBy w' v.ownBlock ∧ (v.ownBlock = some g' ∨ w.heap.size ≤ g')
set_option maxHeartbeats 4000000 in
/-- there is no room, and the place is not the last. -/
theorem insN_grow (base n c i vb vc g : Nat) (xs us : List Value) (w : World) (hr : w.ownsRow base 35 4 (.slice (some ⟨g, 0, none⟩) n c) n xs) (hbase : base ≤ w.heap.size) (hi : i < n) (hn : n ≤ 1048576) (hc : c < n + 1)
    (hv : w.heap[vb]? = some (.cells us.toArray 35 (0, 0))) (hu : us.length = 4) (h1u : ∀ u ∈ us, u.oneCell' = true) (h1x : ∀ u ∈ xs, u.oneCell' = true) :
    Calls Try.prog 64 #[.slice (some ⟨g, 0, none⟩) n c, .int .i64 i, .slice (some ⟨vb, 0, none⟩) 1 vc] w fun e w' => InsAtN base n i (.slice (some ⟨g, 0, none⟩) n c) xs us w e w' := by
  obtain ⟨i0, hi0, hz0, hz1, hz2⟩ := info_parts Try.infoInsN
  obtain ⟨cur, hbg, hg, hnc, hcm, hcs, htk⟩ := own_parts hr
  have hxl := hr.1
  have hgw : g < w.heap.size := (Array.getElem?_eq_some_iff.1 hg).1
  have hvw : vb < w.heap.size := (Array.getElem?_eq_some_iff.1 hv).1
  obtain rfl : c = n := by omega
  have hold : (Builtin.firstCells i0.size i (.slice (some ⟨g, 0, none⟩) i c)).run Try.prog w.drew = .ok (xs.take (i * 4)).toArray w.drew := by
    rw [hz1]
    exact run_firstCells_some w.drew 4 i ⟨g, 0, none⟩ i c (xs.take (i * 4)) (by rw [List.length_take]; omega) (fun j v hj => by
      rw [Addr.add_lit, Nat.zero_add]
      rw [List.getElem?_take] at hj
      split at hj
      · exact (World.ownsRow.cellAt hr j (by omega)).trans hj
      · cases hj)
  obtain ⟨G, hG⟩ : ∃ G, G = grownCap w (c + 1) c 35 := ⟨_, rfl⟩
  have hGn : c + 1 ≤ G := by rw [hG]; exact grownCap_ge w _ _ _
  have hGm : G ≤ maxLen := by rw [hG]; exact grownCap_le_maxLen w (c + 1) c _ (by unfold maxLen; omega)
  obtain ⟨ZS, hZS⟩ : ∃ ZS : List Value, ZS = (Builtin.zeroCells (.agg #[.int .i64 0, .slice none 0 0, .slice none 0 0, .string ⟨#[]⟩] : Value).cells (c + 1 - i)).toList ++ (Builtin.zeroCells (.agg #[.int .i64 0, .slice none 0 0, .slice none 0 0, .string ⟨#[]⟩] : Value).cells (G - (c + 1))).toList := ⟨_, rfl⟩
  have hZl : ZS.length = (G - i) * 4 := by
    rw [hZS]
    simp [Builtin.zeroCells, Value.cells]
    omega
  obtain ⟨W1, hW1⟩ : ∃ W1, W1 = w.drew.alloc (.cells (xs.take (i * 4) ++ ZS).toArray 35) := ⟨_, rfl⟩
  have hrz : ∀ ty, (Builtin.append_ #[57, 3] ty #[.slice (some ⟨g, 0, none⟩) i c, .int .i64 ((c : Int) + 1 - (i : Int))]).run Try.prog w = .ok (.slice (some ⟨w.heap.size, 0, none⟩) (c + 1) G) W1 := fun ty => by
    have h := Lib.run_append_grow_zeros w 57 3 ty 35 i0 _ .i64 .i64 Try.underlying57 Try.underlying3 hi0 hz0 (some ⟨g, 0, none⟩) i c (xs.take (i * 4)) hold (c + 1 - i) (by omega) (by omega) (by omega) (by omega) (by rw [hz2]; omega)
      (by rw [hz2, show i + (c + 1 - i) = c + 1 by omega]; exact growslice_fits (by omega) (by omega))
    rw [show i + (c + 1 - i) = c + 1 by omega, ← hG, show (((c + 1 - i : Nat) : Nat) : Int) = (c : Int) + 1 - (i : Int) by omega] at h
    rw [h, hW1, hZS]
    congr 3
    apply Array.ext'
    simp
  have hg1 : W1.heap[w.heap.size]? = some (.cells (xs.take (i * 4) ++ ZS).toArray 35 (0, 0)) := by rw [hW1]; exact heap_alloc_new w.drew _
  have ho1 : ∀ k, k < w.heap.size → W1.heap[k]? = w.heap[k]? := fun k hk => by rw [hW1]; exact heap_alloc_old w.drew _ hk
  have hs1 : w.grownBy W1 (some w.heap.size) := ⟨by rw [hW1]; rfl, by rw [hW1]; rfl, by rw [hW1]; rfl, by rw [hW1]; simp, fun k hk _ => ho1 k hk⟩
  have lc0 : (xs.take (i * 4) ++ ZS).length = G * 4 := by simp [hZl]; omega
  obtain ⟨c1, hc1⟩ : ∃ c1 : List Value, c1 = (xs.take (i * 4) ++ ZS).take (i * 4) ++ us ++ (xs.take (i * 4) ++ ZS).drop (i * 4 + us.length) := ⟨_, rfl⟩
  have lc1 : c1.length = G * 4 := by rw [hc1]; simp [hZl]; omega
  obtain ⟨W2, hW2⟩ : ∃ W2, W2 = W1.setRow w.heap.size c1.toArray := ⟨_, rfl⟩
  have hcpA : ∀ ty dc, (Builtin.copy_ #[57, 57] ty #[.slice (some ⟨w.heap.size, i * 4, none⟩) (c + 1 - i) dc, .slice (some ⟨vb, 0, none⟩) 1 vc]).run Try.prog W1 = .ok (goInt 1) W2 := fun ty dc => by
    have h := run_copy_wide (P := Try.prog) W1 57 57 ty 35 4 w.heap.size (i * 4) (c + 1 - i) dc 1 ⟨vb, 0, none⟩ 1 vc _ _ us Try.underlying57 Try.siInsN hg1 (by simp only [Nat.min_def]; split <;> omega) (by omega)
      (fun j v hj => by rw [Addr.add_lit, Nat.zero_add, cell_of_row W1 vb j us.toArray _ (0, 0) ((ho1 vb hvw).trans hv)]; simpa using hj) (by simp [hZl]; omega) h1u
    rw [hW2, hc1]
    simpa using h
  have hg2 : W2.heap[w.heap.size]? = some (.cells c1.toArray 35 (0, 0)) := by rw [hW2]; exact setRow_heap W1 _ _ _ _ _ hg1
  have ho2 : ∀ k, k < w.heap.size → W2.heap[k]? = w.heap[k]? := fun k hk => by rw [hW2, setRow_other W1 _ k _ (by omega)]; exact ho1 k hk
  obtain ⟨c2, hc2⟩ : ∃ c2 : List Value, c2 = c1.take (i * 4 + 4) ++ xs.drop (i * 4) ++ c1.drop (i * 4 + 4 + (xs.drop (i * 4)).length) := ⟨_, rfl⟩
  obtain ⟨W3, hW3⟩ : ∃ W3, W3 = W2.drew.setRow w.heap.size c2.toArray := ⟨_, rfl⟩
  have hcpB : ∀ ty dl dc sc, dl = c - i → (Builtin.copy_ #[57, 57] ty #[.slice (some ⟨w.heap.size, (i + 1) * 4, none⟩) dl dc, .slice (some ⟨g, i * 4, none⟩) (c - i) sc]).run Try.prog W2.drew = .ok (goInt (c - i : Nat)) W3 := fun ty dl dc sc hdl => by
    subst hdl
    have h := run_copy_wide (P := Try.prog) W2.drew 57 57 ty 35 4 w.heap.size (i * 4 + 4) (c - i) dc (c - i) ⟨g, i * 4, none⟩ (c - i) sc _ _ (xs.drop (i * 4)) Try.underlying57 Try.siInsN hg2 (by simp only [Nat.min_def]; split <;> omega) (by simp; omega)
      (fun j v hj => by
        rw [Addr.add_lit]
        rw [List.getElem?_drop] at hj
        have hj' := (List.getElem?_eq_some_iff.1 hj).1
        rw [show W2.drew.cell? ⟨g, i * 4 + j, none⟩ = W2.cell? ⟨g, i * 4 + j, none⟩ from rfl, cell_of_row W2 g _ cur _ (0, 0) ((ho2 g hgw).trans hg)]
        rw [← cell_of_row w g _ cur _ (0, 0) hg]
        exact (World.ownsRow.cellAt hr _ (by omega)).trans hj) (by simp [lc1]; omega) (fun v hv => h1x v (List.mem_of_mem_drop hv))
    rw [hW3, hc2]
    simpa [Nat.add_mul] using h
  have hgr := grow_row xs us ZS (i * 4) 4 (by omega) hu (by rw [hZl]; omega)
  simp only [← hc1] at hgr
  rw [← hc2, lc0] at hgr
  have hfin : InsAtN base c i (.slice (some ⟨g, 0, none⟩) c c) xs us w (.returned (.slice (some ⟨w.heap.size, 0, none⟩) (c + 1) G)) W3 := by
    refine ⟨w.heap.size, G, rfl, own_mk c2.toArray (by rw [putAt_len]; omega) hbase (by rw [hW3]; exact setRow_heap W2.drew _ _ _ _ _ hg2) hGn hGm (by simpa using hgr.2) (by rw [show (c + 1) * 4 = xs.length + 4 by omega]; exact hgr.1), ?_, .inr (Nat.le_refl _)⟩
    refine ⟨by rw [hW3, hW2]; exact hs1.os, by rw [hW3, hW2]; exact hs1.tape, by rw [hW3, hW2]; exact hs1.output, by rw [hW3, hW2]; simpa using hs1.size, fun k hk _ => ?_⟩
    rw [hW3, setRow_other W2.drew _ k _ (by omega)]; exact ho2 k hk
  have HF := Lib.hid hfin
  have HA := Lib.hid hrz
  have HB := Lib.hid hcpA
  have HC := Lib.hid hcpB
  clear hfin hrz hcpA hcpB hgr hg1 ho1 hs1 hg2 ho2 hold hG hW1 hW2 hW3 hZS hc1 hc2 lc0 lc1 hZl htk hcs hr hz0
  unfold maxLen at hGm
  have mixed : Try.prog.follows .mixedOrders = true := by kernel_rfl
  have hz2' : ¬ ((i : Int) = (c : Int)) := by omega
  have hz3 : (c : Int) < (c : Int) + 1 := by omega
  have hw1 : IntKind.i64.wrap ((i : Int) + 1) = (i : Int) + 1 := by rw [IntKind.wrap_i64]; omega
  have htn : ((i : Int) + 1).toNat = i + 1 := by omega
  have hGi : ¬ (G = i) := by omega
  have hGim : ¬ (G = i + 1) := by omega
  have hci : ¬ (c = i) := by omega
  have hb1 : (0 : Int) ≤ (i : Int) + 1 := by omega
  have hin : i ≤ c := by omega
  have hb3 : (i : Int) ≤ (c : Int) := by omega
  go_enter Try.func64, Try.ntmps64
  go_wp2_with (first
    | (at_builtin; refine Lib.wpList_append_run _ rfl _ _ _ _ rfl _ _ rfl rfl _ _ (HA.out _) ?_)
    | (simp only [HB.out]))
  go_region_law_o (refine step_copy_runI rfl _ _ 57 57 rfl _ _ (by simp [Act.eval, Act.put]) (by simp [Act.eval, Act.put]) (HC.out _ (c - i) (G - (i + 1)) (c - i) rfl) ?_)
  go_wp2
  go_ret
  exact HF.out
set_option maxHeartbeats 4000000 in
/-- there is room, and the place is not the last. -/
theorem insN_room (base n c i vb vc g : Nat) (xs us : List Value) (w : World) (hr : w.ownsRow base 35 4 (.slice (some ⟨g, 0, none⟩) n c) n xs) (hbase : base ≤ w.heap.size) (hi : i < n) (hn : n ≤ 1048576) (hc : n + 1 ≤ c)
    (hv : w.heap[vb]? = some (.cells us.toArray 35 (0, 0))) (hu : us.length = 4) (h1u : ∀ u ∈ us, u.oneCell' = true) (h1x : ∀ u ∈ xs, u.oneCell' = true) (hne : g ≠ vb) :
    Calls Try.prog 64 #[.slice (some ⟨g, 0, none⟩) n c, .int .i64 i, .slice (some ⟨vb, 0, none⟩) 1 vc] w fun e w' => InsAtN base n i (.slice (some ⟨g, 0, none⟩) n c) xs us w e w' := by
  obtain ⟨cur, hbg, hg, hnc, hcm, hcs, htk⟩ := own_parts hr
  have hxl := hr.1
  have hgw : g < w.heap.size := (Array.getElem?_eq_some_iff.1 hg).1
  have hvw : vb < w.heap.size := (Array.getElem?_eq_some_iff.1 hv).1
  have hcl : cur.toList.length = c * 4 := by simpa using hcs
  have hov : ∀ lb cb, (callFunc 79 #[.slice (some ⟨vb, 0, none⟩) 1 vc, .slice (some ⟨g, (i + 1) * 4, none⟩) lb cb]).run Try.prog w = .ok (.value (.bool false)) w := fun lb cb => by
    rw [run_callFunc_extern Try.func79 (by kernel_rfl) (by kernel_rfl) (by kernel_rfl) (e := Extern.SlicesOverlaps.overlaps #[57, 57] #[4]) (by kernel_rfl),
      Lib.run_overlaps_apart w 57 4 35 Try.underlying57 4 Try.sizeInsN ⟨vb, 0, none⟩ ⟨g, (i + 1) * 4, none⟩ 1 vc lb cb (fun e => hne e.symm) 35 35 4 (c * 4) (by simp [World.shape?, hv, hu]) (by simp [World.shape?, hg, hcs]) (by omega) (frozen_of_row w vb 0 _ _ hv) (frozen_of_row w vb _ _ _ hv)]
    rfl
  obtain ⟨c1, hc1⟩ : ∃ c1 : List Value, c1 = cur.toList.take (i * 4 + 4) ++ xs.drop (i * 4) ++ cur.toList.drop (i * 4 + 4 + (xs.drop (i * 4)).length) := ⟨_, rfl⟩
  have lc1 : c1.length = c * 4 := by rw [hc1]; simp [hcs]; omega
  obtain ⟨W1, hW1⟩ : ∃ W1, W1 = w.drew.setRow g c1.toArray := ⟨_, rfl⟩
  have hcp1 : ∀ ty dl dc sc, dl = n - i → (Builtin.copy_ #[57, 57] ty #[.slice (some ⟨g, (i + 1) * 4, none⟩) dl dc, .slice (some ⟨g, i * 4, none⟩) (n + 1 - i) sc]).run Try.prog w.drew = .ok (goInt (n - i : Nat)) W1 := fun ty dl dc sc hdl => by
    subst hdl
    have h := run_copy_wide (P := Try.prog) w.drew 57 57 ty 35 4 g (i * 4 + 4) (n - i) dc (n - i) ⟨g, i * 4, none⟩ (n + 1 - i) sc _ _ (xs.drop (i * 4)) Try.underlying57 Try.siInsN hg (by simp only [Nat.min_def]; split <;> omega) (by simp; omega)
      (fun j v hj => by
        rw [Addr.add_lit]
        rw [List.getElem?_drop] at hj
        have hj' := (List.getElem?_eq_some_iff.1 hj).1
        exact (World.ownsRow.cellAt hr _ (by omega)).trans hj) (by simp [hcs]; omega) (fun v hv => h1x v (List.mem_of_mem_drop hv))
    rw [hW1, hc1]
    simpa [Nat.add_mul] using h
  have hg1 : W1.heap[g]? = some (.cells c1.toArray 35 (0, 0)) := by rw [hW1]; exact setRow_heap w.drew _ _ _ _ _ hg
  have hv1 : W1.heap[vb]? = some (.cells us.toArray 35 (0, 0)) := by rw [hW1, setRow_other w.drew g vb _ (fun e => hne e.symm)]; exact hv
  obtain ⟨c2, hc2⟩ : ∃ c2 : List Value, c2 = c1.take (i * 4) ++ us ++ c1.drop (i * 4 + us.length) := ⟨_, rfl⟩
  obtain ⟨W2, hW2⟩ : ∃ W2, W2 = W1.setRow g c2.toArray := ⟨_, rfl⟩
  have hcp2 : ∀ ty dc, (Builtin.copy_ #[57, 57] ty #[.slice (some ⟨g, i * 4, none⟩) (n + 1 - i) dc, .slice (some ⟨vb, 0, none⟩) 1 vc]).run Try.prog W1 = .ok (goInt 1) W2 := fun ty dc => by
    have h := run_copy_wide (P := Try.prog) W1 57 57 ty 35 4 g (i * 4) (n + 1 - i) dc 1 ⟨vb, 0, none⟩ 1 vc _ _ us Try.underlying57 Try.siInsN hg1 (by simp only [Nat.min_def]; split <;> omega) (by omega)
      (fun j v hj => by rw [Addr.add_lit, Nat.zero_add, cell_of_row W1 vb j us.toArray _ (0, 0) hv1]; simpa using hj) (by simp [lc1]; omega) h1u
    rw [hW2, hc2]
    simpa using h
  have hsr := shift_row cur.toList us xs (i * 4) 4 (by rw [hxl]; exact htk) (by omega) hu (by rw [hcl]; omega)
  simp only [← hc1] at hsr
  rw [← hc2, hcl] at hsr
  have hfin : InsAtN base n i (.slice (some ⟨g, 0, none⟩) n c) xs us w (.returned (.slice (some ⟨g, 0, none⟩) (n + 1) c)) W2 := by
    refine ⟨g, c, rfl, own_mk c2.toArray (by rw [putAt_len]; omega) hbg (by rw [hW2]; exact setRow_heap W1 _ _ _ _ _ hg1) hc hcm (by simpa using hsr.2) (by rw [show (n + 1) * 4 = xs.length + 4 by omega]; exact hsr.1), ?_, .inl rfl⟩
    refine ⟨by rw [hW2, hW1]; rfl, by rw [hW2, hW1]; rfl, by rw [hW2, hW1]; rfl, by rw [hW2, hW1]; simp, fun k hk hkg => ?_⟩
    have hkg : k ≠ g := fun e => hkg (by rw [e]; simp [Value.ownBlock])
    rw [hW2, setRow_other W1 _ k _ hkg, hW1, setRow_other w.drew _ k _ hkg]; rfl
  have HF := Lib.hid hfin
  have HA := Lib.hid hcp1
  have HB := Lib.hid hcp2
  unfold maxLen at hcm
  clear hfin hcp1 hcp2 hsr hg1 hv1 hW1 hW2 hc1 hc2 lc1 hcl htk hcs hr
  have mixed : Try.prog.follows .mixedOrders = true := by kernel_rfl
  have hz2' : ¬ ((i : Int) = (n : Int)) := by omega
  have hw1 : IntKind.i64.wrap ((i : Int) + 1) = (i : Int) + 1 := by rw [IntKind.wrap_i64]; omega
  have hb1 : (0 : Int) ≤ (i : Int) + 1 := by omega
  have hin : i ≤ n := by omega
  have htn : ((i : Int) + 1).toNat = i + 1 := by omega
  have hb2 : ¬ (c = i + 1) := by omega
  have hb3 : (i : Int) ≤ (n : Int) + 1 := by omega
  have hb4 : ¬ (c = i) := by omega
  go_enter Try.func64, Try.ntmps64
  go_wp2_with (simp only [hov])
  go_region_law_o (refine step_copy_runI rfl _ _ 57 57 rfl _ _ (by simp [Act.eval, Act.put]) (by simp [Act.eval, Act.put]) (HA.out _ (n - i) (c - (i + 1)) (c - i) rfl) ?_)
  go_wp2_with (simp only [HB.out])
  go_ret
  exact HF.out
set_option maxHeartbeats 4000000 in
/-- the place is the last. -/
theorem insN_end (base n c vb vc : Nat) (A : Option Addr) (xs us : List Value) (w : World) (hr : w.ownsRow base 35 4 (.slice A n c) n xs) (hbase : base ≤ w.heap.size) (hn : n ≤ 1048576)
    (hv : w.heap[vb]? = some (.cells us.toArray 35 (0, 0))) (hu : us.length = 4) (h1u : ∀ u ∈ us, u.oneCell' = true) :
    Calls Try.prog 64 #[.slice A n c, .int .i64 n, .slice (some ⟨vb, 0, none⟩) 1 vc] w fun e w' => InsAtN base n n (.slice A n c) xs us w e w' := by
  obtain ⟨i0, hi0, hz0, hz1, hz2⟩ := info_parts Try.infoInsN
  obtain ⟨hnc, hcm, hA⟩ := own_cap hr
  unfold maxLen at hcm
  have hxl := hr.1
  have hx : putAt xs us (n * 4) = xs ++ us := by unfold putAt; rw [List.take_of_length_le (by omega), List.drop_of_length_le (by omega), List.append_nil]
  unfold InsAtN
  rw [hx]
  have hnn : ((n : Int) == (n : Int)) = true := by simp
  clear hx
  go_enter Try.func64, Try.ntmps64
  rcases own_none hr with ⟨rfl, rfl, rfl⟩ | ⟨g, rfl⟩
  all_goals
    go_wp2_with (at_builtin; refine wpList_append_lies _ rfl _ _ 57 rfl base 35 i0 (.agg #[.int .i64 0, .slice none 0 0, .slice none 0 0, .string ⟨#[]⟩]) 4 72 Try.underlying57 hi0 hz0 hz1 hz2 rfl (by decide) _ _ _ rfl hr ⟨vb, 0, none⟩ 1 vc us rfl (by omega) (fun j u hj => by rw [Addr.add_lit, Nat.zero_add, cell_of_row w vb j us.toArray _ (0, 0) hv]; simpa using hj) h1u (by omega) (by unfold maxLen; omega) (by omega) hbase _ rfl ?_)
    all_goals
      intro g' c' w1 hown hgrow hat hlt
      go_wp2
      go_ret
      refine ⟨g', c', rfl, hown, hgrow, ?_⟩
      rcases hat with h | h
      · exact .inl h
      · exact .inr (by omega)
theorem insN_any (base n c i vb vc : Nat) (A : Option Addr) (xs us : List Value) (w : World) (hr : w.ownsRow base 35 4 (.slice A n c) n xs) (hbase : base ≤ w.heap.size) (hi : i ≤ n) (hn : n ≤ 1048576)
    (hv : w.heap[vb]? = some (.cells us.toArray 35 (0, 0))) (hu : us.length = 4) (h1u : ∀ u ∈ us, u.oneCell' = true) (h1x : ∀ u ∈ xs, u.oneCell' = true) (hne : (Value.slice A n c).ownBlock ≠ some vb) :
    Calls Try.prog 64 #[.slice A n c, .int .i64 i, .slice (some ⟨vb, 0, none⟩) 1 vc] w fun e w' => InsAtN base n i (.slice A n c) xs us w e w' := by
  rcases Nat.lt_or_ge i n with h | h
  · rcases own_none hr with ⟨rfl, rfl, rfl⟩ | ⟨g, rfl⟩
    · omega
    · have hne : g ≠ vb := fun e => hne (by rw [e]; simp [Value.ownBlock])
      rcases Nat.lt_or_ge c (n + 1) with h1 | h1
      · exact insN_grow base n c i vb vc g xs us w hr hbase h hn h1 hv hu h1u h1x
      · exact insN_room base n c i vb vc g xs us w hr hbase h hn h1 hv hu h1u h1x hne
  · obtain rfl : i = n := by omega
    exact insN_end base i c vb vc A xs us w hr hbase hn hv hu h1u
end Go.Proofs.Ytdhnhgppapkikaa
