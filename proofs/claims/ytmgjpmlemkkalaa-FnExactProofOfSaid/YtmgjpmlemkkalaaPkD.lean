/- Several texts in one, in build order: CellN, CellC, CellA, CellP, CellW, CellO, ReachM, CellL, FindM, ReachS, ReachL, PathS, FindS, FindO. -/
import Derived.Test.YtmgjpmlemkkalaaPkC
import Derived.WalkLawsBesides
import Derived.WalkSpells
-- CellN: The model's node under a name, and NodeAt.
namespace Go.Proofs.Ytmgjpmlemkkalaa
set_option maxRecDepth 20000
set_option linter.unusedVariables false
set_option linter.unusedSimpArgs false
open Go.RowKit

theorem l4Node_any (A : Option Addr) (n c : Nat) (cs : List (Int × List Int)) (m : Int) (B : Nat) (w : World) (hn : n ≤ 1048576) (hm : ∀ i, (cel cs i).2.length ≤ 1048576) (hB : B ≤ w.heap.size) (hb : Cells w B A n cs) :
    Calls Try.prog 72 #[.slice A n c, .int .i64 m] w fun e w' => ∃ v nd b, e = .returned (.tuple #[v, .bool b]) ∧ OwnN w' w.heap.size v nd ∧ HitIs cs m nd b ∧ Below w.heap.size w w' := by
  have HB := Lib.hid (hb.more hB)
  have hlen := hb.1
  clear hb
  obtain ⟨w1, hw1⟩ : ∃ w1, w.alloc (.cells #[.int .i64 0, .slice none 0 0, .slice none 0 0, .string { data := #[] }] 35) = w1 := ⟨_, rfl⟩
  have x1 : Box w1 w.heap.size _ _ := hw1 ▸ heap_alloc_new _ _
  have s1 : w1.heap.size = w.heap.size + 1 := hw1 ▸ by simp
  have b1 : Below w.heap.size w w1 := hw1 ▸ (Below.refl _ _).alloc (Nat.le_refl _) _
  have X1 := Lib.hid x1
  have B1 := Lib.hid b1
  have HW := Lib.hid hw1
  clear x1 b1 hw1
  go_enter Try.func72, Try.ntmps72
  go_wp2_with fail
  rw [HW.out]
  refine (l4Find_any A n c cs m _ w1 hn (HB.out.below B1.out)).mono ?_
  rintro e w' ⟨rfl, rfl⟩
  by_cases hf : findC cs m < n
  · rw [if_pos hf]
    have hd : decide (((findC cs m : Nat) : Int) < 0) = false := decide_eq_false (by omega)
    obtain ⟨k, hk⟩ : ∃ k, findC cs m = k := ⟨_, rfl⟩
    have HF := Lib.hid hk
    rw [hk] at hd hf ⊢
    clear hk
    obtain ⟨b, off, Ai, ni, ci, rfl, hbB, h0, h1, hc, hA, hy⟩ := (HB.out.below B1.out).at_ hf
    have hni := hy.1
    have hnm := hm k
    have Y := Lib.hid hy
    clear hy h0
    go_wp2_with fail
    refine (specNodeFrom_any Ai ni ci (cel cs k).2 w.heap.size w1 (by omega) hc (by omega) Y.out).mono ?_
    rintro e w2 ⟨v, nd, r, rfl, own, rd, b2⟩
    have X2 := Lib.hid (X1.out.below b2 (by omega))
    have B2 := Lib.hid (B1.out.trans (b2.mono (by omega)))
    have O2 := Lib.hid own
    have RD := Lib.hid rd
    obtain ⟨Ap, np, cp, Ak, nk, ck, rfl, _⟩ := own
    have q20 := X2.out.cell 0
    have q21 := X2.out.cell 1
    have q22 := X2.out.cell 2
    have q23 := X2.out.cell 3
    have f2 := X2.out.free
    simp at q20 q21 q22 q23
    have s4 := set4 X2.out (.int .i64 nd.kind) (.slice Ap np cp) (.slice Ak nk ck) (.string nd.val)
    have S4 := Lib.hid s4
    clear rd h1 b2 s4
    go_wp2
    refine bodyPost_ret (v := .tuple #[.agg #[.int .i64 nd.kind, .slice Ap np cp, .slice Ak nk ck, .string nd.val], .bool r]) (results_box2 Try.results72 _ _ w.heap.size _ _ _ _ rfl rfl S4.out.1 Try.underlying35 rfl (by kernel_rfl)) rfl ?_
    have hs2 := B2.out.size
    refine ⟨_, nd, r, rfl, (O2.out.touch S4.out.2 (fun g hg e => ?_)).base (by omega), .inl ⟨by rw [HF.out]; omega, by rw [HF.out]; exact RD.out⟩, B2.out.trans (S4.out.2.below hs2 (fun k hk e => by omega))⟩
    have := (O2.out.blk hg).1
    omega
  · rw [if_neg hf]
    have q20 := X1.out.cell 0
    have q21 := X1.out.cell 1
    have q22 := X1.out.cell 2
    have q23 := X1.out.cell 3
    have f2 := X1.out.free
    simp at q20 q21 q22 q23
    have s4 := set4 X1.out (.int .i64 0) (.slice none 0 0) (.slice none 0 0) (.string { data := #[] })
    have S4 := Lib.hid s4
    clear s4
    go_wp2
    refine bodyPost_ret (v := .tuple #[node0V, .bool false]) (results_box2 Try.results72 _ _ w.heap.size _ _ _ _ rfl rfl S4.out.1 Try.underlying35 rfl (by kernel_rfl)) rfl ?_
    exact ⟨_, node0, false, rfl, node0_own _ _, .inr ⟨by omega, rfl, rfl⟩, B1.out.trans (S4.out.2.below (by omega) (fun k hk e => by omega))⟩

end Go.Proofs.Ytmgjpmlemkkalaa

-- CellC: Cells that are put behind others; the model's copies of bytes and of cells.
namespace Go.Proofs.Ytmgjpmlemkkalaa
set_option maxRecDepth 20000
set_option linter.unusedVariables false
set_option linter.unusedSimpArgs false
open Go.RowKit

theorem Byts.row {w : World} {B n : Nat} {A : Option Addr} {zs : List Int} (h : Byts w B A n zs) (hn : 0 < n) :
    ∃ b off, A = some ⟨b, off, none⟩ ∧ b < B ∧ ∀ j u, (zs.map (Value.int .u8))[j]? = some u → w.cell? ((⟨b, off, none⟩ : Addr).add j) = some u := by
  obtain ⟨b, off, rfl, hb, hc⟩ := h.2.2 hn
  refine ⟨b, off, rfl, hb, fun j u hj => ?_⟩
  have hadd : (⟨b, off, none⟩ : Addr).add j = ⟨b, off + j, none⟩ := by unfold Addr.add; split <;> simp_all
  have hjl : j < zs.length := by
    rcases Nat.lt_or_ge j zs.length with h | h
    · exact h
    · rw [List.getElem?_eq_none (by simpa using h)] at hj; cases hj
  have hl := h.1
  rw [hadd, hc j (by omega)]
  rw [List.getElem?_map, List.getElem?_eq_getElem hjl] at hj
  simp only [Option.map_some, Option.some.injEq] at hj
  rw [← hj]
  simp [List.getElem?_eq_getElem hjl]

/-- cells that are put behind those that the call owns. -/
theorem OwnC.pushed {w w' : World} {lo hi hi' n c n' c' g cap : Nat} {A A' : Option Addr} {cs : List (Int × List Int)} {bs : List Int} {m : Int} {sl : Nat → Sub}
    (hl : cs.length = n) (hu : ∀ b, (Value.slice A n c).ownBlock = some b → b < hi) (hs : Subs w lo hi (Value.slice A n c).ownBlock n cs sl) (hx : Mine w lo A' n' c' bs)
    (hxb : ∀ b, (Value.slice A' n' c').ownBlock = some b → hi ≤ b)
    (hr : w'.ownsRow lo 59 2 (.slice (some ⟨g, 0, none⟩) (n + 1) cap) (n + 1) (cvs n cs sl ++ [.int .i64 m, .slice A' n' c'])) (hg : w.grownBy w' (Value.slice A n c).ownBlock)
    (hgo : (Value.slice A n c).ownBlock = some g ∨ g = w.heap.size) (hh : hi ≤ w.heap.size) (hi1 : w'.heap.size ≤ hi') : OwnC w' lo hi' (some ⟨g, 0, none⟩) (n + 1) cap (cs ++ [(m, bs)]) := by
  have hsz := hg.size
  have t := Touch.of_grown hg
  refine ⟨by simp [hl], fun b hb => ?_, fun i => if i = n then ⟨A', n', c', bs⟩ else sl i, ?_, ?_⟩
  · have := (World.ownsRow.lt hr b hb).2
    omega
  · rw [← cvs_append n cs sl ⟨A', n', c', bs⟩ m bs hl]; exact hr
  · have hlt : ∀ i, i < n → ∀ b, (sl i).v.ownBlock = some b → b < w.heap.size := fun i hi b hb => (World.ownsRow.lt (hs.mine i hi).1 b hb).2
    have hxl : ∀ b, (Value.slice A' n' c').ownBlock = some b → b < w.heap.size := fun b hb => (World.ownsRow.lt hx.1 b hb).2
    refine ⟨fun i hi => ?_, fun i j hi hj hij b => ?_, fun i hi b => ?_, fun i hi b => ?_⟩
    · rw [cel_append, hl]
      by_cases h : i = n
      · simp only [h, if_true]
        exact hx.touch t (fun b hb e => by have := hxb b hb; have := hu b e.symm; omega)
      · simp only [h, if_false]
        exact (hs.mine i (by omega)).touch t (fun b hb e => hs.other i (by omega) b hb e.symm)
    · by_cases h : i = n
      · have h2 : ¬ j = n := by omega
        simp only [h, h2, if_true, if_false]
        intro e1 e2
        have := hxb b e1
        have := hs.under j (by omega) b e2
        omega
      · by_cases h2 : j = n
        · simp only [h, h2, if_true, if_false]
          intro e1 e2
          have := hxb b e2
          have := hs.under i (by omega) b e1
          omega
        · simp only [h, h2, if_false]
          exact hs.apart i j (by omega) (by omega) hij b
    · have hown : (Value.slice (some (⟨g, 0, none⟩ : Addr)) (n + 1) cap).ownBlock = some g := by simp [Value.ownBlock]
      rw [hown]
      by_cases h : i = n
      · simp only [h, if_true]
        intro e1 e2
        cases e2
        have := hxb _ e1
        have := hxl _ e1
        rcases hgo with e | e
        · have := hu _ e; omega
        · omega
      · simp only [h, if_false]
        intro e1 e2
        cases e2
        rcases hgo with e | e
        · exact hs.other i (by omega) _ e1 e
        · have := hlt i (by omega) _ e1; omega
    · by_cases h : i = n
      · simp only [h, if_true]
        intro e1
        have := hxl b e1
        omega
      · simp only [h, if_false]
        intro e1
        have := hlt i (by omega) b e1
        omega

theorem l1Bytes_any (A : Option Addr) (n c : Nat) (bs : List Int) (B : Nat) (w : World) (h0 : 0 < n) (hn : n ≤ 1048576) (hB : B ≤ w.heap.size) (hb : Byts w B A n bs) :
    Calls Try.prog 52 #[.slice A n c] w fun e w' => ∃ A' n' c', e = .returned (.slice A' n' c') ∧ Mine w' w.heap.size A' n' c' bs ∧ Below w.heap.size w w' := by
  have hlen := hb.1
  have hr := hb.2.1
  obtain ⟨b, off, rfl, hbB, hrow⟩ := (hb.alloc hB (.cells #[] 5)).row h0
  obtain ⟨i0, hi, hz0, hz1, hz2⟩ := info_parts Try.info5
  have HI := Lib.hid hi
  have HZ0 := Lib.hid hz0
  have HZ1 := Lib.hid hz1
  have HZ2 := Lib.hid hz2
  have HR := Lib.hid hrow
  have E0 := Lib.hid (Mine.empty w)
  have B0 := Lib.hid ((Below.refl w.heap.size w).alloc (Nat.le_refl _) (.cells #[] 5))
  clear hi hz0 hz1 hz2 hrow hb
  go_enter Try.func52, Try.ntmps52
  go_wp2_with (at_builtin; refine wpList_append_own _ rfl _ _ 51 rfl w.heap.size 5 i0 (.int .u8 0) 1 1 Try.underlying51 HI.out HZ0.out HZ1.out HZ2.out rfl (by decide) _ _ _ rfl E0.out.1 ⟨b, off, none⟩ n _ (bs.map (Value.int .u8)) rfl ?e0 ?e1 ?e2 ?e3 ?e4 ?e5 ?_)
  case e0 => rw [List.length_map, Nat.mul_one]; exact hlen
  case e1 => exact HR.out
  case e2 => intro u hu; obtain ⟨z, _, rfl⟩ := List.mem_map.1 hu; rfl
  case e3 => unfold maxLen; omega
  case e4 => omega
  case e5 => simp
  intro v1 w1 hown1 hgrow1 hnil1
  have hv : ∃ g c, v1 = .slice (some ⟨g, 0, none⟩) n c := by
    rcases hown1.2 with ⟨e, _⟩ | ⟨g, cap, cur, e, _⟩
    · exact absurd e hnil1
    · exact ⟨g, cap, e⟩
  obtain ⟨g1, c1, rfl⟩ := hv
  have hm1 := E0.out.app (ys := bs) hr (by simpa using hown1)
  have hb1 : Below w.heap.size w w1 := B0.out.grown hgrow1 (by simp) (fun g hg => (E0.out.1.lt g hg).1)
  go_wp2
  go_ret
  exact ⟨_, _, _, rfl, by simpa using hm1, hb1⟩
theorem OwnC.made0 (w : World) : OwnC (w.alloc (.cells #[] 59)) w.heap.size (w.heap.size + 1) (some ⟨w.heap.size, 0, none⟩) 0 0 [] := by
  have h := OwnC.of_made w 0 (by unfold maxLen; omega)
  simpa [cvs] using h

/-- .. and they lie in a block, also where there are none. -/
def GaveC1 (w : World) (cs : List (Int × List Int)) (e : Ending) (w' : World) : Prop := ∃ g n c, e = .returned (.slice (some ⟨g, 0, none⟩) n c) ∧ OwnC w' w.heap.size w'.heap.size (some ⟨g, 0, none⟩) n c cs ∧ Below w.heap.size w w'
theorem l4Copy_any (A : Option Addr) (n c : Nat) (cs : List (Int × List Int)) (B : Nat) (w : World) (hn : n ≤ 1048576) (hm : ∀ i, (cel cs i).2.length ≤ 1048576) (hp : ∀ i, i < n → 0 < (cel cs i).2.length) (hB : B ≤ w.heap.size) (hb : Cells w B A n cs) :
    Calls Try.prog 28 #[.slice A n c] w (GaveC1 w cs) := by
  have HB := Lib.hid (hb.more hB)
  have hlen := hb.1
  clear hb
  obtain ⟨i0, hi, hz0, hz1, hz2⟩ := info_parts Try.infoC
  have HI := Lib.hid hi
  have HZ0 := Lib.hid hz0
  have HZ1 := Lib.hid hz1
  have HZ2 := Lib.hid hz2
  clear hi hz0 hz1 hz2
  go_enter Try.func28, Try.ntmps28
  go_wp2
  go_loopw [3, 4] (fun o i wr => ∃ (k : Nat) (go : Nat) (co : Nat), k ≤ n ∧ i = .int .i64 k ∧ o = .slice (some ⟨go, 0, none⟩) k co ∧ OwnC wr w.heap.size wr.heap.size (some ⟨go, 0, none⟩) k co (cs.take k) ∧ Below w.heap.size w wr) (fun _ i _ => n - (intOf i).toNat)
  case atStart => exact ⟨0, w.heap.size, 0, Nat.zero_le _, rfl, rfl, by simpa using OwnC.made0 w, (Below.refl _ _).alloc (Nat.le_refl _) _⟩
  case round =>
    obtain ⟨k, go, co, hk, rfl, rfl, hown, hbel⟩ := hrel
    by_cases hlt : k < n
    · obtain ⟨b, off, Ai, ni, ci, rfl, hbB, h0, h1, _, _, hy⟩ := (HB.out.below hbel).at_ hlt
      obtain ⟨x, hx⟩ : ∃ x, cel cs k = x := ⟨_, rfl⟩
      have hnm := hm k
      have hpk := hp k hlt
      have hst := cel_take cs k (by omega)
      rw [hx] at h0 hy hnm hpk hst
      have hni := hy.1
      have Y := Lib.hid hy
      have HST := Lib.hid hst
      have OR := Lib.hid hown
      have BR := Lib.hid hbel
      have hs0 := hbel.size
      clear hy hown hbel hst
      go_wp2
      go_region_law (first
        | (refine step_append_lies _ rfl _ _ 29 rfl w.heap.size 59 i0 (.agg #[.int .i64 0, .slice none 0 0]) 2 32 Try.underlying29 HI.out HZ0.out HZ1.out HZ2.out rfl (by decide) (.slice (some ⟨go, 0, none⟩) k co) k (cvs k (cs.take k) sl) (by simp [Act.eval]) hrow ⟨w1.heap.size, 0, none⟩ 1 1 [.int .i64 x.1, .slice A1 n1 c1] (by simp [Act.eval]) rfl (by
              intro j u hj
              match j, hj with
              | 0, hj => simp at hj; subst hj; simp [Addr.add]
              | 1, hj => simp at hj; subst hj; simp [Addr.add]) (by intro u hu; simp at hu; rcases hu with rfl | rfl <;> rfl) (by omega) (by unfold maxLen; omega) (by omega) (by simp; omega) _ rfl ?_
           intro g6 c6 w6 hown6 hgrow6 hwh6 hlt6
           have h6 := OwnC.pushed hl hu hsub mx hxb hown6 hgrow6 hwh6 hhi (Nat.le_refl _)
           have b6 := B1.out.grown hgrow6 (by simp; omega) (fun g hg => (hrow.lt g hg).1))
        | (go_simp
           refine (l1Bytes_any Ai ni ci x.2 w.heap.size wr.drew (by omega) (by omega) hs0 Y.out.drew).mono ?_
           rintro e w1 ⟨A1, n1, c1, rfl, m1, b1⟩
           have hs1 : wr.heap.size ≤ w1.heap.size := b1.size
           have HK1 := HB.out.below ((BR.out.drew).trans (b1.mono hs0))
           obtain ⟨_, _, _, _, _, e1, _, h0, _⟩ := HK1.at_ hlt
           cases e1
           rw [hx] at h0
           have ba : Below w1.heap.size w1 (w1.alloc (.cells #[.int .i64 x.1, .slice A1 n1 c1] 59)) := (Below.refl _ _).alloc (Nat.le_refl _) _
           obtain ⟨hl, hu, sl, hrow, hsub⟩ := ((OR.out.below (below_drewN (Below.refl _ _) 1)).below b1).below (ba.mono hs1)
           have mx := (m1.below ba).base hs0
           have hxb : ∀ b, (Value.slice A1 n1 c1).ownBlock = some b → wr.heap.size ≤ b := fun b hb => (m1.1.lt b hb).1
           have B1 := Lib.hid ((BR.out.drew.trans (b1.mono hs0)).trans (ba.mono (Nat.le_trans hs0 hs1)))
           have hhi : wr.heap.size ≤ (w1.alloc (.cells #[.int .i64 x.1, .slice A1 n1 c1] 59)).heap.size := by simp; omega))
      all_goals
        rw [show ((x.1, x.2) : Int × List Int) = x from rfl, ← HST.out] at h6
        have H6 := Lib.hid h6
        have B6 := Lib.hid b6
        clear h6 b6 hown6 hgrow6 hwh6 hrow hsub mx hxb
        go_wp2
        go_roundw
        case rel => exact ⟨k + 1, _, _, by omega, by go_num, rfl, H6.out, B6.out⟩
        case measure => simp [intOf]; omega
    · obtain rfl : k = n := by omega
      rw [List.take_of_length_le (by omega)] at hown
      go_wp2
      go_ret
      exact ⟨_, _, _, rfl, hown, hbel⟩
end Go.Proofs.Ytmgjpmlemkkalaa

-- CellA: A cell of a node; a cell put among others.
namespace Go.Proofs.Ytmgjpmlemkkalaa
set_option maxRecDepth 20000
set_option linter.unusedVariables false
set_option linter.unusedSimpArgs false
open Go.RowKit

theorem l4CellOf_any (v : Value) (nd : MNode) (B : Nat) (w : World) (hB : B ≤ w.heap.size) (hv : NodeIn w B v nd) (hlen : (rawBytes nd).length ≤ 1048576) :
    Calls Try.prog 30 #[v] w fun e w' => ∃ g n c, e = .returned (.agg #[.int .i64 (nameOf (rawBytes nd)), .slice (some ⟨g, 0, none⟩) n c]) ∧ Mine w' w.heap.size (some ⟨g, 0, none⟩) n c (rawBytes nd) ∧ Below w.heap.size w w' := by
  have HV := Lib.hid (hv.more hB)
  obtain ⟨Ap, np, cp, Ak, nk, ck, rfl, hnp, hnk, hsz, hp, hk⟩ := hv
  clear hp hk
  obtain ⟨w2, hw2⟩ : ∃ w2, (w.alloc (.cells #[.int .i64 nd.kind, .slice Ap np cp, .slice Ak nk ck, .string nd.val] 35)).alloc (.cells #[.int .i64 0, .slice none 0 0] 59) = w2 := ⟨_, rfl⟩
  have x2 : Box w2 (w.heap.size + 1) _ _ := hw2 ▸ heap2_1 _ _ _
  have s2 : w2.heap.size = w.heap.size + 2 := hw2 ▸ size2 _ _ _
  have b2 : Below w.heap.size w w2 := hw2 ▸ below2 _ _ _
  have X2 := Lib.hid x2
  have B2 := Lib.hid b2
  have HW := Lib.hid hw2
  clear x2 b2 hw2
  go_enter Try.func30, Try.ntmps30
  go_wp2_with fail
  rw [HW.out]
  refine (l3Bytes_any _ nd w.heap.size w2 (by omega) (HV.out.below B2.out)).mono ?_
  rintro e w3 ⟨g3, n3, c3, rfl, m3, b3⟩
  have hs3 := b3.size
  have hl3 := m3.len
  have hby := m3.byts
  have X3 := Lib.hid (X2.out.below b3 (by omega))
  have B3 := Lib.hid (B2.out.trans (b3.mono (by omega)))
  have M3 := Lib.hid m3
  have BY := Lib.hid hby
  clear m3 b3 hby
  have q0 := X3.out.cell 0
  have q1 := X3.out.cell 1
  have f3 := X3.out.free
  simp at q0 q1
  go_wp2_with fail
  refine (specName_any _ n3 c3 (rawBytes nd) _ w3 (by omega) BY.out).mono ?_
  rintro e w' ⟨rfl, rfl⟩
  have hX := (X3.out.set_ 0 (.int .i64 (nameOf (rawBytes nd)))).set_ 1 (.slice (some ⟨g3, 0, none⟩) n3 c3)
  have hS : Touch (fun k => k = w.heap.size + 1) w3 _ := (touch_set (S := fun k => k = w.heap.size + 1) w3 (w.heap.size + 1) 0 (.int .i64 (nameOf (rawBytes nd))) rfl).trans (touch_set _ (w.heap.size + 1) 1 (.slice (some ⟨g3, 0, none⟩) n3 c3) rfl)
  have HX := Lib.hid hX
  have HS := Lib.hid hS
  clear hX hS
  go_wp2
  refine bodyPost_ret (v := .agg #[.int .i64 (nameOf (rawBytes nd)), .slice (some ⟨g3, 0, none⟩) n3 c3]) (results_cell_row Try.results30 _ _ (w.heap.size + 1) _ _ _ _ rfl HX.out Try.underlying59 rfl (by kernel_rfl)) rfl ?_
  have hle := B3.out.size
  exact ⟨g3, n3, c3, rfl, (M3.out.touch HS.out (fun g hg e => by have := (M3.out.1.lt g hg).1; omega)).base (by omega), B3.out.trans (HS.out.below hle (fun k hk e => by omega))⟩

/-- cells whose names rise. -/
def Rise (cs : List (Int × List Int)) : Prop := ∀ i j, i < j → j < cs.length → (cel cs i).1 < (cel cs j).1
/-- where a name belongs. -/
def placeC (cs : List (Int × List Int)) (m : Int) : Nat := cs.findIdx fun c => decide (m < c.1)
theorem placeC_le (cs : List (Int × List Int)) (m : Int) : placeC cs m ≤ cs.length := List.findIdx_le_length
theorem placeC_at (cs : List (Int × List Int)) (m : Int) (k : Nat) (hk : k ≤ cs.length) (h0 : ∀ j, j < k → (cel cs j).1 ≤ m) (h1 : k < cs.length → m < (cel cs k).1) : placeC cs m = k := by
  have hle := placeC_le cs m
  have hc : ∀ i (h : i < cs.length), cs[i] = cel cs i := fun i h => by unfold cel; rw [List.getElem?_eq_getElem h]; rfl
  rcases Nat.lt_trichotomy (placeC cs m) k with h | h | h
  · have h2 := List.findIdx_getElem (w := show cs.findIdx (fun c => decide (m < c.1)) < cs.length from by unfold placeC at h; omega)
    have h3 := h0 _ h
    rw [hc] at h2
    have h2 : m < (cel cs (placeC cs m)).1 := of_decide_eq_true h2
    omega
  · exact h
  · have h2 := List.not_of_lt_findIdx (show k < cs.findIdx fun c => decide (m < c.1) from h)
    have hkl : k < cs.length := by omega
    rw [hc k hkl] at h2
    have h2 : (cel cs k).1 ≤ m := by simpa using h2
    have := h1 hkl
    omega
def insC (cs : List (Int × List Int)) (m : Int) (bs : List Int) : List (Int × List Int) := cs.take (placeC cs m) ++ (m, bs) :: cs.drop (placeC cs m)
theorem insC_len (cs : List (Int × List Int)) (m : Int) (bs : List Int) : (insC cs m bs).length = cs.length + 1 := by
  have := placeC_le cs m
  unfold insC; simp; omega
theorem cvs_len (n : Nat) (cs : List (Int × List Int)) (sl : Nat → Sub) : (cvs n cs sl).length = n * 2 := by simp [cvs]
theorem cel_ins (cs : List (Int × List Int)) (k : Nat) (x : Int × List Int) (hk : k ≤ cs.length) (i : Nat) : cel (cs.take k ++ x :: cs.drop k) i = if i < k then cel cs i else if i = k then x else cel cs (i - 1) := by
  have hl : (cs.take k).length = k := by simp; omega
  unfold cel
  by_cases h : i < k
  · rw [if_pos h, List.getElem?_append_left (by omega), List.getElem?_take_of_lt h]
  · rw [if_neg h, List.getElem?_append_right (by omega), hl]
    by_cases h1 : i = k
    · subst h1; simp
    · rw [if_neg h1, show i - k = i - 1 - k + 1 by omega, List.getElem?_cons_succ, List.getElem?_drop, show k + (i - 1 - k) = i - 1 by omega]
/-- the row of cells with one put in. -/
theorem cvs_ins (n k : Nat) (cs : List (Int × List Int)) (sl : Nat → Sub) (m : Int) (bs : List Int) (x : Sub) (hk : k ≤ n) (hl : cs.length = n) :
    ((cvs n cs sl).take (k * 2) ++ [.int .i64 m, x.v]) ++ (cvs n cs sl).drop (k * 2) = cvs (n + 1) (cs.take k ++ (m, bs) :: cs.drop k) (fun i => if i < k then sl i else if i = k then x else sl (i - 1)) := by
  have hlen := cvs_len n cs sl
  have ht : ((cvs n cs sl).take (k * 2)).length = k * 2 := by rw [List.length_take, hlen]; omega
  have ht2 : ((cvs n cs sl).take (k * 2) ++ [.int .i64 m, x.v]).length = k * 2 + 2 := by rw [List.length_append, ht]; rfl
  apply List.ext_getElem?
  intro j
  by_cases hj : j < (n + 1) * 2
  · rw [cvs_at _ _ _ j hj]
    unfold cf
    rw [cel_ins cs k _ (by omega)]
    by_cases h1 : j < k * 2
    · rw [List.getElem?_append_left (by omega), List.getElem?_append_left (by omega), List.getElem?_take_of_lt h1, cvs_at _ _ _ _ (by omega)]
      unfold cf
      simp only [show j / 2 < k by omega, if_true]
    · by_cases h2 : j < k * 2 + 2
      · rw [List.getElem?_append_left (by omega), List.getElem?_append_right (by omega), ht]
        simp only [show ¬ j / 2 < k by omega, show j / 2 = k by omega, if_false, if_true]
        by_cases h3 : j = k * 2
        · subst h3; simp
        · rw [show j - k * 2 = 1 by omega, if_neg (by omega)]; simp
      · rw [List.getElem?_append_right (by omega), ht2, List.getElem?_drop, cvs_at _ _ _ _ (by omega)]
        unfold cf
        simp only [show ¬ j / 2 < k by omega, show ¬ j / 2 = k by omega, if_false]
        rw [show (k * 2 + (j - (k * 2 + 2))) % 2 = j % 2 by omega, show (k * 2 + (j - (k * 2 + 2))) / 2 = j / 2 - 1 by omega]
  · rw [List.getElem?_eq_none (by rw [List.length_append, ht2, List.length_drop, hlen]; omega), List.getElem?_eq_none (by rw [cvs_len]; omega)]
end Go.Proofs.Ytmgjpmlemkkalaa

-- CellP: The model's putting of a cell among others.
namespace Go.Proofs.Ytmgjpmlemkkalaa
set_option maxRecDepth 20000
set_option linter.unusedVariables false
set_option linter.unusedSimpArgs false
open Go.RowKit

theorem OwnC.cap {w : World} {lo hi n c : Nat} {A : Option Addr} {cs : List (Int × List Int)} (h : OwnC w lo hi A n c cs) : n ≤ c := by
  obtain ⟨hl, hu, sl, hr, hs⟩ := h
  rcases hr.2 with ⟨e, he⟩ | ⟨g, cap, cur, e, _, _, hc, _⟩
  · have := cvs_len n cs sl
    rw [he] at this
    simp at this; omega
  · cases e; exact hc
theorem OwnC.open0 {w : World} {lo hi g c : Nat} (h : OwnC w lo hi (some ⟨g, 0, none⟩) 0 c []) : w.ownsRow lo 59 2 (.slice (some ⟨g, 0, none⟩) 0 c) 0 [] := by
  obtain ⟨_, _, sl, hr, _⟩ := h
  simpa [cvs] using hr
/-- a cell put in among those that the call owns: in a new row. -/
theorem OwnC.inserted {w w' : World} {lo hi n n' c' g k cap : Nat} {r : Option Nat} {A' : Option Addr} {cs : List (Int × List Int)} {bs : List Int} {m : Int} {sl : Nat → Sub}
    (hl : cs.length = n) (hs : Subs w lo hi r n cs sl) (hx : Mine w lo A' n' c' bs) (hxb : ∀ b, (Value.slice A' n' c').ownBlock = some b → hi ≤ b) (hb : Below w.heap.size w w')
    (hr : w'.ownsRow w.heap.size 59 2 (.slice (some ⟨g, 0, none⟩) (n + 1) cap) (n + 1) (((cvs n cs sl).take (k * 2) ++ [.int .i64 m, .slice A' n' c']) ++ (cvs n cs sl).drop (k * 2)))
    (hk : k ≤ n) (hlo : lo ≤ w.heap.size) (hh : hi ≤ w.heap.size) : OwnC w' lo w'.heap.size (some ⟨g, 0, none⟩) (n + 1) cap (cs.take k ++ (m, bs) :: cs.drop k) := by
  have hsz := hb.size
  have hlt : ∀ i, i < n → ∀ b, (sl i).v.ownBlock = some b → b < w.heap.size := fun i hi b hb => (World.ownsRow.lt (hs.mine i hi).1 b hb).2
  have hxl : ∀ b, (Value.slice A' n' c').ownBlock = some b → b < w.heap.size := fun b hb => (World.ownsRow.lt hx.1 b hb).2
  refine ⟨by simp; omega, fun b h => (World.ownsRow.lt hr b h).2, fun i => if i < k then sl i else if i = k then ⟨A', n', c', bs⟩ else sl (i - 1), ?_, ?_⟩
  · rw [← cvs_ins n k cs sl m bs ⟨A', n', c', bs⟩ hk hl]
    refine ⟨hr.1, ?_⟩
    rcases hr.2 with h | ⟨g, cap, cur, hv, hg, rest⟩
    · exact .inl h
    · exact .inr ⟨g, cap, cur, hv, by omega, rest⟩
  · have hgw : w.heap.size ≤ g := (World.ownsRow.lt hr g (by simp [Value.ownBlock])).1
    have own1 : (Value.slice (some (⟨g, 0, none⟩ : Addr)) (n + 1) cap).ownBlock = some g := by simp [Value.ownBlock]
    refine ⟨fun i hi => ?_, fun i j hi hj hij b => ?_, fun i hi b => ?_, fun i hi b => ?_⟩
    · rw [cel_ins cs k _ (by omega)]
      by_cases h : i < k
      · simp only [h, if_true]
        exact (hs.mine i (by omega)).below hb
      · by_cases h1 : i = k
        · subst h1
          simp only [h, if_true, if_false]
          exact hx.below hb
        · simp only [h, h1, if_false]
          exact (hs.mine (i - 1) (by omega)).below hb
    · by_cases h1 : i < k <;> by_cases h2 : j < k <;> by_cases h3 : i = k <;> by_cases h4 : j = k <;> simp only [h1, h2, h3, h4, if_true, if_false, Nat.lt_irrefl] <;> first
        | omega
        | exact hs.apart _ _ (by omega) (by omega) (by omega) b
        | (intro e1 e2; have := hxb b e1; have := hs.under _ (by omega) b e2; omega)
        | (intro e1 e2; have := hxb b e2; have := hs.under _ (by omega) b e1; omega)
    · rw [own1]
      intro e1 e2
      cases e2
      by_cases h : i < k
      · simp only [h, if_true] at e1
        have := hlt i (by omega) _ e1; omega
      · by_cases h1 : i = k
        · simp only [h1, Nat.lt_irrefl, if_true, if_false] at e1
          have := hxl _ e1; omega
        · simp only [h, h1, if_false] at e1
          have := hlt (i - 1) (by omega) _ e1; omega
    · intro e1
      by_cases h : i < k
      · simp only [h, if_true] at e1
        have := hlt i (by omega) _ e1; omega
      · by_cases h1 : i = k
        · simp only [h1, Nat.lt_irrefl, if_true, if_false] at e1
          have := hxl _ e1; omega
        · simp only [h, h1, if_false] at e1
          have := hlt (i - 1) (by omega) _ e1; omega
theorem cvs_one (n : Nat) (cs : List (Int × List Int)) (sl : Nat → Sub) : ∀ u ∈ cvs n cs sl, u.oneCell' = true := by
  intro u hu
  unfold cvs at hu
  obtain ⟨j, _, rfl⟩ := List.mem_map.1 hu
  unfold cf
  split <;> rfl
theorem l4Add_any (g n c lo hi : Nat) (cs : List (Int × List Int)) (m : Int) (A' : Option Addr) (n' c' : Nat) (bs : List Int) (w : World) (hn : n ≤ 1048575) (ho : OwnC w lo hi (some ⟨g, 0, none⟩) n c cs) (hhi : hi ≤ w.heap.size)
    (hx : Mine w lo A' n' c' bs) (hxb : ∀ b, (Value.slice A' n' c').ownBlock = some b → hi ≤ b) (hR : Rise cs) :
    Calls Try.prog 31 #[.slice (some ⟨g, 0, none⟩) n c, .agg #[.int .i64 m, .slice A' n' c']] w fun e w' => Below w.heap.size w w' ∧
      ((findC cs m < n ∧ e = .returned (.slice (some ⟨g, 0, none⟩) n c)) ∨
        (¬ findC cs m < n ∧ ∃ g' c2, e = .returned (.slice (some ⟨g', 0, none⟩) (n + 1) c2) ∧ OwnC w' lo w'.heap.size (some ⟨g', 0, none⟩) (n + 1) c2 (insC cs m bs))) := by
  have hlen := ho.len
  have HO := Lib.hid ho
  have HX := Lib.hid hx
  have HXB := Lib.hid hxb
  have HR := Lib.hid hR
  clear ho hx hxb hR
  obtain ⟨i0, hi0, hz0, hz1, hz2⟩ := info_parts Try.infoC
  have HI := Lib.hid hi0
  have HZ0 := Lib.hid hz0
  have HZ1 := Lib.hid hz1
  have HZ2 := Lib.hid hz2
  clear hi0 hz0 hz1 hz2
  obtain ⟨w1, hw1⟩ : ∃ w1, w.alloc (.cells #[.int .i64 m, .slice A' n' c'] 59) = w1 := ⟨_, rfl⟩
  have x1 : Box w1 w.heap.size _ _ := hw1 ▸ heap_alloc_new _ _
  have s1 : w1.heap.size = w.heap.size + 1 := hw1 ▸ by simp
  have b1 : Below w.heap.size w w1 := hw1 ▸ (Below.refl _ _).alloc (Nat.le_refl _) _
  have X1 := Lib.hid x1
  have B1 := Lib.hid b1
  have HW := Lib.hid hw1
  have q10 := X1.out.cell 0
  simp at q10
  clear x1 b1 hw1
  have O1 := Lib.hid (HO.out.below (B1.out.mono hhi))
  go_enter Try.func31, Try.ntmps31
  go_wp2_with fail
  rw [HW.out]
  refine (l4Find_any _ n c cs m _ w1 (by omega) O1.out.cells).mono ?_
  rintro e w' ⟨rfl, rfl⟩
  by_cases hf : findC cs m < n
  · rw [if_pos hf]
    have hd : decide ((0 : Int) ≤ ((findC cs m : Nat) : Int)) = true := decide_eq_true (by omega)
    obtain ⟨k, hk⟩ : ∃ k, findC cs m = k := ⟨_, rfl⟩
    have HF := Lib.hid hk
    rw [hk] at hd hf ⊢
    clear hk
    go_wp2
    go_ret
    exact ⟨B1.out, .inl ⟨by rw [HF.out]; exact hf, rfl⟩⟩
  · rw [if_neg hf]
    have HF := Lib.hid hf
    clear hf
    go_wp2
    go_loopw [5] (fun i wr => ∃ k : Nat, k ≤ n ∧ i = .int .i64 k ∧ (∀ j, k ≤ j → j < n → m < (cel cs j).1) ∧ Below w1.heap.size w1 wr) (fun i _ => (intOf i).toNat)
    case atStart => exact ⟨n, Nat.le_refl _, rfl, fun j h1 h2 => by omega, Below.refl _ _⟩
    case round =>
      obtain ⟨k, hk, rfl, hgt, hbr⟩ := hrel
      have HBR := Lib.hid hbr
      have BR := Lib.hid (B1.out.trans (hbr.mono (by omega)))
      have OR := Lib.hid (O1.out.below (hbr.mono (by omega)))
      have XR := Lib.hid (X1.out.below hbr (by omega))
      have hsr : w1.heap.size ≤ wr.heap.size := hbr.size
      have hq := XR.out.cell 0
      simp at hq
      have GT := Lib.hid hgt
      clear hbr q10 hgt
      have hcap := OR.out.cap
      by_cases hrun : 0 < k ∧ m < (cel cs (k - 1)).1
      · obtain ⟨hk0, hlt⟩ := hrun
        have hia := index_cell_pred g 0 n c k hk0 (by omega)
        simp only [Nat.zero_add] at hia
        have hwk : IntKind.i64.wrap ((k : Int) - 1) = (k : Int) - 1 := by rw [IntKind.wrap_i64]; omega
        have hd : decide ((0 : Int) < (k : Int)) = true := decide_eq_true (by omega)
        have p0 := OR.out.cell0 (k := k - 1) (by omega)
        obtain ⟨y, hy⟩ : ∃ y, (cel cs (k - 1)).1 = y := ⟨_, rfl⟩
        rw [hy] at p0 hlt
        have hdR : decide (m < y) = true := decide_eq_true hlt
        go_wp2
        go_quiet (fail)
        go_wp2
        go_roundw
        case rel =>
          refine ⟨k - 1, by omega, by go_num, fun j h1 h2 => ?_, below_drewN HBR.out _⟩
          rcases Nat.lt_or_ge j k with h | h
          · rw [show j = k - 1 by omega, hy]; exact hlt
          · exact GT.out j h h2
        case measure => simp [intOf]; omega
      · have hpl := placeC_at cs m k (by omega) (fun j hj => by
          rcases Nat.lt_or_ge j (k - 1) with h | h
          · have := HR.out j (k - 1) h (by omega); omega
          · rw [show j = k - 1 by omega]; omega) (fun h => GT.out k (Nat.le_refl _) (by omega))
        have PL := Lib.hid hpl
        have NR := Lib.hid hrun
        clear hpl hrun
        by_cases hk0 : 0 < k
        · have hia := index_cell_pred g 0 n c k hk0 (by omega)
          simp only [Nat.zero_add] at hia
          have hwk : IntKind.i64.wrap ((k : Int) - 1) = (k : Int) - 1 := by rw [IntKind.wrap_i64]; omega
          have hd : decide ((0 : Int) < (k : Int)) = true := decide_eq_true (by omega)
          have p0 := OR.out.cell0 (k := k - 1) (by omega)
          obtain ⟨y, hy⟩ : ∃ y, (cel cs (k - 1)).1 = y := ⟨_, rfl⟩
          have hlt := NR.out
          rw [hy] at p0 hlt
          have hdR : decide (m < y) = false := decide_eq_false (by omega)
          clear hlt
          go_wp2
          go_quiet (fail)
          clear hia hwk hd p0 hdR
          have B2 := Lib.hid (below_drewN BR.out nq)
          have O2 := Lib.hid (OR.out.below (below_drewN (Below.refl _ _) nq))
          have X2 := Lib.hid (XR.out.below (below_drewN (Below.refl _ _) nq) XR.out.lt)
          have M2 := Lib.hid ((HX.out.below BR.out).below (below_drewN (Below.refl _ _) nq))
          have hs2 : w.heap.size ≤ (wr.drewN nq).heap.size := B2.out.size
          generalize wr.drewN nq = w2 at B2 O2 X2 M2 hs2 ⊢
          clear hq hsr
          obtain ⟨hl, hu, sl, hrow, hsub⟩ := O2.out
          have HROW := Lib.hid hrow
          have HSUB := Lib.hid hsub
          have HL := Lib.hid hl
          clear hrow hsub hl
          have hg : g < w.heap.size := Nat.lt_of_lt_of_le (hu g (by simp [Value.ownBlock])) hhi
          have E0 := Lib.hid (OwnC.made0 w2).open0
          have ba : Below w2.heap.size w2 (w2.alloc (.cells #[] 59)) := (Below.refl _ _).alloc (Nat.le_refl _) _
          have BA := Lib.hid ba
          clear ba
          have hrd : ∀ (W : World), Below w.heap.size w2 W → ∀ j, j < n * 2 → W.cell? ⟨g, j, none⟩ = (cvs n cs sl)[j]? := fun W hW j hj => by
            rw [hW.cell (p := ⟨g, j, none⟩) hg]
            rw [World.ownsRow.cellAt HROW.out j (by omega)]
          have RD := Lib.hid hrd
          clear hrd
          go_wp2_with (at_builtin; refine wpList_append_own _ rfl _ _ 29 rfl w2.heap.size 59 i0 (.agg #[.int .i64 0, .slice none 0 0]) 2 32 Try.underlying29 HI.out HZ0.out HZ1.out HZ2.out rfl (by decide) _ _ _ rfl E0.out ⟨g, 0, none⟩ k _ ((cvs n cs sl).take (k * 2)) rfl ?bp0 ?bp1 ?bp2 ?bp3 ?bp4 ?bp5 ?_)
          case bp0 => rw [List.length_take, cvs_len]; omega
          case bp1 =>
            intro j u hj
            have hadd : (⟨g, 0, none⟩ : Addr).add j = ⟨g, j, none⟩ := by unfold Addr.add; split <;> simp_all
            have hjl : j < k * 2 := by
              rcases Nat.lt_or_ge j (k * 2) with h | h
              · exact h
              · rw [List.getElem?_eq_none (by rw [List.length_take, cvs_len]; omega)] at hj; cases hj
            rw [hadd, RD.out _ (BA.out.mono hs2) j (by omega), ← hj, List.getElem?_take_of_lt hjl]
          case bp2 => intro u hu; exact cvs_one n cs sl u (List.mem_of_mem_take hu)
          case bp3 => unfold maxLen; omega
          case bp4 => omega
          case bp5 => simp
          intro v3 w3 hown3 hgrow3 hnil3
          obtain ⟨g3, c3, rfl⟩ : ∃ g3 c3, v3 = .slice (some ⟨g3, 0, none⟩) k c3 := by
            rcases hown3.2 with ⟨e, _⟩ | ⟨g, cap, cur, e, _⟩
            · exact absurd e hnil3
            · exact ⟨g, cap, e⟩
          have b3 : Below w2.heap.size w2 w3 := BA.out.grown hgrow3 (by simp) (fun b hb => by simp [Value.ownBlock] at hb; omega)
          have hs3 : w2.heap.size ≤ w3.heap.size := b3.size
          have X3 := Lib.hid (X2.out.below b3 X2.out.lt)
          have OW3 := Lib.hid hown3
          have B3 := Lib.hid b3
          clear hown3 hgrow3 hnil3 b3
          have q30 := X3.out.cell 0
          have q31 := X3.out.cell 1
          simp at q30 q31
          go_wp2_with (at_builtin; refine wpList_append_lies _ rfl _ _ 29 rfl w2.heap.size 59 i0 (.agg #[.int .i64 0, .slice none 0 0]) 2 32 Try.underlying29 HI.out HZ0.out HZ1.out HZ2.out rfl (by decide) _ _ _ rfl (own_touch (S := fun _ => False) OW3.out (Touch.of_below ((Below.refl _ _).alloc (Nat.le_refl _) _)) (fun _ _ h => h)) ⟨w3.heap.size, 0, none⟩ 1 1 [.int .i64 m, .slice A' n' c'] rfl ?bq0 ?bq1 ?bq2 (by omega) ?bq3 ?bq4 ?bq5 _ rfl ?_)
          case bq0 => rfl
          case bq1 =>
            intro j u hj
            match j, hj with
            | 0, hj => simp at hj; subst hj; simp [Addr.add]
            | 1, hj => simp at hj; subst hj; simp [Addr.add]
          case bq2 => intro u hu; simp at hu; rcases hu with rfl | rfl <;> rfl
          case bq3 => unfold maxLen; omega
          case bq4 => omega
          case bq5 => simp; omega
          intro g4 c4 w4 hown4 hgrow4 _ _
          have b4 : Below w2.heap.size w2 w4 := (B3.out.trans (((Below.refl w3.heap.size w3).alloc (Nat.le_refl _) _).mono hs3)).grown hgrow4 (by simp; omega) (fun b hb => (OW3.out.lt b hb).1)
          have hs4 : w2.heap.size ≤ w4.heap.size := b4.size
          have OW4 := Lib.hid hown4
          obtain ⟨off, hoff, hofk⟩ : ∃ off, (if c = k then (some ⟨g, 0, none⟩ : Option Addr) else some ⟨g, k * 2, none⟩) = some ⟨g, off, none⟩ ∧ (k < n → off = k * 2) := by
            by_cases h : c = k
            · exact ⟨0, if_pos h, fun h2 => by omega⟩
            · exact ⟨k * 2, if_neg h, fun _ => rfl⟩
          have B4 := Lib.hid b4
          clear hown4 hgrow4 b4 q30 q31
          go_wp2_with (at_builtin; refine wpList_append_own _ rfl _ _ 29 rfl w2.heap.size 59 i0 (.agg #[.int .i64 0, .slice none 0 0]) 2 32 Try.underlying29 HI.out HZ0.out HZ1.out HZ2.out rfl (by decide) _ _ _ rfl OW4.out ⟨g, off, none⟩ (n - k) _ ((cvs n cs sl).drop (k * 2)) rfl ?br0 ?br1 ?br2 ?br3 ?br4 ?br5 ?_)
          case br0 => rw [List.length_drop, cvs_len]; omega
          case br1 =>
            intro j u hj
            have hadd : (⟨g, off, none⟩ : Addr).add j = ⟨g, off + j, none⟩ := by unfold Addr.add; split <;> simp_all
            have hjl : j < n * 2 - k * 2 := by
              rcases Nat.lt_or_ge j (n * 2 - k * 2) with h | h
              · exact h
              · rw [List.getElem?_eq_none (by rw [List.length_drop, cvs_len]; omega)] at hj; cases hj
            rw [hadd, hofk (by omega), RD.out _ (B4.out.mono hs2) (k * 2 + j) (by omega), ← hj, List.getElem?_drop]
          case br2 => intro u hu; exact cvs_one n cs sl u (List.mem_of_mem_drop hu)
          case br3 => unfold maxLen; omega
          case br4 => omega
          case br5 => omega
          intro v5 w5 hown5 hgrow5 hnil5
          obtain ⟨g5, c5, rfl⟩ : ∃ g5 c5, v5 = .slice (some ⟨g5, 0, none⟩) (k + 1 + (n - k)) c5 := by
            rcases hown5.2 with ⟨e, _⟩ | ⟨g, cap, cur, e, _⟩
            · exact absurd e hnil5
            · exact ⟨g, cap, e⟩
          have b5 : Below w2.heap.size w2 w5 := B4.out.grown hgrow5 (by omega) (fun b hb => (OW4.out.lt b hb).1)
          have B5 := Lib.hid b5
          have OW5 := Lib.hid hown5
          clear hown5 hgrow5 hnil5 b5
          rw [show k + 1 + (n - k) = n + 1 by omega] at OW5 ⊢
          go_wp2
          go_ret
          refine ⟨B2.out.trans (B5.out.mono hs2), .inr ⟨HF.out, g5, c5, rfl, ?_⟩⟩
          unfold insC
          rw [PL.out]
          exact OwnC.inserted HL.out HSUB.out M2.out HXB.out B5.out (by simpa using OW5.out) hk (Nat.le_trans (HROW.out.lt g (by simp [Value.ownBlock])).1 (by omega)) (by omega)
        · have hd : decide ((0 : Int) < (k : Int)) = false := decide_eq_false (by omega)
          go_wp2
          go_quiet (fail)
          clear hd
          have B2 := Lib.hid (below_drewN BR.out nq)
          have O2 := Lib.hid (OR.out.below (below_drewN (Below.refl _ _) nq))
          have X2 := Lib.hid (XR.out.below (below_drewN (Below.refl _ _) nq) XR.out.lt)
          have M2 := Lib.hid ((HX.out.below BR.out).below (below_drewN (Below.refl _ _) nq))
          have hs2 : w.heap.size ≤ (wr.drewN nq).heap.size := B2.out.size
          generalize wr.drewN nq = w2 at B2 O2 X2 M2 hs2 ⊢
          clear hq hsr
          obtain ⟨hl, hu, sl, hrow, hsub⟩ := O2.out
          have HROW := Lib.hid hrow
          have HSUB := Lib.hid hsub
          have HL := Lib.hid hl
          clear hrow hsub hl
          have hg : g < w.heap.size := Nat.lt_of_lt_of_le (hu g (by simp [Value.ownBlock])) hhi
          have E0 := Lib.hid (OwnC.made0 w2).open0
          have ba : Below w2.heap.size w2 (w2.alloc (.cells #[] 59)) := (Below.refl _ _).alloc (Nat.le_refl _) _
          have BA := Lib.hid ba
          clear ba
          have hrd : ∀ (W : World), Below w.heap.size w2 W → ∀ j, j < n * 2 → W.cell? ⟨g, j, none⟩ = (cvs n cs sl)[j]? := fun W hW j hj => by
            rw [hW.cell (p := ⟨g, j, none⟩) hg]
            rw [World.ownsRow.cellAt HROW.out j (by omega)]
          have RD := Lib.hid hrd
          clear hrd
          go_wp2_with (at_builtin; refine wpList_append_own _ rfl _ _ 29 rfl w2.heap.size 59 i0 (.agg #[.int .i64 0, .slice none 0 0]) 2 32 Try.underlying29 HI.out HZ0.out HZ1.out HZ2.out rfl (by decide) _ _ _ rfl E0.out ⟨g, 0, none⟩ k _ ((cvs n cs sl).take (k * 2)) rfl ?cp0 ?cp1 ?cp2 ?cp3 ?cp4 ?cp5 ?_)
          case cp0 => rw [List.length_take, cvs_len]; omega
          case cp1 =>
            intro j u hj
            have hadd : (⟨g, 0, none⟩ : Addr).add j = ⟨g, j, none⟩ := by unfold Addr.add; split <;> simp_all
            have hjl : j < k * 2 := by
              rcases Nat.lt_or_ge j (k * 2) with h | h
              · exact h
              · rw [List.getElem?_eq_none (by rw [List.length_take, cvs_len]; omega)] at hj; cases hj
            rw [hadd, RD.out _ (BA.out.mono hs2) j (by omega), ← hj, List.getElem?_take_of_lt hjl]
          case cp2 => intro u hu; exact cvs_one n cs sl u (List.mem_of_mem_take hu)
          case cp3 => unfold maxLen; omega
          case cp4 => omega
          case cp5 => simp
          intro v3 w3 hown3 hgrow3 hnil3
          obtain ⟨g3, c3, rfl⟩ : ∃ g3 c3, v3 = .slice (some ⟨g3, 0, none⟩) k c3 := by
            rcases hown3.2 with ⟨e, _⟩ | ⟨g, cap, cur, e, _⟩
            · exact absurd e hnil3
            · exact ⟨g, cap, e⟩
          have b3 : Below w2.heap.size w2 w3 := BA.out.grown hgrow3 (by simp) (fun b hb => by simp [Value.ownBlock] at hb; omega)
          have hs3 : w2.heap.size ≤ w3.heap.size := b3.size
          have X3 := Lib.hid (X2.out.below b3 X2.out.lt)
          have OW3 := Lib.hid hown3
          have B3 := Lib.hid b3
          clear hown3 hgrow3 hnil3 b3
          have q30 := X3.out.cell 0
          have q31 := X3.out.cell 1
          simp at q30 q31
          go_wp2_with (at_builtin; refine wpList_append_lies _ rfl _ _ 29 rfl w2.heap.size 59 i0 (.agg #[.int .i64 0, .slice none 0 0]) 2 32 Try.underlying29 HI.out HZ0.out HZ1.out HZ2.out rfl (by decide) _ _ _ rfl (own_touch (S := fun _ => False) OW3.out (Touch.of_below ((Below.refl _ _).alloc (Nat.le_refl _) _)) (fun _ _ h => h)) ⟨w3.heap.size, 0, none⟩ 1 1 [.int .i64 m, .slice A' n' c'] rfl ?cq0 ?cq1 ?cq2 (by omega) ?cq3 ?cq4 ?cq5 _ rfl ?_)
          case cq0 => rfl
          case cq1 =>
            intro j u hj
            match j, hj with
            | 0, hj => simp at hj; subst hj; simp [Addr.add]
            | 1, hj => simp at hj; subst hj; simp [Addr.add]
          case cq2 => intro u hu; simp at hu; rcases hu with rfl | rfl <;> rfl
          case cq3 => unfold maxLen; omega
          case cq4 => omega
          case cq5 => simp; omega
          intro g4 c4 w4 hown4 hgrow4 _ _
          have b4 : Below w2.heap.size w2 w4 := (B3.out.trans (((Below.refl w3.heap.size w3).alloc (Nat.le_refl _) _).mono hs3)).grown hgrow4 (by simp; omega) (fun b hb => (OW3.out.lt b hb).1)
          have hs4 : w2.heap.size ≤ w4.heap.size := b4.size
          have OW4 := Lib.hid hown4
          obtain ⟨off, hoff, hofk⟩ : ∃ off, (if c = k then (some ⟨g, 0, none⟩ : Option Addr) else some ⟨g, k * 2, none⟩) = some ⟨g, off, none⟩ ∧ (k < n → off = k * 2) := by
            by_cases h : c = k
            · exact ⟨0, if_pos h, fun h2 => by omega⟩
            · exact ⟨k * 2, if_neg h, fun _ => rfl⟩
          have B4 := Lib.hid b4
          clear hown4 hgrow4 b4 q30 q31
          go_wp2_with (at_builtin; refine wpList_append_own _ rfl _ _ 29 rfl w2.heap.size 59 i0 (.agg #[.int .i64 0, .slice none 0 0]) 2 32 Try.underlying29 HI.out HZ0.out HZ1.out HZ2.out rfl (by decide) _ _ _ rfl OW4.out ⟨g, off, none⟩ (n - k) _ ((cvs n cs sl).drop (k * 2)) rfl ?cr0 ?cr1 ?cr2 ?cr3 ?cr4 ?cr5 ?_)
          case cr0 => rw [List.length_drop, cvs_len]; omega
          case cr1 =>
            intro j u hj
            have hadd : (⟨g, off, none⟩ : Addr).add j = ⟨g, off + j, none⟩ := by unfold Addr.add; split <;> simp_all
            have hjl : j < n * 2 - k * 2 := by
              rcases Nat.lt_or_ge j (n * 2 - k * 2) with h | h
              · exact h
              · rw [List.getElem?_eq_none (by rw [List.length_drop, cvs_len]; omega)] at hj; cases hj
            rw [hadd, hofk (by omega), RD.out _ (B4.out.mono hs2) (k * 2 + j) (by omega), ← hj, List.getElem?_drop]
          case cr2 => intro u hu; exact cvs_one n cs sl u (List.mem_of_mem_drop hu)
          case cr3 => unfold maxLen; omega
          case cr4 => omega
          case cr5 => omega
          intro v5 w5 hown5 hgrow5 hnil5
          obtain ⟨g5, c5, rfl⟩ : ∃ g5 c5, v5 = .slice (some ⟨g5, 0, none⟩) (k + 1 + (n - k)) c5 := by
            rcases hown5.2 with ⟨e, _⟩ | ⟨g, cap, cur, e, _⟩
            · exact absurd e hnil5
            · exact ⟨g, cap, e⟩
          have b5 : Below w2.heap.size w2 w5 := B4.out.grown hgrow5 (by omega) (fun b hb => (OW4.out.lt b hb).1)
          have B5 := Lib.hid b5
          have OW5 := Lib.hid hown5
          clear hown5 hgrow5 hnil5 b5
          rw [show k + 1 + (n - k) = n + 1 by omega] at OW5 ⊢
          go_wp2
          go_ret
          refine ⟨B2.out.trans (B5.out.mono hs2), .inr ⟨HF.out, g5, c5, rfl, ?_⟩⟩
          unfold insC
          rw [PL.out]
          exact OwnC.inserted HL.out HSUB.out M2.out HXB.out B5.out (by simpa using OW5.out) hk (Nat.le_trans (HROW.out.lt g (by simp [Value.ownBlock])).1 (by omega)) (by omega)
end Go.Proofs.Ytmgjpmlemkkalaa

-- CellW: The model's WithNode.
namespace Go.Proofs.Ytmgjpmlemkkalaa
set_option maxRecDepth 20000
set_option linter.unusedVariables false
set_option linter.unusedSimpArgs false
open Go.RowKit

/-- what putting a node under its name makes of cells. -/
def WithIs (cs : List (Int × List Int)) (nd : MNode) (l : List (Int × List Int)) (m : Int) : Prop :=
  (¬ Right cs ∧ l = [] ∧ m = -1) ∨ (Right cs ∧ nodeOk nd = false ∧ l = cs ∧ m = -1) ∨
    (Right cs ∧ nodeOk nd = true ∧ findC cs (nameOf (nodeBytes nd)) < cs.length ∧ l = cs ∧ m = nameOf (nodeBytes nd)) ∨
    (Right cs ∧ nodeOk nd = true ∧ ¬ findC cs (nameOf (nodeBytes nd)) < cs.length ∧ 80 ≤ cs.length ∧ l = cs ∧ m = -1) ∨
    (Right cs ∧ nodeOk nd = true ∧ ¬ findC cs (nameOf (nodeBytes nd)) < cs.length ∧ cs.length < 80 ∧ l = insC cs (nameOf (nodeBytes nd)) (nodeBytes nd) ∧ m = nameOf (nodeBytes nd))
theorem WithIs.one {cs : List (Int × List Int)} {nd : MNode} {l l' : List (Int × List Int)} {m m' : Int} (h : WithIs cs nd l m) (h' : WithIs cs nd l' m') : l = l' ∧ m = m' := by
  rcases h with ⟨a, rfl, rfl⟩ | ⟨a, b, rfl, rfl⟩ | ⟨a, b, c, rfl, rfl⟩ | ⟨a, b, c, d, rfl, rfl⟩ | ⟨a, b, c, d, rfl, rfl⟩ <;>
    rcases h' with ⟨a', rfl, rfl⟩ | ⟨a', b', rfl, rfl⟩ | ⟨a', b', c', rfl, rfl⟩ | ⟨a', b', c', d', rfl, rfl⟩ | ⟨a', b', c', d', rfl, rfl⟩ <;> first
      | exact ⟨rfl, rfl⟩
      | exact absurd a' a
      | exact absurd a a'
      | exact absurd c' c
      | exact absurd c c'
      | omega
      | exact absurd (b.symm.trans b') (by simp)
theorem Right.rises {cs : List (Int × List Int)} (h : Right cs) : Rise cs := fun i j => h.rise i j
theorem nodeBytes_raw (nd : MNode) (h : nodeOk nd = true) : nodeBytes nd = rawBytes nd := by unfold nodeBytes; rw [if_pos h]
theorem isNode_len {bs : List Int} (h : IsNode bs) : 4 ≤ bs.length := by
  obtain ⟨nd, h⟩ := h
  rcases h with ⟨_, h1, _, h2⟩ | ⟨h, _⟩
  · rw [← h2, nodeBytes_raw nd h1]
    simp [rawBytes]; omega
  · cases h

theorem specWithNode_any (A : Option Addr) (n c : Nat) (cs : List (Int × List Int)) (v : Value) (nd : MNode) (B : Nat) (w : World) (hn : n ≤ 1048576) (hm : ∀ i, (cel cs i).2.length ≤ 1048576) (hB : B ≤ w.heap.size) (hb : Cells w B A n cs) (hv : NodeIn w B v nd) :
    Calls Try.prog 8 #[.slice A n c, v] w fun e w' => ∃ A' n' c' l m, e = .returned (.tuple #[.slice A' n' c', .int .i64 m]) ∧ WithIs cs nd l m ∧ OwnC w' w.heap.size w'.heap.size A' n' c' l ∧ Below w.heap.size w w' := by
  have HB := Lib.hid (hb.more hB)
  have hlen := hb.1
  have HV := Lib.hid (hv.more hB)
  obtain ⟨Ap, np, cp, Ak, nk, ck, rfl, hnp, hnk, hsz, hp, hk⟩ := hv
  clear hp hk hb
  obtain ⟨w1, hw1⟩ : ∃ w1, w.alloc (.cells #[.int .i64 nd.kind, .slice Ap np cp, .slice Ak nk ck, .string nd.val] 35) = w1 := ⟨_, rfl⟩
  have x1 : Box w1 w.heap.size _ _ := hw1 ▸ heap_alloc_new _ _
  have s1 : w1.heap.size = w.heap.size + 1 := hw1 ▸ by simp
  have b1 : Below w.heap.size w w1 := hw1 ▸ (Below.refl _ _).alloc (Nat.le_refl _) _
  have X1 := Lib.hid x1
  have B1 := Lib.hid b1
  have HW := Lib.hid hw1
  clear x1 b1 hw1
  go_enter Try.func8, Try.ntmps8
  go_wp2_with fail
  rw [HW.out]
  refine (specCellsOk_any A n c cs w.heap.size w1 (by omega) hm (by omega) (HB.out.below B1.out)).mono ?_
  rintro e w2 ⟨r, rfl, hr, b2⟩
  have HR := Lib.hid hr
  have X2 := Lib.hid (X1.out.below b2 (by omega))
  have B2 := Lib.hid (B1.out.trans (b2.mono (by omega)))
  have s2 : w.heap.size ≤ w2.heap.size := B2.out.size
  clear hr b2
  cases r with
  | false =>
    have hno : ¬ Right cs := fun h => absurd (HR.out.2 h) (by simp)
    have HNO := Lib.hid hno
    clear hno
    go_wp2
    go_ret2
    exact ⟨_, _, _, [], -1, rfl, .inl ⟨HNO.out, rfl, rfl⟩, by simpa using (OwnC.made0 w2).base s2, B2.out.trans (((Below.refl _ _).alloc (Nat.le_refl _) _).mono s2)⟩
  | true =>
    have hR : Right cs := HR.out.1 (by trivial)
    have RT := Lib.hid hR
    clear hR HR
    go_wp2_with fail
    refine (l4Copy_any A n c cs w.heap.size w2 (by omega) hm (fun i hi => by have := isNode_len (RT.out.2 i (by omega)).1; omega) (by omega) (HB.out.below B2.out)).mono ?_
    rintro e w3 ⟨g3, n3, c3, rfl, o3, b3⟩
    obtain rfl : n3 = n := o3.len.symm.trans hlen
    have X3 := Lib.hid (X2.out.below b3 X2.out.lt)
    have B3 := Lib.hid (B2.out.trans (b3.mono (by omega)))
    have s3 : w2.heap.size ≤ w3.heap.size := b3.size
    have O3 := Lib.hid o3
    clear o3 b3
    have q0 := X3.out.cell 0
    have q1 := X3.out.cell 1
    have q2 := X3.out.cell 2
    have q3 := X3.out.cell 3
    simp at q0 q1 q2 q3
    go_wp2_with fail
    refine (specNodeOk_any _ nd w.heap.size w3 (by omega) (HV.out.below B3.out)).mono ?_
    rintro e w4 ⟨rfl, b4⟩
    have X4 := Lib.hid (X3.out.below b4 X3.out.lt)
    have B4 := Lib.hid (B3.out.trans (b4.mono (by omega)))
    have s4 : w3.heap.size ≤ w4.heap.size := b4.size
    have O4 := Lib.hid (O3.out.below b4)
    clear b4 q0 q1 q2 q3
    have hok : ∃ ok, nodeOk nd = ok := ⟨_, rfl⟩
    obtain ⟨ok, hok⟩ := hok
    rw [hok]
    have OK := Lib.hid hok
    clear hok
    cases ok with
    | false =>
      go_wp2
      go_ret2
      exact ⟨_, _, _, cs, -1, rfl, .inr (.inl ⟨RT.out, OK.out, rfl, rfl⟩), (O4.out.more s4).base (by omega), B4.out⟩
    | true =>
      have q0 := X4.out.cell 0
      have q1 := X4.out.cell 1
      have q2 := X4.out.cell 2
      have q3 := X4.out.cell 3
      simp at q0 q1 q2 q3
      have hrl : (rawBytes nd).length ≤ 1048576 := by
        have h1 := nodeBytes_len nd
        rw [nodeBytes_raw nd OK.out] at h1
        have h2 := (nodeOk_parts nd OK.out)
        have h3 := nodeOk_val nd OK.out
        have h4 := kidsOk_len nd.kids h2.2.1
        have h5 : nd.path.length ≤ 1048000 := by
          have := h2.1
          unfold isPath at this
          simp at this
          omega
        omega
      go_wp2_with fail
      refine (l4CellOf_any _ nd w.heap.size w4 (by omega) (HV.out.below B4.out) hrl).mono ?_
      rintro e w5 ⟨g5, n5, c5, rfl, m5, b5⟩
      rw [← nodeBytes_raw nd OK.out] at m5 ⊢
      obtain ⟨nm, hnm⟩ : ∃ nm, nameOf (nodeBytes nd) = nm := ⟨_, rfl⟩
      rw [hnm]
      have NM := Lib.hid hnm
      have B5 := Lib.hid (B4.out.trans (b5.mono (by omega)))
      have s5 : w4.heap.size ≤ w5.heap.size := b5.size
      have O5 := Lib.hid (O4.out.below (b5.mono s4))
      have M5 := Lib.hid m5
      clear b5 m5 hnm q0 q1 q2 q3
      obtain ⟨w6, hw6⟩ : ∃ w6, w5.alloc (.cells #[.int .i64 nm, .slice (some ⟨g5, 0, none⟩) n5 c5] 59) = w6 := ⟨_, rfl⟩
      have x6 : Box w6 w5.heap.size _ _ := hw6 ▸ heap_alloc_new _ _
      have s6 : w6.heap.size = w5.heap.size + 1 := hw6 ▸ by simp
      have b6 : Below w5.heap.size w5 w6 := hw6 ▸ (Below.refl _ _).alloc (Nat.le_refl _) _
      have X6 := Lib.hid x6
      have B6 := Lib.hid (B5.out.trans (b6.mono (by omega)))
      have O6 := Lib.hid (O5.out.below (b6.mono (by omega)))
      have M6 := Lib.hid ((M5.out.below b6).base (show w2.heap.size ≤ w4.heap.size by omega))
      have HB6 : ∀ b, (Value.slice (some (⟨g5, 0, none⟩ : Addr)) n5 c5).ownBlock = some b → w3.heap.size ≤ b := fun b hb => by have := (M5.out.1.lt b hb).1; omega
      have HB6 := Lib.hid HB6
      have HW6 := Lib.hid hw6
      clear x6 b6 hw6
      go_wp2_with fail
      rw [HW6.out]
      refine (l4Add_any g3 n3 c3 w2.heap.size w3.heap.size cs nm _ n5 c5 (nodeBytes nd) w6 (by have := RT.out.1; omega) O6.out (by omega) M6.out HB6.out RT.out.rises).mono ?_
      rintro e w7 ⟨b7, h7⟩
      have X7 := Lib.hid (X6.out.below b7 X6.out.lt)
      have B7 := Lib.hid (B6.out.trans (b7.mono (by omega)))
      have O7 := Lib.hid (O6.out.below (b7.mono (by omega)))
      have s7 : w6.heap.size ≤ w7.heap.size := b7.size
      have hR80 : n3 ≤ 80 := by have := RT.out.1; omega
      have q0 := X7.out.cell 0
      simp at q0
      clear b7
      rcases h7 with ⟨hf, rfl⟩ | ⟨hf, g8, c8, rfl, o8⟩
      · have HF := Lib.hid hf
        clear hf
        go_wp2
        go_quiet (fail)
        go_wp2
        go_ret2
        exact ⟨_, _, _, cs, nm, rfl, .inr (.inr (.inl ⟨RT.out, OK.out, by rw [NM.out, hlen]; exact HF.out, rfl, NM.out.symm⟩)), ((O7.out.more (show w3.heap.size ≤ w7.heap.size by omega)).base (show w.heap.size ≤ w2.heap.size by omega)).below (below_drewN (Below.refl _ _) _), below_drewN B7.out _⟩
      · have HF := Lib.hid hf
        have O8 := Lib.hid o8
        clear hf o8
        by_cases h80 : n3 < 80
        · have hd : decide ((80 : Int) < ((n3 + 1 : Nat) : Int)) = false := decide_eq_false (by omega)
          go_wp2
          go_quiet (fail)
          go_wp2
          go_ret2
          refine ⟨_, _, _, insC cs nm (nodeBytes nd), nm, rfl, .inr (.inr (.inr (.inr ⟨RT.out, OK.out, by rw [NM.out, hlen]; exact HF.out, by omega, by rw [NM.out], NM.out.symm⟩))), (O8.out.base (show w.heap.size ≤ w2.heap.size by omega)).below (below_drewN (Below.refl _ _) _), below_drewN B7.out _⟩
        · have hd : decide ((80 : Int) < ((n3 + 1 : Nat) : Int)) = true := decide_eq_true (by omega)
          go_wp2
          go_ret2
          exact ⟨_, _, _, cs, -1, rfl, .inr (.inr (.inr (.inl ⟨RT.out, OK.out, by rw [NM.out, hlen]; exact HF.out, by omega, rfl, rfl⟩))), (O7.out.more (by omega)).base (by omega), B7.out⟩
end Go.Proofs.Ytmgjpmlemkkalaa

-- CellO: The model's Without.
namespace Go.Proofs.Ytmgjpmlemkkalaa
set_option maxRecDepth 20000
set_option linter.unusedVariables false
set_option linter.unusedSimpArgs false
open Go.RowKit

/-- the cells without those of a name. -/
def lessC (cs : List (Int × List Int)) (m : Int) : List (Int × List Int) := cs.filter fun c => decide (c.1 ≠ m)
theorem lessC_step (cs : List (Int × List Int)) (m : Int) (k : Nat) (hk : k < cs.length) : lessC (cs.take (k + 1)) m = if (cel cs k).1 = m then lessC (cs.take k) m else lessC (cs.take k) m ++ [cel cs k] := by
  unfold lessC
  rw [cel_take cs k hk, List.filter_append]
  by_cases h : (cel cs k).1 = m
  · rw [if_pos h]; simp [h]
  · rw [if_neg h]; simp [h]
/-- a row of cells that are picked from others. -/
structure Picked (w : World) (lo : Nat) (g q c : Nat) (cs : List (Int × List Int)) (sl : Nat → Sub) (k : Nat) (l : List (Int × List Int)) (ix : Nat → Nat) : Prop where
  len : l.length = q
  row : w.ownsRow lo 59 2 (.slice (some ⟨g, 0, none⟩) q c) q (cvs q l fun i => sl (ix i))
  at_ : ∀ i, i < q → ix i < k ∧ cel l i = cel cs (ix i)
  rise : ∀ i j, i < j → j < q → ix i < ix j
theorem Picked.own {w w0 : World} {lo hi g q c n : Nat} {r : Option Nat} {cs l : List (Int × List Int)} {sl : Nat → Sub} {ix : Nat → Nat} (h : Picked w w0.heap.size g q c cs sl n l ix) (hs : Subs w0 lo hi r n cs sl) (hb : Below w0.heap.size w0 w) (hlo : lo ≤ w0.heap.size) :
    OwnC w lo w.heap.size (some ⟨g, 0, none⟩) q c l := by
  have hsz := hb.size
  have hlt : ∀ i, i < n → ∀ b, (sl i).v.ownBlock = some b → b < w0.heap.size := fun i hi b hb => (World.ownsRow.lt (hs.mine i hi).1 b hb).2
  refine ⟨h.len, fun b hb => (World.ownsRow.lt h.row b hb).2, fun i => sl (ix i), ?_, ?_⟩
  · refine ⟨h.row.1, ?_⟩
    rcases h.row.2 with h | ⟨g, cap, cur, hv, hg, rest⟩
    · exact .inl h
    · exact .inr ⟨g, cap, cur, hv, by omega, rest⟩
  · refine ⟨fun i hi => ?_, fun i j hi hj hij b => ?_, fun i hi b e1 e2 => ?_, fun i hi b e => ?_⟩
    · obtain ⟨h1, h2⟩ := h.at_ i hi
      rw [h2]
      exact (hs.mine _ h1).below hb
    · have h1 := (h.at_ i hi).1
      have h2 := (h.at_ j hj).1
      refine hs.apart _ _ h1 h2 (fun e => ?_) b
      rcases Nat.lt_trichotomy i j with h3 | h3 | h3
      · have := h.rise i j h3 hj; omega
      · exact hij h3
      · have := h.rise j i h3 hi; omega
    · have h1 := hlt _ (h.at_ i hi).1 b e1
      have h2 := (World.ownsRow.lt h.row b e2).1
      omega
    · have := hlt _ (h.at_ i hi).1 b e; omega

/-- what taking a name away makes of cells. -/
def LessIs (cs : List (Int × List Int)) (m : Int) (l : List (Int × List Int)) (b : Bool) : Prop :=
  (¬ Right cs ∧ l = [] ∧ b = false) ∨ (Right cs ∧ l = lessC cs m ∧ (b = true ↔ findC cs m < cs.length))
theorem LessIs.one {cs : List (Int × List Int)} {m : Int} {l l' : List (Int × List Int)} {b b' : Bool} (h : LessIs cs m l b) (h' : LessIs cs m l' b') : l = l' ∧ b = b' := by
  rcases h with ⟨a, rfl, rfl⟩ | ⟨a, rfl, h⟩ <;> rcases h' with ⟨a', rfl, rfl⟩ | ⟨a', rfl, h'⟩
  · exact ⟨rfl, rfl⟩
  · exact absurd a' a
  · exact absurd a a'
  · refine ⟨rfl, ?_⟩
    cases b <;> cases b'
    · rfl
    · exact absurd (h.2 (h'.1 rfl)) (by simp)
    · exact absurd (h'.2 (h.1 rfl)) (by simp)
    · rfl

end Go.Proofs.Ytmgjpmlemkkalaa

-- ReachM: Plain facts on what is reached among cells. No statement of the program is proved here.
namespace Go.Proofs.Ytmgjpmlemkkalaa
set_option maxRecDepth 20000
set_option linter.unusedVariables false
set_option linter.unusedSimpArgs false
open Go.RowKit

/-- a list of numbers that rises. -/
def RiseI (l : List Int) : Prop := l.Pairwise (· < ·)
theorem riseI_at (l : List Int) (h : RiseI l) (i j : Nat) (hij : i < j) (hj : j < l.length) : l[i]?.getD 0 < l[j]?.getD 0 := by
  rw [List.getElem?_eq_getElem (show i < l.length by omega), List.getElem?_eq_getElem hj]
  exact List.pairwise_iff_getElem.1 h i j (by omega) hj hij
theorem riseI_one (a b : List Int) (ha : RiseI a) (hb : RiseI b) (h : ∀ x, x ∈ a ↔ x ∈ b) : a = b := by
  induction a generalizing b with
  | nil =>
    cases b with
    | nil => rfl
    | cons y b => exact absurd ((h y).2 (by simp)) (by simp)
  | cons x a ih =>
    cases b with
    | nil => exact absurd ((h x).1 (by simp)) (by simp)
    | cons y b =>
      have ha1 := List.pairwise_cons.1 ha
      have hb1 := List.pairwise_cons.1 hb
      have hxy : x = y := by
        have h1 := (h x).1 (by simp)
        have h2 := (h y).2 (by simp)
        rcases List.mem_cons.1 h1 with e | h1
        · exact e
        · rcases List.mem_cons.1 h2 with e | h2
          · exact e.symm
          · have := hb1.1 x h1
            have := ha1.1 y h2
            omega
      subst hxy
      congr 1
      refine ih b ha1.2 hb1.2 fun z => ⟨fun hz => ?_, fun hz => ?_⟩
      · rcases List.mem_cons.1 ((h z).1 (List.mem_cons_of_mem _ hz)) with e | e
        · subst e; have := ha1.1 z hz; omega
        · exact e
      · rcases List.mem_cons.1 ((h z).2 (List.mem_cons_of_mem _ hz)) with e | e
        · subst e; have := hb1.1 z hz; omega
        · exact e
theorem riseI_len (l u : List Int) (h : RiseI l) (hs : ∀ x, x ∈ l → x ∈ u) : l.length ≤ u.length := by
  induction l generalizing u with
  | nil => simp
  | cons x l ih =>
    have h1 := List.pairwise_cons.1 h
    have hx := hs x (by simp)
    have := ih (u.erase x) h1.2 (fun y hy => by
      have hne : y ≠ x := by have := h1.1 y hy; omega
      exact (List.mem_erase_of_ne hne).2 (hs y (List.mem_cons_of_mem _ hy)))
    rw [List.length_erase_of_mem hx] at this
    have hp : 0 < u.length := List.length_pos_of_mem hx
    simp only [List.length_cons]
    omega
/-- where a number belongs. -/
def placeI (l : List Int) (m : Int) : Nat := l.findIdx fun x => decide (m < x)
theorem placeI_le (l : List Int) (m : Int) : placeI l m ≤ l.length := List.findIdx_le_length
theorem placeI_at (l : List Int) (m : Int) (k : Nat) (hk : k ≤ l.length) (h0 : ∀ j, j < k → l[j]?.getD 0 ≤ m) (h1 : k < l.length → m < l[k]?.getD 0) : placeI l m = k := by
  have hle := placeI_le l m
  have hc : ∀ i (h : i < l.length), l[i] = l[i]?.getD 0 := fun i h => by rw [List.getElem?_eq_getElem h]; rfl
  rcases Nat.lt_trichotomy (placeI l m) k with h | h | h
  · have h2 := List.findIdx_getElem (w := show l.findIdx (fun x => decide (m < x)) < l.length from by unfold placeI at h; omega)
    have h3 := h0 _ h
    rw [hc] at h2
    have h2 : m < l[placeI l m]?.getD 0 := of_decide_eq_true h2
    omega
  · exact h
  · have h2 := List.not_of_lt_findIdx (show k < l.findIdx fun x => decide (m < x) from h)
    have hkl : k < l.length := by omega
    rw [hc k hkl] at h2
    have h2 : l[k]?.getD 0 ≤ m := by simpa using h2
    have := h1 hkl
    omega
def insI (l : List Int) (m : Int) : List Int := l.take (placeI l m) ++ m :: l.drop (placeI l m)
theorem insI_len (l : List Int) (m : Int) : (insI l m).length = l.length + 1 := by
  have := placeI_le l m
  unfold insI; simp; omega
theorem insI_mem (l : List Int) (m x : Int) : x ∈ insI l m ↔ x = m ∨ x ∈ l := by
  unfold insI
  conv => rhs; rw [← List.take_append_drop (placeI l m) l]
  simp only [List.mem_append, List.mem_cons]
  constructor
  · rintro (h | h | h)
    · exact .inr (.inl h)
    · exact .inl h
    · exact .inr (.inr h)
  · rintro (h | h | h)
    · exact .inr (.inl h)
    · exact .inl h
    · exact .inr (.inr h)
theorem insI_rise (l : List Int) (m : Int) (h : RiseI l) (hm : m ∉ l) : RiseI (insI l m) := by
  have hle := placeI_le l m
  have hc : ∀ i (h : i < l.length), l[i] = l[i]?.getD 0 := fun i h => by rw [List.getElem?_eq_getElem h]; rfl
  have hlo : ∀ x, x ∈ l.take (placeI l m) → x < m := by
    intro x hx
    obtain ⟨i, hi, rfl⟩ := List.mem_iff_getElem.1 hx
    have hi2 : i < placeI l m := by simp at hi; omega
    have h2 := List.not_of_lt_findIdx (show i < l.findIdx fun x => decide (m < x) from hi2)
    have h3 : l[i]'(by omega) ≤ m := by simpa using h2
    rw [List.getElem_take]
    rcases Int.lt_or_eq_of_le h3 with h | h
    · exact h
    · exact absurd (h ▸ List.getElem_mem _) hm
  have hhi : ∀ x, x ∈ l.drop (placeI l m) → m < x := by
    intro x hx
    obtain ⟨i, hi, rfl⟩ := List.mem_iff_getElem.1 hx
    have hi2 : placeI l m + i < l.length := by simp at hi; omega
    rw [List.getElem_drop]
    have h0 : m < l[placeI l m]'(by omega) := by
      have h2 := List.findIdx_getElem (w := show l.findIdx (fun x => decide (m < x)) < l.length from by unfold placeI at hi2; omega)
      exact of_decide_eq_true h2
    rcases Nat.eq_zero_or_pos i with e | e
    · subst e; exact h0
    · have := List.pairwise_iff_getElem.1 h (placeI l m) (placeI l m + i) (by omega) hi2 (by omega)
      omega
  unfold RiseI insI
  rw [List.pairwise_append]
  refine ⟨h.sublist (List.take_sublist _ _), List.pairwise_cons.2 ⟨fun x hx => hhi x hx, h.sublist (List.drop_sublist _ _)⟩, fun a ha b hb => ?_⟩
  rcases List.mem_cons.1 hb with e | hb
  · rw [e]; exact hlo a ha
  · have := hlo a ha; have := hhi b hb; omega

/-- k is the name of a kid of what stands under x. -/
def KidOf (cs : List (Int × List Int)) (x k : Int) : Prop := ∃ nd a, HitIs cs x nd true ∧ (a, k) ∈ nd.kids
/-- x is reached from these roots. -/
def Reached (cs : List (Int × List Int)) (roots : List Int) (x : Int) : Prop := ∀ S : Int → Prop, (∀ r, r ∈ roots → r ≠ 0 → S r) → (∀ y k, S y → KidOf cs y k → S k) → S x
theorem Reached.root {cs : List (Int × List Int)} {roots : List Int} {x : Int} (h : x ∈ roots) (h0 : x ≠ 0) : Reached cs roots x := fun S h1 _ => h1 x h h0
theorem Reached.kid {cs : List (Int × List Int)} {roots : List Int} {x k : Int} (h : Reached cs roots x) (hk : KidOf cs x k) : Reached cs roots k := fun S h1 h2 => h2 x k (h S h1 h2) hk
theorem hit_ok {cs : List (Int × List Int)} {x : Int} {nd : MNode} (h : HitIs cs x nd true) : nodeOk nd = true := by
  rcases h with ⟨_, ⟨_, h, _⟩ | ⟨h, _⟩⟩ | ⟨_, _, h⟩
  · exact h
  · cases h
  · cases h
theorem kidOf_pos {cs : List (Int × List Int)} {x k : Int} (h : KidOf cs x k) : k ≠ 0 := by
  obtain ⟨nd, a, h1, h2⟩ := h
  obtain ⟨i, hi, e⟩ := List.mem_iff_getElem.1 h2
  have h3 := kidsOk_at nd.kids (nodeOk_parts nd (hit_ok h1)).2.1 i hi
  unfold KidAt at h3
  rw [List.getElem?_eq_getElem hi, e] at h3
  have := h3.2.1
  simp at this
  omega
theorem hit_found {cs : List (Int × List Int)} {x : Int} {nd : MNode} {b : Bool} (hR : Right cs) (h : HitIs cs x nd b) : b = true ↔ findC cs x < cs.length := by
  rcases h with ⟨h1, h2⟩ | ⟨h1, _, rfl⟩
  · exact ⟨fun _ => h1, fun _ => (IsNode.of h2).2 (hR.2 _ h1).1⟩
  · exact ⟨fun h => absurd h (by simp), fun h => absurd h h1⟩
/-- there is a short list of all that can be reached. -/
theorem reach_bound (cs : List (Int × List Int)) (roots : List Int) : ∃ u : List Int, u.length ≤ roots.length + 16 * cs.length ∧ ∀ x, Reached cs roots x → x ∈ u := by
  have hk : ∀ k, k ≤ cs.length → ∃ u : List Int, u.length ≤ 16 * k ∧ ∀ i, i < k → ∀ nd, NodeRead (cel cs i).2 nd true → ∀ p, p ∈ nd.kids → p.2 ∈ u := by
    intro k
    induction k with
    | zero => exact fun _ => ⟨[], by simp, fun i hi => by omega⟩
    | succ k ih =>
      intro hk
      obtain ⟨u, hu, h⟩ := ih (by omega)
      by_cases hn : IsNode (cel cs k).2
      · obtain ⟨nd, hnd⟩ := hn
        refine ⟨u ++ nd.kids.map (·.2), ?_, fun i hi nd' h' p hp => ?_⟩
        · have hok : nodeOk nd = true := by
            rcases hnd with ⟨_, h, _⟩ | ⟨h, _⟩
            · exact h
            · cases h
          have := kidsOk_len nd.kids (nodeOk_parts nd hok).2.1
          simp; omega
        · rcases Nat.lt_or_ge i k with hik | hik
          · exact List.mem_append_left _ (h i hik nd' h' p hp)
          · obtain rfl : i = k := by omega
            have := (hnd.one h').1
            subst this
            exact List.mem_append_right _ (List.mem_map_of_mem hp)
      · refine ⟨u, by omega, fun i hi nd' h' p hp => ?_⟩
        rcases Nat.lt_or_ge i k with hik | hik
        · exact h i hik nd' h' p hp
        · obtain rfl : i = k := by omega
          exact absurd ⟨nd', h'⟩ hn
  obtain ⟨u, hu, h⟩ := hk cs.length (Nat.le_refl _)
  refine ⟨roots ++ u, by simp; omega, fun x hx => ?_⟩
  refine hx (fun y => y ∈ roots ++ u) (fun r hr _ => List.mem_append_left _ hr) (fun y k _ hk => ?_)
  obtain ⟨nd, a, h1, h2⟩ := hk
  rcases h1 with ⟨h3, h4⟩ | ⟨_, _, h4⟩
  · exact List.mem_append_right _ (h _ h3 nd h4 (a, k) h2)
  · cases h4
/-- what is told of the names that are reached. -/
def ReachIs (cs : List (Int × List Int)) (roots l : List Int) (b : Bool) : Prop :=
  (¬ (Right cs ∧ roots.length ≤ 80) ∧ l = [] ∧ b = false) ∨ ((Right cs ∧ roots.length ≤ 80) ∧ RiseI l ∧ (∀ x, x ∈ l ↔ Reached cs roots x) ∧ (b = true ↔ ∀ x, x ∈ l → findC cs x < cs.length))
theorem ReachIs.one {cs : List (Int × List Int)} {roots l l' : List Int} {b b' : Bool} (h : ReachIs cs roots l b) (h' : ReachIs cs roots l' b') : l = l' ∧ b = b' := by
  rcases h with ⟨a, rfl, rfl⟩ | ⟨a, h1, h2, h3⟩ <;> rcases h' with ⟨a', rfl, rfl⟩ | ⟨a', k1, k2, k3⟩
  · exact ⟨rfl, rfl⟩
  · exact absurd a' a
  · exact absurd a a'
  · have e := riseI_one l l' h1 k1 (fun x => (h2 x).trans (k2 x).symm)
    subst e
    refine ⟨rfl, ?_⟩
    cases b <;> cases b'
    · rfl
    · exact absurd (h3.2 (k3.1 rfl)) (by simp)
    · exact absurd (k3.2 (h3.1 rfl)) (by simp)
    · rfl
end Go.Proofs.Ytmgjpmlemkkalaa

-- CellL: Plain facts on the sizes of what comes of cells. No statement of the program is proved here.
namespace Go.Proofs.Ytmgjpmlemkkalaa
set_option maxRecDepth 20000
set_option linter.unusedVariables false
set_option linter.unusedSimpArgs false
open Go.RowKit

theorem cel_bd (cs : List (Int × List Int)) (h : szC cs ≤ 1048576) (i : Nat) : (cel cs i).2.length ≤ 1048576 := by
  by_cases hi : i < cs.length
  · have := szC_cel cs i hi; omega
  · have e : cel cs i = (0, []) := by unfold cel; rw [List.getElem?_eq_none (by omega)]; rfl
    rw [e]; simp
theorem OwnC.nilc {w : World} {lo hi n c : Nat} {A : Option Addr} {cs : List (Int × List Int)} (h : OwnC w lo hi A n c cs) (hA : A = none) : c = 0 := by
  obtain ⟨hl, hu, sl, hr, hs⟩ := h
  rcases hr.2 with ⟨e, _⟩ | ⟨g, cap, cur, e, _⟩
  · cases e; rfl
  · subst hA; cases e
theorem szC_filter (cs : List (Int × List Int)) (p : Int × List Int → Bool) : szC (cs.filter p) ≤ szC cs := by
  induction cs with
  | nil => simp
  | cons x r ih =>
    rw [List.filter_cons]
    split
    · simp [szC]; omega
    · simp [szC]; omega
theorem less_bd {cs l : List (Int × List Int)} {m : Int} {b : Bool} (h : LessIs cs m l b) (hs : szC cs ≤ 1048576) : szC l ≤ 1048576 := by
  rcases h with ⟨_, rfl, _⟩ | ⟨_, rfl, _⟩
  · simp [szC]
  · exact Nat.le_trans (szC_filter _ _) hs
theorem nodeBytes_bd (nd : MNode) (h : nodeOk nd = true) (hp : nd.path.length ≤ 1048576) : (nodeBytes nd).length ≤ 1000000000 := by
  have h1 := nodeBytes_len nd
  have h3 := nodeOk_val nd h
  have h4 := kidsOk_len nd.kids (nodeOk_parts nd h).2.1
  omega
theorem nodeBytes_small (nd : MNode) (h : nodeOk nd = true) : (nodeBytes nd).length ≤ 1000000 := by
  have h1 := nodeBytes_len nd
  have h2 := (nodeOk_parts nd h)
  have h3 := nodeOk_val nd h
  have h4 := kidsOk_len nd.kids h2.2.1
  have h5 : nd.path.length ≤ 900000 := by
    have := h2.1
    unfold isPath at this
    simp at this
    omega
  omega
theorem with_bd {cs l : List (Int × List Int)} {nd : MNode} {m : Int} (h : WithIs cs nd l m) (hs : szC cs ≤ 1048576) : szC l ≤ 3000000 ∧ l.length ≤ 81 ∧ ∀ i, (cel l i).2.length ≤ 1048576 := by
  have hm := cel_bd cs hs
  have hsame : Right cs → szC cs ≤ 3000000 ∧ cs.length ≤ 81 ∧ ∀ i, (cel cs i).2.length ≤ 1048576 := fun h => ⟨by omega, by have := h.1; omega, hm⟩
  rcases h with ⟨_, rfl, _⟩ | ⟨hR, _, rfl, _⟩ | ⟨hR, _, _, rfl, _⟩ | ⟨hR, _, _, _, rfl, _⟩ | ⟨hR, hok, _, h80, rfl, _⟩
  · exact ⟨by simp [szC], by simp, fun i => by simp [cel]⟩
  · exact hsame hR
  · exact hsame hR
  · exact hsame hR
  · have hb := nodeBytes_small nd hok
    refine ⟨?_, by rw [insC_len]; omega, fun i => ?_⟩
    · have e : szC cs = szC (cs.take (placeC cs (nameOf (nodeBytes nd)))) + szC (cs.drop (placeC cs (nameOf (nodeBytes nd)))) := by rw [← szC_append, List.take_append_drop]
      unfold insC
      rw [szC_append]
      simp only [szC]
      omega
    · unfold insC
      rw [cel_ins cs _ _ (placeC_le _ _)]
      split
      · exact hm i
      · split
        · simp only; omega
        · exact hm (i - 1)
theorem reach_bd {cs : List (Int × List Int)} {roots l : List Int} {b : Bool} (h : ReachIs cs roots l b) : l.length ≤ 1360 := by
  rcases h with ⟨_, rfl, _⟩ | ⟨⟨hR, hr⟩, h1, h2, _⟩
  · simp
  · obtain ⟨u, hu, hx⟩ := reach_bound cs roots
    have := riseI_len l u h1 fun x hx' => hx x ((h2 x).1 hx')
    have := hR.1
    omega
theorem OwnI.cap_ {w : World} {base n c : Nat} {A : Option Addr} {xs : List Int} (h : OwnI w base A n c xs) : n ≤ c := by
  rcases h.2 with ⟨e, hx⟩ | ⟨g', cap, cur, e, _, _, hn, _⟩
  · have e2 : n = 0 := by simpa using hx
    omega
  · cases e; exact hn
theorem OwnI.nilc {w : World} {base n c : Nat} {A : Option Addr} {xs : List Int} (h : OwnI w base A n c xs) (hA : A = none) : c = 0 := by
  rcases h.2 with ⟨e, _⟩ | ⟨g, cap, cur, e, _⟩
  · cases e; rfl
  · subst hA; cases e
end Go.Proofs.Ytmgjpmlemkkalaa

-- FindM: Plain facts on the way down a path. No statement of the program is proved here.
namespace Go.Proofs.Ytmgjpmlemkkalaa
set_option maxRecDepth 20000
set_option linter.unusedVariables false
set_option linter.unusedSimpArgs false
open Go.RowKit

theorem com_le (a b : List Int) : com a b ≤ a.length ∧ com a b ≤ b.length := by
  induction a generalizing b with
  | nil => cases b <;> simp [com]
  | cons x r ih =>
    cases b with
    | nil => simp [com]
    | cons y s =>
      have := ih s
      simp only [com]
      split
      · simp; omega
      · simp
/-- the empty text. -/
def noStr : ByteArray := { data := #[] }
/-- the name of the kid at a number; 0 where there is none. -/
def kidAt (ks : List (Int × Int)) (a : Int) : Int := match ks.find? (fun k => k.1 == a) with
  | some k => k.2
  | none => 0
theorem kidAt_at (ks : List (Int × Int)) (a : Int) (k : Nat) (hk : k < ks.length) (he : (ks[k]?.getD (0, 0)).1 = a) (h : ∀ j, j < k → (ks[j]?.getD (0, 0)).1 ≠ a) : kidAt ks a = (ks[k]?.getD (0, 0)).2 := by
  induction ks generalizing k with
  | nil => simp at hk
  | cons x r ih =>
    unfold kidAt
    rw [List.find?_cons]
    cases k with
    | zero => simp at he; simp [he]
    | succ k =>
      have h0 := h 0 (by omega)
      simp at h0
      have hx : (x.1 == a) = false := by simpa using h0
      rw [hx]
      have := ih k (by simpa using hk) (by simpa using he) (fun j hj => by have := h (j + 1) (by omega); simpa using this)
      unfold kidAt at this
      simpa using this
theorem kidAt_none (ks : List (Int × Int)) (a : Int) (h : ∀ j, j < ks.length → (ks[j]?.getD (0, 0)).1 ≠ a) : kidAt ks a = 0 := by
  unfold kidAt
  have : ks.find? (fun k => k.1 == a) = none := by
    rw [List.find?_eq_none]
    intro x hx
    obtain ⟨i, hi, rfl⟩ := List.mem_iff_getElem.1 hx
    have := h i hi
    rw [List.getElem?_eq_getElem hi] at this
    simpa using this
  rw [this]
/-- what a node on the way says: the value and the code, or where to go on. -/
def stepAt (nd : MNode) (path : List Int) : (ByteArray × Int) ⊕ (Int × List Int) :=
  if com nd.path path < nd.path.length ∨ (nd.kind = 1 ∧ com nd.path path < path.length) then .inl (noStr, 1)
  else if nd.kind = 1 then .inl (nd.val, 0)
  else if nd.kind = 2 then .inr ((nd.kids[0]?.getD (0, 0)).2, path.drop (com nd.path path))
  else match path.drop (com nd.path path) with
    | [] => if hasVal nd then .inl (nd.val, 0) else .inl (noStr, 1)
    | a :: r => .inr (kidAt nd.kids a, r)
/-- down a path: the value, the code, and the names of the nodes on the way. -/
def DownIs (cs : List (Int × List Int)) : Nat → Int → List Int → ByteArray → Int → List Int → Prop
  | 0, _, _, _, _, _ => False
  | f + 1, root, path, v, k, way =>
    (root = 0 ∧ v = noStr ∧ k = 1 ∧ way = []) ∨
    (root ≠ 0 ∧ ∃ nd b, HitIs cs root nd b ∧
      ((b = false ∧ v = noStr ∧ k = 2 ∧ way = []) ∨
       (b = true ∧ ∃ way', way = root :: way' ∧
         ((∃ r, stepAt nd path = .inl r ∧ v = r.1 ∧ k = r.2 ∧ way' = []) ∨ (∃ r, stepAt nd path = .inr r ∧ DownIs cs f r.1 r.2 v k way')))))
theorem DownIs.one {cs : List (Int × List Int)} (f f' : Nat) {root : Int} {path : List Int} {v v' : ByteArray} {k k' : Int} {way way' : List Int} (h : DownIs cs f root path v k way) (h' : DownIs cs f' root path v' k' way') : v = v' ∧ k = k' ∧ way = way' := by
  induction f generalizing f' root path way way' with
  | zero => exact h.elim
  | succ f ih =>
    cases f' with
    | zero => exact h'.elim
    | succ f' =>
      unfold DownIs at h h'
      rcases h with ⟨h0, rfl, rfl, rfl⟩ | ⟨h0, nd, b, hit, h⟩ <;> rcases h' with ⟨h0', rfl, rfl, rfl⟩ | ⟨h0', nd', b', hit', h'⟩
      · exact ⟨rfl, rfl, rfl⟩
      · exact absurd h0 h0'
      · exact absurd h0' h0
      · obtain ⟨rfl, rfl⟩ := hit.one hit'
        rcases h with ⟨hb, rfl, rfl, rfl⟩ | ⟨hb, w1, rfl, h⟩ <;> rcases h' with ⟨hb', rfl, rfl, rfl⟩ | ⟨hb', w1', rfl, h'⟩
        · exact ⟨rfl, rfl, rfl⟩
        · rw [hb] at hb'; cases hb'
        · rw [hb] at hb'; cases hb'
        · rcases h with ⟨r, e, rfl, rfl, rfl⟩ | ⟨r, e, h⟩ <;> rcases h' with ⟨r', e', rfl, rfl, rfl⟩ | ⟨r', e', h'⟩
          · rw [e] at e'; cases e'; exact ⟨rfl, rfl, rfl⟩
          · rw [e] at e'; cases e'
          · rw [e] at e'; cases e'
          · rw [e] at e'; cases e'
            obtain ⟨a, b, c⟩ := ih f' h h'
            exact ⟨a, b, by rw [c]⟩
/-- the answer of Found. -/
def FoundIs (cs : List (Int × List Int)) (root : Int) (key : ByteArray) (v : ByteArray) (k : Int) : Prop :=
  (¬ (Right cs ∧ isKey (sb key) = true ∧ 0 ≤ root) ∧ v = noStr ∧ k = 3) ∨ ((Right cs ∧ isKey (sb key) = true ∧ 0 ≤ root) ∧ ∃ f way, DownIs cs f root (pathOf (sb key)) v k way)
theorem FoundIs.one {cs : List (Int × List Int)} {root : Int} {key v v' : ByteArray} {k k' : Int} (h : FoundIs cs root key v k) (h' : FoundIs cs root key v' k') : v = v' ∧ k = k' := by
  rcases h with ⟨a, rfl, rfl⟩ | ⟨a, f, way, h⟩ <;> rcases h' with ⟨a', rfl, rfl⟩ | ⟨a', f', way', h'⟩
  · exact ⟨rfl, rfl⟩
  · exact absurd a' a
  · exact absurd a a'
  · have := h.one f f' h'
    exact ⟨this.1, this.2.1⟩
end Go.Proofs.Ytmgjpmlemkkalaa

-- ReachS: The model's ReachOf.
namespace Go.Proofs.Ytmgjpmlemkkalaa
set_option maxRecDepth 20000
set_option linter.unusedVariables false
set_option linter.unusedSimpArgs false
open Go.RowKit

theorem Ints.row {w : World} {B n : Nat} {A : Option Addr} {zs : List Int} (h : Ints w B A n zs) (hn : 0 < n) :
    ∃ b off, A = some ⟨b, off, none⟩ ∧ b < B ∧ ∀ j u, (zs.map (Value.int .i64))[j]? = some u → w.cell? ((⟨b, off, none⟩ : Addr).add j) = some u := by
  obtain ⟨b, off, rfl, hb, hc⟩ := h.2 hn
  refine ⟨b, off, rfl, hb, fun j u hj => ?_⟩
  have hadd : (⟨b, off, none⟩ : Addr).add j = ⟨b, off + j, none⟩ := by unfold Addr.add; split <;> simp_all
  have hjl : j < zs.length := by
    rcases Nat.lt_or_ge j zs.length with h | h
    · exact h
    · rw [List.getElem?_eq_none (by simpa using h)] at hj; cases hj
  have hl := h.1
  rw [hadd, hc j (by omega)]
  rw [List.getElem?_map, List.getElem?_eq_getElem hjl] at hj
  simp only [Option.map_some, Option.some.injEq] at hj
  rw [← hj]
  simp [List.getElem?_eq_getElem hjl]
theorem Ints.takes {w : World} {B n : Nat} {A : Option Addr} {zs : List Int} (h : Ints w B A n zs) (k : Nat) (hk : k ≤ n) : Ints w B A k (zs.take k) := by
  have hl := h.1
  refine ⟨by simp; omega, fun hp => ?_⟩
  obtain ⟨b, off, e, hb, hc⟩ := h.2 (by omega)
  refine ⟨b, off, e, hb, fun i hi => ?_⟩
  have h1 := hc i (by omega)
  rw [h1]
  simp [hi]
end Go.Proofs.Ytmgjpmlemkkalaa

-- ReachL: The model's ReachOf: its loop.
namespace Go.Proofs.Ytmgjpmlemkkalaa
set_option maxRecDepth 20000
set_option linter.unusedVariables false
set_option linter.unusedSimpArgs false
open Go.RowKit

def lenOf : Value → Nat
  | .slice _ n _ => n
  | _ => 0
/-- what is told of the names found and of those to be looked at. -/
structure Going (cs : List (Int × List Int)) (roots out todo : List Int) (b : Bool) : Prop where
  rise : RiseI out
  reach : ∀ x, x ∈ out → Reached cs roots x
  todos : ∀ x, x ∈ todo → x = 0 ∨ Reached cs roots x
  root : ∀ r, r ∈ roots → r ≠ 0 → r ∈ out ∨ r ∈ todo
  kid : ∀ y k, y ∈ out → KidOf cs y k → k ∈ out ∨ k ∈ todo
  whole : b = true ↔ ∀ x, x ∈ out → findC cs x < cs.length
theorem Going.start (cs : List (Int × List Int)) (roots : List Int) : Going cs roots [] roots true :=
  ⟨List.Pairwise.nil, fun x h => by simp at h, fun x h => by
    by_cases h0 : x = 0
    · exact .inl h0
    · exact .inr (Reached.root h h0), fun r h _ => .inr h, fun y k h => by simp at h, ⟨fun _ x h => by simp at h, fun _ => rfl⟩⟩
theorem Going.skip {cs : List (Int × List Int)} {roots out todo : List Int} {b : Bool} {m : Int} (h : Going cs roots out (todo ++ [m]) b) (hm : m = 0 ∨ m ∈ out) : Going cs roots out todo b := by
  refine ⟨h.rise, h.reach, fun x hx => h.todos x (List.mem_append_left _ hx), fun r hr h0 => ?_, fun y k hy hk => ?_, h.whole⟩
  · rcases h.root r hr h0 with h1 | h1
    · exact .inl h1
    · rcases List.mem_append.1 h1 with h2 | h2
      · exact .inr h2
      · simp at h2
        subst h2
        rcases hm with e | e
        · exact absurd e h0
        · exact .inl e
  · rcases h.kid y k hy hk with h1 | h1
    · exact .inl h1
    · rcases List.mem_append.1 h1 with h2 | h2
      · exact .inr h2
      · simp at h2
        subst h2
        rcases hm with e | e
        · exact absurd e (kidOf_pos hk)
        · exact .inl e
theorem Going.take {cs : List (Int × List Int)} {roots out todo : List Int} {b is : Bool} {m : Int} {nd : MNode} (hR : Right cs) (h : Going cs roots out (todo ++ [m]) b) (h0 : m ≠ 0) (hm : m ∉ out) (hit : HitIs cs m nd is) :
    Going cs roots (insI out m) (todo ++ nd.kids.map (·.2)) (b && is) := by
  have hr : Reached cs roots m := by
    rcases h.todos m (by simp) with e | e
    · exact absurd e h0
    · exact e
  refine ⟨insI_rise out m h.rise hm, fun x hx => ?_, fun x hx => ?_, fun r hr' hr0 => ?_, fun y k hy hk => ?_, ?_⟩
  · rcases (insI_mem out m x).1 hx with e | e
    · rw [e]; exact hr
    · exact h.reach x e
  · rcases List.mem_append.1 hx with h1 | h1
    · exact h.todos x (List.mem_append_left _ h1)
    · obtain ⟨⟨a, k⟩, hp, rfl⟩ := List.mem_map.1 h1
      right
      cases is with
      | true => exact hr.kid ⟨nd, a, hit, hp⟩
      | false =>
        have hn : nd = node0 := by
          rcases hit with ⟨_, ⟨h, _⟩ | ⟨_, h, _⟩⟩ | ⟨_, h, _⟩
          · cases h
          · exact h
          · exact h
        rw [hn] at hp
        simp [node0] at hp
  · rcases h.root r hr' hr0 with h1 | h1
    · exact .inl ((insI_mem out m r).2 (.inr h1))
    · rcases List.mem_append.1 h1 with h2 | h2
      · exact .inr (List.mem_append_left _ h2)
      · simp at h2
        exact .inl ((insI_mem out m r).2 (.inl h2))
  · rcases (insI_mem out m y).1 hy with e | e
    · subst e
      obtain ⟨nd', a, h1, h2⟩ := hk
      obtain ⟨rfl, rfl⟩ := hit.one h1
      exact .inr (List.mem_append_right _ (List.mem_map.2 ⟨(a, k), h2, rfl⟩))
    · rcases h.kid y k e hk with h1 | h1
      · exact .inl ((insI_mem out m k).2 (.inr h1))
      · rcases List.mem_append.1 h1 with h2 | h2
        · exact .inr (List.mem_append_left _ h2)
        · simp at h2
          exact .inl ((insI_mem out m k).2 (.inl h2))
  · have hf := hit_found hR hit
    constructor
    · intro hb x hx
      have hb : b = true ∧ is = true := by simpa using hb
      rcases (insI_mem out m x).1 hx with e | e
      · rw [e]; exact hf.1 hb.2
      · exact h.whole.1 hb.1 x e
    · intro hx
      have h1 : b = true := h.whole.2 fun x hxo => hx x ((insI_mem out m x).2 (.inr hxo))
      have h2 : is = true := hf.2 (hx m ((insI_mem out m m).2 (.inl rfl)))
      simp [h1, h2]
theorem Going.done {cs : List (Int × List Int)} {roots out : List Int} {b : Bool} (h : Going cs roots out [] b) (x : Int) : x ∈ out ↔ Reached cs roots x := by
  refine ⟨h.reach x, fun hx => hx (· ∈ out) (fun r hr h0 => ?_) (fun y k hy hk => ?_)⟩
  · rcases h.root r hr h0 with h1 | h1
    · exact h1
    · simp at h1
  · rcases h.kid y k hy hk with h1 | h1
    · exact h1
    · simp at h1
theorem Going.len {cs : List (Int × List Int)} {roots out todo : List Int} {b : Bool} (h : Going cs roots out todo b) : out.length ≤ roots.length + 16 * cs.length := by
  obtain ⟨u, hu, hx⟩ := reach_bound cs roots
  exact Nat.le_trans (riseI_len out u h.rise fun x hx' => hx x (h.reach x hx')) hu
theorem hit_kids {cs : List (Int × List Int)} {m : Int} {nd : MNode} {b : Bool} (h : HitIs cs m nd b) : nd.kids.length ≤ 16 := by
  cases b with
  | true => exact kidsOk_len nd.kids (nodeOk_parts nd (hit_ok h)).2.1
  | false =>
    have hn : nd = node0 := by
      rcases h with ⟨_, ⟨h, _⟩ | ⟨_, h, _⟩⟩ | ⟨_, h, _⟩
      · cases h
      · exact h
      · exact h
    rw [hn]; simp [node0]

theorem OwnI.short {w : World} {base g q c : Nat} {xs : List Int} (h : OwnI w base (some ⟨g, 0, none⟩) (q + 1) c xs) : OwnI w base (some ⟨g, 0, none⟩) q c (xs.take q) := by
  have hl := h.len
  refine ⟨by simp; omega, ?_⟩
  rcases h.2 with ⟨e, _⟩ | ⟨g', cap, cur, e, hb, hg, hn, hc, hs, ht⟩
  · cases e
  · refine .inr ⟨g', cap, cur, ?_, hb, hg, by omega, hc, hs, ?_⟩
    · cases e; rfl
    · rw [Nat.mul_one] at ht ⊢
      rw [List.map_take, ← ht, List.take_take]
      congr 1; omega
theorem OwnI.last {w : World} {base g q c : Nat} {xs : List Int} (h : OwnI w base (some ⟨g, 0, none⟩) (q + 1) c xs) : xs = xs.take q ++ [xs[q]?.getD 0] := by
  have hl := h.len
  conv => lhs; rw [← List.take_append_drop q xs]
  rw [List.drop_eq_getElem_cons (by omega), List.getElem?_eq_getElem (by omega), List.drop_eq_nil_of_le (by omega)]
  rfl
theorem OwnI.cap {w : World} {base g n c : Nat} {xs : List Int} (h : OwnI w base (some ⟨g, 0, none⟩) n c xs) : n ≤ c := by
  rcases h.2 with ⟨e, _⟩ | ⟨g', cap, cur, e, _, _, hn, _⟩
  · cases e
  · cases e; exact hn
end Go.Proofs.Ytmgjpmlemkkalaa

-- PathS: What the model's KeyOk, PathOf, KeyOf and CommonOf answer: for every text, every list.
namespace Go.Proofs.Ytmgjpmlemkkalaa
set_option maxRecDepth 20000
open Go.RowKit

theorem l2Worth_any (c : Int) (w : World) (hc : 0 ≤ c ∧ c ≤ 255) :
    Calls Try.prog 75 #[.int .u8 c] w fun e w' => e = .returned (.int .i64 (wd c)) ∧ w = w' := by
  obtain ⟨hc0, hc1⟩ := hc
  by_cases h1 : 48 ≤ c ∧ c ≤ 57
  · obtain ⟨h1a, h1b⟩ := h1
    have e : wd c = c - 48 := if_pos ⟨h1a, h1b⟩
    rw [e]
    clear e
    go_enter Try.func75, Try.ntmps75
    go_wp2
    go_ret
    exact ⟨rfl, rfl⟩
  · by_cases h2 : 97 ≤ c ∧ c ≤ 102
    · have e : wd c = c - 97 + 10 := by unfold wd; rw [if_neg h1, if_pos h2]; omega
      rw [e]
      obtain ⟨h2a, h2b⟩ := h2
      clear e h1
      go_enter Try.func75, Try.ntmps75
      go_wp2
      go_ret
      exact ⟨rfl, rfl⟩
    · have e : wd c = -1 := by unfold wd; rw [if_neg h1, if_neg h2]
      rw [e]
      have h1 : c < 48 ∨ 57 < c := by omega
      have h2 : c < 97 ∨ 102 < c := by omega
      clear e
      go_enter Try.func75, Try.ntmps75
      rcases h1 with h1 | h1
      · go_wp2
        go_ret
        exact ⟨rfl, rfl⟩
      · rcases h2 with h2 | h2
        · go_wp2
          go_ret
          exact ⟨rfl, rfl⟩
        · go_wp2
          go_ret
          exact ⟨rfl, rfl⟩
theorem specKeyOk_any (s : ByteArray) (w : World) (hs : s.size ≤ 1048576) :
    Calls Try.prog 71 #[.string s] w fun e w' => e = .returned (.bool (isKey (sb s))) ∧ w = w' := by
  have hlen := sb_len s
  go_enter Try.func71, Try.ntmps71
  go_wp2
  go_loop [3] (fun i => ∃ k : Nat, k ≤ s.size ∧ i = .int .i64 k ∧ (∀ z ∈ (sb s).take k, 0 ≤ wd z)) (fun i => s.size - (intOf i).toNat)
  case atStart => exact ⟨0, Nat.zero_le _, rfl, by simp⟩
  case round =>
    obtain ⟨k, hk, rfl, hgood⟩ := hrel
    by_cases hlt : k < s.size
    · have hat := sb_at s k hlt
      have hr := (s[k]'hlt).toNat_lt
      by_cases hw : 0 ≤ wd ((s[k]'hlt).toNat)
      · go_wp2_with fail
        refine (l2Worth_any _ _ (by omega)).mono ?_
        rintro e w' ⟨rfl, rfl⟩
        go_wp2
        go_round
        case rel => exact ⟨k + 1, by omega, by go_num, good_step (sb s) k (by omega) hgood (by rw [hat]; exact hw)⟩
        case measure => simp [intOf]; omega
      · go_wp2_with fail
        refine (l2Worth_any _ _ (by omega)).mono ?_
        rintro e w' ⟨rfl, rfl⟩
        go_wp2
        go_ret
        exact ⟨by rw [isKey_bad (sb s) k (by omega) (by rw [hat]; omega)]; rfl, rfl⟩
    · have e : (sb s).take k = sb s := List.take_of_length_le (by omega)
      rw [e] at hgood
      have HG := Lib.hid (isKey_good (sb s) hgood)
      by_cases h1 : 1 ≤ s.size
      · go_wp2
        go_ret
        exact ⟨by rw [HG.out]; exact ret_b (by rw [hlen]; first | exact decide_eq_decide.2 (by omega) | exact (decide_eq_false (by omega)).symm), rfl⟩
      · go_wp2
        go_ret
        exact ⟨by rw [HG.out]; exact ret_b (by rw [hlen]; first | exact decide_eq_decide.2 (by omega) | exact (decide_eq_false (by omega)).symm), rfl⟩

theorem specPathOf_any (s : ByteArray) (w : World) (hs : s.size ≤ 1048576) :
    Calls Try.prog 47 #[.string s] w (GaveI w (pathOf (sb s))) := by
  have hlen := sb_len s
  by_cases hkey : isKey (sb s) = true
  · have HK := Lib.hid hkey
    have h8 := ((isKey_iff _).1 hkey).1
    have hgood := ((isKey_iff _).1 hkey).2
    have hr : pathOf (sb s) = (sb s).map wd := pathOf_good (sb s) (by omega) hgood
    clear hkey
    obtain ⟨i0, hi, hz0, hz1, hz2⟩ := info_parts Try.infoI
    have HI := Lib.hid hi
    have HZ0 := Lib.hid hz0
    have HZ1 := Lib.hid hz1
    have HZ2 := Lib.hid hz2
    have HR := Lib.hid hr
    clear hi hz0 hz1 hz2 hr
    go_enter Try.func47, Try.ntmps47
    go_wp2
    go_loopw [3, 4] (fun v i wr => ∃ k : Nat, k ≤ s.size ∧ i = .int .i64 k ∧ wr.ownsRow w.heap.size 2 1 v k ((((sb s).take k).map wd).map (Value.int .i64)) ∧ Below w.heap.size w wr) (fun _ i _ => s.size - (intOf i).toNat)
    case atStart => exact ⟨0, Nat.zero_le _, rfl, OwnI.empty w _ (Nat.le_refl _), (Below.refl _ _).alloc (Nat.le_refl _) _⟩
    case round =>
      obtain ⟨k, hk, rfl, hown, hbel⟩ := hrel
      have hsz := hbel.size
      by_cases hlt : k < s.size
      · have hat := sb_at s k hlt
        have hrg := (s[k]'hlt).toNat_lt
        go_wp2_with fail
        refine (specKeyOk_any s _ hs).mono ?_
        rintro e w' ⟨rfl, rfl⟩
        rw [HK.out]
        go_wp2_with fail
        refine (l2Worth_any _ _ (by omega)).mono ?_
        rintro e w' ⟨rfl, rfl⟩
        go_wp2_with (at_builtin; refine wpList_append_own _ rfl _ _ 23 rfl w.heap.size 2 i0 (.int .i64 0) 1 8 Try.underlying23 HI.out HZ0.out HZ1.out HZ2.out rfl (by decide) _ _ _ rfl (hown.alloc _) ⟨wr.heap.size, 0, none⟩ 1 1 [.int .i64 (wd ((s[k]'hlt).toNat))] rfl rfl ?c1 ?c2 ?c3 ?c4 ?c5 ?_)
        case c1 =>
          intro j u hj
          match j, hj with
          | 0, hj => simp at hj; subst hj; simp [Addr.add]
        case c2 => intro u hu; simp at hu; subst hu; rfl
        case c3 => unfold maxLen; omega
        case c4 => omega
        case c5 => simp; omega
        intro v' w1 hown' hgrow _
        have hown2 : w1.ownsRow w.heap.size 2 1 v' (k + 1) ((((sb s).take (k + 1)).map wd).map (Value.int .i64)) := by
          rw [map_take_step wd (sb s) k (by omega), hat]
          simpa using hown'
        have hb1 : Below w.heap.size w w1 := (hbel.alloc hsz _).grown hgrow (by simp; omega) (fun g hg => (hown.lt g hg).1)
        clear hgrow hown hbel hown'
        go_wp2
        go_roundw
        case rel => exact ⟨k + 1, by omega, by go_num, hown2, hb1⟩
        case measure => simp [intOf]; omega
      · obtain rfl : k = s.size := by omega
        obtain ⟨A, c, rfl⟩ := own_slice hown
        have e : (sb s).take s.size = sb s := List.take_of_length_le (by omega)
        rw [e] at hown
        go_wp2
        go_ret
        exact ⟨A, s.size, c, rfl, by rw [HR.out]; exact hown, hbel⟩
  · have hkey : isKey (sb s) = false := by simpa using hkey
    have hr : pathOf (sb s) = [] := by unfold pathOf; rw [if_neg (by rw [hkey]; decide)]
    have HK := Lib.hid hkey
    have HR := Lib.hid hr
    clear hr hkey
    go_enter Try.func47, Try.ntmps47
    go_wp2
    go_loopw [3, 4] (fun v i wr => i = .int .i64 0 ∧ wr.ownsRow w.heap.size 2 1 v 0 [] ∧ Below w.heap.size w wr) (fun _ _ _ => 0)
    case atStart => exact ⟨rfl, OwnI.empty w _ (Nat.le_refl _), (Below.refl _ _).alloc (Nat.le_refl _) _⟩
    case round =>
      obtain ⟨rfl, hown, hbel⟩ := hrel
      obtain ⟨A, c, rfl⟩ := own_slice hown
      by_cases hlt : 0 < s.size
      · go_wp2_with fail
        refine (specKeyOk_any s _ hs).mono ?_
        rintro e w' ⟨rfl, rfl⟩
        rw [HK.out]
        go_wp2
        go_ret
        exact ⟨A, 0, c, rfl, by rw [HR.out]; exact hown, hbel⟩
      · go_wp2
        go_ret
        exact ⟨A, 0, c, rfl, by rw [HR.out]; exact hown, hbel⟩

theorem specCommon_any (A A' : Option Addr) (n n' c c' : Nat) (xs ys : List Int) (B B' : Nat) (w : World) (hn : n ≤ 9223372036854775807) (_hn' : n' ≤ 9223372036854775807) (hx : Ints w B A n xs) (hy : Ints w B' A' n' ys) :
    Calls Try.prog 73 #[.slice A n c, .slice A' n' c'] w fun e w' => e = .returned (.int .i64 (com xs ys)) ∧ ∃ m, w' = w.drewN m := by
  have HX := Lib.hid hx
  have HY := Lib.hid hy
  clear hx hy
  go_enter Try.func73, Try.ntmps73
  go_wp2
  go_loopw [5] (fun i wr => ∃ k q : Nat, k ≤ n ∧ k ≤ n' ∧ i = .int .i64 k ∧ (∀ j, j < k → xs[j]?.getD 0 = ys[j]?.getD 0) ∧ wr = w.drewN q) (fun i _ => n - (intOf i).toNat)
  case atStart => exact ⟨0, 0, Nat.zero_le _, Nat.zero_le _, rfl, fun j hj => absurd hj (by omega), rfl⟩
  case round =>
    obtain ⟨k, q, hk, hk', rfl, hal, rfl⟩ := hrel
    by_cases hlt : k < n
    · by_cases hlt' : k < n'
      · obtain ⟨b, off, rfl, hbB, hc⟩ := HX.out.at_ (k := k) (by omega)
        obtain ⟨b', off', rfl, hbB', hc'⟩ := HY.out.at_ (k := k) (by omega)
        by_cases hq : xs[k]?.getD 0 = ys[k]?.getD 0
        · go_wp2
          go_quiet (fail)
          go_wp2
          go_roundw
          case rel => exact ⟨k + 1, _, by omega, by omega, by go_num, fun j hj => by rcases Nat.lt_or_ge j k with h | h; exact hal j h; rw [show j = k by omega]; exact hq, rfl⟩
          case measure => simp [intOf]; omega
        · go_wp2
          go_quiet (fail)
          go_wp2
          go_ret
          exact ⟨ret_i64 (by rw [com_is xs ys k (by have := HX.out.1; omega) (by have := HY.out.1; omega) hal (.inr (.inr hq))]), _, World.drewN_drewN _ _ _⟩
      · go_wp2
        go_quiet (fail)
        go_wp2
        go_ret
        exact ⟨ret_i64 (by rw [com_is xs ys k (by have := HX.out.1; omega) (by have := HY.out.1; omega) hal (.inr (.inl (by have := HY.out.1; omega)))]), _, World.drewN_drewN _ _ _⟩
    · go_wp2
      go_quiet (fail)
      go_wp2
      go_ret
      exact ⟨ret_i64 (by rw [com_is xs ys k (by have := HX.out.1; omega) (by have := HY.out.1; omega) hal (.inl (by have := HX.out.1; omega))]), _, World.drewN_drewN _ _ _⟩

end Go.Proofs.Ytmgjpmlemkkalaa

-- FindS: The model's way down a path, and its Found.
namespace Go.Proofs.Ytmgjpmlemkkalaa
set_option maxRecDepth 20000
set_option linter.unusedVariables false
set_option linter.unusedSimpArgs false
open Go.RowKit

theorem l5Kid_any (v : Value) (nd : MNode) (a : Int) (B : Nat) (w : World) (hB : B ≤ w.heap.size) (hv : NodeIn w B v nd) :
    Calls Try.prog 74 #[v, .int .i64 a] w fun e w' => e = .returned (.int .i64 (kidAt nd.kids a)) ∧ Below w.heap.size w w' := by
  obtain ⟨Ap, np, cp, Ak, nk, ck, rfl, hnp, hnk, hsz, hp, hk⟩ := hv
  have hkl := hk.1
  have HK := Lib.hid (hk.more hB)
  clear hp hk
  obtain ⟨w1, hw1⟩ : ∃ w1, w.alloc (.cells #[.int .i64 nd.kind, .slice Ap np cp, .slice Ak nk ck, .string nd.val] 35) = w1 := ⟨_, rfl⟩
  have x1 : Box w1 w.heap.size _ _ := hw1 ▸ heap_alloc_new _ _
  have b1 : Below w.heap.size w w1 := hw1 ▸ (Below.refl _ _).alloc (Nat.le_refl _) _
  have B1 := Lib.hid b1
  have HK := Lib.hid (HK.out.below b1)
  have q2 := x1.cell 2
  simp at q2
  obtain ⟨R, hR⟩ : ∃ R, kidAt nd.kids a = R := ⟨_, rfl⟩
  rw [hR]
  have HR := Lib.hid hR
  clear x1 b1 hR
  go_enter Try.func74, Try.ntmps74
  go_wp2
  go_loopw [5] (fun i wr => ∃ k : Nat, k ≤ nk ∧ i = .int .i64 k ∧ (∀ j, j < k → (nd.kids[j]?.getD (0, 0)).1 ≠ a) ∧ ∃ q, wr = w1.drewN q) (fun i _ => nk - (intOf i).toNat)
  case atStart => exact ⟨0, Nat.zero_le _, rfl, fun j hj => by omega, 0, rfl⟩
  case round =>
    obtain ⟨k, hkn, rfl, hno, q, hwr⟩ := hrel
    have hK := HK.out.drewN q
    have hB1 := below_drewN B1.out q
    have hq2 : (w1.drewN q).cell? ⟨w.heap.size, 2, none⟩ = some (.slice Ak nk ck) := q2
    rw [← hwr] at hK hB1 hq2
    have BR := Lib.hid hB1
    have KR := Lib.hid hK
    have NO := Lib.hid hno
    have HWR := Lib.hid hwr
    clear hB1 hK hno hwr q2
    by_cases hlt : k < nk
    · obtain ⟨b, off, rfl, hbB, h0, h1⟩ := KR.out.at_ hlt
      obtain ⟨x, hx⟩ : ∃ x, nd.kids[k]?.getD (0, 0) = x := ⟨_, rfl⟩
      rw [hx] at h0 h1
      by_cases he : x.1 = a
      · have hr : x.2 = R := by rw [← HR.out, kidAt_at nd.kids a k (by omega) (by rw [hx]; exact he) NO.out, hx]
        have hb0 : (x.1 == a) = true := by simpa using he
        have HE := Lib.hid he
        have hr := Lib.hid hr
        clear he
        go_wp2
        go_ret
        exact ⟨rfl, BR.out⟩
      · have hb0 : (x.1 == a) = false := by simpa using he
        go_wp2
        go_roundw
        case rel =>
          refine ⟨k + 1, by omega, by go_num, fun j hj => ?_, q, HWR.out⟩
          rcases Nat.lt_or_ge j k with h | h
          · exact NO.out j h
          · rw [show j = k by omega, hx]; exact he
        case measure => simp [intOf]; omega
    · have hr : 0 = R := by rw [← HR.out, kidAt_none nd.kids a (fun j hj => NO.out j (by omega))]
      subst hr
      clear HR
      go_wp2
      go_ret
      exact ⟨rfl, BR.out⟩

theorem Ints.drops {w : World} {B n b off : Nat} {zs : List Int} (h : Ints w B (some ⟨b, off, none⟩) n zs) (k : Nat) (hk : k ≤ n) (off' : Nat) (ho : k < n → off' = off + k) : Ints w B (some ⟨b, off', none⟩) (n - k) (zs.drop k) := by
  have hl := h.1
  refine ⟨by simp; omega, fun hp => ?_⟩
  obtain ⟨b', o, e, hb, hc⟩ := h.2 (by omega)
  cases e
  have e1 := ho (by omega)
  subst e1
  refine ⟨b, off + k, rfl, hb, fun i hi => ?_⟩
  have h1 := hc (k + i) (by omega)
  rw [Nat.add_assoc, h1]
  simp [List.getElem?_drop]
/-- what is still to be shown of a way down, where it has come to r with the rest ps behind the names ways. -/
def DownTo (cs : List (Int × List Int)) (root : Int) (path : List Int) (r : Int) (ps ways : List Int) : Prop :=
  ∀ v k wy f, DownIs cs f r ps v k wy → ∃ f', DownIs cs f' root path v k (ways ++ wy)
theorem DownTo.start (cs : List (Int × List Int)) (root : Int) (path : List Int) : DownTo cs root path root path [] := fun v k wy f h => ⟨f, by simpa using h⟩
theorem DownTo.step {cs : List (Int × List Int)} {root r r' : Int} {path ps ps' ways : List Int} {nd : MNode} (h : DownTo cs root path r ps ways) (h0 : r ≠ 0) (hit : HitIs cs r nd true) (hs : stepAt nd ps = .inr (r', ps')) : DownTo cs root path r' ps' (ways ++ [r]) := by
  intro v k wy f hd
  obtain ⟨f', h'⟩ := h v k (r :: wy) (f + 1) (.inr ⟨h0, nd, true, hit, .inr ⟨rfl, wy, rfl, .inr ⟨(r', ps'), hs, hd⟩⟩⟩)
  exact ⟨f', by simpa using h'⟩
theorem DownTo.stop {cs : List (Int × List Int)} {root r : Int} {path ps ways : List Int} {nd : MNode} {v : ByteArray} {k : Int} (h : DownTo cs root path r ps ways) (h0 : r ≠ 0) (hit : HitIs cs r nd true) (hs : stepAt nd ps = .inl (v, k)) : ∃ f, DownIs cs f root path v k (ways ++ [r]) :=
  h v k [r] 1 (.inr ⟨h0, nd, true, hit, .inr ⟨rfl, [], rfl, .inl ⟨(v, k), hs, rfl, rfl, rfl⟩⟩⟩)
theorem DownTo.lost {cs : List (Int × List Int)} {root r : Int} {path ps ways : List Int} {nd : MNode} (h : DownTo cs root path r ps ways) (h0 : r ≠ 0) (hit : HitIs cs r nd false) : ∃ f, DownIs cs f root path noStr 2 ways := by
  obtain ⟨f, hf⟩ := h noStr 2 [] 1 (.inr ⟨h0, nd, false, hit, .inl ⟨rfl, rfl, rfl, rfl⟩⟩)
  exact ⟨f, by simpa using hf⟩
theorem DownTo.none {cs : List (Int × List Int)} {root : Int} {path ps ways : List Int} (h : DownTo cs root path 0 ps ways) : ∃ f, DownIs cs f root path noStr 1 ways := by
  obtain ⟨f, hf⟩ := h noStr 1 [] 1 (.inl ⟨rfl, rfl, rfl, rfl⟩)
  exact ⟨f, by simpa using hf⟩

set_option maxHeartbeats 1600000 in
theorem l5Down_any (A : Option Addr) (n c : Nat) (cs : List (Int × List Int)) (root : Int) (pb po np cp : Nat) (path : List Int) (B : Nat) (w : World) (hn : n ≤ 1048576) (hm : ∀ i, (cel cs i).2.length ≤ 1048576) (hnp : np ≤ 1048576) (hcp : np ≤ cp) (hB : B ≤ w.heap.size) (hb : Cells w B A n cs) (hp : Ints w B (some ⟨pb, po, none⟩) np path) :
    Calls Try.prog 46 #[.slice A n c, .int .i64 root, .slice (some ⟨pb, po, none⟩) np cp] w fun e w' => ∃ v k g nw cw way, e = .returned (.tuple #[.string v, .int .i64 k, .slice (some ⟨g, 0, none⟩) nw cw]) ∧ (∃ f, DownIs cs f root path v k way) ∧ OwnI w' w.heap.size (some ⟨g, 0, none⟩) nw cw way ∧ Below w.heap.size w w' := by
  have HB := Lib.hid (hb.more hB)
  have HP := Lib.hid (hp.more hB)
  have hlp := hp.1
  clear hb hp
  obtain ⟨i0, hi, hz0, hz1, hz2⟩ := info_parts Try.infoI
  have HI := Lib.hid hi
  have HZ0 := Lib.hid hz0
  have HZ1 := Lib.hid hz1
  have HZ2 := Lib.hid hz2
  clear hi hz0 hz1 hz2
  go_enter Try.func46, Try.ntmps46
  go_wp2
  go_loopw [1, 2, 9] (fun r p y wr => ∃ (ri : Int) (qb qo nq cq gw nw cw : Nat) (ps ways : List Int), r = .int .i64 ri ∧ p = .slice (some ⟨qb, qo, none⟩) nq cq ∧ y = .slice (some ⟨gw, 0, none⟩) nw cw ∧ nq ≤ cq ∧ nw + nq ≤ np ∧
    Ints wr w.heap.size (some ⟨qb, qo, none⟩) nq ps ∧ OwnI wr w.heap.size (some ⟨gw, 0, none⟩) nw cw ways ∧ DownTo cs root path ri ps ways ∧ Below w.heap.size w wr) (fun _ p _ _ => lenOf p)
  case atStart => exact ⟨root, pb, po, np, cp, w.heap.size, 0, 0, path, [], rfl, rfl, rfl, hcp, by omega, HP.out.alloc (Nat.le_refl _) _, OwnI.empty w _ (Nat.le_refl _), DownTo.start cs root path, (Below.refl _ _).alloc (Nat.le_refl _) _⟩
  case round =>
    obtain ⟨ri, qb, qo, nq, cq, gw, nw, cw, ps, ways, rfl, rfl, rfl, hcq, hbd, hps, hwy, hto, hbel⟩ := hrel
    have hs0 : w.heap.size ≤ wr.heap.size := hbel.size
    have hlq := hps.1
    have PR := Lib.hid hps
    have WR := Lib.hid hwy
    have TO := Lib.hid hto
    have BR := Lib.hid hbel
    have hgwr : gw < wr.heap.size := (World.ownsRow.lt hwy gw (by simp [Value.ownBlock])).2
    clear hps hwy hto hbel
    by_cases h0 : ri = 0
    · have hb0 : (ri == 0) = true := by simp [h0]
      obtain rfl := h0
      go_wp2
      go_ret3
      exact ⟨_, _, _, _, _, ways, rfl, TO.out.none, WR.out, BR.out⟩
    · have hb0 : (ri == 0) = false := by simpa using h0
      have H0 := Lib.hid h0
      clear h0
      go_wp2_with fail
      refine (l4Node_any A n c cs ri w.heap.size wr hn hm hs0 (HB.out.below BR.out)).mono ?_
      rintro e w1 ⟨v, nd, is, rfl, own, hit, b1⟩
      have B1 := Lib.hid (BR.out.trans (b1.mono hs0))
      have P1 := Lib.hid (PR.out.below (b1.mono hs0))
      have W1 := Lib.hid (WR.out.below b1)
      have hs1 : wr.heap.size ≤ w1.heap.size := b1.size
      have HIT := Lib.hid hit
      have OWN := Lib.hid own
      obtain ⟨Ap, mp, dp, Ak, mk, dk, rfl, hmp, hmk, hsz, hpp, hkk, _⟩ := own
      have hpl := hpp.len
      have hkl := hkk.len
      have PP := Lib.hid hpp
      have KK := Lib.hid hkk
      have hppl := Lib.hid hpp
      have hkkl := Lib.hid hkk
      clear b1 hit hpp hkk PR WR BR
      obtain ⟨w5, hw5⟩ : ∃ w5, w1.alloc (.cells #[.int .i64 0, .slice none 0 0, .slice none 0 0, .string { data := #[] }] 35) = w5 := ⟨_, rfl⟩
      have x5 : Box w5 w1.heap.size _ _ := hw5 ▸ heap_alloc_new _ _
      have b5 : Below w1.heap.size w1 w5 := hw5 ▸ (Below.refl _ _).alloc (Nat.le_refl _) _
      have X5 := Lib.hid x5
      obtain ⟨w6, hw6⟩ : ∃ w6, (((w5.setCell ⟨w1.heap.size, 0, none⟩ (.int .i64 nd.kind)).setCell ⟨w1.heap.size, 1, none⟩ (.slice Ap mp dp)).setCell ⟨w1.heap.size, 2, none⟩ (.slice Ak mk dk)).setCell ⟨w1.heap.size, 3, none⟩ (.string nd.val) = w6 := ⟨_, rfl⟩
      have h4' := set4 x5 (.int .i64 nd.kind) (.slice Ap mp dp) (.slice Ak mk dk) (.string nd.val)
      have t6 : Touch (fun b => b = w1.heap.size) w5 w6 := hw6 ▸ h4'.2
      have x6 : Box w6 w1.heap.size 35 #[.int .i64 nd.kind, .slice Ap mp dp, .slice Ak mk dk, .string nd.val] := hw6 ▸ h4'.1
      have b6 : Below w1.heap.size w1 w6 := b5.trans (t6.below b5.size (fun b hb e => by omega))
      have X6 := Lib.hid x6
      have P6 := Lib.hid (P1.out.below (b6.mono (by omega)))
      have W6 := Lib.hid (W1.out.below b6)
      have PP := Lib.hid (PP.out.below b6)
      have KK := Lib.hid (KK.out.below b6)
      have OWN := Lib.hid (OWN.out.below b6)
      have B6 := Lib.hid (B1.out.trans (b6.mono (by omega)))
      have hs6 : w1.heap.size < w6.heap.size := x6.lt
      have q20 := X5.out.cell 0
      have q21 := X5.out.cell 1
      have q22 := X5.out.cell 2
      have q23 := X5.out.cell 3
      have f2 := X5.out.free
      simp at q20 q21 q22 q23
      clear x5 b5 h4' t6 x6 b6 P1 W1 B1
      cases is with
      | false =>
        go_wp2
        go_ret3
        exact ⟨_, _, _, _, _, ways, rfl, TO.out.lost H0.out HIT.out, W6.out, B6.out⟩
      | true =>
        have h1m : w.heap.size ≤ w6.heap.size := B6.out.size
        go_wp2_with (at_builtin; refine wpList_append_lies _ rfl _ _ 23 rfl w.heap.size 2 i0 (.int .i64 0) 1 8 Try.underlying23 HI.out HZ0.out HZ1.out HZ2.out rfl (by decide) _ _ _ rfl (own_touch (S := fun _ => False) W6.out (Touch.of_below ((Below.refl _ _).alloc (Nat.le_refl _) _)) (fun _ _ h => h)) ⟨w6.heap.size, 0, none⟩ 1 1 [.int .i64 ri] rfl ?Q0 ?Q1 ?Q2 (by omega) ?Q3 ?Q4 ?Q5 _ rfl ?_)
        case Q0 => rfl
        case Q1 =>
          intro j u hj
          match j, hj with
          | 0, hj => simp at hj; subst hj; simp [Addr.add]
        case Q2 => intro u hu; simp at hu; subst hu; rfl
        case Q3 => unfold maxLen; omega
        case Q4 => omega
        case Q5 => first | omega | (simp; omega)
        intro g7 c7 w7 hown7 hgrow7 _ _
        have hgw := World.ownsRow.lt W6.out gw (by simp [Value.ownBlock])
        have hgw1 : gw < wr.heap.size := hgwr
        have t7 : Touch (fun b => b = gw) w6 w7 := (Touch.of_below ((Below.refl w6.heap.size w6).alloc (Nat.le_refl _) _)).trans ((Touch.of_grown hgrow7).mono (fun b e => by simp [Value.ownBlock] at e; omega))
        have o7 : OwnI w7 w.heap.size (some ⟨g7, 0, none⟩) (nw + 1) c7 (ways ++ [ri]) := by
          unfold OwnI
          rw [List.map_append]
          exact hown7
        have x7 : Box w7 w1.heap.size 35 #[.int .i64 nd.kind, .slice Ap mp dp, .slice Ak mk dk, .string nd.val] := (t7.block _ X6.out.lt (fun e => by omega)).trans X6.out
        have bw7 := t7.below h1m (fun k hk e => by omega)
        have PP7 := PP.out.touch t7 (fun g hg e => by have := (World.ownsRow.lt hppl.out g hg).1; omega)
        have KK7 := KK.out.touch t7 (fun g hg e => by have := (World.ownsRow.lt hkkl.out g hg).1; omega)
        have hs7 : w6.heap.size ≤ w7.heap.size := t7.size
        have W7 := Lib.hid o7
        have X7 := Lib.hid x7
        have P7 := Lib.hid (P6.out.below bw7)
        have PP7 := Lib.hid PP7
        have KK7 := Lib.hid KK7
        have B7 := Lib.hid (B6.out.trans bw7)
        have q1 := x7.cell 1
        simp at q1
        clear t7 o7 x7 bw7 hown7 hgrow7 q20 q21 q22 q23 f2 W6 X6 X5 P6 PP KK B6
        go_wp2_with fail
        refine (specCommon_any _ _ _ _ _ _ nd.path ps _ _ w7 (by omega) (by omega) PP7.out.ints P7.out).mono ?_
        rintro e w' ⟨rfl, q, rfl⟩
        have W8 := Lib.hid (W7.out.drewN q)
        have X8 := Lib.hid (X7.out.below (below_drewN (Below.refl _ _) q) X7.out.lt)
        have P8 := Lib.hid (P7.out.drewN q)
        have PP8 := Lib.hid (PP7.out.drewN q)
        have KK8 := Lib.hid (KK7.out.drewN q)
        have B8 := Lib.hid (below_drewN B7.out q)
        have hs8 : w6.heap.size ≤ (w7.drewN q).heap.size := hs7
        generalize w7.drewN q = w8 at W8 X8 P8 PP8 KK8 B8 hs8 ⊢
        obtain ⟨hle1, hle2⟩ := com_le nd.path ps
        have hle2' : com nd.path ps ≤ nq := by omega
        obtain ⟨cm, hcm⟩ : ∃ cm, com nd.path ps = cm := ⟨_, rfl⟩
        rw [hcm] at hle1 hle2 hle2' ⊢
        have CM := Lib.hid hcm
        clear hcm q1 W7 X7 P7 PP7 KK7 B7
        have q0 := X8.out.cell 0
        have q1 := X8.out.cell 1
        have q2 := X8.out.cell 2
        have q3 := X8.out.cell 3
        simp at q0 q1 q2 q3
        by_cases hA : cm < mp
        · have hd1 : decide ((cm : Int) < (mp : Int)) = true := decide_eq_true (by omega)
          have hst : stepAt nd ps = .inl (noStr, 1) := by unfold stepAt; rw [CM.out, if_pos (.inl (by omega))]
          have HST := Lib.hid hst
          clear hst
          go_wp2
          go_ret3
          exact ⟨_, _, _, _, _, ways ++ [ri], rfl, TO.out.stop H0.out HIT.out HST.out, W8.out, B8.out⟩
        · have hd1 : decide ((cm : Int) < (mp : Int)) = false := decide_eq_false (by omega)
          by_cases hB1 : nd.kind = 1 ∧ cm < nq
          · have hk1 : (nd.kind == 1) = true := by simp [hB1.1]
            have hd2 : decide ((cm : Int) < (nq : Int)) = true := decide_eq_true (by omega)
            have hst : stepAt nd ps = .inl (noStr, 1) := by unfold stepAt; rw [CM.out, if_pos (.inr ⟨hB1.1, by omega⟩)]
            have HST := Lib.hid hst
            have hB12 := hB1.2
            clear hst hB1
            go_wp2
            go_ret3
            exact ⟨_, _, _, _, _, ways ++ [ri], rfl, TO.out.stop H0.out HIT.out HST.out, W8.out, B8.out⟩
          · have hgo : ¬ (com nd.path ps < nd.path.length ∨ (nd.kind = 1 ∧ com nd.path ps < ps.length)) := by
              rw [CM.out]
              rintro (h | ⟨h, h2⟩)
              · omega
              · exact hB1 ⟨h, by omega⟩
            have HGO := Lib.hid hgo
            obtain ⟨qo', hof, hofk⟩ : ∃ qo', (if cq = cm then (some ⟨qb, qo, none⟩ : Option Addr) else some ⟨qb, qo + cm, none⟩) = some ⟨qb, qo', none⟩ ∧ (cm < nq → qo' = qo + cm) := by
              by_cases h : cq = cm
              · exact ⟨qo, if_pos h, fun h2 => by omega⟩
              · exact ⟨qo + cm, if_neg h, fun _ => rfl⟩
            have P9 := Lib.hid (Ints.drops P8.out cm hle2' qo' hofk)
            have hld : (ps.drop cm).length = nq - cm := by rw [List.length_drop]; omega
            have hok := hit_ok HIT.out
            have hkok := (nodeOk_parts nd hok).2.2.2
            clear hgo
            by_cases hk1 : nd.kind = 1
            · have hb1 : (nd.kind == 1) = true := by simp [hk1]
              have hst : stepAt nd ps = .inl (nd.val, 0) := by unfold stepAt; rw [if_neg HGO.out, if_pos hk1]
              have hnl : ¬ cm < nq := fun h => hB1 ⟨hk1, h⟩
              have HST := Lib.hid hst
              clear hst hB1 hk1 hkok
              go_wp2
              go_ret3
              exact ⟨_, _, _, _, _, ways ++ [ri], rfl, TO.out.stop H0.out HIT.out HST.out, W8.out, B8.out⟩
            · have hb1 : (nd.kind == 1) = false := by simp [hk1]
              have HK1 := Lib.hid hk1
              clear hB1
              by_cases hk2 : nd.kind = 2
              · have hb2 : (nd.kind == 2) = true := by simp [hk2]
                have hst : stepAt nd ps = .inr ((nd.kids[0]?.getD (0, 0)).2, ps.drop cm) := by unfold stepAt; rw [if_neg HGO.out, if_neg HK1.out, if_pos hk2, CM.out]
                have hpos : 0 < nd.path.length ∧ nd.kids.length = 1 := by
                  unfold kindOk at hkok
                  rw [if_neg HK1.out, if_pos hk2] at hkok
                  simp only [Bool.and_eq_true, decide_eq_true_eq] at hkok
                  exact ⟨hkok.1.1.1, hkok.1.2⟩
                have hmk1 : mk = 1 := by omega
                subst hmk1
                obtain ⟨gk, rfl, _, _⟩ := KK8.out.form (by omega)
                have hk1' := KK8.out.cell1 (k := 0) (by omega)
                simp only [Nat.zero_mul, Nat.zero_add] at hk1'
                have HST := Lib.hid hst
                clear hst hkok hk2 hk1
                generalize (nd.kids[0]?.getD (0, 0)).2 = z at hk1' HST
                go_wp2
                go_roundw
                case rel => exact ⟨z, qb, qo', nq - cm, cq - cm, g7, nw + 1, c7, ps.drop cm, ways ++ [ri], rfl, rfl, rfl, by omega, by omega, P9.out, W8.out, TO.out.step H0.out HIT.out HST.out, B8.out⟩
                case measure => simp [lenOf]; omega
              · have hb2 : (nd.kind == 2) = false := by simp [hk2]
                have HK2 := Lib.hid hk2
                clear hk1 hk2
                by_cases hz : cm < nq
                · have eq' := hofk hz
                  subst eq'
                  clear hofk
                  have hat : (ps.drop cm) = (ps.drop cm)[0]?.getD 0 :: ps.drop (cm + 1) := by
                    have e := List.drop_eq_getElem_cons (show cm < ps.length by omega)
                    rw [List.getElem?_drop, Nat.add_zero, List.getElem?_eq_getElem (by omega)]
                    exact e
                  obtain ⟨b', o', e', hbB, p0⟩ := P9.out.at_ (k := 0) (by omega)
                  cases e'
                  rw [Nat.add_zero] at p0
                  obtain ⟨a, ha⟩ : ∃ a, (ps.drop cm)[0]?.getD 0 = a := ⟨_, rfl⟩
                  rw [ha] at p0 hat
                  have hst : stepAt nd ps = .inr (kidAt nd.kids a, ps.drop (cm + 1)) := by unfold stepAt; rw [if_neg HGO.out, if_neg HK1.out, if_neg HK2.out, CM.out, hat]
                  have HST := Lib.hid hst
                  have hdz : decide (((nq - cm : Nat) : Int) = 0) = false := decide_eq_false (by omega)
                  have hzz : ¬ nq - cm = 0 := by omega
                  have hpz : 0 < nq - cm := by omega
                  have HAT := Lib.hid hat
                  obtain ⟨qo2, hof2, hofk2⟩ : ∃ qo2, (if cq - cm = 1 then (some ⟨qb, qo + cm, none⟩ : Option Addr) else some ⟨qb, qo + cm + 1, none⟩) = some ⟨qb, qo2, none⟩ ∧ (1 < nq - cm → qo2 = qo + cm + 1) := by
                    by_cases h : cq - cm = 1
                    · exact ⟨qo + cm, if_pos h, fun h2 => by omega⟩
                    · exact ⟨qo + cm + 1, if_neg h, fun _ => rfl⟩
                  have P10 := Lib.hid (Ints.drops P9.out 1 (by omega) qo2 hofk2)
                  clear hst hat
                  go_wp2
                  go_still_tail 4, (by kernel_rfl)
                  change wpList _ _ _ _ _ w8.drew
                  have W8 := Lib.hid (W8.out.drewN 1)
                  have P10 := Lib.hid (P10.out.drewN 1)
                  have PP8 := Lib.hid (PP8.out.drewN 1)
                  have KK8 := Lib.hid (KK8.out.drewN 1)
                  have B8 := Lib.hid (below_drewN B8.out 1)
                  have e8 : w8.drewN 1 = w8.drew := rfl
                  rw [e8] at W8 P10 PP8 KK8 B8
                  generalize w8.drew = w9 at W8 P10 PP8 KK8 B8
                  clear p0 q0 q1 q2 q3 e8 X8 P8 P9
                  go_wp2_with fail
                  refine (l5Kid_any _ nd a w9.heap.size w9 (Nat.le_refl _) ⟨Ap, mp, dp, Ak, mk, dk, rfl, hmp, hmk, hsz, PP8.out.ints, KK8.out.kids⟩).mono ?_
                  rintro e wA ⟨rfl, bA⟩
                  have WA := Lib.hid (W8.out.below bA)
                  have PA := Lib.hid (P10.out.below (bA.mono B8.out.size))
                  have BA := Lib.hid (B8.out.trans (bA.mono B8.out.size))
                  clear bA W8 P10 B8
                  go_wp2
                  go_roundw
                  case rel => exact ⟨kidAt nd.kids a, qb, qo2, nq - cm - 1, cq - cm - 1, g7, nw + 1, c7, ps.drop (cm + 1), ways ++ [ri], rfl, rfl, rfl, by omega, by omega, by have h := PA.out; rw [List.drop_drop] at h; exact h, WA.out, TO.out.step H0.out HIT.out HST.out, BA.out⟩
                  case measure => simp [lenOf]; omega
                · have hnz : nq - cm = 0 := by omega
                  have hdn : ps.drop cm = [] := List.drop_eq_nil_of_le (by omega)
                  by_cases hE : nd.val.toList = []
                  · have hve := empty_str nd.val hE
                    have hst : stepAt nd ps = .inl (noStr, 1) := by
                      unfold stepAt; rw [if_neg HGO.out, if_neg HK1.out, if_neg HK2.out, CM.out, hdn]
                      simp [hasVal, hE]
                    have HST := Lib.hid hst
                    have HVE := Lib.hid hve
                    clear hst hdn
                    go_wp2
                    go_ret3
                    exact ⟨_, _, _, _, _, ways ++ [ri], rfl, TO.out.stop H0.out HIT.out HST.out, W8.out, B8.out⟩
                  · have hst : stepAt nd ps = .inl (nd.val, 0) := by
                      unfold stepAt; rw [if_neg HGO.out, if_neg HK1.out, if_neg HK2.out, CM.out, hdn]
                      simp [hasVal, hE]
                    have HST := Lib.hid hst
                    have hE2 : nd.val.toList.isEmpty = false := by simpa using hE
                    clear hst hdn hE
                    go_wp2
                    go_ret3
                    exact ⟨_, _, _, _, _, ways ++ [ri], rfl, TO.out.stop H0.out HIT.out HST.out, W8.out, B8.out⟩
end Go.Proofs.Ytmgjpmlemkkalaa

-- FindO: The model's Found.
namespace Go.Proofs.Ytmgjpmlemkkalaa
set_option maxRecDepth 20000
set_option linter.unusedVariables false
set_option linter.unusedSimpArgs false
open Go.RowKit

theorem l5Ok_any (A : Option Addr) (n c : Nat) (cs : List (Int × List Int)) (root : Int) (key : ByteArray) (B : Nat) (w : World) (hn : n ≤ 1048576) (hm : ∀ i, (cel cs i).2.length ≤ 1048576) (hk : key.size ≤ 1048576) (hB : B ≤ w.heap.size) (hb : Cells w B A n cs) :
    Calls Try.prog 45 #[.slice A n c, .int .i64 root, .string key] w fun e w' => ∃ b, e = .returned (.bool b) ∧ (b = true ↔ Right cs ∧ isKey (sb key) = true ∧ 0 ≤ root) ∧ Below w.heap.size w w' := by
  have HB := Lib.hid (hb.more hB)
  clear hb
  go_enter Try.func45, Try.ntmps45
  go_wp2_with fail
  refine (specCellsOk_any A n c cs w.heap.size w hn hm (Nat.le_refl _) HB.out).mono ?_
  rintro e w1 ⟨r, rfl, hr, b1⟩
  have HR := Lib.hid hr
  have B1 := Lib.hid b1
  clear hr b1
  cases r with
  | false =>
    go_wp2
    go_ret
    exact ⟨false, rfl, iff_of_false (by simp) (fun h => absurd (HR.out.2 h.1) (by simp)), B1.out⟩
  | true =>
    go_wp2_with fail
    refine (specKeyOk_any key w1 hk).mono ?_
    rintro e w' ⟨rfl, rfl⟩
    obtain ⟨ik, hik⟩ : ∃ ik, isKey (sb key) = ik := ⟨_, rfl⟩
    rw [hik]
    have IK := Lib.hid hik
    clear hik
    cases ik with
    | false =>
      go_wp2
      go_ret
      exact ⟨false, rfl, iff_of_false (by simp) (fun h => by have := h.2.1; rw [IK.out] at this; cases this), B1.out⟩
    | true =>
      go_wp2
      go_ret
      refine ⟨decide (0 ≤ root), rfl, ⟨fun h => ⟨HR.out.1 (by trivial), IK.out, of_decide_eq_true h⟩, fun h => decide_eq_true h.2.2⟩, B1.out⟩

theorem OwnI.cap_' {w : World} {base n c : Nat} {A : Option Addr} {xs : List Int} (h : OwnI w base A n c xs) : n ≤ c := by
  rcases h.2 with ⟨e, hx⟩ | ⟨g', cap, cur, e, _, _, hn, _⟩
  · have e2 : n = 0 := by simpa using hx
    omega
  · cases e; exact hn
theorem specFound_any (A : Option Addr) (n c : Nat) (cs : List (Int × List Int)) (root : Int) (key : ByteArray) (B : Nat) (w : World) (hn : n ≤ 1048576) (hm : ∀ i, (cel cs i).2.length ≤ 1048576) (hk : key.size ≤ 1048576) (hB : B ≤ w.heap.size) (hb : Cells w B A n cs) :
    Calls Try.prog 17 #[.slice A n c, .int .i64 root, .string key] w fun e w' => ∃ v k, e = .returned (.tuple #[.string v, .int .i64 k]) ∧ FoundIs cs root key v k ∧ Below w.heap.size w w' := by
  have HB := Lib.hid (hb.more hB)
  clear hb
  go_enter Try.func17, Try.ntmps17
  go_wp2_with fail
  refine (l5Ok_any A n c cs root key w.heap.size w hn hm hk (Nat.le_refl _) HB.out).mono ?_
  rintro e w1 ⟨r, rfl, hr, b1⟩
  have HR := Lib.hid hr
  have B1 := Lib.hid b1
  have hs1 : w.heap.size ≤ w1.heap.size := b1.size
  clear hr b1
  cases r with
  | false =>
    have hno := Lib.hid (fun h => absurd (HR.out.2 h) (by simp) : ¬ (Right cs ∧ isKey (sb key) = true ∧ 0 ≤ root))
    go_wp2
    go_ret2
    exact ⟨noStr, 3, rfl, .inl ⟨hno.out, rfl, rfl⟩, B1.out⟩
  | true =>
    have OK := Lib.hid (HR.out.1 (by trivial))
    go_wp2_with fail
    refine (specPathOf_any key w1 hk).mono ?_
    rintro e w2 ⟨A2, n2, c2, rfl, o2, b2⟩
    have hl2 := o2.len
    have hpos : 0 < n2 := by
      have h1 := OK.out.2.1
      have h2 : pathOf (sb key) = (sb key).map wd := if_pos h1
      rw [h2] at hl2
      unfold isKey at h1
      simp at h1 hl2
      omega
    have hcap := o2.cap_'
    obtain ⟨g2, rfl, _, hg2⟩ := o2.form hpos
    have hle : n2 ≤ 1048576 := by
      have h1 := OK.out.2.1
      have h2 : pathOf (sb key) = (sb key).map wd := if_pos h1
      have h3 := sb_len key
      rw [h2] at hl2
      simp at hl2
      omega
    have O2 := Lib.hid o2
    have B2 := Lib.hid (B1.out.trans (b2.mono hs1))
    have hs2 : w1.heap.size ≤ w2.heap.size := b2.size
    clear o2 b2
    go_wp2_with fail
    refine (l5Down_any A n c cs root g2 0 n2 c2 (pathOf (sb key)) w2.heap.size w2 hn hm hle hcap (Nat.le_refl _) ((HB.out.below B2.out).more B2.out.size) O2.out.ints).mono ?_
    rintro e w3 ⟨v, k, g, nw, cw, way, rfl, hd, _, b3⟩
    have HD := Lib.hid hd
    have B3 := Lib.hid (B2.out.trans (b3.mono B2.out.size))
    clear hd b3
    go_wp2
    go_ret2
    exact ⟨v, k, rfl, .inr ⟨OK.out, by obtain ⟨f, hf⟩ := HD.out; exact ⟨f, way, hf⟩⟩, B3.out⟩
end Go.Proofs.Ytmgjpmlemkkalaa
