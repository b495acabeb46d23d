/- Several texts in one, in build order: ChsY, BaseT, FindM, PutM, ChgAM, ChOne, SweepM, SweepS, ChgAS, ChgAC. -/
import Derived.Test.YtigdcmfmaehjfaaGreatPkI
-- ChsY: Slices of changes, marked by the laws and held against the marks.
namespace Go.Proofs.YtigdcmfmaehjfaaGreat
set_option maxRecDepth 20000
set_option linter.unusedVariables false
set_option linter.unusedSimpArgs false
open Go.RowKit

/-- how many marks some changes take. -/
def mlH : List MChg → Nat
  | [] => 0
  | c :: r => 2 + c.bytes.length + mlH r
theorem mlH_append (a b : List MChg) : mlH (a ++ b) = mlH a + mlH b := by
  induction a with
  | nil => simp [mlH]
  | cons x r ih => simp [mlH, ih]; omega
theorem mlH_take (cs : List MChg) (k : Nat) (h : k < cs.length) : mlH (cs.take (k + 1)) = mlH (cs.take k) + 2 + (cx cs k).bytes.length := by
  rw [cx_take cs k h, mlH_append]; simp [mlH]; omega
theorem mlH_take_le (cs : List MChg) (k : Nat) : mlH (cs.take k) ≤ mlH cs := by
  conv => rhs; rw [← List.take_append_drop k cs, mlH_append]
  omega
theorem mlH_sz (cs : List MChg) : mlH cs = szH cs + cs.length := by
  induction cs with
  | nil => rfl
  | cons x r ih => simp [mlH, szH, ih]; omega
theorem mlH_le (l : List MChg) (m : Nat) (h : ∀ x ∈ l, x.bytes.length ≤ m) : mlH l ≤ l.length * (2 + m) := by
  induction l with
  | nil => simp [mlH]
  | cons x r ih =>
    have h1 := h x (List.mem_cons_self ..)
    have h2 := ih (fun y hy => h y (List.mem_cons_of_mem _ hy))
    simp only [mlH, List.length_cons, Nat.add_mul, Nat.one_mul]
    omega
/-- the changes as the marks from k0 on leave them. -/
def markH (k0 : Int) : List MChg → List MChg
  | [] => []
  | c :: r => ⟨k0, k0 + 1, marks (k0 + 2) c.bytes.length⟩ :: markH (k0 + 2 + c.bytes.length) r
theorem markH_append (k0 : Int) (a b : List MChg) : markH k0 (a ++ b) = markH k0 a ++ markH (k0 + mlH a) b := by
  induction a generalizing k0 with
  | nil => simp [markH, mlH]
  | cons x r ih =>
    have e : k0 + 2 + (x.bytes.length : Int) + (mlH r : Int) = k0 + ((2 + x.bytes.length + mlH r : Nat) : Int) := by push_cast; omega
    simp only [List.cons_append, markH, ih, mlH, e]
theorem markH_len (k0 : Int) (cs : List MChg) : (markH k0 cs).length = cs.length := by
  induction cs generalizing k0 with
  | nil => rfl
  | cons x r ih => simp [markH, ih]
theorem markH_cx (k0 : Int) (cs : List MChg) (k : Nat) (h : k < cs.length) : cx (markH k0 cs) k = ⟨k0 + mlH (cs.take k), k0 + mlH (cs.take k) + 1, marks (k0 + mlH (cs.take k) + 2) (cx cs k).bytes.length⟩ := by
  have e : cs = cs.take k ++ cx cs k :: cs.drop (k + 1) := by
    conv => lhs; rw [← List.take_append_drop k cs, List.drop_eq_getElem_cons h]
    unfold cx; rw [List.getElem?_eq_getElem h]; rfl
  have hl : (markH k0 (cs.take k)).length = k := by rw [markH_len]; simp; omega
  conv => lhs; unfold cx; rw [e, markH_append]
  rw [List.getElem?_append_right (by omega), hl]
  simp [markH]
/-- the changes, marked as far as the k-th. -/
def markHTo (k0 : Int) (cs : List MChg) (k : Nat) : List MChg := markH k0 (cs.take k) ++ cs.drop k
theorem markHTo_len (k0 : Int) (cs : List MChg) (k : Nat) : (markHTo k0 cs k).length = cs.length := by
  unfold markHTo; rw [List.length_append, markH_len]; simp; omega
theorem markHTo_cx (k0 : Int) (cs : List MChg) (k : Nat) (h : k < cs.length) : cx (markHTo k0 cs k) k = cx cs k := by
  unfold markHTo cx
  have hl : (markH k0 (cs.take k)).length = k := by rw [markH_len]; simp; omega
  rw [List.getElem?_append_right (by omega), hl]
  simp
theorem markHTo_step (k0 : Int) (cs : List MChg) (k : Nat) (h : k < cs.length) : (markHTo k0 cs k).set k ⟨k0 + mlH (cs.take k), k0 + mlH (cs.take k) + 1, marks (k0 + mlH (cs.take k) + 2) (cx cs k).bytes.length⟩ = markHTo k0 cs (k + 1) := by
  unfold markHTo
  have hl : (markH k0 (cs.take k)).length = k := by rw [markH_len]; simp; omega
  have hc : cs[k] = cx cs k := by unfold cx; rw [List.getElem?_eq_getElem h]; rfl
  rw [cx_take cs k h, markH_append, List.set_append, if_neg (by omega), hl, List.drop_eq_getElem_cons h, Nat.sub_self, List.set_cons_zero, List.append_assoc]
  rfl
theorem markHTo_all (k0 : Int) (cs : List MChg) : markHTo k0 cs cs.length = markH k0 cs := by
  unfold markHTo; simp

theorem markH_any (A : Option Addr) (n c lo hi : Nat) (cs : List MChg) (k0 : Int) (w : World) (h0 : 0 ≤ k0) (h1 : k0 + mlH cs ≤ 4611686018427387904) (hn : n ≤ 4194304) (hm : OwnCh w lo hi A n c cs) :
    Calls Tryz.prog 23 #[.slice A n c, .int .i64 k0] w fun e w' => e = .returned (.int .i64 (k0 + mlH cs)) ∧ OwnCh w' lo hi A n c (markH k0 cs) ∧ Touch (fun b => lo ≤ b ∧ b < hi) w w' := by
  have hx := hm.len
  have HM := Lib.hid hm
  clear hm
  go_enter Tryz.func23, Tryz.ntmps23
  go_wp2
  go_loopw [1, 5] (fun q i wr => ∃ k : Nat, k ≤ n ∧ i = .int .i64 k ∧ q = .int .i64 (k0 + mlH (cs.take k)) ∧ OwnCh wr lo hi A n c (markHTo k0 cs k) ∧ Touch (fun b => lo ≤ b ∧ b < hi) w wr) (fun _ i _ => n - (intOf i).toNat)
  case atStart => exact ⟨0, Nat.zero_le _, rfl, by simp [mlH], by simpa [markHTo, markH] using HM.out, Touch.of_below (Below.refl _ _)⟩
  case round =>
    obtain ⟨k, hk, rfl, rfl, hmr, htr⟩ := hrel
    by_cases hlt : k < n
    · obtain ⟨g, rfl, hbg, hgh, hlt'⟩ := hmr.form (by omega)
      have hc0 := hmr.cell0 hlt
      have hc1 := hmr.cell1 hlt
      have hf0 := hmr.free (k * 3)
      have hf1 := hmr.free (k * 3 + 1)
      have hs1 := hmr.setTwo (k0 + mlH (cs.take k)) (k0 + mlH (cs.take k) + 1) hlt
      have hst := mlH_take cs k (by omega)
      have hall := mlH_take_le cs (k + 1)
      rw [markHTo_cx k0 cs k (by omega)] at hs1
      obtain ⟨Ai, ni, ci, hc2, hmi, hui, hin⟩ := hs1.inner hlt
      have hcc : cx ((markHTo k0 cs k).set k ⟨k0 + mlH (cs.take k), k0 + mlH (cs.take k) + 1, (cx cs k).bytes⟩) k = ⟨k0 + mlH (cs.take k), k0 + mlH (cs.take k) + 1, (cx cs k).bytes⟩ := by
        rw [cx_set _ _ _ _ (by rw [markHTo_len]; omega), if_pos rfl]
      rw [hcc] at hmi hin
      have hni : (cx cs k).bytes.length = ni := hmi.len
      have hstep := markHTo_step k0 cs k (by omega)
      have T1 := Lib.hid (htr.trans ((touch_set (S := fun b => lo ≤ b ∧ b < hi) wr g (k * 3) (.int .i64 (k0 + mlH (cs.take k))) ⟨hbg, hgh⟩).trans (touch_set _ g (k * 3 + 1) (.int .i64 (k0 + mlH (cs.take k) + 1)) ⟨hbg, hgh⟩)))
      have MI := Lib.hid hmi
      have IN := Lib.hid hin
      have UI := Lib.hid hui
      have HST := Lib.hid hstep
      have HLN := Lib.hid hni
      have hk2 : k0 + mlH (cs.take k) + 2 + ni ≤ 4611686018427387904 := by omega
      have hkp : 0 ≤ k0 + mlH (cs.take k) + 2 := by omega
      have hfin : k0 + mlH (cs.take k) + 2 + ni = k0 + mlH (cs.take (k + 1)) := by omega
      have HF := Lib.hid hfin
      generalize hq : k0 + (mlH (cs.take k) : Int) = q at *
      clear hmr htr hs1 hmi hin hui hstep hst hfin hall hcc hq
      have hq2 : q + 1 + 1 = q + 2 := by omega
      go_wp2_with fail
      refine (mark_any Ai ni ci lo _ (q + 2) _ hkp hk2 MI.out).mono ?_
      rintro e w1 ⟨rfl, m1, g1⟩
      have hc := IN.out _ _ m1 g1
      rw [List.set_set] at hc
      have hs2 := HST.out
      rw [HLN.out] at hs2
      have hc' : OwnCh w1 lo hi (some ⟨g, 0, none⟩) n c (markHTo k0 cs (k + 1)) := by rw [← hs2]; exact hc
      have O1 := Lib.hid hc'
      have T2 := Lib.hid (T1.out.trans ((Touch.of_grown g1).mono (fun b e => UI.out b e.symm)))
      clear hc m1 g1 hs2 hc' hc0 hc1 hc2 hf0 hf1
      go_wp2
      go_roundw
      case rel => exact ⟨k + 1, by omega, by go_num, by rw [← HF.out], O1.out, T2.out⟩
      case measure => simp [intOf]; omega
    · go_wp2
      go_ret
      obtain rfl : k = n := by omega
      subst hx
      rw [List.take_length, markHTo_all] at *
      exact ⟨rfl, hmr, htr⟩
end Go.Proofs.YtigdcmfmaehjfaaGreat

-- BaseT: The lists of a base that a call made: cells and numbers lie in blocks of other kinds; marks.
namespace Go.Proofs.YtigdcmfmaehjfaaGreat
set_option maxRecDepth 20000
set_option linter.unusedVariables false
set_option linter.unusedSimpArgs false
open Go.RowKit

/-- a block of cells, or of bytes. -/
def KindC (w : World) (b : Nat) : Prop := ∃ cur t, w.heap[b]? = some (.cells cur t (0, 0)) ∧ (t = 99 ∨ t = 5)
theorem row_kind {w : World} {lo n size : Nat} {e : TypeId} {v : Value} {xs : List Value} (h : w.ownsRow lo e size v n xs) {g : Nat} (hg : v.ownBlock = some g) : ∃ cur, w.heap[g]? = some (.cells cur e (0, 0)) := by
  rcases h.2 with ⟨e, _⟩ | ⟨g', cap, cur, e, _, hh, _⟩
  · rw [e] at hg; simp [Value.ownBlock] at hg
  · rw [e] at hg
    have : g' = g := by simpa [Value.ownBlock] using hg
    exact ⟨cur, this ▸ hh⟩
theorem OwnI.notC {w : World} {lo n c g : Nat} {A : Option Addr} {xs : List Int} (h : OwnI w lo A n c xs) (hg : (Value.slice A n c).ownBlock = some g) : ¬ KindC w g := by
  rintro ⟨cur, t, e, ht⟩
  obtain ⟨cur', e'⟩ := row_kind h hg
  rw [e] at e'
  injection e' with e'
  injection e' with _ e'
  rcases ht with ht | ht
  · rw [ht] at e'; exact absurd e' (by decide)
  · rw [ht] at e'; exact absurd e' (by decide)
theorem KindC.back {w w' : World} {S : Nat → Prop} {b : Nat} (t : Touch S w w') (hS : ∀ b, S b → KindC w b ∨ w.heap.size ≤ b) (h : KindC w' b) : KindC w b ∨ w.heap.size ≤ b := by
  rcases Nat.lt_or_ge b w.heap.size with hb | hb
  · by_cases hs : S b
    · exact hS b hs
    · obtain ⟨cur, ty, e, ht⟩ := h
      exact .inl ⟨cur, ty, (t.block b hb hs).symm.trans e, ht⟩
  · exact .inr hb
theorem OwnC.touchK {w w' : World} {lo hi n c : Nat} {A : Option Addr} {cs : List (Int × List Int)} {S : Nat → Prop} (h : OwnC w lo hi A n c cs) (t : Touch S w w') (hn : ∀ b, KindC w b → ¬ S b) : OwnC w' lo hi A n c cs := by
  obtain ⟨hl, hu, sl, hr, hs⟩ := h
  refine ⟨hl, hu, sl, own_touch hr t (fun b hb => hn b ?_), fun i hi => (hs.mine i hi).touch t (fun b hb => hn b ?_), hs.apart, hs.other, hs.under⟩
  · obtain ⟨cur, e⟩ := row_kind hr hb
    exact ⟨cur, _, e, .inl rfl⟩
  · obtain ⟨cur, e⟩ := row_kind (hs.mine i hi).1 hb
    exact ⟨cur, _, e, .inr rfl⟩
theorem OwnC.kind {w : World} {lo hi n c g : Nat} {A : Option Addr} {cs : List (Int × List Int)} (h : OwnC w lo hi A n c cs) (hg : (Value.slice A n c).ownBlock = some g) : KindC w g := by
  obtain ⟨hl, hu, sl, hr, hs⟩ := h
  obtain ⟨cur, e⟩ := row_kind hr hg
  exact ⟨cur, _, e, .inl rfl⟩
theorem Mine.kind {w : World} {lo n c g : Nat} {A : Option Addr} {xs : List Int} (h : Mine w lo A n c xs) (hg : (Value.slice A n c).ownBlock = some g) : KindC w g := by
  obtain ⟨cur, e⟩ := row_kind h.1 hg
  exact ⟨cur, _, e, .inr rfl⟩
theorem KindC.set_ {w : World} {b g k : Nat} {u : Value} (h : KindC (w.setCell ⟨g, k, none⟩ u) b) (hg : KindC w g) : KindC w b := by
  by_cases e : b = g
  · rw [e]; exact hg
  · obtain ⟨cur, ty, h1, h2⟩ := h
    exact ⟨cur, ty, (heap_setCell_other w ⟨g, k, none⟩ b u e).symm.trans h1, h2⟩

theorem markCK_any (A : Option Addr) (n c lo hi : Nat) (cs : List (Int × List Int)) (k0 : Int) (w : World) (h0 : 0 ≤ k0) (h1 : k0 + szC cs ≤ 4611686018427387904) (hm : OwnC w lo hi A n c cs) :
    Calls Tryz.prog 45 #[.slice A n c, .int .i64 k0] w fun e w' => e = .returned (.int .i64 (k0 + szC cs)) ∧ OwnC w' lo hi A n c (markC k0 cs) ∧ Touch (fun b => (KindC w b ∨ w.heap.size ≤ b) ∧ lo ≤ b ∧ b < hi) w w' := by
  have hx := hm.len
  have hnb : n ≤ 4611686018427387904 := by have := szC_len cs; omega
  have HM := Lib.hid hm
  clear hm
  go_enter Tryz.func45, Tryz.ntmps45
  go_wp2
  go_loopw [1, 5] (fun q i wr => ∃ k : Nat, k ≤ n ∧ i = .int .i64 k ∧ q = .int .i64 (k0 + szC (cs.take k)) ∧ OwnC wr lo hi A n c (markTo k0 cs k) ∧ Touch (fun b => (KindC w b ∨ w.heap.size ≤ b) ∧ lo ≤ b ∧ b < hi) w wr) (fun _ i _ => n - (intOf i).toNat)
  case atStart => exact ⟨0, Nat.zero_le _, rfl, by simp [szC], by simpa [markTo, markC] using HM.out, Touch.of_below (Below.refl _ _)⟩
  case round =>
    obtain ⟨k, hk, rfl, rfl, hmr, htr⟩ := hrel
    by_cases hlt : k < n
    · obtain ⟨g, rfl, hbg, hgh, hlt'⟩ := hmr.form (by omega)
      have hc0 := hmr.cell0 hlt
      have hf0 := hmr.free (k * 2)
      have hs1 := hmr.setName (k0 + szC (cs.take k)) hlt
      have hst := szC_take cs k (by omega)
      have hall := szC_take_le cs (k + 1)
      have hkg : KindC wr g := hmr.kind (by simp [Value.ownBlock])
      have KB := Lib.hid (fun b (h : KindC wr b) => KindC.back htr (fun b h => h.1) h)
      rw [markTo_cel k0 cs k (by omega)] at hs1
      obtain ⟨Ai, ni, ci, hc1, hmi, hui, hin⟩ := hs1.inner hlt
      have hcc : cel ((markTo k0 cs k).set k (k0 + szC (cs.take k), (cel cs k).2)) k = (k0 + szC (cs.take k), (cel cs k).2) := by
        rw [cel_set _ _ _ _ (by rw [markTo_len]; omega), if_pos rfl]
      rw [hcc] at hmi hin
      have hni : (cel cs k).2.length = ni := hmi.len
      have hstep := markTo_step k0 cs k (by omega)
      have T1 := Lib.hid (htr.trans (touch_set (S := fun b => (KindC w b ∨ w.heap.size ≤ b) ∧ lo ≤ b ∧ b < hi) wr g (k * 2) (.int .i64 (k0 + szC (cs.take k))) ⟨KB.out g hkg, hbg, hgh⟩))
      have MI := Lib.hid hmi
      have IN := Lib.hid hin
      have UI := Lib.hid (fun b (hb : (Value.slice Ai ni ci).ownBlock = some b) => And.intro (KB.out b (KindC.set_ (hmi.kind hb) hkg)) (hui b hb))
      have HST := Lib.hid hstep
      have HR := Lib.hid hst
      have HLN := Lib.hid hni
      have hk2 : k0 + szC (cs.take k) + 1 + ni ≤ 4611686018427387904 := by omega
      have hkp : 0 ≤ k0 + szC (cs.take k) + 1 := by omega
      have hfin : k0 + szC (cs.take k) + 1 + ni = k0 + szC (cs.take (k + 1)) := by omega
      have HF := Lib.hid hfin
      generalize hq : k0 + (szC (cs.take k) : Int) = q at *
      have HQ := Lib.hid hq
      clear hmr htr hs1 hmi hin hui hstep hst hfin hall hcc hq hkg
      go_wp2_with fail
      refine (mark_any Ai ni ci lo _ (q + 1) _ hkp hk2 MI.out).mono ?_
      rintro e w1 ⟨rfl, m1, g1⟩
      have hc := IN.out _ _ m1 g1
      rw [List.set_set] at hc
      have hs2 := HST.out
      rw [HLN.out] at hs2
      rw [show (q, marks (q + 1) ni) = ((q, (cel cs k).2).1, marks (q + 1) ni) from rfl] at hs2
      rw [show ((q, (cel cs k).2).1, marks (q + 1) ni) = (q, marks (q + 1) ni) from rfl] at hs2
      have hc' : OwnC w1 lo hi (some ⟨g, 0, none⟩) n c (markTo k0 cs (k + 1)) := by rw [← hs2]; exact hc
      have O1 := Lib.hid hc'
      have T2 := Lib.hid (T1.out.trans ((Touch.of_grown g1).mono (fun b e => UI.out b e.symm)))
      clear hc m1 g1 hs2 hc' hc0 hc1 hf0
      go_wp2
      go_roundw
      case rel => exact ⟨k + 1, by omega, by go_num, by rw [← HF.out], O1.out, T2.out⟩
      case measure => simp [intOf]; omega
    · go_wp2
      go_ret
      obtain rfl : k = n := by omega
      subst hx
      rw [List.take_length, markTo_all] at *
      exact ⟨rfl, hmr, htr⟩

/-- the lists of a base that a call made. -/
structure OwnBK (w : World) (lo : Nat) (L : BLay) (b : MBase) : Prop where
  cells : OwnC w lo w.heap.size L.A L.n L.c b.cells
  pins : OwnI w lo L.Ap L.np L.cp b.pins
  grey : OwnI w lo L.Ag L.ng L.cg b.grey
  black : OwnI w lo L.Ab L.nb L.cb b.black
  pg : ∀ g, (Value.slice L.Ap L.np L.cp).ownBlock = some g → (Value.slice L.Ag L.ng L.cg).ownBlock ≠ some g
  pb : ∀ g, (Value.slice L.Ap L.np L.cp).ownBlock = some g → (Value.slice L.Ab L.nb L.cb).ownBlock ≠ some g
  gb : ∀ g, (Value.slice L.Ag L.ng L.cg).ownBlock = some g → (Value.slice L.Ab L.nb L.cb).ownBlock ≠ some g
section
variable {w w' : World} {lo : Nat} {L : BLay} {b : MBase}
theorem OwnBK.inn (h : OwnBK w lo L b) : BaseIn w w.heap.size L b := ⟨h.cells.cells, h.pins.ints, h.grey.ints, h.black.ints⟩
theorem OwnBK.below (h : OwnBK w lo L b) (hb : Below w.heap.size w w') : OwnBK w' lo L b :=
  ⟨(h.cells.below hb).more hb.size, h.pins.below hb, h.grey.below hb, h.black.below hb, h.pg, h.pb, h.gb⟩
theorem OwnBK.base {lo' : Nat} (h : OwnBK w lo L b) (hl : lo' ≤ lo) : OwnBK w lo' L b := ⟨h.cells.base hl, h.pins.base hl, h.grey.base hl, h.black.base hl, h.pg, h.pb, h.gb⟩
/-- touched where there is no block of it. -/
theorem OwnBK.touch {S : Nat → Prop} (h : OwnBK w lo L b) (t : Touch S w w') (hn : ∀ g, lo ≤ g → g < w.heap.size → ¬ S g) : OwnBK w' lo L b :=
  ⟨(h.cells.touch t hn).more t.size, h.pins.touch t (fun g hg => hn g (World.ownsRow.lt h.pins g hg).1 (World.ownsRow.lt h.pins g hg).2), h.grey.touch t (fun g hg => hn g (World.ownsRow.lt h.grey g hg).1 (World.ownsRow.lt h.grey g hg).2),
    h.black.touch t (fun g hg => hn g (World.ownsRow.lt h.black g hg).1 (World.ownsRow.lt h.black g hg).2), h.pg, h.pb, h.gb⟩
theorem OwnBK.fit (h : OwnBK w lo L b) (hs : szB b ≤ 1048576) : BaseFit L b := by
  have hl := szC_len b.cells
  have e0 := h.cells.len
  have e1 := h.pins.len
  have e2 := h.grey.len
  have e3 := h.black.len
  unfold szB at hs
  exact ⟨by omega, cel_bd b.cells (by omega), h.cells.cap, h.pins.cap_, h.grey.cap_, h.black.cap_, h.cells.nilc, h.pins.nilc, h.grey.nilc, h.black.nilc⟩
theorem OwnBase.bk {h1 h2 h3 hi : Nat} (h : OwnBase w lo h1 h2 h3 hi L b) (hhi : hi ≤ w.heap.size) : OwnBK w lo L b := by
  have := h.o0
  have := h.o1
  have := h.o2
  have := h.o3
  refine ⟨h.cells.more (by omega), h.pins.base (by omega), h.grey.base (by omega), h.black.base (by omega), fun g e1 e2 => ?_, fun g e1 e2 => ?_, fun g e1 e2 => ?_⟩
  · have a := h.up g e1
    have b := (World.ownsRow.lt h.grey g e2).1
    omega
  · have a := h.up g e1
    have b := (World.ownsRow.lt h.black g e2).1
    omega
  · have a := h.ug g e1
    have b := (World.ownsRow.lt h.black g e2).1
    omega
end
theorem markBK_any (L : BLay) (b : MBase) (lo : Nat) (k0 : Int) (w : World) (hs : szB b ≤ 1000000000) (hk : 0 ≤ k0) (hk1 : k0 ≤ 1000000000) (hm : OwnBK w lo L b) (hlo : lo ≤ w.heap.size) :
    Calls Tryz.prog 15 #[L.v b, .int .i64 k0] w fun e w' => e = .returned (.int .i64 (k0 + szB b)) ∧ OwnBK w' lo L (markedB k0 b) ∧ Touch (fun g => lo ≤ g) w w' := by
  obtain ⟨A, n, c, Ap, np, cp, Ag, ng, cg, Ab, nb, cb⟩ := L
  obtain ⟨cs, head, pins, phase, grey, black, cursor⟩ := b
  obtain ⟨hC, hP, hG, hK, pg, pb, gb⟩ := hm
  simp only [szB] at hs hC hP hG hK pg pb gb
  have hl0 := hC.len
  have hl1 := hP.len
  have hl2 := hG.len
  have hl3 := hK.len
  have hszl := szC_len cs
  unfold BLay.v szB markedB
  simp only
  obtain ⟨w3, hw3⟩ : ∃ w3, w.alloc (.cells #[.slice A n c, .int .i64 head, .slice Ap np cp, .int .i64 phase, .slice Ag ng cg, .slice Ab nb cb, .int .i64 cursor] 30) = w3 := ⟨_, rfl⟩
  have x0 : Box w3 w.heap.size _ _ := hw3 ▸ heap_alloc_new _ _
  have b3 : Below w.heap.size w w3 := hw3 ▸ (Below.refl _ _).alloc (Nat.le_refl _) _
  have X0 := Lib.hid x0
  have PG := Lib.hid pg
  have PB := Lib.hid pb
  have GB := Lib.hid gb
  have PL := Lib.hid (fun g (hg : (Value.slice Ap np cp).ownBlock = some g) => World.ownsRow.lt hP g hg)
  have GL := Lib.hid (fun g (hg : (Value.slice Ag ng cg).ownBlock = some g) => World.ownsRow.lt hG g hg)
  have KL := Lib.hid (fun g (hg : (Value.slice Ab nb cb).ownBlock = some g) => World.ownsRow.lt hK g hg)
  have HC := Lib.hid (hC.below b3)
  have HP := Lib.hid (hP.below b3)
  have HG := Lib.hid (hG.below b3)
  have HK := Lib.hid (hK.below b3)
  have s3 : w.heap.size < w3.heap.size := x0.lt
  have q0 := x0.cell 0
  simp at q0
  have T3 := Lib.hid (Touch.of_below (S := fun g => lo ≤ g) b3)
  clear x0 b3 hC hP hG hK pg pb gb
  go_enter Tryz.func15, Tryz.ntmps15
  go_wp2_with fail
  refine (markCK_any A n c lo w.heap.size cs k0 w3 hk (by omega) HC.out).mono ?_
  rintro e w4 ⟨rfl, m4, t4⟩
  have x1 : Box w4 w.heap.size _ _ := (t4.block _ s3 (fun e => by omega)).trans X0.out
  have X1 := Lib.hid x1
  have HC := Lib.hid m4
  have HP := Lib.hid (HP.out.touch t4 (fun g hg e => by
    rcases e.1 with h | h
    · exact HP.out.notC hg h
    · have := PL.out g hg; omega))
  have HG := Lib.hid (HG.out.touch t4 (fun g hg e => by
    rcases e.1 with h | h
    · exact HG.out.notC hg h
    · have := GL.out g hg; omega))
  have HK := Lib.hid (HK.out.touch t4 (fun g hg e => by
    rcases e.1 with h | h
    · exact HK.out.notC hg h
    · have := KL.out g hg; omega))
  have T4 := Lib.hid (T3.out.trans (t4.mono (fun g h => h.2.1)))
  have s4 : w3.heap.size ≤ w4.heap.size := t4.size
  have q2 := X1.out.cell 2
  simp at q2
  clear m4 t4 q0
  go_wp2_with fail
  refine (markI_any Ap np cp lo pins (k0 + szC cs) w4 (by omega) (by omega) HP.out).mono ?_
  rintro e w5 ⟨rfl, m5, g5⟩
  have t5 := Touch.of_grown g5
  have x2 : Box w5 w.heap.size _ _ := (t5.block _ (by omega) (fun e => by have := PL.out _ e.symm; omega)).trans X1.out
  have X2 := Lib.hid x2
  have HC := Lib.hid (HC.out.touchK t5 (fun b h e => HP.out.notC e.symm h))
  have HG := Lib.hid (HG.out.touch t5 (fun g hg e => PG.out g e.symm hg))
  have HK := Lib.hid (HK.out.touch t5 (fun g hg e => PB.out g e.symm hg))
  have HP := Lib.hid m5
  have T5 := Lib.hid (T4.out.trans (t5.mono (fun g h => (PL.out g h.symm).1)))
  have s5 : w4.heap.size ≤ w5.heap.size := t5.size
  have q4 := X2.out.cell 4
  simp at q4
  clear m5 g5 t5 q2 x2
  go_wp2_with fail
  refine (markI_any Ag ng cg lo grey (k0 + szC cs + np) w5 (by omega) (by omega) HG.out).mono ?_
  rintro e w6 ⟨rfl, m6, g6⟩
  have t6 := Touch.of_grown g6
  have x3 : Box w6 w.heap.size _ _ := (t6.block _ (by omega) (fun e => by have := GL.out _ e.symm; omega)).trans X2.out
  have X3 := Lib.hid x3
  have HC := Lib.hid (HC.out.touchK t6 (fun b h e => HG.out.notC e.symm h))
  have HP := Lib.hid (HP.out.touch t6 (fun g hg e => PG.out g hg e.symm))
  have HK := Lib.hid (HK.out.touch t6 (fun g hg e => GB.out g e.symm hg))
  have HG := Lib.hid m6
  have T6 := Lib.hid (T5.out.trans (t6.mono (fun g h => (GL.out g h.symm).1)))
  have s6 : w5.heap.size ≤ w6.heap.size := t6.size
  have q5 := X3.out.cell 5
  simp at q5
  clear m6 g6 t6 q4 x3
  go_wp2_with fail
  refine (markI_any Ab nb cb lo black (k0 + szC cs + np + ng) w6 (by omega) (by omega) HK.out).mono ?_
  rintro e w7 ⟨rfl, m7, g7⟩
  have t7 := Touch.of_grown g7
  have HC := Lib.hid (HC.out.touchK t7 (fun b h e => HK.out.notC e.symm h))
  have HP := Lib.hid (HP.out.touch t7 (fun g hg e => PB.out g hg e.symm))
  have HG := Lib.hid (HG.out.touch t7 (fun g hg e => GB.out g hg e.symm))
  have HK := Lib.hid m7
  have T7 := Lib.hid (T6.out.trans (t7.mono (fun g h => (KL.out g h.symm).1)))
  have s7 : w6.heap.size ≤ w7.heap.size := t7.size
  clear m7 g7 t7 q5
  go_wp2
  go_ret
  refine ⟨ret_i64 (by push_cast; omega), ⟨HC.out.more (by omega), ?_, ?_, ?_, PG.out, PB.out, GB.out⟩, T7.out⟩
  · rw [hl1]; exact HP.out
  · rw [hl1, hl2]; exact HG.out
  · rw [hl1, hl2, hl3]; exact HK.out

theorem heldBase_yes (L : BLay) (b : MBase) (B : Nat) (k0 : Int) (w : World) (hs : szB b ≤ 1000000000) (hk : 0 ≤ k0) (hk1 : k0 ≤ 1000000000) (hB : B ≤ w.heap.size) (hi : BaseIn w B L (markedB k0 b)) :
    Calls Tryz.prog 24 #[L.v b, .int .i64 k0] w fun e w' => e = .returned (.int .i64 (k0 + szB b)) ∧ Below w.heap.size w w' := by
  obtain ⟨A, n, c, Ap, np, cp, Ag, ng, cg, Ab, nb, cb⟩ := L
  obtain ⟨cs, head, pins, phase, grey, black, cursor⟩ := b
  obtain ⟨hC, hP, hG, hK⟩ := hi
  simp only [szB, markedB] at hs hC hP hG hK
  obtain rfl : pins.length = np := (marksI_len _ _).symm.trans hP.1
  obtain rfl : grey.length = ng := (marksI_len _ _).symm.trans hG.1
  obtain rfl : black.length = nb := (marksI_len _ _).symm.trans hK.1
  unfold BLay.v szB
  simp only
  obtain ⟨w3, hw3⟩ : ∃ w3, w.alloc (.cells #[.slice A n c, .int .i64 head, .slice Ap pins.length cp, .int .i64 phase, .slice Ag grey.length cg, .slice Ab black.length cb, .int .i64 cursor] 30) = w3 := ⟨_, rfl⟩
  have x0 : Box w3 w.heap.size _ _ := hw3 ▸ heap_alloc_new _ _
  have b3 : Below w.heap.size w w3 := hw3 ▸ (Below.refl _ _).alloc (Nat.le_refl _) _
  have B3 := Lib.hid b3
  have HC := Lib.hid ((hC.more hB).below b3)
  have HP := Lib.hid ((hP.more hB).below b3)
  have HG := Lib.hid ((hG.more hB).below b3)
  have HK := Lib.hid ((hK.more hB).below b3)
  have q0 := x0.cell 0
  have q2 := x0.cell 2
  have q4 := x0.cell 4
  have q5 := x0.cell 5
  simp at q0 q2 q4 q5
  have hd1 : decide (k0 + (szC cs : Int) < 0) = false := decide_eq_false (by omega)
  have hd2 : decide (k0 + (szC cs : Int) + (pins.length : Int) < 0) = false := decide_eq_false (by omega)
  have hd3 : decide (k0 + (szC cs : Int) + (pins.length : Int) + (grey.length : Int) < 0) = false := decide_eq_false (by omega)
  have hd4 : decide (k0 + (szC cs : Int) + (pins.length : Int) + (grey.length : Int) + (black.length : Int) < 0) = false := decide_eq_false (by omega)
  clear x0 b3 hC hP hG hK
  go_enter Tryz.func24, Tryz.ntmps24
  go_wp2_with fail
  refine (heldC_yes A n c w.heap.size cs k0 w3 hk (by omega) HC.out).mono ?_
  rintro e w' ⟨rfl, rfl⟩
  go_wp2_with fail
  refine (heldI_yes Ap pins.length cp w.heap.size (k0 + szC cs) w3 (by omega) (by omega) HP.out).mono ?_
  rintro e w' ⟨rfl, rfl⟩
  go_wp2_with fail
  refine (heldI_yes Ag grey.length cg w.heap.size (k0 + szC cs + pins.length) w3 (by omega) (by omega) HG.out).mono ?_
  rintro e w' ⟨rfl, rfl⟩
  go_wp2_with fail
  refine (heldI_yes Ab black.length cb w.heap.size (k0 + szC cs + pins.length + grey.length) w3 (by omega) (by omega) HK.out).mono ?_
  rintro e w' ⟨rfl, rfl⟩
  go_wp2
  go_ret
  exact ⟨ret_i64 (by push_cast; omega), B3.out⟩
end Go.Proofs.YtigdcmfmaehjfaaGreat

-- FindM: Plain facts on the way down a path. No statement of the program is proved here.
namespace Go.Proofs.YtigdcmfmaehjfaaGreat
set_option maxRecDepth 20000
set_option linter.unusedVariables false
set_option linter.unusedSimpArgs false
open Go.RowKit

theorem com_le (a b : List Int) : com a b ≤ a.length ∧ com a b ≤ b.length := by
  induction a generalizing b with
  | nil => cases b <;> simp [com]
  | cons x r ih =>
    cases b with
    | nil => simp [com]
    | cons y s =>
      have := ih s
      simp only [com]
      split
      · simp; omega
      · simp
/-- the empty text. -/
def noStr : ByteArray := { data := #[] }
/-- the name of the kid at a number; 0 where there is none. -/
def kidAt (ks : List (Int × Int)) (a : Int) : Int := match ks.find? (fun k => k.1 == a) with
  | some k => k.2
  | none => 0
theorem kidAt_at (ks : List (Int × Int)) (a : Int) (k : Nat) (hk : k < ks.length) (he : (ks[k]?.getD (0, 0)).1 = a) (h : ∀ j, j < k → (ks[j]?.getD (0, 0)).1 ≠ a) : kidAt ks a = (ks[k]?.getD (0, 0)).2 := by
  induction ks generalizing k with
  | nil => simp at hk
  | cons x r ih =>
    unfold kidAt
    rw [List.find?_cons]
    cases k with
    | zero => simp at he; simp [he]
    | succ k =>
      have h0 := h 0 (by omega)
      simp at h0
      have hx : (x.1 == a) = false := by simpa using h0
      rw [hx]
      have := ih k (by simpa using hk) (by simpa using he) (fun j hj => by have := h (j + 1) (by omega); simpa using this)
      unfold kidAt at this
      simpa using this
theorem kidAt_none (ks : List (Int × Int)) (a : Int) (h : ∀ j, j < ks.length → (ks[j]?.getD (0, 0)).1 ≠ a) : kidAt ks a = 0 := by
  unfold kidAt
  have : ks.find? (fun k => k.1 == a) = none := by
    rw [List.find?_eq_none]
    intro x hx
    obtain ⟨i, hi, rfl⟩ := List.mem_iff_getElem.1 hx
    have := h i hi
    rw [List.getElem?_eq_getElem hi] at this
    simpa using this
  rw [this]
/-- what a node on the way says: the value and the code, or where to go on. -/
def stepAt (nd : MNode) (path : List Int) : (ByteArray × Int) ⊕ (Int × List Int) :=
  if com nd.path path < nd.path.length ∨ (nd.kind = 1 ∧ com nd.path path < path.length) then .inl (noStr, 1)
  else if nd.kind = 1 then .inl (nd.val, 0)
  else if nd.kind = 2 then .inr ((nd.kids[0]?.getD (0, 0)).2, path.drop (com nd.path path))
  else match path.drop (com nd.path path) with
    | [] => if hasVal nd then .inl (nd.val, 0) else .inl (noStr, 1)
    | a :: r => .inr (kidAt nd.kids a, r)
/-- down a path: the value, the code, and the names of the nodes on the way. -/
def DownIs (cs : List (Int × List Int)) : Nat → Int → List Int → ByteArray → Int → List Int → Prop
  | 0, _, _, _, _, _ => False
  | f + 1, root, path, v, k, way =>
    (root = 0 ∧ v = noStr ∧ k = 1 ∧ way = []) ∨
    (root ≠ 0 ∧ ∃ nd b, HitIs cs root nd b ∧
      ((b = false ∧ v = noStr ∧ k = 2 ∧ way = []) ∨
       (b = true ∧ ∃ way', way = root :: way' ∧
         ((∃ r, stepAt nd path = .inl r ∧ v = r.1 ∧ k = r.2 ∧ way' = []) ∨ (∃ r, stepAt nd path = .inr r ∧ DownIs cs f r.1 r.2 v k way')))))
theorem DownIs.one {cs : List (Int × List Int)} (f f' : Nat) {root : Int} {path : List Int} {v v' : ByteArray} {k k' : Int} {way way' : List Int} (h : DownIs cs f root path v k way) (h' : DownIs cs f' root path v' k' way') : v = v' ∧ k = k' ∧ way = way' := by
  induction f generalizing f' root path way way' with
  | zero => exact h.elim
  | succ f ih =>
    cases f' with
    | zero => exact h'.elim
    | succ f' =>
      unfold DownIs at h h'
      rcases h with ⟨h0, rfl, rfl, rfl⟩ | ⟨h0, nd, b, hit, h⟩ <;> rcases h' with ⟨h0', rfl, rfl, rfl⟩ | ⟨h0', nd', b', hit', h'⟩
      · exact ⟨rfl, rfl, rfl⟩
      · exact absurd h0 h0'
      · exact absurd h0' h0
      · obtain ⟨rfl, rfl⟩ := hit.one hit'
        rcases h with ⟨hb, rfl, rfl, rfl⟩ | ⟨hb, w1, rfl, h⟩ <;> rcases h' with ⟨hb', rfl, rfl, rfl⟩ | ⟨hb', w1', rfl, h'⟩
        · exact ⟨rfl, rfl, rfl⟩
        · rw [hb] at hb'; cases hb'
        · rw [hb] at hb'; cases hb'
        · rcases h with ⟨r, e, rfl, rfl, rfl⟩ | ⟨r, e, h⟩ <;> rcases h' with ⟨r', e', rfl, rfl, rfl⟩ | ⟨r', e', h'⟩
          · rw [e] at e'; cases e'; exact ⟨rfl, rfl, rfl⟩
          · rw [e] at e'; cases e'
          · rw [e] at e'; cases e'
          · rw [e] at e'; cases e'
            obtain ⟨a, b, c⟩ := ih f' h h'
            exact ⟨a, b, by rw [c]⟩
/-- the answer of Found. -/
def FoundIs (cs : List (Int × List Int)) (root : Int) (key : ByteArray) (v : ByteArray) (k : Int) : Prop :=
  (¬ (Right cs ∧ isKey (sb key) = true ∧ 0 ≤ root) ∧ v = noStr ∧ k = 3) ∨ ((Right cs ∧ isKey (sb key) = true ∧ 0 ≤ root) ∧ ∃ f way, DownIs cs f root (pathOf (sb key)) v k way)
theorem FoundIs.one {cs : List (Int × List Int)} {root : Int} {key v v' : ByteArray} {k k' : Int} (h : FoundIs cs root key v k) (h' : FoundIs cs root key v' k') : v = v' ∧ k = k' := by
  rcases h with ⟨a, rfl, rfl⟩ | ⟨a, f, way, h⟩ <;> rcases h' with ⟨a', rfl, rfl⟩ | ⟨a', f', way', h'⟩
  · exact ⟨rfl, rfl⟩
  · exact absurd a' a
  · exact absurd a a'
  · have := h.one f f' h'
    exact ⟨this.1, this.2.1⟩
end Go.Proofs.YtigdcmfmaehjfaaGreat

-- PutM: Plain facts on putting: what is made, step by step. No statement of the program is proved here.
namespace Go.Proofs.YtigdcmfmaehjfaaGreat
set_option maxRecDepth 20000
set_option linter.unusedVariables false
set_option linter.unusedSimpArgs false
open Go.RowKit

/-- cells that are being made, and a code. -/
abbrev Wk := List (Int × List Int) × Int
/-- with a cell under its name, where there is none. -/
def addC (cs : List (Int × List Int)) (m : Int) (bs : List Int) : List (Int × List Int) := if findC cs m < cs.length then cs else insC cs m bs
def makeM (wk : Wk) (nd : MNode) : Wk × Int :=
  if wk.2 ≠ 0 then (wk, 0)
  else if nodeOk nd then ((addC wk.1 (nameOf (nodeBytes nd)) (nodeBytes nd), 0), nameOf (nodeBytes nd)) else ((wk.1, 4), 0)
def leafM (wk : Wk) (path : List Int) (value : ByteArray) : Wk × Int := makeM wk ⟨1, path, [], value⟩
def stemM (wk : Wk) (path : List Int) (kid : Int) : Wk × Int := if path = [] then (wk, kid) else makeM wk ⟨2, path, [(0, kid)], noStr⟩
/-- kids with another one at a number; without the one there where its name is 0. -/
def putKid (a m : Int) : Bool → List (Int × Int) → List (Int × Int)
  | put, [] => if put then [] else [(a, m)]
  | put, k :: r => (if !put && decide (a ≤ k.1) then [(a, m)] else []) ++ ((if k.1 = a then [] else [k]) ++ putKid a m (put || decide (a ≤ k.1)) r)
def withKidM (nd : MNode) (a m : Int) : MNode := { nd with kids := putKid a m (m == 0) nd.kids }
def entryM (wk : Wk) (fork : MNode) (path : List Int) (value : ByteArray) : Wk × MNode := match path with
  | [] => (wk, { fork with val := value })
  | a :: r => ((leafM wk r value).1, withKidM fork a (leafM wk r value).2)
def kid0 (nd : MNode) : Int := (nd.kids[0]?.getD (0, 0)).2
def fork0 : MNode := ⟨3, [], [], noStr⟩
/-- of a leaf or a stem: what gives its own part of the fork. -/
def oldM (wk : Wk) (nd : MNode) (rest : List Int) : Wk × MNode :=
  if nd.kind = 1 then entryM wk fork0 rest nd.val else match rest with
    | [] => (wk, fork0)
    | a :: r => ((stemM wk r (kid0 nd)).1, withKidM fork0 a (stemM wk r (kid0 nd)).2)
def partM (wk : Wk) (nd : MNode) (path : List Int) (value : ByteArray) (c : Nat) : Wk × Int :=
  let x := oldM wk nd (nd.path.drop c)
  let y := entryM x.1 x.2 (path.drop c) value
  let z := makeM y.1 y.2
  stemM z.1 (path.take c) z.2
/-- what a node on the way says to a putting: what is made, or where to go on and what is made then. -/
def putStep (cs : List (Int × List Int)) (nd : MNode) (path : List Int) (value : ByteArray) : (Wk × Int) ⊕ (Int × List Int × (Wk → Int → Wk × Int)) :=
  if nd.kind = 1 ∧ com nd.path path = nd.path.length ∧ com nd.path path = path.length then .inl (leafM (cs, 0) path value)
  else if nd.kind = 1 ∨ com nd.path path < nd.path.length then .inl (partM (cs, 0) nd path value (com nd.path path))
  else if nd.kind = 2 then .inr (kid0 nd, path.drop (com nd.path path), fun wk m => stemM wk nd.path m)
  else match path with
    | [] => .inl (makeM (cs, 0) { nd with val := value })
    | a :: r => .inr (kidAt nd.kids a, r, fun wk m => if wk.2 ≠ 0 then (wk, 0) else makeM wk (withKidM nd a m))
def PutIs (cs : List (Int × List Int)) (value : ByteArray) : Nat → Int → List Int → Wk × Int → Prop
  | 0, _, _, _ => False
  | f + 1, root, path, x =>
    (root = 0 ∧ x = leafM (cs, 0) path value) ∨
    (root ≠ 0 ∧ ∃ nd b, HitIs cs root nd b ∧
      ((b = false ∧ x = ((cs, 2), 0)) ∨
       (b = true ∧ ((∃ r, putStep cs nd path value = .inl r ∧ x = r) ∨ (∃ r y, putStep cs nd path value = .inr r ∧ PutIs cs value f r.1 r.2.1 y ∧ x = r.2.2 y.1 y.2)))))
theorem PutIs.one {cs : List (Int × List Int)} {value : ByteArray} (f f' : Nat) {root : Int} {path : List Int} {x x' : Wk × Int} (h : PutIs cs value f root path x) (h' : PutIs cs value f' root path x') : x = x' := by
  induction f generalizing f' root path x x' with
  | zero => exact h.elim
  | succ f ih =>
    cases f' with
    | zero => exact h'.elim
    | succ f' =>
      unfold PutIs at h h'
      rcases h with ⟨h0, rfl⟩ | ⟨h0, nd, b, hit, h⟩ <;> rcases h' with ⟨h0', rfl⟩ | ⟨h0', nd', b', hit', h'⟩
      · rfl
      · exact absurd h0 h0'
      · exact absurd h0' h0
      · obtain ⟨rfl, rfl⟩ := hit.one hit'
        rcases h with ⟨hb, rfl⟩ | ⟨hb, h⟩ <;> rcases h' with ⟨hb', rfl⟩ | ⟨hb', h'⟩
        · rfl
        · rw [hb] at hb'; cases hb'
        · rw [hb] at hb'; cases hb'
        · rcases h with ⟨r, e, rfl⟩ | ⟨r, y, e, h, rfl⟩ <;> rcases h' with ⟨r', e', rfl⟩ | ⟨r', y', e', h', rfl⟩
          · rw [e] at e'; cases e'; rfl
          · rw [e] at e'; cases e'
          · rw [e] at e'; cases e'
          · rw [e] at e'; cases e'
            rw [ih f' h h']
/-- the cells that were there, with those of a list of names that are among all. -/
def grownM (cs all : List (Int × List Int)) (l : List Int) : List (Int × List Int) :=
  l.foldl (fun out x => if findC all x < all.length then addC out (cel all (findC all x)).1 (cel all (findC all x)).2 else out) cs
/-- what comes of what was made. -/
def DoneIs (cs : List (Int × List Int)) (root : Int) (x : Wk × Int) (l : List (Int × List Int)) (r k : Int) : Prop :=
  (x.1.2 ≠ 0 ∧ l = cs ∧ r = root ∧ k = x.1.2) ∨
  (x.1.2 = 0 ∧ ∃ t, RiseI t ∧ (∀ y, y ∈ t ↔ Reached x.1.1 [x.2] y) ∧
    ((80 < (grownM cs x.1.1 t).length ∧ l = cs ∧ r = root ∧ k = 4) ∨ (¬ 80 < (grownM cs x.1.1 t).length ∧ l = grownM cs x.1.1 t ∧ r = x.2 ∧ k = 0)))
theorem DoneIs.one {cs : List (Int × List Int)} {root : Int} {x : Wk × Int} {l l' : List (Int × List Int)} {r k r' k' : Int} (h : DoneIs cs root x l r k) (h' : DoneIs cs root x l' r' k') : l = l' ∧ r = r' ∧ k = k' := by
  rcases h with ⟨a, rfl, rfl, rfl⟩ | ⟨a, t, ht, hm, h⟩ <;> rcases h' with ⟨a', rfl, rfl, rfl⟩ | ⟨a', t', ht', hm', h'⟩
  · exact ⟨rfl, rfl, rfl⟩
  · exact absurd a' a
  · exact absurd a a'
  · have e := riseI_one t t' ht ht' (fun y => (hm y).trans (hm' y).symm)
    subst e
    rcases h with ⟨b, rfl, rfl, rfl⟩ | ⟨b, rfl, rfl, rfl⟩ <;> rcases h' with ⟨b', rfl, rfl, rfl⟩ | ⟨b', rfl, rfl, rfl⟩
    · exact ⟨rfl, rfl, rfl⟩
    · exact absurd b b'
    · exact absurd b' b
    · exact ⟨rfl, rfl, rfl⟩
/-- the answer of PutIn. -/
def PutInIs (cs : List (Int × List Int)) (root : Int) (key value : ByteArray) (l : List (Int × List Int)) (r k : Int) : Prop :=
  (¬ ((Right cs ∧ isKey (sb key) = true ∧ 0 ≤ root) ∧ valOk (sb value) = true) ∧ l = [] ∧ r = 0 ∧ k = 3) ∨
  (((Right cs ∧ isKey (sb key) = true ∧ 0 ≤ root) ∧ valOk (sb value) = true) ∧ ∃ f x, PutIs cs value f root (pathOf (sb key)) x ∧ DoneIs cs root x l r k)
theorem PutInIs.one {cs : List (Int × List Int)} {root : Int} {key value : ByteArray} {l l' : List (Int × List Int)} {r k r' k' : Int} (h : PutInIs cs root key value l r k) (h' : PutInIs cs root key value l' r' k') : l = l' ∧ r = r' ∧ k = k' := by
  rcases h with ⟨a, rfl, rfl, rfl⟩ | ⟨a, f, x, hp, hd⟩ <;> rcases h' with ⟨a', rfl, rfl, rfl⟩ | ⟨a', f', x', hp', hd'⟩
  · exact ⟨rfl, rfl, rfl⟩
  · exact absurd a' a
  · exact absurd a a'
  · rw [hp.one f f' hp'] at hd
    exact hd.one hd'

/-- cells that rise, each of a node under its name. -/
structure Good (cs : List (Int × List Int)) : Prop where
  at_ : ∀ i, i < cs.length → CellAt cs i
theorem Good.rise {cs : List (Int × List Int)} (h : Good cs) : Rise cs := by
  intro i j hij hj
  induction j with
  | zero => omega
  | succ j ih =>
    have h1 := (h.at_ (j + 1) hj).2.2 (by omega)
    rw [Nat.add_sub_cancel] at h1
    rcases Nat.lt_or_ge i j with h2 | h2
    · have := ih h2 (by omega)
      omega
    · rw [show i = j by omega]; exact h1
theorem Right.good {cs : List (Int × List Int)} (h : Right cs) : Good cs := ⟨h.2⟩
theorem Good.of {cs : List (Int × List Int)} (hr : Rise cs) (h : ∀ i, i < cs.length → IsNode (cel cs i).2 ∧ nameOf (cel cs i).2 = (cel cs i).1) : Good cs :=
  ⟨fun i hi => ⟨(h i hi).1, (h i hi).2, fun h0 => hr (i - 1) i (by omega) hi⟩⟩
theorem placeC_below (cs : List (Int × List Int)) (m : Int) (i : Nat) (h : i < placeC cs m) : (cel cs i).1 ≤ m := by
  have hl := placeC_le cs m
  have h2 := List.not_of_lt_findIdx (show i < cs.findIdx fun c => decide (m < c.1) from h)
  unfold cel
  rw [List.getElem?_eq_getElem (by omega)]
  simpa using h2
theorem placeC_above (cs : List (Int × List Int)) (m : Int) (h : placeC cs m < cs.length) : m < (cel cs (placeC cs m)).1 := by
  have h2 := List.findIdx_getElem (w := show cs.findIdx (fun c => decide (m < c.1)) < cs.length from h)
  have h2 : m < cs[placeC cs m].1 := of_decide_eq_true h2
  unfold cel
  rw [List.getElem?_eq_getElem h]
  exact h2
theorem insC_rise (cs : List (Int × List Int)) (m : Int) (bs : List Int) (hr : Rise cs) (hn : ¬ findC cs m < cs.length) : Rise (insC cs m bs) := by
  have hp := placeC_le cs m
  have hno : ∀ i, i < cs.length → (cel cs i).1 ≠ m := fun i hi => findC_not cs m i (by omega)
  have hlo : ∀ i, i < placeC cs m → (cel cs i).1 < m := fun i hi => by
    have := placeC_below cs m i hi
    have := hno i (by omega)
    omega
  have hhi : ∀ i, placeC cs m ≤ i → i < cs.length → m < (cel cs i).1 := fun i h1 h2 => by
    have h3 := placeC_above cs m (by omega)
    rcases Nat.lt_or_ge (placeC cs m) i with h4 | h4
    · have := hr (placeC cs m) i h4 h2; omega
    · rw [show i = placeC cs m by omega]; exact h3
  intro i j hij hj
  rw [insC_len] at hj
  unfold insC
  rw [cel_ins cs _ _ hp i, cel_ins cs _ _ hp j]
  by_cases h1 : i < placeC cs m
  · rw [if_pos h1]
    by_cases h2 : j < placeC cs m
    · rw [if_pos h2]; exact hr i j hij (by omega)
    · rw [if_neg h2]
      by_cases h3 : j = placeC cs m
      · rw [if_pos h3]; exact hlo i h1
      · rw [if_neg h3]
        have := hlo i h1
        have := hhi (j - 1) (by omega) (by omega)
        omega
  · rw [if_neg h1, if_neg (show ¬ j < placeC cs m by omega), if_neg (show ¬ j = placeC cs m by omega)]
    by_cases h3 : i = placeC cs m
    · rw [if_pos h3]; exact hhi (j - 1) (by omega) (by omega)
    · rw [if_neg h3]; exact hr (i - 1) (j - 1) (by omega) (by omega)
theorem Good.add {cs : List (Int × List Int)} (h : Good cs) {m : Int} {bs : List Int} (hb : IsNode bs) (hm : nameOf bs = m) : Good (addC cs m bs) := by
  unfold addC
  split
  · exact h
  · rename_i hn
    refine Good.of (insC_rise cs m bs h.rise hn) fun i hi => ?_
    rw [insC_len] at hi
    unfold insC
    rw [cel_ins cs _ _ (placeC_le cs m) i]
    split
    · have hp := placeC_le cs m
      exact ⟨(h.at_ i (by omega)).1, (h.at_ i (by omega)).2.1⟩
    · split
      · exact ⟨hb, hm⟩
      · have hp := placeC_le cs m
        exact ⟨(h.at_ (i - 1) (by omega)).1, (h.at_ (i - 1) (by omega)).2.1⟩
theorem addC_len (cs : List (Int × List Int)) (m : Int) (bs : List Int) : cs.length ≤ (addC cs m bs).length ∧ (addC cs m bs).length ≤ cs.length + 1 := by
  unfold addC
  split
  · omega
  · rw [insC_len]; omega
end Go.Proofs.YtigdcmfmaehjfaaGreat

-- ChgAM: Plain facts on changes done to a base. No statement of the program is proved here.
namespace Go.Proofs.YtigdcmfmaehjfaaGreat
set_option maxRecDepth 20000
set_option linter.unusedVariables false
set_option linter.unusedSimpArgs false
open Go.RowKit

def intoL (l : List Int) (m : Int) : List Int := if m ∈ l then l else insI l m
def lessL (l : List Int) (m : Int) : List Int := l.filter fun x => decide (x ≠ m)
def addL (cs : List (Int × List Int)) (m : Int) (bs : List Int) : List (Int × List Int) := if findC cs m < cs.length then cs else insC cs m bs
theorem intoL_rise {l : List Int} {m : Int} (h : RiseI l) : RiseI (intoL l m) := by
  unfold intoL
  split
  · exact h
  · exact insI_rise _ _ h ‹_›
theorem intoL_len (l : List Int) (m : Int) : (intoL l m).length ≤ l.length + 1 := by
  unfold intoL
  split
  · omega
  · rw [insI_len]; omega
theorem lessL_rise {l : List Int} {m : Int} (h : RiseI l) : RiseI (lessL l m) := h.sublist List.filter_sublist
theorem lessL_len (l : List Int) (m : Int) : (lessL l m).length ≤ l.length := List.length_filter_le _ _
theorem lessL_step (l : List Int) (m : Int) (k : Nat) (hk : k < l.length) : lessL (l.take (k + 1)) m = if l[k]?.getD 0 = m then lessL (l.take k) m else lessL (l.take k) m ++ [l[k]?.getD 0] := by
  unfold lessL
  rw [List.take_succ_eq_append_getElem hk, List.filter_append, List.getElem?_eq_getElem hk]
  simp only [Option.getD_some]
  by_cases h : l[k] = m
  · rw [if_pos h]; simp [h]
  · rw [if_neg h]; simp [h]
theorem rise_pair {cs : List (Int × List Int)} : Rise cs ↔ cs.Pairwise (fun a b => a.1 < b.1) := by
  rw [List.pairwise_iff_getElem]
  constructor
  · intro h i j hi hj hij
    have := h i j hij hj
    unfold cel at this
    rw [List.getElem?_eq_getElem hi, List.getElem?_eq_getElem hj] at this
    exact this
  · intro h i j hij hj
    unfold cel
    rw [List.getElem?_eq_getElem (show i < cs.length by omega), List.getElem?_eq_getElem hj]
    exact h i j (by omega) hj hij
theorem lessC_rise {cs : List (Int × List Int)} {m : Int} (h : Rise cs) : Rise (lessC cs m) := rise_pair.2 ((rise_pair.1 h).sublist List.filter_sublist)
theorem lessC_len (cs : List (Int × List Int)) (m : Int) : (lessC cs m).length ≤ cs.length := List.length_filter_le _ _
theorem addL_rise {cs : List (Int × List Int)} {m : Int} {bs : List Int} (h : Rise cs) : Rise (addL cs m bs) := by
  unfold addL
  split
  · exact h
  · exact insC_rise cs m bs h ‹_›
theorem addL_len (cs : List (Int × List Int)) (m : Int) (bs : List Int) : (addL cs m bs).length ≤ cs.length + 1 := by
  unfold addL
  split
  · omega
  · rw [insC_len]; omega
/-- the bytes of all these cells are not too many. -/
def SmallC (cs : List (Int × List Int)) : Prop := ∀ x, x ∈ cs → x.2.length ≤ 1048576
theorem SmallC.cl {cs : List (Int × List Int)} (h : SmallC cs) (i : Nat) : (cel cs i).2.length ≤ 1048576 := by
  rcases Nat.lt_or_ge i cs.length with hi | hi
  · exact h _ (cel_mem cs i hi)
  · unfold cel
    rw [List.getElem?_eq_none hi]; simp
theorem SmallC.of {cs : List (Int × List Int)} (h : ∀ i, (cel cs i).2.length ≤ 1048576) : SmallC cs := by
  intro x hx
  obtain ⟨i, hi, rfl⟩ := List.mem_iff_getElem.1 hx
  have := h i
  unfold cel at this
  rw [List.getElem?_eq_getElem hi] at this
  exact this
theorem lessC_small {cs : List (Int × List Int)} {m : Int} (h : SmallC cs) : SmallC (lessC cs m) := fun x hx => h x (List.mem_filter.1 hx).1
theorem addL_small {cs : List (Int × List Int)} {m : Int} {bs : List Int} (h : SmallC cs) (hb : bs.length ≤ 1048576) : SmallC (addL cs m bs) := by
  unfold addL
  split
  · exact h
  · intro x hx
    unfold insC at hx
    rcases List.mem_append.1 hx with hx | hx
    · exact h x (List.mem_of_mem_take hx)
    · rcases List.mem_cons.1 hx with e | hx
      · rw [e]; exact hb
      · exact h x (List.mem_of_mem_drop hx)
/-- one change done to a base. -/
def changeOne (b : MBase) (c : MChg) : MBase :=
  if c.kind = 1 then { b with cells := addL b.cells c.name c.bytes }
  else if c.kind = 2 then { b with cells := lessC b.cells c.name, black := lessL b.black c.name }
  else if c.kind = 3 then { b with head := c.name }
  else if c.kind = 4 then { b with pins := intoL b.pins c.name }
  else if c.kind = 5 then { b with pins := lessL b.pins c.name }
  else if c.kind = 6 then { b with grey := b.grey ++ [c.name] }
  else if c.kind = 7 then { b with grey := b.grey.take (b.grey.length - 1) }
  else if c.kind = 8 then { b with black := intoL b.black c.name }
  else if c.kind = 9 then { b with phase := c.name }
  else if c.kind = 10 then { b with cursor := c.name }
  else if c.kind = 11 then { b with grey := [], black := [] }
  else b
/-- what holds of a base while it is changed: its lists rise, and are not too long. -/
structure MidOk (k : Nat) (b : MBase) : Prop where
  cells : Rise b.cells
  small : SmallC b.cells
  pins : RiseI b.pins
  black : RiseI b.black
  n : b.cells.length ≤ 80 + k
  np : b.pins.length ≤ 6 + k
  ng : b.grey.length ≤ 80 + k
  nb : b.black.length ≤ 80 + k
set_option maxHeartbeats 1600000 in
theorem MidOk.step {k : Nat} {b : MBase} {c : MChg} (h : MidOk k b) (hb : c.bytes.length ≤ 1048576) : MidOk (k + 1) (changeOne b c) := by
  obtain ⟨h1, h2, h3, h4, h5, h6, h7, h8⟩ := h
  have a1 := addL_len b.cells c.name c.bytes
  have a2 := lessC_len b.cells c.name
  have a3 := lessL_len b.black c.name
  have a4 := lessL_len b.pins c.name
  have a5 := intoL_len b.pins c.name
  have a6 := intoL_len b.black c.name
  unfold changeOne
  split
  · exact ⟨addL_rise h1, addL_small h2 hb, h3, h4, by simp only; omega, by simp only; omega, by simp only; omega, by simp only; omega⟩
  split
  · exact ⟨lessC_rise h1, lessC_small h2, h3, lessL_rise h4, by simp only; omega, by simp only; omega, by simp only; omega, by simp only; omega⟩
  split
  · exact ⟨h1, h2, h3, h4, by simp only; omega, by simp only; omega, by simp only; omega, by simp only; omega⟩
  split
  · exact ⟨h1, h2, intoL_rise h3, h4, by simp only; omega, by simp only; omega, by simp only; omega, by simp only; omega⟩
  split
  · exact ⟨h1, h2, lessL_rise h3, h4, by simp only; omega, by simp only; omega, by simp only; omega, by simp only; omega⟩
  split
  · exact ⟨h1, h2, h3, h4, by simp only; omega, by simp only; omega, by simp; omega, by simp only; omega⟩
  split
  · exact ⟨h1, h2, h3, h4, by simp only; omega, by simp only; omega, by simp; omega, by simp only; omega⟩
  split
  · exact ⟨h1, h2, h3, intoL_rise h4, by simp only; omega, by simp only; omega, by simp only; omega, by simp only; omega⟩
  split
  · exact ⟨h1, h2, h3, h4, by simp only; omega, by simp only; omega, by simp only; omega, by simp only; omega⟩
  split
  · exact ⟨h1, h2, h3, h4, by simp only; omega, by simp only; omega, by simp only; omega, by simp only; omega⟩
  split
  · exact ⟨h1, h2, h3, List.Pairwise.nil, by simp only; omega, by simp only; omega, by simp, by simp⟩
  · exact ⟨h1, h2, h3, h4, by omega, by omega, by omega, by omega⟩
/-- what the changes make of a right base; the base itself, and false, where one of them is none, or it is not right behind them. -/
def AllIs (b : MBase) (l : List MChg) (y : MBase) (r : Bool) : Prop :=
  (BaseGood b ∧ l.length ≤ 200 ∧ (∀ x, x ∈ l → ChgOk x) ∧ BaseGood (l.foldl changeOne b) ∧ y = l.foldl changeOne b ∧ r = true) ∨
  (BaseGood b ∧ ¬ (l.length ≤ 200 ∧ (∀ x, x ∈ l → ChgOk x) ∧ BaseGood (l.foldl changeOne b)) ∧ y = b ∧ r = false) ∨
  (¬ BaseGood b ∧ y = ⟨[], 0, [], 0, [], [], 0⟩ ∧ r = false)
theorem AllIs.one {b : MBase} {l : List MChg} {y y' : MBase} {r r' : Bool} (h : AllIs b l y r) (h' : AllIs b l y' r') : y = y' ∧ r = r' := by
  rcases h with ⟨a, a1, a2, a3, rfl, rfl⟩ | ⟨a, a1, rfl, rfl⟩ | ⟨a, rfl, rfl⟩ <;> rcases h' with ⟨c, c1, c2, c3, rfl, rfl⟩ | ⟨c, c1, rfl, rfl⟩ | ⟨c, rfl, rfl⟩
  · exact ⟨rfl, rfl⟩
  · exact absurd ⟨a1, a2, a3⟩ c1
  · exact absurd a c
  · exact absurd ⟨c1, c2, c3⟩ a1
  · exact ⟨rfl, rfl⟩
  · exact absurd a c
  · exact absurd c a
  · exact absurd c a
  · exact ⟨rfl, rfl⟩
theorem good_mid {b : MBase} (h : BaseGood b) (hs : SmallC b.cells) : MidOk 0 b := by
  have h80 := h.1.cells.1
  have hgk : b.grey.length + b.black.length ≤ 80 := by
    rcases h.2 with ⟨_, h1, h2, _⟩ | ⟨_, h1⟩ | ⟨_, h1⟩
    · rw [h1, h2]; simp
    · have h2 := named_len b.cells _ h1.apart h1.names
      rw [List.length_append] at h2
      omega
    · have h2 := named_len b.cells _ (riseI_nodup _ h.1.black) h1.names
      rw [h1.grey]; simp; omega
  exact ⟨h.1.cells.rises, hs, h.1.rise, h.1.black, by omega, by have := h.1.few; omega, by omega, by omega⟩
end Go.Proofs.YtigdcmfmaehjfaaGreat

-- ChOne: Changes without bytes: one of them; a list of them. No statement of the program is proved here.
namespace Go.Proofs.YtigdcmfmaehjfaaGreat
set_option maxRecDepth 20000
set_option linter.unusedVariables false
set_option linter.unusedSimpArgs false
open Go.RowKit

/-- a change without bytes. -/
def ch1 (k m : Int) : MChg := ⟨k, m, []⟩
/-- an answer of a base: this where it is right, else that. -/
def AnsIs (b : MBase) (good bad : List MChg × Int) (l : List MChg) (k : Int) : Prop := (BaseGood b ∧ l = good.1 ∧ k = good.2) ∨ (¬ BaseGood b ∧ l = bad.1 ∧ k = bad.2)
theorem AnsIs.one {b : MBase} {good bad : List MChg × Int} {l l' : List MChg} {k k' : Int} (h : AnsIs b good bad l k) (h' : AnsIs b good bad l' k') : l = l' ∧ k = k' := by
  rcases h with ⟨a, rfl, rfl⟩ | ⟨a, rfl, rfl⟩ <;> rcases h' with ⟨a', rfl, rfl⟩ | ⟨a', rfl, rfl⟩
  · exact ⟨rfl, rfl⟩
  · exact absurd a a'
  · exact absurd a' a
  · exact ⟨rfl, rfl⟩
def GaveAns (b : MBase) (good bad : List MChg × Int) (w : World) (e : Ending) (w' : World) : Prop :=
  ∃ A n c l k, e = .returned (.tuple #[.slice A n c, .int .i64 k]) ∧ AnsIs b good bad l k ∧ OwnCh w' w.heap.size w'.heap.size A n c l ∧ Below w.heap.size w w'
/-- one change without bytes, in a block of its own. -/
theorem OwnCh.lit1 (w : World) (k m : Int) : OwnCh (w.alloc (.cells #[.int .i64 k, .int .i64 m, .slice none 0 0] 75)) w.heap.size (w.heap.size + 1) (some ⟨w.heap.size, 0, none⟩) 1 1 [ch1 k m] := by
  refine ⟨rfl, fun b h => by simp [Value.ownBlock] at h; omega, fun _ => ⟨none, 0, 0, []⟩, ?_, fun i hi => ?_, fun i j hi hj hij => by omega, fun i hi b h => by simp [Sub.v, Value.ownBlock] at h, fun i hi b h => by simp [Sub.v, Value.ownBlock] at h⟩
  · exact World.ownsRow_lit w #[.int .i64 k, .int .i64 m, .slice none 0 0] 1 (Nat.le_refl _) (by unfold maxLen; omega) rfl
  · have e : i = 0 := by omega
    subst e
    exact Mine.nil _ _
/-- one more change without bytes. -/
theorem OwnCh.pushed1 {w w' : World} {lo hi hi' n c g cap : Nat} {A : Option Addr} {cs : List MChg} {k m : Int} {sl : Nat → Sub}
    (hl : cs.length = n) (hu : ∀ b, (Value.slice A n c).ownBlock = some b → b < hi) (hs : SubH w lo hi (Value.slice A n c).ownBlock n cs sl)
    (hr : w'.ownsRow lo 75 3 (.slice (some ⟨g, 0, none⟩) (n + 1) cap) (n + 1) (hvs n cs sl ++ [.int .i64 k, .int .i64 m, .slice none 0 0])) (hg : w.grownBy w' (Value.slice A n c).ownBlock)
    (hgo : (Value.slice A n c).ownBlock = some g ∨ g = w.heap.size) (hh : hi ≤ w.heap.size) (hi1 : w'.heap.size ≤ hi') : OwnCh w' lo hi' (some ⟨g, 0, none⟩) (n + 1) cap (cs ++ [ch1 k m]) :=
  OwnCh.pushed (x := ch1 k m) hl hu hs (Mine.nil _ _) (fun b h => by simp [Value.ownBlock] at h) hr hg hgo hh hi1
theorem ch1_bd (l : List MChg) (h : ∀ x, x ∈ l → x.bytes = []) (i : Nat) : (cx l i).bytes.length ≤ 1048576 := by
  unfold cx
  rcases Nat.lt_or_ge i l.length with hi | hi
  · rw [List.getElem?_eq_getElem hi]
    have := h _ (List.getElem_mem hi)
    simp only [Option.getD_some]
    rw [this]; simp
  · rw [List.getElem?_eq_none hi]; simp [chg0]
end Go.Proofs.YtigdcmfmaehjfaaGreat

-- SweepM: Plain facts on a step of a sweep. No statement of the program is proved here.
namespace Go.Proofs.YtigdcmfmaehjfaaGreat
set_option maxRecDepth 20000
set_option linter.unusedVariables false
set_option linter.unusedSimpArgs false
open Go.RowKit

/-- the names of these kids that were not seen, each once. -/
def fresh : List Int → List (Int × Int) → List Int
  | _, [] => []
  | seen, k :: r => if k.2 ∈ seen then fresh seen r else k.2 :: fresh (seen ++ [k.2]) r
theorem fresh_len (seen : List Int) (ks : List (Int × Int)) : (fresh seen ks).length ≤ ks.length := by
  induction ks generalizing seen with
  | nil => simp [fresh]
  | cons k r ih =>
    simp only [fresh]
    split
    · have := ih seen; simp; omega
    · have := ih (seen ++ [k.2]); simp; omega
/-- what is seen behind some of the kids, and what was not. -/
def freshTo (seen : List Int) (ks : List (Int × Int)) (k : Nat) : List Int := fresh seen (ks.take k)
theorem fresh_append (seen : List Int) (a b : List (Int × Int)) : fresh seen (a ++ b) = fresh seen a ++ fresh (seen ++ fresh seen a) b := by
  induction a generalizing seen with
  | nil => simp [fresh]
  | cons x r ih =>
    simp only [List.cons_append, fresh]
    split
    · exact ih seen
    · rw [ih]; simp
theorem freshTo_step (seen : List Int) (ks : List (Int × Int)) (k : Nat) (hk : k < ks.length) : freshTo seen ks (k + 1) = if (ks[k]?.getD (0, 0)).2 ∈ seen ++ freshTo seen ks k then freshTo seen ks k else freshTo seen ks k ++ [(ks[k]?.getD (0, 0)).2] := by
  unfold freshTo
  rw [List.take_succ_eq_append_getElem hk, fresh_append, List.getElem?_eq_getElem hk]
  simp only [Option.getD_some, fresh]
  split
  · simp
  · rfl
theorem freshTo_len (seen : List Int) (ks : List (Int × Int)) (k : Nat) : (freshTo seen ks k).length ≤ k := by
  have := fresh_len seen (ks.take k)
  unfold freshTo
  simp at this
  omega
/-- the last number. -/
def lastOf (l : List Int) : Int := l[l.length - 1]?.getD 0
/-- the step of a sweep that goes through the cells. -/
def goneAt (b : MBase) : List MChg := match b.cells.find? (fun c => decide (b.cursor < c.1)) with
  | none => [ch1 11 0, ch1 10 0, ch1 9 0]
  | some c => (if c.1 ∈ b.black then [] else [ch1 2 c.1]) ++ [ch1 10 c.1]
theorem goneAt_at (b : MBase) (k : Nat) (hk : k < b.cells.length) (h0 : ∀ j, j < k → (cel b.cells j).1 ≤ b.cursor) (h1 : b.cursor < (cel b.cells k).1) :
    goneAt b = (if (cel b.cells k).1 ∈ b.black then [] else [ch1 2 (cel b.cells k).1]) ++ [ch1 10 (cel b.cells k).1] := by
  have key : ∀ (cs : List (Int × List Int)) (k : Nat), k < cs.length → (∀ j, j < k → (cel cs j).1 ≤ b.cursor) → b.cursor < (cel cs k).1 → cs.find? (fun c => decide (b.cursor < c.1)) = some (cel cs k) := by
    intro cs
    induction cs with
    | nil => intro k h; simp at h
    | cons x r ih =>
      intro k hk h0 h1
      rw [List.find?_cons]
      cases k with
      | zero =>
        have h1 : b.cursor < x.1 := by simpa [cel] using h1
        simp [h1, cel]
      | succ k =>
        have h2 : x.1 ≤ b.cursor := by simpa [cel] using h0 0 (by omega)
        have hd : decide (b.cursor < x.1) = false := decide_eq_false (by omega)
        rw [hd]
        simp only
        rw [ih k (by simpa using hk) (fun j hj => by simpa [cel] using h0 (j + 1) (by omega)) (by simpa [cel] using h1)]
        simp [cel]
  unfold goneAt
  rw [key b.cells k hk h0 h1]
theorem goneAt_none (b : MBase) (h0 : ∀ j, j < b.cells.length → (cel b.cells j).1 ≤ b.cursor) : goneAt b = [ch1 11 0, ch1 10 0, ch1 9 0] := by
  have : b.cells.find? (fun c => decide (b.cursor < c.1)) = none := by
    rw [List.find?_eq_none]
    intro c hc
    obtain ⟨i, hi, rfl⟩ := List.mem_iff_getElem.1 hc
    have h := h0 i hi
    unfold cel at h
    rw [List.getElem?_eq_getElem hi] at h
    simpa using h
  unfold goneAt
  rw [this]
/-- the changes of a step of a right base. -/
def StepIs (b : MBase) (l : List MChg) : Prop :=
  (b.phase = 0 ∧ l = ch1 9 1 :: (keptOf b).map (ch1 6)) ∨
  (b.phase = 1 ∧ ((b.grey = [] ∧ l = [ch1 9 2]) ∨ (b.grey ≠ [] ∧ ∃ nd is, HitIs b.cells (lastOf b.grey) nd is ∧ l = [ch1 7 0, ch1 8 (lastOf b.grey)] ++ (fresh (b.grey ++ b.black ++ [lastOf b.grey]) nd.kids).map (ch1 6)))) ∨
  (b.phase ≠ 0 ∧ b.phase ≠ 1 ∧ l = goneAt b)
theorem StepIs.one {b : MBase} {l l' : List MChg} (h : StepIs b l) (h' : StepIs b l') : l = l' := by
  rcases h with ⟨a, rfl⟩ | ⟨a, h⟩ | ⟨a, a2, rfl⟩ <;> rcases h' with ⟨a', rfl⟩ | ⟨a', h'⟩ | ⟨a', a2', rfl⟩
  · rfl
  · rw [a] at a'; omega
  · exact absurd a a'
  · rw [a] at a'; omega
  · rcases h with ⟨g, rfl⟩ | ⟨g, nd, is, h1, rfl⟩ <;> rcases h' with ⟨g', rfl⟩ | ⟨g', nd', is', h1', rfl⟩
    · rfl
    · exact absurd g g'
    · exact absurd g' g
    · obtain ⟨rfl, _⟩ := h1.one h1'
      rfl
  · exact absurd a a2'
  · exact absurd a' a
  · exact absurd a' a2
  · rfl
theorem StepIs.plain {b : MBase} {l : List MChg} (h : StepIs b l) (x : MChg) (hx : x ∈ l) : x.bytes = [] := by
  have hm : ∀ (k : Int) (r : List Int), x ∈ r.map (ch1 k) → x.bytes = [] := by
    intro k r h
    obtain ⟨m, _, rfl⟩ := List.mem_map.1 h
    rfl
  rcases h with ⟨a, rfl⟩ | ⟨a, ⟨_, rfl⟩ | ⟨_, nd, is, _, rfl⟩⟩ | ⟨a, a2, rfl⟩
  · rcases List.mem_cons.1 hx with e | e
    · subst e; rfl
    · exact hm _ _ e
  · simp at hx; subst hx; rfl
  · rcases List.mem_append.1 hx with e | e
    · simp at e; rcases e with rfl | rfl <;> rfl
    · exact hm _ _ e
  · unfold goneAt at hx
    split at hx
    · simp at hx; rcases hx with rfl | rfl | rfl <;> rfl
    · split at hx
      · simp at hx; subst hx; rfl
      · simp at hx; rcases hx with rfl | rfl <;> rfl
theorem StepIs.len {b : MBase} {l : List MChg} (h : StepIs b l) (hg : PreOk b) : l.length ≤ 100 := by
  rcases h with ⟨a, rfl⟩ | ⟨a, ⟨_, rfl⟩ | ⟨_, nd, is, hit, rfl⟩⟩ | ⟨a, a2, rfl⟩
  · have := keptOf_len b; have := hg.few; simp; omega
  · simp
  · have h1 := fresh_len (b.grey ++ b.black ++ [lastOf b.grey]) nd.kids
    have h2 := hit_kids hit
    simp
    simp at h1
    omega
  · unfold goneAt
    split
    · simp
    · split <;> simp
/-- what is told of a step of a sweep. -/
def SweepIs (b : MBase) (l : List MChg) (k : Int) : Prop := (BaseGood b ∧ StepIs b l ∧ k = 0) ∨ (¬ BaseGood b ∧ l = [] ∧ k = 1)
theorem SweepIs.one {b : MBase} {l l' : List MChg} {k k' : Int} (h : SweepIs b l k) (h' : SweepIs b l' k') : l = l' ∧ k = k' := by
  rcases h with ⟨a, h1, rfl⟩ | ⟨a, rfl, rfl⟩ <;> rcases h' with ⟨a', h1', rfl⟩ | ⟨a', rfl, rfl⟩
  · exact ⟨h1.one h1', rfl⟩
  · exact absurd a a'
  · exact absurd a' a
  · exact ⟨rfl, rfl⟩
theorem sweepOf_bd {b : MBase} {l : List MChg} {k : Int} {P : Prop} (h : SweepIs b l k) (_ : P) : l.length ≤ 1048576 ∧ ∀ i, (cx l i).bytes.length ≤ 1048576 := by
  rcases h with ⟨a, h1, _⟩ | ⟨_, rfl, _⟩
  · exact ⟨by have := h1.len a.1; omega, ch1_bd _ h1.plain⟩
  · exact ⟨by simp, ch1_bd _ (by simp)⟩
def GaveSweep (b : MBase) (w : World) (e : Ending) (w' : World) : Prop :=
  ∃ A n c l k, e = .returned (.tuple #[.slice A n c, .int .i64 k]) ∧ SweepIs b l k ∧ OwnCh w' w.heap.size w'.heap.size A n c l ∧ Below w.heap.size w w'
end Go.Proofs.YtigdcmfmaehjfaaGreat

-- SweepS: The model's step of a sweep: its helpers; a row of changes without bytes.
namespace Go.Proofs.YtigdcmfmaehjfaaGreat
set_option maxRecDepth 20000
set_option linter.unusedVariables false
set_option linter.unusedSimpArgs false
open Go.RowKit

/-- the cells of changes without bytes. -/
def pvs (l : List (Int × Int)) : List Value := l.flatMap fun p => [.int .i64 p.1, .int .i64 p.2, .slice none 0 0]
theorem pvs_append (a b : List (Int × Int)) : pvs (a ++ b) = pvs a ++ pvs b := by simp [pvs]
theorem pvs_len (l : List (Int × Int)) : (pvs l).length = l.length * 3 := by
  induction l with
  | nil => rfl
  | cons x r ih => simp only [pvs, List.flatMap_cons, List.length_append, List.length_cons, List.length_nil] at *; omega
/-- changes without bytes that the call owns. -/
def OwnP (w : World) (lo : Nat) (A : Option Addr) (n c : Nat) (l : List (Int × Int)) : Prop := w.ownsRow lo 75 3 (.slice A n c) n (pvs l)
theorem OwnP.below {w w' : World} {lo n c : Nat} {A : Option Addr} {l : List (Int × Int)} (h : OwnP w lo A n c l) (hb : Below w.heap.size w w') : OwnP w' lo A n c l :=
  own_touch (S := fun _ => False) h (Touch.of_below hb) (fun _ _ h => h)
theorem OwnP.touch {w w' : World} {lo n c : Nat} {A : Option Addr} {l : List (Int × Int)} {S : Nat → Prop} (h : OwnP w lo A n c l) (t : Touch S w w') (hn : ∀ g, (Value.slice A n c).ownBlock = some g → ¬ S g) : OwnP w' lo A n c l := own_touch h t hn
theorem OwnP.base {w : World} {lo lo' n c : Nat} {A : Option Addr} {l : List (Int × Int)} (h : OwnP w lo A n c l) (hb : lo' ≤ lo) : OwnP w lo' A n c l := by
  refine ⟨h.1, ?_⟩
  rcases h.2 with h | ⟨g, cap, cur, hv, hg, r⟩
  · exact .inl h
  · exact .inr ⟨g, cap, cur, hv, by omega, r⟩
theorem OwnP.more1 {w : World} {lo n c g : Nat} {l : List (Int × Int)} {k m : Int} (h : w.ownsRow lo 75 3 (.slice (some ⟨g, 0, none⟩) (n + 1) c) (n + 1) (pvs l ++ [.int .i64 k, .int .i64 m, .slice none 0 0])) : OwnP w lo (some ⟨g, 0, none⟩) (n + 1) c (l ++ [(k, m)]) := by
  unfold OwnP
  rw [pvs_append]
  exact h
theorem OwnP.len {w : World} {lo n c : Nat} {A : Option Addr} {l : List (Int × Int)} (h : OwnP w lo A n c l) : l.length = n := by
  have h1 := h.1
  rw [pvs_len] at h1
  omega
theorem OwnP.empty (w : World) (lo : Nat) (hl : lo ≤ w.heap.size) : OwnP (w.alloc (.cells #[] 75)) lo (some ⟨w.heap.size, 0, none⟩) 0 0 [] :=
  World.ownsRow_lit w #[] 0 hl (by unfold maxLen; omega) rfl
theorem OwnP.lit1 (w : World) (lo : Nat) (k m : Int) (hl : lo ≤ w.heap.size) : OwnP (w.alloc (.cells #[.int .i64 k, .int .i64 m, .slice none 0 0] 75)) lo (some ⟨w.heap.size, 0, none⟩) 1 1 [(k, m)] :=
  World.ownsRow_lit w #[.int .i64 k, .int .i64 m, .slice none 0 0] 1 hl (by unfold maxLen; omega) rfl
theorem OwnP.lit2 (w : World) (lo : Nat) (k m k2 m2 : Int) (hl : lo ≤ w.heap.size) : OwnP (w.alloc (.cells #[.int .i64 k, .int .i64 m, .slice none 0 0, .int .i64 k2, .int .i64 m2, .slice none 0 0] 75)) lo (some ⟨w.heap.size, 0, none⟩) 2 2 [(k, m), (k2, m2)] :=
  World.ownsRow_lit w #[.int .i64 k, .int .i64 m, .slice none 0 0, .int .i64 k2, .int .i64 m2, .slice none 0 0] 2 hl (by unfold maxLen; omega) rfl
theorem pvs_take (l : List (Int × Int)) (k : Nat) (hk : k ≤ l.length) : pvs (l.take k) = hvs k ((l.take k).map fun p => ch1 p.1 p.2) fun _ => ⟨none, 0, 0, []⟩ := by
  induction k with
  | zero => rfl
  | succ k ih =>
    rw [List.take_succ_eq_append_getElem (by omega), pvs_append, ih (by omega), List.map_append]
    have h := hvs_append k ((l.take k).map fun p => ch1 p.1 p.2) (fun _ => ⟨none, 0, 0, []⟩) ⟨none, 0, 0, []⟩ (l[k]'(by omega)).1 (l[k]'(by omega)).2 [] (by simp; omega)
    have e : (fun i => if i = k then (⟨none, 0, 0, []⟩ : Sub) else ⟨none, 0, 0, []⟩) = fun _ => ⟨none, 0, 0, []⟩ := by funext i; split <;> rfl
    rw [e] at h
    exact h
theorem pvs_hvs (l : List (Int × Int)) : pvs l = hvs l.length (l.map fun p => ch1 p.1 p.2) fun _ => ⟨none, 0, 0, []⟩ := by
  have h := pvs_take l l.length (Nat.le_refl _)
  rw [List.take_length] at h
  exact h
theorem OwnP.ch {w : World} {lo n c : Nat} {A : Option Addr} {l : List (Int × Int)} (h : OwnP w lo A n c l) : OwnCh w lo w.heap.size A n c (l.map fun p => ch1 p.1 p.2) := by
  have hn := h.len
  refine ⟨by simp [hn], fun b hb => (World.ownsRow.lt h b hb).2, fun _ => ⟨none, 0, 0, []⟩, ?_, fun i hi => ?_, fun i j hi hj hij b hb => by simp [Sub.v, Value.ownBlock] at hb, fun i hi b hb => by simp [Sub.v, Value.ownBlock] at hb, fun i hi b hb => by simp [Sub.v, Value.ownBlock] at hb⟩
  · have h2 : w.ownsRow lo 75 3 (.slice A n c) n (pvs l) := h
    rw [pvs_hvs, hn] at h2
    exact h2
  · have e : (cx (l.map fun p => ch1 p.1 p.2) i).bytes = [] := by
      unfold cx
      rw [List.getElem?_eq_getElem (by simp; omega)]
      simp [ch1]
    rw [e]
    exact Mine.nil _ _
theorem one_any (k m : Int) (w : World) :
    Calls Tryz.prog 89 #[.int .i64 k, .int .i64 m] w fun e w' => e = .returned (.agg #[.int .i64 k, .int .i64 m, .slice none 0 0]) ∧ Below w.heap.size w w' := by
  go_enter Tryz.func89, Tryz.ntmps89
  go_wp2
  refine bodyPost_ret (v := .agg #[.int .i64 k, .int .i64 m, .slice none 0 0]) (results_cell_row Tryz.results89 _ _ w.heap.size _ _ _ _ rfl (heap_alloc_new w _) Tryz.underlying75 rfl (by kernel_rfl)) rfl ?_
  exact ⟨rfl, (Below.refl _ _).alloc (Nat.le_refl _) _⟩
end Go.Proofs.YtigdcmfmaehjfaaGreat

-- ChgAS: The model's helpers that change a base: without a number; a copy.
namespace Go.Proofs.YtigdcmfmaehjfaaGreat
set_option maxRecDepth 20000
set_option linter.unusedVariables false
set_option linter.unusedSimpArgs false
open Go.RowKit

theorem l13Less_any (A : Option Addr) (n c : Nat) (xs : List Int) (m : Int) (B : Nat) (w : World) (hn : n ≤ 1048576) (hB : B ≤ w.heap.size) (hb : Ints w B A n xs) :
    Calls Tryz.prog 120 #[.slice A n c, .int .i64 m] w fun e w' => ∃ g n' c', e = .returned (.slice (some ⟨g, 0, none⟩) n' c') ∧ OwnI w' w.heap.size (some ⟨g, 0, none⟩) n' c' (lessL xs m) ∧ Below w.heap.size w w' := by
  have HB := Lib.hid (hb.more hB)
  have hlen := hb.1
  clear hb
  obtain ⟨i0, hi, hz0, hz1, hz2⟩ := info_parts Tryz.infoI
  have HI := Lib.hid hi
  have HZ0 := Lib.hid hz0
  have HZ1 := Lib.hid hz1
  have HZ2 := Lib.hid hz2
  clear hi hz0 hz1 hz2
  go_enter Tryz.func120, Tryz.ntmps120
  go_wp2
  go_loopw [5, 6] (fun o i wr => ∃ (k go no co : Nat) (l : List Int), k ≤ n ∧ i = .int .i64 k ∧ o = .slice (some ⟨go, 0, none⟩) no co ∧ no ≤ k ∧ l = lessL (xs.take k) m ∧ OwnI wr w.heap.size (some ⟨go, 0, none⟩) no co l ∧ Below w.heap.size w wr) (fun _ i _ => n - (intOf i).toNat)
  case atStart => exact ⟨0, w.heap.size, 0, 0, [], Nat.zero_le _, rfl, rfl, by omega, rfl, OwnI.empty w w.heap.size (Nat.le_refl _), (Below.refl _ _).alloc (Nat.le_refl _) _⟩
  case round =>
    obtain ⟨k, go, no, co, l, hk, rfl, rfl, hno, hl0, ho, hbel⟩ := hrel
    have OO := Lib.hid ho
    have BR := Lib.hid hbel
    have EQ := Lib.hid hl0
    have hsr : w.heap.size ≤ wr.heap.size := hbel.size
    have HK := Lib.hid (HB.out.below hbel)
    clear ho hbel hl0
    by_cases hlt : k < n
    · obtain ⟨b, off, rfl, hbB, h0⟩ := HK.out.at_ hlt
      have hst := lessL_step xs m k (by omega)
      obtain ⟨x, hx⟩ : ∃ x, xs[k]?.getD 0 = x := ⟨_, rfl⟩
      rw [hx] at h0 hst
      have ST := Lib.hid hst
      clear hst hx
      by_cases he : x = m
      · have hb0 : (x != m) = false := by simp [he]
        have HS := Lib.hid (ST.out.trans (if_pos he))
        clear he ST
        go_wp2
        go_roundw
        case rel => exact ⟨k + 1, go, no, co, l, by omega, by go_num, rfl, by omega, by rw [HS.out, EQ.out], OO.out, BR.out⟩
        case measure => simp [intOf]; omega
      · have hb0 : (x != m) = true := by simpa using he
        have HS := Lib.hid (ST.out.trans (if_neg he))
        clear he ST
        have ba : Below wr.heap.size wr (wr.alloc (.cells #[.int .i64 x] 2)) := (Below.refl _ _).alloc (Nat.le_refl _) _
        have oA : OwnI (wr.alloc (.cells #[.int .i64 x] 2)) w.heap.size (some ⟨go, 0, none⟩) no co l := OO.out.below ba
        go_wp2_with (at_builtin; go_loud (refine wpList_append_lies _ rfl _ _ 23 rfl w.heap.size 2 i0 (.int .i64 0) 1 8 Tryz.underlying23 HI.out HZ0.out HZ1.out HZ2.out rfl (by decide) (.slice (some ⟨go, 0, none⟩) no co) no (l.map (Value.int .i64)) (by simp [Act.eval]) oA ⟨wr.heap.size, 0, none⟩ 1 1 [.int .i64 x] (by simp [Act.eval]) rfl (by intro j u hj; match j, hj with | 0, hj => (simp at hj; subst hj; simp [Addr.add])) (by intro u hu; simp at hu; subst hu; rfl) (by omega) (by unfold maxLen; omega) (by omega) (by simp; omega) _ rfl ?_))
        intro g7 c7 w7 hown7 hgrow7 hor7 _
        have B7 := Lib.hid ((Below.alloc BR.out hsr (.cells #[.int .i64 x] 2)).grown hgrow7 (by simp; omega) (fun g hg => (World.ownsRow.lt oA g hg).1))
        have O7 := Lib.hid (show OwnI w7 w.heap.size (some ⟨g7, 0, none⟩) (no + 1) c7 (l ++ [x]) from by unfold OwnI; rw [List.map_append]; exact hown7)
        clear hown7 hgrow7 hor7 oA ba
        go_wp2
        go_roundw
        case rel => exact ⟨k + 1, g7, no + 1, c7, l ++ [x], by omega, by go_num, rfl, by omega, by rw [HS.out, EQ.out], O7.out, B7.out⟩
        case measure => simp [intOf]; omega
    · obtain rfl : k = n := by omega
      have hf : l = lessL xs m := by rw [EQ.out, List.take_of_length_le (by omega)]
      have HF := Lib.hid hf
      clear hf
      go_wp2
      go_ret
      exact ⟨_, _, _, rfl, by rw [← HF.out]; exact OO.out, BR.out⟩

/-- the lists of a base that a call made, each in a block of its own. -/
def Lay4 (g0 n c g1 np cp g2 ng cg g3 nb cb : Nat) : BLay := ⟨some ⟨g0, 0, none⟩, n, c, some ⟨g1, 0, none⟩, np, cp, some ⟨g2, 0, none⟩, ng, cg, some ⟨g3, 0, none⟩, nb, cb⟩
def Solid (L : BLay) : Prop := ∃ g0 n c g1 np cp g2 ng cg g3 nb cb, L = Lay4 g0 n c g1 np cp g2 ng cg g3 nb cb
def GaveBK (w : World) (b : MBase) (e : Ending) (w' : World) : Prop := ∃ L, e = .returned (BLay.v L b) ∧ Solid L ∧ OwnBK w' w.heap.size L b ∧ Below w.heap.size w w'
end Go.Proofs.YtigdcmfmaehjfaaGreat

-- ChgAC: The model's copy of a base.
namespace Go.Proofs.YtigdcmfmaehjfaaGreat
set_option maxRecDepth 20000
set_option linter.unusedVariables false
set_option linter.unusedSimpArgs false
open Go.RowKit

theorem own_blk' {g r n c : Nat} (h : (Value.slice (some ⟨r, 0, none⟩) n c).ownBlock = some g) : r = g := by simpa [Value.ownBlock] using h
set_option maxHeartbeats 1600000 in
theorem l13Copy_any (L : BLay) (b : MBase) (B : Nat) (w : World) (hs : L.n + L.np + L.ng + L.nb ≤ 1048576) (hm : ∀ i, (cel b.cells i).2.length ≤ 1048576) (hpos : ∀ i, i < L.n → 0 < (cel b.cells i).2.length)
    (hz1 : L.Ap = none → L.cp = 0) (hz2 : L.Ag = none → L.cg = 0) (hz3 : L.Ab = none → L.cb = 0) (hB : B ≤ w.heap.size) (hi : BaseIn w B L b) :
    Calls Tryz.prog 77 #[L.v b] w (GaveBK w b) := by
  obtain ⟨A, n, c, Ap, np, cp, Ag, ng, cg, Ab, nb, cb⟩ := L
  obtain ⟨cs, head, pins, phase, grey, black, cursor⟩ := b
  obtain ⟨hC, hP, hG, hBk⟩ := hi
  simp only at hs hm hpos hz1 hz2 hz3 hC hP hG hBk
  have hl0 := hC.1
  have hl1 := hP.1
  have hl2 := hG.1
  have hl3 := hBk.1
  unfold BLay.v
  simp only
  obtain ⟨w3, hw3⟩ : ∃ w3, ((w.alloc (.cells #[.slice A n c, .int .i64 head, .slice Ap np cp, .int .i64 phase, .slice Ag ng cg, .slice Ab nb cb, .int .i64 cursor] 30)).alloc (.cells #[.slice none 0 0, .int .i64 0, .slice none 0 0, .int .i64 0, .slice none 0 0, .slice none 0 0, .int .i64 0] 30)) = w3 := ⟨_, rfl⟩
  have x0 : Box w3 w.heap.size _ _ := hw3 ▸ heap2_0 _ _ _
  have x1 : Box w3 (w.heap.size + 1) _ _ := hw3 ▸ heap2_1 _ _ _
  have s3 : w3.heap.size = w.heap.size + 2 := hw3 ▸ size2 _ _ _
  have b3 : Below w.heap.size w w3 := hw3 ▸ below2 _ _ _
  have X0 := Lib.hid x0
  have X1 := Lib.hid x1
  have B3 := Lib.hid b3
  have HC := Lib.hid (hC.more hB)
  have HP := Lib.hid (hP.more hB)
  have HG := Lib.hid (hG.more hB)
  have HK := Lib.hid (hBk.more hB)
  have Z1 := Lib.hid hz1
  have Z2 := Lib.hid hz2
  have Z3 := Lib.hid hz3
  have HM := Lib.hid hm
  have HPO := Lib.hid hpos
  have q0 := x0.cell 0
  simp at q0
  clear x0 x1 b3 hC hP hG hBk hz1 hz2 hz3 hm hpos
  go_enter Tryz.func77, Tryz.ntmps77
  go_wp2_with fail

  refine (l4Copy_any A n c cs w.heap.size w3 (by omega) HM.out HPO.out (by omega) (HC.out.below B3.out)).mono ?_
  rintro e w4 ⟨gC, n1, c1, rfl, o4, b4⟩
  obtain rfl : n1 = n := o4.len.symm.trans hl0
  have s4 : w3.heap.size ≤ w4.heap.size := b4.size
  have X1 := Lib.hid (X1.out.below b4 (by omega))
  have x0 := X0.out.below b4 (by omega)
  have B4 := Lib.hid (B3.out.trans (b4.mono (by omega)))
  clear b4
  have p0 := x0.cell 0
  have p1 := x0.cell 1
  have p2 := x0.cell 2
  have p3 := x0.cell 3
  have p4 := x0.cell 4
  have p5 := x0.cell 5
  have p6 := x0.cell 6
  have f0 := x0.free
  simp at p0 p1 p2 p3 p4 p5 p6
  obtain ⟨w5, hw5⟩ : ∃ z, w4.setCell ⟨w.heap.size, 0, none⟩ (.slice (some ⟨gC, 0, none⟩) n1 c1) = z := ⟨_, rfl⟩
  have t5 : Touch (fun k => k = w.heap.size) w4 w5 := hw5 ▸ touch_set (S := fun k => k = w.heap.size) w4 w.heap.size 0 (.slice (some ⟨gC, 0, none⟩) n1 c1) rfl
  have y5 : Box w5 w.heap.size 30 #[.slice (some ⟨gC, 0, none⟩) n1 c1, .int .i64 head, .slice Ap np cp, .int .i64 phase, .slice Ag ng cg, .slice Ab nb cb, .int .i64 cursor] := hw5 ▸ x0.set_ 0 (.slice (some ⟨gC, 0, none⟩) n1 c1)
  have s5 : w4.heap.size ≤ w5.heap.size := t5.size
  have bb5 : Below w.heap.size w4 w5 := t5.below (by omega) (fun k hk e => by omega)
  have X0 := Lib.hid y5
  have x1 : Box w5 (w.heap.size + 1) _ _ := (t5.block _ (by omega) (fun e => by omega)).trans X1.out
  have X1 := Lib.hid x1
  have B5 := Lib.hid (B4.out.trans bb5)
  have O5 := Lib.hid (o4.touch t5 (fun b h1 h2 e => by omega))
  have qq := X0.out.cell 2
  simp at qq
  clear o4 t5 y5 bb5 x0 x1 q0
  go_wp2_with fail
  refine (l1Copy_any Ap np cp pins w.heap.size w5 (by omega) (by omega) Z1.out (HP.out.below B5.out)).mono ?_
  rintro e w6 ⟨g2, c2, rfl, o6, b6⟩
  have s6 : w5.heap.size ≤ w6.heap.size := b6.size
  have U6 := Lib.hid (World.ownsRow.lt o6 g2 (by simp [Value.ownBlock]))
  have O6 := Lib.hid (O5.out.below (b6.mono (by omega)))
  have P6 := Lib.hid o6
  clear o6 p0 p1 p2 p3 p4 p5 p6 f0 hw5 qq
  have X1 := Lib.hid (X1.out.below b6 (by omega))
  have x0 := X0.out.below b6 (by omega)
  have B6 := Lib.hid (B5.out.trans (b6.mono (by omega)))
  clear b6
  have p0 := x0.cell 0
  have p1 := x0.cell 1
  have p2 := x0.cell 2
  have p3 := x0.cell 3
  have p4 := x0.cell 4
  have p5 := x0.cell 5
  have p6 := x0.cell 6
  have f0 := x0.free
  simp at p0 p1 p2 p3 p4 p5 p6
  obtain ⟨w7, hw7⟩ : ∃ z, w6.setCell ⟨w.heap.size, 2, none⟩ (.slice (some ⟨g2, 0, none⟩) np c2) = z := ⟨_, rfl⟩
  have t7 : Touch (fun k => k = w.heap.size) w6 w7 := hw7 ▸ touch_set (S := fun k => k = w.heap.size) w6 w.heap.size 2 (.slice (some ⟨g2, 0, none⟩) np c2) rfl
  have y7 : Box w7 w.heap.size 30 #[.slice (some ⟨gC, 0, none⟩) n1 c1, .int .i64 head, .slice (some ⟨g2, 0, none⟩) np c2, .int .i64 phase, .slice Ag ng cg, .slice Ab nb cb, .int .i64 cursor] := hw7 ▸ x0.set_ 2 (.slice (some ⟨g2, 0, none⟩) np c2)
  have s7 : w6.heap.size ≤ w7.heap.size := t7.size
  have bb7 : Below w.heap.size w6 w7 := t7.below (by omega) (fun k hk e => by omega)
  have X0 := Lib.hid y7
  have x1 : Box w7 (w.heap.size + 1) _ _ := (t7.block _ (by omega) (fun e => by omega)).trans X1.out
  have X1 := Lib.hid x1
  have B7 := Lib.hid (B6.out.trans bb7)
  have O7 := Lib.hid (O6.out.touch t7 (fun b h1 h2 e => by omega))
  have P7 := Lib.hid (P6.out.touch t7 (fun g hg e => by have h1 := own_blk' hg; have := U6.out.1; omega))
  have qq := X0.out.cell 4
  simp at qq
  clear t7 y7 bb7 x0 x1
  go_wp2_with fail
  refine (l1Copy_any Ag ng cg grey w.heap.size w7 (by omega) (by omega) Z2.out (HG.out.below B7.out)).mono ?_
  rintro e w8 ⟨g3, c3, rfl, o8, b8⟩
  have s8 : w7.heap.size ≤ w8.heap.size := b8.size
  have U8 := Lib.hid (World.ownsRow.lt o8 g3 (by simp [Value.ownBlock]))
  have O8 := Lib.hid (O7.out.below (b8.mono (by omega)))
  have P8 := Lib.hid (P7.out.below b8)
  have G8 := Lib.hid o8
  clear o8 p0 p1 p2 p3 p4 p5 p6 f0 hw7 qq
  have X1 := Lib.hid (X1.out.below b8 (by omega))
  have x0 := X0.out.below b8 (by omega)
  have B8 := Lib.hid (B7.out.trans (b8.mono (by omega)))
  clear b8
  have p0 := x0.cell 0
  have p1 := x0.cell 1
  have p2 := x0.cell 2
  have p3 := x0.cell 3
  have p4 := x0.cell 4
  have p5 := x0.cell 5
  have p6 := x0.cell 6
  have f0 := x0.free
  simp at p0 p1 p2 p3 p4 p5 p6
  obtain ⟨w9, hw9⟩ : ∃ z, w8.setCell ⟨w.heap.size, 4, none⟩ (.slice (some ⟨g3, 0, none⟩) ng c3) = z := ⟨_, rfl⟩
  have t9 : Touch (fun k => k = w.heap.size) w8 w9 := hw9 ▸ touch_set (S := fun k => k = w.heap.size) w8 w.heap.size 4 (.slice (some ⟨g3, 0, none⟩) ng c3) rfl
  have y9 : Box w9 w.heap.size 30 #[.slice (some ⟨gC, 0, none⟩) n1 c1, .int .i64 head, .slice (some ⟨g2, 0, none⟩) np c2, .int .i64 phase, .slice (some ⟨g3, 0, none⟩) ng c3, .slice Ab nb cb, .int .i64 cursor] := hw9 ▸ x0.set_ 4 (.slice (some ⟨g3, 0, none⟩) ng c3)
  have s9 : w8.heap.size ≤ w9.heap.size := t9.size
  have bb9 : Below w.heap.size w8 w9 := t9.below (by omega) (fun k hk e => by omega)
  have X0 := Lib.hid y9
  have x1 : Box w9 (w.heap.size + 1) _ _ := (t9.block _ (by omega) (fun e => by omega)).trans X1.out
  have X1 := Lib.hid x1
  have B9 := Lib.hid (B8.out.trans bb9)
  have O9 := Lib.hid (O8.out.touch t9 (fun b h1 h2 e => by omega))
  have P9 := Lib.hid (P8.out.touch t9 (fun g hg e => by have h1 := own_blk' hg; have := U6.out.1; omega))
  have G9 := Lib.hid (G8.out.touch t9 (fun g hg e => by have h1 := own_blk' hg; have := U8.out.1; omega))
  have qq := X0.out.cell 5
  simp at qq
  clear t9 y9 bb9 x0 x1
  go_wp2_with fail
  refine (l1Copy_any Ab nb cb black w.heap.size w9 (by omega) (by omega) Z3.out (HK.out.below B9.out)).mono ?_
  rintro e wA ⟨g4, c4, rfl, oA, bA⟩
  have sA : w9.heap.size ≤ wA.heap.size := bA.size
  have UA := Lib.hid (World.ownsRow.lt oA g4 (by simp [Value.ownBlock]))
  have OA := Lib.hid (O9.out.below (bA.mono (by omega)))
  have PA := Lib.hid (P9.out.below bA)
  have GA := Lib.hid (G9.out.below bA)
  have KA := Lib.hid oA
  have x0 := X0.out.below bA (by omega)
  have x1 := X1.out.below bA (by omega)
  have BA := Lib.hid (B9.out.trans (bA.mono (by omega)))
  clear bA oA p0 p1 p2 p3 p4 p5 p6 f0 hw9 qq
  have p0 := x0.cell 0
  have p1 := x0.cell 1
  have p2 := x0.cell 2
  have p3 := x0.cell 3
  have p4 := x0.cell 4
  have p5 := x0.cell 5
  have p6 := x0.cell 6
  have r0 := x1.cell 0
  have r1 := x1.cell 1
  have r2 := x1.cell 2
  have r3 := x1.cell 3
  have r4 := x1.cell 4
  have r5 := x1.cell 5
  have r6 := x1.cell 6
  have f0 := x0.free
  have f1 := x1.free
  simp at p0 r0 p1 r1 p2 r2 p3 r3 p4 r4 p5 r5 p6 r6
  go_wp2
  have hX := (((((((x1.other (g' := w.heap.size) (by omega) 5 (.slice (some ⟨g4, 0, none⟩) nb c4)).set_ 0 (.slice (some ⟨gC, 0, none⟩) n1 c1)).set_ 1 (.int .i64 head)).set_ 2 (.slice (some ⟨g2, 0, none⟩) np c2)).set_ 3 (.int .i64 phase)).set_ 4 (.slice (some ⟨g3, 0, none⟩) ng c3)).set_ 5 (.slice (some ⟨g4, 0, none⟩) nb c4)).set_ 6 (.int .i64 cursor)
  have hS : Touch (fun k => w.heap.size ≤ k ∧ k < w.heap.size + 2) wA _ := ((((((((touch_set (S := fun k => w.heap.size ≤ k ∧ k < w.heap.size + 2) wA w.heap.size 5 (.slice (some ⟨g4, 0, none⟩) nb c4) ⟨by omega, by omega⟩).trans (touch_set _ (w.heap.size + 1) 0 (.slice (some ⟨gC, 0, none⟩) n1 c1) ⟨by omega, by omega⟩)).trans (touch_set _ (w.heap.size + 1) 1 (.int .i64 head) ⟨by omega, by omega⟩)).trans (touch_set _ (w.heap.size + 1) 2 (.slice (some ⟨g2, 0, none⟩) np c2) ⟨by omega, by omega⟩)).trans (touch_set _ (w.heap.size + 1) 3 (.int .i64 phase) ⟨by omega, by omega⟩)).trans (touch_set _ (w.heap.size + 1) 4 (.slice (some ⟨g3, 0, none⟩) ng c3) ⟨by omega, by omega⟩)).trans (touch_set _ (w.heap.size + 1) 5 (.slice (some ⟨g4, 0, none⟩) nb c4) ⟨by omega, by omega⟩)).trans (touch_set _ (w.heap.size + 1) 6 (.int .i64 cursor) ⟨by omega, by omega⟩))
  refine bodyPost_ret (v := .agg #[.slice (some ⟨gC, 0, none⟩) n1 c1, .int .i64 head, .slice (some ⟨g2, 0, none⟩) np c2, .int .i64 phase, .slice (some ⟨g3, 0, none⟩) ng c3, .slice (some ⟨g4, 0, none⟩) nb c4, .int .i64 cursor]) (results_cell_row Tryz.results77 _ _ (w.heap.size + 1) _ _ _ _ rfl hX Tryz.underlying30 rfl (by kernel_rfl)) rfl ?_
  have hle := BA.out.size
  have hsz := hS.size
  refine ⟨Lay4 gC n1 c1 g2 np c2 g3 ng c3 g4 nb c4, rfl, ⟨_, _, _, _, _, _, _, _, _, _, _, _, rfl⟩, ⟨?_, ?_, ?_, ?_, ?_, ?_, ?_⟩, BA.out.trans (hS.below hle (fun k hk e => by omega))⟩
  · exact ((OA.out.touch hS (fun b h1 h2 e => by omega)).base (by omega)).more (by omega)
  · exact OwnI.base (PA.out.touch hS (fun g hg e => by have h1 := own_blk' hg; have := U6.out.1; omega)) (by omega)
  · exact OwnI.base (GA.out.touch hS (fun g hg e => by have h1 := own_blk' hg; have := U8.out.1; omega)) (by omega)
  · exact OwnI.base (KA.out.touch hS (fun g hg e => by have h1 := own_blk' hg; have := UA.out.1; omega)) (by omega)
  · intro g e1 e2
    have h1 := own_blk' e1
    have h2 := own_blk' e2
    have := U6.out.2
    have := U8.out.1
    omega
  · intro g e1 e2
    have h1 := own_blk' e1
    have h2 := own_blk' e2
    have := U6.out.2
    have := UA.out.1
    omega
  · intro g e1 e2
    have h1 := own_blk' e1
    have h2 := own_blk' e2
    have := U8.out.2
    have := UA.out.1
    omega
end Go.Proofs.YtigdcmfmaehjfaaGreat
