/- Several texts in one, in build order: ConcB, Bss, FrameM, L1B, FrameI, FrmA, Chs, ChgM, ChgF, OpenChs, ChsX, ChsY, FrameS, ChgB, ChgW. -/
import Derived.Test.YtebfinedkjlbbaaPkD
import Derived.Lib.AppendZerosOnto
import Derived.Lib.SliceRun
import Derived.Lib.Walk
import Derived.WalkKit
import Derived.Deep.WholeRow
import Derived.Deep.RegionLaw
import Derived.Deep.DeepCutAuto
import Derived.StillTailTactics
-- ConcB: slices.Grow of nothing and slices.Concat of two slices of bytes, as the program calls them. No statement of the program is proved here.
namespace Go.Proofs.Ytebfinedkjlbbaa
set_option maxRecDepth 100000
set_option linter.unusedVariables false
set_option linter.unusedSimpArgs false
open Go.RowKit

set_option maxHeartbeats 2000000 in
theorem growB_new (n : Nat) (h0 : 0 < n) (hn : n ≤ 1048576) (w : World) :
    Calls Try.prog 147 #[.slice none 0 0, .int .i64 n] w fun e w' => ∃ c, e = .returned (.slice (some ⟨w.heap.size, 0, none⟩) 0 c) ∧ Mine w' w.heap.size (some ⟨w.heap.size, 0, none⟩) 0 c [] ∧ Below w.heap.size w w' := by
  obtain ⟨i0, hi0, hz0, hz1, hz2⟩ := info_parts Try.info5
  have hold : (Builtin.firstCells i0.size 0 (.slice none 0 0)).run Try.prog w.drew = .ok #[] w.drew := run_firstCells_none w.drew i0.size 0 0 0
  have hrz : ∀ ty, (Builtin.append_ #[22, 3] ty #[.slice none 0 0, .int .i64 (n : Int)]).run Try.prog w =
      .ok (.slice (some ⟨w.heap.size, 0, none⟩) n (grownCap w n 0 5)) (w.drew.alloc (.cells (#[] ++ Builtin.zeroCells (Value.int .u8 0).cells n ++ Builtin.zeroCells (Value.int .u8 0).cells (grownCap w n 0 5 - n)) 5)) := fun ty => by
    have h := Lib.run_append_grow_zeros w 22 3 ty 5 i0 (.int .u8 0) .i64 .i64 Try.underlying22 Try.underlying3 hi0 hz0 none 0 0 [] hold n (by omega) (by omega) (by omega) (by omega) (by rw [hz2]; omega)
      (by rw [Nat.zero_add]; exact growslice_fits (by omega) (by rw [hz2]; omega))
    rw [Nat.zero_add] at h
    simpa using h
  obtain ⟨G, hG⟩ : ∃ G, G = grownCap w n 0 5 := ⟨_, rfl⟩
  have hGn : n ≤ G := by rw [hG]; exact grownCap_ge w _ _ _
  have hGm : G ≤ maxLen := by rw [hG]; exact grownCap_le_maxLen w n 0 5 (by unfold maxLen; omega)
  have hG63 : G ≤ 9223372036854775807 := by unfold maxLen at hGm; omega
  rw [← hG] at hrz
  obtain ⟨cur, hcur⟩ : ∃ cur, (#[] ++ Builtin.zeroCells (Value.int .u8 0).cells n ++ Builtin.zeroCells (Value.int .u8 0).cells (G - n)) = cur := ⟨_, rfl⟩
  have hcs : cur.size = G := by
    rw [← hcur]
    simp [Builtin.zeroCells, Value.cells]
    omega
  rw [hcur] at hrz
  have M0 := Lib.hid (show Mine (w.drew.alloc (.cells cur 5)) w.heap.size (some ⟨w.heap.size, 0, none⟩) 0 G [] from
    ⟨⟨by simp, .inr ⟨w.heap.size, G, cur, rfl, Nat.le_refl _, heap_alloc_last w.drew _, Nat.zero_le _, hGm, by omega, by simp⟩⟩, by simp⟩)
  have B0 := Lib.hid (show Below w.heap.size w (w.drew.alloc (.cells cur 5)) from (Below.refl _ _).drew.alloc (Nat.le_refl _) _)
  clear hold hG hcs hGm hcur
  go_enter Try.func147, Try.ntmps147
  go_wp2_with (at_builtin; refine Lib.wpList_append_run _ rfl _ _ _ _ rfl _ _ rfl rfl _ _ (hrz _) ?_)
  all_goals (go_ret; exact ⟨G, rfl, M0.out, B0.out⟩)

theorem src_cells {w : World} {B b off n : Nat} {bs : List Int} (h : Byts w B (some ⟨b, off, none⟩) n bs) (hn : 0 < n) : ∀ j u, (bs.map (Value.int .u8))[j]? = some u → w.cell? ((⟨b, off, none⟩ : Addr).add j) = some u := by
  intro j u hj
  obtain ⟨b', off', e, hbB, hrow⟩ := h.row hn
  cases e
  exact hrow j u hj
set_option maxHeartbeats 2000000 in
theorem concat2_any (p n1 c1 n2 c2 : Nat) (A1 A2 : Option Addr) (l1 l2 : List Int) (w : World) (h1 : 0 < n1) (h2 : 0 < n2) (hs : n1 + n2 ≤ 1048576) (hc1 : n1 ≤ c1) (hc2 : n2 ≤ c2) (hp : p < w.heap.size)
    (x0 : w.cell? ⟨p, 0, none⟩ = some (.slice A1 n1 c1)) (x1 : w.cell? ⟨p, 1, none⟩ = some (.slice A2 n2 c2)) (y1 : Byts w w.heap.size A1 n1 l1) (y2 : Byts w w.heap.size A2 n2 l2) :
    Calls Try.prog 139 #[.slice (some ⟨p, 0, none⟩) 2 2] w fun e w' => ∃ g c, e = .returned (.slice (some ⟨g, 0, none⟩) (n1 + n2) c) ∧ Mine w' w.heap.size (some ⟨g, 0, none⟩) (n1 + n2) c (l1 ++ l2) ∧ Below w.heap.size w w' := by
  obtain ⟨i0, hi, hz0, hz1, hz2⟩ := info_parts Try.info5
  have HI := Lib.hid hi
  have HZ0 := Lib.hid hz0
  have HZ1 := Lib.hid hz1
  have HZ2 := Lib.hid hz2
  have e1 := y1.1
  have e2 := y2.1
  have r1 := y1.2.1
  have r2 := y2.2.1
  obtain ⟨b1, o1, rfl, hb1, _⟩ := y1.at_ (k := 0) h1
  obtain ⟨b2, o2, rfl, hb2, _⟩ := y2.at_ (k := 0) h2
  have Y1 := Lib.hid y1
  have Y2 := Lib.hid y2
  have XC := Lib.hid (fun (W : World) (hW : Below w.heap.size w W) => (⟨(hW.cell (p := ⟨p, 0, none⟩) hp).trans x0, (hW.cell (p := ⟨p, 1, none⟩) hp).trans x1⟩ : W.cell? ⟨p, 0, none⟩ = _ ∧ W.cell? ⟨p, 1, none⟩ = _))
  clear y1 y2 hi hz0 hz1 hz2
  go_enter Try.func139, Try.ntmps139
  go_wp2
  go_loop [3, 11] (fun s i => ∃ k : Nat, k ≤ 2 ∧ i = .int .i64 k ∧ s = .int .i64 ((if k = 0 then 0 else if k = 1 then n1 else n1 + n2 : Nat) : Int)) (fun _ i => 2 - (intOf i).toNat)
  case atStart => exact ⟨0, Nat.zero_le _, rfl, rfl⟩
  case round =>
    obtain ⟨k, hk, rfl, rfl⟩ := hrel
    rcases (show k = 0 ∨ k = 1 ∨ k = 2 by omega) with rfl | rfl | rfl
    · go_wp2
      go_round
      case rel => exact ⟨1, by omega, by go_num, by go_num⟩
      case measure => simp [intOf]
    · go_wp2
      go_round
      case rel => exact ⟨2, by omega, by go_num, by go_num⟩
      case measure => simp [intOf]
    · clear x0 x1
      go_wp2_with fail
      refine (growB_new (n1 + n2) (by omega) hs w).mono ?_
      rintro e w1 ⟨c, rfl, m1, b1'⟩
      have M1 := Lib.hid m1
      have B1 := Lib.hid b1'
      clear m1 b1'
      go_wp2
      go_loopw [6, 27] (fun s i wr => ∃ (k m g cb : Nat) (l : List Int), k ≤ 2 ∧ i = .int .i64 k ∧ s = .slice (some ⟨g, 0, none⟩) m cb ∧ Mine wr w.heap.size (some ⟨g, 0, none⟩) m cb l ∧ Below w.heap.size w wr ∧
        ((k = 0 ∧ m = 0 ∧ l = []) ∨ (k = 1 ∧ m = n1 ∧ l = l1) ∨ (k = 2 ∧ m = n1 + n2 ∧ l = l1 ++ l2))) (fun _ i _ => 2 - (intOf i).toNat)
      case atStart => exact ⟨0, 0, _, c, [], Nat.zero_le _, rfl, rfl, M1.out, B1.out, .inl ⟨rfl, rfl, rfl⟩⟩
      case round =>
        obtain ⟨k, m, g, cb, l, hk, rfl, rfl, hmi, hbel, hcase⟩ := hrel
        have M := Lib.hid hmi
        have BR := Lib.hid hbel
        have hsr : w.heap.size ≤ wr.heap.size := hbel.size
        clear hmi hbel
        obtain ⟨p0, p1⟩ := XC.out wr BR.out
        rcases hcase with ⟨rfl, rfl, rfl⟩ | ⟨rfl, rfl, rfl⟩ | ⟨rfl, rfl, rfl⟩
        · go_wp2_with (at_builtin; refine wpList_append_own _ rfl _ _ 22 rfl w.heap.size 5 i0 (.int .u8 0) 1 1 Try.underlying22 HI.out HZ0.out HZ1.out HZ2.out rfl (by decide) _ _ _ rfl M.out.1 ⟨b1, o1, none⟩ n1 _ (l1.map (Value.int .u8)) rfl ?a0 (src_cells (Y1.out.below BR.out) h1) ?a2 ?a3 ?a4 ?a5 ?_)
          case a0 => rw [List.length_map, Nat.mul_one]; exact e1
          case a2 => intro u hu; obtain ⟨z, _, rfl⟩ := List.mem_map.1 hu; rfl
          case a3 => unfold maxLen; omega
          case a4 => omega
          case a5 => first | omega | (simp; omega)
          intro v8 w8 hown8 hgrow8 hnil8
          obtain ⟨g8, c8, rfl⟩ : ∃ g c, v8 = .slice (some ⟨g, 0, none⟩) n1 c := by
            rcases hown8.2 with ⟨e, _⟩ | ⟨g, cap, cur, e, _⟩
            · exact absurd e hnil8
            · exact ⟨g, cap, e⟩
          have m8 := M.out.app r1 (by simpa [List.map_append] using hown8)
          have b8 := BR.out.grown hgrow8 (by omega) (fun g hg => (World.ownsRow.lt M.out.1 g hg).1)
          have M8 := Lib.hid m8
          have B8 := Lib.hid b8
          clear hown8 hgrow8 hnil8 m8 b8 p0 p1
          go_wp2
          go_roundw
          case rel => exact ⟨1, n1, g8, c8, [] ++ l1, by omega, by go_num, rfl, M8.out, B8.out, .inr (.inl ⟨rfl, rfl, rfl⟩)⟩
          case measure => simp [intOf]
        · go_wp2_with (at_builtin; refine wpList_append_own _ rfl _ _ 22 rfl w.heap.size 5 i0 (.int .u8 0) 1 1 Try.underlying22 HI.out HZ0.out HZ1.out HZ2.out rfl (by decide) _ _ _ rfl M.out.1 ⟨b2, o2, none⟩ n2 _ (l2.map (Value.int .u8)) rfl ?d0 (src_cells (Y2.out.below BR.out) h2) ?d2 ?d3 ?d4 ?d5 ?_)
          case d0 => rw [List.length_map, Nat.mul_one]; exact e2
          case d2 => intro u hu; obtain ⟨z, _, rfl⟩ := List.mem_map.1 hu; rfl
          case d3 => unfold maxLen; omega
          case d4 => omega
          case d5 => first | omega | (simp; omega)
          intro v8 w8 hown8 hgrow8 hnil8
          obtain ⟨g8, c8, rfl⟩ : ∃ g c, v8 = .slice (some ⟨g, 0, none⟩) (m + n2) c := by
            rcases hown8.2 with ⟨e, _⟩ | ⟨g, cap, cur, e, _⟩
            · exact absurd e hnil8
            · exact ⟨g, cap, e⟩
          have m8 := M.out.app r2 (by simpa [List.map_append] using hown8)
          have b8 := BR.out.grown hgrow8 (by omega) (fun g hg => (World.ownsRow.lt M.out.1 g hg).1)
          have M8 := Lib.hid m8
          have B8 := Lib.hid b8
          clear hown8 hgrow8 hnil8 m8 b8 p0 p1
          go_wp2
          go_roundw
          case rel => exact ⟨2, m + n2, g8, c8, l ++ l2, by omega, by go_num, rfl, M8.out, B8.out, .inr (.inr ⟨rfl, rfl, rfl⟩)⟩
          case measure => simp [intOf]
        · go_wp2
          go_ret
          exact ⟨g, cb, rfl, M.out, BR.out⟩
end Go.Proofs.Ytebfinedkjlbbaa

-- Bss: Slices of slices of bytes: one that reads as a list of texts of bytes; one that the call made and may write into; no statement of the program is proved here.
namespace Go.Proofs.Ytebfinedkjlbbaa
set_option maxRecDepth 20000
set_option linter.unusedVariables false
set_option linter.unusedSimpArgs false
open Go.RowKit

/-- the i-th of some rows of bytes. -/
def be (bs : List (List Int)) (i : Nat) : List Int := bs[i]?.getD []
theorem be_set (bs : List (List Int)) (k : Nat) (x : List Int) (i : Nat) (hk : k < bs.length) : be (bs.set k x) i = if i = k then x else be bs i := by
  unfold be
  by_cases h : i = k
  · subst h
    rw [if_pos rfl, List.getElem?_set_self hk]; rfl
  · rw [if_neg h, List.getElem?_set_ne (by omega)]
theorem be_append (bs : List (List Int)) (x : List Int) (i : Nat) : be (bs ++ [x]) i = if i = bs.length then x else be bs i := by
  unfold be
  by_cases h : i = bs.length
  · subst h
    simp
  · rw [if_neg h]
    rcases Nat.lt_or_ge i bs.length with h1 | h1
    · rw [List.getElem?_append_left h1]
    · rw [List.getElem?_eq_none (by simp; omega), List.getElem?_eq_none (by omega)]
theorem be_take (bs : List (List Int)) (k : Nat) (h : k < bs.length) : bs.take (k + 1) = bs.take k ++ [be bs k] := by
  unfold be
  rw [List.take_succ_eq_append_getElem h, List.getElem?_eq_getElem h]; rfl

/-- the slice value '.slice A n c' of slices of bytes reads as bs, below block B. -/
def Bss (w : World) (B : Nat) (A : Option Addr) (n : Nat) (bs : List (List Int)) : Prop :=
  bs.length = n ∧ (0 < n → ∃ b off, A = some ⟨b, off, none⟩ ∧ b < B ∧ ∀ i, i < n → ∃ Ai ni ci, w.cell? ⟨b, off + i, none⟩ = some (.slice Ai ni ci) ∧ ni ≤ ci ∧ (Ai = none → ci = 0) ∧ Byts w B Ai ni (be bs i))
section
variable {w w' : World} {B B' n : Nat} {A : Option Addr} {bs : List (List Int)}
theorem Bss.none_ : Bss w B A 0 [] := ⟨rfl, fun h => absurd h (by omega)⟩
theorem Bss.at_ {k : Nat} (h : Bss w B A n bs) (hk : k < n) : ∃ b off Ai ni ci, A = some ⟨b, off, none⟩ ∧ b < B ∧ w.cell? ⟨b, off + k, none⟩ = some (.slice Ai ni ci) ∧ ni ≤ ci ∧ (Ai = none → ci = 0) ∧ Byts w B Ai ni (be bs k) := by
  obtain ⟨b, off, e, hb, hc⟩ := h.2 (by omega)
  obtain ⟨Ai, ni, ci, h1, h2, h3, h4⟩ := hc k hk
  exact ⟨b, off, Ai, ni, ci, e, hb, h1, h2, h3, h4⟩
theorem Bss.keep (h : Bss w B A n bs) (hk : ∀ p : Addr, p.block < B → w'.cell? p = w.cell? p) : Bss w' B A n bs :=
  ⟨h.1, fun hn => by
    obtain ⟨b, off, e, hb, hc⟩ := h.2 hn
    refine ⟨b, off, e, hb, fun i hi => ?_⟩
    obtain ⟨Ai, ni, ci, h1, h2, h3, h4⟩ := hc i hi
    exact ⟨Ai, ni, ci, (hk _ hb).trans h1, h2, h3, h4.keep hk⟩⟩
theorem Bss.more (h : Bss w B A n bs) (hB : B ≤ B') : Bss w B' A n bs :=
  ⟨h.1, fun hn => by
    obtain ⟨b, off, e, hb, hc⟩ := h.2 hn
    refine ⟨b, off, e, by omega, fun i hi => ?_⟩
    obtain ⟨Ai, ni, ci, h1, h2, h3, h4⟩ := hc i hi
    exact ⟨Ai, ni, ci, h1, h2, h3, h4.more hB⟩⟩
theorem Bss.below (h : Bss w B A n bs) (hb : Below B w w') : Bss w' B A n bs := h.keep fun _ hp => hb.cell hp
theorem Bss.drewN (h : Bss w B A n bs) (k : Nat) : Bss (w.drewN k) B A n bs := h.below (below_drewN (Below.refl _ _) k)
theorem Bss.alloc (h : Bss w B A n bs) (hB : B ≤ w.heap.size) (o : Obj) : Bss (w.alloc o) B A n bs := h.keep fun p hp => World.cell?_alloc_lt w o p (by omega)
end

theorem Try.infoBs : (Try.prog.info? 22).map (fun i => (i.zero, i.size, i.bytes)) = some (some (.slice none 0 0), 1, 24) := by kernel_rfl

/-- what stands in a row of slices. -/
def bvs (n : Nat) (sl : Nat → Sub) : List Value := (List.range n).map fun i => (sl i).v
theorem bvs_at (n : Nat) (sl : Nat → Sub) (j : Nat) (h : j < n) : (bvs n sl)[j]? = some (sl j).v := by simp [bvs, h]
theorem bvs_append (n : Nat) (sl : Nat → Sub) (x : Sub) : bvs n sl ++ [x.v] = bvs (n + 1) (fun i => if i = n then x else sl i) := by
  apply List.ext_getElem?
  intro j
  by_cases hj : j < n
  · rw [List.getElem?_append_left (by simp [bvs]; omega), bvs_at _ _ j hj, bvs_at _ _ j (by omega)]
    simp only [show ¬ j = n by omega, if_false]
  · rw [List.getElem?_append_right (by simp [bvs]; omega)]
    have hl2 : (bvs n sl).length = n := by simp [bvs]
    rw [hl2]
    by_cases h0 : j = n
    · subst h0
      rw [bvs_at _ _ _ (by omega)]; simp
    · rw [List.getElem?_eq_none (by simp; omega), List.getElem?_eq_none (by simp [bvs]; omega)]

/-- the slices in a row of n are of the call's own, each in a block of its own, of the blocks from lo to hi, none of them g. -/
structure SubB (w : World) (lo hi : Nat) (g : Option Nat) (n : Nat) (bs : List (List Int)) (sl : Nat → Sub) : Prop where
  mine : ∀ i, i < n → Mine w lo (sl i).A (sl i).n (sl i).c (be bs i)
  apart : ∀ i j, i < n → j < n → i ≠ j → ∀ b, (sl i).v.ownBlock = some b → (sl j).v.ownBlock ≠ some b
  other : ∀ i, i < n → ∀ b, (sl i).v.ownBlock = some b → g ≠ some b
  under : ∀ i, i < n → ∀ b, (sl i).v.ownBlock = some b → b < hi
/-- the slice '.slice A n c' of slices of bytes is of the call's own, with all that it holds, in blocks from lo to hi, and reads as bs. -/
def OwnBs (w : World) (lo hi : Nat) (A : Option Addr) (n c : Nat) (bs : List (List Int)) : Prop :=
  bs.length = n ∧ (∀ b, (Value.slice A n c).ownBlock = some b → b < hi) ∧ ∃ sl, w.ownsRow lo 22 1 (.slice A n c) n (bvs n sl) ∧ SubB w lo hi (Value.slice A n c).ownBlock n bs sl
section
variable {w w' : World} {lo hi hi' n c g : Nat} {A : Option Addr} {bs : List (List Int)}
theorem OwnBs.nil (w : World) (lo hi : Nat) : OwnBs w lo hi none 0 0 [] := ⟨rfl, fun b h => by simp [Value.ownBlock] at h, fun _ => ⟨none, 0, 0, []⟩, World.ownsRow_nil _ _ _ _, fun i h => by omega, fun i j h => by omega, fun i h => by omega, fun i h => by omega⟩
theorem OwnBs.len (h : OwnBs w lo hi A n c bs) : bs.length = n := h.1
theorem OwnBs.touch {S : Nat → Prop} (h : OwnBs w lo hi A n c bs) (t : Touch S w w') (hn : ∀ b, lo ≤ b → b < hi → ¬ S b) : OwnBs w' lo hi A n c bs := by
  obtain ⟨hl, hu, sl, hr, hs⟩ := h
  exact ⟨hl, hu, sl, own_touch hr t (fun b hb => hn b (hr.lt b hb).1 (hu b hb)), fun i hi => (hs.mine i hi).touch t (fun b hb => hn b ((hs.mine i hi).1.lt b hb).1 (hs.under i hi b hb)), hs.apart, hs.other, hs.under⟩
theorem OwnBs.below (h : OwnBs w lo hi A n c bs) (hb : Below hi w w') : OwnBs w' lo hi A n c bs :=
  h.touch (S := fun k => hi ≤ k) ⟨hb.os, hb.tape, hb.output, hb.size, fun k hk hs => hb.block k (by omega)⟩ (fun b _ h1 h2 => by omega)
theorem OwnBs.more (h : OwnBs w lo hi A n c bs) (hh : hi ≤ hi') : OwnBs w lo hi' A n c bs := by
  obtain ⟨hl, hu, sl, hr, hs⟩ := h
  exact ⟨hl, fun b hb => Nat.lt_of_lt_of_le (hu b hb) hh, sl, hr, hs.mine, hs.apart, hs.other, fun i hi b hb => Nat.lt_of_lt_of_le (hs.under i hi b hb) hh⟩
theorem OwnBs.base {lo' : Nat} (h : OwnBs w lo hi A n c bs) (hh : lo' ≤ lo) : OwnBs w lo' hi A n c bs := by
  obtain ⟨hl, hu, sl, hr, hs⟩ := h
  refine ⟨hl, hu, sl, ⟨hr.1, ?_⟩, fun i hi => (hs.mine i hi).base hh, hs.apart, hs.other, hs.under⟩
  rcases hr.2 with h | ⟨g, cap, cur, hv, hg, r⟩
  · exact .inl h
  · exact .inr ⟨g, cap, cur, hv, by omega, r⟩
theorem OwnBs.form (h : OwnBs w lo hi A n c bs) (hn : 0 < n) : ∃ g, A = some ⟨g, 0, none⟩ ∧ lo ≤ g ∧ g < hi ∧ g < w.heap.size := by
  obtain ⟨hl, hu, sl, hr, hs⟩ := h
  obtain ⟨g, cap, hv, h1, h2⟩ := World.ownsRow.form hr hn
  injection hv with hA
  subst hA
  exact ⟨g, rfl, h1, hu g (by simp [Value.ownBlock]), h2⟩
theorem OwnBs.bss (h : OwnBs w lo hi A n c bs) : Bss w hi A n bs := by
  refine ⟨h.1, fun hn => ?_⟩
  obtain ⟨g, rfl, _, h2, _⟩ := h.form hn
  obtain ⟨hl, hu, sl, hr, hs⟩ := h
  refine ⟨g, 0, rfl, h2, fun i hi => ?_⟩
  have m := hs.mine i hi
  refine ⟨(sl i).A, (sl i).n, (sl i).c, ?_, mine_cap m, mine_none m, m.len, m.2, fun hp => ?_⟩
  · rw [Nat.zero_add, World.ownsRow.cellAt hr _ (by omega), bvs_at _ _ _ (by omega)]; rfl
  · obtain ⟨b, off, e, hb, hc⟩ := m.byts.2.2 hp
    refine ⟨b, off, e, ?_, hc⟩
    obtain ⟨g', e', _⟩ := m.form hp
    rw [e] at e'
    cases e'
    exact hs.under i hi b (by unfold Sub.v; rw [e]; simp [Value.ownBlock])
theorem OwnBs.free (h : OwnBs w lo hi (some ⟨g, 0, none⟩) n c bs) (k : Nat) : w.frozen? ⟨g, k, none⟩ = false := by
  obtain ⟨hl, hu, sl, hr, hs⟩ := h
  exact World.ownsRow.frozenAt hr k
/-- other bytes in the k-th slice. -/
theorem OwnBs.inner {k : Nat} (h : OwnBs w lo hi (some ⟨g, 0, none⟩) n c bs) (hk : k < n) :
    ∃ Ai ni ci, w.cell? ⟨g, k, none⟩ = some (.slice Ai ni ci) ∧ Mine w lo Ai ni ci (be bs k) ∧ (∀ b, (Value.slice Ai ni ci).ownBlock = some b → lo ≤ b ∧ b < hi) ∧
      ∀ w' bs', Mine w' lo Ai ni ci bs' → w.grownBy w' (Value.slice Ai ni ci).ownBlock → OwnBs w' lo hi (some ⟨g, 0, none⟩) n c (bs.set k bs') := by
  obtain ⟨hl, hu, sl, hr, hs⟩ := h
  refine ⟨(sl k).A, (sl k).n, (sl k).c, ?_, hs.mine k hk, fun b hb => ⟨((hs.mine k hk).1.lt b hb).1, hs.under k hk b hb⟩, fun w' bs' hm hg => ?_⟩
  · rw [World.ownsRow.cellAt hr _ (by omega), bvs_at _ _ _ (by omega)]; rfl
  · have t := Touch.of_grown hg
    refine ⟨by simp [hl], hu, sl, ?_, ⟨fun i hi1 => ?_, hs.apart, hs.other, hs.under⟩⟩
    · refine own_touch hr t (fun b hb e => ?_)
      have : g = b := by simpa [Value.ownBlock] using hb
      subst this
      exact hs.other k hk g e.symm (by simp [Value.ownBlock])
    · rw [be_set _ _ _ _ (by omega)]
      by_cases h : i = k
      · subst h; rw [if_pos rfl]; exact hm
      · rw [if_neg h]
        exact (hs.mine i hi1).touch t (fun b hb e => hs.apart i k hi1 hk h b hb e.symm)
end
/-- one more slice, made since. -/
theorem OwnBs.pushed {w w' : World} {lo hi hi' n c n' c' g cap : Nat} {A A' : Option Addr} {cs : List (List Int)} {bs : List Int} {sl : Nat → Sub}
    (hl : cs.length = n) (hu : ∀ b, (Value.slice A n c).ownBlock = some b → b < hi) (hs : SubB w lo hi (Value.slice A n c).ownBlock n cs sl) (hx : Mine w lo A' n' c' bs)
    (hxb : ∀ b, (Value.slice A' n' c').ownBlock = some b → hi ≤ b)
    (hr : w'.ownsRow lo 22 1 (.slice (some ⟨g, 0, none⟩) (n + 1) cap) (n + 1) (bvs n sl ++ [.slice A' n' c'])) (hg : w.grownBy w' (Value.slice A n c).ownBlock)
    (hgo : (Value.slice A n c).ownBlock = some g ∨ g = w.heap.size) (hh : hi ≤ w.heap.size) (hi1 : w'.heap.size ≤ hi') : OwnBs w' lo hi' (some ⟨g, 0, none⟩) (n + 1) cap (cs ++ [bs]) := by
  have hsz := hg.size
  have t := Touch.of_grown hg
  refine ⟨by simp [hl], fun b hb => ?_, fun i => if i = n then ⟨A', n', c', bs⟩ else sl i, ?_, ?_⟩
  · have := (World.ownsRow.lt hr b hb).2
    omega
  · rw [← bvs_append n sl ⟨A', n', c', bs⟩]; exact hr
  · have hlt : ∀ i, i < n → ∀ b, (sl i).v.ownBlock = some b → b < w.heap.size := fun i hi b hb => (World.ownsRow.lt (hs.mine i hi).1 b hb).2
    have hxl : ∀ b, (Value.slice A' n' c').ownBlock = some b → b < w.heap.size := fun b hb => (World.ownsRow.lt hx.1 b hb).2
    refine ⟨fun i hi => ?_, fun i j hi hj hij b => ?_, fun i hi b => ?_, fun i hi b => ?_⟩
    · rw [be_append, hl]
      by_cases h : i = n
      · simp only [h, if_true]
        exact hx.touch t (fun b hb e => by have := hxb b hb; have := hu b e.symm; omega)
      · simp only [h, if_false]
        exact (hs.mine i (by omega)).touch t (fun b hb e => hs.other i (by omega) b hb e.symm)
    · by_cases h : i = n
      · have h2 : ¬ j = n := by omega
        simp only [h, h2, if_true, if_false]
        intro e1 e2
        have := hxb b e1
        have := hs.under j (by omega) b e2
        omega
      · by_cases h2 : j = n
        · simp only [h, h2, if_true, if_false]
          intro e1 e2
          have := hxb b e2
          have := hs.under i (by omega) b e1
          omega
        · simp only [h, h2, if_false]
          exact hs.apart i j (by omega) (by omega) hij b
    · have hown : (Value.slice (some (⟨g, 0, none⟩ : Addr)) (n + 1) cap).ownBlock = some g := by simp [Value.ownBlock]
      rw [hown]
      by_cases h : i = n
      · simp only [h, if_true]
        intro e1 e2
        cases e2
        have := hxb _ e1
        have := hxl _ e1
        rcases hgo with e | e
        · have := hu _ e; omega
        · omega
      · simp only [h, if_false]
        intro e1 e2
        cases e2
        rcases hgo with e | e
        · exact hs.other i (by omega) _ e1 e
        · have := hlt i (by omega) _ e1; omega
    · by_cases h : i = n
      · simp only [h, if_true]
        intro e1
        have := hxl b e1
        omega
      · simp only [h, if_false]
        intro e1
        have := hlt i (by omega) b e1
        omega
theorem OwnBs.made0 (w : World) : OwnBs (w.alloc (.cells #[] 22)) w.heap.size (w.heap.size + 1) (some ⟨w.heap.size, 0, none⟩) 0 0 [] := by
  refine ⟨rfl, fun b h => by simp [Value.ownBlock] at h; omega, fun _ => ⟨none, 0, 0, []⟩, ?_, fun i h => by omega, fun i j h => by omega, fun i h => by omega, fun i h => by omega⟩
  exact World.ownsRow_lit w #[] 0 (Nat.le_refl _) (by unfold maxLen; omega) rfl
/-- the call answered with slices of bytes of its own. -/
def GaveBs (w : World) (bs : List (List Int)) (e : Ending) (w' : World) : Prop := ∃ A n c, e = .returned (.slice A n c) ∧ OwnBs w' w.heap.size w'.heap.size A n c bs ∧ Below w.heap.size w w'
end Go.Proofs.Ytebfinedkjlbbaa

-- FrameM: Plain facts on frames. No statement of the program is proved here.
namespace Go.Proofs.Ytebfinedkjlbbaa
set_option maxRecDepth 20000
set_option linter.unusedVariables false
set_option linter.unusedSimpArgs false
open Go.RowKit

/-- a number in two bytes. -/
def two (n : Int) : List Int := [n % 256, n / 256]
/-- a frame of some bytes. -/
def framed (b : List Int) : List Int := if 65535 < b.length then [] else (two (b.length : Int) ++ nameBytes (nameOf b)) ++ b
theorem framed_bd (b : List Int) (hb : ∀ z ∈ b, 0 ≤ z ∧ z ≤ 255) : ∀ z ∈ framed b, 0 ≤ z ∧ z ≤ 255 := by
  unfold framed
  split
  · simp
  · rename_i h
    intro z hz
    rcases List.mem_append.1 hz with hz | hz
    · rcases List.mem_append.1 hz with hz | hz
      · simp [two] at hz
        omega
      · unfold nameBytes at hz
        split at hz
        · cases hz
        · exact nb_bd _ _ z hz
    · exact hb z hz
theorem framed_len (b : List Int) : (framed b).length ≤ b.length + 10 := by
  unfold framed
  split
  · simp
  · simp only [List.length_append, two, List.length_cons, List.length_nil]
    have : (nameBytes (nameOf b)).length ≤ 8 := by
      unfold nameBytes
      split <;> simp [nb]
    omega
/-- the number that stands in two bytes. -/
def ofTwo (b : List Int) (i : Nat) : Nat := (b[i]?.getD 0 + 256 * b[i + 1]?.getD 0).toNat
/-- the body of the frame at a place. -/
def bodyAt (b : List Int) (i : Nat) : List Int := (b.drop (i + 10)).take (ofTwo b i)
/-- the eight bytes of its name. -/
def eightAt (b : List Int) (i : Nat) : List Int := (b.drop (i + 2)).take 8
/-- there is a whole frame with the right name. -/
def frameAt (b : List Int) (i : Nat) : Prop := i + 10 + ofTwo b i ≤ b.length ∧ (eightAt b i)[7]?.getD 0 ≤ 127 ∧ leVal (eightAt b i) = nameOf (bodyAt b i)
instance (b : List Int) (i : Nat) : Decidable (frameAt b i) := by unfold frameAt; infer_instance
/-- the bodies of the frames from a place on, and where they end. -/
def framesAt (b : List Int) (i : Nat) : List (List Int) × Nat :=
  if h : frameAt b i then (bodyAt b i :: (framesAt b (i + 10 + ofTwo b i)).1, (framesAt b (i + 10 + ofTwo b i)).2) else ([], i)
termination_by b.length - i
decreasing_by all_goals (have := h.1; omega)
theorem framesAt_no (b : List Int) (i : Nat) (h : ¬ frameAt b i) : framesAt b i = ([], i) := by rw [framesAt, dif_neg h]
theorem framesAt_yes (b : List Int) (i : Nat) (h : frameAt b i) : framesAt b i = (bodyAt b i :: (framesAt b (i + 10 + ofTwo b i)).1, (framesAt b (i + 10 + ofTwo b i)).2) := by
  conv => lhs; rw [framesAt, dif_pos h]
theorem bodyAt_len (b : List Int) (i : Nat) (h : i + 10 + ofTwo b i ≤ b.length) : (bodyAt b i).length = ofTwo b i := by
  unfold bodyAt; rw [List.length_take, List.length_drop]; omega
theorem framesAt_bd (b : List Int) (hb : ∀ z ∈ b, 0 ≤ z ∧ z ≤ 255) (m : Nat) : ∀ i, b.length - i ≤ m → (framesAt b i).1.length ≤ b.length - i ∧ ((∀ x ∈ (framesAt b i).1, x.length ≤ b.length ∧ ∀ z ∈ x, 0 ≤ z ∧ z ≤ 255)) := by
  induction m with
  | zero =>
    intro i hi
    rw [framesAt_no b i (fun h => by have := h.1; omega)]
    simp
  | succ m ih =>
    intro i hi
    by_cases h : frameAt b i
    · rw [framesAt_yes b i h]
      have h1 := h.1
      obtain ⟨k1, k2⟩ := ih (i + 10 + ofTwo b i) (by omega)
      refine ⟨by simp only [List.length_cons]; omega, fun x hx => ?_⟩
      rcases List.mem_cons.1 hx with rfl | hx
      · refine ⟨by rw [bodyAt_len b i h1]; omega, fun z hz => ?_⟩
        unfold bodyAt at hz
        exact hb z (List.mem_of_mem_drop (List.mem_of_mem_take hz))
      · exact k2 x hx
    · rw [framesAt_no b i h]; simp
end Go.Proofs.Ytebfinedkjlbbaa

-- L1B: The model's copy of some bytes, of no bytes too.
namespace Go.Proofs.Ytebfinedkjlbbaa
set_option maxRecDepth 20000
set_option linter.unusedVariables false
set_option linter.unusedSimpArgs false
open Go.RowKit

theorem l1Bytes_all (A : Option Addr) (n c : Nat) (bs : List Int) (B : Nat) (w : World) (hn : n ≤ 1048576) (hA : A = none → c = 0) (hB : B ≤ w.heap.size) (hb : Byts w B A n bs) :
    Calls Try.prog 127 #[.slice A n c] w fun e w' => ∃ A' n' c', e = .returned (.slice A' n' c') ∧ Mine w' w.heap.size A' n' c' bs ∧ Below w.heap.size w w' := by
  by_cases h0 : 0 < n
  · exact l1Bytes_any A n c bs B w h0 hn hB hb
  · obtain rfl : n = 0 := by omega
    have hlen := hb.1
    obtain rfl : bs = [] := List.eq_nil_of_length_eq_zero hlen
    obtain ⟨i0, hi, hz0, hz1, hz2⟩ := info_parts Try.info5
    have HI := Lib.hid hi
    have HZ0 := Lib.hid hz0
    have HZ1 := Lib.hid hz1
    have HZ2 := Lib.hid hz2
    have E0 := Lib.hid (Mine.empty w)
    have B0 := Lib.hid ((Below.refl w.heap.size w).alloc (Nat.le_refl _) (.cells #[] 5))
    clear hi hz0 hz1 hz2 hb
    cases A with
    | none =>
      obtain rfl : c = 0 := hA rfl
      go_enter Try.func127, Try.ntmps127
      go_wp2
      go_ret
      exact ⟨_, _, _, rfl, E0.out, B0.out⟩
    | some a =>
      go_enter Try.func127, Try.ntmps127
      go_wp2_with (at_builtin; refine wpList_append_own _ rfl _ _ 22 rfl w.heap.size 5 i0 (.int .u8 0) 1 1 Try.underlying22 HI.out HZ0.out HZ1.out HZ2.out rfl (by decide) _ _ _ rfl E0.out.1 a 0 _ ([] : List Value) rfl ?e0 ?e1 ?e2 ?e3 ?e4 ?e5 ?_)
      case e0 => rfl
      case e1 => intro j u hj; simp at hj
      case e2 => intro u hu; cases hu
      case e3 => unfold maxLen; omega
      case e4 => omega
      case e5 => simp
      intro v1 w1 hown1 hgrow1 hnil1
      obtain ⟨g1, c1, rfl⟩ : ∃ g c, v1 = .slice (some ⟨g, 0, none⟩) 0 c := by
        rcases hown1.2 with ⟨e, _⟩ | ⟨g, cap, cur, e, _⟩
        · exact absurd e hnil1
        · exact ⟨g, cap, e⟩
      have hm1 : Mine w1 w.heap.size (some ⟨g1, 0, none⟩) 0 c1 [] := ⟨by simpa using hown1, by simp⟩
      have hb1 : Below w.heap.size w w1 := B0.out.grown hgrow1 (by simp) (fun g hg => (E0.out.1.lt g hg).1)
      go_wp2
      go_ret
      exact ⟨_, _, _, rfl, hm1, hb1⟩
end Go.Proofs.Ytebfinedkjlbbaa

-- FrameI: The model's FramesIn.
namespace Go.Proofs.Ytebfinedkjlbbaa
set_option maxRecDepth 20000
set_option linter.unusedVariables false
set_option linter.unusedSimpArgs false
open Go.RowKit

theorem ofTwo_eq (b : List Int) (h : ∀ z ∈ b, 0 ≤ z ∧ z ≤ 255) (i : Nat) : (ofTwo b i : Int) = b[i]?.getD 0 + 256 * b[i + 1]?.getD 0 ∧ ofTwo b i ≤ 65535 := by
  have h1 := mem_at b h i
  have h2 := mem_at b h (i + 1)
  unfold ofTwo
  omega
theorem l11Of_any (A : Option Addr) (n c : Nat) (bs : List Int) (i : Nat) (B : Nat) (w : World) (hn : n ≤ 1048576) (hi : i + 1 < n) (hb : Byts w B A n bs) :
    Calls Try.prog 93 #[.slice A n c, .int .i64 i] w fun e w' => e = .returned (.int .i64 (ofTwo bs i)) ∧ ∃ q, w' = w.drewN q := by
  obtain ⟨b, off, rfl, hbB, h0⟩ := hb.at_ (k := i) (by omega)
  obtain ⟨b', off', e', _, h1⟩ := hb.at_ (k := i + 1) hi
  cases e'
  obtain ⟨he, hle⟩ := ofTwo_eq bs hb.2.1 i
  have r0 := hb.range i
  have r1 := hb.range (i + 1)
  generalize bs[i]?.getD 0 = x at *
  generalize bs[i + 1]?.getD 0 = y at *
  have HE := Lib.hid he
  clear hb he
  go_enter Try.func93, Try.ntmps93
  go_wp2
  go_quiet (fail)
  go_wp2
  go_ret
  exact ⟨ret_i64 (by rw [HE.out]), _, rfl⟩

theorem Byts.part2 {w : World} {B b off n : Nat} {bs : List Int} (h : Byts w B (some ⟨b, off, none⟩) n bs) (i m off' : Nat) (hi : i + m ≤ n) (ho : 0 < m → off' = off + i) : Byts w B (some ⟨b, off', none⟩) m ((bs.drop i).take m) := by
  have hl := h.1
  refine ⟨by rw [List.length_take, List.length_drop]; omega, fun z hz => h.2.1 z (List.mem_of_mem_drop (List.mem_of_mem_take hz)), fun hp => ?_⟩
  obtain ⟨b', o, e, hb, hc⟩ := h.2.2 (by omega)
  cases e
  have e1 := ho hp
  subst e1
  refine ⟨b, off + i, rfl, hb, fun j hj => ?_⟩
  have h1 := hc (i + j) (by omega)
  rw [Nat.add_assoc, h1]
  simp [List.getD_eq_getElem?_getD, List.getElem?_take_of_lt hj, List.getElem?_drop]
/-- the call answered with the bodies and with where they end. -/
def GaveFrames (bs : List Int) (w : World) (e : Ending) (w' : World) : Prop :=
  ∃ A' n' c', e = .returned (.tuple #[.slice A' n' c', .int .i64 ((framesAt bs 0).2 : Int)]) ∧ OwnBs w' w.heap.size w'.heap.size A' n' c' (framesAt bs 0).1 ∧ Below w.heap.size w w'

end Go.Proofs.Ytebfinedkjlbbaa

-- FrmA: The program's frames: a number in two bytes; the body of the frame at the beginning.
namespace Go.Proofs.Ytebfinedkjlbbaa
set_option maxRecDepth 20000
set_option linter.unusedVariables false
set_option linter.unusedSimpArgs false
open Go.RowKit

theorem countBytes_any (n : Nat) (w : World) (hn : n ≤ 65535) :
    Calls Try.prog 92 #[.int .i64 n] w fun e w' => e = .returned (.slice (some ⟨w.heap.size, 0, none⟩) 2 2) ∧ Mine w' w.heap.size (some ⟨w.heap.size, 0, none⟩) 2 2 (two n) ∧ Below w.heap.size w w' := by
  have m0 := Lib.hid (Mine.of_alloc w w.heap.size (two n) 2 (Nat.le_refl _) rfl (by unfold maxLen; omega) (by simp [two]; omega))
  have b0 := Lib.hid ((Below.refl w.heap.size w).alloc (Nat.le_refl _) (.cells (u8s (two n)) 5))
  go_enter Try.func92, Try.ntmps92
  go_wp2
  go_ret
  exact ⟨rfl, m0.out, b0.out⟩

theorem countFrom_any (A : Option Addr) (n c : Nat) (bs : List Int) (B : Nat) (w : World) (hn : n ≤ 1048576) (hi : 1 < n) (hb : Byts w B A n bs) :
    Calls Try.prog 128 #[.slice A n c] w fun e w' => e = .returned (.int .i64 (ofTwo bs 0)) ∧ ∃ q, w' = w.drewN q := by
  obtain ⟨b, off, rfl, hbB, h0⟩ := hb.at_ (k := 0) (by omega)
  obtain ⟨b', off', e', _, h1⟩ := hb.at_ (k := 1) hi
  cases e'
  obtain ⟨he, hle⟩ := ofTwo_eq bs hb.2.1 0
  have r0 := hb.range 0
  have r1 := hb.range 1
  simp only [Nat.zero_add, Nat.add_zero] at *
  generalize bs[0]?.getD 0 = x at *
  generalize bs[1]?.getD 0 = y at *
  have ho := Lib.hid (show bits .or .i64 x (y * 256) = x + 256 * y from by
    have h := or_step x y 1 (by omega) (by omega) (by omega)
    rw [show wrap64 (y * 2 ^ (8 * 1)) = y * 256 by unfold wrap64; omega, show wrap64 (x + y * 2 ^ (8 * 1)) = x + 256 * y by unfold wrap64; omega] at h
    exact h)
  have HE := Lib.hid he
  clear hb he
  go_enter Try.func128, Try.ntmps128
  go_wp2
  go_quiet (fail)
  go_wp2
  go_ret
  exact ⟨ret_i64 (by rw [HE.out, ho.out]), _, rfl⟩

/-- the call told the body of the frame at the beginning, or that there is none. -/
def FirstIs (bs : List Int) (w : World) (e : Ending) (w' : World) : Prop :=
  (∃ q, w' = w.drewN q) ∧ ((¬ frameAt bs 0 ∧ e = .returned (.tuple #[.slice none 0 0, .bool false])) ∨
    (frameAt bs 0 ∧ ∃ A' B', e = .returned (.tuple #[.slice A' (ofTwo bs 0) (ofTwo bs 0), .bool true]) ∧ B' ≤ w.heap.size ∧ Byts w B' A' (ofTwo bs 0) (bodyAt bs 0)))

end Go.Proofs.Ytebfinedkjlbbaa

-- Chs: Slices of changes: one that reads as a list; one that the call made and may write into; no statement of the program is proved here.
namespace Go.Proofs.Ytebfinedkjlbbaa
set_option maxRecDepth 20000
set_option linter.unusedVariables false
set_option linter.unusedSimpArgs false
open Go.RowKit

/-- no change. -/
def chg0 : MChg := ⟨0, 0, []⟩
/-- the i-th change of a list. -/
def cx (cs : List MChg) (i : Nat) : MChg := cs[i]?.getD chg0
theorem cx_set (cs : List MChg) (k : Nat) (x : MChg) (i : Nat) (hk : k < cs.length) : cx (cs.set k x) i = if i = k then x else cx cs i := by
  unfold cx
  by_cases h : i = k
  · subst h
    rw [if_pos rfl, List.getElem?_set_self hk]; rfl
  · rw [if_neg h, List.getElem?_set_ne (by omega)]
theorem cx_append (cs : List MChg) (x : MChg) (i : Nat) : cx (cs ++ [x]) i = if i = cs.length then x else cx cs i := by
  unfold cx
  by_cases h : i = cs.length
  · subst h
    simp
  · rw [if_neg h]
    rcases Nat.lt_or_ge i cs.length with h1 | h1
    · rw [List.getElem?_append_left h1]
    · rw [List.getElem?_eq_none (by simp; omega), List.getElem?_eq_none (by omega)]
theorem cx_take (cs : List MChg) (k : Nat) (h : k < cs.length) : cs.take (k + 1) = cs.take k ++ [cx cs k] := by
  unfold cx
  rw [List.take_succ_eq_append_getElem h, List.getElem?_eq_getElem h]; rfl

/-- the slice value '.slice A n c' of changes reads as cs, below block B. -/
def Chs (w : World) (B : Nat) (A : Option Addr) (n : Nat) (cs : List MChg) : Prop :=
  cs.length = n ∧ (0 < n → ∃ b off, A = some ⟨b, off, none⟩ ∧ b < B ∧ ∀ i, i < n → w.cell? ⟨b, off + i * 3, none⟩ = some (.int .i64 (cx cs i).kind) ∧ w.cell? ⟨b, off + i * 3 + 1, none⟩ = some (.int .i64 (cx cs i).name) ∧
    ∃ Ai ni ci, w.cell? ⟨b, off + i * 3 + 2, none⟩ = some (.slice Ai ni ci) ∧ ni ≤ ci ∧ (Ai = none → ci = 0) ∧ Byts w B Ai ni (cx cs i).bytes)
section
variable {w w' : World} {B B' n : Nat} {A : Option Addr} {cs : List MChg}
theorem Chs.none_ : Chs w B A 0 [] := ⟨rfl, fun h => absurd h (by omega)⟩
theorem Chs.at_ {k : Nat} (h : Chs w B A n cs) (hk : k < n) : ∃ b off Ai ni ci, A = some ⟨b, off, none⟩ ∧ b < B ∧ w.cell? ⟨b, off + k * 3, none⟩ = some (.int .i64 (cx cs k).kind) ∧ w.cell? ⟨b, off + k * 3 + 1, none⟩ = some (.int .i64 (cx cs k).name) ∧ w.cell? ⟨b, off + k * 3 + 2, none⟩ = some (.slice Ai ni ci) ∧ ni ≤ ci ∧ (Ai = none → ci = 0) ∧ Byts w B Ai ni (cx cs k).bytes := by
  obtain ⟨b, off, e, hb, hc⟩ := h.2 (by omega)
  obtain ⟨h0, hm, Ai, ni, ci, h1, h2, h3, h4⟩ := hc k hk
  exact ⟨b, off, Ai, ni, ci, e, hb, h0, hm, h1, h2, h3, h4⟩
theorem Chs.keep (h : Chs w B A n cs) (hk : ∀ p : Addr, p.block < B → w'.cell? p = w.cell? p) : Chs w' B A n cs :=
  ⟨h.1, fun hn => by
    obtain ⟨b, off, e, hb, hc⟩ := h.2 hn
    refine ⟨b, off, e, hb, fun i hi => ?_⟩
    obtain ⟨h0, hm, Ai, ni, ci, h1, h2, h3, h4⟩ := hc i hi
    exact ⟨(hk _ hb).trans h0, (hk _ hb).trans hm, Ai, ni, ci, (hk _ hb).trans h1, h2, h3, h4.keep hk⟩⟩
theorem Chs.more (h : Chs w B A n cs) (hB : B ≤ B') : Chs w B' A n cs :=
  ⟨h.1, fun hn => by
    obtain ⟨b, off, e, hb, hc⟩ := h.2 hn
    refine ⟨b, off, e, by omega, fun i hi => ?_⟩
    obtain ⟨h0, hm, Ai, ni, ci, h1, h2, h3, h4⟩ := hc i hi
    exact ⟨h0, hm, Ai, ni, ci, h1, h2, h3, h4.more hB⟩⟩
theorem Chs.below (h : Chs w B A n cs) (hb : Below B w w') : Chs w' B A n cs := h.keep fun _ hp => hb.cell hp
theorem Chs.drewN (h : Chs w B A n cs) (k : Nat) : Chs (w.drewN k) B A n cs := h.below (below_drewN (Below.refl _ _) k)
theorem Chs.alloc (h : Chs w B A n cs) (hB : B ≤ w.heap.size) (o : Obj) : Chs (w.alloc o) B A n cs := h.keep fun p hp => World.cell?_alloc_lt w o p (by omega)
end

theorem Try.infoCh : (Try.prog.info? 44).map (fun i => (i.zero, i.size, i.bytes)) = some (some (.agg #[.int .i64 0, .int .i64 0, .slice none 0 0]), 3, 40) := by kernel_rfl

/-- what stands in a row of changes. -/
def hf (cs : List MChg) (sl : Nat → Sub) (j : Nat) : Value := if j % 3 = 0 then .int .i64 (cx cs (j / 3)).kind else if j % 3 = 1 then .int .i64 (cx cs (j / 3)).name else (sl (j / 3)).v
def hvs (n : Nat) (cs : List MChg) (sl : Nat → Sub) : List Value := (List.range (n * 3)).map (hf cs sl)
theorem hvs_at (n : Nat) (cs : List MChg) (sl : Nat → Sub) (j : Nat) (h : j < n * 3) : (hvs n cs sl)[j]? = some (hf cs sl j) := by simp [hvs, h]
theorem hvs_len (n : Nat) (cs : List MChg) (sl : Nat → Sub) : (hvs n cs sl).length = n * 3 := by simp [hvs]
theorem hf0 (cs : List MChg) (sl : Nat → Sub) (k : Nat) : hf cs sl (k * 3) = .int .i64 (cx cs k).kind := by unfold hf; rw [if_pos (by omega), show k * 3 / 3 = k by omega]
theorem hf1 (cs : List MChg) (sl : Nat → Sub) (k : Nat) : hf cs sl (k * 3 + 1) = .int .i64 (cx cs k).name := by unfold hf; rw [if_neg (by omega), if_pos (by omega), show (k * 3 + 1) / 3 = k by omega]
theorem hf2 (cs : List MChg) (sl : Nat → Sub) (k : Nat) : hf cs sl (k * 3 + 2) = (sl k).v := by unfold hf; rw [if_neg (by omega), if_neg (by omega), show (k * 3 + 2) / 3 = k by omega]
theorem hvs_set (n : Nat) (cs : List MChg) (sl : Nat → Sub) (k : Nat) (a m : Int) (x : Sub) (b : List Int) (hk : k < n) (hl : cs.length = n) :
    (((hvs n cs sl).set (k * 3) (.int .i64 a)).set (k * 3 + 1) (.int .i64 m)).set (k * 3 + 2) x.v = hvs n (cs.set k ⟨a, m, b⟩) (fun i => if i = k then x else sl i) := by
  apply List.ext_getElem?
  intro j
  by_cases hj : j < n * 3
  · rw [hvs_at _ _ _ j hj]
    by_cases h2 : j = k * 3 + 2
    · subst h2
      rw [List.getElem?_set_self (by simp [hvs]; omega), hf2, if_pos rfl]
    · rw [List.getElem?_set_ne (by omega)]
      by_cases h1 : j = k * 3 + 1
      · subst h1
        rw [List.getElem?_set_self (by simp [hvs]; omega), hf1, cx_set _ _ _ _ (by omega), if_pos rfl]
      · rw [List.getElem?_set_ne (by omega)]
        by_cases h0 : j = k * 3
        · subst h0
          rw [List.getElem?_set_self (by simp [hvs]; omega), hf0, cx_set _ _ _ _ (by omega), if_pos rfl]
        · rw [List.getElem?_set_ne (by omega), hvs_at _ _ _ j hj]
          unfold hf
          rw [cx_set _ _ _ _ (by omega), if_neg (show ¬ j / 3 = k by omega)]
          simp only [show ¬ j / 3 = k by omega, if_false]
  · rw [List.getElem?_eq_none (by simp [hvs]; omega), List.getElem?_eq_none (by simp [hvs]; omega)]
theorem hvs_append (n : Nat) (cs : List MChg) (sl : Nat → Sub) (x : Sub) (a m : Int) (b : List Int) (hl : cs.length = n) :
    hvs n cs sl ++ [.int .i64 a, .int .i64 m, x.v] = hvs (n + 1) (cs ++ [⟨a, m, b⟩]) (fun i => if i = n then x else sl i) := by
  apply List.ext_getElem?
  intro j
  by_cases hj : j < n * 3
  · rw [List.getElem?_append_left (by simp [hvs]; omega), hvs_at _ _ _ j hj, hvs_at _ _ _ j (by omega)]
    unfold hf
    rw [cx_append, if_neg (show ¬ j / 3 = cs.length by omega)]
    simp only [show ¬ j / 3 = n by omega, if_false]
  · rw [List.getElem?_append_right (by simp [hvs]; omega), hvs_len]
    by_cases h0 : j = n * 3
    · subst h0
      rw [hvs_at _ _ _ _ (by omega), hf0, cx_append, if_pos hl.symm]; simp
    · by_cases h1 : j = n * 3 + 1
      · subst h1
        rw [hvs_at _ _ _ _ (by omega), hf1, cx_append, if_pos hl.symm, show n * 3 + 1 - n * 3 = 1 by omega]; rfl
      · by_cases h2 : j = n * 3 + 2
        · subst h2
          rw [hvs_at _ _ _ _ (by omega), hf2, if_pos rfl, show n * 3 + 2 - n * 3 = 2 by omega]; rfl
        · rw [List.getElem?_eq_none (by simp; omega), List.getElem?_eq_none (by simp [hvs]; omega)]

/-- the slices in a row of n changes are of the call's own, each in a block of its own, of the blocks from lo to hi, none of them g. -/
structure SubH (w : World) (lo hi : Nat) (g : Option Nat) (n : Nat) (cs : List MChg) (sl : Nat → Sub) : Prop where
  mine : ∀ i, i < n → Mine w lo (sl i).A (sl i).n (sl i).c (cx cs i).bytes
  apart : ∀ i j, i < n → j < n → i ≠ j → ∀ b, (sl i).v.ownBlock = some b → (sl j).v.ownBlock ≠ some b
  other : ∀ i, i < n → ∀ b, (sl i).v.ownBlock = some b → g ≠ some b
  under : ∀ i, i < n → ∀ b, (sl i).v.ownBlock = some b → b < hi
/-- the slice '.slice A n c' of changes is of the call's own, with all that it holds, in blocks from lo to hi, and reads as cs. -/
def OwnCh (w : World) (lo hi : Nat) (A : Option Addr) (n c : Nat) (cs : List MChg) : Prop :=
  cs.length = n ∧ (∀ b, (Value.slice A n c).ownBlock = some b → b < hi) ∧ ∃ sl, w.ownsRow lo 44 3 (.slice A n c) n (hvs n cs sl) ∧ SubH w lo hi (Value.slice A n c).ownBlock n cs sl
section
variable {w w' : World} {lo hi hi' n c g : Nat} {A : Option Addr} {cs : List MChg}
theorem OwnCh.nil (w : World) (lo hi : Nat) : OwnCh w lo hi none 0 0 [] := ⟨rfl, fun b h => by simp [Value.ownBlock] at h, fun _ => ⟨none, 0, 0, []⟩, World.ownsRow_nil _ _ _ _, fun i h => by omega, fun i j h => by omega, fun i h => by omega, fun i h => by omega⟩
theorem OwnCh.len (h : OwnCh w lo hi A n c cs) : cs.length = n := h.1
theorem OwnCh.cap (h : OwnCh w lo hi A n c cs) : n ≤ c := by
  obtain ⟨_, _, sl, hr, _⟩ := h
  rcases hr.2 with ⟨e, hx⟩ | ⟨g', cap, cur, e, _, _, hn, _⟩
  · have e2 : n = 0 := by simpa using hx
    omega
  · cases e; exact hn
theorem OwnCh.nilc (h : OwnCh w lo hi A n c cs) (hA : A = none) : c = 0 := by
  obtain ⟨_, _, sl, hr, _⟩ := h
  rcases hr.2 with ⟨e, hx⟩ | ⟨g', cap, cur, e, _, _, hn, _⟩
  · cases e; rfl
  · subst hA; cases e
theorem OwnCh.touch {S : Nat → Prop} (h : OwnCh w lo hi A n c cs) (t : Touch S w w') (hn : ∀ b, lo ≤ b → b < hi → ¬ S b) : OwnCh w' lo hi A n c cs := by
  obtain ⟨hl, hu, sl, hr, hs⟩ := h
  exact ⟨hl, hu, sl, own_touch hr t (fun b hb => hn b (hr.lt b hb).1 (hu b hb)), fun i hi => (hs.mine i hi).touch t (fun b hb => hn b ((hs.mine i hi).1.lt b hb).1 (hs.under i hi b hb)), hs.apart, hs.other, hs.under⟩
theorem OwnCh.below (h : OwnCh w lo hi A n c cs) (hb : Below hi w w') : OwnCh w' lo hi A n c cs :=
  h.touch (S := fun k => hi ≤ k) ⟨hb.os, hb.tape, hb.output, hb.size, fun k hk hs => hb.block k (by omega)⟩ (fun b _ h1 h2 => by omega)
theorem OwnCh.more (h : OwnCh w lo hi A n c cs) (hh : hi ≤ hi') : OwnCh w lo hi' A n c cs := by
  obtain ⟨hl, hu, sl, hr, hs⟩ := h
  exact ⟨hl, fun b hb => Nat.lt_of_lt_of_le (hu b hb) hh, sl, hr, hs.mine, hs.apart, hs.other, fun i hi b hb => Nat.lt_of_lt_of_le (hs.under i hi b hb) hh⟩
theorem OwnCh.base {lo' : Nat} (h : OwnCh w lo hi A n c cs) (hh : lo' ≤ lo) : OwnCh w lo' hi A n c cs := by
  obtain ⟨hl, hu, sl, hr, hs⟩ := h
  refine ⟨hl, hu, sl, ⟨hr.1, ?_⟩, fun i hi => (hs.mine i hi).base hh, hs.apart, hs.other, hs.under⟩
  rcases hr.2 with h | ⟨g, cap, cur, hv, hg, r⟩
  · exact .inl h
  · exact .inr ⟨g, cap, cur, hv, by omega, r⟩
theorem OwnCh.form (h : OwnCh w lo hi A n c cs) (hn : 0 < n) : ∃ g, A = some ⟨g, 0, none⟩ ∧ lo ≤ g ∧ g < hi ∧ g < w.heap.size := by
  obtain ⟨hl, hu, sl, hr, hs⟩ := h
  obtain ⟨g, cap, hv, h1, h2⟩ := World.ownsRow.form hr hn
  injection hv with hA
  subst hA
  exact ⟨g, rfl, h1, hu g (by simp [Value.ownBlock]), h2⟩
theorem OwnCh.chs (h : OwnCh w lo hi A n c cs) : Chs w hi A n cs := by
  refine ⟨h.1, fun hn => ?_⟩
  obtain ⟨g, rfl, _, h2, _⟩ := h.form hn
  obtain ⟨hl, hu, sl, hr, hs⟩ := h
  refine ⟨g, 0, rfl, h2, fun i hi => ?_⟩
  have m := hs.mine i hi
  refine ⟨?_, ?_, (sl i).A, (sl i).n, (sl i).c, ?_, mine_cap m, mine_none m, m.len, m.2, fun hp => ?_⟩
  · rw [Nat.zero_add, World.ownsRow.cellAt hr _ (by omega), hvs_at _ _ _ _ (by omega), hf0]
  · rw [Nat.zero_add, World.ownsRow.cellAt hr _ (by omega), hvs_at _ _ _ _ (by omega), hf1]
  · rw [Nat.zero_add, World.ownsRow.cellAt hr _ (by omega), hvs_at _ _ _ _ (by omega), hf2]; rfl
  · obtain ⟨b, off, e, hb, hc⟩ := m.byts.2.2 hp
    refine ⟨b, off, e, ?_, hc⟩
    obtain ⟨g', e', _⟩ := m.form hp
    rw [e] at e'
    cases e'
    exact hs.under i hi b (by unfold Sub.v; rw [e]; simp [Value.ownBlock])
theorem OwnCh.free (h : OwnCh w lo hi (some ⟨g, 0, none⟩) n c cs) (k : Nat) : w.frozen? ⟨g, k, none⟩ = false := by
  obtain ⟨hl, hu, sl, hr, hs⟩ := h
  exact World.ownsRow.frozenAt hr k
theorem OwnCh.cell0 {k : Nat} (h : OwnCh w lo hi (some ⟨g, 0, none⟩) n c cs) (hk : k < n) : w.cell? ⟨g, k * 3, none⟩ = some (.int .i64 (cx cs k).kind) := by
  obtain ⟨b, off, _, _, _, e, _, h0, _⟩ := h.chs.at_ hk
  cases e
  simpa using h0
theorem OwnCh.cell1 {k : Nat} (h : OwnCh w lo hi (some ⟨g, 0, none⟩) n c cs) (hk : k < n) : w.cell? ⟨g, k * 3 + 1, none⟩ = some (.int .i64 (cx cs k).name) := by
  obtain ⟨b, off, _, _, _, e, _, _, h0, _⟩ := h.chs.at_ hk
  cases e
  simpa using h0
theorem OwnCh.cell2 {k : Nat} (h : OwnCh w lo hi (some ⟨g, 0, none⟩) n c cs) (hk : k < n) : ∃ Ai ni ci, w.cell? ⟨g, k * 3 + 2, none⟩ = some (.slice Ai ni ci) ∧ ni ≤ ci ∧ (Ai = none → ci = 0) ∧ Byts w hi Ai ni (cx cs k).bytes := by
  obtain ⟨b, off, Ai, ni, ci, e, _, _, _, h1, h2, h3, h4⟩ := h.chs.at_ hk
  cases e
  exact ⟨Ai, ni, ci, by simpa using h1, h2, h3, h4⟩
/-- another change in place of the k-th: its bytes in a block that was made since. -/
theorem OwnCh.put {w0 : World} {A' : Option Addr} {n' c' k : Nat} (x : MChg) (h : OwnCh w0 lo hi (some ⟨g, 0, none⟩) n c cs) (hh : hi ≤ w0.heap.size) (hb : Below w0.heap.size w0 w) (hx : Mine w w0.heap.size A' n' c' x.bytes) (hk : k < n) (hh' : w.heap.size ≤ hi') (hlo : lo ≤ w0.heap.size) :
    OwnCh (((w.setCell ⟨g, k * 3, none⟩ (.int .i64 x.kind)).setCell ⟨g, k * 3 + 1, none⟩ (.int .i64 x.name)).setCell ⟨g, k * 3 + 2, none⟩ (.slice A' n' c')) lo hi' (some ⟨g, 0, none⟩) n c (cs.set k x) ∧
      Touch (fun b => b = g) w (((w.setCell ⟨g, k * 3, none⟩ (.int .i64 x.kind)).setCell ⟨g, k * 3 + 1, none⟩ (.int .i64 x.name)).setCell ⟨g, k * 3 + 2, none⟩ (.slice A' n' c')) := by
  obtain ⟨xk, xm, bs⟩ := x
  have hs0 := hb.size
  have h := h.below (hb.mono hh)
  obtain ⟨hl, hu, sl, hr, hs⟩ := h
  have hg := hr.lt g (by simp [Value.ownBlock])
  have hgu := hu g (by simp [Value.ownBlock])
  obtain ⟨r1, t1⟩ := World.ownsRow.stored hr (k * 3) (.int .i64 xk)
  obtain ⟨r2, t2⟩ := World.ownsRow.stored r1 (k * 3 + 1) (.int .i64 xm)
  obtain ⟨r3, t3⟩ := World.ownsRow.stored r2 (k * 3 + 2) (.slice A' n' c')
  have t : Touch (fun b => b = g) w (((w.setCell ⟨g, k * 3, none⟩ (.int .i64 xk)).setCell ⟨g, k * 3 + 1, none⟩ (.int .i64 xm)).setCell ⟨g, k * 3 + 2, none⟩ (.slice A' n' c')) := ((touch_set (S := fun b => b = g) w g _ _ rfl).trans (touch_set _ g _ _ rfl)).trans (touch_set _ g _ _ rfl)
  refine ⟨⟨by simp [hl], fun b hb' => Nat.lt_of_lt_of_le (hu b hb') (by omega), fun i => if i = k then ⟨A', n', c', bs⟩ else sl i, ?_, ?_, ?_, ?_, ?_⟩, t⟩
  · rw [← hvs_set n cs sl k xk xm ⟨A', n', c', bs⟩ bs hk hl]; exact r3
  · intro i hi1
    rw [cx_set _ _ _ _ (by omega)]
    by_cases h : i = k
    · simp only [h, if_true]
      exact (hx.base hlo).touch t (fun b hb' e => by have := (hx.1.lt b hb').1; omega)
    · simp only [h, if_false]
      exact (hs.mine i hi1).touch t (fun b hb' e => hs.other i hi1 b hb' (by rw [e]; simp [Value.ownBlock]))
  · intro i j hi1 hj hij b
    by_cases h : i = k
    · have h2 : ¬ j = k := by omega
      simp only [h, h2, if_true, if_false]
      intro e1 e2
      have := (hx.1.lt b e1).1
      have := hs.under j hj b e2
      omega
    · by_cases h2 : j = k
      · simp only [h, h2, if_true, if_false]
        intro e1 e2
        have := (hx.1.lt b e2).1
        have := hs.under i hi1 b e1
        omega
      · simp only [h, h2, if_false]
        exact hs.apart i j hi1 hj hij b
  · intro i hi1 b
    by_cases h : i = k
    · simp only [h, if_true]
      intro e1 e2
      have := (hx.1.lt b e1).1
      simp [Value.ownBlock] at e2
      omega
    · simp only [h, if_false]
      exact hs.other i hi1 b
  · intro i hi1 b
    by_cases h : i = k
    · simp only [h, if_true]
      intro e1
      have := (hx.1.lt b e1).2
      omega
    · simp only [h, if_false]
      intro e1
      have := hs.under i hi1 b e1
      omega
theorem hvs_two (cs : List MChg) (sl : Nat → Sub) (k : Nat) (a m : Int) (b : List Int) (hk : k < n) (hl : cs.length = n) : ((hvs n cs sl).set (k * 3) (.int .i64 a)).set (k * 3 + 1) (.int .i64 m) = hvs n (cs.set k ⟨a, m, b⟩) sl := by
  apply List.ext_getElem?
  intro j
  by_cases hj : j < n * 3
  · rw [hvs_at _ _ _ j hj]
    by_cases h1 : j = k * 3 + 1
    · subst h1
      rw [List.getElem?_set_self (by simp [hvs]; omega), hf1, cx_set _ _ _ _ (by omega), if_pos rfl]
    · rw [List.getElem?_set_ne (by omega)]
      by_cases h0 : j = k * 3
      · subst h0
        rw [List.getElem?_set_self (by simp [hvs]; omega), hf0, cx_set _ _ _ _ (by omega), if_pos rfl]
      · rw [List.getElem?_set_ne (by omega), hvs_at _ _ _ j hj]
        unfold hf
        rw [cx_set _ _ _ _ (by omega)]
        by_cases h2 : j % 3 = 2
        · rw [if_neg (by omega), if_neg (by omega), if_neg (by omega), if_neg (by omega)]
        · rw [if_neg (show ¬ j / 3 = k by omega)]
  · rw [List.getElem?_eq_none (by simp [hvs]; omega), List.getElem?_eq_none (by simp [hvs]; omega)]
/-- another kind and name in the k-th change. -/
theorem OwnCh.setTwo {k : Nat} (a m : Int) (h : OwnCh w lo hi (some ⟨g, 0, none⟩) n c cs) (hk : k < n) :
    OwnCh ((w.setCell ⟨g, k * 3, none⟩ (.int .i64 a)).setCell ⟨g, k * 3 + 1, none⟩ (.int .i64 m)) lo hi (some ⟨g, 0, none⟩) n c (cs.set k ⟨a, m, (cx cs k).bytes⟩) := by
  obtain ⟨hl, hu, sl, hr, hs⟩ := h
  have hg := hr.lt g (by simp [Value.ownBlock])
  obtain ⟨r1, t1⟩ := World.ownsRow.stored hr (k * 3) (.int .i64 a)
  obtain ⟨r2, t2⟩ := World.ownsRow.stored r1 (k * 3 + 1) (.int .i64 m)
  have t : Touch (fun b => b = g) w ((w.setCell ⟨g, k * 3, none⟩ (.int .i64 a)).setCell ⟨g, k * 3 + 1, none⟩ (.int .i64 m)) := (touch_set (S := fun b => b = g) w g _ _ rfl).trans (touch_set _ g _ _ rfl)
  refine ⟨by simp [hl], hu, sl, ?_, ⟨fun i hi1 => ?_, hs.apart, hs.other, hs.under⟩⟩
  · rw [← hvs_two cs sl k a m _ hk hl]; exact r2
  · have hm := (hs.mine i hi1).touch t (fun b hb' e => hs.other i hi1 b hb' (by rw [e]; simp [Value.ownBlock]))
    rw [cx_set _ _ _ _ (by omega)]
    by_cases h : i = k
    · subst h; rw [if_pos rfl]; exact hm
    · rw [if_neg h]; exact hm
theorem hvs_same (cs cs' : List MChg) (sl : Nat → Sub) (h : ∀ i, i < n → (cx cs i).kind = (cx cs' i).kind ∧ (cx cs i).name = (cx cs' i).name) : hvs n cs sl = hvs n cs' sl := by
  unfold hvs
  apply List.map_congr_left
  intro j hj
  have hj : j < n * 3 := by simpa using hj
  unfold hf
  rw [(h (j / 3) (by omega)).1, (h (j / 3) (by omega)).2]
/-- other bytes in the k-th change's own slice. -/
theorem OwnCh.inner {k : Nat} (h : OwnCh w lo hi (some ⟨g, 0, none⟩) n c cs) (hk : k < n) :
    ∃ Ai ni ci, w.cell? ⟨g, k * 3 + 2, none⟩ = some (.slice Ai ni ci) ∧ Mine w lo Ai ni ci (cx cs k).bytes ∧ (∀ b, (Value.slice Ai ni ci).ownBlock = some b → lo ≤ b ∧ b < hi) ∧
      ∀ w' bs', Mine w' lo Ai ni ci bs' → w.grownBy w' (Value.slice Ai ni ci).ownBlock → OwnCh w' lo hi (some ⟨g, 0, none⟩) n c (cs.set k ⟨(cx cs k).kind, (cx cs k).name, bs'⟩) := by
  obtain ⟨hl, hu, sl, hr, hs⟩ := h
  refine ⟨(sl k).A, (sl k).n, (sl k).c, ?_, hs.mine k hk, fun b hb => ⟨((hs.mine k hk).1.lt b hb).1, hs.under k hk b hb⟩, fun w' bs' hm hg => ?_⟩
  · rw [World.ownsRow.cellAt hr _ (by omega), hvs_at _ _ _ _ (by omega), hf2]; rfl
  · have t := Touch.of_grown hg
    refine ⟨by simp [hl], hu, sl, ?_, ⟨fun i hi1 => ?_, hs.apart, hs.other, hs.under⟩⟩
    · rw [← hvs_same (n := n) cs (cs.set k ⟨(cx cs k).kind, (cx cs k).name, bs'⟩) sl (fun i hi1 => by
        rw [cx_set _ _ _ _ (by omega)]
        by_cases h : i = k
        · subst h; rw [if_pos rfl]; exact ⟨rfl, rfl⟩
        · rw [if_neg h]; exact ⟨rfl, rfl⟩)]
      refine own_touch hr t (fun b hb e => ?_)
      have : g = b := by simpa [Value.ownBlock] using hb
      subst this
      exact hs.other k hk g e.symm (by simp [Value.ownBlock])
    · rw [cx_set _ _ _ _ (by omega)]
      by_cases h : i = k
      · subst h; rw [if_pos rfl]; exact hm
      · rw [if_neg h]
        exact (hs.mine i hi1).touch t (fun b hb e => hs.apart i k hi1 hk h b hb e.symm)
end
/-- one more change, its bytes made since. -/
theorem OwnCh.pushed {w w' : World} {lo hi hi' n c n' c' g cap : Nat} {A A' : Option Addr} {cs : List MChg} {x : MChg} {sl : Nat → Sub}
    (hl : cs.length = n) (hu : ∀ b, (Value.slice A n c).ownBlock = some b → b < hi) (hs : SubH w lo hi (Value.slice A n c).ownBlock n cs sl) (hx : Mine w lo A' n' c' x.bytes)
    (hxb : ∀ b, (Value.slice A' n' c').ownBlock = some b → hi ≤ b)
    (hr : w'.ownsRow lo 44 3 (.slice (some ⟨g, 0, none⟩) (n + 1) cap) (n + 1) (hvs n cs sl ++ [.int .i64 x.kind, .int .i64 x.name, .slice A' n' c'])) (hg : w.grownBy w' (Value.slice A n c).ownBlock)
    (hgo : (Value.slice A n c).ownBlock = some g ∨ g = w.heap.size) (hh : hi ≤ w.heap.size) (hi1 : w'.heap.size ≤ hi') : OwnCh w' lo hi' (some ⟨g, 0, none⟩) (n + 1) cap (cs ++ [x]) := by
  obtain ⟨xk, xm, bs⟩ := x
  have hsz := hg.size
  have t := Touch.of_grown hg
  refine ⟨by simp [hl], fun b hb => ?_, fun i => if i = n then ⟨A', n', c', bs⟩ else sl i, ?_, ?_⟩
  · have := (World.ownsRow.lt hr b hb).2
    omega
  · rw [← hvs_append n cs sl ⟨A', n', c', bs⟩ xk xm bs hl]; exact hr
  · have hlt : ∀ i, i < n → ∀ b, (sl i).v.ownBlock = some b → b < w.heap.size := fun i hi b hb => (World.ownsRow.lt (hs.mine i hi).1 b hb).2
    have hxl : ∀ b, (Value.slice A' n' c').ownBlock = some b → b < w.heap.size := fun b hb => (World.ownsRow.lt hx.1 b hb).2
    refine ⟨fun i hi => ?_, fun i j hi hj hij b => ?_, fun i hi b => ?_, fun i hi b => ?_⟩
    · rw [cx_append, hl]
      by_cases h : i = n
      · simp only [h, if_true]
        exact hx.touch t (fun b hb e => by have := hxb b hb; have := hu b e.symm; omega)
      · simp only [h, if_false]
        exact (hs.mine i (by omega)).touch t (fun b hb e => hs.other i (by omega) b hb e.symm)
    · by_cases h : i = n
      · have h2 : ¬ j = n := by omega
        simp only [h, h2, if_true, if_false]
        intro e1 e2
        have := hxb b e1
        have := hs.under j (by omega) b e2
        omega
      · by_cases h2 : j = n
        · simp only [h, h2, if_true, if_false]
          intro e1 e2
          have := hxb b e2
          have := hs.under i (by omega) b e1
          omega
        · simp only [h, h2, if_false]
          exact hs.apart i j (by omega) (by omega) hij b
    · have hown : (Value.slice (some (⟨g, 0, none⟩ : Addr)) (n + 1) cap).ownBlock = some g := by simp [Value.ownBlock]
      rw [hown]
      by_cases h : i = n
      · simp only [h, if_true]
        intro e1 e2
        cases e2
        have := hxb _ e1
        have := hxl _ e1
        rcases hgo with e | e
        · have := hu _ e; omega
        · omega
      · simp only [h, if_false]
        intro e1 e2
        cases e2
        rcases hgo with e | e
        · exact hs.other i (by omega) _ e1 e
        · have := hlt i (by omega) _ e1; omega
    · by_cases h : i = n
      · simp only [h, if_true]
        intro e1
        have := hxl b e1
        omega
      · simp only [h, if_false]
        intro e1
        have := hlt i (by omega) b e1
        omega
theorem OwnCh.made0 (w : World) : OwnCh (w.alloc (.cells #[] 44)) w.heap.size (w.heap.size + 1) (some ⟨w.heap.size, 0, none⟩) 0 0 [] := by
  refine ⟨rfl, fun b h => by simp [Value.ownBlock] at h; omega, fun _ => ⟨none, 0, 0, []⟩, ?_, fun i h => by omega, fun i j h => by omega, fun i h => by omega, fun i h => by omega⟩
  exact World.ownsRow_lit w #[] 0 (Nat.le_refl _) (by unfold maxLen; omega) rfl
/-- the call answered with changes of its own. -/
def GaveCh (w : World) (cs : List MChg) (e : Ending) (w' : World) : Prop := ∃ A n c, e = .returned (.slice A n c) ∧ OwnCh w' w.heap.size w'.heap.size A n c cs ∧ Below w.heap.size w w'
end Go.Proofs.Ytebfinedkjlbbaa

-- ChgM: Plain facts on changes in bytes. No statement of the program is proved here.
namespace Go.Proofs.Ytebfinedkjlbbaa
set_option maxRecDepth 20000
set_option linter.unusedVariables false
set_option linter.unusedSimpArgs false
open Go.RowKit

/-- the bytes of a change. -/
def chgBytes (x : MChg) : List Int := (x.kind % 256) :: (if x.kind = 1 then two (x.bytes.length : Int) ++ x.bytes else nameBytes x.name)
theorem raw_len (nd : MNode) (h : nodeOk nd = true) : (rawBytes nd).length ≤ 168 := by
  obtain ⟨h1, h2, h3, h4⟩ := nodeOk_parts nd h
  have hp : nd.path.length ≤ 8 := by unfold isPath at h1; simp at h1; omega
  have hk := kidsOk_len nd.kids h2
  have hb := kidBytes_len nd.kids
  have hv : (sb nd.val).length ≤ 12 := by rw [sb_len]; exact nodeOk_val nd h
  unfold rawBytes
  simp only [List.length_append, List.length_cons, List.length_nil, List.length_map]
  omega
theorem read_len {bs : List Int} {nd : MNode} (h : NodeRead bs nd true) : bs.length ≤ 168 := by
  rcases h with ⟨_, h, _, rfl⟩ | ⟨h, _⟩
  · rw [show nodeBytes nd = rawBytes nd from if_pos h]
    exact raw_len nd h
  · cases h
theorem read_pos {bs : List Int} {nd : MNode} (h : NodeRead bs nd true) : 0 < bs.length := by
  rcases h with ⟨_, h, _, rfl⟩ | ⟨h, _⟩
  · rw [show nodeBytes nd = rawBytes nd from if_pos h]
    unfold rawBytes
    simp only [List.length_append, List.length_cons, List.length_nil]
    omega
  · cases h
theorem ok_pos {x : MChg} (h : ChgOk x) (hk : x.kind = 1) : 0 < x.bytes.length := by
  rcases h with ⟨h, _⟩ | ⟨_, ⟨nd, h⟩, _⟩
  · exact absurd hk h
  · exact read_pos h
theorem ok_len {x : MChg} (h : ChgOk x) : x.bytes.length ≤ 168 := by
  rcases h with ⟨_, _, _, _, h⟩ | ⟨_, ⟨nd, h⟩, _⟩
  · rw [h]; simp
  · exact read_len h
theorem chg_len {x : MChg} (h : ChgOk x) : (chgBytes x).length ≤ 180 := by
  have h1 := ok_len h
  have h2 := nameBytes_len8 x.name
  unfold chgBytes
  split
  · simp only [List.length_cons, List.length_append, two, List.length_nil]; omega
  · simp only [List.length_cons]; omega
/-- what the bytes of some changes are, and whether there are any. -/
def ChangesIs (cs : List MChg) (l : List Int) (r : Bool) : Prop :=
  ((cs.length ≤ 200 ∧ ∀ i, i < cs.length → ChgOk (cx cs i)) ∧ l = two (cs.length : Int) ++ cs.flatMap chgBytes ∧ r = true) ∨ (¬ (cs.length ≤ 200 ∧ ∀ i, i < cs.length → ChgOk (cx cs i)) ∧ l = [] ∧ r = false)
theorem ChangesIs.one {cs : List MChg} {l l' : List Int} {r r' : Bool} (h : ChangesIs cs l r) (h' : ChangesIs cs l' r') : l = l' ∧ r = r' := by
  rcases h with ⟨h1, rfl, rfl⟩ | ⟨h1, rfl, rfl⟩ <;> rcases h' with ⟨k1, rfl, rfl⟩ | ⟨k1, rfl, rfl⟩
  · exact ⟨rfl, rfl⟩
  · exact absurd h1 k1
  · exact absurd k1 h1
  · exact ⟨rfl, rfl⟩
theorem flat_len (cs : List MChg) : (∀ i, i < cs.length → ChgOk (cx cs i)) → (cs.flatMap chgBytes).length ≤ cs.length * 180 := by
  induction cs with
  | nil => intro _; simp
  | cons x r ih =>
    intro h
    have h0 := chg_len (h 0 (by simp))
    have h1 := ih (fun i hi => by have := h (i + 1) (by simp; omega); exact this)
    simp only [List.flatMap_cons, List.length_append, List.length_cons]
    have : (chgBytes x).length ≤ 180 := h0
    omega
theorem ChangesIs.len {cs : List MChg} {l : List Int} {r : Bool} (h : ChangesIs cs l r) : l.length ≤ 36002 := by
  rcases h with ⟨⟨h1, h2⟩, rfl, _⟩ | ⟨_, rfl, _⟩
  · have := flat_len cs h2
    simp only [List.length_append, two, List.length_cons, List.length_nil]
    omega
  · simp
theorem flat_step (cs : List MChg) (k : Nat) (h : k < cs.length) : (cs.take (k + 1)).flatMap chgBytes = (cs.take k).flatMap chgBytes ++ chgBytes (cx cs k) := by
  rw [cx_take cs k h, List.flatMap_append]; simp
end Go.Proofs.Ytebfinedkjlbbaa

-- ChgF: The program's forms of changes: what each part of a form answers; the program's ChangeOk.
namespace Go.Proofs.Ytebfinedkjlbbaa
set_option maxRecDepth 100000
set_option linter.unusedVariables false
set_option linter.unusedSimpArgs false
open Go.RowKit

theorem formOf_no (k : Int) (h : ¬ (1 ≤ k ∧ k ≤ 11)) (w : World) :
    Calls Try.prog 89 #[.int .i64 k] w fun e w' => e = .returned (.tuple #[form0, .bool false]) ∧ Below w.heap.size w w' := by
  obtain ⟨w1, hw1⟩ : ∃ w1, w.alloc (.cells #[.nilFunc, .nilFunc, .nilFunc] 110) = w1 := ⟨_, rfl⟩
  have x1 : Box w1 w.heap.size 110 #[.nilFunc, .nilFunc, .nilFunc] := hw1 ▸ heap_alloc_new _ _
  have b1 : Below w.heap.size w w1 := hw1 ▸ (Below.refl _ _).alloc (Nat.le_refl _) _
  have E := Lib.hid (form_end2 w w1 _ _ _ _ .nilFunc .nilFunc .nilFunc x1 b1)
  have p0 := x1.cell 0
  have p1 := x1.cell 1
  have p2 := x1.cell 2
  have g := x1.free
  simp at p0 p1 p2
  clear x1 b1
  by_cases h1 : k < 1
  · have d1 : decide (k < 1) = true := decide_eq_true h1
    clear h h1
    go_enter Try.func89, Try.ntmps89
    go_wp2
    refine bodyPost_ret (v := .tuple #[form0, .bool false]) (results_box2 Try.results89 _ _ w.heap.size _ _ _ _ rfl rfl E.out.1 Try.underlying110 rfl (by kernel_rfl)) rfl ?_
    exact ⟨rfl, E.out.2⟩
  · have d1 : decide (k < 1) = false := decide_eq_false h1
    have d2 : decide (11 < k) = true := decide_eq_true (by omega)
    clear h h1
    go_enter Try.func89, Try.ntmps89
    go_wp2
    refine bodyPost_ret (v := .tuple #[form0, .bool false]) (results_box2 Try.results89 _ _ w.heap.size _ _ _ _ rfl rfl E.out.1 Try.underlying110 rfl (by kernel_rfl)) rfl ?_
    exact ⟨rfl, E.out.2⟩

theorem hasNoBytes_any (k m : Int) (A : Option Addr) (n c : Nat) (w : World) :
    Calls Try.prog 121 #[.agg #[.int .i64 k, .int .i64 m, .slice A n c]] w fun e w' => e = .returned (.bool (decide (n = 0))) ∧ Below w.heap.size w w' := by
  have b1 := Lib.hid ((Below.refl w.heap.size w).alloc (Nat.le_refl _) (.cells #[.int .i64 k, .int .i64 m, .slice A n c] 44))
  by_cases h : n = 0
  · subst h
    go_enter Try.func121, Try.ntmps121
    go_wp2
    go_ret
    exact ⟨rfl, b1.out⟩
  · have d1 : decide ((n : Int) = 0) = false := decide_eq_false (by omega)
    have d2 : ((n : Int) == 0) = false := by simpa using h
    have d3 := Lib.hid (decide_eq_false h)
    clear h
    go_enter Try.func121, Try.ntmps121
    go_wp2
    go_ret
    exact ⟨by rw [d3.out]; first | rfl | (rw [d2]; rfl) | (rw [d1]; rfl), b1.out⟩

theorem nameShown_any (k m : Int) (A : Option Addr) (n c : Nat) (w : World) :
    Calls Try.prog 122 #[.agg #[.int .i64 k, .int .i64 m, .slice A n c]] w fun e w' => ∃ A' n' c', e = .returned (.slice A' n' c') ∧ Mine w' w.heap.size A' n' c' (nameBytes m) ∧ Below w.heap.size w w' := by
  obtain ⟨w1, hw1⟩ : ∃ w1, w.alloc (.cells #[.int .i64 k, .int .i64 m, .slice A n c] 44) = w1 := ⟨_, rfl⟩
  have x1 : Box w1 w.heap.size _ _ := hw1 ▸ heap_alloc_new _ _
  have b1 := Lib.hid (show Below w.heap.size w w1 from hw1 ▸ (Below.refl _ _).alloc (Nat.le_refl _) _)
  have q1 := x1.cell 1
  simp at q1
  clear x1
  go_enter Try.func122, Try.ntmps122
  go_wp2_with fail
  refine (bytes_any m w1).mono ?_
  rintro e w2 ⟨A', n', c', rfl, m2, b2⟩
  have M2 := Lib.hid m2
  have B2 := Lib.hid b2
  clear m2 b2
  go_wp2
  go_ret
  exact ⟨_, _, _, rfl, M2.out.base b1.out.size, b1.out.trans (B2.out.mono b1.out.size)⟩

theorem hasNode_any (k m : Int) (A : Option Addr) (n c : Nat) (bs : List Int) (B : Nat) (w : World) (hn : n ≤ 1048576) (hc : n ≤ c) (hA : A = none → c = 0) (hB : B ≤ w.heap.size) (hb : Byts w B A n bs) :
    Calls Try.prog 124 #[.agg #[.int .i64 k, .int .i64 m, .slice A n c]] w fun e w' => ∃ r, e = .returned (.bool r) ∧ (r = true ↔ (IsNode bs ∧ nameOf bs = m)) ∧ Below w.heap.size w w' := by
  obtain ⟨w1, hw1⟩ : ∃ w1, w.alloc (.cells #[.int .i64 k, .int .i64 m, .slice A n c] 44) = w1 := ⟨_, rfl⟩
  have x1 : Box w1 w.heap.size _ _ := hw1 ▸ heap_alloc_new _ _
  have b1 := Lib.hid (show Below w.heap.size w w1 from hw1 ▸ (Below.refl _ _).alloc (Nat.le_refl _) _)
  have HB := Lib.hid ((hb.more hB).below b1.out)
  have s1 := b1.out.size
  have q1 := x1.cell 1
  have q2 := x1.cell 2
  simp at q1 q2
  clear x1 hb
  go_enter Try.func124, Try.ntmps124
  go_wp2_with fail
  refine (named_any m A n c bs w.heap.size w1 hn hc hA s1 HB.out).mono ?_
  rintro e w2 ⟨v, nd, r, rfl, own, b2, hcase⟩
  have B2 := Lib.hid (b1.out.trans (b2.mono s1))
  obtain ⟨Ap, np, cp, Ak, nk, ck, rfl, _⟩ := own
  have HC := Lib.hid (show r = true ↔ (IsNode bs ∧ nameOf bs = m) from by
    rcases hcase with ⟨h1, h2, h3⟩ | ⟨h1, h2⟩
    · exact iff_of_true h1 ⟨(IsNode.of h2).1 rfl, h3⟩
    · exact iff_of_false (by rw [h1]; simp) h2)
  have B3 := Lib.hid (B2.out.trans (((Below.refl w2.heap.size w2).alloc (Nat.le_refl _) (.cells #[.int .i64 nd.kind, .slice Ap np cp, .slice Ak nk ck, .string nd.val] 26)).mono B2.out.size))
  clear hcase b2 q1 q2
  go_wp2
  go_ret
  exact ⟨r, rfl, HC.out, B3.out⟩

set_option maxHeartbeats 1600000 in
theorem implChangeOk_any (x : MChg) (A : Option Addr) (n c : Nat) (B : Nat) (w : World) (hn : n ≤ 1048576) (hc : n ≤ c) (hA : A = none → c = 0) (hB : B ≤ w.heap.size) (hb : Byts w B A n x.bytes) :
    Calls Try.prog 33 #[.agg #[.int .i64 x.kind, .int .i64 x.name, .slice A n c]] w fun e w' => ∃ r, e = .returned (.bool r) ∧ (r = true ↔ ChgOk x) ∧ Below w.heap.size w w' := by
  have hlen := hb.1
  obtain ⟨w1, hw1⟩ : ∃ w1, w.alloc (.cells #[.int .i64 x.kind, .int .i64 x.name, .slice A n c] 44) = w1 := ⟨_, rfl⟩
  have x1 : Box w1 w.heap.size _ _ := hw1 ▸ heap_alloc_new _ _
  have B1 := Lib.hid (show Below w.heap.size w w1 from hw1 ▸ (Below.refl _ _).alloc (Nat.le_refl _) _)
  have HB := Lib.hid ((hb.more hB).below B1.out)
  have s1 := B1.out.size
  have l1 : w.heap.size < w1.heap.size := x1.lt
  have X1 := Lib.hid x1
  have q0 := x1.cell 0
  simp at q0
  clear x1 hb
  by_cases hk : 1 ≤ x.kind ∧ x.kind ≤ 11
  case neg =>
    have hno := Lib.hid (show ¬ ChgOk x from fun h => by
      rcases h with ⟨_, h1, h2, _⟩ | ⟨h, _⟩
      · exact hk ⟨by omega, h2⟩
      · exact hk ⟨by omega, by omega⟩)
    have FO := Lib.hid (formOf_no x.kind hk)
    clear hk
    go_enter Try.func33, Try.ntmps33
    go_wp2_with fail
    refine (FO.out w1).mono ?_
    rintro e w2 ⟨rfl, b2⟩
    have B2 := Lib.hid (B1.out.trans (b2.mono s1))
    have B3 := Lib.hid (B2.out.alloc B2.out.size (.cells #[.nilFunc, .nilFunc, .nilFunc] 110))
    clear b2 q0
    unfold form0
    go_wp2
    go_ret
    exact ⟨false, rfl, iff_of_false (by simp) hno.out, B3.out⟩
  case pos =>
    by_cases hk1 : x.kind = 1
    · have HK := Lib.hid hk1
      have FO := Lib.hid (formOf_cell x.kind hk1)
      clear hk hk1
      go_enter Try.func33, Try.ntmps33
      go_wp2_with fail
      refine (FO.out w1).mono ?_
      rintro e w2 ⟨rfl, b2⟩
      have s2 := b2.size
      have B2 := Lib.hid (B1.out.trans (b2.mono s1))
      have X2 := Lib.hid (X1.out.below b2 l1)
      have Y2 := Lib.hid (HB.out.below (b2.mono s1))
      obtain ⟨w3, hw3⟩ : ∃ w3, w2.alloc (.cells #[.func (.func 124) #[] #[], .func (.func 125) #[] #[], .func (.func 126) #[] #[]] 110) = w3 := ⟨_, rfl⟩
      have b3 : Below w2.heap.size w2 w3 := hw3 ▸ (Below.refl _ _).alloc (Nat.le_refl _) _
      have F3 := Lib.hid (show Box w3 w2.heap.size _ _ from hw3 ▸ heap_alloc_new _ _)
      have B3 := Lib.hid (B2.out.trans (b3.mono (by omega)))
      have X3 := Lib.hid (X2.out.below b3 (by omega))
      have Y3 := Lib.hid (Y2.out.below (b3.mono (by omega)))
      have s3 : w2.heap.size ≤ w3.heap.size := b3.size
      have p0 := X3.out.cell 0
      have p1 := X3.out.cell 1
      have p2 := X3.out.cell 2
      have f0 := F3.out.cell 0
      simp at p0 p1 p2 f0
      clear b2 q0 b3
      unfold formC
      by_cases h0 : 0 ≤ x.name
      · have d0 : decide (0 ≤ x.name) = true := decide_eq_true h0
        clear h0
        go_wp2_with fail
        refine (hasNode_any x.kind x.name A n c x.bytes w.heap.size w3 hn hc hA B3.out.size Y3.out).mono ?_
        rintro e w4 ⟨r, rfl, hr, b4⟩
        have B4 := Lib.hid (B3.out.trans (b4.mono B3.out.size))
        have HR := Lib.hid hr
        clear hr b4
        go_wp2
        go_ret
        refine ⟨r, rfl, ?_, B4.out⟩
        refine HR.out.trans ⟨fun h => .inr ⟨HK.out, h.1, h.2.symm⟩, fun h => ?_⟩
        rcases h with ⟨h, _⟩ | ⟨_, h1, h2⟩
        · exact absurd HK.out h
        · exact ⟨h1, h2.symm⟩
      · have d0 : decide (0 ≤ x.name) = false := decide_eq_false h0
        have hno := Lib.hid (show ¬ ChgOk x from fun h => by
          rcases h with ⟨h, _⟩ | ⟨_, _, h2⟩
          · exact h HK.out
          · have := nameOf_bd x.bytes
            omega)
        clear h0
        go_wp2
        go_ret
        exact ⟨false, rfl, iff_of_false (by simp) hno.out, B3.out⟩
    · have HK := Lib.hid (show ¬ x.kind = 1 ∧ 2 ≤ x.kind ∧ x.kind ≤ 11 from ⟨hk1, by omega, by omega⟩)
      have FO := Lib.hid (formOf_name x.kind (by omega) (by omega))
      clear hk hk1
      go_enter Try.func33, Try.ntmps33
      go_wp2_with fail
      refine (FO.out w1).mono ?_
      rintro e w2 ⟨rfl, b2⟩
      have s2 := b2.size
      have B2 := Lib.hid (B1.out.trans (b2.mono s1))
      have X2 := Lib.hid (X1.out.below b2 l1)
      have Y2 := Lib.hid (HB.out.below (b2.mono s1))
      obtain ⟨w3, hw3⟩ : ∃ w3, w2.alloc (.cells #[.func (.func 121) #[] #[], .func (.func 122) #[] #[], .func (.func 123) #[] #[]] 110) = w3 := ⟨_, rfl⟩
      have b3 : Below w2.heap.size w2 w3 := hw3 ▸ (Below.refl _ _).alloc (Nat.le_refl _) _
      have F3 := Lib.hid (show Box w3 w2.heap.size _ _ from hw3 ▸ heap_alloc_new _ _)
      have B3 := Lib.hid (B2.out.trans (b3.mono (by omega)))
      have X3 := Lib.hid (X2.out.below b3 (by omega))
      have Y3 := Lib.hid (Y2.out.below (b3.mono (by omega)))
      have s3 : w2.heap.size ≤ w3.heap.size := b3.size
      have p0 := X3.out.cell 0
      have p1 := X3.out.cell 1
      have p2 := X3.out.cell 2
      have f0 := F3.out.cell 0
      simp at p0 p1 p2 f0
      clear b2 q0 b3
      unfold formN
      by_cases h0 : 0 ≤ x.name
      · have d0 : decide (0 ≤ x.name) = true := decide_eq_true h0
        have H0 := Lib.hid h0
        clear h0
        go_wp2_with fail
        refine (hasNoBytes_any x.kind x.name A n c w3).mono ?_
        rintro e w4 ⟨rfl, b4⟩
        have B4 := Lib.hid (B3.out.trans (b4.mono B3.out.size))
        have HL := Lib.hid hlen
        clear b4
        obtain ⟨r, hr⟩ : ∃ r, decide (n = 0) = r := ⟨_, rfl⟩
        have HR := Lib.hid hr
        rw [hr]
        clear hr
        go_wp2
        go_ret
        refine ⟨r, rfl, ?_, B4.out⟩
        rw [← HR.out, decide_eq_true_iff]
        refine ⟨fun h => .inl ⟨HK.out.1, HK.out.2.1, HK.out.2.2, H0.out, List.eq_nil_of_length_eq_zero (by have := HL.out; omega)⟩, fun h => ?_⟩
        rcases h with ⟨_, _, _, _, h⟩ | ⟨h, _⟩
        · have := HL.out; rw [h] at this; simpa using this.symm
        · exact absurd h HK.out.1
      · have d0 : decide (0 ≤ x.name) = false := decide_eq_false h0
        have hno := Lib.hid (show ¬ ChgOk x from fun h => by
          rcases h with ⟨_, _, _, h, _⟩ | ⟨h, _⟩
          · exact h0 h
          · exact HK.out.1 h)
        clear h0
        go_wp2
        go_ret
        exact ⟨false, rfl, iff_of_false (by simp) hno.out, B3.out⟩
end Go.Proofs.Ytebfinedkjlbbaa

-- OpenChs: Changes that came in as an argument: what is known of their value.
namespace Go.Proofs.Ytebfinedkjlbbaa
set_option maxRecDepth 20000
set_option linter.unusedVariables false
set_option linter.unusedSimpArgs false
open Go.RowKit Go.ChangeShapes Go.WideShapes Go.Joins Go.Deep

instance : Inhabited MChg := ⟨chg0⟩
/-- the value v is a slice of changes cs that came in. -/
def ChsArg (w : World) (v : Value) (cs : List MChg) : Prop :=
  ∃ A n c, v = .slice A n c ∧ n ≤ maxLen ∧ Chs w w.heap.size A n cs ∧ ∀ i, (cx cs i).bytes.length ≤ maxLen

theorem chs_of_trod {H : Type} {enc : TypeId × Value → H} {w : World} {fuel : Nat} {v : Value} {x : DataW H × List MemPlace}
    (h : DataW.trod enc Try.prog w 0 (fun _ => true) true fuel 48 [v] = some x) : ∃ cs, ChsArg w v cs := by
  have he := Try.underlying41
  have ce : Try.prog.cellsOf 41 = 3 := by kernel_rfl
  rcases open_slice Try.underlying48 h with ⟨hcs, _⟩ | ⟨a, l, c, m, n, D, Pl, hcs, _, hl, hm, hmm, _, hx⟩
  · simp at hcs
    exact ⟨[], none, 0, 0, hcs, by unfold maxLen; omega, Chs.none_, fun i => by simp [cx, chg0]⟩
  · simp at hcs
    have hlm : l ≤ m := by rw [hmm]; simp; exact hl
    have each : ∀ i, i < l → ∃ z : MChg, w.cell? (a.add (i * 3)) = some (.int .i64 z.kind) ∧ w.cell? (a.add (i * 3 + 1)) = some (.int .i64 z.name) ∧ z.bytes.length ≤ maxLen ∧ ∃ Ai ni ci, w.cell? (a.add (i * 3 + 2)) = some (.slice Ai ni ci) ∧ ni ≤ ci ∧ (Ai = none → ci = 0) ∧ Byts w w.heap.size Ai ni z.bytes := by
      intro i hi
      obtain ⟨cs', h1, h2⟩ := hx i (by omega)
      rw [ce] at h1
      obtain ⟨_, hlen, hcell⟩ := World.cells?_some h1
      obtain ⟨xs, k, hk, hxy, _, hxl, hf⟩ := DataW.trod_struct he h2
      match xs, hxl, cs', hlen with
      | [y0, y1, y2], _, [v0, v1, v2], _ =>
        have g0 := hf 0 _ rfl
        have g1 := hf 1 _ rfl
        have g2 := hf 2 _ rfl
        have c0 : Try.prog.cellsOf 2 = 1 := by kernel_rfl
        have c2 : Try.prog.cellsOf 22 = 1 := by kernel_rfl
        simp [c0, c2] at g0 g1 g2
        have e0 := hcell 0 (by omega)
        have e1 := hcell 1 (by omega)
        have e2 := hcell 2 (by omega)
        rw [add_add] at e0 e1 e2
        obtain ⟨z0, q0, _⟩ := DataW.trod_int Try.underlying2 g0
        obtain ⟨z1, q1, _⟩ := DataW.trod_int Try.underlying2 g1
        obtain ⟨Ai, ni, ci, zs, q2, hr⟩ := row_of_trod Try.underlying22 Try.underlying5 (by kernel_rfl) g2
        simp at q0 q1
        subst q0 q1 q2
        refine ⟨⟨z0, z1, zs.take ni⟩, by simpa using e0, by simpa using e1, ?_, Ai, ni, ci, by simpa using e2, ?_, ?_, hr.byts⟩
        · rcases hr with ⟨_, rfl, _, _⟩ | ⟨_, _, h2, h3, _⟩
          · simp
          · simp; omega
        · rcases hr with ⟨_, rfl, rfl, _⟩ | ⟨_, _, h2, h3, _⟩
          · exact Nat.le_refl _
          · exact h2
        · rcases hr with ⟨_, _, rfl, _⟩ | ⟨_, e, h2, h3, _⟩
          · exact fun _ => rfl
          · intro e'; rw [e] at e'; cases e'
    obtain ⟨Z, hZ⟩ := choose_lt each
    refine ⟨(List.range l).map Z, some a, l, c, hcs, by omega, ⟨by simp, fun hp => ?_⟩, fun i => ?_⟩
    · obtain ⟨b, off, spot⟩ := a
      have h0 := (hZ 0 (by omega)).1
      have hspot : spot = none := by simpa [Addr.add] using World.cell?_spot h0
      subst hspot
      refine ⟨b, off, rfl, by simpa [Addr.add] using block_lt_of_cell h0, fun i hi => ?_⟩
      have hadd : ∀ j, (Addr.add ⟨b, off, none⟩ j) = ⟨b, off + j, none⟩ := fun j => by unfold Addr.add; split <;> simp_all
      obtain ⟨k0, k1, _, Ai, ni, ci, k2, k3, k4, k5⟩ := hZ i hi
      rw [hadd] at k0 k1 k2
      have e : cx ((List.range l).map Z) i = Z i := by simp [cx, hi]
      rw [e]
      exact ⟨k0, k1, Ai, ni, ci, k2, k3, k4, k5⟩
    · by_cases hi : i < l
      · have e : cx ((List.range l).map Z) i = Z i := by simp [cx, hi]
        rw [e]
        exact (hZ i hi).2.2.1
      · have e : cx ((List.range l).map Z) i = chg0 := by simp [cx, hi]
        rw [e]; simp [chg0]

theorem open_chs {H : Type} {enc : TypeId × Value → H} {w : World} {r : Reach} {b0 : Nat} {v : Value} {d : DataW H} {p : List MemPlace} (_hv : Value.okWide Try.prog w r b0 48 v)
    (h : DataW.Trod enc Try.prog w 0 (fun _ => true) true 48 v d p) (hc : ∃ A n c, v = .slice A n c) : ∃ cs, ChsArg w v cs := by
  obtain ⟨A, n, c, rfl⟩ := hc
  obtain ⟨fuel, hf⟩ := h
  exact chs_of_trod (by simpa [Value.cells] using hf)
end Go.Proofs.Ytebfinedkjlbbaa

-- ChsX: What the helpers of the exact laws do at slices of changes: counted, copied, compared, marked, held against the marks.
namespace Go.Proofs.Ytebfinedkjlbbaa
set_option maxRecDepth 20000
set_option linter.unusedVariables false
set_option linter.unusedSimpArgs false
open Go.RowKit

/-- the size of some changes, as the laws count it. -/
def szH : List MChg → Nat
  | [] => 0
  | c :: r => 1 + c.bytes.length + szH r
theorem szH_append (a b : List MChg) : szH (a ++ b) = szH a + szH b := by
  induction a with
  | nil => simp [szH]
  | cons x r ih => simp [szH, ih]; omega
theorem szH_take (cs : List MChg) (k : Nat) (h : k < cs.length) : szH (cs.take (k + 1)) = szH (cs.take k) + 1 + (cx cs k).bytes.length := by
  rw [cx_take cs k h, szH_append]; simp [szH]; omega
theorem szH_take_le (cs : List MChg) (k : Nat) : szH (cs.take k) ≤ szH cs := by
  conv => rhs; rw [← List.take_append_drop k cs, szH_append]
  omega
theorem szH_len (cs : List MChg) : cs.length ≤ szH cs := by
  induction cs with
  | nil => simp
  | cons x r ih => simp [szH]; omega
theorem cx_bd (cs : List MChg) (h : szH cs ≤ 1048576) (i : Nat) : (cx cs i).bytes.length ≤ 1048576 := by
  by_cases hi : i < cs.length
  · have h1 := szH_take cs i hi
    have h2 := szH_take_le cs (i + 1)
    omega
  · have e : cx cs i = chg0 := by unfold cx; rw [List.getElem?_eq_none (by omega)]; rfl
    rw [e]; simp [chg0]

theorem szChanges_any (A : Option Addr) (n c : Nat) (cs : List MChg) (w : World) (hn : n ≤ maxLen) (hm : ∀ i, (cx cs i).bytes.length ≤ maxLen) (hb : Chs w w.heap.size A n cs) :
    Calls Try.prog 35 #[.slice A n c, .int .i64 1048576] w fun e w' => e = .returned (.int .i64 (leftOf 1048576 (szH cs))) ∧ Below w.heap.size w w' := by
  have hlen : cs.length = n := hb.1
  have HB := Lib.hid hb
  clear hb
  unfold maxLen at hn
  by_cases hbig : 1048576 < n
  · have hr : leftOf 1048576 (szH cs) = -1 := if_neg (by have := szH_len cs; omega)
    rw [hr]
    go_enter Try.func35, Try.ntmps35
    go_wp2
    go_ret
    exact ⟨rfl, Below.refl _ _⟩
  · have hle : n ≤ 1048576 := by omega
    have hwr : IntKind.i64.wrap (1048576 - (n : Int)) = ((1048576 - n : Nat) : Int) := by rw [IntKind.wrap_i64]; omega
    have hd : decide ((((1048576 - n : Nat) : Int)) < 0) = false := decide_eq_false (by omega)
    go_enter Try.func35, Try.ntmps35
    go_wp2
    go_loopw [1, 5] (fun l i wr => ∃ k x : Nat, k ≤ n ∧ i = .int .i64 k ∧ l = .int .i64 x ∧ x + n + szH (cs.take k) = 1048576 + k ∧ Below w.heap.size w wr) (fun _ i _ => n - (intOf i).toNat)
    case atStart => exact ⟨0, 1048576 - n, Nat.zero_le _, rfl, by first | rfl | (simp; omega), by simp [szH]; omega, Below.refl _ _⟩
    case round =>
      obtain ⟨k, x, hk, rfl, rfl, hx, hbel⟩ := hrel
      by_cases hlt : k < n
      · obtain ⟨b, off, Ai, ni, ci, rfl, hbB, h0, h1, h2, _, _, hby⟩ := (HB.out.below hbel).at_ hlt
        have hni : (cx cs k).bytes.length = ni := hby.1
        have hnm := hm k
        have hst := szH_take cs k (by omega)
        have hall := szH_take_le cs (k + 1)
        have BR := Lib.hid hbel
        clear hbel hby
        go_wp2_with fail
        refine (szChange_any (cx cs k) _ _ _ x _ (by omega) (by omega)).mono ?_
        rintro e w1 ⟨rfl, b1⟩
        have B1 := Lib.hid (BR.out.trans (b1.mono BR.out.size))
        clear b1 h0 h1 h2
        by_cases hq : ni ≤ x
        · rw [if_pos hq]
          have hd2 : decide ((((x - ni : Nat) : Int)) < 0) = false := decide_eq_false (by omega)
          go_wp2
          go_roundw
          case rel => exact ⟨k + 1, x - ni, by omega, by go_num, rfl, by omega, B1.out⟩
          case measure => simp [intOf]; omega
        · rw [if_neg hq]
          go_wp2
          go_ret
          have hle3 : n ≤ k + 1 + szH (cs.drop (k + 1)) := by have := szH_len (cs.drop (k + 1)); simp at this; omega
          have hsum : szH cs = szH (cs.take (k + 1)) + szH (cs.drop (k + 1)) := by rw [← szH_append, List.take_append_drop]
          exact ⟨by rw [show leftOf 1048576 (szH cs) = -1 from if_neg (by omega)]; rfl, B1.out⟩
      · obtain rfl : k = n := by omega
        have hst : cs.take k = cs := List.take_of_length_le (by omega)
        rw [hst] at hx
        go_wp2
        go_ret
        exact ⟨by rw [show leftOf 1048576 (szH cs) = ((1048576 - szH cs : Nat) : Int) from if_pos (by omega)]; exact ret_i64 (by omega), hbel⟩

/-- the changes as far as they are filled. -/
def filledH (cs : List MChg) (n k : Nat) : List MChg := cs.take k ++ List.replicate (n - k) chg0
theorem filledH_set (cs : List MChg) (n k : Nat) (hz : cs.length = n) (hk : k < n) : (filledH cs n k).set k (cx cs k) = filledH cs n (k + 1) := by
  unfold filledH
  obtain ⟨m, hm⟩ : ∃ m, n - k = m + 1 := ⟨n - k - 1, by omega⟩
  have hm' : n - (k + 1) = m := by omega
  have hl : min k cs.length = k := by omega
  rw [hm, hm', cx_take cs k (by omega)]
  simp [List.replicate_succ, hl]
theorem filledH_all (cs : List MChg) (n : Nat) (hz : cs.length = n) : filledH cs n n = cs := by
  unfold filledH
  rw [List.take_of_length_le (by omega)]; simp
def noSubH : Sub := ⟨none, 0, 0, []⟩
theorem make_changes (n : Nat) (hn : n ≤ 2199023255552) (W : World) :
    (Instr.makeSlice 52 (.int .i64 (n : Int)) (.int .i64 (n : Int))).run Try.prog W = .ok (.slice (some ⟨W.heap.size, 0, none⟩) n n) (W.alloc (.cells (hvs n (List.replicate n chg0) fun _ => noSubH).toArray 44)) := by
  obtain ⟨i0, hi, hz0, hz1, hz2⟩ := info_parts Try.infoCh
  have hr := run_make (P := Try.prog) W 52 44 i0 (.agg #[.int .i64 0, .int .i64 0, .slice none 0 0]) Try.underlying52 hi hz0 .i64 .i64 n n (by omega) (by omega) (by rw [hz2]; omega) (by omega)
  simp only [Int.toNat_natCast] at hr
  rw [hr, hz1]
  have e : madeCells (Value.agg #[.int .i64 0, .int .i64 0, .slice none 0 0]).cells (n * 3) = (hvs n (List.replicate n chg0) fun _ => noSubH).toArray := by
    apply Array.ext
    · simp [madeCells, hvs]
    · intro i h1 h2
      have hn : i < n * 3 := by simpa [madeCells] using h1
      have hd : i / 3 < n := by omega
      simp [madeCells, hvs, Value.cells, hf, cx, hd, Sub.v, noSubH, chg0]
      rcases (show i % 3 = 0 ∨ i % 3 = 1 ∨ i % 3 = 2 by omega) with h | h | h <;> simp [h]
  rw [e]
theorem OwnCh.of_made (w : World) (n : Nat) (hm : n ≤ maxLen) : OwnCh (w.alloc (.cells (hvs n (List.replicate n chg0) fun _ => noSubH).toArray 44)) w.heap.size (w.heap.size + 1) (some ⟨w.heap.size, 0, none⟩) n n (List.replicate n chg0) := by
  refine ⟨by simp, fun b h => by simp [Value.ownBlock] at h; omega, fun _ => noSubH, ?_, ?_⟩
  · refine ⟨by simp [hvs], .inr ⟨w.heap.size, n, _, rfl, Nat.le_refl _, heap_alloc_new _ _, Nat.le_refl _, hm, by simp [hvs], List.take_of_length_le (by simp [hvs])⟩⟩
  · refine ⟨fun i hi => ?_, fun i j _ _ _ b h => by simp [Sub.v, noSubH, Value.ownBlock] at h, fun i _ b h => by simp [Sub.v, noSubH, Value.ownBlock] at h, fun i _ b h => by simp [Sub.v, noSubH, Value.ownBlock] at h⟩
    have e : cx (List.replicate n chg0) i = chg0 := by simp [cx, hi]
    rw [e]
    exact Mine.nil _ _

theorem copyH_any (A : Option Addr) (n c : Nat) (cs : List MChg) (B : Nat) (w : World) (hn : n ≤ 2199023255552) (hm : ∀ i, (cx cs i).bytes.length ≤ 1048576) (hB : B ≤ w.heap.size) (hb : Chs w B A n cs) :
    Calls Try.prog 37 #[.slice A n c] w (GaveCh w cs) := by
  have HB := Lib.hid hb
  have hlen := hb.1
  clear hb
  have HM := Lib.hid (make_changes n hn)
  go_enter Try.func37, Try.ntmps37
  have hmk := HM.out
  go_wp2
  clear hmk
  have M0 := Lib.hid (OwnCh.of_made w n (by unfold maxLen; omega))
  go_loopw [4] (fun i wr => ∃ k : Nat, k ≤ n ∧ i = .int .i64 k ∧ OwnCh wr w.heap.size wr.heap.size (some ⟨w.heap.size, 0, none⟩) n n (filledH cs n k) ∧ Below w.heap.size w wr) (fun i _ => n - (intOf i).toNat)
  case atStart => exact ⟨0, Nat.zero_le _, rfl, by simpa [filledH] using M0.out, (Below.refl _ _).alloc (Nat.le_refl _) _⟩
  case round =>
    obtain ⟨k, hk, rfl, hm', hbel⟩ := hrel
    by_cases hlt : k < n
    · obtain ⟨b, off, Ai, ni, ci, rfl, hbB, h0, h1, h2, _, _, hby⟩ := (HB.out.below (hbel.mono hB)).at_ hlt
      have hni : (cx cs k).bytes.length = ni := hby.1
      have hset := filledH_set cs n k hlen hlt
      have hnm := hm k
      have hs0 := hbel.size
      generalize cx cs k = x at h0 h1 h2 hset hby hni hnm
      have HS := Lib.hid hset
      have HY := Lib.hid hby
      clear hset hby
      have MR := Lib.hid hm'
      have BR := Lib.hid hbel
      clear hm' hbel
      go_wp2_with fail
      refine (toChange_any x _ _ _ B _ (by omega) (by omega) HY.out).mono ?_
      rintro e w1 ⟨A1, n1, c1, rfl, m1, b1⟩
      have o1 := MR.out.below b1
      have hc0 := o1.cell0 hlt
      have hc1 := o1.cell1 hlt
      obtain ⟨Aj, nj, cj, hc2, _, _, _⟩ := o1.cell2 hlt
      have hf0 := o1.free (k * 3)
      have hf1 := o1.free (k * 3 + 1)
      have hf2 := o1.free (k * 3 + 2)
      have hp := MR.out.put x (Nat.le_refl _) b1 m1 hlt (Nat.le_refl _) hs0
      rw [HS.out] at hp
      have S1 := Lib.hid hp
      have B1 := Lib.hid (BR.out.trans (b1.mono BR.out.size))
      have Z1 := Lib.hid hs0
      clear hp b1 o1 m1 h0 h1 h2 hs0
      go_wp2
      go_roundw
      case rel =>
        refine ⟨k + 1, by omega, by go_num, ?_, B1.out.trans (S1.out.2.below B1.out.size (fun b hb h => by omega))⟩
        simpa using S1.out.1
      case measure => simp [intOf]; omega
    · go_wp2
      go_ret
      obtain rfl : k = n := by omega
      rw [filledH_all cs k hlen] at hm'
      exact ⟨_, k, k, rfl, hm', hbel⟩
theorem likeH_yes (A A' : Option Addr) (n c c' : Nat) (cs : List MChg) (B B' : Nat) (w : World) (hn : n ≤ 1048576) (hm : ∀ i, (cx cs i).bytes.length ≤ 1048576) (hB : B ≤ w.heap.size) (hB' : B' ≤ w.heap.size) (hb : Chs w B A n cs) (hb' : Chs w B' A' n cs) :
    Calls Try.prog 39 #[.slice A n c, .slice A' n c'] w fun e w' => e = .returned (.bool true) ∧ Below w.heap.size w w' := by
  have HB := Lib.hid (hb.more hB)
  have HB' := Lib.hid (hb'.more hB')
  clear hb hb'
  go_enter Try.func39, Try.ntmps39
  go_wp2
  go_loopw [5] (fun i wr => ∃ k : Nat, k ≤ n ∧ i = .int .i64 k ∧ Below w.heap.size w wr) (fun i _ => n - (intOf i).toNat)
  case atStart => exact ⟨0, Nat.zero_le _, rfl, Below.refl _ _⟩
  case round =>
    obtain ⟨k, hk, rfl, hbel⟩ := hrel
    by_cases hlt : k < n
    · obtain ⟨b, off, Ai, ni, ci, rfl, hbB, h0, h1, h2, _, _, hy⟩ := (HB.out.below hbel).at_ hlt
      obtain ⟨b', off', Ai', ni', ci', rfl, hbB', h0', h1', h2', _, _, hy'⟩ := (HB'.out.below hbel).at_ hlt
      have hnm := hm k
      have e1 : ni' = ni := hy'.1.symm.trans hy.1
      obtain rfl := e1
      have hl := hy.1
      generalize cx cs k = x at h0 h1 h2 h0' h1' h2' hy hy' hnm hl
      have Y := Lib.hid hy
      have Y' := Lib.hid hy'
      have BR := Lib.hid hbel
      clear hbel hy hy'
      go_wp2
      go_still_tail 8, (by kernel_rfl)
      change wpList _ _ _ _ _ wr.drew
      have BD := Lib.hid BR.out.drew
      have hsz := BR.out.size
      have Y := Lib.hid (Y.out.drewN 1)
      have Y' := Lib.hid (Y'.out.drewN 1)
      have e2 : wr.drewN 1 = wr.drew := rfl
      rw [e2] at Y Y'
      have hsz2 : wr.drew.heap.size = wr.heap.size := rfl
      generalize wr.drew = w2 at BD Y Y' hsz2
      clear h0 h1 h2 h0' h1' h2' e2
      go_wp2_with fail
      refine (eqChange_yes x _ _ _ _ _ _ _ _ (by omega) (by omega) (by omega) Y.out Y'.out).mono ?_
      rintro e w3 ⟨rfl, b3⟩
      have B3 := Lib.hid (BD.out.trans (b3.mono BD.out.size))
      clear b3
      go_wp2
      go_roundw
      case rel => exact ⟨k + 1, by omega, by go_num, B3.out⟩
      case measure => simp [intOf]; omega
    · go_wp2
      go_ret
      exact ⟨rfl, hbel⟩
end Go.Proofs.Ytebfinedkjlbbaa

-- ChsY: Slices of changes, marked by the laws and held against the marks.
namespace Go.Proofs.Ytebfinedkjlbbaa
set_option maxRecDepth 20000
set_option linter.unusedVariables false
set_option linter.unusedSimpArgs false
open Go.RowKit

/-- how many marks some changes take. -/
def mlH : List MChg → Nat
  | [] => 0
  | c :: r => 2 + c.bytes.length + mlH r
theorem mlH_append (a b : List MChg) : mlH (a ++ b) = mlH a + mlH b := by
  induction a with
  | nil => simp [mlH]
  | cons x r ih => simp [mlH, ih]; omega
theorem mlH_take (cs : List MChg) (k : Nat) (h : k < cs.length) : mlH (cs.take (k + 1)) = mlH (cs.take k) + 2 + (cx cs k).bytes.length := by
  rw [cx_take cs k h, mlH_append]; simp [mlH]; omega
theorem mlH_take_le (cs : List MChg) (k : Nat) : mlH (cs.take k) ≤ mlH cs := by
  conv => rhs; rw [← List.take_append_drop k cs, mlH_append]
  omega
theorem mlH_sz (cs : List MChg) : mlH cs = szH cs + cs.length := by
  induction cs with
  | nil => rfl
  | cons x r ih => simp [mlH, szH, ih]; omega
theorem mlH_le (l : List MChg) (m : Nat) (h : ∀ x ∈ l, x.bytes.length ≤ m) : mlH l ≤ l.length * (2 + m) := by
  induction l with
  | nil => simp [mlH]
  | cons x r ih =>
    have h1 := h x (List.mem_cons_self ..)
    have h2 := ih (fun y hy => h y (List.mem_cons_of_mem _ hy))
    simp only [mlH, List.length_cons, Nat.add_mul, Nat.one_mul]
    omega
/-- the changes as the marks from k0 on leave them. -/
def markH (k0 : Int) : List MChg → List MChg
  | [] => []
  | c :: r => ⟨k0, k0 + 1, marks (k0 + 2) c.bytes.length⟩ :: markH (k0 + 2 + c.bytes.length) r
theorem markH_append (k0 : Int) (a b : List MChg) : markH k0 (a ++ b) = markH k0 a ++ markH (k0 + mlH a) b := by
  induction a generalizing k0 with
  | nil => simp [markH, mlH]
  | cons x r ih =>
    have e : k0 + 2 + (x.bytes.length : Int) + (mlH r : Int) = k0 + ((2 + x.bytes.length + mlH r : Nat) : Int) := by push_cast; omega
    simp only [List.cons_append, markH, ih, mlH, e]
theorem markH_len (k0 : Int) (cs : List MChg) : (markH k0 cs).length = cs.length := by
  induction cs generalizing k0 with
  | nil => rfl
  | cons x r ih => simp [markH, ih]
theorem markH_cx (k0 : Int) (cs : List MChg) (k : Nat) (h : k < cs.length) : cx (markH k0 cs) k = ⟨k0 + mlH (cs.take k), k0 + mlH (cs.take k) + 1, marks (k0 + mlH (cs.take k) + 2) (cx cs k).bytes.length⟩ := by
  have e : cs = cs.take k ++ cx cs k :: cs.drop (k + 1) := by
    conv => lhs; rw [← List.take_append_drop k cs, List.drop_eq_getElem_cons h]
    unfold cx; rw [List.getElem?_eq_getElem h]; rfl
  have hl : (markH k0 (cs.take k)).length = k := by rw [markH_len]; simp; omega
  conv => lhs; unfold cx; rw [e, markH_append]
  rw [List.getElem?_append_right (by omega), hl]
  simp [markH]
/-- the changes, marked as far as the k-th. -/
def markHTo (k0 : Int) (cs : List MChg) (k : Nat) : List MChg := markH k0 (cs.take k) ++ cs.drop k
theorem markHTo_len (k0 : Int) (cs : List MChg) (k : Nat) : (markHTo k0 cs k).length = cs.length := by
  unfold markHTo; rw [List.length_append, markH_len]; simp; omega
theorem markHTo_cx (k0 : Int) (cs : List MChg) (k : Nat) (h : k < cs.length) : cx (markHTo k0 cs k) k = cx cs k := by
  unfold markHTo cx
  have hl : (markH k0 (cs.take k)).length = k := by rw [markH_len]; simp; omega
  rw [List.getElem?_append_right (by omega), hl]
  simp
theorem markHTo_step (k0 : Int) (cs : List MChg) (k : Nat) (h : k < cs.length) : (markHTo k0 cs k).set k ⟨k0 + mlH (cs.take k), k0 + mlH (cs.take k) + 1, marks (k0 + mlH (cs.take k) + 2) (cx cs k).bytes.length⟩ = markHTo k0 cs (k + 1) := by
  unfold markHTo
  have hl : (markH k0 (cs.take k)).length = k := by rw [markH_len]; simp; omega
  have hc : cs[k] = cx cs k := by unfold cx; rw [List.getElem?_eq_getElem h]; rfl
  rw [cx_take cs k h, markH_append, List.set_append, if_neg (by omega), hl, List.drop_eq_getElem_cons h, Nat.sub_self, List.set_cons_zero, List.append_assoc]
  rfl
theorem markHTo_all (k0 : Int) (cs : List MChg) : markHTo k0 cs cs.length = markH k0 cs := by
  unfold markHTo; simp

theorem markH_any (A : Option Addr) (n c lo hi : Nat) (cs : List MChg) (k0 : Int) (w : World) (h0 : 0 ≤ k0) (h1 : k0 + mlH cs ≤ 4611686018427387904) (hn : n ≤ 4194304) (hm : OwnCh w lo hi A n c cs) :
    Calls Try.prog 40 #[.slice A n c, .int .i64 k0] w fun e w' => e = .returned (.int .i64 (k0 + mlH cs)) ∧ OwnCh w' lo hi A n c (markH k0 cs) ∧ Touch (fun b => lo ≤ b ∧ b < hi) w w' := by
  have hx := hm.len
  have HM := Lib.hid hm
  clear hm
  go_enter Try.func40, Try.ntmps40
  go_wp2
  go_loopw [1, 5] (fun q i wr => ∃ k : Nat, k ≤ n ∧ i = .int .i64 k ∧ q = .int .i64 (k0 + mlH (cs.take k)) ∧ OwnCh wr lo hi A n c (markHTo k0 cs k) ∧ Touch (fun b => lo ≤ b ∧ b < hi) w wr) (fun _ i _ => n - (intOf i).toNat)
  case atStart => exact ⟨0, Nat.zero_le _, rfl, by simp [mlH], by simpa [markHTo, markH] using HM.out, Touch.of_below (Below.refl _ _)⟩
  case round =>
    obtain ⟨k, hk, rfl, rfl, hmr, htr⟩ := hrel
    by_cases hlt : k < n
    · obtain ⟨g, rfl, hbg, hgh, hlt'⟩ := hmr.form (by omega)
      have hc0 := hmr.cell0 hlt
      have hc1 := hmr.cell1 hlt
      have hf0 := hmr.free (k * 3)
      have hf1 := hmr.free (k * 3 + 1)
      have hs1 := hmr.setTwo (k0 + mlH (cs.take k)) (k0 + mlH (cs.take k) + 1) hlt
      have hst := mlH_take cs k (by omega)
      have hall := mlH_take_le cs (k + 1)
      rw [markHTo_cx k0 cs k (by omega)] at hs1
      obtain ⟨Ai, ni, ci, hc2, hmi, hui, hin⟩ := hs1.inner hlt
      have hcc : cx ((markHTo k0 cs k).set k ⟨k0 + mlH (cs.take k), k0 + mlH (cs.take k) + 1, (cx cs k).bytes⟩) k = ⟨k0 + mlH (cs.take k), k0 + mlH (cs.take k) + 1, (cx cs k).bytes⟩ := by
        rw [cx_set _ _ _ _ (by rw [markHTo_len]; omega), if_pos rfl]
      rw [hcc] at hmi hin
      have hni : (cx cs k).bytes.length = ni := hmi.len
      have hstep := markHTo_step k0 cs k (by omega)
      have T1 := Lib.hid (htr.trans ((touch_set (S := fun b => lo ≤ b ∧ b < hi) wr g (k * 3) (.int .i64 (k0 + mlH (cs.take k))) ⟨hbg, hgh⟩).trans (touch_set _ g (k * 3 + 1) (.int .i64 (k0 + mlH (cs.take k) + 1)) ⟨hbg, hgh⟩)))
      have MI := Lib.hid hmi
      have IN := Lib.hid hin
      have UI := Lib.hid hui
      have HST := Lib.hid hstep
      have HLN := Lib.hid hni
      have hk2 : k0 + mlH (cs.take k) + 2 + ni ≤ 4611686018427387904 := by omega
      have hkp : 0 ≤ k0 + mlH (cs.take k) + 2 := by omega
      have hfin : k0 + mlH (cs.take k) + 2 + ni = k0 + mlH (cs.take (k + 1)) := by omega
      have HF := Lib.hid hfin
      generalize hq : k0 + (mlH (cs.take k) : Int) = q at *
      clear hmr htr hs1 hmi hin hui hstep hst hfin hall hcc hq
      have hq2 : q + 1 + 1 = q + 2 := by omega
      go_wp2_with fail
      refine (mark_any Ai ni ci lo _ (q + 2) _ hkp hk2 MI.out).mono ?_
      rintro e w1 ⟨rfl, m1, g1⟩
      have hc := IN.out _ _ m1 g1
      rw [List.set_set] at hc
      have hs2 := HST.out
      rw [HLN.out] at hs2
      have hc' : OwnCh w1 lo hi (some ⟨g, 0, none⟩) n c (markHTo k0 cs (k + 1)) := by rw [← hs2]; exact hc
      have O1 := Lib.hid hc'
      have T2 := Lib.hid (T1.out.trans ((Touch.of_grown g1).mono (fun b e => UI.out b e.symm)))
      clear hc m1 g1 hs2 hc' hc0 hc1 hc2 hf0 hf1
      go_wp2
      go_roundw
      case rel => exact ⟨k + 1, by omega, by go_num, by rw [← HF.out], O1.out, T2.out⟩
      case measure => simp [intOf]; omega
    · go_wp2
      go_ret
      obtain rfl : k = n := by omega
      subst hx
      rw [List.take_length, markHTo_all] at *
      exact ⟨rfl, hmr, htr⟩
theorem heldH_yes (A : Option Addr) (n c : Nat) (B : Nat) (cs : List MChg) (k0 : Int) (w : World) (h0 : 0 ≤ k0) (h1 : k0 + mlH cs ≤ 4611686018427387904) (hn : n ≤ 4194304) (hb : Chs w B A n (markH k0 cs)) :
    Calls Try.prog 44 #[.slice A n c, .int .i64 k0] w fun e w' => e = .returned (.int .i64 (k0 + mlH cs)) ∧ w = w' := by
  have HB := Lib.hid hb
  have hx : cs.length = n := (markH_len k0 cs).symm.trans hb.1
  clear hb
  go_enter Try.func44, Try.ntmps44
  go_wp2
  go_loop [1, 5] (fun q i => ∃ k : Nat, k ≤ n ∧ i = .int .i64 k ∧ q = .int .i64 (k0 + mlH (cs.take k))) (fun _ i => n - (intOf i).toNat)
  case atStart => exact ⟨0, Nat.zero_le _, rfl, by simp [mlH]⟩
  case round =>
    obtain ⟨k, hk, rfl, rfl⟩ := hrel
    by_cases hlt : k < n
    · obtain ⟨b, off, Ai, ni, ci, rfl, hbB, hc0, hc1, hc2, _, _, hy⟩ := HB.out.at_ hlt
      rw [markH_cx k0 cs k (by omega)] at hc0 hc1 hy
      have hst := mlH_take cs k (by omega)
      have hall := mlH_take_le cs (k + 1)
      have hni : (cx cs k).bytes.length = ni := (marks_len _ _).symm.trans hy.1
      simp only at hc0 hc1 hy
      rw [hni] at hy hst
      have hk2 : k0 + mlH (cs.take k) + 2 + ni ≤ 4611686018427387904 := by omega
      have hkp : 0 ≤ k0 + mlH (cs.take k) + 2 := by omega
      have hfin : k0 + mlH (cs.take k) + 2 + ni = k0 + mlH (cs.take (k + 1)) := by omega
      have HF := Lib.hid hfin
      have Y := Lib.hid hy
      clear hfin hall hst hy
      generalize hq : k0 + (mlH (cs.take k) : Int) = q at *
      have hd : decide ((q + 2 + (ni : Int)) < 0) = false := decide_eq_false (by omega)
      have hq2 : q + 1 + 1 = q + 2 := by omega
      clear hq
      go_wp2_with fail
      refine (held_yes Ai ni ci B (q + 2) _ hkp hk2 Y.out).mono ?_
      rintro e w' ⟨rfl, rfl⟩
      go_wp2
      go_round
      case rel => exact ⟨k + 1, by omega, by go_num, by rw [← HF.out]⟩
      case measure => simp [intOf]; omega
    · go_wp2
      go_ret
      obtain rfl : k = n := by omega
      subst hx
      rw [List.take_length]
      exact ⟨rfl, rfl⟩
end Go.Proofs.Ytebfinedkjlbbaa

-- FrameS: The model's Framed.
namespace Go.Proofs.Ytebfinedkjlbbaa
set_option maxRecDepth 20000
set_option linter.unusedVariables false
set_option linter.unusedSimpArgs false
open Go.RowKit

theorem l11Two_any (n : Nat) (w : World) (hn : n ≤ 65535) :
    Calls Try.prog 90 #[.int .i64 n] w fun e w' => e = .returned (.slice (some ⟨w.heap.size, 0, none⟩) 2 2) ∧ Mine w' w.heap.size (some ⟨w.heap.size, 0, none⟩) 2 2 (two n) ∧ Below w.heap.size w w' := by
  have m0 := Lib.hid (Mine.of_alloc w w.heap.size (two n) 2 (Nat.le_refl _) rfl (by unfold maxLen; omega) (by simp [two]; omega))
  have b0 := Lib.hid ((Below.refl w.heap.size w).alloc (Nat.le_refl _) (.cells (u8s (two n)) 5))
  go_enter Try.func90, Try.ntmps90
  go_wp2
  go_ret
  exact ⟨rfl, m0.out, b0.out⟩

end Go.Proofs.Ytebfinedkjlbbaa

-- ChgB: The model's ChangesBytes.
namespace Go.Proofs.Ytebfinedkjlbbaa
set_option maxRecDepth 20000
set_option linter.unusedVariables false
set_option linter.unusedSimpArgs false
open Go.RowKit

/-- the call answered with bytes of its own, and a flag. -/
def GaveBytes (cs : List MChg) (w : World) (e : Ending) (w' : World) : Prop :=
  ∃ A' n' c' l r, e = .returned (.tuple #[.slice A' n' c', .bool r]) ∧ ChangesIs cs l r ∧ Mine w' w.heap.size A' n' c' l ∧ Below w.heap.size w w'

set_option maxHeartbeats 1600000 in
theorem specChangesBytes_any (A : Option Addr) (n c : Nat) (cs : List MChg) (B : Nat) (w : World) (hn : n ≤ 1048576) (hm : ∀ i, (cx cs i).bytes.length ≤ 1048576) (hB : B ≤ w.heap.size) (hb : Chs w B A n cs) :
    Calls Try.prog 36 #[.slice A n c] w (GaveBytes cs w) := by
  have HB := Lib.hid (hb.more hB)
  have hlen := hb.1
  clear hb
  have hempty := Lib.hid (fun (W : World) (hW : Below w.heap.size w W) (hno : ¬ (cs.length ≤ 200 ∧ ∀ i, i < cs.length → ChgOk (cx cs i))) => (show GaveBytes cs w (.returned (.tuple #[.slice (some ⟨W.heap.size, 0, none⟩) 0 0, .bool false])) (W.alloc (.cells #[] 5)) from
    ⟨_, 0, 0, [], false, rfl, .inr ⟨hno, rfl, rfl⟩, (Mine.empty W).base hW.size, hW.alloc hW.size _⟩))
  by_cases hbig : 200 < n
  · have hd : decide ((200 : Int) < (n : Int)) = true := decide_eq_true (by omega)
    have HE := Lib.hid (hempty.out w (Below.refl _ _) (fun h => by omega))
    go_enter Try.func36, Try.ntmps36
    go_wp2
    go_ret2
    exact HE.out
  have hd : decide ((200 : Int) < (n : Int)) = false := decide_eq_false (by omega)
  obtain ⟨i0, hi, hz0, hz1, hz2⟩ := info_parts Try.info5
  have HI := Lib.hid hi
  have HZ0 := Lib.hid hz0
  have HZ1 := Lib.hid hz1
  have HZ2 := Lib.hid hz2
  clear hi hz0 hz1 hz2
  go_enter Try.func36, Try.ntmps36
  go_wp2_with fail
  refine (l11Two_any n w (by omega)).mono ?_
  rintro e w1 ⟨rfl, m1, b1⟩
  have M1 := Lib.hid m1
  have B1 := Lib.hid b1
  clear m1 b1
  go_wp2
  go_loopw [4, 5] (fun s i wr => ∃ (k g m cb : Nat) (l : List Int), k ≤ n ∧ i = .int .i64 k ∧ s = .slice (some ⟨g, 0, none⟩) m cb ∧ Mine wr w.heap.size (some ⟨g, 0, none⟩) m cb l ∧ l = two (n : Int) ++ (cs.take k).flatMap chgBytes ∧ m ≤ 2 + k * 180 ∧ (∀ j, j < k → ChgOk (cx cs j)) ∧ Below w.heap.size w wr) (fun _ i _ => n - (intOf i).toNat)
  case atStart => exact ⟨0, w.heap.size, 2, 2, two n, Nat.zero_le _, rfl, rfl, M1.out, by simp, by omega, fun j hj => by omega, B1.out⟩
  case round =>
    obtain ⟨k, g, m, cb, l, hk, rfl, rfl, hmi, hl, hmb, hall, hbel⟩ := hrel
    have M := Lib.hid hmi
    have L := Lib.hid hl
    have BR := Lib.hid hbel
    have OKS := Lib.hid hall
    have hsr : w.heap.size ≤ wr.heap.size := hbel.size
    clear hmi hl hbel hall
    by_cases hlt : k < n
    · obtain ⟨b, off, Ai, ni, ci, rfl, hbB, h0, h1, h2, hnc, hna, hy⟩ := HB.out.at_ hlt
      have hmk := hm k
      have hst := flat_step cs k (by omega)
      obtain ⟨x, hx⟩ : ∃ x, cx cs k = x := ⟨_, rfl⟩
      rw [hx] at h0 h1 hy hmk hst
      have hni := hy.1
      have CE := Lib.hid (fun (W : World) (hW : Below w.heap.size w W) => (⟨(hW.cell (p := ⟨b, off + k * 3, none⟩) hbB).trans h0, (hW.cell (p := ⟨b, off + k * 3 + 1, none⟩) hbB).trans h1, (hW.cell (p := ⟨b, off + k * 3 + 2, none⟩) hbB).trans h2⟩ : W.cell? ⟨b, off + k * 3, none⟩ = _ ∧ W.cell? ⟨b, off + k * 3 + 1, none⟩ = _ ∧ W.cell? ⟨b, off + k * 3 + 2, none⟩ = _))
      have Y := Lib.hid hy
      have ST := Lib.hid hst
      have HX := Lib.hid hx
      clear hy hst hx h0 h1 h2
      obtain ⟨h0, h1, h2⟩ := CE.out wr BR.out
      go_wp2_with fail
      refine (specChangeOk_any x Ai ni ci w.heap.size wr (by omega) hnc hsr (Y.out.below BR.out)).mono ?_
      rintro e w5 ⟨r, rfl, hr, b5⟩
      have B5 := Lib.hid (BR.out.trans (b5.mono hsr))
      have s5 : wr.heap.size ≤ w5.heap.size := b5.size
      have M5 := Lib.hid (M.out.below b5)
      have HR := Lib.hid hr
      clear hr b5 h0 h1 h2
      cases r with
      | false =>
        have HE := Lib.hid (hempty.out w5 B5.out (fun h => by
          have := h.2 k (by omega)
          rw [HX.out] at this
          exact absurd (HR.out.2 this) (by simp)))
        go_wp2
        go_ret2
        exact HE.out
      | true =>
        have OKX := Lib.hid (HR.out.1 rfl)
        have hxl := ok_len OKX.out
        obtain ⟨p0, p1, p2⟩ := CE.out w5 B5.out
        go_wp2_with (at_builtin; go_loud (refine wpList_append_lies _ rfl _ _ 22 rfl w.heap.size 5 i0 (.int .u8 0) 1 1 Try.underlying22 HI.out HZ0.out HZ1.out HZ2.out rfl (by decide) (.slice (some ⟨g, 0, none⟩) m cb) m (l.map (Value.int .u8)) (by simp [Act.eval]) (own_touch (S := fun _ => False) M5.out.1 (Touch.of_below ((Below.refl w5.heap.size w5).alloc (Nat.le_refl _) _)) (fun _ _ h => h)) ⟨w5.heap.size, 0, none⟩ 1 1 [.int .u8 (x.kind % 256)] (by simp [Act.eval]) rfl (by intro j u hj; match j, hj with | 0, hj => (simp at hj; subst hj; simp [Addr.add])) (by intro u hu; simp at hu; subst hu; rfl) (by omega) (by unfold maxLen; omega) (by omega) (by simp; omega) _ rfl ?_))
        intro g6 c6 w6 hown6 hgrow6 hwh6 hlt6
        have m6 : Mine w6 w.heap.size (some ⟨g6, 0, none⟩) (m + 1) c6 (l ++ [x.kind % 256]) := M5.out.app (ys := [x.kind % 256]) (by simp; omega) (by simpa using hown6)
        have b6 := ((B5.out.alloc B5.out.size _).grown hgrow6 (by have := B5.out.size; simp; omega) (fun g hg => (World.ownsRow.lt M5.out.1 g hg).1))
        have M6 := Lib.hid m6
        have B6 := Lib.hid b6
        have s6 : w.heap.size ≤ w6.heap.size := b6.size
        clear hown6 hgrow6 hwh6 m6 b6 p0 p1 p2
        obtain ⟨q0, q1, q2⟩ := CE.out w6 B6.out
        by_cases hk1 : x.kind = 1
        · have hb1 : (x.kind == 1) = true := by simp [hk1]
          have hcb : chgBytes x = ([x.kind % 256] ++ two (ni : Int)) ++ x.bytes := by unfold chgBytes; rw [if_pos hk1, hni]; rfl
          have HCB := Lib.hid hcb
          have hxp := ok_pos OKX.out hk1
          clear hk1 hcb
          obtain ⟨ba, oa, rfl, hba, _⟩ := Y.out.at_ (k := 0) (by omega)
          have hrow : ∀ W, Below w.heap.size w W → ∀ j u, (x.bytes.map (Value.int .u8))[j]? = some u → W.cell? ((⟨ba, oa, none⟩ : Addr).add j) = some u := by
            intro W hW j u hj
            obtain ⟨b', off', e, hbB, hrow⟩ := (Y.out.below hW).row (by omega)
            cases e
            exact hrow j u hj
          have HROW := Lib.hid hrow
          clear hrow
          obtain ⟨d0, d1, d2⟩ := CE.out w6.drew B6.out.drew
          have hbd := Y.out.2.1
          go_wp2
          clear q0 q1 q2
          go_region_law (first
            | (refine step_append_row rfl _ _ 22 rfl w.heap.size 5 i0 (.int .u8 0) 1 1 Try.underlying22 HI.out HZ0.out HZ1.out HZ2.out rfl (by decide) (.slice (some ⟨g8, 0, none⟩) (m + 1 + 2) c8) (m + 1 + 2) ((l ++ [x.kind % 256] ++ two (ni : Int)).map (Value.int .u8)) (by simp [Act.eval]) M8.out.1 ⟨ba, oa, none⟩ ni ci (x.bytes.map (Value.int .u8)) (by simp [Act.eval]) (by rw [List.length_map, Nat.mul_one]; exact hni) (HROW.out w8 B8.out) (by intro u hu; obtain ⟨z, _, rfl⟩ := List.mem_map.1 hu; rfl) (by unfold maxLen; omega) (by omega) (by omega) ?_
               intro v9 w9 hown9 hgrow9 hnil9
               obtain ⟨g9, c9, rfl⟩ : ∃ g c, v9 = .slice (some ⟨g, 0, none⟩) (m + 1 + 2 + ni) c := by
                 rcases hown9.2 with ⟨e, _⟩ | ⟨g, cap, cur, e, _⟩
                 · exact absurd (hnil9.1 e).1 (by simp)
                 · exact ⟨g, cap, e⟩
               have m9 := M8.out.app hbd hown9
               have B9 := Lib.hid (B8.out.grown hgrow9 (by omega) (fun g hg => (World.ownsRow.lt M8.out.1 g hg).1))
               have M9 := Lib.hid m9
               clear hown9 hgrow9 hnil9 m9)
            | (refine step_append_row rfl _ _ 22 rfl w.heap.size 5 i0 (.int .u8 0) 1 1 Try.underlying22 HI.out HZ0.out HZ1.out HZ2.out rfl (by decide) (.slice (some ⟨g6, 0, none⟩) (m + 1) c6) (m + 1) ((l ++ [x.kind % 256]).map (Value.int .u8)) (by simp [Act.eval]) M67.out.1 ⟨w6.heap.size, 0, none⟩ 2 2 ((two (ni : Int)).map (Value.int .u8)) (by simp [Act.eval]) (by simp [two]) (fun j u hj => by
                 have hjl : j < 2 := by
                   rcases Nat.lt_or_ge j 2 with h | h
                   · exact h
                   · rw [List.getElem?_eq_none (by simp [two]; omega)] at hj; cases hj
                 have hc := M7.out.cell hjl
                 have e : (⟨w6.heap.size, 0, none⟩ : Addr).add j = ⟨w6.heap.size, j, none⟩ := by unfold Addr.add; split <;> simp_all
                 rw [e]
                 have hc : w7.cell? ⟨w6.heap.size, j, none⟩ = some (.int .u8 ((two (ni : Int))[j]?.getD 0)) := hc
                 rw [hc]
                 rw [List.getElem?_map] at hj
                 cases hq : (two (ni : Int))[j]? with
                 | none => rw [hq] at hj; cases hj
                 | some z => rw [hq] at hj; simpa using hj) (by intro u hu; obtain ⟨z, _, rfl⟩ := List.mem_map.1 hu; rfl) (by unfold maxLen; omega) (by omega) (by omega) ?_
               intro v8 w8 hown8 hgrow8 hnil8
               obtain ⟨g8, c8, rfl⟩ : ∃ g c, v8 = .slice (some ⟨g, 0, none⟩) (m + 1 + 2) c := by
                 rcases hown8.2 with ⟨e, _⟩ | ⟨g, cap, cur, e, _⟩
                 · exact absurd (hnil8.1 e).1 (by simp)
                 · exact ⟨g, cap, e⟩
               have m8 := M67.out.app M7.out.2 hown8
               have B8 := Lib.hid (B7.out.grown hgrow8 (by omega) (fun g hg => (World.ownsRow.lt M67.out.1 g hg).1))
               have M8 := Lib.hid m8
               have s8 : w7.heap.size ≤ w8.heap.size := hgrow8.size
               obtain ⟨e0, e1, e2⟩ := CE.out w8 B8.out
               clear hown8 hgrow8 hnil8 m8)
            | (go_simp
               go_at_call 90
               refine (l11Two_any ni w6.drew (by omega)).mono ?_
               rintro e w7 ⟨rfl, m7, b7⟩
               have b7 : Below w6.heap.size w6 w7 := (Below.refl _ _).drew.trans b7
               have M67 := Lib.hid (M6.out.below b7)
               have M7 := Lib.hid m7
               have B7 := Lib.hid (B6.out.trans (b7.mono s6))
               have s7 : w6.heap.size ≤ w7.heap.size := b7.size
               obtain ⟨e0, e1, e2⟩ := CE.out w7 B7.out
               clear m7 b7))
          all_goals
            have e9 : l ++ [x.kind % 256] ++ two (ni : Int) ++ x.bytes = l ++ chgBytes x := by rw [HCB.out]; simp only [List.append_assoc]
            have m9 := M9.out
            rw [e9] at m9
            have M9 := Lib.hid m9
            have L9 := Lib.hid (show l ++ chgBytes x = two (n : Int) ++ (cs.take (k + 1)).flatMap chgBytes from by rw [ST.out, L.out, List.append_assoc])
            clear m9 e9
            go_wp2
            go_roundw
            case rel => exact ⟨k + 1, g9, m + 1 + 2 + ni, c9, l ++ chgBytes x, by omega, by go_num, rfl, M9.out, L9.out, by omega, fun j hj => by
              by_cases h : j = k
              · rw [h, HX.out]; exact OKX.out
              · exact OKS.out j (by omega), B9.out⟩
            case measure => simp [intOf]; omega
        · have hb1 : (x.kind == 1) = false := by simpa using hk1
          have hcb : chgBytes x = [x.kind % 256] ++ nameBytes x.name := by unfold chgBytes; rw [if_neg hk1]; rfl
          have HCB := Lib.hid hcb
          clear hk1 hcb
          go_wp2_with fail
          refine (specBytes_some x.name w6).mono ?_
          rintro e w7 ⟨g7, n7, c7, rfl, m7, b7⟩
          have hl7 := m7.len
          have hn7 := nameBytes_len8 x.name
          have M6 := Lib.hid (M6.out.below b7)
          have M7 := Lib.hid m7
          have B7 := Lib.hid (B6.out.trans (b7.mono s6))
          have s7 : w6.heap.size ≤ w7.heap.size := b7.size
          clear m7 b7 q0 q1 q2
          go_wp2_with (at_builtin; refine wpList_append_own _ rfl _ _ 22 rfl w.heap.size 5 i0 (.int .u8 0) 1 1 Try.underlying22 HI.out HZ0.out HZ1.out HZ2.out rfl (by decide) _ _ _ rfl M6.out.1 ⟨g7, 0, none⟩ n7 _ ((nameBytes x.name).map (Value.int .u8)) rfl ?h0 ?h1 ?h2 ?h3 ?h4 ?h5 ?_)
          case h0 => rw [List.length_map, Nat.mul_one]; exact hl7
          case h1 =>
            intro j u hj
            have hjl : j < n7 := by
              rcases Nat.lt_or_ge j n7 with h | h
              · exact h
              · rw [List.getElem?_eq_none (by simp; omega)] at hj; cases hj
            have hc := M7.out.cell hjl
            have e : (⟨g7, 0, none⟩ : Addr).add j = ⟨g7, j, none⟩ := by unfold Addr.add; split <;> simp_all
            rw [e, hc]
            simp [show j < (nameBytes x.name).length by omega] at hj ⊢
            exact hj
          case h2 => intro u hu; obtain ⟨z, _, rfl⟩ := List.mem_map.1 hu; rfl
          case h3 => unfold maxLen; omega
          case h4 => omega
          case h5 => first | omega | (simp; omega)
          intro v8 w8 hown8 hgrow8 hnil8
          obtain ⟨g8, c8, rfl⟩ : ∃ g c, v8 = .slice (some ⟨g, 0, none⟩) (m + 1 + n7) c := by
            rcases hown8.2 with ⟨e, _⟩ | ⟨g, cap, cur, e, _⟩
            · exact absurd e hnil8
            · exact ⟨g, cap, e⟩
          have m8 := M6.out.app M7.out.2 (by simpa [List.map_append] using hown8)
          have b8 := B7.out.grown hgrow8 (by omega) (fun g hg => (World.ownsRow.lt M6.out.1 g hg).1)
          rw [List.append_assoc, ← HCB.out] at m8
          have M8 := Lib.hid m8
          have B8 := Lib.hid b8
          have L8 := Lib.hid (show l ++ chgBytes x = two (n : Int) ++ (cs.take (k + 1)).flatMap chgBytes from by rw [ST.out, L.out, List.append_assoc])
          clear hown8 hgrow8 hnil8 m8 b8
          go_wp2
          go_roundw
          case rel => exact ⟨k + 1, g8, m + 1 + n7, c8, l ++ chgBytes x, by omega, by go_num, rfl, M8.out, L8.out, by omega, fun j hj => by
            by_cases h : j = k
            · rw [h, HX.out]; exact OKX.out
            · exact OKS.out j (by omega), B8.out⟩
          case measure => simp [intOf]; omega
    · obtain rfl : k = n := by omega
      have hl := L.out
      rw [List.take_of_length_le (by omega)] at hl
      have HL := Lib.hid hl
      clear hl
      have hyes := Lib.hid (show cs.length ≤ 200 ∧ ∀ i, i < cs.length → ChgOk (cx cs i) from ⟨by omega, fun i hi => OKS.out i (by omega)⟩)
      go_wp2
      go_ret2
      exact ⟨_, m, cb, l, true, rfl, .inl ⟨hyes.out, by rw [hlen]; exact HL.out, rfl⟩, M.out, BR.out⟩
end Go.Proofs.Ytebfinedkjlbbaa

-- ChgW: The program's ChangesBytes: what is written of a ChCell, and of a list.
namespace Go.Proofs.Ytebfinedkjlbbaa
set_option maxRecDepth 100000
set_option linter.unusedVariables false
set_option linter.unusedSimpArgs false
open Go.RowKit

set_option maxHeartbeats 1600000 in
theorem nodeShown_any (k m : Int) (A : Option Addr) (n c : Nat) (bs : List Int) (B : Nat) (w : World) (h0 : 0 < n) (hn : n ≤ 65535) (hc : n ≤ c) (hB : B ≤ w.heap.size) (hb : Byts w B A n bs) :
    Calls Try.prog 125 #[.agg #[.int .i64 k, .int .i64 m, .slice A n c]] w fun e w' => ∃ A' n' c', e = .returned (.slice A' n' c') ∧ Mine w' w.heap.size A' n' c' (two n ++ bs) ∧ Below w.heap.size w w' := by
  obtain ⟨w1, hw1⟩ : ∃ w1, w.alloc (.cells #[.int .i64 k, .int .i64 m, .slice A n c] 44) = w1 := ⟨_, rfl⟩
  have x1 : Box w1 w.heap.size _ _ := hw1 ▸ heap_alloc_new _ _
  have b1 := Lib.hid (show Below w.heap.size w w1 from hw1 ▸ (Below.refl _ _).alloc (Nat.le_refl _) _)
  have HB := Lib.hid ((hb.more hB).below b1.out)
  have s1 := b1.out.size
  have l1 := x1.lt
  have X1 := Lib.hid x1
  have q2 := x1.cell 2
  simp at q2
  clear x1 hb
  have KB := Lib.hid (show ∀ q, Calls Try.prog 92 #[.int .i64 (n : Int)] (w1.drewN q) (fun e w3 => e = .returned (.slice (some ⟨w1.heap.size, 0, none⟩) 2 2) ∧ Mine w3 w1.heap.size (some ⟨w1.heap.size, 0, none⟩) 2 2 (two n) ∧ w3.cell? ⟨w.heap.size, 2, none⟩ = some (.slice A n c) ∧ w1.heap.size ≤ w3.heap.size ∧ Byts w3 w.heap.size A n bs ∧ Below w.heap.size w w3) from fun q => by
    refine (countBytes_any n (w1.drewN q) hn).mono ?_
    rintro e w3 ⟨rfl, m3, b3⟩
    have b3' : Below w1.heap.size w1 w3 := (below_drewN (Below.refl _ _) q).trans b3
    refine ⟨rfl, m3, ?_, b3'.size, HB.out.below (b3'.mono s1), b1.out.trans (b3'.mono s1)⟩
    have h := (X1.out.below b3' l1).cell 2
    simpa using h)
  have KC := Lib.hid (show ∀ w3 : World, Mine w3 w1.heap.size (some ⟨w1.heap.size, 0, none⟩) 2 2 (two n) → w1.heap.size ≤ w3.heap.size → Byts w3 w.heap.size A n bs → Below w.heap.size w w3 →
      Calls Try.prog 139 #[.slice (some ⟨w3.heap.size, 0, none⟩) 2 2] (w3.alloc (.cells #[.slice (some ⟨w1.heap.size, 0, none⟩) 2 2, .slice A n c] 22)) (fun e w4 => ∃ A' n' c', e = .returned (.slice A' n' c') ∧ Mine w4 w.heap.size A' n' c' (two n ++ bs) ∧ Below w.heap.size w w4) from fun w3 m3 h3 y3 b3 => by
    obtain ⟨w4, hw4⟩ : ∃ w4, w3.alloc (.cells #[.slice (some ⟨w1.heap.size, 0, none⟩) 2 2, .slice A n c] 22) = w4 := ⟨_, rfl⟩
    have x4 : Box w4 w3.heap.size _ _ := hw4 ▸ heap_alloc_new _ _
    have b4 : Below w3.heap.size w3 w4 := hw4 ▸ (Below.refl _ _).alloc (Nat.le_refl _) _
    have c0 := x4.cell 0
    have c1 := x4.cell 1
    simp at c0 c1
    have s4 := b4.size
    rw [hw4]
    refine (concat2_any w3.heap.size 2 2 n c _ A (two n) bs w4 (by omega) h0 (by omega) (Nat.le_refl _) hc x4.lt c0 c1 (m3.below b4).byts ((y3.below (b4.mono (by omega))).more (by omega))).mono ?_
    rintro e w5 ⟨g, c5, rfl, m5, b5⟩
    have hB4 := b3.trans (b4.mono (by omega))
    exact ⟨_, _, _, rfl, m5.base (by omega), hB4.trans (b5.mono (by omega))⟩)
  go_enter Try.func125, Try.ntmps125
  go_wp2_with fail
  go_region_law (first
    | (go_simp
       refine (KB.out _).mono ?_
       rintro e w3 ⟨rfl, m3, p2, s3, y3, b3⟩
       have M3 := Lib.hid m3
       have Y3 := Lib.hid y3
       have B3 := Lib.hid b3
       clear m3 y3 b3)
    | (go_simp
       go_at_call 139
       refine (KC.out _ M3.out s3 Y3.out B3.out).mono ?_
       rintro e w4 ⟨A4, n4, c4, rfl, m4, b4⟩))
  all_goals
    have M4 := Lib.hid m4
    have B4 := Lib.hid b4
    clear m4 b4
    go_wp2
    go_ret
    exact ⟨_, _, _, rfl, M4.out, B4.out⟩
end Go.Proofs.Ytebfinedkjlbbaa
