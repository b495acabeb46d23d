/- Several texts in one, in build order: ChgX, FromM, FromS, FromO, ChgR, CloneB, ChgQ, ChgY, NodeY, Like, LikeI, LikeN, Big. -/
import Derived.Test.YtebfinedkjlbbaaPkE
import Derived.Deep.RegionLaw
import Derived.Deep.DeepCutAuto
import Derived.Lib.SliceRun
import Derived.Lib.AppendStr
import Derived.StillTailTactics
-- ChgX: The program's ChangesBytes: for all lists.
namespace Go.Proofs.Ytebfinedkjlbbaa
set_option maxRecDepth 100000
set_option linter.unusedVariables false
set_option linter.unusedSimpArgs false
open Go.RowKit

theorem okx_kind {x : MChg} (h : ChgOk x) (hk : ¬ x.kind = 1) : 2 ≤ x.kind ∧ x.kind ≤ 11 := by
  rcases h with ⟨_, h1, h2, _⟩ | ⟨h, _⟩
  · exact ⟨h1, h2⟩
  · exact absurd h hk
theorem okx_name {x : MChg} (h : ChgOk x) (hk : ¬ x.kind = 1) : 0 ≤ x.name := by
  rcases h with ⟨_, _, _, h, _⟩ | ⟨h, _⟩
  · exact h
  · exact absurd h hk
theorem name_pos {m : Int} (h : 0 ≤ m) : 0 < (nameBytes m).length := by
  rw [nameBytes_yes m (by omega)]
  simp [nb]
theorem Touch.of_grown_eq {w w' : World} {g : Nat} {A : Value} (h : w.grownBy w' A.ownBlock) (e : A.ownBlock = some g := by simp [Value.ownBlock]) : Touch (fun b => b = g) w w' := by
  have t := Touch.of_grown h
  exact ⟨t.os, t.tape, t.output, t.size, fun k hk hs => t.block k hk (fun e' => hs (by rw [e] at e'; cases e'; rfl))⟩
set_option maxHeartbeats 4000000 in
theorem implChangesBytes_any (A : Option Addr) (n c : Nat) (cs : List MChg) (B : Nat) (w : World) (hn : n ≤ 1048576) (hcap : n ≤ c) (hnil : A = none → c = 0) (hm : ∀ i, (cx cs i).bytes.length ≤ 1048576) (hB : B ≤ w.heap.size) (hb : Chs w B A n cs) :
    Calls Try.prog 38 #[.slice A n c] w (GaveBytes cs w) := by
  have HB := Lib.hid (hb.more hB)
  have hlen := hb.1
  clear hb
  have hempty := Lib.hid (fun (W : World) (hW : Below w.heap.size w W) (hno : ¬ (cs.length ≤ 200 ∧ ∀ i, i < cs.length → ChgOk (cx cs i))) => (show GaveBytes cs w (.returned (.tuple #[.slice none 0 0, .bool false])) W from
    ⟨_, 0, 0, [], false, rfl, .inr ⟨hno, rfl, rfl⟩, Mine.nil _ _, hW⟩))
  by_cases hbig : 200 < n
  · have hd : decide ((200 : Int) < (n : Int)) = true := decide_eq_true (by omega)
    have HE := Lib.hid (hempty.out w (Below.refl _ _) (fun h => by omega))
    go_enter Try.func38, Try.ntmps38
    go_wp2
    go_ret2
    exact HE.out
  have hd : decide ((200 : Int) < (n : Int)) = false := decide_eq_false (by omega)
  obtain ⟨i0, hi, hz0, hz1, hz2⟩ := info_parts Try.info5
  have HI := Lib.hid hi
  have HZ0 := Lib.hid hz0
  have HZ1 := Lib.hid hz1
  have HZ2 := Lib.hid hz2
  clear hi hz0 hz1 hz2
  go_enter Try.func38, Try.ntmps38
  go_wp2_with fail
  refine (countBytes_any n w (by omega)).mono ?_
  rintro e w1 ⟨rfl, m1, b1⟩
  have M1 := Lib.hid m1
  have B1 := Lib.hid b1
  clear m1 b1
  go_wp2
  go_loopw [4, 17] (fun s i wr => ∃ (k g m cb : Nat) (l : List Int), k ≤ n ∧ i = .int .i64 k ∧ s = .slice (some ⟨g, 0, none⟩) m cb ∧ Mine wr w.heap.size (some ⟨g, 0, none⟩) m cb l ∧ l = two (n : Int) ++ (cs.take k).flatMap chgBytes ∧ m ≤ 2 + k * 180 ∧ (∀ j, j < k → ChgOk (cx cs j)) ∧ Below w.heap.size w wr) (fun _ i _ => n - (intOf i).toNat)
  case atStart => exact ⟨0, w.heap.size, 2, 2, two n, Nat.zero_le _, rfl, rfl, M1.out, by simp, by omega, fun j hj => by omega, B1.out⟩
  case round =>
    obtain ⟨k, g, m, cb, l, hk, rfl, rfl, hmi, hl, hmb, hall, hbel⟩ := hrel
    have M := Lib.hid hmi
    have L := Lib.hid hl
    have BR := Lib.hid hbel
    have OKS := Lib.hid hall
    have hsr : w.heap.size ≤ wr.heap.size := hbel.size
    have NG := Lib.hid (show g < wr.heap.size from (World.ownsRow.lt hmi.1 g (by simp [Value.ownBlock])).2)
    clear hmi hl hbel hall
    by_cases hlt : k < n
    · obtain ⟨b, off, Ai, ni, ci, rfl, hbB, h0, h1, h2, hnc, hna, hy⟩ := HB.out.at_ hlt
      have hmk := hm k
      have hst := flat_step cs k (by omega)
      obtain ⟨x, hx⟩ : ∃ x, cx cs k = x := ⟨_, rfl⟩
      rw [hx] at h0 h1 hy hmk hst
      have hni := hy.1
      have r0 := (BR.out.cell (p := ⟨b, off + k * 3, none⟩) hbB).trans h0
      have r1 := (BR.out.cell (p := ⟨b, off + k * 3 + 1, none⟩) hbB).trans h1
      have r2 := (BR.out.cell (p := ⟨b, off + k * 3 + 2, none⟩) hbB).trans h2
      have Y := Lib.hid hy
      have ST := Lib.hid hst
      have HX := Lib.hid hx
      clear hy hst hx h0 h1 h2
      obtain ⟨w2, hw2⟩ : ∃ w2, wr.alloc (.cells #[.int .i64 x.kind, .int .i64 x.name, .slice Ai ni ci] 44) = w2 := ⟨_, rfl⟩
      have b2 : Below wr.heap.size wr w2 := hw2 ▸ (Below.refl _ _).alloc (Nat.le_refl _) _
      have X2 := Lib.hid (show Box w2 wr.heap.size _ _ from hw2 ▸ heap_alloc_new _ _)
      have B2 := Lib.hid (BR.out.trans (b2.mono hsr))
      have M2 := Lib.hid (M.out.below b2)
      have s2 : wr.heap.size ≤ w2.heap.size := b2.size
      have l2 := X2.out.lt
      have p0 := X2.out.cell 0
      have p1 := X2.out.cell 1
      have p2 := X2.out.cell 2
      simp at p0 p1 p2
      clear b2
      go_wp2_with fail
      refine (implChangeOk_any x Ai ni ci w.heap.size w2 (by omega) hnc hna B2.out.size (Y.out.below B2.out)).mono ?_
      rintro e w5 ⟨r, rfl, hr, b5⟩
      have B5 := Lib.hid (B2.out.trans (b5.mono B2.out.size))
      have s5 : w2.heap.size ≤ w5.heap.size := b5.size
      have M5 := Lib.hid (M2.out.below b5)
      have X5 := Lib.hid (X2.out.below b5 l2)
      have HR := Lib.hid hr
      clear hr b5 r0 r1 r2 p0 p1 p2 hw2
      cases r with
      | false =>
        have HE := Lib.hid (hempty.out w5 B5.out (fun h => by
          have := h.2 k (by omega)
          rw [HX.out] at this
          exact absurd (HR.out.2 this) (by simp)))
        go_wp2
        go_ret2
        exact HE.out
      | true =>
        have OKX := Lib.hid (HR.out.1 rfl)
        have hxl := ok_len OKX.out
        have p0 := X5.out.cell 0
        have p1 := X5.out.cell 1
        have p2 := X5.out.cell 2
        simp at p0 p1 p2
        by_cases hk1 : x.kind = 1
        · have FO := Lib.hid (formOf_cell x.kind hk1)
          have HCB := Lib.hid (show chgBytes x = [x.kind % 256] ++ (two (ni : Int) ++ x.bytes) from by unfold chgBytes; rw [if_pos hk1, hni]; rfl)
          have KS := Lib.hid (show ∀ W : World, Below w.heap.size w W → Calls Try.prog 125 #[.agg #[.int .i64 x.kind, .int .i64 x.name, .slice Ai ni ci]] W (fun e w' => ∃ g' n' c', e = .returned (.slice (some ⟨g', 0, none⟩) n' c') ∧ Mine w' W.heap.size (some ⟨g', 0, none⟩) n' c' (two (ni : Int) ++ x.bytes) ∧ Below W.heap.size W w') from fun W hW => by
            refine (nodeShown_any x.kind x.name Ai ni ci x.bytes w.heap.size W (by have := ok_pos OKX.out hk1; omega) (by omega) hnc hW.size (Y.out.below hW)).mono ?_
            rintro e w' ⟨A', n', c', rfl, m', b'⟩
            obtain ⟨g', rfl, _⟩ := m'.form (by have := m'.len; simp [two] at this; omega)
            exact ⟨g', n', c', rfl, m', b'⟩)
          have HK1 := Lib.hid hk1
          clear hk1
          go_wp2_with fail
          refine (FO.out w5).mono ?_
          rintro e w6 ⟨rfl, b6⟩
          have s56 := b6.size
          have X6 := Lib.hid (X5.out.below b6 (by omega))
          have M6 := Lib.hid (M5.out.below b6)
          have B6 := Lib.hid (B5.out.trans (b6.mono (by omega)))
          obtain ⟨w7, hw7⟩ : ∃ w7, w6.alloc (.cells #[.func (.func 124) #[] #[], .func (.func 125) #[] #[], .func (.func 126) #[] #[]] 110) = w7 := ⟨_, rfl⟩
          have b7 : Below w6.heap.size w6 w7 := hw7 ▸ (Below.refl _ _).alloc (Nat.le_refl _) _
          have F7 := Lib.hid (show Box w7 w6.heap.size _ _ from hw7 ▸ heap_alloc_new _ _)
          have X7 := Lib.hid (X6.out.below b7 (by omega))
          have M7 := Lib.hid (M6.out.below b7)
          have B7 := Lib.hid (B6.out.trans (b7.mono (by omega)))
          have s67 : w6.heap.size ≤ w7.heap.size := b7.size
          have f71 := F7.out.lt
          clear b6 b7 p0 p1 p2
          have p0 := X7.out.cell 0
          have p1 := X7.out.cell 1
          have p2 := X7.out.cell 2
          simp at p0 p1 p2
          unfold formC
          go_wp2_with (at_builtin; go_loud (refine wpList_append_lies _ rfl _ _ 22 rfl w.heap.size 5 i0 (.int .u8 0) 1 1 Try.underlying22 HI.out HZ0.out HZ1.out HZ2.out rfl (by decide) (.slice (some ⟨g, 0, none⟩) m cb) m (l.map (Value.int .u8)) (by simp [Act.eval]) (own_touch (S := fun _ => False) M7.out.1 (Touch.of_below ((Below.refl w7.heap.size w7).alloc (Nat.le_refl _) _)) (fun _ _ h => h)) ⟨w7.heap.size, 0, none⟩ 1 1 [.int .u8 (x.kind % 256)] (by simp [Act.eval]) rfl (by intro j u hj; match j, hj with | 0, hj => (simp at hj; subst hj; simp [Addr.add])) (by intro u hu; simp at hu; subst hu; rfl) (by omega) (by unfold maxLen; omega) (by omega) (by simp; omega) _ rfl ?_))
          intro g8 c8 w8 hown8 hgrow8 hwh8 hlt8
          have m8 : Mine w8 w.heap.size (some ⟨g8, 0, none⟩) (m + 1) c8 (l ++ [x.kind % 256]) := M7.out.app (ys := [x.kind % 256]) (by simp; omega) (by simpa using hown8)
          have hgl := (World.ownsRow.lt M7.out.1 g (by simp [Value.ownBlock]))
          have t8 : Touch (fun b => b = g) w7 w8 := (Touch.of_below ((Below.refl w7.heap.size w7).alloc (Nat.le_refl _) _)).trans (Touch.of_grown_eq hgrow8)
          have b8 := ((B7.out.alloc B7.out.size _).grown hgrow8 (by have := B7.out.size; simp; omega) (fun g hg => (World.ownsRow.lt M7.out.1 g hg).1))
          have M8 := Lib.hid m8
          have B8 := Lib.hid b8
          have GA := Lib.hid hgl
          have s8 : w.heap.size ≤ w8.heap.size := b8.size
          have X8 := Lib.hid (X7.out.touch t8 (by have := NG.out; omega))
          have F8 := Lib.hid (F7.out.touch t8 (by have := NG.out; omega))
          clear hown8 hgrow8 hwh8 m8 b8 t8 p0 p1 p2 hw7
          have p0 := X8.out.cell 0
          have p1 := X8.out.cell 1
          have p2 := X8.out.cell 2
          have f1 := F8.out.cell 1
          simp at p0 p1 p2 f1
          go_wp2_with fail
          refine (KS.out w8 B8.out).mono ?_
          rintro e w9 ⟨g9, n9, c9, rfl, m9, b9⟩
          have hl9 := m9.len
          have hl9' : n9 ≤ 179 := by
            have h3 : (chgBytes x).length = 1 + n9 := by rw [HCB.out, List.length_append, hl9]; rfl
            have h2 := chg_len OKX.out
            omega
          have h9p : 0 < n9 := by rw [← hl9]; exact (by simp [two])
          have M8 := Lib.hid (M8.out.below b9)
          have M9 := Lib.hid m9
          have B9 := Lib.hid (B8.out.trans (b9.mono s8))
          have s9 : w8.heap.size ≤ w9.heap.size := b9.size
          have HL9 := Lib.hid hl9
          clear m9 b9 p0 p1 p2 f1 hl9
          go_wp2_with (at_builtin; refine wpList_append_own _ rfl _ _ 22 rfl w.heap.size 5 i0 (.int .u8 0) 1 1 Try.underlying22 HI.out HZ0.out HZ1.out HZ2.out rfl (by decide) _ _ _ rfl M8.out.1 ⟨g9, 0, none⟩ n9 _ ((two (ni : Int) ++ x.bytes).map (Value.int .u8)) rfl ?h0formC (src_cells M9.out.byts h9p) ?h2formC ?h3formC ?h4formC ?h5formC ?_)
          case h0formC => rw [List.length_map, Nat.mul_one]; exact HL9.out
          case h2formC => intro u hu; obtain ⟨z, _, rfl⟩ := List.mem_map.1 hu; rfl
          case h3formC => unfold maxLen; omega
          case h4formC => omega
          case h5formC => first | omega | (simp; omega)
          intro v10 w10 hown10 hgrow10 hnil10
          obtain ⟨g10, c10, rfl⟩ : ∃ g c, v10 = .slice (some ⟨g, 0, none⟩) (m + 1 + n9) c := by
            rcases hown10.2 with ⟨e, _⟩ | ⟨g, cap, cur, e, _⟩
            · exact absurd e hnil10
            · exact ⟨g, cap, e⟩
          have m10 := M8.out.app M9.out.2 (by simpa [List.map_append] using hown10)
          have b10 := B9.out.grown hgrow10 (by omega) (fun g hg => (World.ownsRow.lt M8.out.1 g hg).1)
          rw [List.append_assoc, ← HCB.out] at m10
          have M10 := Lib.hid m10
          have B10 := Lib.hid b10
          have L10 := Lib.hid (show l ++ chgBytes x = two (n : Int) ++ (cs.take (k + 1)).flatMap chgBytes from by rw [ST.out, L.out, List.append_assoc])
          clear hown10 hgrow10 hnil10 m10 b10
          go_wp2
          go_roundw
          case rel => exact ⟨k + 1, g10, m + 1 + n9, c10, l ++ chgBytes x, by omega, by go_num, rfl, M10.out, L10.out, by omega, fun j hj => by
            by_cases h : j = k
            · rw [h, HX.out]; exact OKX.out
            · exact OKS.out j (by omega), B10.out⟩
          case measure => simp [intOf]; omega
        · have FO := Lib.hid (formOf_name x.kind (by have := okx_kind OKX.out hk1; omega) (by have := okx_kind OKX.out hk1; omega))
          have HCB := Lib.hid (show chgBytes x = [x.kind % 256] ++ nameBytes x.name from by unfold chgBytes; rw [if_neg hk1]; rfl)
          have KS := Lib.hid (show ∀ W : World, Below w.heap.size w W → Calls Try.prog 122 #[.agg #[.int .i64 x.kind, .int .i64 x.name, .slice Ai ni ci]] W (fun e w' => ∃ g' n' c', e = .returned (.slice (some ⟨g', 0, none⟩) n' c') ∧ Mine w' W.heap.size (some ⟨g', 0, none⟩) n' c' (nameBytes x.name) ∧ Below W.heap.size W w') from fun W hW => by
            refine (nameShown_any x.kind x.name Ai ni ci W).mono ?_
            rintro e w' ⟨A', n', c', rfl, m', b'⟩
            obtain ⟨g', rfl, _⟩ := m'.form (by rw [← m'.len]; exact name_pos (okx_name OKX.out hk1))
            exact ⟨g', n', c', rfl, m', b'⟩)
          have HK1 := Lib.hid hk1
          clear hk1
          go_wp2_with fail
          refine (FO.out w5).mono ?_
          rintro e w6 ⟨rfl, b6⟩
          have s56 := b6.size
          have X6 := Lib.hid (X5.out.below b6 (by omega))
          have M6 := Lib.hid (M5.out.below b6)
          have B6 := Lib.hid (B5.out.trans (b6.mono (by omega)))
          obtain ⟨w7, hw7⟩ : ∃ w7, w6.alloc (.cells #[.func (.func 121) #[] #[], .func (.func 122) #[] #[], .func (.func 123) #[] #[]] 110) = w7 := ⟨_, rfl⟩
          have b7 : Below w6.heap.size w6 w7 := hw7 ▸ (Below.refl _ _).alloc (Nat.le_refl _) _
          have F7 := Lib.hid (show Box w7 w6.heap.size _ _ from hw7 ▸ heap_alloc_new _ _)
          have X7 := Lib.hid (X6.out.below b7 (by omega))
          have M7 := Lib.hid (M6.out.below b7)
          have B7 := Lib.hid (B6.out.trans (b7.mono (by omega)))
          have s67 : w6.heap.size ≤ w7.heap.size := b7.size
          have f71 := F7.out.lt
          clear b6 b7 p0 p1 p2
          have p0 := X7.out.cell 0
          have p1 := X7.out.cell 1
          have p2 := X7.out.cell 2
          simp at p0 p1 p2
          unfold formN
          go_wp2_with (at_builtin; go_loud (refine wpList_append_lies _ rfl _ _ 22 rfl w.heap.size 5 i0 (.int .u8 0) 1 1 Try.underlying22 HI.out HZ0.out HZ1.out HZ2.out rfl (by decide) (.slice (some ⟨g, 0, none⟩) m cb) m (l.map (Value.int .u8)) (by simp [Act.eval]) (own_touch (S := fun _ => False) M7.out.1 (Touch.of_below ((Below.refl w7.heap.size w7).alloc (Nat.le_refl _) _)) (fun _ _ h => h)) ⟨w7.heap.size, 0, none⟩ 1 1 [.int .u8 (x.kind % 256)] (by simp [Act.eval]) rfl (by intro j u hj; match j, hj with | 0, hj => (simp at hj; subst hj; simp [Addr.add])) (by intro u hu; simp at hu; subst hu; rfl) (by omega) (by unfold maxLen; omega) (by omega) (by simp; omega) _ rfl ?_))
          intro g8 c8 w8 hown8 hgrow8 hwh8 hlt8
          have m8 : Mine w8 w.heap.size (some ⟨g8, 0, none⟩) (m + 1) c8 (l ++ [x.kind % 256]) := M7.out.app (ys := [x.kind % 256]) (by simp; omega) (by simpa using hown8)
          have hgl := (World.ownsRow.lt M7.out.1 g (by simp [Value.ownBlock]))
          have t8 : Touch (fun b => b = g) w7 w8 := (Touch.of_below ((Below.refl w7.heap.size w7).alloc (Nat.le_refl _) _)).trans (Touch.of_grown_eq hgrow8)
          have b8 := ((B7.out.alloc B7.out.size _).grown hgrow8 (by have := B7.out.size; simp; omega) (fun g hg => (World.ownsRow.lt M7.out.1 g hg).1))
          have M8 := Lib.hid m8
          have B8 := Lib.hid b8
          have GA := Lib.hid hgl
          have s8 : w.heap.size ≤ w8.heap.size := b8.size
          have X8 := Lib.hid (X7.out.touch t8 (by have := NG.out; omega))
          have F8 := Lib.hid (F7.out.touch t8 (by have := NG.out; omega))
          clear hown8 hgrow8 hwh8 m8 b8 t8 p0 p1 p2 hw7
          have p0 := X8.out.cell 0
          have p1 := X8.out.cell 1
          have p2 := X8.out.cell 2
          have f1 := F8.out.cell 1
          simp at p0 p1 p2 f1
          go_wp2_with fail
          refine (KS.out w8 B8.out).mono ?_
          rintro e w9 ⟨g9, n9, c9, rfl, m9, b9⟩
          have hl9 := m9.len
          have hl9' : n9 ≤ 179 := by
            have h3 : (chgBytes x).length = 1 + n9 := by rw [HCB.out, List.length_append, hl9]; rfl
            have h2 := chg_len OKX.out
            omega
          have h9p : 0 < n9 := by rw [← hl9]; exact (name_pos (okx_name OKX.out HK1.out))
          have M8 := Lib.hid (M8.out.below b9)
          have M9 := Lib.hid m9
          have B9 := Lib.hid (B8.out.trans (b9.mono s8))
          have s9 : w8.heap.size ≤ w9.heap.size := b9.size
          have HL9 := Lib.hid hl9
          clear m9 b9 p0 p1 p2 f1 hl9
          go_wp2_with (at_builtin; refine wpList_append_own _ rfl _ _ 22 rfl w.heap.size 5 i0 (.int .u8 0) 1 1 Try.underlying22 HI.out HZ0.out HZ1.out HZ2.out rfl (by decide) _ _ _ rfl M8.out.1 ⟨g9, 0, none⟩ n9 _ ((nameBytes x.name).map (Value.int .u8)) rfl ?h0formN (src_cells M9.out.byts h9p) ?h2formN ?h3formN ?h4formN ?h5formN ?_)
          case h0formN => rw [List.length_map, Nat.mul_one]; exact HL9.out
          case h2formN => intro u hu; obtain ⟨z, _, rfl⟩ := List.mem_map.1 hu; rfl
          case h3formN => unfold maxLen; omega
          case h4formN => omega
          case h5formN => first | omega | (simp; omega)
          intro v10 w10 hown10 hgrow10 hnil10
          obtain ⟨g10, c10, rfl⟩ : ∃ g c, v10 = .slice (some ⟨g, 0, none⟩) (m + 1 + n9) c := by
            rcases hown10.2 with ⟨e, _⟩ | ⟨g, cap, cur, e, _⟩
            · exact absurd e hnil10
            · exact ⟨g, cap, e⟩
          have m10 := M8.out.app M9.out.2 (by simpa [List.map_append] using hown10)
          have b10 := B9.out.grown hgrow10 (by omega) (fun g hg => (World.ownsRow.lt M8.out.1 g hg).1)
          rw [List.append_assoc, ← HCB.out] at m10
          have M10 := Lib.hid m10
          have B10 := Lib.hid b10
          have L10 := Lib.hid (show l ++ chgBytes x = two (n : Int) ++ (cs.take (k + 1)).flatMap chgBytes from by rw [ST.out, L.out, List.append_assoc])
          clear hown10 hgrow10 hnil10 m10 b10
          go_wp2
          go_roundw
          case rel => exact ⟨k + 1, g10, m + 1 + n9, c10, l ++ chgBytes x, by omega, by go_num, rfl, M10.out, L10.out, by omega, fun j hj => by
            by_cases h : j = k
            · rw [h, HX.out]; exact OKX.out
            · exact OKS.out j (by omega), B10.out⟩
          case measure => simp [intOf]; omega
    · obtain rfl : k = n := by omega
      have hl := L.out
      rw [List.take_of_length_le (by omega)] at hl
      have HL := Lib.hid hl
      clear hl
      have hyes := Lib.hid (show cs.length ≤ 200 ∧ ∀ i, i < cs.length → ChgOk (cx cs i) from ⟨by omega, fun i hi => OKS.out i (by omega)⟩)
      go_wp2
      go_ret2
      exact ⟨_, m, cb, l, true, rfl, .inl ⟨hyes.out, by rw [hlen]; exact HL.out, rfl⟩, M.out, BR.out⟩
end Go.Proofs.Ytebfinedkjlbbaa

-- FromM: Plain facts on the reading of changes. No statement of the program is proved here.
namespace Go.Proofs.Ytebfinedkjlbbaa
set_option maxRecDepth 20000
set_option linter.unusedVariables false
set_option linter.unusedSimpArgs false
open Go.RowKit

/-- the change that stands at a place, and where it ends. -/
noncomputable def oneAt (b : List Int) (i : Nat) : Option (MChg × Nat) := by
  classical
  exact if b.length ≤ i then none
    else if b[i]?.getD 0 = 1 then
      (if b.length < i + 3 + ofTwo b (i + 1) then none
       else if ChgOk ⟨1, nameOf ((b.drop (i + 3)).take (ofTwo b (i + 1))), (b.drop (i + 3)).take (ofTwo b (i + 1))⟩ then some (⟨1, nameOf ((b.drop (i + 3)).take (ofTwo b (i + 1))), (b.drop (i + 3)).take (ofTwo b (i + 1))⟩, i + 3 + ofTwo b (i + 1)) else none)
    else if b.length < i + 9 then none
    else if ((b.drop (i + 1)).take 8)[7]?.getD 0 ≤ 127 ∧ ChgOk ⟨b[i]?.getD 0, leVal ((b.drop (i + 1)).take 8), []⟩ then some (⟨b[i]?.getD 0, leVal ((b.drop (i + 1)).take 8), []⟩, i + 9)
    else none
theorem oneAt_end (b : List Int) (i : Nat) (h : b.length ≤ i) : oneAt b i = none := if_pos h
theorem oneAt_cell_no (b : List Int) (i : Nat) (h : ¬ b.length ≤ i) (h1 : b[i]?.getD 0 = 1) (h2 : b.length < i + 3 + ofTwo b (i + 1)) : oneAt b i = none := by
  unfold oneAt; rw [if_neg h, if_pos h1, if_pos h2]
theorem oneAt_cell_yes (b : List Int) (i : Nat) (h : ¬ b.length ≤ i) (h1 : b[i]?.getD 0 = 1) (h2 : ¬ b.length < i + 3 + ofTwo b (i + 1)) (h3 : ChgOk ⟨1, nameOf ((b.drop (i + 3)).take (ofTwo b (i + 1))), (b.drop (i + 3)).take (ofTwo b (i + 1))⟩) : oneAt b i = some (⟨1, nameOf ((b.drop (i + 3)).take (ofTwo b (i + 1))), (b.drop (i + 3)).take (ofTwo b (i + 1))⟩, i + 3 + ofTwo b (i + 1)) := by
  unfold oneAt; rw [if_neg h, if_pos h1, if_neg h2, if_pos h3]
theorem oneAt_cell_bad (b : List Int) (i : Nat) (h : ¬ b.length ≤ i) (h1 : b[i]?.getD 0 = 1) (h2 : ¬ b.length < i + 3 + ofTwo b (i + 1)) (h3 : ¬ ChgOk ⟨1, nameOf ((b.drop (i + 3)).take (ofTwo b (i + 1))), (b.drop (i + 3)).take (ofTwo b (i + 1))⟩) : oneAt b i = none := by
  unfold oneAt; rw [if_neg h, if_pos h1, if_neg h2, if_neg h3]
theorem oneAt_name_no (b : List Int) (i : Nat) (h : ¬ b.length ≤ i) (h1 : ¬ b[i]?.getD 0 = 1) (h2 : b.length < i + 9) : oneAt b i = none := by
  unfold oneAt; rw [if_neg h, if_neg h1, if_pos h2]
theorem oneAt_name_yes (b : List Int) (i : Nat) (h : ¬ b.length ≤ i) (h1 : ¬ b[i]?.getD 0 = 1) (h2 : ¬ b.length < i + 9) (h3 : ((b.drop (i + 1)).take 8)[7]?.getD 0 ≤ 127 ∧ ChgOk ⟨b[i]?.getD 0, leVal ((b.drop (i + 1)).take 8), []⟩) : oneAt b i = some (⟨b[i]?.getD 0, leVal ((b.drop (i + 1)).take 8), []⟩, i + 9) := by
  unfold oneAt; rw [if_neg h, if_neg h1, if_neg h2, if_pos h3]
theorem oneAt_name_bad (b : List Int) (i : Nat) (h : ¬ b.length ≤ i) (h1 : ¬ b[i]?.getD 0 = 1) (h2 : ¬ b.length < i + 9) (h3 : ¬ (((b.drop (i + 1)).take 8)[7]?.getD 0 ≤ 127 ∧ ChgOk ⟨b[i]?.getD 0, leVal ((b.drop (i + 1)).take 8), []⟩)) : oneAt b i = none := by
  unfold oneAt; rw [if_neg h, if_neg h1, if_neg h2, if_neg h3]
/-- so many changes from a place on, and where they end. -/
noncomputable def manyAt (b : List Int) : Nat → Nat → Option (List MChg × Nat)
  | 0, i => some ([], i)
  | n + 1, i => match oneAt b i with
    | none => none
    | some (x, j) => match manyAt b n j with
      | none => none
      | some (l, k) => some (x :: l, k)
/-- the changes of which these are the bytes. -/
noncomputable def fromAll (b : List Int) : Option (List MChg) :=
  if b.length < 2 ∨ 200 < ofTwo b 0 then none
  else match manyAt b (ofTwo b 0) 2 with
    | none => none
    | some (l, k) => if k = b.length then some l else none
/-- what is read of some bytes, and whether anything is. -/
def FromIs (b : List Int) (l : List MChg) (r : Bool) : Prop := (fromAll b = some l ∧ r = true) ∨ (fromAll b = none ∧ l = [] ∧ r = false)
theorem FromIs.one {b : List Int} {l l' : List MChg} {r r' : Bool} (h : FromIs b l r) (h' : FromIs b l' r') : l = l' ∧ r = r' := by
  rcases h with ⟨h1, rfl⟩ | ⟨h1, rfl, rfl⟩ <;> rcases h' with ⟨k1, rfl⟩ | ⟨k1, rfl, rfl⟩
  · rw [h1] at k1; cases k1; exact ⟨rfl, rfl⟩
  · rw [h1] at k1; cases k1
  · rw [h1] at k1; cases k1
  · exact ⟨rfl, rfl⟩
theorem oneAt_ok {b : List Int} {i j : Nat} {x : MChg} (h : oneAt b i = some (x, j)) : ChgOk x ∧ j ≤ b.length ∧ i < j := by
  unfold oneAt at h
  split at h
  · cases h
  · split at h
    · split at h
      · cases h
      · split at h
        · rename_i h1 h2 h3 h4; cases h; exact ⟨h4, by omega, by omega⟩
        · cases h
    · split at h
      · cases h
      · split at h
        · rename_i h1 h2 h3 h4; cases h; exact ⟨h4.2, by omega, by omega⟩
        · cases h
theorem manyAt_ok {b : List Int} (n : Nat) : ∀ {i j : Nat} {l : List MChg}, manyAt b n i = some (l, j) → l.length = n ∧ ∀ x ∈ l, ChgOk x := by
  induction n with
  | zero => intro i j l h; cases h; simp
  | succ n ih =>
    intro i j l h
    unfold manyAt at h
    cases h1 : oneAt b i with
    | none => rw [h1] at h; cases h
    | some p =>
      obtain ⟨x, e⟩ := p
      rw [h1] at h
      cases h2 : manyAt b n e with
      | none => simp only [h2] at h; cases h
      | some q =>
        obtain ⟨l2, e2⟩ := q
        simp only [h2] at h
        cases h
        obtain ⟨k1, k2⟩ := ih h2
        refine ⟨by simp [k1], fun y hy => ?_⟩
        rcases List.mem_cons.1 hy with rfl | hy
        · exact (oneAt_ok h1).1
        · exact k2 y hy
theorem FromIs.bd {b : List Int} {l : List MChg} {r : Bool} (h : FromIs b l r) : l.length ≤ 200 ∧ ∀ x ∈ l, ChgOk x := by
  rcases h with ⟨h, _⟩ | ⟨_, rfl, _⟩
  · unfold fromAll at h
    split at h
    · cases h
    · rename_i h0
      cases h1 : manyAt b (ofTwo b 0) 2 with
      | none => rw [h1] at h; cases h
      | some p =>
        obtain ⟨l2, e⟩ := p
        rw [h1] at h
        simp only at h
        split at h
        · cases h
          obtain ⟨k1, k2⟩ := manyAt_ok _ h1
          exact ⟨by omega, k2⟩
        · cases h
  · simp
end Go.Proofs.Ytebfinedkjlbbaa

-- FromS: The model's reading of one change.
namespace Go.Proofs.Ytebfinedkjlbbaa
set_option maxRecDepth 20000
set_option linter.unusedVariables false
set_option linter.unusedSimpArgs false
open Go.RowKit

theorem set3 {w : World} {g : Nat} {t : TypeId} {a b c : Value} (h : Box w g t #[a, b, c]) (a' b' c' : Value) :
    Box (((w.setCell ⟨g, 0, none⟩ a').setCell ⟨g, 1, none⟩ b').setCell ⟨g, 2, none⟩ c') g t #[a', b', c'] ∧ Touch (fun x => x = g) w (((w.setCell ⟨g, 0, none⟩ a').setCell ⟨g, 1, none⟩ b').setCell ⟨g, 2, none⟩ c') := by
  have h1 := ((h.set_ 0 a').set_ 1 b').set_ 2 c'
  exact ⟨by simpa using h1, ((touch_set (S := fun x => x = g) w g 0 a' rfl).trans (touch_set _ g 1 b' rfl)).trans (touch_set _ g 2 c' rfl)⟩
/-- the call answered with one change of its own, and with where it ends. -/
def GaveOne (bs : List Int) (i : Nat) (w : World) (e : Ending) (w' : World) : Prop :=
  ∃ A' n' c' x en, e = .returned (.tuple #[.agg #[.int .i64 x.kind, .int .i64 x.name, .slice A' n' c'], .int .i64 en]) ∧ ((oneAt bs i = none ∧ x = chg0 ∧ en = -1) ∨ ∃ j : Nat, oneAt bs i = some (x, j) ∧ en = j) ∧ Mine w' w.heap.size A' n' c' x.bytes ∧ Below w.heap.size w w'

set_option maxHeartbeats 1600000 in
theorem l12One_any (A : Option Addr) (n c : Nat) (bs : List Int) (i : Nat) (B : Nat) (w : World) (hn : n ≤ 1048576) (hc : n ≤ c) (hi : i ≤ 1048576) (hB : B ≤ w.heap.size) (hb : Byts w B A n bs) :
    Calls Try.prog 94 #[.slice A n c, .int .i64 i] w (GaveOne bs i w) := by
  have HB := Lib.hid (hb.more hB)
  have hlen := hb.1
  have hrg := hb.2.1
  clear hb
  obtain ⟨w1, hw1⟩ : ∃ w1, w.alloc (.cells #[.int .i64 0, .int .i64 0, .slice none 0 0] 44) = w1 := ⟨_, rfl⟩
  have R1 := Lib.hid (show Box w1 w.heap.size 44 #[.int .i64 0, .int .i64 0, .slice none 0 0] from hw1 ▸ heap_alloc_new _ _)
  have B1 := Lib.hid (show Below w.heap.size w w1 from hw1 ▸ (Below.refl _ _).alloc (Nat.le_refl _) _)
  have s1 : w1.heap.size = w.heap.size + 1 := hw1 ▸ (by simp)
  by_cases h0 : n ≤ i
  · have hd : decide ((n : Int) ≤ (i : Int)) = true := decide_eq_true (by omega)
    have hnone := Lib.hid (oneAt_end bs i (by omega))
    go_enter Try.func94, Try.ntmps94
    have hrb := set3 R1.out (.int .i64 0) (.int .i64 0) (.slice none 0 0)
    have HRB := Lib.hid hrb
    have hr0 := R1.out.cell 0
    have hr1 := R1.out.cell 1
    have hr2 := R1.out.cell 2
    have hfr := R1.out.free
    simp at hr0 hr1 hr2
    clear hrb
    go_wp2
    clear hr0 hr1 hr2 hfr
    refine bodyPost_ret (v := .tuple #[.agg #[.int .i64 0, .int .i64 0, .slice none 0 0], .int .i64 (-1)]) (results_box2 Try.results94 _ _ w.heap.size _ _ _ _ rfl rfl HRB.out.1 Try.underlying44 rfl (by kernel_rfl)) rfl ?_
    exact ⟨none, 0, 0, chg0, -1, rfl, .inl ⟨hnone.out, rfl, rfl⟩, Mine.nil _ _, B1.out.trans (HRB.out.2.below B1.out.size (fun k hk e => by omega))⟩
  have hd : decide ((n : Int) ≤ (i : Int)) = false := decide_eq_false (by omega)
  have h0' : ¬ bs.length ≤ i := by omega
  obtain ⟨bA, offA, rfl, hbA, hci⟩ := HB.out.at_ (k := i) (by omega)
  obtain ⟨z, hz⟩ : ∃ z, bs[i]?.getD 0 = z := ⟨_, rfl⟩
  have hzr := HB.out.range i
  rw [hz] at hci hzr
  have Z := Lib.hid hz
  clear hz
  have hci1 := (B1.out.cell (p := ⟨bA, offA + i, none⟩) hbA).trans hci
  obtain ⟨w2, hw2⟩ : ∃ w2, w1.alloc (.cells #[.int .i64 z, .int .i64 0, .slice none 0 0] 44) = w2 := ⟨_, rfl⟩
  have b2 : Below w1.heap.size w1 w2 := hw2 ▸ (Below.refl _ _).alloc (Nat.le_refl _) _
  have X2 := Lib.hid (show Box w2 (w.heap.size + 1) 44 #[.int .i64 z, .int .i64 0, .slice none 0 0] from by rw [← s1]; exact hw2 ▸ heap_alloc_new _ _)
  have R2 := Lib.hid (R1.out.below b2 R1.out.lt)
  have B2 := Lib.hid (B1.out.trans (b2.mono (by omega)))
  have s2 : w2.heap.size = w.heap.size + 2 := hw2 ▸ (by simp; omega)
  have HW2 := Lib.hid hw2
  clear b2 hw2
  by_cases hz1 : z = 1
  · subst hz1
    go_enter Try.func94, Try.ntmps94
    by_cases h3 : i + 3 ≤ n
    case neg =>
      have hd3 : decide ((n : Int) < (i : Int) + 3) = true := decide_eq_true (by omega)
      have hnone := Lib.hid (oneAt_cell_no bs i h0' Z.out (by omega))
      have hrb := set3 R1.out (.int .i64 0) (.int .i64 0) (.slice none 0 0)
      have HRB := Lib.hid (hrb.1.below ((Below.refl _ _).alloc (Nat.le_refl _) (.cells #[.int .i64 1, .int .i64 0, .slice none 0 0] 44)) hrb.1.lt)
      have HBB := Lib.hid ((B1.out.trans (hrb.2.below B1.out.size (fun k hk e => by omega))).alloc (by simp; omega) (.cells #[.int .i64 1, .int .i64 0, .slice none 0 0] 44))
      have hr0 := R1.out.cell 0
      have hr1 := R1.out.cell 1
      have hr2 := R1.out.cell 2
      have hfr := R1.out.free
      simp at hr0 hr1 hr2
      clear hrb
      go_wp2
      clear hr0 hr1 hr2 hfr
      refine bodyPost_ret (v := .tuple #[.agg #[.int .i64 0, .int .i64 0, .slice none 0 0], .int .i64 (-1)]) (results_box2 Try.results94 _ _ w.heap.size _ _ _ _ rfl rfl HRB.out Try.underlying44 rfl (by kernel_rfl)) rfl ?_
      exact ⟨none, 0, 0, chg0, -1, rfl, .inl ⟨hnone.out, rfl, rfl⟩, Mine.nil _ _, HBB.out⟩
    have hd3 : decide ((n : Int) < (i : Int) + 3) = false := decide_eq_false (by omega)
    go_wp2_with fail
    rw [HW2.out]
    refine (l11Of_any _ n c bs (i + 1) _ w2 hn (by omega) (HB.out.below B2.out)).mono ?_
    rintro e w3 ⟨rfl, q, hq⟩
    have b3 : Below w2.heap.size w2 w3 := by rw [hq]; exact below_drewN (Below.refl _ _) q
    have R3 := Lib.hid (R2.out.below b3 R2.out.lt)
    have X3 := Lib.hid (X2.out.below b3 X2.out.lt)
    have B3 := Lib.hid (B2.out.trans (b3.mono (by omega)))
    have s3 : w2.heap.size ≤ w3.heap.size := b3.size
    clear b3 hq
    obtain ⟨m, hm⟩ : ∃ m, ofTwo bs (i + 1) = m := ⟨_, rfl⟩
    have hm65 := (ofTwo_eq bs hrg (i + 1)).2
    rw [hm] at hm65 ⊢
    have HM := Lib.hid hm
    clear hm
    by_cases h4 : i + 3 + m ≤ n
    case neg =>
      have hd4 : decide ((n : Int) < (i : Int) + 3 + (m : Int)) = true := decide_eq_true (by omega)
      have hnone := Lib.hid (oneAt_cell_no bs i h0' Z.out (by rw [HM.out]; omega))
      have hrb := set3 R3.out (.int .i64 0) (.int .i64 0) (.slice none 0 0)
      have HRB := Lib.hid hrb
      have hr0 := R3.out.cell 0
      have hr1 := R3.out.cell 1
      have hr2 := R3.out.cell 2
      have hfr := R3.out.free
      simp at hr0 hr1 hr2
      clear hrb
      go_wp2
      clear hr0 hr1 hr2 hfr
      refine bodyPost_ret (v := .tuple #[.agg #[.int .i64 0, .int .i64 0, .slice none 0 0], .int .i64 (-1)]) (results_box2 Try.results94 _ _ w.heap.size _ _ _ _ rfl rfl HRB.out.1 Try.underlying44 rfl (by kernel_rfl)) rfl ?_
      exact ⟨none, 0, 0, chg0, -1, rfl, .inl ⟨hnone.out, rfl, rfl⟩, Mine.nil _ _, B3.out.trans (HRB.out.2.below B3.out.size (fun k hk e => by omega))⟩
    have hd4 : decide ((n : Int) < (i : Int) + 3 + (m : Int)) = false := decide_eq_false (by omega)
    have x30 := X3.out.cell 0
    have x31 := X3.out.cell 1
    have x32 := X3.out.cell 2
    have x3f := X3.out.free
    simp at x30 x31 x32
    obtain ⟨body, hbody⟩ : ∃ body, (bs.drop (i + 3)).take m = body := ⟨_, rfl⟩
    have HBD := Lib.hid hbody
    rcases (show c = i + 3 ∨ ¬ c = i + 3 by omega) with hck | hck
    case inl =>
      obtain rfl := hck
      have yb : Byts w3 w.heap.size (some ⟨bA, offA, none⟩) m body := by rw [← hbody]; exact (HB.out.below B3.out).part2 (i + 3) m _ (by omega) (fun h => by omega)
      have YB := Lib.hid yb
      clear yb hbody
      go_wp2_with fail
      refine (l1Bytes_all _ m _ body w.heap.size w3 (by omega) (fun h => by cases h) B3.out.size YB.out).mono ?_
      rintro e w4 ⟨A4, n4, c4, rfl, m4, b4⟩
      have hl4 : body.length = n4 := m4.len
      have hlm : body.length = m := YB.out.1
      have s4 : w3.heap.size ≤ w4.heap.size := b4.size
      have X4 := Lib.hid (X3.out.below b4 X3.out.lt)
      have R4 := Lib.hid (R3.out.below b4 R3.out.lt)
      have B4 := Lib.hid (B3.out.trans (b4.mono B3.out.size))
      have HMB := Lib.hid (fun g (hg : (Value.slice A4 n4 c4).ownBlock = some g) => (show w.heap.size + 2 ≤ g from by have := (World.ownsRow.lt m4.1 g hg).1; omega))
      have M4 := Lib.hid m4
      clear x30 x31 x32 x3f m4 b4
      have x40 := X4.out.cell 0
      have x41 := X4.out.cell 1
      have x42 := X4.out.cell 2
      have x4f := X4.out.free
      simp at x40 x41 x42
      obtain ⟨w5, hw5⟩ : ∃ w5, w4.setCell ⟨w.heap.size + 1, 2, none⟩ (.slice A4 n4 c4) = w5 := ⟨_, rfl⟩
      have xs5 : Box w5 (w.heap.size + 1) 44 #[.int .i64 1, .int .i64 0, .slice A4 n4 c4] := by have h := X4.out.set_ 2 (.slice A4 n4 c4); rw [hw5] at h; simpa using h
      have t5 : Touch (fun b => b = w.heap.size + 1) w4 w5 := hw5 ▸ touch_set _ _ _ _ rfl
      have X5 := Lib.hid xs5
      have R5 := Lib.hid (show Box w5 w.heap.size _ _ from (t5.block _ R4.out.lt (fun e => by omega)).trans R4.out)
      have B5 := Lib.hid (B4.out.trans (t5.below B4.out.size (fun k hk e => by omega)))
      have M5 := Lib.hid (M4.out.touch t5 (fun g hg e => by have := HMB.out g hg; omega))
      have x50 := xs5.cell 0
      have x51 := xs5.cell 1
      have x52 := xs5.cell 2
      have x5f := xs5.free
      simp at x50 x51 x52
      clear xs5 t5
      go_wp2_with fail
      refine (specName_any A4 n4 c4 body _ w5 (by omega) M5.out.byts).mono ?_
      rintro e w' ⟨rfl, hw'⟩
      rw [← hw']
      clear hw' w' x40 x41 x42 x4f
      obtain ⟨nm, hnm⟩ : ∃ nm, nameOf body = nm := ⟨_, rfl⟩
      rw [hnm]
      have HNM := Lib.hid hnm
      clear hnm hw5
      obtain ⟨w6, hw6⟩ : ∃ w6, w5.setCell ⟨w.heap.size + 1, 1, none⟩ (.int .i64 nm) = w6 := ⟨_, rfl⟩
      have xs6 : Box w6 (w.heap.size + 1) 44 #[.int .i64 1, .int .i64 nm, .slice A4 n4 c4] := by have h := X5.out.set_ 1 (.int .i64 nm); rw [hw6] at h; simpa using h
      have t6 : Touch (fun b => b = w.heap.size + 1) w5 w6 := hw6 ▸ touch_set _ _ _ _ rfl
      have X6 := Lib.hid xs6
      have R6 := Lib.hid (show Box w6 w.heap.size _ _ from (t6.block _ R5.out.lt (fun e => by omega)).trans R5.out)
      have B6 := Lib.hid (B5.out.trans (t6.below B5.out.size (fun k hk e => by omega)))
      have M6 := Lib.hid (M5.out.touch t6 (fun g hg e => by have := HMB.out g hg; omega))
      clear xs6 t6
      have px0 := X6.out.cell 0
      have px1 := X6.out.cell 1
      have px2 := X6.out.cell 2
      simp at px0 px1 px2
      go_wp2_with fail
      refine (specChangeOk_any ⟨1, nm, body⟩ A4 n4 c4 _ w6 (by omega) (mine_cap M6.out) (Nat.le_refl _) M6.out.byts).mono ?_
      rintro e w8 ⟨r, rfl, hr, b8⟩
      have HR := Lib.hid hr
      have B8 := Lib.hid (B6.out.trans (b8.mono B6.out.size))
      have R8 := Lib.hid (R6.out.below b8 R6.out.lt)
      have X8 := Lib.hid (X6.out.below b8 X6.out.lt)
      have M8 := Lib.hid (M6.out.below b8)
      clear px0 px1 px2 b8 hr
      cases r with
      | false =>
        have hnone := Lib.hid (oneAt_cell_bad bs i h0' Z.out (by rw [HM.out]; omega) (fun h => by rw [HM.out, HBD.out, HNM.out] at h; exact absurd (HR.out.2 h) (by simp)))
        have hrb := set3 R8.out (.int .i64 0) (.int .i64 0) (.slice none 0 0)
        have HRB := Lib.hid hrb
        have hr0 := R8.out.cell 0
        have hr1 := R8.out.cell 1
        have hr2 := R8.out.cell 2
        have hfr := R8.out.free
        simp at hr0 hr1 hr2
        clear hrb
        go_wp2
        clear hr0 hr1 hr2 hfr
        refine bodyPost_ret (v := .tuple #[.agg #[.int .i64 0, .int .i64 0, .slice none 0 0], .int .i64 (-1)]) (results_box2 Try.results94 _ _ w.heap.size _ _ _ _ rfl rfl HRB.out.1 Try.underlying44 rfl (by kernel_rfl)) rfl ?_
        exact ⟨none, 0, 0, chg0, -1, rfl, .inl ⟨hnone.out, rfl, rfl⟩, Mine.nil _ _, B8.out.trans (HRB.out.2.below B8.out.size (fun k hk e => by omega))⟩
      | true =>
        have hsome := Lib.hid (show oneAt bs i = some (⟨1, nm, body⟩, i + 3 + m) from by have h := oneAt_cell_yes bs i h0' Z.out (by rw [HM.out]; omega) (by rw [HM.out, HBD.out, HNM.out]; exact HR.out.1 rfl); rw [HM.out, HBD.out, HNM.out] at h; exact h)
        have hrb := set3 R8.out (.int .i64 1) (.int .i64 nm) (.slice A4 n4 c4)
        have HRB := Lib.hid hrb
        have hr0 := R8.out.cell 0
        have hr1 := R8.out.cell 1
        have hr2 := R8.out.cell 2
        have hfr := R8.out.free
        have px0 := X8.out.cell 0
        have px1 := X8.out.cell 1
        have px2 := X8.out.cell 2
        simp at hr0 hr1 hr2 px0 px1 px2
        clear hrb
        go_wp2
        clear hr0 hr1 hr2 hfr px0 px1 px2
        refine bodyPost_ret (v := .tuple #[.agg #[.int .i64 1, .int .i64 nm, .slice A4 n4 c4], .int .i64 ((i + 3 + m : Nat) : Int)]) (results_box2 Try.results94 _ _ w.heap.size _ _ _ _ rfl rfl HRB.out.1 Try.underlying44 rfl (by kernel_rfl)) rfl ?_
        exact ⟨A4, n4, c4, ⟨1, nm, body⟩, _, rfl, .inr ⟨i + 3 + m, hsome.out, rfl⟩, (M8.out.touch HRB.out.2 (fun g hg e => by have := HMB.out g hg; omega)).base (by omega), B8.out.trans (HRB.out.2.below B8.out.size (fun k hk e => by omega))⟩
    case inr =>
      have yb : Byts w3 w.heap.size (some ⟨bA, offA + (i + 3), none⟩) m body := by rw [← hbody]; exact (HB.out.below B3.out).part2 (i + 3) m _ (by omega) (fun h => rfl)
      have YB := Lib.hid yb
      clear yb hbody
      go_wp2_with fail
      refine (l1Bytes_all _ m _ body w.heap.size w3 (by omega) (fun h => by cases h) B3.out.size YB.out).mono ?_
      rintro e w4 ⟨A4, n4, c4, rfl, m4, b4⟩
      have hl4 : body.length = n4 := m4.len
      have hlm : body.length = m := YB.out.1
      have s4 : w3.heap.size ≤ w4.heap.size := b4.size
      have X4 := Lib.hid (X3.out.below b4 X3.out.lt)
      have R4 := Lib.hid (R3.out.below b4 R3.out.lt)
      have B4 := Lib.hid (B3.out.trans (b4.mono B3.out.size))
      have HMB := Lib.hid (fun g (hg : (Value.slice A4 n4 c4).ownBlock = some g) => (show w.heap.size + 2 ≤ g from by have := (World.ownsRow.lt m4.1 g hg).1; omega))
      have M4 := Lib.hid m4
      clear x30 x31 x32 x3f m4 b4
      have x40 := X4.out.cell 0
      have x41 := X4.out.cell 1
      have x42 := X4.out.cell 2
      have x4f := X4.out.free
      simp at x40 x41 x42
      obtain ⟨w5, hw5⟩ : ∃ w5, w4.setCell ⟨w.heap.size + 1, 2, none⟩ (.slice A4 n4 c4) = w5 := ⟨_, rfl⟩
      have xs5 : Box w5 (w.heap.size + 1) 44 #[.int .i64 1, .int .i64 0, .slice A4 n4 c4] := by have h := X4.out.set_ 2 (.slice A4 n4 c4); rw [hw5] at h; simpa using h
      have t5 : Touch (fun b => b = w.heap.size + 1) w4 w5 := hw5 ▸ touch_set _ _ _ _ rfl
      have X5 := Lib.hid xs5
      have R5 := Lib.hid (show Box w5 w.heap.size _ _ from (t5.block _ R4.out.lt (fun e => by omega)).trans R4.out)
      have B5 := Lib.hid (B4.out.trans (t5.below B4.out.size (fun k hk e => by omega)))
      have M5 := Lib.hid (M4.out.touch t5 (fun g hg e => by have := HMB.out g hg; omega))
      have x50 := xs5.cell 0
      have x51 := xs5.cell 1
      have x52 := xs5.cell 2
      have x5f := xs5.free
      simp at x50 x51 x52
      clear xs5 t5
      go_wp2_with fail
      refine (specName_any A4 n4 c4 body _ w5 (by omega) M5.out.byts).mono ?_
      rintro e w' ⟨rfl, hw'⟩
      rw [← hw']
      clear hw' w' x40 x41 x42 x4f
      obtain ⟨nm, hnm⟩ : ∃ nm, nameOf body = nm := ⟨_, rfl⟩
      rw [hnm]
      have HNM := Lib.hid hnm
      clear hnm hw5
      obtain ⟨w6, hw6⟩ : ∃ w6, w5.setCell ⟨w.heap.size + 1, 1, none⟩ (.int .i64 nm) = w6 := ⟨_, rfl⟩
      have xs6 : Box w6 (w.heap.size + 1) 44 #[.int .i64 1, .int .i64 nm, .slice A4 n4 c4] := by have h := X5.out.set_ 1 (.int .i64 nm); rw [hw6] at h; simpa using h
      have t6 : Touch (fun b => b = w.heap.size + 1) w5 w6 := hw6 ▸ touch_set _ _ _ _ rfl
      have X6 := Lib.hid xs6
      have R6 := Lib.hid (show Box w6 w.heap.size _ _ from (t6.block _ R5.out.lt (fun e => by omega)).trans R5.out)
      have B6 := Lib.hid (B5.out.trans (t6.below B5.out.size (fun k hk e => by omega)))
      have M6 := Lib.hid (M5.out.touch t6 (fun g hg e => by have := HMB.out g hg; omega))
      clear xs6 t6
      have px0 := X6.out.cell 0
      have px1 := X6.out.cell 1
      have px2 := X6.out.cell 2
      simp at px0 px1 px2
      go_wp2_with fail
      refine (specChangeOk_any ⟨1, nm, body⟩ A4 n4 c4 _ w6 (by omega) (mine_cap M6.out) (Nat.le_refl _) M6.out.byts).mono ?_
      rintro e w8 ⟨r, rfl, hr, b8⟩
      have HR := Lib.hid hr
      have B8 := Lib.hid (B6.out.trans (b8.mono B6.out.size))
      have R8 := Lib.hid (R6.out.below b8 R6.out.lt)
      have X8 := Lib.hid (X6.out.below b8 X6.out.lt)
      have M8 := Lib.hid (M6.out.below b8)
      clear px0 px1 px2 b8 hr
      cases r with
      | false =>
        have hnone := Lib.hid (oneAt_cell_bad bs i h0' Z.out (by rw [HM.out]; omega) (fun h => by rw [HM.out, HBD.out, HNM.out] at h; exact absurd (HR.out.2 h) (by simp)))
        have hrb := set3 R8.out (.int .i64 0) (.int .i64 0) (.slice none 0 0)
        have HRB := Lib.hid hrb
        have hr0 := R8.out.cell 0
        have hr1 := R8.out.cell 1
        have hr2 := R8.out.cell 2
        have hfr := R8.out.free
        simp at hr0 hr1 hr2
        clear hrb
        go_wp2
        clear hr0 hr1 hr2 hfr
        refine bodyPost_ret (v := .tuple #[.agg #[.int .i64 0, .int .i64 0, .slice none 0 0], .int .i64 (-1)]) (results_box2 Try.results94 _ _ w.heap.size _ _ _ _ rfl rfl HRB.out.1 Try.underlying44 rfl (by kernel_rfl)) rfl ?_
        exact ⟨none, 0, 0, chg0, -1, rfl, .inl ⟨hnone.out, rfl, rfl⟩, Mine.nil _ _, B8.out.trans (HRB.out.2.below B8.out.size (fun k hk e => by omega))⟩
      | true =>
        have hsome := Lib.hid (show oneAt bs i = some (⟨1, nm, body⟩, i + 3 + m) from by have h := oneAt_cell_yes bs i h0' Z.out (by rw [HM.out]; omega) (by rw [HM.out, HBD.out, HNM.out]; exact HR.out.1 rfl); rw [HM.out, HBD.out, HNM.out] at h; exact h)
        have hrb := set3 R8.out (.int .i64 1) (.int .i64 nm) (.slice A4 n4 c4)
        have HRB := Lib.hid hrb
        have hr0 := R8.out.cell 0
        have hr1 := R8.out.cell 1
        have hr2 := R8.out.cell 2
        have hfr := R8.out.free
        have px0 := X8.out.cell 0
        have px1 := X8.out.cell 1
        have px2 := X8.out.cell 2
        simp at hr0 hr1 hr2 px0 px1 px2
        clear hrb
        go_wp2
        clear hr0 hr1 hr2 hfr px0 px1 px2
        refine bodyPost_ret (v := .tuple #[.agg #[.int .i64 1, .int .i64 nm, .slice A4 n4 c4], .int .i64 ((i + 3 + m : Nat) : Int)]) (results_box2 Try.results94 _ _ w.heap.size _ _ _ _ rfl rfl HRB.out.1 Try.underlying44 rfl (by kernel_rfl)) rfl ?_
        exact ⟨A4, n4, c4, ⟨1, nm, body⟩, _, rfl, .inr ⟨i + 3 + m, hsome.out, rfl⟩, (M8.out.touch HRB.out.2 (fun g hg e => by have := HMB.out g hg; omega)).base (by omega), B8.out.trans (HRB.out.2.below B8.out.size (fun k hk e => by omega))⟩
  · have hzb : (z == 1) = false := by simpa using hz1
    obtain ⟨eight, height⟩ : ∃ eight, (bs.drop (i + 1)).take 8 = eight := ⟨_, rfl⟩
    have HE := Lib.hid height
    have hzk : ¬ bs[i]?.getD 0 = 1 := by rw [Z.out]; exact hz1
    have HZK := Lib.hid hzk
    clear height hzk hz1
    go_enter Try.func94, Try.ntmps94
    by_cases h9 : i + 9 ≤ n
    case neg =>
      have hd9 : decide ((n : Int) < (i : Int) + 9) = true := decide_eq_true (by omega)
      have hnone := Lib.hid (oneAt_name_no bs i h0' HZK.out (by omega))
      have hrb := set3 R1.out (.int .i64 0) (.int .i64 0) (.slice none 0 0)
      have HRB := Lib.hid (hrb.1.below ((Below.refl _ _).alloc (Nat.le_refl _) (.cells #[.int .i64 z, .int .i64 0, .slice none 0 0] 44)) hrb.1.lt)
      have HBB := Lib.hid ((B1.out.trans (hrb.2.below B1.out.size (fun k hk e => by omega))).alloc (by simp; omega) (.cells #[.int .i64 z, .int .i64 0, .slice none 0 0] 44))
      have hr0 := R1.out.cell 0
      have hr1 := R1.out.cell 1
      have hr2 := R1.out.cell 2
      have hfr := R1.out.free
      simp at hr0 hr1 hr2
      clear hrb
      go_wp2
      clear hr0 hr1 hr2 hfr
      refine bodyPost_ret (v := .tuple #[.agg #[.int .i64 0, .int .i64 0, .slice none 0 0], .int .i64 (-1)]) (results_box2 Try.results94 _ _ w.heap.size _ _ _ _ rfl rfl HRB.out Try.underlying44 rfl (by kernel_rfl)) rfl ?_
      exact ⟨none, 0, 0, chg0, -1, rfl, .inl ⟨hnone.out, rfl, rfl⟩, Mine.nil _ _, HBB.out⟩
    have hd9 : decide ((n : Int) < (i : Int) + 9) = false := decide_eq_false (by omega)
    have y8 : Byts w2 w.heap.size (some ⟨bA, offA + (i + 1), none⟩) 8 eight := by rw [← HE.out]; exact (HB.out.below B2.out).part2 (i + 1) 8 _ (by omega) (fun h => rfl)
    have Y8 := Lib.hid y8
    clear y8
    go_wp2_with fail
    rw [HW2.out]
    by_cases h7 : eight[7]?.getD 0 ≤ 127
    case neg =>
      refine (specFrom_high _ _ eight _ w2 Y8.out (by omega)).mono ?_
      rintro e w' ⟨rfl, hw'⟩
      rw [← hw']
      clear hw' w'
      have hnone := Lib.hid (oneAt_name_bad bs i h0' HZK.out (by omega) (fun h => by rw [HE.out] at h; exact h7 h.1))
      have hrb := set3 R2.out (.int .i64 0) (.int .i64 0) (.slice none 0 0)
      have HRB := Lib.hid hrb
      have hr0 := R2.out.cell 0
      have hr1 := R2.out.cell 1
      have hr2 := R2.out.cell 2
      have hfr := R2.out.free
      simp at hr0 hr1 hr2
      clear hrb
      go_wp2
      clear hr0 hr1 hr2 hfr
      refine bodyPost_ret (v := .tuple #[.agg #[.int .i64 0, .int .i64 0, .slice none 0 0], .int .i64 (-1)]) (results_box2 Try.results94 _ _ w.heap.size _ _ _ _ rfl rfl HRB.out.1 Try.underlying44 rfl (by kernel_rfl)) rfl ?_
      exact ⟨none, 0, 0, chg0, -1, rfl, .inl ⟨hnone.out, rfl, rfl⟩, Mine.nil _ _, B2.out.trans (HRB.out.2.below B2.out.size (fun k hk e => by omega))⟩
    case pos =>
      refine (specFrom_yes _ _ eight _ w2 Y8.out h7).mono ?_
      rintro e w' ⟨rfl, hw'⟩
      rw [← hw']
      clear hw' w'
      obtain ⟨nm, hnm⟩ : ∃ nm, leVal eight = nm := ⟨_, rfl⟩
      rw [hnm]
      have HNM := Lib.hid hnm
      clear hnm
      have x20 := X2.out.cell 0
      have x21 := X2.out.cell 1
      have x22 := X2.out.cell 2
      have x2f := X2.out.free
      simp at x20 x21 x22
      obtain ⟨w5, hw5⟩ : ∃ w5, w2.setCell ⟨w.heap.size + 1, 1, none⟩ (.int .i64 nm) = w5 := ⟨_, rfl⟩
      have xs5 : Box w5 (w.heap.size + 1) 44 #[.int .i64 z, .int .i64 nm, .slice none 0 0] := by have h := X2.out.set_ 1 (.int .i64 nm); rw [hw5] at h; simpa using h
      have t5 : Touch (fun b => b = w.heap.size + 1) w2 w5 := hw5 ▸ touch_set _ _ _ _ rfl
      have X5 := Lib.hid xs5
      have R5 := Lib.hid (show Box w5 w.heap.size _ _ from (t5.block _ R2.out.lt (fun e => by omega)).trans R2.out)
      have B5 := Lib.hid (B2.out.trans (t5.below B2.out.size (fun k hk e => by omega)))
      have M5 := Lib.hid (Mine.nil w5 w.heap.size)
      have HMB := Lib.hid (fun g (hg : (Value.slice none 0 0).ownBlock = some g) => (show w.heap.size + 2 ≤ g from by simp [Value.ownBlock] at hg))
      clear xs5 t5
      have px0 := X5.out.cell 0
      have px1 := X5.out.cell 1
      have px2 := X5.out.cell 2
      simp at px0 px1 px2
      go_wp2_with fail
      refine (specChangeOk_any ⟨z, nm, []⟩ none 0 0 _ w5 (by omega) (mine_cap M5.out) (Nat.le_refl _) M5.out.byts).mono ?_
      rintro e w8 ⟨r, rfl, hr, b8⟩
      have HR := Lib.hid hr
      have B8 := Lib.hid (B5.out.trans (b8.mono B5.out.size))
      have R8 := Lib.hid (R5.out.below b8 R5.out.lt)
      have X8 := Lib.hid (X5.out.below b8 X5.out.lt)
      have M8 := Lib.hid (M5.out.below b8)
      clear px0 px1 px2 b8 hr
      cases r with
      | false =>
        have hnone := Lib.hid (oneAt_name_bad bs i h0' HZK.out (by omega) (fun h => by rw [HE.out, HNM.out, Z.out] at h; exact absurd (HR.out.2 h.2) (by simp)))
        have hrb := set3 R8.out (.int .i64 0) (.int .i64 0) (.slice none 0 0)
        have HRB := Lib.hid hrb
        have hr0 := R8.out.cell 0
        have hr1 := R8.out.cell 1
        have hr2 := R8.out.cell 2
        have hfr := R8.out.free
        simp at hr0 hr1 hr2
        clear hrb
        go_wp2
        clear hr0 hr1 hr2 hfr
        refine bodyPost_ret (v := .tuple #[.agg #[.int .i64 0, .int .i64 0, .slice none 0 0], .int .i64 (-1)]) (results_box2 Try.results94 _ _ w.heap.size _ _ _ _ rfl rfl HRB.out.1 Try.underlying44 rfl (by kernel_rfl)) rfl ?_
        exact ⟨none, 0, 0, chg0, -1, rfl, .inl ⟨hnone.out, rfl, rfl⟩, Mine.nil _ _, B8.out.trans (HRB.out.2.below B8.out.size (fun k hk e => by omega))⟩
      | true =>
        have hsome := Lib.hid (show oneAt bs i = some (⟨z, nm, []⟩, i + 9) from by have h := oneAt_name_yes bs i h0' HZK.out (by omega) (by rw [HE.out, HNM.out, Z.out]; exact ⟨h7, HR.out.1 rfl⟩); rw [HE.out, HNM.out, Z.out] at h; exact h)
        have hrb := set3 R8.out (.int .i64 z) (.int .i64 nm) (.slice none 0 0)
        have HRB := Lib.hid hrb
        have hr0 := R8.out.cell 0
        have hr1 := R8.out.cell 1
        have hr2 := R8.out.cell 2
        have hfr := R8.out.free
        have px0 := X8.out.cell 0
        have px1 := X8.out.cell 1
        have px2 := X8.out.cell 2
        simp at hr0 hr1 hr2 px0 px1 px2
        clear hrb
        go_wp2
        clear hr0 hr1 hr2 hfr px0 px1 px2
        refine bodyPost_ret (v := .tuple #[.agg #[.int .i64 z, .int .i64 nm, .slice none 0 0], .int .i64 ((i + 9 : Nat) : Int)]) (results_box2 Try.results94 _ _ w.heap.size _ _ _ _ rfl rfl HRB.out.1 Try.underlying44 rfl (by kernel_rfl)) rfl ?_
        exact ⟨none, 0, 0, ⟨z, nm, []⟩, _, rfl, .inr ⟨i + 9, hsome.out, rfl⟩, (M8.out.touch HRB.out.2 (fun g hg e => by have := HMB.out g hg; omega)).base (by omega), B8.out.trans (HRB.out.2.below B8.out.size (fun k hk e => by omega))⟩
end Go.Proofs.Ytebfinedkjlbbaa

-- FromO: The model's ChangesFrom.
namespace Go.Proofs.Ytebfinedkjlbbaa
set_option maxRecDepth 20000
set_option linter.unusedVariables false
set_option linter.unusedSimpArgs false
open Go.RowKit

/-- the call answered with changes of its own, and a flag. -/
def GaveFrom (bs : List Int) (w : World) (e : Ending) (w' : World) : Prop :=
  ∃ A' n' c' l r, e = .returned (.tuple #[.slice A' n' c', .bool r]) ∧ FromIs bs l r ∧ OwnCh w' w.heap.size w'.heap.size A' n' c' l ∧ Below w.heap.size w w'
/-- what is read behind some changes that are. -/
def putMany (done : List MChg) : Option (List MChg × Nat) → Option (List MChg × Nat)
  | none => none
  | some (l, j) => some (done ++ l, j)
theorem putMany_nil (r : Option (List MChg × Nat)) : putMany [] r = r := by
  cases r with
  | none => rfl
  | some p => rfl
theorem putMany_step (b : List Int) (done : List MChg) (n i j : Nat) (x : MChg) (h : oneAt b i = some (x, j)) : putMany done (manyAt b (n + 1) i) = putMany (done ++ [x]) (manyAt b n j) := by
  conv => lhs; unfold manyAt
  rw [h]
  simp only
  cases manyAt b n j with
  | none => rfl
  | some p =>
    obtain ⟨l, e⟩ := p
    simp only [putMany, List.append_assoc, List.singleton_append]
theorem putMany_stop (b : List Int) (done : List MChg) (n i : Nat) (h : oneAt b i = none) : putMany done (manyAt b (n + 1) i) = none := by
  unfold manyAt
  rw [h]; rfl

set_option maxHeartbeats 1600000 in
theorem specChangesFrom_any (A : Option Addr) (n c : Nat) (bs : List Int) (B : Nat) (w : World) (hn : n ≤ 1048576) (hc : n ≤ c) (hB : B ≤ w.heap.size) (hb : Byts w B A n bs) :
    Calls Try.prog 42 #[.slice A n c] w (GaveFrom bs w) := by
  have HB := Lib.hid (hb.more hB)
  have hlen := hb.1
  have hrg := hb.2.1
  clear hb
  have hfail := Lib.hid (fun (W : World) (hW : Below w.heap.size w W) (hno : fromAll bs = none) => (show GaveFrom bs w (.returned (.tuple #[.slice (some ⟨W.heap.size, 0, none⟩) 0 0, .bool false])) (W.alloc (.cells #[] 44)) from
    ⟨_, 0, 0, [], false, rfl, .inr ⟨hno, rfl, rfl⟩, ((OwnCh.made0 W).base hW.size).more (by simp), hW.alloc hW.size _⟩))
  obtain ⟨i0, hi, hz0, hz1, hz2⟩ := info_parts Try.infoCh
  have HI := Lib.hid hi
  have HZ0 := Lib.hid hz0
  have HZ1 := Lib.hid hz1
  have HZ2 := Lib.hid hz2
  clear hi hz0 hz1 hz2
  by_cases h2 : n < 2
  · have hd : decide ((n : Int) < 2) = true := decide_eq_true (by omega)
    have HE := Lib.hid (hfail.out w (Below.refl _ _) (if_pos (.inl (by omega))))
    go_enter Try.func42, Try.ntmps42
    go_wp2
    go_ret2
    exact HE.out
  have hd : decide ((n : Int) < 2) = false := decide_eq_false (by omega)
  go_enter Try.func42, Try.ntmps42
  go_wp2_with fail
  refine (l11Of_any A n c bs 0 _ w hn (by omega) HB.out).mono ?_
  rintro e w1 ⟨rfl, q1, hq1⟩
  have b1 : Below w.heap.size w w1 := by rw [hq1]; exact below_drewN (Below.refl _ _) q1
  have B1 := Lib.hid b1
  have s1 : w.heap.size ≤ w1.heap.size := b1.size
  clear b1 hq1
  obtain ⟨N, hN⟩ : ∃ N, ofTwo bs 0 = N := ⟨_, rfl⟩
  rw [hN]
  have HN := Lib.hid hN
  clear hN
  by_cases hbig : 200 < N
  · have hd3 : decide ((200 : Int) < (N : Int)) = true := decide_eq_true (by omega)
    have HE := Lib.hid (hfail.out w1 B1.out (if_pos (.inr (by rw [HN.out]; exact hbig))))
    go_wp2
    go_ret2
    exact HE.out
  have hd3 : decide ((200 : Int) < (N : Int)) = false := decide_eq_false (by omega)
  obtain ⟨w2, hw2⟩ : ∃ w2, w1.alloc (.cells #[] 44) = w2 := ⟨_, rfl⟩
  have O2 := Lib.hid (show OwnCh w2 w.heap.size w2.heap.size (some ⟨w1.heap.size, 0, none⟩) 0 0 [] from hw2 ▸ ((OwnCh.made0 w1).base s1).more (by simp))
  have B2 := Lib.hid (show Below w.heap.size w w2 from hw2 ▸ B1.out.alloc s1 _)
  have s2 : w1.heap.size ≤ w2.heap.size := hw2 ▸ (by simp)
  have hall : fromAll bs = match manyAt bs N 2 with
      | none => none
      | some (l, k) => if k = bs.length then some l else none := by unfold fromAll; rw [if_neg (by rw [HN.out]; omega), HN.out] <;> rfl
  have HALL := Lib.hid hall
  have HW2 := Lib.hid hw2
  clear hall hw2
  go_wp2_with fail
  rw [HW2.out]
  refine (l11Of_any A n c bs 0 _ w2 hn (by omega) (HB.out.below B2.out)).mono ?_
  rintro e w3 ⟨rfl, q3, hq3⟩
  have b3 : Below w2.heap.size w2 w3 := by rw [hq3]; exact below_drewN (Below.refl _ _) q3
  have O3 := Lib.hid ((O2.out.below b3).more b3.size)
  have B3 := Lib.hid (B2.out.trans (b3.mono (by omega)))
  have s3 : w2.heap.size ≤ w3.heap.size := b3.size
  rw [HN.out]
  clear b3 hq3
  go_wp2
  go_loopw [4, 5, 6] (fun s i m wr => ∃ (k j go q co : Nat) (done : List MChg), k ≤ n ∧ q + j = N ∧ i = .int .i64 k ∧ m = .int .i64 j ∧ s = .slice (some ⟨go, 0, none⟩) q co ∧ OwnCh wr w.heap.size wr.heap.size (some ⟨go, 0, none⟩) q co done ∧ Below w.heap.size w wr ∧ manyAt bs N 2 = putMany done (manyAt bs j k)) (fun _ _ m _ => (intOf m).toNat)
  case atStart => exact ⟨2, N, w1.heap.size, 0, 0, [], by omega, by omega, rfl, rfl, rfl, O3.out, B3.out, (putMany_nil _).symm⟩
  case round =>
    obtain ⟨k, j, go, q, co, done, hk, hqj, rfl, rfl, rfl, oq, hbel, hma⟩ := hrel
    have OQ := Lib.hid oq
    have BR := Lib.hid hbel
    have MA := Lib.hid hma
    have hsr : w.heap.size ≤ wr.heap.size := hbel.size
    clear oq hbel hma
    by_cases hj : 0 < j
    · have hdj : decide ((0 : Int) < (j : Int)) = true := decide_eq_true (by omega)
      obtain ⟨j, rfl⟩ : ∃ j', j = j' + 1 := ⟨j - 1, by omega⟩
      go_wp2_with fail
      refine (l12One_any A n c bs k _ wr hn hc (by omega) hsr (HB.out.below BR.out)).mono ?_
      rintro e w4 ⟨A4, n4, c4, x, en, rfl, hone, m4, b4⟩
      have HONE := Lib.hid hone
      have B4 := Lib.hid (BR.out.trans (b4.mono hsr))
      have O4 := Lib.hid (OQ.out.below b4)
      have s4 : wr.heap.size ≤ w4.heap.size := b4.size
      have M4 := Lib.hid m4
      clear hone m4 b4
      obtain ⟨w5, hw5⟩ : ∃ w5, w4.alloc (.cells #[.int .i64 x.kind, .int .i64 x.name, .slice A4 n4 c4] 44) = w5 := ⟨_, rfl⟩
      have b5 : Below w4.heap.size w4 w5 := hw5 ▸ (Below.refl _ _).alloc (Nat.le_refl _) _
      have X5 := Lib.hid (show Box w5 w4.heap.size _ _ from hw5 ▸ heap_alloc_new _ _)
      have B5 := Lib.hid (B4.out.trans (b5.mono (by omega)))
      have O5 := Lib.hid (O4.out.below (b5.mono s4))
      have M5 := Lib.hid (M4.out.below b5)
      have s5 : w4.heap.size ≤ w5.heap.size := b5.size
      have s5e : w5.heap.size = w4.heap.size + 1 := hw5 ▸ (by simp)
      have HW5 := Lib.hid hw5
      clear b5 hw5
      rcases HONE.out with ⟨hnone, hx0, rfl⟩ | ⟨e2, hsome, rfl⟩
      · obtain rfl := hx0
        have hf : fromAll bs = none := by rw [HALL.out, MA.out, putMany_stop bs done j k hnone]
        have he := hfail.out w5 B5.out hf
        rw [s5e, ← HW5.out] at he
        have HE := Lib.hid he
        clear hf he
        go_wp2
        go_ret2
        exact HE.out
      · obtain ⟨hcx, he2n, hke⟩ := oneAt_ok hsome
        have hst := putMany_step bs done j k e2 x hsome
        rw [← MA.out] at hst
        have ST := Lib.hid hst
        have hd5 : decide ((e2 : Int) < 0) = false := decide_eq_false (by omega)
        have p0 := X5.out.cell 0
        have p1 := X5.out.cell 1
        have p2 := X5.out.cell 2
        simp at p0 p1 p2
        have ba : Below w5.heap.size w5 (w5.alloc (.cells #[.int .i64 x.kind, .int .i64 x.name, .slice A4 n4 c4] 44)) := (Below.refl _ _).alloc (Nat.le_refl _) _
        obtain ⟨hl, hu, sl, hrow, hsub⟩ := O5.out.below (ba.mono (by omega))
        have mx := (M5.out.below ba).base hsr
        have hxb : ∀ b, (Value.slice A4 n4 c4).ownBlock = some b → wr.heap.size ≤ b := fun b hb => (M5.out.1.lt b hb).1
        have B6 := Lib.hid (B5.out.trans (ba.mono B5.out.size))
        have hhi : wr.heap.size ≤ (w5.alloc (.cells #[.int .i64 x.kind, .int .i64 x.name, .slice A4 n4 c4] 44)).heap.size := by simp; omega
        have hw5o := HW5.out
        clear hst hsome
        go_wp2_with (at_builtin; go_loud (refine wpList_append_lies _ rfl _ _ 52 rfl w.heap.size 44 i0 (.agg #[.int .i64 0, .int .i64 0, .slice none 0 0]) 3 40 Try.underlying52 HI.out HZ0.out HZ1.out HZ2.out rfl (by decide) (.slice (some ⟨go, 0, none⟩) q co) q (hvs q done sl) (by simp [Act.eval]) hrow ⟨w5.heap.size, 0, none⟩ 1 1 [.int .i64 x.kind, .int .i64 x.name, .slice A4 n4 c4] (by simp [Act.eval]) rfl (by intro j u hj; match j, hj with | 0, hj => (simp at hj; subst hj; simp [Addr.add]) | 1, hj => (simp at hj; subst hj; simp [Addr.add]) | 2, hj => (simp at hj; subst hj; simp [Addr.add])) (by intro u hu; simp at hu; rcases hu with rfl | rfl | rfl <;> rfl) (by omega) (by unfold maxLen; omega) (by omega) (by simp; omega) _ rfl ?_))
        intro g6 c6 w6 hown6 hgrow6 hwh6 hlt6
        have h6 := OwnCh.pushed (x := x) hl hu hsub mx hxb hown6 hgrow6 (hwh6.elim .inl (fun h => .inr (by simp; omega))) hhi (Nat.le_refl _)
        have H6 := Lib.hid h6
        have B7 := Lib.hid (B6.out.grown hgrow6 (by simp; omega) (fun g hg => (World.ownsRow.lt hrow g hg).1))
        clear hown6 hgrow6 hwh6 h6 hrow hsub mx hxb hu hl ba hw5o p0 p1 p2
        go_wp2
        go_roundw
        case rel => exact ⟨e2, j, g6, q + 1, c6, done ++ [x], by omega, by omega, rfl, by go_num, rfl, H6.out, B7.out, ST.out⟩
        case measure => simp [intOf]
    · have hdj : decide ((0 : Int) < (j : Int)) = false := decide_eq_false (by omega)
      obtain rfl : j = 0 := by omega
      have hma := MA.out
      simp only [manyAt, putMany, List.append_nil] at hma
      by_cases hend : k = n
      · subst hend
        have hf : fromAll bs = some done := by rw [HALL.out, hma]; simp only; rw [if_pos hlen.symm]
        have HF := Lib.hid hf
        have hne : ((k : Int) != (k : Int)) = false := by simp
        clear hf hma
        go_wp2
        go_ret2
        exact ⟨_, q, co, done, true, rfl, .inl ⟨HF.out, rfl⟩, OQ.out, BR.out⟩
      · have hf : fromAll bs = none := by rw [HALL.out, hma]; simp only; rw [if_neg (by omega)]
        have HE := Lib.hid (hfail.out wr BR.out hf)
        have hne : ((k : Int) != (n : Int)) = true := by simp; omega
        clear hf hma hend
        go_wp2
        go_ret2
        exact HE.out
end Go.Proofs.Ytebfinedkjlbbaa

-- ChgR: Plain facts on the reading of changes as the program does it: number by number. No statement of the program is proved here.
namespace Go.Proofs.Ytebfinedkjlbbaa
set_option maxRecDepth 20000
set_option linter.unusedVariables false
set_option linter.unusedSimpArgs false
open Go.RowKit

/-- the next number of two bytes; 0 where there are too few. -/
def rCount (st : Option (List Int)) : Nat × Option (List Int) := (if (rByt 2 st).2 = none then 0 else ofTwo (rByt 2 st).1 0, (rByt 2 st).2)
/-- the next bytes, ahead of them how many. -/
def rCell (st : Option (List Int)) : List Int × Option (List Int) := rByt (rCount st).1 (rCount st).2
/-- the next change, right or not. -/
def rChg (st : Option (List Int)) : MChg × Option (List Int) :=
  if (rNum st).1 = 1 then (⟨1, nameOf (rCell (rNum st).2).1, (rCell (rNum st).2).1⟩, (rCell (rNum st).2).2)
  else if 2 ≤ (rNum st).1 ∧ (rNum st).1 ≤ 11 then (⟨(rNum st).1, nm8 (rByt 8 (rNum st).2).1, []⟩, (rByt 8 (rNum st).2).2)
  else (⟨0, 0, []⟩, (rNum st).2)
theorem rChg_one {st} (h : (rNum st).1 = 1) : rChg st = (⟨1, nameOf (rCell (rNum st).2).1, (rCell (rNum st).2).1⟩, (rCell (rNum st).2).2) := if_pos h
theorem rChg_name {st} (h1 : ¬ (rNum st).1 = 1) (h : 2 ≤ (rNum st).1 ∧ (rNum st).1 ≤ 11) : rChg st = (⟨(rNum st).1, nm8 (rByt 8 (rNum st).2).1, []⟩, (rByt 8 (rNum st).2).2) := by
  unfold rChg; rw [if_neg h1, if_pos h]
theorem rChg_none {st} (h1 : ¬ (rNum st).1 = 1) (h : ¬ (2 ≤ (rNum st).1 ∧ (rNum st).1 ≤ 11)) : rChg st = (⟨0, 0, []⟩, (rNum st).2) := by
  unfold rChg; rw [if_neg h1, if_neg h]
theorem ofTwo_here (b : List Int) (i : Nat) : ofTwo ((b.drop i).take 2) 0 = ofTwo b i := by
  unfold ofTwo
  simp [List.getElem?_take]
theorem rByt_yes (c : Nat) (ys : List Int) (h : c ≤ ys.length) : rByt c (some ys) = (ys.take c, some (ys.drop c)) := by
  unfold rByt; simp only; rw [if_pos h]
theorem rByt_no (c : Nat) (ys : List Int) (h : ¬ c ≤ ys.length) : rByt c (some ys) = ([], none) := by
  unfold rByt; simp only; rw [if_neg h]
theorem rCount_yes (ys : List Int) (h : 2 ≤ ys.length) : rCount (some ys) = (ofTwo ys 0, some (ys.drop 2)) := by
  unfold rCount
  rw [rByt_yes 2 ys h]
  have := ofTwo_here ys 0
  simp only [List.drop_zero] at this
  simp [this]
theorem rCount_no (ys : List Int) (h : ¬ 2 ≤ ys.length) : rCount (some ys) = (0, none) := by
  unfold rCount
  rw [rByt_no 2 ys h]
  simp
theorem rCell_at (b : List Int) (i : Nat) (hi : i ≤ b.length) :
    (i + 2 + ofTwo b i ≤ b.length ∧ rCell (some (b.drop i)) = ((b.drop (i + 2)).take (ofTwo b i), some (b.drop (i + 2 + ofTwo b i)))) ∨ (b.length < i + 2 + ofTwo b i ∧ (rCell (some (b.drop i))).1 = []) := by
  unfold rCell
  by_cases h2 : i + 2 ≤ b.length
  · rw [rCount_yes (b.drop i) (by rw [List.length_drop]; omega)]
    simp only
    rw [← ofTwo_here b i, ← ofTwo_here (b.drop i) 0]
    simp only [List.drop_zero, List.drop_drop, List.take_take, Nat.min_self]
    generalize ofTwo (List.take 2 (List.drop i b)) 0 = m
    by_cases hm : i + 2 + m ≤ b.length
    · refine .inl ⟨hm, ?_⟩
      rw [rByt_yes _ _ (by rw [List.length_drop]; omega), List.drop_drop]
    · refine .inr ⟨by omega, ?_⟩
      rw [rByt_no _ _ (by rw [List.length_drop]; omega)]
  · refine .inr ⟨by omega, ?_⟩
    rw [rCount_no (b.drop i) (by rw [List.length_drop]; omega)]
    rfl
theorem not_ok_zero : ¬ ChgOk ⟨0, 0, []⟩ := fun h => by
  rcases h with ⟨_, h, _⟩ | ⟨h, _⟩
  · simp at h
  · simp at h
theorem not_ok_kind {x : MChg} (h1 : ¬ x.kind = 1) (h2 : ¬ (2 ≤ x.kind ∧ x.kind ≤ 11)) : ¬ ChgOk x := fun h => by
  rcases h with ⟨_, h3, h4, _⟩ | ⟨h, _⟩
  · exact h2 ⟨h3, h4⟩
  · exact h1 h
theorem not_ok_empty {x : MChg} (h1 : x.kind = 1) (h2 : x.bytes = []) : ¬ ChgOk x := fun h => by
  have := ok_pos h h1
  rw [h2] at this
  simp at this
theorem not_ok_name {x : MChg} (h1 : ¬ x.kind = 1) (h2 : x.name < 0) : ¬ ChgOk x := fun h => by
  rcases h with ⟨_, _, _, h, _⟩ | ⟨h, _⟩
  · omega
  · exact h1 h
theorem drop_cons_ (b : List Int) (i : Nat) (h : i < b.length) : b.drop i = b[i]?.getD 0 :: b.drop (i + 1) := by
  rw [List.drop_eq_getElem_cons h, List.getElem?_eq_getElem h]; rfl
theorem rChg_at (b : List Int) (i : Nat) (hi : i ≤ b.length) :
    (∃ x j, oneAt b i = some (x, j) ∧ rChg (some (b.drop i)) = (x, some (b.drop j)) ∧ ChgOk x ∧ j ≤ b.length) ∨ (oneAt b i = none ∧ ¬ ChgOk (rChg (some (b.drop i))).1) := by
  by_cases h0 : b.length ≤ i
  · refine .inr ⟨oneAt_end b i h0, ?_⟩
    have e : b.drop i = [] := List.drop_eq_nil_of_le h0
    rw [e]
    rw [rChg_none (st := some []) (by simp [rNum]) (by simp [rNum])]
    exact not_ok_zero
  · have hn : rNum (some (b.drop i)) = (b[i]?.getD 0, some (b.drop (i + 1))) := by rw [drop_cons_ b i (by omega)]; rfl
    by_cases h1 : b[i]?.getD 0 = 1
    · rw [rChg_one (by rw [hn]; exact h1), hn]
      simp only
      rcases rCell_at b (i + 1) (by omega) with ⟨h3, h4⟩ | ⟨h3, h4⟩
      · rw [h4]
        simp only [show i + 1 + 2 = i + 3 by omega] at h3 ⊢
        by_cases hok : ChgOk ⟨1, nameOf ((b.drop (i + 3)).take (ofTwo b (i + 1))), (b.drop (i + 3)).take (ofTwo b (i + 1))⟩
        · exact .inl ⟨_, _, oneAt_cell_yes b i h0 h1 (by omega) hok, rfl, hok, by omega⟩
        · exact .inr ⟨oneAt_cell_bad b i h0 h1 (by omega) hok, hok⟩
      · rw [h4]
        exact .inr ⟨oneAt_cell_no b i h0 h1 (by omega), not_ok_empty rfl rfl⟩
    · by_cases h2 : 2 ≤ b[i]?.getD 0 ∧ b[i]?.getD 0 ≤ 11
      · rw [rChg_name (by rw [hn]; exact h1) (by rw [hn]; exact h2), hn]
        simp only
        by_cases h9 : i + 9 ≤ b.length
        · rw [rByt_yes 8 (b.drop (i + 1)) (by rw [List.length_drop]; omega), List.drop_drop]
          simp only [show i + 1 + 8 = i + 9 by omega]
          have hl : ((b.drop (i + 1)).take 8).length = 8 := by rw [List.length_take, List.length_drop]; omega
          by_cases h7 : ((b.drop (i + 1)).take 8)[7]?.getD 0 ≤ 127
          · have hv : nm8 ((b.drop (i + 1)).take 8) = leVal ((b.drop (i + 1)).take 8) := if_pos ⟨hl, h7⟩
            rw [hv]
            by_cases hok : ChgOk ⟨b[i]?.getD 0, leVal ((b.drop (i + 1)).take 8), []⟩
            · exact .inl ⟨_, _, oneAt_name_yes b i h0 h1 (by omega) ⟨h7, hok⟩, rfl, hok, h9⟩
            · exact .inr ⟨oneAt_name_bad b i h0 h1 (by omega) (fun h => hok h.2), hok⟩
          · have hv : nm8 ((b.drop (i + 1)).take 8) = -1 := if_neg (fun h => h7 h.2)
            rw [hv]
            exact .inr ⟨oneAt_name_bad b i h0 h1 (by omega) (fun h => h7 h.1), not_ok_name h1 (by show (-1 : Int) < 0; decide)⟩
        · rw [rByt_no 8 (b.drop (i + 1)) (by rw [List.length_drop]; omega)]
          refine .inr ⟨oneAt_name_no b i h0 h1 (by omega), not_ok_name h1 ?_⟩
          show nm8 [] < 0
          rw [show nm8 [] = -1 from if_neg (by simp)]
          decide
      · rw [rChg_none (by rw [hn]; exact h1) (by rw [hn]; exact h2)]
        refine .inr ⟨?_, not_ok_zero⟩
        by_cases h9 : b.length < i + 9
        · exact oneAt_name_no b i h0 h1 h9
        · exact oneAt_name_bad b i h0 h1 h9 (fun h => not_ok_kind (x := ⟨b[i]?.getD 0, leVal ((b.drop (i + 1)).take 8), []⟩) h1 h2 h.2)
end Go.Proofs.Ytebfinedkjlbbaa

-- CloneB: slices.Clone at bytes, as the program calls it. No statement of the program is proved here.
namespace Go.Proofs.Ytebfinedkjlbbaa
set_option maxRecDepth 100000
set_option linter.unusedVariables false
set_option linter.unusedSimpArgs false
open Go.RowKit

set_option maxHeartbeats 2000000 in
theorem cloneB_any (A : Option Addr) (n c : Nat) (bs : List Int) (B : Nat) (w : World) (hn : n ≤ 1048576) (hB : B ≤ w.heap.size) (hb : Byts w B A n bs) :
    Calls Try.prog 140 #[.slice A n c] w fun e w' => ∃ A' n' c', e = .returned (.slice A' n' c') ∧ Mine w' w.heap.size A' n' c' bs ∧ Below w.heap.size w w' := by
  obtain ⟨i0, hi, hz0, hz1, hz2⟩ := info_parts Try.info5
  have HI := Lib.hid hi
  have HZ0 := Lib.hid hz0
  have HZ1 := Lib.hid hz1
  have HZ2 := Lib.hid hz2
  have hlen := hb.1
  have hrg := hb.2.1
  have hq : ∀ (w : World) (a : Option Addr) (n c n' c' : Nat), (binOp .eql 22 (.slice a n c) (.slice none n' c')).run Try.prog w = .ok (.bool a.isNone) w := fun w a n c n' c' => Lib.run_eql_slice_nil w _ _ a n c n' c' Try.underlying22
  have mixed : Try.prog.follows .mixedOrders = true := by kernel_rfl
  have HB := Lib.hid (hb.more hB)
  have HR := Lib.hid hrg
  clear hb hrg hi hz0 hz1 hz2
  cases A with
  | none =>
    have hn0 : n = 0 := by
      rcases Nat.eq_zero_or_pos n with h | h
      · exact h
      · obtain ⟨b, off, e, _⟩ := HB.out.2.2 h
        cases e
    subst hn0
    have hx : bs = [] := List.length_eq_zero_iff.1 hlen
    subst hx
    go_enter Try.func140, Try.ntmps140
    go_wp2
    go_ret
    exact ⟨none, 0, 0, rfl, Mine.nil _ _, Below.refl _ _⟩
  | some a =>
    have E0 := Lib.hid (Mine.empty w)
    have B0 := Lib.hid ((Below.refl w.heap.size w).alloc (Nat.le_refl _) (.cells #[] 5))
    have HB2 := Lib.hid (HB.out.below B0.out)
    go_enter Try.func140, Try.ntmps140
    go_wp2_with (at_builtin; refine wpList_append_own _ rfl _ _ 22 rfl w.heap.size 5 i0 (.int .u8 0) 1 1 Try.underlying22 HI.out HZ0.out HZ1.out HZ2.out rfl (by decide) _ _ _ rfl E0.out.1 a n c (bs.map (Value.int .u8)) rfl ?qc1 ?qc2 ?qc3 ?qc4 ?qc5 ?qc6 ?_)
    case qc1 => simp; omega
    case qc2 =>
      intro j u hj
      have hjn : j < n := by
        have := (List.getElem?_eq_some_iff.1 hj).1
        simp at this
        omega
      obtain ⟨b, off, e, hb, hc⟩ := HB2.out.at_ hjn
      cases e
      rw [Addr.add_lit]
      rw [List.getElem?_map, List.getElem?_eq_getElem (by omega)] at hj
      rw [List.getElem?_eq_getElem (by omega)] at hc
      cases hj
      exact hc
    case qc3 => intro u hu; obtain ⟨x, _, rfl⟩ := List.mem_map.1 hu; rfl
    case qc4 => unfold maxLen; omega
    case qc5 => omega
    case qc6 => simp
    intro v1 w1 hown hgrow hnil
    obtain ⟨A', c', rfl⟩ := own_slice hown
    have M : Hid (Mine w1 w.heap.size A' n c' bs) := ⟨by simpa using hown, HR.out⟩
    have hb2 := B0.out.grown hgrow (by simp) (fun g hg => (E0.out.1.lt g hg).1)
    have H2 := Lib.hid hb2
    clear hown hgrow hnil hb2
    go_wp2
    go_ret
    exact ⟨_, _, _, rfl, M.out, H2.out⟩
end Go.Proofs.Ytebfinedkjlbbaa

-- ChgQ: The program's reading of changes: a number of two bytes, a change of each form, the next change.
namespace Go.Proofs.Ytebfinedkjlbbaa
set_option maxRecDepth 100000
set_option linter.unusedVariables false
set_option linter.unusedSimpArgs false
open Go.RowKit

theorem rByt_full {st : Option (List Int)} (c : Nat) (h : ¬ (rByt c st).2 = none) : (rByt c st).1.length = c := by
  rcases st with _ | ys
  · simp [rByt] at h
  · by_cases hc : c ≤ ys.length
    · rw [rByt_yes c ys hc]; simp; omega
    · rw [rByt_no c ys hc] at h; simp at h
theorem rCount_none {st : Option (List Int)} (h : (rByt 2 st).2 = none) : rCount st = (0, none) := by
  unfold rCount; rw [if_pos h, h]
theorem rCount_some {st : Option (List Int)} (h : ¬ (rByt 2 st).2 = none) : rCount st = (ofTwo (rByt 2 st).1 0, (rByt 2 st).2) := by
  unfold rCount; rw [if_neg h]
theorem rCount_le {st : Option (List Int)} (h : Bs st) : (rCount st).1 ≤ 65535 := by
  by_cases hn : (rByt 2 st).2 = none
  · rw [rCount_none hn]; omega
  · rw [rCount_some hn]
    exact (ofTwo_eq _ (rByt_bs 2 h).2 0).2
theorem rCount_bs {st : Option (List Int)} (h : Bs st) : Bs (rCount st).2 := (rByt_bs 2 h).1

set_option maxHeartbeats 1000000 in
theorem rcount_any (g B : Nat) (st : Option (List Int)) (w : World) (hB : B ≤ g) (h : Rd w B g st) :
    Calls Try.prog 95 #[.pointer (some ⟨g, 0, none⟩)] w fun e w' => e = .returned (.int .i64 ((rCount st).1 : Int)) ∧ Rd w' B g (rCount st).2 ∧ Touch (fun k => k = g) w w' ∧ w'.heap.size = w.heap.size := by
  have HR := Lib.hid h
  clear h
  obtain ⟨cn, hcn⟩ : ∃ cn, (rCount st).1 = cn := ⟨_, rfl⟩
  rw [hcn]
  have HCN := Lib.hid hcn
  clear hcn
  go_enter Try.func95, Try.ntmps95
  go_wp2_with fail
  refine (rbytes_any g 2 B st w hB (by omega) HR.out).mono ?_
  rintro e w1 ⟨A, n, c, rfl, hnc, hb, hrd, ht, hsz⟩
  have HB := Lib.hid hb
  have HD := Lib.hid hrd
  have HT := Lib.hid ht
  have HZ := Lib.hid hsz
  obtain ⟨A', n', c', short, hx, _, _, _, _, hsh, _⟩ := hrd
  have q1 := hx.cell 1
  simp at q1
  clear hb ht hx hsz
  by_cases hn : (rByt 2 st).2 = none
  · have e0 := Lib.hid (rCount_none hn)
    rw [hn] at hsh
    subst hsh
    rw [hn] at HD
    clear hn
    go_wp2
    go_ret
    have hz : cn = 0 := by rw [← HCN.out, e0.out]
    exact ⟨by rw [hz]; rfl, by rw [e0.out]; exact HD.out, HT.out, HZ.out⟩
  · have e0 := Lib.hid (rCount_some hn)
    have hsf : short = false := by
      rw [hsh]
      cases h : (rByt 2 st).2 with
      | none => exact absurd h hn
      | some _ => rfl
    subst hsf
    have hn2 : n = 2 := by rw [← HB.out.1]; exact rByt_full 2 hn
    subst hn2
    clear hsh hn
    go_wp2_with fail
    refine (countFrom_any A 2 c (rByt 2 st).1 B w1 (by omega) (by omega) HB.out).mono ?_
    rintro e w2 ⟨rfl, q, rfl⟩
    have hz : ofTwo (rByt 2 st).1 0 = cn := by rw [← HCN.out, e0.out]
    rw [hz]
    have b := below_drewN (Below.refl w1.heap.size w1) q
    have HD2 := Lib.hid (HD.out.below b hB)
    have HT2 := Lib.hid (HT.out.trans (Touch.of_below (S := fun k => k = g) b))
    clear b hz
    go_wp2
    go_ret
    exact ⟨rfl, by rw [e0.out]; exact HD2.out, HT2.out, HZ.out⟩

set_option maxHeartbeats 1000000 in
theorem readNamed_any (g B : Nat) (st : Option (List Int)) (w : World) (hB : B ≤ g) (h : Rd w B g st) :
    Calls Try.prog 123 #[.pointer (some ⟨g, 0, none⟩)] w fun e w' => ∃ A n c, e = .returned (.agg #[.int .i64 0, .int .i64 (nm8 (rByt 8 st).1), .slice A n c]) ∧ Mine w' w.heap.size A n c [] ∧ Rd w' B g (rByt 8 st).2 ∧ Touch (fun k => k = g) w w' := by
  have hg := h.lt
  obtain ⟨nm, hnm⟩ : ∃ nm, nm8 (rByt 8 st).1 = nm := ⟨_, rfl⟩
  rw [hnm]
  have HNM := Lib.hid hnm
  clear hnm
  obtain ⟨w1, hw1⟩ : ∃ w1, w.alloc (.cells #[.int .i64 0, .int .i64 0, .slice none 0 0] 44) = w1 := ⟨_, rfl⟩
  have b1 : Below w.heap.size w w1 := hw1 ▸ (Below.refl _ _).alloc (Nat.le_refl _) _
  have X1 := Lib.hid (show Box w1 w.heap.size _ _ from hw1 ▸ heap_alloc_new _ _)
  have R1 := Lib.hid (h.below b1 hB)
  have T1 := Lib.hid (Touch.of_below (S := fun k => k = g) b1)
  have s1 : w1.heap.size = w.heap.size + 1 := hw1 ▸ (by simp)
  clear b1 h
  go_enter Try.func123, Try.ntmps123
  go_wp2_with fail
  refine (rname_any g B st w1 hB R1.out).mono ?_
  rintro e w2 ⟨rfl, rd, t, sz⟩
  rw [HNM.out]
  have R2 := Lib.hid rd
  have T2 := Lib.hid (T1.out.trans t)
  have X2 := Lib.hid (X1.out.touch t (by omega))
  clear rd t
  have p0 := X2.out.cell 0
  have p1 := X2.out.cell 1
  have p2 := X2.out.cell 2
  have f := X2.out.free
  simp at p0 p1 p2
  have hs := set3 X2.out (.int .i64 0) (.int .i64 nm) (.slice none 0 0)
  have HS := Lib.hid hs
  clear hs hw1
  go_wp2
  refine bodyPost_ret (v := .agg #[.int .i64 0, .int .i64 nm, .slice none 0 0]) (results_cell_row Try.results123 _ _ w.heap.size _ _ _ _ rfl HS.out.1 Try.underlying44 rfl (by kernel_rfl)) rfl ?_
  have T3 := HS.out.2
  refine ⟨none, 0, 0, rfl, Mine.nil _ _, R2.out.touch T3 hB (fun k hk e => by omega), T2.out.grow T3 (fun k hk e => by omega)⟩

set_option maxHeartbeats 1600000 in
theorem readCell_any (g B : Nat) (st : Option (List Int)) (w : World) (hB : B ≤ g) (h : Rd w B g st) :
    Calls Try.prog 126 #[.pointer (some ⟨g, 0, none⟩)] w fun e w' => ∃ A n c, e = .returned (.agg #[.int .i64 0, .int .i64 (nameOf (rCell st).1), .slice A n c]) ∧ Mine w' w.heap.size A n c (rCell st).1 ∧ Rd w' B g (rCell st).2 ∧ Touch (fun k => k = g) w w' := by
  have hg := h.lt
  have hle := rCount_le h.bs
  obtain ⟨bs, st3, hcell⟩ : ∃ bs st3, rCell st = (bs, st3) := ⟨_, _, rfl⟩
  obtain ⟨cn, st2, hcn⟩ : ∃ cn st2, rCount st = (cn, st2) := ⟨_, _, rfl⟩
  have hby : rByt cn st2 = (bs, st3) := by rw [← hcell]; unfold rCell; rw [hcn]
  rw [hcell]
  rw [hcn] at hle
  have HCN := Lib.hid hcn
  have HBY := Lib.hid hby
  clear hcell hcn hby
  simp only at hle ⊢
  obtain ⟨w1, hw1⟩ : ∃ w1, w.alloc (.cells #[.int .i64 0, .int .i64 0, .slice none 0 0] 44) = w1 := ⟨_, rfl⟩
  have b1 : Below w.heap.size w w1 := hw1 ▸ (Below.refl _ _).alloc (Nat.le_refl _) _
  have X1 := Lib.hid (show Box w1 w.heap.size _ _ from hw1 ▸ heap_alloc_new _ _)
  have R1 := Lib.hid (h.below b1 hB)
  have T1 := Lib.hid (Touch.of_below (S := fun k => k = g) b1)
  have s1 : w1.heap.size = w.heap.size + 1 := hw1 ▸ (by simp)
  clear b1 h
  go_enter Try.func126, Try.ntmps126
  go_wp2_with fail
  refine (rcount_any g B st w1 hB R1.out).mono ?_
  rintro e w2 ⟨rfl, rd, t, sz⟩
  rw [HCN.out] at rd ⊢
  simp only at rd ⊢
  have R2 := Lib.hid rd
  have T2 := Lib.hid (T1.out.trans t)
  have X2 := Lib.hid (X1.out.touch t (by omega))
  clear rd t hw1
  go_wp2_with fail
  refine (rbytes_any g cn B st2 w2 hB (by omega) R2.out).mono ?_
  rintro e w3 ⟨A, n, c, rfl, hnc, yb, rd, t, sz3⟩
  have hln : n ≤ 65535 := by
    have h1 := rByt_len (st := st2) cn
    have h2 := yb.1
    omega
  rw [HBY.out] at rd yb
  simp only at rd yb
  have R3 := Lib.hid rd
  have T3 := Lib.hid (T2.out.trans t)
  have X3 := Lib.hid (X2.out.touch t (by omega))
  have Y3 := Lib.hid yb
  clear rd t yb
  go_wp2_with fail
  refine (cloneB_any A n c bs B w3 (by omega) (by omega) Y3.out).mono ?_
  rintro e w4 ⟨A4, n4, c4, rfl, m4, b4⟩
  have s4 := b4.size
  have hl4 := m4.len
  have hl3 := Y3.out.1
  have R4 := Lib.hid (R3.out.below b4 hB)
  have T4 := Lib.hid (T3.out.trans (Touch.of_below (S := fun k => k = g) b4))
  have X4 := Lib.hid (X3.out.below b4 (by omega))
  have M4 := Lib.hid m4
  clear b4 m4
  go_wp2_with fail
  refine (name_any A4 n4 c4 bs w4.heap.size w4 (by omega) M4.out.byts).mono ?_
  rintro e w' ⟨rfl, hw'⟩
  rw [← hw']
  clear hw' w'
  obtain ⟨nm, hnm⟩ : ∃ nm, nameOf bs = nm := ⟨_, rfl⟩
  rw [hnm]
  have HNM := Lib.hid hnm
  clear hnm
  have p0 := X4.out.cell 0
  have p1 := X4.out.cell 1
  have p2 := X4.out.cell 2
  have f := X4.out.free
  simp at p0 p1 p2
  have hs := set3 X4.out (.int .i64 0) (.int .i64 nm) (.slice A4 n4 c4)
  have HS := Lib.hid hs
  clear hs
  go_wp2
  refine bodyPost_ret (v := .agg #[.int .i64 0, .int .i64 nm, .slice A4 n4 c4]) (results_cell_row Try.results126 _ _ w.heap.size _ _ _ _ rfl HS.out.1 Try.underlying44 rfl (by kernel_rfl)) rfl ?_
  have T5 := HS.out.2
  refine ⟨A4, n4, c4, by rw [HNM.out], (M4.out.touch T5 (fun b hb e => by have := (World.ownsRow.lt M4.out.1 b hb).1; omega)).base (by omega), R4.out.touch T5 hB (fun k hk e => by omega), T4.out.grow T5 (fun k hk e => by omega)⟩

set_option maxHeartbeats 4000000 in
theorem nextChange_any (g B : Nat) (st : Option (List Int)) (w : World) (hB : B ≤ g) (h : Rd w B g st) :
    Calls Try.prog 96 #[.pointer (some ⟨g, 0, none⟩)] w fun e w' => ∃ (x : MChg) (A : Option Addr) (n c : Nat), e = .returned (.agg #[.int .i64 x.kind, .int .i64 x.name, .slice A n c]) ∧ x = (rChg st).1 ∧ Mine w' w.heap.size A n c x.bytes ∧ Rd w' B g (rChg st).2 ∧ Touch (fun k => k = g) w w' := by
  have hg := h.lt
  have hnb := rNum_bs h.bs
  obtain ⟨kd, st1, hkd⟩ : ∃ kd st1, rNum st = (kd, st1) := ⟨_, _, rfl⟩
  have HKD := Lib.hid hkd
  rw [hkd] at hnb
  obtain ⟨_, hk0, hk255⟩ := hnb
  simp only at hk0 hk255
  clear hkd
  obtain ⟨w1, hw1⟩ : ∃ w1, w.alloc (.cells #[.int .i64 0, .int .i64 0, .slice none 0 0] 44) = w1 := ⟨_, rfl⟩
  have b1 : Below w.heap.size w w1 := hw1 ▸ (Below.refl _ _).alloc (Nat.le_refl _) _
  have X1 := Lib.hid (show Box w1 w.heap.size _ _ from hw1 ▸ heap_alloc_new _ _)
  have R1 := Lib.hid (h.below b1 hB)
  have T1 := Lib.hid (Touch.of_below (S := fun k => k = g) b1)
  have s1 : w1.heap.size = w.heap.size + 1 := hw1 ▸ (by simp)
  clear b1 h
  go_enter Try.func96, Try.ntmps96
  go_wp2_with fail
  refine (rnumber_any g B st w1 hB R1.out).mono ?_
  rintro e w2 ⟨rfl, rd, t, sz⟩
  rw [HKD.out] at rd ⊢
  simp only at rd ⊢
  have R2 := Lib.hid rd
  have T2 := Lib.hid (T1.out.trans t)
  have X2 := Lib.hid (X1.out.touch t (by omega))
  clear rd t hw1
  have hwk : IntKind.i64.wrap kd = kd := by rw [IntKind.wrap_i64]; omega
  by_cases hk1 : kd = 1
  · have ST := Lib.hid (show rChg st = (⟨1, nameOf (rCell st1).1, (rCell st1).1⟩, (rCell st1).2) from by rw [rChg_one (by rw [HKD.out]; exact hk1), HKD.out])
    have HK1 := Lib.hid hk1
    have FO := Lib.hid (formOf_cell kd hk1)
    clear hk1
    go_wp2_with fail
    refine (FO.out w2).mono ?_
    rintro e w3 ⟨rfl, b3⟩
    have s3 := b3.size
    have R3 := Lib.hid (R2.out.below b3 hB)
    have T3 := Lib.hid (T2.out.trans (Touch.of_below (S := fun k => k = g) b3))
    have X3 := Lib.hid (X2.out.below b3 (by omega))
    obtain ⟨w4, hw4⟩ : ∃ w4, w3.alloc (.cells #[.func (.func 124) #[] #[], .func (.func 125) #[] #[], .func (.func 126) #[] #[]] 110) = w4 := ⟨_, rfl⟩
    have b4 : Below w3.heap.size w3 w4 := hw4 ▸ (Below.refl _ _).alloc (Nat.le_refl _) _
    have F4 := Lib.hid (show Box w4 w3.heap.size _ _ from hw4 ▸ heap_alloc_new _ _)
    have s4 : w3.heap.size ≤ w4.heap.size := b4.size
    have R4 := Lib.hid (R3.out.below b4 hB)
    have T4 := Lib.hid (T3.out.trans (Touch.of_below (S := fun k => k = g) b4))
    have X4 := Lib.hid (X3.out.below b4 (by omega))
    clear b3 b4
    have f2 := F4.out.cell 2
    simp at f2
    unfold formC
    go_wp2_with fail
    refine (readCell_any g B st1 w4 hB R4.out).mono ?_
    rintro e w5 ⟨A5, n5, c5, rfl, m5, rd, t⟩
    obtain ⟨nm, hnm⟩ : ∃ nm, nameOf (rCell st1).1 = nm := ⟨_, rfl⟩
    rw [hnm]
    have HNM := Lib.hid hnm
    clear hnm
    have R5 := Lib.hid rd
    have T5 := Lib.hid (T4.out.trans t)
    have X5 := Lib.hid (X4.out.touch t (by omega))
    have s5 := t.size
    have M5 := Lib.hid m5
    have MB := Lib.hid (fun b (hb : (Value.slice A5 n5 c5).ownBlock = some b) => (show w.heap.size < b ∧ b < w5.heap.size from ⟨by have := (World.ownsRow.lt m5.1 b hb).1; omega, (World.ownsRow.lt m5.1 b hb).2⟩))
    clear m5
    clear rd t f2 hw4
    obtain ⟨w6, hw6⟩ : ∃ w6, w5.alloc (.cells #[.int .i64 0, .int .i64 nm, .slice A5 n5 c5] 44) = w6 := ⟨_, rfl⟩
    have b6 : Below w5.heap.size w5 w6 := hw6 ▸ (Below.refl _ _).alloc (Nat.le_refl _) _
    have C6 := Lib.hid (show Box w6 w5.heap.size _ _ from hw6 ▸ heap_alloc_new _ _)
    have s6 : w5.heap.size < w6.heap.size := C6.out.lt
    have R6 := Lib.hid (R5.out.below b6 hB)
    have T6 := Lib.hid (T5.out.trans (Touch.of_below (S := fun k => k = g) b6))
    have X6 := Lib.hid (X5.out.below b6 (by omega))
    have M6 := Lib.hid (M5.out.below b6)
    obtain ⟨w7, hw7⟩ : ∃ w7, w6.setCell ⟨w5.heap.size, 0, none⟩ (.int .i64 kd) = w7 := ⟨_, rfl⟩
    have t7 : Touch (fun k => k = w5.heap.size) w6 w7 := hw7 ▸ touch_set _ _ _ _ rfl
    have C7 := Lib.hid (show Box w7 w5.heap.size _ #[.int .i64 kd, .int .i64 nm, .slice A5 n5 c5] from by have h := C6.out.set_ 0 (.int .i64 kd); rw [hw7] at h; simpa using h)
    have s7 := t7.size
    have R7 := Lib.hid (R6.out.touch t7 hB (fun k hk e => by omega))
    have T7 := Lib.hid (T6.out.grow t7 (fun k hk e => by omega))
    have X7 := Lib.hid (X6.out.touch t7 (by omega))
    have M7 := Lib.hid (M6.out.touch t7 (fun b hb e => by have := MB.out b hb; omega))
    have c60 := C6.out.cell 0
    have c6f := C6.out.free
    have c0 := C7.out.cell 0
    have c1 := C7.out.cell 1
    have c2 := C7.out.cell 2
    have p0 := X7.out.cell 0
    have p1 := X7.out.cell 1
    have p2 := X7.out.cell 2
    have f := X7.out.free
    simp at c60 c0 c1 c2 p0 p1 p2
    have hs := set3 X7.out (.int .i64 kd) (.int .i64 nm) (.slice A5 n5 c5)
    have HS := Lib.hid hs
    clear hs b6 t7
    go_wp2
    refine bodyPost_ret (v := .agg #[.int .i64 kd, .int .i64 nm, .slice A5 n5 c5]) (results_cell_row Try.results96 _ _ w.heap.size _ _ _ _ rfl HS.out.1 Try.underlying44 rfl (by kernel_rfl)) rfl ?_
    have T8 := HS.out.2
    refine ⟨⟨kd, nm, (rCell st1).1⟩, A5, n5, c5, rfl, by rw [ST.out]; simp only; rw [HK1.out, HNM.out], (M7.out.touch T8 (fun b hb e => by have := MB.out b hb; omega)).base (by omega), by rw [ST.out]; exact R7.out.touch T8 hB (fun k hk e => by omega), T7.out.grow T8 (fun k hk e => by omega)⟩

  by_cases hk : 2 ≤ kd ∧ kd ≤ 11
  · have ST := Lib.hid (show rChg st = (⟨kd, nm8 (rByt 8 st1).1, []⟩, (rByt 8 st1).2) from by rw [rChg_name (by rw [HKD.out]; exact hk1) (by rw [HKD.out]; exact hk), HKD.out])
    have FO := Lib.hid (formOf_name kd (by omega) (by omega))
    clear hk1
    go_wp2_with fail
    refine (FO.out w2).mono ?_
    rintro e w3 ⟨rfl, b3⟩
    have s3 := b3.size
    have R3 := Lib.hid (R2.out.below b3 hB)
    have T3 := Lib.hid (T2.out.trans (Touch.of_below (S := fun k => k = g) b3))
    have X3 := Lib.hid (X2.out.below b3 (by omega))
    obtain ⟨w4, hw4⟩ : ∃ w4, w3.alloc (.cells #[.func (.func 121) #[] #[], .func (.func 122) #[] #[], .func (.func 123) #[] #[]] 110) = w4 := ⟨_, rfl⟩
    have b4 : Below w3.heap.size w3 w4 := hw4 ▸ (Below.refl _ _).alloc (Nat.le_refl _) _
    have F4 := Lib.hid (show Box w4 w3.heap.size _ _ from hw4 ▸ heap_alloc_new _ _)
    have s4 : w3.heap.size ≤ w4.heap.size := b4.size
    have R4 := Lib.hid (R3.out.below b4 hB)
    have T4 := Lib.hid (T3.out.trans (Touch.of_below (S := fun k => k = g) b4))
    have X4 := Lib.hid (X3.out.below b4 (by omega))
    clear b3 b4
    have f2 := F4.out.cell 2
    simp at f2
    unfold formN
    go_wp2_with fail
    refine (readNamed_any g B st1 w4 hB R4.out).mono ?_
    rintro e w5 ⟨A5, n5, c5, rfl, m5, rd, t⟩
    obtain ⟨nm, hnm⟩ : ∃ nm, nm8 (rByt 8 st1).1 = nm := ⟨_, rfl⟩
    rw [hnm]
    have HNM := Lib.hid hnm
    clear hnm
    have R5 := Lib.hid rd
    have T5 := Lib.hid (T4.out.trans t)
    have X5 := Lib.hid (X4.out.touch t (by omega))
    have s5 := t.size
    have M5 := Lib.hid m5
    have MB := Lib.hid (fun b (hb : (Value.slice A5 n5 c5).ownBlock = some b) => (show w.heap.size < b ∧ b < w5.heap.size from ⟨by have := (World.ownsRow.lt m5.1 b hb).1; omega, (World.ownsRow.lt m5.1 b hb).2⟩))
    clear m5
    clear rd t f2 hw4
    obtain ⟨w6, hw6⟩ : ∃ w6, w5.alloc (.cells #[.int .i64 0, .int .i64 nm, .slice A5 n5 c5] 44) = w6 := ⟨_, rfl⟩
    have b6 : Below w5.heap.size w5 w6 := hw6 ▸ (Below.refl _ _).alloc (Nat.le_refl _) _
    have C6 := Lib.hid (show Box w6 w5.heap.size _ _ from hw6 ▸ heap_alloc_new _ _)
    have s6 : w5.heap.size < w6.heap.size := C6.out.lt
    have R6 := Lib.hid (R5.out.below b6 hB)
    have T6 := Lib.hid (T5.out.trans (Touch.of_below (S := fun k => k = g) b6))
    have X6 := Lib.hid (X5.out.below b6 (by omega))
    have M6 := Lib.hid (M5.out.below b6)
    obtain ⟨w7, hw7⟩ : ∃ w7, w6.setCell ⟨w5.heap.size, 0, none⟩ (.int .i64 kd) = w7 := ⟨_, rfl⟩
    have t7 : Touch (fun k => k = w5.heap.size) w6 w7 := hw7 ▸ touch_set _ _ _ _ rfl
    have C7 := Lib.hid (show Box w7 w5.heap.size _ #[.int .i64 kd, .int .i64 nm, .slice A5 n5 c5] from by have h := C6.out.set_ 0 (.int .i64 kd); rw [hw7] at h; simpa using h)
    have s7 := t7.size
    have R7 := Lib.hid (R6.out.touch t7 hB (fun k hk e => by omega))
    have T7 := Lib.hid (T6.out.grow t7 (fun k hk e => by omega))
    have X7 := Lib.hid (X6.out.touch t7 (by omega))
    have M7 := Lib.hid (M6.out.touch t7 (fun b hb e => by have := MB.out b hb; omega))
    have c60 := C6.out.cell 0
    have c6f := C6.out.free
    have c0 := C7.out.cell 0
    have c1 := C7.out.cell 1
    have c2 := C7.out.cell 2
    have p0 := X7.out.cell 0
    have p1 := X7.out.cell 1
    have p2 := X7.out.cell 2
    have f := X7.out.free
    simp at c60 c0 c1 c2 p0 p1 p2
    have hs := set3 X7.out (.int .i64 kd) (.int .i64 nm) (.slice A5 n5 c5)
    have HS := Lib.hid hs
    clear hs b6 t7
    go_wp2
    refine bodyPost_ret (v := .agg #[.int .i64 kd, .int .i64 nm, .slice A5 n5 c5]) (results_cell_row Try.results96 _ _ w.heap.size _ _ _ _ rfl HS.out.1 Try.underlying44 rfl (by kernel_rfl)) rfl ?_
    have T8 := HS.out.2
    refine ⟨⟨kd, nm, []⟩, A5, n5, c5, rfl, by rw [ST.out]; simp only; rw [HNM.out], (M7.out.touch T8 (fun b hb e => by have := MB.out b hb; omega)).base (by omega), by rw [ST.out]; exact R7.out.touch T8 hB (fun k hk e => by omega), T7.out.grow T8 (fun k hk e => by omega)⟩

  · have ST := Lib.hid (show rChg st = (⟨0, 0, []⟩, st1) from by rw [rChg_none (by rw [HKD.out]; exact hk1) (by rw [HKD.out]; exact hk), HKD.out])
    have FO := Lib.hid (formOf_no kd (by omega))
    clear hk hk1
    go_wp2_with fail
    refine (FO.out w2).mono ?_
    rintro e w3 ⟨rfl, b3⟩
    have s3 := b3.size
    have R3 := Lib.hid (R2.out.below b3 hB)
    have T3 := Lib.hid (T2.out.trans (Touch.of_below (S := fun k => k = g) b3))
    have X3 := Lib.hid (X2.out.below b3 (by omega))
    have hlt3 : w.heap.size < w3.heap.size := X3.out.lt
    clear b3
    have p0 := X3.out.cell 0
    have p1 := X3.out.cell 1
    have p2 := X3.out.cell 2
    have f := X3.out.free
    simp at p0 p1 p2
    obtain ⟨h1, h2⟩ := set3 X3.out (.int .i64 0) (.int .i64 0) (.slice none 0 0)
    have bL := (Below.refl _ _).alloc (Nat.le_refl _) (.cells #[.nilFunc, .nilFunc, .nilFunc] 110) (w := ((w3.setCell ⟨w.heap.size, 0, none⟩ (.int .i64 0)).setCell ⟨w.heap.size, 1, none⟩ (.int .i64 0)).setCell ⟨w.heap.size, 2, none⟩ (.slice none 0 0))
    have HX := Lib.hid (h1.below bL h1.lt)
    have HR := Lib.hid ((R3.out.touch h2 hB (fun k hk e => by omega)).below bL hB)
    have HT := Lib.hid ((T3.out.grow h2 (fun k hk e => by omega)).trans (Touch.of_below (S := fun k => k = g) bL))
    clear h1 h2 bL
    unfold form0
    go_wp2
    refine bodyPost_ret (v := .agg #[.int .i64 0, .int .i64 0, .slice none 0 0]) (results_cell_row Try.results96 _ _ w.heap.size _ _ _ _ rfl HX.out Try.underlying44 rfl (by kernel_rfl)) rfl ?_
    exact ⟨⟨0, 0, []⟩, none, 0, 0, rfl, by rw [ST.out], Mine.nil _ _, by rw [ST.out]; exact HR.out, HT.out⟩
end Go.Proofs.Ytebfinedkjlbbaa

-- ChgY: The program's ChangesFrom: for all bytes.
namespace Go.Proofs.Ytebfinedkjlbbaa
set_option maxRecDepth 100000
set_option linter.unusedVariables false
set_option linter.unusedSimpArgs false
open Go.RowKit

/-- where the reading is, when some changes have been read. -/
def Way (bs : List Int) (cn q : Nat) (done : List MChg) (st : Option (List Int)) : Prop :=
  (2 ≤ bs.length ∧ ofTwo bs 0 = cn ∧ ∃ j, j ≤ bs.length ∧ st = some (bs.drop j) ∧ manyAt bs cn 2 = putMany done (manyAt bs (cn - q) j)) ∨ (bs.length < 2 ∧ cn = 0 ∧ st = none)
theorem Way.start {bs : List Int} (h : Bs (some bs)) : Way bs (rCount (some bs)).1 0 [] (rCount (some bs)).2 := by
  by_cases h2 : 2 ≤ bs.length
  · rw [rCount_yes bs h2]
    exact .inl ⟨h2, rfl, 2, h2, rfl, (putMany_nil _).symm⟩
  · rw [rCount_no bs h2]
    exact .inr ⟨by omega, rfl, rfl⟩
theorem Way.few {bs : List Int} {cn q : Nat} {done : List MChg} {st : Option (List Int)} (h : Way bs cn q done st) (hc : 200 < cn) : fromAll bs = none := by
  rcases h with ⟨_, h, _⟩ | ⟨_, h, _⟩
  · exact if_pos (.inr (by omega))
  · omega
theorem Way.next {bs : List Int} {cn q : Nat} {done : List MChg} {st : Option (List Int)} (h : Way bs cn q done st) (hq : q < cn) (hc : cn ≤ 200) :
    (ChgOk (rChg st).1 → Way bs cn (q + 1) (done ++ [(rChg st).1]) (rChg st).2) ∧ (¬ ChgOk (rChg st).1 → fromAll bs = none) := by
  rcases h with ⟨h2, hcn, j, hj, rfl, hm⟩ | ⟨_, h, _⟩
  · obtain ⟨k, hk⟩ : ∃ k, cn - q = k + 1 := ⟨cn - q - 1, by omega⟩
    have hk' : cn - (q + 1) = k := by omega
    rw [hk] at hm
    rcases rChg_at bs j hj with ⟨x, e, h1, h3, h4, h5⟩ | ⟨h1, h3⟩
    · rw [h3]
      refine ⟨fun _ => .inl ⟨h2, hcn, e, h5, rfl, ?_⟩, fun h => absurd h4 h⟩
      rw [hm, hk', putMany_step bs done k j e x h1]
    · refine ⟨fun h => absurd h h3, fun _ => ?_⟩
      unfold fromAll
      rw [if_neg (by omega), hcn, hm, putMany_stop bs done k j h1]
  · omega
theorem Way.last {bs : List Int} {cn : Nat} {done : List MChg} {st : Option (List Int)} (h : Way bs cn cn done st) (hc : cn ≤ 200) :
    (st = some [] → fromAll bs = some done) ∧ (¬ st = some [] → fromAll bs = none) := by
  rcases h with ⟨h2, hcn, j, hj, rfl, hm⟩ | ⟨h2, _, rfl⟩
  · rw [Nat.sub_self] at hm
    simp only [manyAt, putMany, List.append_nil] at hm
    have hf : fromAll bs = if j = bs.length then some done else none := by
      unfold fromAll
      rw [if_neg (by omega), hcn, hm]
    constructor
    · intro h
      injection h with h
      have : j = bs.length := by
        have h3 := List.drop_eq_nil_iff.1 h
        omega
      rw [hf, if_pos this]
    · intro h
      rw [hf, if_neg (fun e => h (by rw [e, List.drop_length]))]
  · exact ⟨fun h => (by cases h), fun _ => if_pos (.inl h2)⟩

theorem rChg_len {st : Option (List Int)} (h : Bs st) : (rChg st).1.bytes.length ≤ 65535 := by
  by_cases h1 : (rNum st).1 = 1
  · rw [rChg_one h1]
    have h2 := rCount_le (rNum_bs h).1
    have h3 := rByt_len (st := (rCount (rNum st).2).2) (rCount (rNum st).2).1
    show (rByt _ _).1.length ≤ 65535
    omega
  · by_cases h2 : 2 ≤ (rNum st).1 ∧ (rNum st).1 ≤ 11
    · rw [rChg_name h1 h2]; simp
    · rw [rChg_none h1 h2]; simp
set_option maxHeartbeats 4000000 in
theorem implChangesFrom_any (A : Option Addr) (n c : Nat) (bs : List Int) (B : Nat) (w : World) (hn : n ≤ 1048576) (hcap : n ≤ c) (hA : A = none → c = 0) (hB : B ≤ w.heap.size) (hb : Byts w B A n bs) :
    Calls Try.prog 43 #[.slice A n c] w (GaveFrom bs w) := by
  have hlen := hb.1
  have hfail := Lib.hid (fun (W : World) (hW : Below w.heap.size w W) (hno : fromAll bs = none) => (show GaveFrom bs w (.returned (.tuple #[.slice none 0 0, .bool false])) W from
    ⟨_, 0, 0, [], false, rfl, .inr ⟨hno, rfl, rfl⟩, OwnCh.nil _ _ _, hW⟩))
  obtain ⟨i0, hi, hz0, hz1, hz2⟩ := info_parts Try.infoCh
  have HI := Lib.hid hi
  have HZ0 := Lib.hid hz0
  have HZ1 := Lib.hid hz1
  have HZ2 := Lib.hid hz2
  clear hi hz0 hz1 hz2
  obtain ⟨g, hg⟩ : ∃ g, w.heap.size = g := ⟨_, rfl⟩
  obtain ⟨w1, hw1⟩ : ∃ w1, w.alloc (.cells #[.slice A n c, .bool false] 82) = w1 := ⟨_, rfl⟩
  have b1 : Below g w w1 := hw1 ▸ hg ▸ (Below.refl _ _).alloc (Nat.le_refl _) _
  have x1 : Box w1 g 82 #[.slice A n c, .bool false] := hw1 ▸ hg ▸ heap_alloc_new _ _
  have r1 := rd_new (B := g) x1 hcap hn hA ((hb.more (by omega)).below b1)
  have hway := Way.start r1.bs
  have s1 : w1.heap.size = g + 1 := hw1 ▸ (by simp [hg])
  obtain ⟨cn, st2, hcn⟩ : ∃ cn st2, rCount (some bs) = (cn, st2) := ⟨_, _, rfl⟩
  rw [hcn] at hway
  simp only at hway
  have hcle := rCount_le r1.bs
  rw [hcn] at hcle
  simp only at hcle
  have HCN := Lib.hid hcn
  have WAY := Lib.hid hway
  have R1 := Lib.hid r1
  have B1 := Lib.hid b1
  have HG := Lib.hid hg
  have HW1 := Lib.hid hw1
  clear hb b1 x1 r1 hway hcn hw1
  go_enter Try.func43, Try.ntmps43
  go_wp2_with fail
  rw [HW1.out]
  refine (rcount_any g g (some bs) w1 (Nat.le_refl _) R1.out).mono ?_
  rintro e w2 ⟨rfl, rd, t, sz⟩
  rw [HCN.out] at rd ⊢
  simp only at rd ⊢
  have R2 := Lib.hid rd
  have B2 := Lib.hid (B1.out.trans (t.below (by omega) (fun k hk e => by omega)))
  have s2 : w2.heap.size = g + 1 := by omega
  clear rd t hg
  by_cases hbig : 200 < cn
  · have hd : decide ((200 : Int) < (cn : Int)) = true := decide_eq_true (by omega)
    have HE := Lib.hid (hfail.out w2 (HG.out ▸ B2.out) (WAY.out.few hbig))
    go_wp2
    go_ret2
    exact HE.out
  have hd : decide ((200 : Int) < (cn : Int)) = false := decide_eq_false (by omega)
  go_wp2
  go_loopw [6, 14] (fun s i wr => ∃ (q co : Nat) (Al : Option Addr) (done : List MChg) (st : Option (List Int)), q ≤ cn ∧ i = .int .i64 q ∧ s = .slice Al q co ∧ OwnCh wr (g + 1) wr.heap.size Al q co done ∧ Below g w wr ∧ Rd wr g g st ∧ Way bs cn q done st) (fun _ i _ => cn - (intOf i).toNat)
  case atStart => exact ⟨0, 0, none, [], st2, Nat.zero_le _, rfl, rfl, OwnCh.nil _ _ _, B2.out, R2.out, WAY.out⟩
  case round =>
    obtain ⟨q, co, Al, done, st, hq, rfl, rfl, oq, hbel, hrd, hway⟩ := hrel
    have OQ := Lib.hid oq
    have BR := Lib.hid hbel
    have RR := Lib.hid hrd
    have WR := Lib.hid hway
    have hsr : g < wr.heap.size := hrd.lt
    clear oq hbel hrd hway
    by_cases hlt : q < cn
    · have hnx := WR.out.next hlt (by omega)
      have NX := Lib.hid hnx
      clear hnx
      go_wp2_with fail
      refine (nextChange_any g g st wr (Nat.le_refl _) RR.out).mono ?_
      rintro e w4 ⟨x, A4, n4, c4, rfl, hx, m4, rd4, t4⟩
      have hxl := rChg_len RR.out.bs
      rw [← hx] at NX hxl
      have hml := m4.len
      have s4 := t4.size
      have B4 := Lib.hid (BR.out.trans (t4.below (by omega) (fun k hk e => by omega)))
      have O4 := Lib.hid (OQ.out.touch t4 (fun b h1 h2 e => by omega))
      have R4 := Lib.hid rd4
      have M4 := Lib.hid m4
      clear hx m4 rd4 t4
      obtain ⟨w5, hw5⟩ : ∃ w5, w4.alloc (.cells #[.int .i64 x.kind, .int .i64 x.name, .slice A4 n4 c4] 44) = w5 := ⟨_, rfl⟩
      have b5 : Below w4.heap.size w4 w5 := hw5 ▸ (Below.refl _ _).alloc (Nat.le_refl _) _
      have X5 := Lib.hid (show Box w5 w4.heap.size _ _ from hw5 ▸ heap_alloc_new _ _)
      have B5 := Lib.hid (B4.out.trans (b5.mono (by omega)))
      have O5 := Lib.hid (O4.out.below (b5.mono s4))
      have R5 := Lib.hid (R4.out.below b5 (Nat.le_refl _))
      have M5 := Lib.hid (M4.out.below b5)
      have s5 : w4.heap.size < w5.heap.size := X5.out.lt
      have p0 := X5.out.cell 0
      have p1 := X5.out.cell 1
      have p2 := X5.out.cell 2
      simp at p0 p1 p2
      have hl4 : n4 ≤ 1048576 := by omega
      clear b5
      go_wp2_with fail
      refine (implChangeOk_any x A4 n4 c4 _ w5 hl4 (mine_cap M5.out) (mine_none M5.out) (Nat.le_refl _) M5.out.byts).mono ?_
      rintro e w6 ⟨r, rfl, hr, b6⟩
      have B6 := Lib.hid (B5.out.trans (b6.mono (by omega)))
      have O6 := Lib.hid (O5.out.below (b6.mono (by omega)))
      have R6 := Lib.hid (R5.out.below b6 (Nat.le_refl _))
      have M6 := Lib.hid (M5.out.below b6)
      have X6 := Lib.hid (X5.out.below b6 s5)
      have s6 : w5.heap.size ≤ w6.heap.size := b6.size
      have HR := Lib.hid hr
      clear hr b6 p0 p1 p2 hw5
      cases r with
      | false =>
        have HE := Lib.hid (hfail.out w6 (HG.out ▸ B6.out) (NX.out.2 (fun h => absurd (HR.out.2 h) (by simp))))
        go_wp2
        go_ret2
        exact HE.out
      | true =>
        have WN := Lib.hid (NX.out.1 (HR.out.1 rfl))
        have p0 := X6.out.cell 0
        have p1 := X6.out.cell 1
        have p2 := X6.out.cell 2
        simp at p0 p1 p2
        have ba : Below w6.heap.size w6 (w6.alloc (.cells #[.int .i64 x.kind, .int .i64 x.name, .slice A4 n4 c4] 44)) := (Below.refl _ _).alloc (Nat.le_refl _) _
        obtain ⟨hl, hu, sl, hrow, hsub⟩ := O6.out.below (ba.mono (by omega))
        have mx := (M6.out.below ba).base (base' := g + 1) (by omega)
        have hxb : ∀ b, (Value.slice A4 n4 c4).ownBlock = some b → wr.heap.size ≤ b := fun b hb => (M6.out.1.lt b hb).1
        have R7 := Lib.hid (R6.out.below ba (Nat.le_refl _))
        have B7 := Lib.hid (B6.out.trans (ba.mono (by omega)))
        have hhi : wr.heap.size ≤ (w6.alloc (.cells #[.int .i64 x.kind, .int .i64 x.name, .slice A4 n4 c4] 44)).heap.size := by simp; omega
        go_wp2_with (at_builtin; go_loud (refine wpList_append_lies _ rfl _ _ 52 rfl (g + 1) 44 i0 (.agg #[.int .i64 0, .int .i64 0, .slice none 0 0]) 3 40 Try.underlying52 HI.out HZ0.out HZ1.out HZ2.out rfl (by decide) (.slice Al q co) q (hvs q done sl) (by simp [Act.eval]) hrow ⟨w6.heap.size, 0, none⟩ 1 1 [.int .i64 x.kind, .int .i64 x.name, .slice A4 n4 c4] (by simp [Act.eval]) rfl (by intro j u hj; match j, hj with | 0, hj => (simp at hj; subst hj; simp [Addr.add]) | 1, hj => (simp at hj; subst hj; simp [Addr.add]) | 2, hj => (simp at hj; subst hj; simp [Addr.add])) (by intro u hu; simp at hu; rcases hu with rfl | rfl | rfl <;> rfl) (by omega) (by unfold maxLen; omega) (by omega) (by simp; omega) _ rfl ?_))
        intro g8 c8 w8 hown8 hgrow8 hwh8 hlt8
        have h8 := OwnCh.pushed (x := x) hl hu hsub mx hxb hown8 hgrow8 (hwh8.elim .inl (fun h => .inr (by simp; omega))) hhi (Nat.le_refl _)
        have H8 := Lib.hid h8
        have hro : ∀ b, (Value.slice Al q co).ownBlock = some b → g + 1 ≤ b := fun b hb => (World.ownsRow.lt hrow b hb).1
        have B8 := Lib.hid (B7.out.grown hgrow8 (by simp; omega) (fun b hb => by have := hro b hb; omega))
        have R8 := Lib.hid (R7.out.touch (Touch.of_grown hgrow8) (Nat.le_refl _) (fun k hk e => by have := hro k e.symm; omega))
        clear hown8 hgrow8 hwh8 h8 hrow hsub mx hxb hu hl ba hro p0 p1 p2
        go_wp2
        go_roundw
        case rel => exact ⟨q + 1, c8, _, done ++ [x], _, by omega, by go_num, rfl, H8.out, B8.out, R8.out, by have h := WN.out; exact h⟩
        case measure => simp [intOf]; omega
    · obtain rfl : q = cn := by omega
      have hla := WR.out.last (by omega)
      obtain ⟨Ar, nr, cr, sh, hx, _, _, _, yr, hsh, _⟩ := RR.out
      have p0 := hx.cell 0
      have p1 := hx.cell 1
      simp at p0 p1
      have hyl := yr.1
      clear hx yr
      have O9 := Lib.hid (OQ.out.base (lo' := g) (by omega))
      rcases st with _ | ys
      · obtain rfl : sh = true := hsh
        have HE := Lib.hid (hfail.out wr (HG.out ▸ BR.out) (hla.2 (by simp)))
        clear hla
        go_wp2
        go_ret2
        exact HE.out
      · obtain rfl : sh = false := hsh
        simp only [Option.getD_some] at hyl
        by_cases hys : ys = []
        · subst hys
          obtain rfl : nr = 0 := hyl.symm
          have HF := Lib.hid (hla.1 rfl)
          clear hla
          go_wp2
          go_ret2
          exact ⟨_, q, co, done, true, rfl, .inl ⟨HF.out, rfl⟩, HG.out ▸ O9.out, HG.out ▸ BR.out⟩
        · have HE := Lib.hid (hfail.out wr (HG.out ▸ BR.out) (hla.2 (fun h => hys (by cases h; rfl))))
          have hpos : 0 < nr := by
            rcases ys with _ | ⟨y, r⟩
            · exact absurd rfl hys
            · simp at hyl; omega
          have hdp : decide ((0 : Int) < (nr : Int)) = true := decide_eq_true (by omega)
          clear hla hys
          go_wp2
          go_ret2
          exact HE.out
end Go.Proofs.Ytebfinedkjlbbaa

-- NodeY: The bytes of a node, as the program writes them: a row of the call's own.
namespace Go.Proofs.Ytebfinedkjlbbaa
set_option maxRecDepth 20000
set_option linter.unusedSimpArgs false
open Go.RowKit

theorem kidsOk_mem' (ks : List (Int × Int)) {kind path val} (h : nodeOk ⟨kind, path, ks, val⟩ = true) (k : Int × Int) (hk : k ∈ ks) : 1 ≤ k.2 := by
  unfold nodeOk at h
  simp only [Bool.and_eq_true] at h
  have h2 := h.1.1.2
  unfold kidsOk at h2
  obtain ⟨i, hi, rfl⟩ := List.getElem_of_mem hk
  have := (of_decide_eq_true h2 i hi).2.1
  rw [List.getElem?_eq_getElem hi] at this
  exact this

theorem shown_any (k : Int) (w : World) :
    Calls Try.prog 72 #[.int .i64 k] w fun e w' => e = .returned (.int .u8 (k % 256)) ∧ w' = w := by
  go_enter Try.func72, Try.ntmps72
  go_wp2
  go_ret
  exact ⟨rfl, rfl⟩

theorem strCells_sb (s : ByteArray) : Lib.strCells s = (sb s).map (Value.int .u8) := by
  apply List.ext_getElem?
  intro i
  by_cases h : i < s.size
  · have e := sb_at s i h
    have hl : i < (sb s).length := by rw [sb_len]; exact h
    have h2 : i < s.data.size := h
    rw [List.getElem?_eq_getElem hl] at e
    simp [Lib.strCells, hl, h2]
    simp at e
    rw [e]
    exact ⟨_, Array.getElem?_eq_getElem h2, rfl⟩
  · rw [List.getElem?_eq_none (by rw [Lib.strCells_length]; omega), List.getElem?_eq_none (by rw [List.length_map, sb_len]; omega)]

theorem bytes_some (x : Int) (hx : 0 ≤ x) (w : World) :
    Calls Try.prog 73 #[.int .i64 x] w fun e w' => ∃ g n c, e = .returned (.slice (some ⟨g, 0, none⟩) n c) ∧ Mine w' w.heap.size (some ⟨g, 0, none⟩) n c (nameBytes x) ∧ Below w.heap.size w w' := by
  refine (bytes_any x w).mono ?_
  rintro e w' ⟨A, n, c, rfl, hm, hb⟩
  have hl := hm.len
  rw [nameBytes_yes x (by omega), nb_len] at hl
  obtain ⟨g, rfl, _⟩ := hm.form (by omega)
  exact ⟨g, n, c, rfl, hm, hb⟩

set_option maxHeartbeats 2000000 in      -- one walk, two loops and three appends between them
theorem implNodeBytes_any (v : Value) (nd : MNode) (B : Nat) (w : World) (hB : B ≤ w.heap.size) (hv : NodeIn w B v nd) :
    Calls Try.prog 20 #[v] w fun e w' => ∃ A n c, e = .returned (.slice A n c) ∧ Mine w' w.heap.size A n c (nodeBytes nd) ∧ Below w.heap.size w w' := by
  have HV := Lib.hid (hv.more hB)
  obtain ⟨Ap, np, cp, Ak, nk, ck, rfl, hnp, hnk, hsz, hp, hk⟩ := hv
  obtain ⟨kind, path, kids, val⟩ := nd
  have HP := Lib.hid (hp.more hB)
  have HK := Lib.hid (hk.more hB)
  have LP : Hid (path.length = np) := HP.out.1
  have LK : Hid (kids.length = nk) := HK.out.1
  clear hp hk
  obtain ⟨wa, hwa⟩ : ∃ wa, w.alloc (.cells #[.int .i64 kind, .slice Ap np cp, .slice Ak nk ck, .string val] 26) = wa := ⟨_, rfl⟩
  have xa : Box wa w.heap.size _ _ := hwa ▸ heap_alloc_new _ _
  have ba : Below w.heap.size w wa := hwa ▸ (Below.refl _ _).alloc (Nat.le_refl _) _
  have sa : w.heap.size < wa.heap.size := hwa ▸ by simp
  have XA := Lib.hid xa
  have BA := Lib.hid ba
  have HW := Lib.hid hwa
  clear xa ba hwa
  go_enter Try.func20, Try.ntmps20
  go_wp2_with fail
  rw [HW.out]
  refine (progNodeOk_any _ ⟨kind, path, kids, val⟩ _ wa (by omega) (HV.out.below BA.out)).mono ?_
  rintro e wb ⟨rfl, bb⟩
  have XB := Lib.hid (XA.out.below bb sa)
  have BB := Lib.hid (BA.out.trans (bb.mono (by omega)))
  have sb0 : w.heap.size < wb.heap.size := by have := bb.size; omega
  clear bb
  by_cases hok : nodeOk ⟨kind, path, kids, val⟩ = true
  · have hr := Lib.hid (show nodeBytes ⟨kind, path, kids, val⟩ = rawBytes ⟨kind, path, kids, val⟩ from if_pos hok)
    have HKM := Lib.hid (fun k (hk : k ∈ kids) => kidsOk_mem' kids hok k hk)
    rw [hok]
    have q0 := XB.out.cell 0
    have q1 := XB.out.cell 1
    have q2 := XB.out.cell 2
    have q3 := XB.out.cell 3
    simp at q0 q1 q2 q3
    obtain ⟨i0, hi, hz0, hz1, hz2⟩ := info_parts Try.info5
    have HI := Lib.hid hi
    have HZ0 := Lib.hid hz0
    have HZ1 := Lib.hid hz1
    have HZ2 := Lib.hid hz2
    clear hi hz0 hz1 hz2
    go_wp2
    refine wp_region_still_tail 7 (by kernel_rfl) (by kernel_rfl) ?_
    simp only [List.take_succ_cons, List.take_zero, List.drop_succ_cons, List.drop_zero]
    still_step
    still_step
    still_call (shown_any kind _)
    repeat still_step
    refine wpStill_nil ?_
    change wpList _ _ _ _ _ wb.drew
    have x1 : Box wb.drew w.heap.size _ _ := XB.out.below ((Below.refl wb.heap.size wb).drew) XB.out.lt
    have b1 : Below w.heap.size w wb.drew := BB.out.drew
    have s1 : wb.drew.heap.size = wb.heap.size := rfl
    obtain ⟨w1, hw1⟩ : ∃ w1, wb.drew = w1 := ⟨_, rfl⟩
    rw [hw1] at x1 b1 s1 ⊢
    obtain ⟨z, hz⟩ : ∃ z, w1.heap.size = z := ⟨_, rfl⟩
    have hzw : w.heap.size < z := by omega
    have X1 := Lib.hid x1
    have B1 := Lib.hid b1
    clear x1 b1 hw1 q0 q1 q2 q3 s1
    have m0 := Mine.of_alloc w1 z [kind % 256, (np : Int) % 256] 2 (by omega) rfl (by unfold maxLen; omega) (by intro z hz; simp at hz; omega)
    rw [hz] at m0
    have M0 := Lib.hid m0
    clear m0
    have X0 := Lib.hid (X1.out.below ((Below.refl w1.heap.size w1).alloc (Nat.le_refl _) (.cells #[.int .u8 (kind % 256), .int .u8 ((np : Int) % 256)] 5)) X1.out.lt)
    have q1 := X0.out.cell 1
    simp at q1
    go_wp2
    clear q1
    go_loopw [3, 22] (fun b i wr => ∃ k g n c : Nat, k ≤ np ∧ i = .int .i64 k ∧ b = .slice (some ⟨g, 0, none⟩) n c ∧ Mine wr z (some ⟨g, 0, none⟩) n c ([kind % 256, (np : Int) % 256] ++ (path.take k).map (· % 256)) ∧ Below z w1 wr) (fun _ i _ => np - (intOf i).toNat)
    case atStart => exact ⟨0, _, 2, 2, Nat.zero_le _, rfl, rfl, M0.out, (Below.refl _ _).alloc (by omega) _⟩
    case round =>
      obtain ⟨k, g, n, c, hk, rfl, rfl, hm, hbr⟩ := hrel
      have hlen := hm.len
      have XR := Lib.hid (X1.out.below hbr (by omega))
      have BR := Lib.hid hbr
      have BW := Lib.hid (B1.out.trans (hbr.mono (by omega)))
      have MR := Lib.hid hm
      clear hm hbr
      have sr := BR.out.size
      by_cases hlt : k < np
      · have hn : n = 2 + k := by
          have := LP.out
          simp at hlen; omega
        obtain ⟨b, off, rfl, hbB, hc⟩ := (HP.out.below BW.out).at_ hlt
        have hst := map_take_step (· % 256) path k (by rw [LP.out]; exact hlt)
        generalize path[k]?.getD 0 = y at hc hst
        have HST := Lib.hid hst
        clear hst
        go_wp2_with (at_builtin; refine wpList_append_lies _ rfl _ _ 22 rfl z 5 i0 (.int .u8 0) 1 1 Try.underlying22 HI.out HZ0.out HZ1.out HZ2.out rfl (by decide) _ _ _ rfl (MR.out.1.alloc _) ⟨wr.heap.size, 0, none⟩ 1 1 ([y % 256].map (Value.int .u8)) rfl ?a0 ?a1 ?a2 (by omega) ?a3 ?a4 ?a5 _ rfl ?_)
        case a0 => first | rfl | (simp; done) | simp [sb_len]
        case a1 =>
          intro j u hj
          match j, hj with
          | 0, hj => simp at hj; subst hj; simp [Addr.add]
        case a2 => intro u hu; obtain ⟨z, _, rfl⟩ := List.mem_map.1 hu; rfl
        case a3 => unfold maxLen; omega
        case a4 => omega
        case a5 => simp; omega
        intro g2 c2 w2 hown2 hgrow2 _ _
        have hm2 := MR.out.app (ys := [y % 256]) (by intro y hy; simp at hy; omega) (by simpa using hown2)
        have hb2 : Below z w1 w2 := (BR.out.alloc (by omega) _).grown hgrow2 (by simp; omega) (fun g hg => (MR.out.1.lt g hg).1)
        rw [List.append_assoc, ← HST.out] at hm2
        have M2 := Lib.hid hm2
        have B2 := Lib.hid hb2
        clear hm2 hb2 hown2 hgrow2
        go_wp2
        go_roundw
        case rel => exact ⟨k + 1, _, _, _, by omega, by go_num, rfl, M2.out, B2.out⟩
        case measure => simp [intOf]; omega
      · have hpt : path.take k = path := List.take_of_length_le (by rw [LP.out]; omega)
        rw [hpt] at MR
        have hn : n = 2 + np := by
          have h0 := MR.out.len
          have := LP.out
          simp at h0; omega
        have q3 := XR.out.cell 3
        simp at q3
        go_wp2_with (at_builtin; refine wpList_append_lies _ rfl _ _ 22 rfl z 5 i0 (.int .u8 0) 1 1 Try.underlying22 HI.out HZ0.out HZ1.out HZ2.out rfl (by decide) _ _ _ rfl (MR.out.1.alloc _) ⟨wr.heap.size, 0, none⟩ 1 1 ([(val.size : Int) % 256].map (Value.int .u8)) rfl ?d0 ?d1 ?d2 (by omega) ?d3 ?d4 ?d5 _ rfl ?_)
        case d0 => first | rfl | (simp; done) | simp [sb_len]
        case d1 =>
          intro j u hj
          match j, hj with
          | 0, hj => simp at hj; subst hj; simp [Addr.add]
        case d2 => intro u hu; obtain ⟨z, _, rfl⟩ := List.mem_map.1 hu; rfl
        case d3 => unfold maxLen; omega
        case d4 => omega
        case d5 => simp; omega
        intro g5 c5 w5 hown5 hgrow5 _ _
        have hm5 := MR.out.app (ys := [(val.size : Int) % 256]) (by intro y hy; simp at hy; omega) (by simpa using hown5)
        have hb5 : Below z w1 w5 := (BR.out.alloc (by omega) _).grown hgrow5 (by simp; omega) (fun g hg => (MR.out.1.lt g hg).1)
        have M5 := Lib.hid hm5
        have B5 := Lib.hid hb5
        clear hm5 hb5 hown5 hgrow5 q3
        have s5 := B5.out.size
        have X5 := Lib.hid (X1.out.below B5.out (by omega))
        have q3 := X5.out.cell 3
        simp at q3
        go_wp2_with (at_builtin; refine Lib.wpList_append_own_string _ rfl _ _ 22 9 rfl z 5 i0 Try.underlying22 Try.underlying9 HI.out HZ0.out HZ1.out HZ2.out _ _ _ rfl M5.out.1 val rfl ?e3 ?e4 ?e5 ?_)
        case e3 => unfold maxLen; omega
        case e4 => omega
        case e5 => omega
        intro v7 w7 hown7 hgrow7 hnil7
        rw [strCells_sb] at hown7
        have hv : ∃ g c, v7 = .slice (some ⟨g, 0, none⟩) (2 + np + 1 + val.size) c := by
          have h0 : v7 ≠ .slice none 0 0 := by simpa using hnil7
          rcases hown7.2 with ⟨e, _⟩ | ⟨g, cap, cur, e, _⟩
          · exact absurd e h0
          · exact ⟨g, cap, e⟩
        obtain ⟨g7, c7, rfl⟩ := hv
        have hm7 := M5.out.app (ys := sb val) (sb_bd val) (by simpa using hown7)
        have hb7 : Below z w1 w7 := B5.out.grown hgrow7 (by omega) (fun g hg => (M5.out.1.lt g hg).1)
        have M7 := Lib.hid hm7
        have B7 := Lib.hid hb7
        clear hm7 hb7 hown7 hgrow7 hnil7 q3
        have s7 := B7.out.size
        have X7 := Lib.hid (X1.out.below B7.out (by omega))
        have q2 := X7.out.cell 2
        simp at q2
        go_wp2_with (at_builtin; refine wpList_append_lies _ rfl _ _ 22 rfl z 5 i0 (.int .u8 0) 1 1 Try.underlying22 HI.out HZ0.out HZ1.out HZ2.out rfl (by decide) _ _ _ rfl (M7.out.1.alloc _) ⟨w7.heap.size, 0, none⟩ 1 1 ([(nk : Int) % 256].map (Value.int .u8)) rfl ?f0 ?f1 ?f2 (by omega) ?f3 ?f4 ?f5 _ rfl ?_)
        case f0 => first | rfl | (simp; done) | simp [sb_len]
        case f1 =>
          intro j u hj
          match j, hj with
          | 0, hj => simp at hj; subst hj; simp [Addr.add]
        case f2 => intro u hu; obtain ⟨z, _, rfl⟩ := List.mem_map.1 hu; rfl
        case f3 => unfold maxLen; omega
        case f4 => omega
        case f5 => simp; omega
        intro g8 c8 w8 hown8 hgrow8 _ _
        have hm8 := M7.out.app (ys := [(nk : Int) % 256]) (by intro y hy; simp at hy; omega) (by simpa using hown8)
        have hb8 : Below z w1 w8 := (B7.out.alloc (by omega) _).grown hgrow8 (by simp; omega) (fun g hg => (M7.out.1.lt g hg).1)
        generalize hpre : [kind % 256, (np : Int) % 256] ++ path.map (· % 256) ++ [(val.size : Int) % 256] ++ sb val ++ [(nk : Int) % 256] = pre at hm8
        have hplen : pre.length = 2 + np + 1 + val.size + 1 := hm8.len
        have HPRE := Lib.hid hpre
        have M8 := Lib.hid hm8
        have B8 := Lib.hid hb8
        clear hm8 hb8 hown8 hgrow8 q2 hpre
        have s8 := B8.out.size
        have X8 := Lib.hid (X1.out.below B8.out (by omega))
        have q2 := X8.out.cell 2
        simp at q2
        go_wp2
        clear q2
        go_loopw [3, 53] (fun b i wr => ∃ k g n c : Nat, k ≤ nk ∧ i = .int .i64 k ∧ b = .slice (some ⟨g, 0, none⟩) n c ∧ Mine wr z (some ⟨g, 0, none⟩) n c (pre ++ (kids.take k).flatMap kidBytes) ∧ Below z w1 wr) (fun _ i _ => nk - (intOf i).toNat)
        case atStart => exact ⟨0, _, _, _, Nat.zero_le _, rfl, rfl, by simpa using M8.out, B8.out⟩
        case round =>
          obtain ⟨k, g, n, c, hk, rfl, rfl, hm, hbr⟩ := hrel
          have hlen := hm.len
          have BR := Lib.hid hbr
          have BW := Lib.hid (B1.out.trans (hbr.mono (by omega)))
          have MR := Lib.hid hm
          clear hm hbr
          have sr := BR.out.size
          have hn : n ≤ 20000000 := by
            have h1 := kidBytes_len (kids.take k)
            have h2 : (kids.take k).length ≤ nk := by rw [List.length_take, LK.out]; omega
            rw [List.length_append] at hlen
            omega
          clear hlen
          by_cases hlt : k < nk
          · have hst : (kids.take (k + 1)).flatMap kidBytes = (kids.take k).flatMap kidBytes ++ kidBytes (kids[k]?.getD (0, 0)) := by
              rw [List.take_succ_eq_append_getElem (by rw [LK.out]; exact hlt), List.flatMap_append, List.getElem?_eq_getElem (by rw [LK.out]; exact hlt)]
              simp
            have hx1 : 1 ≤ (kids[k]?.getD (0, 0)).2 := by
              rw [List.getElem?_eq_getElem (by rw [LK.out]; exact hlt)]
              exact HKM.out _ (List.getElem_mem _)
            obtain ⟨b, off, rfl, hbB, h0, h1⟩ := (HK.out.below BW.out).at_ hlt
            generalize kids[k]?.getD (0, 0) = x at h0 h1 hst hx1
            have HST := Lib.hid hst
            clear hst
            obtain ⟨wk, hwk⟩ : ∃ wk, wr.alloc (.cells #[.int .i64 x.1, .int .i64 x.2] 80) = wk := ⟨_, rfl⟩
            have xk : Box wk wr.heap.size _ _ := hwk ▸ heap_alloc_new _ _
            have bk : Below wr.heap.size wr wk := hwk ▸ (Below.refl _ _).alloc (Nat.le_refl _) _
            have sk : wr.heap.size < wk.heap.size := hwk ▸ by simp
            have XK := Lib.hid xk
            have MK := Lib.hid (MR.out.below bk)
            have BK := Lib.hid (BR.out.trans (bk.mono (by omega)))
            have hgk : g < wr.heap.size := (MR.out.1.lt g rfl).2
            clear xk bk
            have p0 := XK.out.cell 0
            have p1 := XK.out.cell 1
            simp at p0 p1
            go_wp2_with (at_builtin; refine wpList_append_lies _ rfl _ _ 22 rfl z 5 i0 (.int .u8 0) 1 1 Try.underlying22 HI.out HZ0.out HZ1.out HZ2.out rfl (by decide) _ _ _ rfl (MK.out.1.alloc _) ⟨wk.heap.size, 0, none⟩ 1 1 ([x.1 % 256].map (Value.int .u8)) rfl ?g0 ?g1 ?g2 (by omega) ?g3 ?g4 ?g5 _ rfl ?_)
            case g0 => first | rfl | (simp; done) | simp [sb_len]
            case g1 =>
              intro j u hj
              match j, hj with
              | 0, hj => simp at hj; subst hj; simp [Addr.add]
            case g2 => intro u hu; obtain ⟨z, _, rfl⟩ := List.mem_map.1 hu; rfl
            case g3 => unfold maxLen; omega
            case g4 => omega
            case g5 => simp; omega
            intro g2 c2 w2 hown2 hgrow2 _ _
            have hm2 := MK.out.app (ys := [x.1 % 256]) (by intro y hy; simp at hy; omega) (by simpa using hown2)
            have hb2 : Below z w1 w2 := (BK.out.alloc (by omega) _).grown hgrow2 (by simp; omega) (fun g hg => (MK.out.1.lt g hg).1)
            have xk2 : Box w2 wr.heap.size _ _ := (XK.out.below ((Below.refl wk.heap.size wk).alloc (Nat.le_refl _) _) sk).grown hgrow2 (by simp [Value.ownBlock]; omega)
            have XK := Lib.hid xk2
            have M2 := Lib.hid hm2
            have B2 := Lib.hid hb2
            clear hm2 hb2 hown2 hgrow2 p0 p1 h0 h1 hwk xk2
            have s2 := B2.out.size
            have p0 := XK.out.cell 0
            have p1 := XK.out.cell 1
            simp at p0 p1
            go_wp2_with fail
            refine (bytes_some x.2 (by omega) _).mono ?_
            rintro e w3 ⟨g3, n3, c3, rfl, m3, b3⟩
            have hn3 : n3 ≤ 8 := by have := nameBytes_len8 x.2; have := m3.len; omega
            have M3 := Lib.hid m3
            have M2 := Lib.hid (M2.out.below b3)
            have B3 := Lib.hid (B2.out.trans (b3.mono (by omega)))
            clear m3 b3 p0 p1
            have s3 := B3.out.size
            go_wp2_with (at_builtin; refine wpList_append_own _ rfl _ _ 22 rfl z 5 i0 (.int .u8 0) 1 1 Try.underlying22 HI.out HZ0.out HZ1.out HZ2.out rfl (by decide) _ _ _ rfl M2.out.1 ⟨g3, 0, none⟩ n3 _ ((nameBytes x.2).map (Value.int .u8)) rfl ?h0 ?h1 ?h2 ?h3 ?h4 ?h5 ?_)
            case h0 => rw [List.length_map, Nat.mul_one]; first | rfl | exact sb_len _ | exact M3.out.len
            case h1 => exact World.ownsRow.cells M3.out.1 rfl
            case h2 => intro u hu; obtain ⟨z, _, rfl⟩ := List.mem_map.1 hu; rfl
            case h3 => unfold maxLen; omega
            case h4 => omega
            case h5 => omega
            intro v4 w4 hown4 hgrow4 hnil4
            have hv : ∃ g c, v4 = .slice (some ⟨g, 0, none⟩) (n + 1 + n3) c := by
              rcases hown4.2 with ⟨e, _⟩ | ⟨g, cap, cur, e, _⟩
              · exact absurd e hnil4
              · exact ⟨g, cap, e⟩
            obtain ⟨g4, c4, rfl⟩ := hv
            have hm4 := M2.out.app (ys := nameBytes x.2) M3.out.2 (by simpa using hown4)
            have hb4 : Below z w1 w4 := B3.out.grown hgrow4 (by omega) (fun g hg => (M2.out.1.lt g hg).1)
            have he : pre ++ (kids.take k).flatMap kidBytes ++ [x.1 % 256] ++ nameBytes x.2 = pre ++ (kids.take (k + 1)).flatMap kidBytes := by
              rw [HST.out]; simp [kidBytes]
            rw [he] at hm4
            have M4 := Lib.hid hm4
            have B4 := Lib.hid hb4
            clear hm4 hb4 hown4 hgrow4 hnil4 he
            go_wp2
            go_roundw
            case rel => exact ⟨k + 1, _, _, _, by omega, by go_num, rfl, M4.out, B4.out⟩
            case measure => simp [intOf]; omega
          · have hkt : kids.take k = kids := List.take_of_length_le (by rw [LK.out]; omega)
            rw [hkt] at MR
            go_wp2
            go_ret
            refine ⟨_, n, c, rfl, ?_, BW.out⟩
            have hrw : rawBytes ⟨kind, path, kids, val⟩ = pre ++ kids.flatMap kidBytes := by
              unfold rawBytes
              rw [← HPRE.out]
              simp only [LP.out, LK.out]
            rw [hr.out, hrw]
            exact MR.out.base (by omega)
  · have hr := Lib.hid (show nodeBytes ⟨kind, path, kids, val⟩ = [] from if_neg hok)
    have hok : nodeOk ⟨kind, path, kids, val⟩ = false := by simpa using hok
    rw [hok]
    go_wp2
    go_ret
    exact ⟨none, 0, 0, rfl, by rw [hr.out]; exact Mine.nil _ _, BB.out⟩
end Go.Proofs.Ytebfinedkjlbbaa

-- Like: Two slices of bytes are told alike by the texts that they write.
namespace Go.Proofs.Ytebfinedkjlbbaa
set_option maxRecDepth 20000
open Go.RowKit

theorem likeBytes_yes (A A' : Option Addr) (n n' c c' : Nat) (zs : List Int) (B B' : Nat) (w : World) (hb : Byts w B A n zs) (hb' : Byts w B' A' n' zs) :
    Calls Try.prog 23 #[.slice A n c, .slice A' n' c'] w fun e w' => e = .returned (.bool true) ∧ w = w' := by
  have k1 := conv_bytes A n c zs B w hb
  have k2 := conv_bytes A' n' c' zs B' w hb'
  clear hb hb'
  go_enter Try.func23, Try.ntmps23
  go_wp2
  go_ret
  exact ⟨rfl, rfl⟩

end Go.Proofs.Ytebfinedkjlbbaa

-- LikeI: Two lists of numbers that read alike are told alike.
namespace Go.Proofs.Ytebfinedkjlbbaa
set_option maxRecDepth 20000
open Go.RowKit

theorem likeInts_yes (A A' : Option Addr) (n c c' : Nat) (zs : List Int) (B B' : Nat) (w : World) (hn : n ≤ 9223372036854775807) (hb : Ints w B A n zs) (hb' : Ints w B' A' n zs) :
    Calls Try.prog 79 #[.slice A n c, .slice A' n c'] w fun e w' => e = .returned (.bool true) ∧ ∃ m, w' = w.drewN m := by
  have HB := Lib.hid hb
  have HB' := Lib.hid hb'
  clear hb hb'
  go_enter Try.func79, Try.ntmps79
  go_wp2
  go_loopw [5] (fun i wr => ∃ k m : Nat, k ≤ n ∧ i = .int .i64 k ∧ wr = w.drewN m) (fun i _ => n - (intOf i).toNat)
  case atStart => exact ⟨0, 0, Nat.zero_le _, rfl, rfl⟩
  case round =>
    obtain ⟨k, m, hk, rfl, rfl⟩ := hrel
    by_cases hlt : k < n
    · obtain ⟨b, off, rfl, hbB, hc⟩ := HB.out.at_ hlt
      obtain ⟨b', off', rfl, hbB', hc'⟩ := HB'.out.at_ hlt
      go_wp2
      go_quiet (fail)
      go_wp2
      go_roundw
      case rel => exact ⟨k + 1, _, by omega, by go_num, rfl⟩
      case measure => simp [intOf]; omega
    · go_wp2
      go_ret
      exact ⟨rfl, m, rfl⟩
end Go.Proofs.Ytebfinedkjlbbaa

-- LikeN: Two nodes that read alike are told alike.
namespace Go.Proofs.Ytebfinedkjlbbaa
set_option maxRecDepth 20000
open Go.RowKit

theorem likeNode_yes (v v' : Value) (nd : MNode) (B B' : Nat) (w : World) (hB : B ≤ w.heap.size) (hB' : B' ≤ w.heap.size) (hv : NodeIn w B v nd) (hv' : NodeIn w B' v' nd) :
    Calls Try.prog 25 #[v, v'] w fun e w' => e = .returned (.bool true) ∧ Below w.heap.size w w' := by
  obtain ⟨Ap, np, cp, Ak, nk, ck, rfl, hnp, hnk, hsz, hp, hk⟩ := hv
  obtain ⟨Ap', np', cp', Ak', nk', ck', rfl, hnp', hnk', hsz', hp', hk'⟩ := hv'
  obtain ⟨kind, path, kids, val⟩ := nd
  have e1 : np' = np := hp'.1.symm.trans hp.1
  have e2 : nk' = nk := hk'.1.symm.trans hk.1
  obtain rfl := e1
  obtain rfl := e2
  have HP := Lib.hid (hp.more hB)
  have HK := Lib.hid (hk.more hB)
  have HP' := Lib.hid (hp'.more hB')
  have HK' := Lib.hid (hk'.more hB')
  clear hp hk hp' hk'
  obtain ⟨w3, hw3⟩ : ∃ w3, ((w.alloc (.cells #[.int .i64 kind, .slice Ap np' cp, .slice Ak nk' ck, .string val] 26)).alloc (.cells #[.int .i64 kind, .slice Ap' np' cp', .slice Ak' nk' ck', .string val] 26)) = w3 := ⟨_, rfl⟩
  have x0 : Box w3 w.heap.size _ _ := hw3 ▸ heap2_0 _ _ _
  have x1 : Box w3 (w.heap.size + 1) _ _ := hw3 ▸ heap2_1 _ _ _
  have s3 : w3.heap.size = w.heap.size + 2 := hw3 ▸ size2 _ _ _
  have b3 : Below w.heap.size w w3 := hw3 ▸ below2 _ _ _
  have X0 := Lib.hid x0
  have X1 := Lib.hid x1
  have B3 := Lib.hid b3
  have HW := Lib.hid hw3
  clear x0 x1 b3 hw3
  go_enter Try.func25, Try.ntmps25
  go_wp2_with fail
  rw [HW.out]
  refine (likeInts_yes _ _ _ _ _ path _ _ w3 (by omega) (HP.out.below B3.out) (HP'.out.below B3.out)).mono ?_
  rintro e w4 ⟨rfl, m, hm⟩
  have b4 : Below w3.heap.size w3 w4 := by rw [hm]; exact below_drewN (Below.refl _ _) m
  clear hm
  have X0 := Lib.hid (X0.out.below b4 (by omega))
  have X1 := Lib.hid (X1.out.below b4 (by omega))
  have B4 := Lib.hid (B3.out.trans (b4.mono (by omega)))
  have s4 := b4.size
  clear b4
  have q02 := X0.out.cell 2
  have q12 := X1.out.cell 2
  have q03 := X0.out.cell 3
  have q13 := X1.out.cell 3
  simp at q02 q12 q03 q13
  go_wp2
  clear q02 q12 q03 q13
  go_loopw [5] (fun i wr => ∃ k m : Nat, k ≤ nk' ∧ i = .int .i64 k ∧ wr = w4.drewN m) (fun i _ => nk' - (intOf i).toNat)
  case atStart => exact ⟨0, 0, Nat.zero_le _, rfl, rfl⟩
  case round =>
    obtain ⟨k, m, hk, rfl, hwr⟩ := hrel
    have X0 : Hid (Box wr w.heap.size _ _) := Lib.hid (by rw [hwr]; exact X0.out)
    have X1 : Hid (Box wr (w.heap.size + 1) _ _) := Lib.hid (by rw [hwr]; exact X1.out)
    have hk1 : Kids wr w.heap.size Ak nk' kids := by rw [hwr]; exact (HK.out.below B4.out).drewN m
    have hk2 : Kids wr w.heap.size Ak' nk' kids := by rw [hwr]; exact (HK'.out.below B4.out).drewN m
    have HWR := Lib.hid hwr
    clear hwr
    have q02 := X0.out.cell 2
    have q12 := X1.out.cell 2
    simp at q02 q12
    by_cases hlt : k < nk'
    · obtain ⟨b, off, rfl, hbB, h0, h1⟩ := hk1.at_ hlt
      obtain ⟨b', off', rfl, hbB', h0', h1'⟩ := hk2.at_ hlt
      generalize kids[k]?.getD (0, 0) = x at h0 h1 h0' h1'
      go_wp2
      go_quiet (fail)
      go_wp2
      go_roundw
      case rel => exact ⟨k + 1, _, by omega, by go_num, by rw [HWR.out, World.drewN_drewN]⟩
      case measure => simp [intOf]; omega
    · go_wp2
      go_ret
      exact ⟨rfl, by rw [HWR.out]; exact below_drewN B4.out m⟩
end Go.Proofs.Ytebfinedkjlbbaa

-- Big: A draw is big, or it isn't.
namespace Go.Proofs.Ytebfinedkjlbbaa
set_option maxRecDepth 20000
open Go.RowKit

theorem big_no (A : Option Addr) (n c : Nat) (w : World) (hn : n ≤ 4096) :
    Calls Try.prog 18 #[.slice A n c] w fun e w' => e = .returned (.bool false) ∧ w = w' := by
  go_enter Try.func18, Try.ntmps18
  go_wp2
  go_ret
  have h : decide ((4096 : Int) < (n : Int)) = false := by simp; omega
  first | exact ⟨rfl, rfl⟩ | (rw [← h]; exact ⟨rfl, rfl⟩)
theorem big_yes (A : Option Addr) (n c : Nat) (w : World) (hn : 4096 < n) :
    Calls Try.prog 18 #[.slice A n c] w fun e w' => e = .returned (.bool true) ∧ w = w' := by
  go_enter Try.func18, Try.ntmps18
  go_wp2
  go_ret
  have h : decide ((4096 : Int) < (n : Int)) = true := by simp; omega
  first | exact ⟨rfl, rfl⟩ | (rw [← h]; exact ⟨rfl, rfl⟩)
end Go.Proofs.Ytebfinedkjlbbaa
