/- At every code of bytes: frames that were drawn are read by the program as by the model; frames of its own that stand one behind the other are read as far as they are whole; codes longer than 4096 the law lets by. -/
import Derived.Test.YtepaikljiddiaaaRows
import Derived.Test.YtepaikljiddiaaaPkD
import Derived.WalkKit
import Derived.ProofKit
import Derived.OpenShut
import Derived.ShutString
import Derived.ChangeOld
import Derived.Below
import Derived.WalkSmall
import Derived.Outline
namespace Go.Proofs.Ytepaikljiddiaaa.fnFrames
set_option maxRecDepth 20000
set_option linter.unusedSimpArgs false
open Go.ChangeShapes Go.WideShapes Go.ChangeAt Go.RowKit
open Go.ChangeMaps (open_string shut_string)
set_option linter.unusedVariables false

theorem own : ownKnob Try.prog.godebug = none := by kernel_rfl
theorem laidOut : laidOutB Try.prog = true := by kernel_rfl

theorem mine_apart {w w' : World} {base n c r r' : Nat} {xs : List Int} (h : Mine w base (some ⟨r, 0, none⟩) n c xs) (hg : w.grownBy w' (some r')) (hne : r ≠ r') : Mine w' base (some ⟨r, 0, none⟩) n c xs :=
  ⟨World.ownsRow.kept h.1 hg (.inr (by simp only [Value.ownBlock]; exact fun e => hne (Option.some.inj e))), h.2⟩
theorem mine_apart' {w w' : World} {base n c r : Nat} {xs : List Int} (h : Mine w base (some ⟨r, 0, none⟩) n c xs) {row : Option Nat} (hg : w.grownBy w' row) (hne : ∀ r', row = some r' → r ≠ r') : Mine w' base (some ⟨r, 0, none⟩) n c xs := by
  refine ⟨World.ownsRow.kept h.1 hg ?_, h.2⟩
  cases row with
  | none => exact .inr (by simp [Value.ownBlock])
  | some r' => exact .inr (by simp only [Value.ownBlock]; exact fun e => hne r' rfl (Option.some.inj e))
theorem own_max {w : World} {lo hi n c : Nat} {A : Option Addr} {bs : List (List Int)} (h : OwnBs w lo hi A n c bs) : n ≤ 9223372036854775807 := by
  obtain ⟨_, _, sl, hr, _⟩ := h
  rcases hr.2 with ⟨e, rfl⟩ | ⟨g, cap, cur, e, _, _, h1, h2, _⟩
  · omega
  · unfold maxLen at h2; omega

set_option maxHeartbeats 1600000 in
theorem walk0 (A : Option Addr) (n c : Nat) (cs : List Int) (w : World) (hn : n ≤ 4096) (hb : Byts w w.heap.size A n cs) :
    Calls Try.prog 3 #[.slice A n c] w fun e w' => e = .returned (.bool true) ∧ Below w.heap.size w w' := by
  have HB := Lib.hid hb
  clear hb
  go_enter Try.func3, Try.ntmps3
  go_wp2_with fail
  refine (big_no _ _ _ _ hn).mono ?_
  rintro e w' ⟨rfl, rfl⟩
  go_wp2_with fail
  refine (drawFramesIn_any _ _ _ cs _ hn HB.out).mono ?_
  rintro e w1 ⟨A1, n1, c1, fs, hn1, rfl, hc1, hA1, y1, b1⟩
  have Y1 := Lib.hid y1
  have B1 := Lib.hid b1
  have s1 : w.heap.size ≤ w1.heap.size := b1.size
  clear y1 b1
  go_wp2_with fail
  refine (implFramesIn_any A1 n1 c1 fs _ w1 (by omega) hc1 hA1 (Nat.le_refl _) Y1.out).mono ?_
  rintro e w2 ⟨A2, n2, c2, rfl, m2, b2⟩
  have M2 := Lib.hid m2
  have B2 := Lib.hid (B1.out.trans (b2.mono s1))
  have Y2 := Lib.hid (Y1.out.below b2)
  have s2 : w1.heap.size ≤ w2.heap.size := b2.size
  clear m2 b2
  go_wp2_with fail
  refine (specFramesIn_any A1 n1 c1 fs _ w2 (by omega) hc1 hA1 s2 Y2.out).mono ?_
  rintro e w3 ⟨A3, n3, c3, rfl, m3, b3⟩
  have hl2 := M2.out.len
  have hl3 := m3.len
  obtain rfl : n2 = n3 := by omega
  have M3 := Lib.hid m3
  have hn2 := own_max m3
  have s3 : w2.heap.size ≤ w3.heap.size := b3.size
  have R2 := Lib.hid ((M2.out.below b3).more s3)
  have B3 := Lib.hid (B2.out.trans (b3.mono (by omega)))
  clear m3 b3
  obtain ⟨E, hE⟩ : ∃ E, (framesAt fs 0).2 = E := ⟨_, rfl⟩
  obtain ⟨L, hL⟩ : ∃ L, (framesAt fs 0).1 = L := ⟨_, rfl⟩
  rw [hL] at hl2
  rw [hL] at R2 M3
  clear hl3 hL
  rw [hE]
  clear hE
  go_wp2_with fail
  refine (drawFramed_any _ _ _ cs _ hn ((HB.out.below B3.out).more B3.out.size)).mono ?_
  rintro e w4 ⟨A4, n4, c4, xs, hn4, rfl, hc4, hA4, y4, b4⟩
  have s4 : w3.heap.size ≤ w4.heap.size := b4.size
  have Y4 := Lib.hid y4
  have P4 := Lib.hid ((R2.out.below b4).bss.more s4)
  have S4 := Lib.hid ((M3.out.below b4).bss.more s4)
  have B4 := Lib.hid (B3.out.trans (b4.mono (by omega)))
  clear y4 b4
  have hlen2 : (n2 : Int) = n2 := rfl
  go_wp2_with fail
  refine (implFramed_any A4 n4 c4 xs _ w4 (by omega) hc4 hA4 (Nat.le_refl _) Y4.out).mono ?_
  rintro e w5 ⟨A5, n5, c5, rfl, m5, b5⟩
  have s5 : w4.heap.size ≤ w5.heap.size := b5.size
  have Y5 := Lib.hid (Y4.out.below b5)
  have M5 := Lib.hid m5
  have P5 := Lib.hid ((P4.out.below b5).more s5)
  have S5 := Lib.hid ((S4.out.below b5).more s5)
  have B5 := Lib.hid (B4.out.trans (b5.mono (by omega)))
  clear m5 b5
  go_wp2_with fail
  refine (specFramed_any A4 n4 c4 xs _ w5 (by omega) hA4 s5 Y5.out).mono ?_
  rintro e w6 ⟨A6, n6, c6, rfl, m6, b6⟩
  have s6 : w5.heap.size ≤ w6.heap.size := b6.size
  have M6 := Lib.hid m6
  have N5 := Lib.hid (M5.out.below b6)
  have P6 := Lib.hid ((P5.out.below b6).more s6)
  have S6 := Lib.hid ((S5.out.below b6).more s6)
  have B6 := Lib.hid (B5.out.trans (b6.mono (by omega)))
  clear m6 b6
  go_wp2_with fail
  refine (likeBytes_yes _ _ _ _ _ _ _ _ _ _ N5.out.byts M6.out.byts).mono ?_
  rintro e w' ⟨rfl, rfl⟩
  have s06 : w.heap.size ≤ w6.heap.size := by omega
  go_wp2
  go_loopw [9] (fun i wr => ∃ k : Nat, k ≤ n2 ∧ i = .int .i64 k ∧ Below w6.heap.size w6 wr) (fun i _ => n2 - (intOf i).toNat)
  case atStart => exact ⟨0, Nat.zero_le _, rfl, Below.refl _ _⟩
  case round =>
    obtain ⟨k, hk, rfl, hbr⟩ := hrel
    have BR := Lib.hid hbr
    have PR := Lib.hid (P6.out.below hbr)
    have SR := Lib.hid (S6.out.below hbr)
    have hsr : w6.heap.size ≤ wr.heap.size := hbr.size
    clear hbr
    by_cases hkn : k < n2
    · obtain ⟨gp, op, Ap, np, cp, rfl, _, hcp, _, _, yp⟩ := PR.out.at_ hkn
      obtain ⟨gs, os, As, ns, cs', rfl, _, hcs, _, _, ys⟩ := SR.out.at_ hkn
      have LB := Lib.hid (fun m => (likeBytes_yes Ap As np ns cp cs' _ _ _ _ (yp.drewN m) (ys.drewN m)).mono (R' := fun e w' => e = .returned (.bool true) ∧ w' = wr.drewN m) (by rintro e w' ⟨h1, h2⟩; exact ⟨h1, h2.symm⟩))
      clear yp ys
      go_wp2_with fail
      go_quiet (first | (go_at_call 12; exact Calls.quiet_of_same (LB.out _)))
      go_wp2
      go_roundw
      case rel => exact ⟨k + 1, by omega, by go_num, below_drewN BR.out _⟩
      case measure => simp [intOf]; omega
    · have B7 := Lib.hid (B6.out.trans (BR.out.mono s06))
      have s7 : w.heap.size ≤ wr.heap.size := by omega
      clear P6 S6 N5 M6 M5 Y5 Y4 P4 S4 P5 S5 M3 R2 Y2 Y1 M2 BR PR SR
      go_wp2_with fail
      refine (roll_any _ _ _ cs _ _ hn ((HB.out.below B7.out).more B7.out.size)).mono ?_
      rintro e w8 ⟨g, rfl, d8, b8⟩
      have D8 := Lib.hid d8
      have hge := d8.ge
      have hgl := d8.lt
      have s8 : wr.heap.size ≤ w8.heap.size := b8.size
      have B8 := Lib.hid (B7.out.trans (b8.mono s7))
      clear d8 b8
      obtain ⟨BL, hBL⟩ : ∃ BL, w8.heap.size = BL := ⟨_, rfl⟩
      obtain ⟨w9, hw9⟩ : ∃ w9, w8.alloc (.cells #[] 5) = w9 := ⟨_, rfl⟩
      have M9 := Lib.hid (show Mine w9 BL (some ⟨BL, 0, none⟩) 0 0 [] from hBL ▸ hw9 ▸ Mine.empty w8)
      have D9 := Lib.hid (show Dice w9 wr.heap.size g from hw9 ▸ D8.out.grown (World.grownBy_alloc w8 _ none) (fun r h => by cases h))
      have B9 := Lib.hid (show Below w.heap.size w w9 from hw9 ▸ B8.out.alloc (by omega) _)
      have s9 : BL ≤ w9.heap.size := hw9 ▸ hBL ▸ (by simp)
      rw [hBL] at hgl
      have HBL := Lib.hid hBL
      have HW9 := Lib.hid hw9
      clear hw9 hBL
      obtain ⟨D0, hD0⟩ : ∃ D0, wr.heap.size = D0 := ⟨_, rfl⟩
      have D9 := Lib.hid (show Dice w9 D0 g from hD0 ▸ D9.out)
      have hD0w : w.heap.size ≤ D0 := by omega
      have hgD0 : D0 ≤ g := by omega
      have hD0L : D0 ≤ BL := by have := HBL.out; omega
      clear hD0
      obtain ⟨i0, hi, hz0, hz1, hz2⟩ := info_parts Try.info5
      have HI := Lib.hid hi
      have HZ0 := Lib.hid hz0
      have HZ1 := Lib.hid hz1
      have HZ2 := Lib.hid hz2
      clear hi hz0 hz1 hz2
      go_wp2
      try rw [HW9.out]
      try rw [HBL.out]
      have hn9 : w.heap.size ≤ w9.heap.size := by omega
      go_loopw [11, 12] (fun s i wr => ∃ (gb k q cb : Nat) (ls : List (List Int)), s = .slice (some ⟨gb, 0, none⟩) k cb ∧ i = .int .i64 q ∧ q ≤ 4 ∧ k ≤ 29 * q ∧ ls.length = q ∧ (∀ x ∈ ls, x.length ≤ 65535) ∧ Mine wr BL (some ⟨gb, 0, none⟩) k cb (ls.flatMap framed) ∧ Dice wr D0 g ∧ Below w.heap.size w wr ∧ BL ≤ wr.heap.size) (fun _ i _ => 4 - (intOf i).toNat)
      case atStart => exact ⟨BL, 0, 0, 0, [], rfl, rfl, by omega, by omega, rfl, by simp, M9.out, D9.out, B9.out, by omega⟩
      case round =>
        obtain ⟨gb, k, q, cb, ls, rfl, rfl, hq4, hkq, hll, hls, hm, hd, hbel, hsz⟩ := hrel
        have M := Lib.hid hm
        have D := Lib.hid hd
        have BR := Lib.hid hbel
        have LS := Lib.hid hls
        have LL := Lib.hid hll
        clear hm hd hbel hls hll
        by_cases hq : q < 4
        case neg =>
          obtain rfl : q = 4 := by omega
          go_wp2
          go_ret
          exact ⟨rfl, BR.out⟩
        have hdq : decide ((q : Int) < 4) = true := decide_eq_true (by omega)
        go_wp2_with fail
        refine (dice_any _ _ g 20 (by omega) (by omega) D.out).mono ?_
        rintro e wa ⟨r, hr0, hr1, rfl, da, ga⟩
        obtain ⟨kb, rfl⟩ : ∃ kb : Nat, r = kb := ⟨r.toNat, by omega⟩
        have sa := ga.size
        have Ma := Lib.hid (M.out.grown ga (fun r h => by cases h; omega))
        have Da := Lib.hid da
        have Ba := Lib.hid (BR.out.grown ga (by omega) (fun r h => by cases h; omega))
        clear da ga
        have hmk := make_zeros kb (by omega) wa
        have Z0 := mine_zeros wa kb (by unfold maxLen; omega)
        obtain ⟨W2, hW2⟩ : ∃ W2, wa.alloc (.cells (u8s (List.replicate kb 0)) 5) = W2 := ⟨_, rfl⟩
        have D2 := Lib.hid (show Dice W2 D0 g from hW2 ▸ Da.out.grown (World.grownBy_alloc wa _ none) (fun r h => by cases h))
        have B2 := Lib.hid (show Below w.heap.size w W2 from hW2 ▸ Ba.out.alloc (by omega) _)
        have M2 := Lib.hid (show Mine W2 BL (some ⟨gb, 0, none⟩) k cb (ls.flatMap framed) from hW2 ▸ Ma.out.below ((Below.refl _ _).alloc (Nat.le_refl _) _))
        have s2 : W2.heap.size = wa.heap.size + 1 := hW2 ▸ (by simp)
        obtain ⟨gz, hgz⟩ : ∃ gz, wa.heap.size = gz := ⟨_, rfl⟩
        rw [hW2] at hmk Z0
        rw [hgz] at hmk Z0
        have Z2 := Lib.hid Z0
        clear Z0 hW2
        have hgb := World.ownsRow.lt M2.out.1 gb (by simp [Value.ownBlock])
        have hgbz : gb < gz := by have := World.ownsRow.lt Ma.out.1 gb (by simp [Value.ownBlock]); omega
        go_wp2
        go_loopw [14] (fun i wi => ∃ (j : Nat) (zs : List Int), j ≤ kb ∧ i = .int .i64 j ∧ Mine wi gz (some ⟨gz, 0, none⟩) kb kb zs ∧ Mine wi BL (some ⟨gb, 0, none⟩) k cb (ls.flatMap framed) ∧ Dice wi D0 g ∧ Below w.heap.size w wi ∧ W2.heap.size ≤ wi.heap.size) (fun i _ => kb - (intOf i).toNat)
        case atStart => exact ⟨0, List.replicate kb 0, Nat.zero_le _, rfl, by first | exact Z2.out | exact hgz ▸ Z2.out, M2.out, D2.out, B2.out, Nat.le_refl _⟩
        case round =>
          rename_i wi _
          obtain ⟨j, zs, hj, rfl, hz, hm, hd, hb, hsi⟩ := hrel
          have Z := Lib.hid hz
          have M := Lib.hid hm
          have D := Lib.hid hd
          have BI := Lib.hid hb
          clear hz hm hd hb
          by_cases hjk : j < kb
          · go_wp2_with fail
            refine (dice_any _ _ g 256 (by omega) (by omega) D.out).mono ?_
            rintro e wb ⟨z, hz0, hz1, rfl, db, gg⟩
            have zb := Z.out.grown gg (fun r h => by cases h; omega)
            have mb := M.out.grown gg (fun r h => by cases h; omega)
            have bb := BI.out.grown gg (by omega) (fun r h => by cases h; omega)
            have sb := gg.size
            have hcell := zb.cell hjk
            have hfree := zb.free j
            have hw : IntKind.u8.wrap z = z := by rw [IntKind.wrap_u8]; omega
            obtain ⟨hset, hgs⟩ := zb.set_ j z ⟨hz0, by omega⟩
            have ST := Lib.hid hset
            have MT := Lib.hid (mine_apart mb hgs (by omega))
            have DT := Lib.hid (db.grown hgs (fun r h => by cases h; omega))
            have BT := Lib.hid (bb.grown hgs (by omega) (fun r h => by cases h; omega))
            have sT := hgs.size
            clear zb mb bb db gg hset hgs
            go_wp2
            go_roundw
            case rel => exact ⟨j + 1, zs.set j z, by omega, by go_num, ST.out, MT.out, DT.out, BT.out, by omega⟩
            case measure => simp [intOf]; omega
          · go_wp2_with fail
            have hzl := Z.out.len
            refine (implFramed_any _ kb kb zs _ _ (by omega) (Nat.le_refl _) (fun h => by cases h) (Nat.le_refl _) Z.out.byts).mono ?_
            rintro e wx ⟨Ax, nx, cx, rfl, mx, bx⟩
            have hlx := mx.len
            rw [framed_10 zs (by omega)] at hlx
            obtain ⟨gx, rfl, hgx, hgxl⟩ := mx.form (by omega)
            have sx := bx.size
            have X := Lib.hid mx
            have ZX := Lib.hid (Z.out.below bx)
            have MX := Lib.hid (M.out.below bx)
            have DX := Lib.hid (D.out.grown (below_grow (row := none) bx) (fun r h => by cases h))
            have BX := Lib.hid (BI.out.trans (bx.mono (by omega)))
            clear mx bx
            have hlen := MX.out.len
            have hgbl := World.ownsRow.lt MX.out.1 gb (by simp [Value.ownBlock])
            have hown := Lib.hid (Mine.empty wx).1
            have HSRC := Lib.hid (show ∀ j u, ((ls.flatMap framed).map (Value.int .u8))[j]? = some u → (wx.alloc (.cells #[] 5)).cell? ((⟨gb, 0, none⟩ : Addr).add j) = some u from World.ownsRow.cells (MX.out.1.alloc _) (g := gb) rfl)
            go_wp2_with (at_builtin; refine wpList_append_own _ rfl _ _ 22 rfl wx.heap.size 5 i0 (.int .u8 0) 1 1 Try.underlying22 HI.out HZ0.out HZ1.out HZ2.out rfl (by decide) _ _ _ rfl hown.out ⟨gb, 0, none⟩ k cb ((ls.flatMap framed).map (Value.int .u8)) rfl (by simp [hlen]) ?c1 ?c2 ?c3 ?c4 ?c5 ?_)
            case c1 => exact HSRC.out
            case c2 => intro u hu; obtain ⟨z, _, rfl⟩ := List.mem_map.1 hu; rfl
            case c3 => unfold maxLen; omega
            case c4 => omega
            case c5 => simp
            intro v' wy hown' hgrow hnil
            obtain ⟨gp, cp, rfl⟩ : ∃ g c, v' = .slice (some ⟨g, 0, none⟩) k c := by
              rcases hown'.2 with ⟨e, _⟩ | ⟨g, cap, cur, e, _⟩
              · exact absurd e hnil
              · exact ⟨g, cap, e⟩
            have PY := Lib.hid (show Mine wy wx.heap.size (some ⟨gp, 0, none⟩) k cp (ls.flatMap framed) from ⟨hown', MX.out.2⟩)
            have by_ : Below wx.heap.size wx wy := ((Below.refl _ _).alloc (Nat.le_refl _) _).grown hgrow (by simp) (fun r hr => by simp [Value.ownBlock] at hr; omega)
            have sy := by_.size
            have hgp := World.ownsRow.lt PY.out.1 gp (by simp [Value.ownBlock])
            have XY := Lib.hid (X.out.below (by_.mono (by omega)))
            have X := Lib.hid ((X.out.below by_).base (Nat.le_refl _))
            have ZY := Lib.hid (ZX.out.below by_)
            have MY := Lib.hid (MX.out.below by_)
            have DY := Lib.hid (DX.out.grown (below_grow (row := none) by_) (fun r h => by cases h))
            have BY := Lib.hid (BX.out.trans (by_.mono (by omega)))
            clear hown hown' hgrow hnil by_ HSRC XY ZX MX DX BX
            have hnx : 0 < nx := by omega
            go_wp2_with fail
            refine (dice_any _ _ g nx (by omega) (by omega) DY.out).mono ?_
            rintro e wz ⟨t, ht0, ht1, rfl, dz, gg⟩
            obtain ⟨t, rfl⟩ : ∃ t' : Nat, t = t' := ⟨t.toNat, by omega⟩
            have ht : t < nx := by omega
            have sz := gg.size
            have PZ := Lib.hid (PY.out.grown gg (fun r h => by cases h; omega))
            have XZ := Lib.hid (X.out.grown gg (fun r h => by cases h; omega))
            have ZZ := Lib.hid (ZY.out.grown gg (fun r h => by cases h; omega))
            have MZ := Lib.hid (MY.out.grown gg (fun r h => by cases h; omega))
            have DZ := Lib.hid dz
            have BZ := Lib.hid (BY.out.grown gg (by omega) (fun r h => by cases h; omega))
            clear dz gg PY X ZY MY DY BY
            have HSRC := Lib.hid (show ∀ j u, (((framed zs).take t).map (Value.int .u8))[j]? = some u → wz.cell? ((⟨gx, 0, none⟩ : Addr).add j) = some u from by
              intro j u hj
              have hjl : j < t := by
                rcases Nat.lt_or_ge j t with h | h
                · exact h
                · rw [List.getElem?_eq_none (by simp; omega)] at hj; cases hj
              have hc := XZ.out.cell (k := j) (by omega)
              have e : (⟨gx, 0, none⟩ : Addr).add j = ⟨gx, j, none⟩ := by unfold Addr.add; split <;> simp_all
              have hlz := XZ.out.len
              rw [e, hc]
              rw [List.getElem?_map, List.getElem?_take_of_lt hjl, List.getElem?_eq_getElem (by omega)] at hj
              rw [List.getElem?_eq_getElem (by omega)]
              simpa using hj)
            have hlt : ((framed zs).take t).length = t := by rw [List.length_take, XZ.out.len]; omega
            have hrt : ∀ z ∈ (framed zs).take t, 0 ≤ z ∧ z ≤ 255 := fun z hz => XZ.out.2 z (List.mem_of_mem_take hz)
            have htx : t ≤ cx := by have := mine_cap XZ.out; omega
            go_wp2_with (at_builtin; refine wpList_append_own _ rfl _ _ 22 rfl wx.heap.size 5 i0 (.int .u8 0) 1 1 Try.underlying22 HI.out HZ0.out HZ1.out HZ2.out rfl (by decide) _ _ _ rfl PZ.out.1 ⟨gx, 0, none⟩ t cx (((framed zs).take t).map (Value.int .u8)) rfl (by rw [List.length_map, hlt, Nat.mul_one]) ?d1 ?d2 ?d3 ?d4 ?d5 ?_)
            case d1 => exact HSRC.out
            case d2 => intro u hu; obtain ⟨z, _, rfl⟩ := List.mem_map.1 hu; rfl
            case d3 => unfold maxLen; omega
            case d4 => omega
            case d5 => first | omega | (simp; omega)
            intro v' wp hown' hgrow hnil
            obtain ⟨gq, cq, rfl⟩ : ∃ g c, v' = .slice (some ⟨g, 0, none⟩) (k + t) c := by
              rcases hown'.2 with ⟨e, _⟩ | ⟨g, cap, cur, e, _⟩
              · exact absurd e hnil
              · exact ⟨g, cap, e⟩
            rw [← List.map_take] at hown'
            have PP := Lib.hid (Mine.app PZ.out hrt hown')
            have own : ∀ r, (Value.slice (some ⟨gp, 0, none⟩) k cp).ownBlock = some r → r = gp := fun r h => by
              have e : gp = r := by simpa [Value.ownBlock] using h
              exact e.symm
            have sp := hgrow.size
            have XP := Lib.hid (mine_apart' XZ.out hgrow (fun r h => by have := own r h; omega))
            have ZP := Lib.hid (mine_apart' ZZ.out hgrow (fun r h => by have := own r h; omega))
            have MP := Lib.hid (mine_apart' MZ.out hgrow (fun r h => by have := own r h; omega))
            have DP := Lib.hid (DZ.out.grown hgrow (fun r h => by have := own r h; omega))
            have BP := Lib.hid (BZ.out.grown hgrow (by omega) (fun r h => by have := own r h; omega))
            clear hown' hgrow hnil own HSRC PZ XZ ZZ MZ DZ BZ
            have hfr : framesAt (ls.flatMap framed ++ (framed zs).take t) 0 = (ls, k) := by
              rw [framesAt_all ls LS.out, framesAt_torn zs (by omega) t (by rw [framed_10 zs (by omega)]; omega)]
              simp [hlen]
            have HF := Lib.hid hfr
            clear hfr
            go_wp2_with fail
            refine (implFramesIn_any _ (k + t) cq _ _ wp (by omega) (mine_cap PP.out) (fun h => by cases h) (Nat.le_refl _) PP.out.byts).mono ?_
            rintro e wr1 ⟨Ar, nr, cr, he, mr, br⟩
            rw [HF.out] at he mr
            subst he
            have hnr : ls.length = nr := mr.len
            obtain rfl : q = nr := by have := LL.out; omega
            have sr := br.size
            have XR := Lib.hid (XP.out.below br)
            have ZR := Lib.hid (ZP.out.below br)
            have MR := Lib.hid (MP.out.below br)
            have DR := Lib.hid (DP.out.grown (below_grow (row := none) br) (fun r h => by cases h))
            have BR2 := Lib.hid (BP.out.trans (br.mono (by omega)))
            clear mr br XP ZP MP DP BP PP
            have HSRC := Lib.hid (show ∀ j u, ((framed zs).map (Value.int .u8))[j]? = some u → wr1.cell? ((⟨gx, 0, none⟩ : Addr).add j) = some u from World.ownsRow.cells XR.out.1 (g := gx) rfl)
            have hlz : (framed zs).length = nx := XR.out.len
            go_wp2_with (at_builtin; refine wpList_append_own _ rfl _ _ 22 rfl BL 5 i0 (.int .u8 0) 1 1 Try.underlying22 HI.out HZ0.out HZ1.out HZ2.out rfl (by decide) _ _ _ rfl MR.out.1 ⟨gx, 0, none⟩ nx cx ((framed zs).map (Value.int .u8)) rfl (by rw [List.length_map, hlz, Nat.mul_one]) ?e1 ?e2 ?e3 ?e4 ?e5 ?_)
            case e1 => exact HSRC.out
            case e2 => intro u hu; obtain ⟨z, _, rfl⟩ := List.mem_map.1 hu; rfl
            case e3 => unfold maxLen; omega
            case e4 => omega
            case e5 => first | omega | (simp; omega)
            intro v' wl hown' hgrow hnil
            obtain ⟨gl, cl, rfl⟩ : ∃ g c, v' = .slice (some ⟨g, 0, none⟩) (k + nx) c := by
              rcases hown'.2 with ⟨e, _⟩ | ⟨g, cap, cur, e, _⟩
              · exact absurd e hnil
              · exact ⟨g, cap, e⟩
            have own : ∀ r, (Value.slice (some ⟨gb, 0, none⟩) k cb).ownBlock = some r → r = gb := fun r h => by
              have e : gb = r := by simpa [Value.ownBlock] using h
              exact e.symm
            have hll : (ls ++ [zs]).flatMap framed = ls.flatMap framed ++ framed zs := by simp
            have ml := Mine.app MR.out XR.out.2 hown'
            rw [← hll] at ml
            have ML := Lib.hid ml
            have sl := hgrow.size
            have ZL := Lib.hid (mine_apart' ZR.out hgrow (fun r h => by have := own r h; omega))
            have DL := Lib.hid (DR.out.grown hgrow (fun r h => by have := own r h; omega))
            have BL2 := Lib.hid (BR2.out.grown hgrow (by omega) (fun r h => by have := own r h; omega))
            have hlk : ((ls ++ [zs]).flatMap framed).length = k + nx := ml.len
            clear ml hown' hgrow hnil own HSRC XR ZR MR DR BR2 hll
            have hlx2 : ∀ x ∈ ls ++ [zs], x.length ≤ 65535 := fun x hx => by
              rcases List.mem_append.1 hx with h | h
              · exact LS.out x h
              · obtain rfl := List.mem_singleton.1 h; omega
            have hfr : framesAt ((ls ++ [zs]).flatMap framed) 0 = (ls ++ [zs], k + nx) := by
              have h := framesAt_all (ls ++ [zs]) hlx2 []
              rw [List.append_nil, framesAt_no [] 0 (fun h => by have := h.1; simp at this)] at h
              rw [h, hlk]
              simp
            have HF2 := Lib.hid hfr
            have LS2 := Lib.hid hlx2
            clear hfr hlx2
            go_wp2_with fail
            refine (implFramesIn_any _ (k + nx) cl _ _ wl (by omega) (mine_cap ML.out) (fun h => by cases h) (Nat.le_refl _) ML.out.byts).mono ?_
            rintro e wf ⟨Af, nf, cf, he, mf, bf⟩
            rw [HF2.out] at he mf
            subst he
            have hnf : (ls ++ [zs]).length = nf := mf.len
            have hq2 := LL.out
            obtain rfl : nf = q + 1 := by rw [List.length_append, List.length_singleton] at hnf; omega
            have sf := bf.size
            have ZF := Lib.hid (ZL.out.below bf)
            have MF := Lib.hid (ML.out.below bf)
            have DF := Lib.hid (DL.out.grown (below_grow (row := none) bf) (fun r h => by cases h))
            have BF := Lib.hid (BL2.out.trans (bf.mono (by omega)))
            obtain ⟨gf, of_, Ai, ni, ci, rfl, _, hci, _, _, yi⟩ := (mf.bss).at_ (k := q) (by omega)
            have hbe : be (ls ++ [zs]) q = zs := by unfold be; rw [← hq2]; simp
            rw [hbe] at yi
            have YI := Lib.hid yi
            clear yi mf bf ZL ML DL BL2 hbe
            go_wp2_with fail
            refine (likeBytes_yes _ _ _ _ _ _ _ _ _ _ YI.out ZF.out.byts).mono ?_
            rintro e w' ⟨rfl, rfl⟩
            go_wp2
            go_roundw
            case rel => exact ⟨gl, k + nx, q + 1, cl, ls ++ [zs], by first | rfl | go_num, by go_num, by omega, by omega, by rw [List.length_append, List.length_singleton]; omega, LS2.out, MF.out, DF.out, BF.out, by omega⟩
            case measure => simp [intOf]; omega

theorem walk (a0 : Option Addr) (len0 cap0 : Nat) (z0 : List Int) (w : World) (w0 : IsRow .u8 w a0 len0 cap0 z0) :
    Calls Try.prog 3 #[.slice a0 len0 cap0] w fun e w' => e = .returned (.bool true) ∧ Below w.heap.size w w' := by
  have hle := w0.len_le
  by_cases hbig : 4096 < len0
  · clear w0
    go_enter Try.func3, Try.ntmps3
    go_wp2_with fail
    refine (big_yes _ _ _ _ hbig).mono ?_
    rintro e w' ⟨rfl, rfl⟩
    go_wp2
    go_ret
    exact ⟨rfl, Below.refl _ _⟩
  · exact walk0 a0 len0 cap0 _ w (by omega) w0.byts

/-! ### THE ROW's STEP: WRITTEN OUT: LEAVE IT -/
set_option maxRecDepth 100000 in
theorem lifted (os : Os) (started : os.Started) (H : Type) (enc : TypeId × Value → H) :
    ReturnsInHanded {} Try.checked os 3 .any (Rows.fnFramesSpec.pre6 enc Try.prog Try.f3 Rows.fnFramesRow.domain false) (Rows.fnFramesSpec.post enc Try.prog Try.f3 false true false false) := by
  refine returnsInHanded_of_change (C := Try.checked) own started (by kernel_rfl) Try.func3
    (ChangeSpec.witness6 (enc := enc) (C := Try.checked) false ⟨#[], #[.slice none 0 0], []⟩ 8 (by kernel_rfl) (by kernel_rfl) (by kernel_rfl) (by kernel_rfl)) ?_
  intro W base args ds gs before hval0 hW hcnd _
  have hval : ∀ (j : Nat) t v, Try.f3.params[j]? = some t → args[j]? = some v → Value.okWide Try.prog W .any base t v := hval0
  have hW' := hW
  obtain ⟨p, q, hA0, hV, rfl, hfz, hnd⟩ := hW
  have hA : DataW.TrodAll enc Try.prog W 0 (fun _ => true) true Try.f3.params.toList args.toList ds p := hA0
  rw [Try.params3] at hA hval
  obtain ⟨v0, vs0, d0, ds0, p0, q0, hargs, rfl, rfl, h0, r0⟩ := trodAll_cons hA
  obtain ⟨rfl, rfl, rfl⟩ := trodAll_nil r0
  obtain rfl : args = #[v0] := by cases args; simp_all
  obtain ⟨rfl, rfl⟩ := trodVars_none hV
  obtain ⟨a0, len0, cap0, rfl⟩ := okWide_slice Try.underlying22 (hval 0 22 v0 rfl rfl)
  have k0 := h0
  have lt0 : ∀ x ∈ p0, x.block < W.heap.size := by obtain ⟨m, hm⟩ := k0; exact DataW.trod_lt m _ _ _ hm
  obtain ⟨z0, w0⟩ : ∃ zs, IsRow .u8 W a0 len0 cap0 zs := by
    obtain ⟨fuel, hf⟩ := h0
    rcases open_ints Try.underlying22 Try.underlying5 (by kernel_rfl) hf with ⟨hcs, _⟩ | ⟨x, l, c, zs, hcs, _, hl, hm, hz, _, hcell, hwz⟩
    · simp [Value.cells] at hcs
      obtain ⟨rfl, rfl, rfl⟩ := hcs
      exact ⟨[], .inl ⟨rfl, rfl, rfl, rfl⟩⟩
    · simp [Value.cells] at hcs
      obtain ⟨rfl, rfl, rfl⟩ := hcs
      exact ⟨zs, .inr ⟨_, rfl, hl, hm, by simpa using hz, hcell, hwz⟩⟩
  clear hA0 hval0
  refine (walk a0 len0 cap0 z0 W w0).mono fun e W' ⟨he, bel⟩ => ?_
  subst he
  exact ⟨_, rfl, _, _, _, [], _, [], hW', trodAll_mk1 (shut_bool Try.underlying4 _), (trodAll_cons_mk (Below.trod laidOut (by kernel_rfl) (of_decide_eq_true (by kernel_rfl)) k0 bel lt0) trodAll_mk0), rfl, bel.frame _, fun h => by cases h⟩

theorem over : Rows.fnFramesRow.holds Try.pinned (OpenSpec.ofChange Rows.fnFramesSpec) :=
  OpenClaim.holds_of_wide 3 Try.f3 rfl rfl rfl rfl rfl rfl rfl ⟨rfl, rfl, rfl, rfl, rfl⟩ rfl rfl rfl rfl rfl (by kernel_rfl) Try.func3 (by kernel_rfl)
    (of_decide_eq_true (by kernel_rfl)) (by unfold Func.isWrapper; first | (rw [if_pos (by decide +kernel)]; kernel_rfl) | (rw [if_neg (by decide +kernel)]; exact ⟨rfl, rfl⟩))
    (fun os started H enc _ => lifted os started H enc)

/-- ████ THE STATEMENT ████ -/
theorem proved : Rows.FnFramesSaid := over
#print axioms proved
end Go.Proofs.Ytepaikljiddiaaa.fnFrames
