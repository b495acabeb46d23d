/- The bytes of a node, as the program writes them: a row of the call's own. -/
import Derived.Test.YtjmlpekaehfeeaaNodeQ
import Derived.Test.YtjmlpekaehfeeaaNodeB
import Derived.Lib.AppendStr
import Derived.StillTailTactics
namespace Go.Proofs.Ytjmlpekaehfeeaa
set_option maxRecDepth 20000
set_option linter.unusedSimpArgs false
open Go.RowKit

theorem kidsOk_mem' (ks : List (Int × Int)) {kind path val} (h : nodeOk ⟨kind, path, ks, val⟩ = true) (k : Int × Int) (hk : k ∈ ks) : 1 ≤ k.2 := by
  unfold nodeOk at h
  simp only [Bool.and_eq_true] at h
  have h2 := h.1.1.2
  unfold kidsOk at h2
  obtain ⟨i, hi, rfl⟩ := List.getElem_of_mem hk
  have := (of_decide_eq_true h2 i hi).2.1
  rw [List.getElem?_eq_getElem hi] at this
  exact this

theorem shown_any (k : Int) (w : World) :
    Calls Try.prog 61 #[.int .i64 k] w fun e w' => e = .returned (.int .u8 (k % 256)) ∧ w' = w := by
  go_enter Try.func61, Try.ntmps61
  go_wp2
  go_ret
  exact ⟨rfl, rfl⟩

theorem strCells_sb (s : ByteArray) : Lib.strCells s = (sb s).map (Value.int .u8) := by
  apply List.ext_getElem?
  intro i
  by_cases h : i < s.size
  · have e := sb_at s i h
    have hl : i < (sb s).length := by rw [sb_len]; exact h
    have h2 : i < s.data.size := h
    rw [List.getElem?_eq_getElem hl] at e
    simp [Lib.strCells, hl, h2]
    simp at e
    rw [e]
    exact ⟨_, Array.getElem?_eq_getElem h2, rfl⟩
  · rw [List.getElem?_eq_none (by rw [Lib.strCells_length]; omega), List.getElem?_eq_none (by rw [List.length_map, sb_len]; omega)]

theorem bytes_some (x : Int) (hx : 0 ≤ x) (w : World) :
    Calls Try.prog 62 #[.int .i64 x] w fun e w' => ∃ g n c, e = .returned (.slice (some ⟨g, 0, none⟩) n c) ∧ Mine w' w.heap.size (some ⟨g, 0, none⟩) n c (nameBytes x) ∧ Below w.heap.size w w' := by
  refine (bytes_any x w).mono ?_
  rintro e w' ⟨A, n, c, rfl, hm, hb⟩
  have hl := hm.len
  rw [nameBytes_yes x (by omega), nb_len] at hl
  obtain ⟨g, rfl, _⟩ := hm.form (by omega)
  exact ⟨g, n, c, rfl, hm, hb⟩

set_option maxHeartbeats 2000000 in      -- one walk, two loops and three appends between them
theorem implNodeBytes_any (v : Value) (nd : MNode) (B : Nat) (w : World) (hB : B ≤ w.heap.size) (hv : NodeIn w B v nd) :
    Calls Try.prog 26 #[v] w fun e w' => ∃ A n c, e = .returned (.slice A n c) ∧ Mine w' w.heap.size A n c (nodeBytes nd) ∧ Below w.heap.size w w' := by
  have HV := Lib.hid (hv.more hB)
  obtain ⟨Ap, np, cp, Ak, nk, ck, rfl, hnp, hnk, hsz, hp, hk⟩ := hv
  obtain ⟨kind, path, kids, val⟩ := nd
  have HP := Lib.hid (hp.more hB)
  have HK := Lib.hid (hk.more hB)
  have LP : Hid (path.length = np) := HP.out.1
  have LK : Hid (kids.length = nk) := HK.out.1
  clear hp hk
  obtain ⟨wa, hwa⟩ : ∃ wa, w.alloc (.cells #[.int .i64 kind, .slice Ap np cp, .slice Ak nk ck, .string val] 40) = wa := ⟨_, rfl⟩
  have xa : Box wa w.heap.size _ _ := hwa ▸ heap_alloc_new _ _
  have ba : Below w.heap.size w wa := hwa ▸ (Below.refl _ _).alloc (Nat.le_refl _) _
  have sa : w.heap.size < wa.heap.size := hwa ▸ by simp
  have XA := Lib.hid xa
  have BA := Lib.hid ba
  have HW := Lib.hid hwa
  clear xa ba hwa
  go_enter Try.func26, Try.ntmps26
  go_wp2_with fail
  rw [HW.out]
  refine (progNodeOk_any _ ⟨kind, path, kids, val⟩ _ wa (by omega) (HV.out.below BA.out)).mono ?_
  rintro e wb ⟨rfl, bb⟩
  have XB := Lib.hid (XA.out.below bb sa)
  have BB := Lib.hid (BA.out.trans (bb.mono (by omega)))
  have sb0 : w.heap.size < wb.heap.size := by have := bb.size; omega
  clear bb
  by_cases hok : nodeOk ⟨kind, path, kids, val⟩ = true
  · have hr := Lib.hid (show nodeBytes ⟨kind, path, kids, val⟩ = rawBytes ⟨kind, path, kids, val⟩ from if_pos hok)
    have HKM := Lib.hid (fun k (hk : k ∈ kids) => kidsOk_mem' kids hok k hk)
    rw [hok]
    have q0 := XB.out.cell 0
    have q1 := XB.out.cell 1
    have q2 := XB.out.cell 2
    have q3 := XB.out.cell 3
    simp at q0 q1 q2 q3
    obtain ⟨i0, hi, hz0, hz1, hz2⟩ := info_parts Try.info5
    have HI := Lib.hid hi
    have HZ0 := Lib.hid hz0
    have HZ1 := Lib.hid hz1
    have HZ2 := Lib.hid hz2
    clear hi hz0 hz1 hz2
    go_wp2
    refine wp_region_still_tail 7 (by kernel_rfl) (by kernel_rfl) ?_
    simp only [List.take_succ_cons, List.take_zero, List.drop_succ_cons, List.drop_zero]
    still_step
    still_step
    still_call (shown_any kind _)
    repeat still_step
    refine wpStill_nil ?_
    change wpList _ _ _ _ _ wb.drew
    have x1 : Box wb.drew w.heap.size _ _ := XB.out.below ((Below.refl wb.heap.size wb).drew) XB.out.lt
    have b1 : Below w.heap.size w wb.drew := BB.out.drew
    have s1 : wb.drew.heap.size = wb.heap.size := rfl
    obtain ⟨w1, hw1⟩ : ∃ w1, wb.drew = w1 := ⟨_, rfl⟩
    rw [hw1] at x1 b1 s1 ⊢
    obtain ⟨z, hz⟩ : ∃ z, w1.heap.size = z := ⟨_, rfl⟩
    have hzw : w.heap.size < z := by omega
    have X1 := Lib.hid x1
    have B1 := Lib.hid b1
    clear x1 b1 hw1 q0 q1 q2 q3 s1
    have m0 := Mine.of_alloc w1 z [kind % 256, (np : Int) % 256] 2 (by omega) rfl (by unfold maxLen; omega) (by intro z hz; simp at hz; omega)
    rw [hz] at m0
    have M0 := Lib.hid m0
    clear m0
    have X0 := Lib.hid (X1.out.below ((Below.refl w1.heap.size w1).alloc (Nat.le_refl _) (.cells #[.int .u8 (kind % 256), .int .u8 ((np : Int) % 256)] 5)) X1.out.lt)
    have q1 := X0.out.cell 1
    simp at q1
    go_wp2
    clear q1
    go_loopw [3, 22] (fun b i wr => ∃ k g n c : Nat, k ≤ np ∧ i = .int .i64 k ∧ b = .slice (some ⟨g, 0, none⟩) n c ∧ Mine wr z (some ⟨g, 0, none⟩) n c ([kind % 256, (np : Int) % 256] ++ (path.take k).map (· % 256)) ∧ Below z w1 wr) (fun _ i _ => np - (intOf i).toNat)
    case atStart => exact ⟨0, _, 2, 2, Nat.zero_le _, rfl, rfl, M0.out, (Below.refl _ _).alloc (by omega) _⟩
    case round =>
      obtain ⟨k, g, n, c, hk, rfl, rfl, hm, hbr⟩ := hrel
      have hlen := hm.len
      have XR := Lib.hid (X1.out.below hbr (by omega))
      have BR := Lib.hid hbr
      have BW := Lib.hid (B1.out.trans (hbr.mono (by omega)))
      have MR := Lib.hid hm
      clear hm hbr
      have sr := BR.out.size
      by_cases hlt : k < np
      · have hn : n = 2 + k := by
          have := LP.out
          simp at hlen; omega
        obtain ⟨b, off, rfl, hbB, hc⟩ := (HP.out.below BW.out).at_ hlt
        have hst := map_take_step (· % 256) path k (by rw [LP.out]; exact hlt)
        generalize path[k]?.getD 0 = y at hc hst
        have HST := Lib.hid hst
        clear hst
        go_wp2_with (at_builtin; refine wpList_append_lies _ rfl _ _ 22 rfl z 5 i0 (.int .u8 0) 1 1 Try.underlying22 HI.out HZ0.out HZ1.out HZ2.out rfl (by decide) _ _ _ rfl (MR.out.1.alloc _) ⟨wr.heap.size, 0, none⟩ 1 1 ([y % 256].map (Value.int .u8)) rfl ?a0 ?a1 ?a2 (by omega) ?a3 ?a4 ?a5 _ rfl ?_)
        case a0 => first | rfl | (simp; done) | simp [sb_len]
        case a1 =>
          intro j u hj
          match j, hj with
          | 0, hj => simp at hj; subst hj; simp [Addr.add]
        case a2 => intro u hu; obtain ⟨z, _, rfl⟩ := List.mem_map.1 hu; rfl
        case a3 => unfold maxLen; omega
        case a4 => omega
        case a5 => simp; omega
        intro g2 c2 w2 hown2 hgrow2 _ _
        have hm2 := MR.out.app (ys := [y % 256]) (by intro y hy; simp at hy; omega) (by simpa using hown2)
        have hb2 : Below z w1 w2 := (BR.out.alloc (by omega) _).grown hgrow2 (by simp; omega) (fun g hg => (MR.out.1.lt g hg).1)
        rw [List.append_assoc, ← HST.out] at hm2
        have M2 := Lib.hid hm2
        have B2 := Lib.hid hb2
        clear hm2 hb2 hown2 hgrow2
        go_wp2
        go_roundw
        case rel => exact ⟨k + 1, _, _, _, by omega, by go_num, rfl, M2.out, B2.out⟩
        case measure => simp [intOf]; omega
      · have hpt : path.take k = path := List.take_of_length_le (by rw [LP.out]; omega)
        rw [hpt] at MR
        have hn : n = 2 + np := by
          have h0 := MR.out.len
          have := LP.out
          simp at h0; omega
        have q3 := XR.out.cell 3
        simp at q3
        go_wp2_with (at_builtin; refine wpList_append_lies _ rfl _ _ 22 rfl z 5 i0 (.int .u8 0) 1 1 Try.underlying22 HI.out HZ0.out HZ1.out HZ2.out rfl (by decide) _ _ _ rfl (MR.out.1.alloc _) ⟨wr.heap.size, 0, none⟩ 1 1 ([(val.size : Int) % 256].map (Value.int .u8)) rfl ?d0 ?d1 ?d2 (by omega) ?d3 ?d4 ?d5 _ rfl ?_)
        case d0 => first | rfl | (simp; done) | simp [sb_len]
        case d1 =>
          intro j u hj
          match j, hj with
          | 0, hj => simp at hj; subst hj; simp [Addr.add]
        case d2 => intro u hu; obtain ⟨z, _, rfl⟩ := List.mem_map.1 hu; rfl
        case d3 => unfold maxLen; omega
        case d4 => omega
        case d5 => simp; omega
        intro g5 c5 w5 hown5 hgrow5 _ _
        have hm5 := MR.out.app (ys := [(val.size : Int) % 256]) (by intro y hy; simp at hy; omega) (by simpa using hown5)
        have hb5 : Below z w1 w5 := (BR.out.alloc (by omega) _).grown hgrow5 (by simp; omega) (fun g hg => (MR.out.1.lt g hg).1)
        have M5 := Lib.hid hm5
        have B5 := Lib.hid hb5
        clear hm5 hb5 hown5 hgrow5 q3
        have s5 := B5.out.size
        have X5 := Lib.hid (X1.out.below B5.out (by omega))
        have q3 := X5.out.cell 3
        simp at q3
        go_wp2_with (at_builtin; refine Lib.wpList_append_own_string _ rfl _ _ 22 9 rfl z 5 i0 Try.underlying22 Try.underlying9 HI.out HZ0.out HZ1.out HZ2.out _ _ _ rfl M5.out.1 val rfl ?e3 ?e4 ?e5 ?_)
        case e3 => unfold maxLen; omega
        case e4 => omega
        case e5 => omega
        intro v7 w7 hown7 hgrow7 hnil7
        rw [strCells_sb] at hown7
        have hv : ∃ g c, v7 = .slice (some ⟨g, 0, none⟩) (2 + np + 1 + val.size) c := by
          have h0 : v7 ≠ .slice none 0 0 := by simpa using hnil7
          rcases hown7.2 with ⟨e, _⟩ | ⟨g, cap, cur, e, _⟩
          · exact absurd e h0
          · exact ⟨g, cap, e⟩
        obtain ⟨g7, c7, rfl⟩ := hv
        have hm7 := M5.out.app (ys := sb val) (sb_bd val) (by simpa using hown7)
        have hb7 : Below z w1 w7 := B5.out.grown hgrow7 (by omega) (fun g hg => (M5.out.1.lt g hg).1)
        have M7 := Lib.hid hm7
        have B7 := Lib.hid hb7
        clear hm7 hb7 hown7 hgrow7 hnil7 q3
        have s7 := B7.out.size
        have X7 := Lib.hid (X1.out.below B7.out (by omega))
        have q2 := X7.out.cell 2
        simp at q2
        go_wp2_with (at_builtin; refine wpList_append_lies _ rfl _ _ 22 rfl z 5 i0 (.int .u8 0) 1 1 Try.underlying22 HI.out HZ0.out HZ1.out HZ2.out rfl (by decide) _ _ _ rfl (M7.out.1.alloc _) ⟨w7.heap.size, 0, none⟩ 1 1 ([(nk : Int) % 256].map (Value.int .u8)) rfl ?f0 ?f1 ?f2 (by omega) ?f3 ?f4 ?f5 _ rfl ?_)
        case f0 => first | rfl | (simp; done) | simp [sb_len]
        case f1 =>
          intro j u hj
          match j, hj with
          | 0, hj => simp at hj; subst hj; simp [Addr.add]
        case f2 => intro u hu; obtain ⟨z, _, rfl⟩ := List.mem_map.1 hu; rfl
        case f3 => unfold maxLen; omega
        case f4 => omega
        case f5 => simp; omega
        intro g8 c8 w8 hown8 hgrow8 _ _
        have hm8 := M7.out.app (ys := [(nk : Int) % 256]) (by intro y hy; simp at hy; omega) (by simpa using hown8)
        have hb8 : Below z w1 w8 := (B7.out.alloc (by omega) _).grown hgrow8 (by simp; omega) (fun g hg => (M7.out.1.lt g hg).1)
        generalize hpre : [kind % 256, (np : Int) % 256] ++ path.map (· % 256) ++ [(val.size : Int) % 256] ++ sb val ++ [(nk : Int) % 256] = pre at hm8
        have hplen : pre.length = 2 + np + 1 + val.size + 1 := hm8.len
        have HPRE := Lib.hid hpre
        have M8 := Lib.hid hm8
        have B8 := Lib.hid hb8
        clear hm8 hb8 hown8 hgrow8 q2 hpre
        have s8 := B8.out.size
        have X8 := Lib.hid (X1.out.below B8.out (by omega))
        have q2 := X8.out.cell 2
        simp at q2
        go_wp2
        clear q2
        go_loopw [3, 53] (fun b i wr => ∃ k g n c : Nat, k ≤ nk ∧ i = .int .i64 k ∧ b = .slice (some ⟨g, 0, none⟩) n c ∧ Mine wr z (some ⟨g, 0, none⟩) n c (pre ++ (kids.take k).flatMap kidBytes) ∧ Below z w1 wr) (fun _ i _ => nk - (intOf i).toNat)
        case atStart => exact ⟨0, _, _, _, Nat.zero_le _, rfl, rfl, by simpa using M8.out, B8.out⟩
        case round =>
          obtain ⟨k, g, n, c, hk, rfl, rfl, hm, hbr⟩ := hrel
          have hlen := hm.len
          have BR := Lib.hid hbr
          have BW := Lib.hid (B1.out.trans (hbr.mono (by omega)))
          have MR := Lib.hid hm
          clear hm hbr
          have sr := BR.out.size
          have hn : n ≤ 20000000 := by
            have h1 := kidBytes_len (kids.take k)
            have h2 : (kids.take k).length ≤ nk := by rw [List.length_take, LK.out]; omega
            rw [List.length_append] at hlen
            omega
          clear hlen
          by_cases hlt : k < nk
          · have hst : (kids.take (k + 1)).flatMap kidBytes = (kids.take k).flatMap kidBytes ++ kidBytes (kids[k]?.getD (0, 0)) := by
              rw [List.take_succ_eq_append_getElem (by rw [LK.out]; exact hlt), List.flatMap_append, List.getElem?_eq_getElem (by rw [LK.out]; exact hlt)]
              simp
            have hx1 : 1 ≤ (kids[k]?.getD (0, 0)).2 := by
              rw [List.getElem?_eq_getElem (by rw [LK.out]; exact hlt)]
              exact HKM.out _ (List.getElem_mem _)
            obtain ⟨b, off, rfl, hbB, h0, h1⟩ := (HK.out.below BW.out).at_ hlt
            generalize kids[k]?.getD (0, 0) = x at h0 h1 hst hx1
            have HST := Lib.hid hst
            clear hst
            obtain ⟨wk, hwk⟩ : ∃ wk, wr.alloc (.cells #[.int .i64 x.1, .int .i64 x.2] 79) = wk := ⟨_, rfl⟩
            have xk : Box wk wr.heap.size _ _ := hwk ▸ heap_alloc_new _ _
            have bk : Below wr.heap.size wr wk := hwk ▸ (Below.refl _ _).alloc (Nat.le_refl _) _
            have sk : wr.heap.size < wk.heap.size := hwk ▸ by simp
            have XK := Lib.hid xk
            have MK := Lib.hid (MR.out.below bk)
            have BK := Lib.hid (BR.out.trans (bk.mono (by omega)))
            have hgk : g < wr.heap.size := (MR.out.1.lt g rfl).2
            clear xk bk
            have p0 := XK.out.cell 0
            have p1 := XK.out.cell 1
            simp at p0 p1
            go_wp2_with (at_builtin; refine wpList_append_lies _ rfl _ _ 22 rfl z 5 i0 (.int .u8 0) 1 1 Try.underlying22 HI.out HZ0.out HZ1.out HZ2.out rfl (by decide) _ _ _ rfl (MK.out.1.alloc _) ⟨wk.heap.size, 0, none⟩ 1 1 ([x.1 % 256].map (Value.int .u8)) rfl ?g0 ?g1 ?g2 (by omega) ?g3 ?g4 ?g5 _ rfl ?_)
            case g0 => first | rfl | (simp; done) | simp [sb_len]
            case g1 =>
              intro j u hj
              match j, hj with
              | 0, hj => simp at hj; subst hj; simp [Addr.add]
            case g2 => intro u hu; obtain ⟨z, _, rfl⟩ := List.mem_map.1 hu; rfl
            case g3 => unfold maxLen; omega
            case g4 => omega
            case g5 => simp; omega
            intro g2 c2 w2 hown2 hgrow2 _ _
            have hm2 := MK.out.app (ys := [x.1 % 256]) (by intro y hy; simp at hy; omega) (by simpa using hown2)
            have hb2 : Below z w1 w2 := (BK.out.alloc (by omega) _).grown hgrow2 (by simp; omega) (fun g hg => (MK.out.1.lt g hg).1)
            have xk2 : Box w2 wr.heap.size _ _ := (XK.out.below ((Below.refl wk.heap.size wk).alloc (Nat.le_refl _) _) sk).grown hgrow2 (by simp [Value.ownBlock]; omega)
            have XK := Lib.hid xk2
            have M2 := Lib.hid hm2
            have B2 := Lib.hid hb2
            clear hm2 hb2 hown2 hgrow2 p0 p1 h0 h1 hwk xk2
            have s2 := B2.out.size
            have p0 := XK.out.cell 0
            have p1 := XK.out.cell 1
            simp at p0 p1
            go_wp2_with fail
            refine (bytes_some x.2 (by omega) _).mono ?_
            rintro e w3 ⟨g3, n3, c3, rfl, m3, b3⟩
            have hn3 : n3 ≤ 8 := by have := nameBytes_len8 x.2; have := m3.len; omega
            have M3 := Lib.hid m3
            have M2 := Lib.hid (M2.out.below b3)
            have B3 := Lib.hid (B2.out.trans (b3.mono (by omega)))
            clear m3 b3 p0 p1
            have s3 := B3.out.size
            go_wp2_with (at_builtin; refine wpList_append_own _ rfl _ _ 22 rfl z 5 i0 (.int .u8 0) 1 1 Try.underlying22 HI.out HZ0.out HZ1.out HZ2.out rfl (by decide) _ _ _ rfl M2.out.1 ⟨g3, 0, none⟩ n3 _ ((nameBytes x.2).map (Value.int .u8)) rfl ?h0 ?h1 ?h2 ?h3 ?h4 ?h5 ?_)
            case h0 => rw [List.length_map, Nat.mul_one]; first | rfl | exact sb_len _ | exact M3.out.len
            case h1 => exact World.ownsRow.cells M3.out.1 rfl
            case h2 => intro u hu; obtain ⟨z, _, rfl⟩ := List.mem_map.1 hu; rfl
            case h3 => unfold maxLen; omega
            case h4 => omega
            case h5 => omega
            intro v4 w4 hown4 hgrow4 hnil4
            have hv : ∃ g c, v4 = .slice (some ⟨g, 0, none⟩) (n + 1 + n3) c := by
              rcases hown4.2 with ⟨e, _⟩ | ⟨g, cap, cur, e, _⟩
              · exact absurd e hnil4
              · exact ⟨g, cap, e⟩
            obtain ⟨g4, c4, rfl⟩ := hv
            have hm4 := M2.out.app (ys := nameBytes x.2) M3.out.2 (by simpa using hown4)
            have hb4 : Below z w1 w4 := B3.out.grown hgrow4 (by omega) (fun g hg => (M2.out.1.lt g hg).1)
            have he : pre ++ (kids.take k).flatMap kidBytes ++ [x.1 % 256] ++ nameBytes x.2 = pre ++ (kids.take (k + 1)).flatMap kidBytes := by
              rw [HST.out]; simp [kidBytes]
            rw [he] at hm4
            have M4 := Lib.hid hm4
            have B4 := Lib.hid hb4
            clear hm4 hb4 hown4 hgrow4 hnil4 he
            go_wp2
            go_roundw
            case rel => exact ⟨k + 1, _, _, _, by omega, by go_num, rfl, M4.out, B4.out⟩
            case measure => simp [intOf]; omega
          · have hkt : kids.take k = kids := List.take_of_length_le (by rw [LK.out]; omega)
            rw [hkt] at MR
            go_wp2
            go_ret
            refine ⟨_, n, c, rfl, ?_, BW.out⟩
            have hrw : rawBytes ⟨kind, path, kids, val⟩ = pre ++ kids.flatMap kidBytes := by
              unfold rawBytes
              rw [← HPRE.out]
              simp only [LP.out, LK.out]
            rw [hr.out, hrw]
            exact MR.out.base (by omega)
  · have hr := Lib.hid (show nodeBytes ⟨kind, path, kids, val⟩ = [] from if_neg hok)
    have hok : nodeOk ⟨kind, path, kids, val⟩ = false := by simpa using hok
    rw [hok]
    go_wp2
    go_ret
    exact ⟨none, 0, 0, rfl, by rw [hr.out]; exact Mine.nil _ _, BB.out⟩
end Go.Proofs.Ytjmlpekaehfeeaa
