/- The bytes of a node, as the model writes them: a row of the call's own. -/
import Derived.Test.YtjmlpekaehfeeaaTouch
import Derived.Test.YtjmlpekaehfeeaaNodeK
import Derived.Test.YtjmlpekaehfeeaaNameB
import Derived.Laws.IdiomStrings
namespace Go.Proofs.Ytjmlpekaehfeeaa
set_option maxRecDepth 20000
open Go.RowKit

/-- the bytes that are written of a node, each number in one byte. -/
def kidBytes (k : Int × Int) : List Int := k.1 % 256 :: nameBytes k.2
def rawBytes (nd : MNode) : List Int :=
  [nd.kind % 256, (nd.path.length : Int) % 256] ++ nd.path.map (· % 256) ++ [(nd.val.size : Int) % 256] ++ sb nd.val ++ [(nd.kids.length : Int) % 256] ++ nd.kids.flatMap kidBytes
theorem nameBytes_len8 (x : Int) : (nameBytes x).length ≤ 8 := by
  unfold nameBytes
  split <;> simp [nb]
theorem kidBytes_len (ks : List (Int × Int)) : (ks.flatMap kidBytes).length ≤ ks.length * 9 := by
  induction ks with
  | nil => simp
  | cons k r ih =>
    have := nameBytes_len8 k.2
    simp [kidBytes] at ih ⊢
    omega
theorem Mine.app {w1 w2 : World} {base g n c g' c' m : Nat} {xs ys : List Int} (hm : Mine w1 base (some ⟨g, 0, none⟩) n c xs) (hys : ∀ z ∈ ys, 0 ≤ z ∧ z ≤ 255)
    (hown' : w2.ownsRow base 5 1 (.slice (some ⟨g', 0, none⟩) m c') m (xs.map (Value.int .u8) ++ ys.map (Value.int .u8))) : Mine w2 base (some ⟨g', 0, none⟩) m c' (xs ++ ys) := by
  refine ⟨by rw [List.map_append]; exact hown', fun z hz => ?_⟩
  rcases List.mem_append.1 hz with hz | hz
  · exact hm.2 z hz
  · exact hys z hz
/-- a text turned into bytes: a new row of just these. -/
theorem conv_str (s : ByteArray) (w : World) : ∃ cap w', (convert 9 22 (.string s)).run Try.prog w = .ok (.slice (some ⟨w.heap.size, 0, none⟩) s.size cap) w' ∧ Below w.heap.size w w' ∧ w'.heap.size = w.heap.size + 1 ∧
    ∀ j u, ((sb s).map (Value.int .u8))[j]? = some u → w'.cell? ((⟨w.heap.size, 0, none⟩ : Addr).add j) = some u := by
  refine ⟨_, _, run_bytes_of_string w _ _ _ s Try.underlying9 Try.underlying22 Try.underlying5, ?_, by simp, ?_⟩
  · exact (Below.refl w.heap.size w).drew.alloc (Nat.le_refl _) _
  · intro j u hj
    have hadd : (⟨w.heap.size, 0, none⟩ : Addr).add j = ⟨w.heap.size, j, none⟩ := by unfold Addr.add; split <;> simp_all
    rw [hadd]
    have hjl : j < (sb s).length := by
      rcases Nat.lt_or_ge j (sb s).length with h | h
      · exact h
      · rw [List.getElem?_eq_none (by simpa using h)] at hj; cases hj
    have hj2 : j < s.data.size := by rw [sb_len] at hjl; exact hjl
    have h := World.cell?_alloc_mark w.drew (bytesRow s (grownCap w s.size 0 5)) 5 ((bytesRow s (grownCap w s.size 0 5)).size, (bytesRow s (grownCap w s.size 0 5)).size + 1) j
    have h' : (w.drew.alloc (.cells (bytesRow s (grownCap w s.size 0 5)) 5 ((bytesRow s (grownCap w s.size 0 5)).size, (bytesRow s (grownCap w s.size 0 5)).size + 1))).cell? ⟨w.heap.size, j, none⟩ = _ := h
    rw [h', bytesRow_at s _ j hj2]
    have e := sb_at s j hj2
    simp [hjl] at hj e
    rw [← hj, e]
    rfl

theorem l3Bytes_any (v : Value) (nd : MNode) (B : Nat) (w : World) (hB : B ≤ w.heap.size) (hv : NodeIn w B v nd) :
    Calls Try.prog 63 #[v] w fun e w' => ∃ g n c, e = .returned (.slice (some ⟨g, 0, none⟩) n c) ∧ Mine w' w.heap.size (some ⟨g, 0, none⟩) n c (rawBytes nd) ∧ Below w.heap.size w w' := by
  obtain ⟨Ap, np, cp, Ak, nk, ck, rfl, hnp, hnk, hsz, hp, hk⟩ := hv
  obtain ⟨kind, path, kids, val⟩ := nd
  have HP := Lib.hid (hp.more hB)
  have HK := Lib.hid (hk.more hB)
  clear hp hk
  obtain ⟨w1, hw1⟩ : ∃ w1, w.alloc (.cells #[.int .i64 kind, .slice Ap np cp, .slice Ak nk ck, .string val] 40) = w1 := ⟨_, rfl⟩
  have x1 : Box w1 w.heap.size _ _ := hw1 ▸ heap_alloc_new _ _
  have s1 : w1.heap.size = w.heap.size + 1 := hw1 ▸ by simp
  have b1 : Below w.heap.size w w1 := hw1 ▸ (Below.refl _ _).alloc (Nat.le_refl _) _
  have X1 := Lib.hid x1
  have B1 := Lib.hid b1
  have HW := Lib.hid hw1
  clear x1 b1 hw1
  go_enter Try.func63, Try.ntmps63
  go_wp2
  rw [HW.out]
  obtain ⟨i0, hi, hz0, hz1, hz2⟩ := info_parts Try.info5
  have HI := Lib.hid hi
  have HZ0 := Lib.hid hz0
  have HZ1 := Lib.hid hz1
  have HZ2 := Lib.hid hz2
  clear hi hz0 hz1 hz2
  have m0 := (Mine.of_alloc w1 (w.heap.size + 1) [kind % 256, (np : Int) % 256] 2 (by omega) rfl (by unfold maxLen; omega) (by intro z hz; simp at hz; omega))
  rw [s1] at m0
  have M0 := Lib.hid m0
  clear m0
  have LP : Hid (path.length = np) := HP.out.1
  have LK : Hid (kids.length = nk) := HK.out.1
  go_loopw [3, 4] (fun b i wr => ∃ k g n c : Nat, k ≤ np ∧ i = .int .i64 k ∧ b = .slice (some ⟨g, 0, none⟩) n c ∧ Mine wr (w.heap.size + 1) (some ⟨g, 0, none⟩) n c ([kind % 256, (np : Int) % 256] ++ (path.take k).map (· % 256)) ∧ Below (w.heap.size + 1) w1 wr) (fun _ i _ => np - (intOf i).toNat)
  case atStart => exact ⟨0, _, 2, 2, Nat.zero_le _, rfl, rfl, M0.out, (Below.refl _ _).alloc (by omega) _⟩
  case round =>
    obtain ⟨k, g, n, c, hk, rfl, rfl, hm, hbr⟩ := hrel
    have hlen := hm.len
    have XR := Lib.hid (X1.out.below hbr (by omega))
    have BR := Lib.hid hbr
    have BW := Lib.hid (B1.out.trans (hbr.mono (by omega)))
    have MR := Lib.hid hm
    clear hm hbr
    have sr := BR.out.size
    have q1 := XR.out.cell 1
    simp at q1
    by_cases hlt : k < np
    · have hn : n = 2 + k := by
        have := LP.out
        simp at hlen; omega
      obtain ⟨b, off, rfl, hbB, hc⟩ := (HP.out.below BW.out).at_ hlt
      have hst := map_take_step (· % 256) path k (by rw [LP.out]; exact hlt)
      generalize path[k]?.getD 0 = z at hc hst
      have HST := Lib.hid hst
      clear hst
      go_wp2_with (at_builtin; refine wpList_append_lies _ rfl _ _ 22 rfl (w.heap.size + 1) 5 i0 (.int .u8 0) 1 1 Try.underlying22 HI.out HZ0.out HZ1.out HZ2.out rfl (by decide) _ _ _ rfl (MR.out.1.alloc _) ⟨wr.heap.size, 0, none⟩ 1 1 ([z % 256].map (Value.int .u8)) rfl ?a0 ?a1 ?a2 (by omega) ?a3 ?a4 ?a5 _ rfl ?_)
      case a0 => first | rfl | (simp; done) | simp [sb_len]
      case a1 =>
        intro j u hj
        match j, hj with
        | 0, hj => simp at hj; subst hj; simp [Addr.add]
      case a2 => intro u hu; obtain ⟨z, _, rfl⟩ := List.mem_map.1 hu; rfl
      case a3 => unfold maxLen; omega
      case a4 => omega
      case a5 => simp; omega
      intro g2 c2 w2 hown hgrow _ _
      have hm2 := MR.out.app (ys := [z % 256]) (by intro y hy; simp at hy; omega) (by simpa using hown)
      have hb2 : Below (w.heap.size + 1) w1 w2 := (BR.out.alloc (by omega) _).grown hgrow (by simp; omega) (fun g hg => (MR.out.1.lt g hg).1)
      rw [List.append_assoc, ← HST.out] at hm2
      have M2 := Lib.hid hm2
      have B2 := Lib.hid hb2
      clear hm2 hb2 hown hgrow
      go_wp2
      go_roundw
      case rel => exact ⟨k + 1, _, _, _, by omega, by go_num, rfl, M2.out, B2.out⟩
      case measure => simp [intOf]; omega
    · have hpt : path.take k = path := List.take_of_length_le (by rw [LP.out]; omega)
      rw [hpt] at MR
      have hn : n = 2 + np := by
        have h0 := MR.out.len
        have := LP.out
        simp at h0; omega
      have q3 := XR.out.cell 3
      simp at q3
      go_wp2_with (at_builtin; refine wpList_append_lies _ rfl _ _ 22 rfl (w.heap.size + 1) 5 i0 (.int .u8 0) 1 1 Try.underlying22 HI.out HZ0.out HZ1.out HZ2.out rfl (by decide) _ _ _ rfl (MR.out.1.alloc _) ⟨wr.heap.size, 0, none⟩ 1 1 ([(val.size : Int) % 256].map (Value.int .u8)) rfl ?d0 ?d1 ?d2 (by omega) ?d3 ?d4 ?d5 _ rfl ?_)
      case d0 => first | rfl | (simp; done) | simp [sb_len]
      case d1 =>
        intro j u hj
        match j, hj with
        | 0, hj => simp at hj; subst hj; simp [Addr.add]
      case d2 => intro u hu; obtain ⟨z, _, rfl⟩ := List.mem_map.1 hu; rfl
      case d3 => unfold maxLen; omega
      case d4 => omega
      case d5 => simp; omega
      intro g5 c5 w5 hown5 hgrow5 _ _
      have hm5 := MR.out.app (ys := [(val.size : Int) % 256]) (by intro y hy; simp at hy; omega) (by simpa using hown5)
      have hb5 : Below (w.heap.size + 1) w1 w5 := (BR.out.alloc (by omega) _).grown hgrow5 (by simp; omega) (fun g hg => (MR.out.1.lt g hg).1)
      have M5 := Lib.hid hm5
      have B5 := Lib.hid hb5
      clear hm5 hb5 hown5 hgrow5 q1 q3
      have s5 := B5.out.size
      have X5 := Lib.hid (X1.out.below B5.out (by omega))
      have q3 := X5.out.cell 3
      simp at q3
      obtain ⟨cap6, w6, hconv, b6, s6, hcell6⟩ := conv_str val w5
      have C6 := Lib.hid hcell6
      have M6 := Lib.hid (M5.out.below b6)
      have B6 := Lib.hid (B5.out.trans (b6.mono (by omega)))
      clear hcell6 b6
      go_wp2_with (at_builtin; refine wpList_append_own _ rfl _ _ 22 rfl (w.heap.size + 1) 5 i0 (.int .u8 0) 1 1 Try.underlying22 HI.out HZ0.out HZ1.out HZ2.out rfl (by decide) _ _ _ rfl M6.out.1 ⟨w5.heap.size, 0, none⟩ val.size _ ((sb val).map (Value.int .u8)) rfl ?e0 ?e1 ?e2 ?e3 ?e4 ?e5 ?_)
      case e0 => rw [List.length_map, Nat.mul_one]; first | rfl | exact sb_len _ | exact M8.out.len
      case e1 => exact C6.out
      case e2 => intro u hu; obtain ⟨z, _, rfl⟩ := List.mem_map.1 hu; rfl
      case e3 => unfold maxLen; omega
      case e4 => omega
      case e5 => omega
      intro v7 w7 hown7 hgrow7 hnil7
      clear hconv
      have hv : ∃ g c, v7 = .slice (some ⟨g, 0, none⟩) (2 + np + 1 + val.size) c := by
        rcases hown7.2 with ⟨e, _⟩ | ⟨g, cap, cur, e, _⟩
        · exact absurd e hnil7
        · exact ⟨g, cap, e⟩
      obtain ⟨g7, c7, rfl⟩ := hv
      have hm7 := M6.out.app (ys := sb val) (sb_bd val) (by simpa using hown7)
      have hb7 : Below (w.heap.size + 1) w1 w7 := B6.out.grown hgrow7 (by omega) (fun g hg => (M6.out.1.lt g hg).1)
      have M7 := Lib.hid hm7
      have B7 := Lib.hid hb7
      clear hm7 hb7 hown7 hgrow7 hnil7 q3
      have s7 := B7.out.size
      have X7 := Lib.hid (X1.out.below B7.out (by omega))
      have q2 := X7.out.cell 2
      simp at q2
      go_wp2_with (at_builtin; refine wpList_append_lies _ rfl _ _ 22 rfl (w.heap.size + 1) 5 i0 (.int .u8 0) 1 1 Try.underlying22 HI.out HZ0.out HZ1.out HZ2.out rfl (by decide) _ _ _ rfl (M7.out.1.alloc _) ⟨w7.heap.size, 0, none⟩ 1 1 ([(nk : Int) % 256].map (Value.int .u8)) rfl ?f0 ?f1 ?f2 (by omega) ?f3 ?f4 ?f5 _ rfl ?_)
      case f0 => first | rfl | (simp; done) | simp [sb_len]
      case f1 =>
        intro j u hj
        match j, hj with
        | 0, hj => simp at hj; subst hj; simp [Addr.add]
      case f2 => intro u hu; obtain ⟨z, _, rfl⟩ := List.mem_map.1 hu; rfl
      case f3 => unfold maxLen; omega
      case f4 => omega
      case f5 => simp; omega
      intro g8 c8 w8 hown8 hgrow8 _ _
      have hm8 := M7.out.app (ys := [(nk : Int) % 256]) (by intro y hy; simp at hy; omega) (by simpa using hown8)
      have hb8 : Below (w.heap.size + 1) w1 w8 := (B7.out.alloc (by omega) _).grown hgrow8 (by simp; omega) (fun g hg => (M7.out.1.lt g hg).1)
      generalize hpre : [kind % 256, (np : Int) % 256] ++ path.map (· % 256) ++ [(val.size : Int) % 256] ++ sb val ++ [(nk : Int) % 256] = pre at hm8
      have hplen : pre.length = 2 + np + 1 + val.size + 1 := hm8.len
      have HPRE := Lib.hid hpre
      have M8 := Lib.hid hm8
      have B8 := Lib.hid hb8
      clear hm8 hb8 hown8 hgrow8 q2 hpre
      go_wp2
      go_loopw [3, 5] (fun b i wr => ∃ k g n c : Nat, k ≤ nk ∧ i = .int .i64 k ∧ b = .slice (some ⟨g, 0, none⟩) n c ∧ Mine wr (w.heap.size + 1) (some ⟨g, 0, none⟩) n c (pre ++ (kids.take k).flatMap kidBytes) ∧ Below (w.heap.size + 1) w1 wr) (fun _ i _ => nk - (intOf i).toNat)
      case atStart => exact ⟨0, _, _, _, Nat.zero_le _, rfl, rfl, by simpa using M8.out, B8.out⟩
      case round =>
        obtain ⟨k, g, n, c, hk, rfl, rfl, hm, hbr⟩ := hrel
        have hlen := hm.len
        have XR := Lib.hid (X1.out.below hbr (by omega))
        have BR := Lib.hid hbr
        have BW := Lib.hid (B1.out.trans (hbr.mono (by omega)))
        have MR := Lib.hid hm
        clear hm hbr
        have sr := BR.out.size
        have q2 := XR.out.cell 2
        simp at q2
        have hn : n ≤ 20000000 := by
          have h1 := kidBytes_len (kids.take k)
          have h2 : (kids.take k).length ≤ nk := by rw [List.length_take, LK.out]; omega
          rw [List.length_append] at hlen
          omega
        clear hlen
        by_cases hlt : k < nk
        · have hst : (kids.take (k + 1)).flatMap kidBytes = (kids.take k).flatMap kidBytes ++ kidBytes (kids[k]?.getD (0, 0)) := by
            rw [List.take_succ_eq_append_getElem (by rw [LK.out]; exact hlt), List.flatMap_append, List.getElem?_eq_getElem (by rw [LK.out]; exact hlt)]
            simp
          obtain ⟨b, off, rfl, hbB, h0, h1⟩ := (HK.out.below BW.out).at_ hlt
          generalize hx : kids[k]?.getD (0, 0) = x at h0 h1 hst
          have HX := Lib.hid hx
          clear hx
          have HST := Lib.hid hst
          clear hst
          go_wp2_with (at_builtin; refine wpList_append_lies _ rfl _ _ 22 rfl (w.heap.size + 1) 5 i0 (.int .u8 0) 1 1 Try.underlying22 HI.out HZ0.out HZ1.out HZ2.out rfl (by decide) _ _ _ rfl (MR.out.1.alloc _) ⟨wr.heap.size, 0, none⟩ 1 1 ([x.1 % 256].map (Value.int .u8)) rfl ?g0 ?g1 ?g2 (by omega) ?g3 ?g4 ?g5 _ rfl ?_)
          case g0 => first | rfl | (simp; done) | simp [sb_len]
          case g1 =>
            intro j u hj
            match j, hj with
            | 0, hj => simp at hj; subst hj; simp [Addr.add]
          case g2 => intro u hu; obtain ⟨z, _, rfl⟩ := List.mem_map.1 hu; rfl
          case g3 => unfold maxLen; omega
          case g4 => omega
          case g5 => simp; omega
          intro g2 c2 w2 hown hgrow _ _
          have hm2 := MR.out.app (ys := [x.1 % 256]) (by intro y hy; simp at hy; omega) (by simpa using hown)
          have hb2 : Below (w.heap.size + 1) w1 w2 := (BR.out.alloc (by omega) _).grown hgrow (by simp; omega) (fun g hg => (MR.out.1.lt g hg).1)
          have M2 := Lib.hid hm2
          have B2 := Lib.hid hb2
          clear hm2 hb2 hown hgrow q2 h0 h1
          have s2 := B2.out.size
          have XR := Lib.hid (X1.out.below B2.out (by omega))
          obtain ⟨b', off', e', hbB', h0, h1⟩ := (HK.out.below (B1.out.trans (B2.out.mono (by omega)))).at_ hlt
          cases e'
          rw [HX.out] at h0 h1
          have q2 := XR.out.cell 2
          simp at q2
          go_wp2_with fail
          refine (specBytes_some x.2 _).mono ?_
          rintro e w3 ⟨g3, n3, c3, rfl, m3, b3⟩
          have hn3 : n3 ≤ 8 := by have := nameBytes_len8 x.2; have := m3.len; omega
          have M3 := Lib.hid m3
          have M2 := Lib.hid (M2.out.below b3)
          have B3 := Lib.hid (B2.out.trans (b3.mono (by omega)))
          clear m3 b3 q2 h0 h1
          have s3 := B3.out.size
          go_wp2_with (at_builtin; refine wpList_append_own _ rfl _ _ 22 rfl (w.heap.size + 1) 5 i0 (.int .u8 0) 1 1 Try.underlying22 HI.out HZ0.out HZ1.out HZ2.out rfl (by decide) _ _ _ rfl M2.out.1 ⟨g3, 0, none⟩ n3 _ ((nameBytes x.2).map (Value.int .u8)) rfl ?h0 ?h1 ?h2 ?h3 ?h4 ?h5 ?_)
          case h0 => rw [List.length_map, Nat.mul_one]; first | rfl | exact sb_len _ | exact M3.out.len
          case h1 => exact World.ownsRow.cells M3.out.1 rfl
          case h2 => intro u hu; obtain ⟨z, _, rfl⟩ := List.mem_map.1 hu; rfl
          case h3 => unfold maxLen; omega
          case h4 => omega
          case h5 => omega
          intro v4 w4 hown4 hgrow4 hnil4
          have hv : ∃ g c, v4 = .slice (some ⟨g, 0, none⟩) (n + 1 + n3) c := by
            rcases hown4.2 with ⟨e, _⟩ | ⟨g, cap, cur, e, _⟩
            · exact absurd e hnil4
            · exact ⟨g, cap, e⟩
          obtain ⟨g4, c4, rfl⟩ := hv
          have hm4 := M2.out.app (ys := nameBytes x.2) M3.out.2 (by simpa using hown4)
          have hb4 : Below (w.heap.size + 1) w1 w4 := B3.out.grown hgrow4 (by omega) (fun g hg => (M2.out.1.lt g hg).1)
          have he : pre ++ (kids.take k).flatMap kidBytes ++ [x.1 % 256] ++ nameBytes x.2 = pre ++ (kids.take (k + 1)).flatMap kidBytes := by
            rw [HST.out]; simp [kidBytes]
          rw [he] at hm4
          have M4 := Lib.hid hm4
          have B4 := Lib.hid hb4
          clear hm4 hb4 hown4 hgrow4 hnil4 he
          go_wp2
          go_roundw
          case rel => exact ⟨k + 1, _, _, _, by omega, by go_num, rfl, M4.out, B4.out⟩
          case measure => simp [intOf]; omega
        · have hkt : kids.take k = kids := List.take_of_length_le (by rw [LK.out]; omega)
          rw [hkt] at MR
          go_wp2
          go_ret
          refine ⟨g, n, c, rfl, ?_, BW.out⟩
          have hr : rawBytes ⟨kind, path, kids, val⟩ = pre ++ kids.flatMap kidBytes := by
            unfold rawBytes
            rw [← HPRE.out]
            simp only [LP.out, LK.out]
          rw [hr]
          exact MR.out.base (by omega)

/-- the bytes of a node; none where it is no right node. -/
def nodeBytes (nd : MNode) : List Int := if nodeOk nd then rawBytes nd else []
theorem nodeBytes_len (nd : MNode) : (nodeBytes nd).length ≤ 4 + nd.path.length + nd.val.size + nd.kids.length * 9 := by
  unfold nodeBytes
  split
  · unfold rawBytes
    have h1 := kidBytes_len nd.kids
    have h2 := sb_len nd.val
    simp only [List.length_append, List.length_map, List.length_cons, List.length_nil]
    omega
  · simp
theorem specNodeBytes_any (v : Value) (nd : MNode) (B : Nat) (w : World) (hB : B ≤ w.heap.size) (hv : NodeIn w B v nd) :
    Calls Try.prog 32 #[v] w fun e w' => ∃ g n c, e = .returned (.slice (some ⟨g, 0, none⟩) n c) ∧ Mine w' w.heap.size (some ⟨g, 0, none⟩) n c (nodeBytes nd) ∧ Below w.heap.size w w' := by
  have HV := Lib.hid (hv.more hB)
  obtain ⟨Ap, np, cp, Ak, nk, ck, rfl, _⟩ := hv
  obtain ⟨kind, path, kids, val⟩ := nd
  obtain ⟨w1, hw1⟩ : ∃ w1, w.alloc (.cells #[.int .i64 kind, .slice Ap np cp, .slice Ak nk ck, .string val] 40) = w1 := ⟨_, rfl⟩
  have x1 : Box w1 w.heap.size _ _ := hw1 ▸ heap_alloc_new _ _
  have l1 : w1.heap.size = w.heap.size + 1 := hw1 ▸ by simp
  have b1 : Below w.heap.size w w1 := hw1 ▸ (Below.refl _ _).alloc (Nat.le_refl _) _
  have X1 := Lib.hid x1
  have B1 := Lib.hid b1
  have HW := Lib.hid hw1
  clear x1 b1 hw1
  have s1 := B1.out.size
  go_enter Try.func32, Try.ntmps32
  go_wp2_with fail
  rw [HW.out]
  refine (specNodeOk_any _ ⟨kind, path, kids, val⟩ _ w1 s1 (HV.out.below B1.out)).mono ?_
  rintro e w2 ⟨rfl, b2⟩
  have X2 := Lib.hid (X1.out.below b2 (by omega))
  have B2 := Lib.hid (B1.out.trans (b2.mono s1))
  have s2 := B2.out.size
  clear b2
  by_cases h : nodeOk ⟨kind, path, kids, val⟩ = true
  · have hr := Lib.hid (show nodeBytes ⟨kind, path, kids, val⟩ = rawBytes ⟨kind, path, kids, val⟩ from if_pos h)
    rw [h]
    have q0 := X2.out.cell 0
    have q1 := X2.out.cell 1
    have q2 := X2.out.cell 2
    have q3 := X2.out.cell 3
    simp at q0 q1 q2 q3
    go_wp2_with fail
    refine (l3Bytes_any _ ⟨kind, path, kids, val⟩ _ w2 s2 (HV.out.below B2.out)).mono ?_
    rintro e w3 ⟨g, n, c, rfl, m3, b3⟩
    have M3 := Lib.hid m3
    have B3 := Lib.hid (B2.out.trans (b3.mono s2))
    clear m3 b3 q0 q1 q2 q3
    go_wp2
    go_ret
    exact ⟨g, n, c, rfl, by rw [hr.out]; exact M3.out.base s2, B3.out⟩
  · have hr := Lib.hid (show nodeBytes ⟨kind, path, kids, val⟩ = [] from if_neg h)
    have h : nodeOk ⟨kind, path, kids, val⟩ = false := by simpa using h
    rw [h]
    have M3 := Lib.hid (Mine.of_alloc w2 w.heap.size [] 0 s2 rfl (by unfold maxLen; omega) (by simp))
    go_wp2
    go_ret
    exact ⟨w2.heap.size, 0, 0, rfl, by rw [hr.out]; exact M3.out, B2.out.alloc s2 _⟩
end Go.Proofs.Ytjmlpekaehfeeaa
