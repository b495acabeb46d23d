/- Several texts in one, in build order: ReadK, Named, NodesOf, NodesL, InsB, SlB, ContI, OpenIs, Clone, WithN, QuietR, Keep, IterN, IterB. -/
import Derived.Test.YtigdcmfmaehjfaaGreatPkF
import Derived.Sort.QuietIn
import Derived.RangeFuncNested
import Derived.RangeFuncBound
import Derived.RangeFuncCalls
import Derived.RangeFuncLeaves
import Derived.RangeFuncBox
import Derived.Shelf.Abstract
import Derived.Shelf.RegionOpen
import Derived.OwnWalkIn
import Derived.TacticsInMore
import Derived.LoopNIn
import Derived.LoopIn
-- ReadK: The program's reader: the kids; and what the program's NodeFrom reads of some bytes.
namespace Go.Proofs.YtigdcmfmaehjfaaGreat
set_option maxRecDepth 20000
set_option linter.unusedSimpArgs false
set_option linter.unusedVariables false
open Go.RowKit

theorem nm8_any (A : Option Addr) (n c B : Nat) (zs : List Int) (w : World) (hb : Byts w B A n zs) :
    Calls Tryz.prog 232 #[.slice A n c] w fun e w' => (e = .returned (.tuple #[.int .i64 (nm8 zs), .bool true]) ∨ (e = .returned (.tuple #[.int .i64 0, .bool false]) ∧ nm8 zs = -1)) ∧ w = w' := by
  have hl := hb.1
  by_cases h8 : n = 8
  · subst h8
    by_cases h7 : zs[7]?.getD 0 ≤ 127
    · refine (from_yes A c zs B w hb h7).mono ?_
      rintro e w' ⟨rfl, rfl⟩
      exact ⟨.inl (by unfold nm8; rw [if_pos ⟨hl, h7⟩]), rfl⟩
    · refine (from_high A c zs B w hb (by omega)).mono ?_
      rintro e w' ⟨rfl, rfl⟩
      exact ⟨.inr ⟨rfl, by unfold nm8; rw [if_neg (by omega)]⟩, rfl⟩
  · refine (from_no_len A n c w h8).mono ?_
    rintro e w' ⟨rfl, rfl⟩
    exact ⟨.inr ⟨rfl, by unfold nm8; rw [if_neg (by omega)]⟩, rfl⟩
theorem rname_any (g B : Nat) (st : Option (List Int)) (w : World) (hB : B ≤ g) (h : Rd w B g st) :
    Calls Tryz.prog 209 #[.pointer (some ⟨g, 0, none⟩)] w fun e w' => e = .returned (.int .i64 (nm8 (rByt 8 st).1)) ∧ Rd w' B g (rByt 8 st).2 ∧ Touch (fun k => k = g) w w' ∧ w'.heap.size = w.heap.size := by
  have HR := Lib.hid h
  clear h
  obtain ⟨xs, hxs⟩ : ∃ xs, (rByt 8 st).1 = xs := ⟨_, rfl⟩
  rw [hxs]
  have HX := Lib.hid hxs
  clear hxs
  go_enter Tryz.func209, Tryz.ntmps209
  go_wp2_with fail
  refine (rbytes_any g 8 B st w hB (by omega) HR.out).mono ?_
  rintro e w1 ⟨A, n, c, rfl, hnc, hb, hrd, ht, hsz⟩
  have HD := Lib.hid hrd
  have HT := Lib.hid ht
  have HS := Lib.hid hsz
  rw [HX.out] at hb
  clear hrd ht hsz
  go_wp2_with fail
  refine (nm8_any A n c B xs w1 hb).mono ?_
  rintro e w' ⟨(rfl | ⟨rfl, h⟩), rfl⟩
  · go_wp2
    go_ret
    refine ⟨?_, HD.out, HT.out, HS.out⟩
    rfl
  · have H := Lib.hid h
    clear h
    go_wp2
    go_ret
    refine ⟨?_, HD.out, HT.out, HS.out⟩
    rw [H.out]
    rfl

theorem Box.touch {w w' : World} {g : Nat} {t : TypeId} {cs : Array Value} {S : Nat → Prop} (h : Box w g t cs) (k : Touch S w w') (hn : ¬ S g) : Box w' g t cs := (k.block g h.lt hn).trans h

set_option maxHeartbeats 800000 in
theorem rkids_any (g B : Nat) (st : Option (List Int)) (w : World) (hB : B ≤ g) (h : Rd w B g st) :
    Calls Tryz.prog 171 #[.pointer (some ⟨g, 0, none⟩)] w fun e w' => ∃ A n c, e = .returned (.slice A n c) ∧ OwnK w' w.heap.size A n c (rAll st).1 ∧ Rd w' B g (rAll st).2 ∧ Touch (fun k => k = g) w w' := by
  have HR := Lib.hid h
  have hg := h.lt
  have hbs := rNum_bs h.bs
  clear h
  obtain ⟨cnt, hcnt⟩ : ∃ cnt : Nat, (rNum st).1 = cnt := ⟨(rNum st).1.toNat, by omega⟩
  have hall : rAll st = rKids cnt (rNum st).2 := by unfold rAll; rw [hcnt, Int.toNat_natCast]
  obtain ⟨st1, hst1⟩ : ∃ st1, (rNum st).2 = st1 := ⟨_, rfl⟩
  rw [hall, hst1]
  go_enter Tryz.func171, Tryz.ntmps171
  go_wp2_with fail
  refine (rnumber_any g B st w hB HR.out).mono ?_
  rintro e w1 ⟨rfl, hrd, ht, hsz⟩
  rw [hst1] at hrd
  have HD := Lib.hid hrd
  have HT := Lib.hid ht
  have hc255 : cnt ≤ 255 := by have := hbs.2; omega
  clear hrd ht hall hbs
  rw [hcnt]
  obtain ⟨iK, hki, hk0, hk1, hk2⟩ := info_parts Tryz.infoK
  have HK := Lib.hid hki
  have HK0 := Lib.hid hk0
  have HK1 := Lib.hid hk1
  have HK2 := Lib.hid hk2
  clear hki hk0 hk1 hk2 hcnt hst1
  go_wp2
  go_loopw [3, 7] (fun p i wr => ∃ q : Nat, ∃ Ak ck, q ≤ cnt ∧ i = .int .i64 q ∧ p = .slice Ak q ck ∧ OwnK wr w.heap.size Ak q ck (rKids q st1).1 ∧ Rd wr B g (rKids q st1).2 ∧ Touch (fun k => k = g) w wr) (fun _ i _ => cnt - (intOf i).toNat)
  case atStart => exact ⟨0, none, 0, Nat.zero_le _, rfl, rfl, OwnK.nil _ _, HD.out, HT.out⟩
  case round =>
    obtain ⟨q, Ak, ck, hq, rfl, rfl, hown, hrd, ht⟩ := hrel
    have MR := Lib.hid hown
    have RR := Lib.hid hrd
    have TR := Lib.hid ht
    have srw := ht.size
    clear hown hrd ht
    by_cases hlt : q < cnt
    · have hstep : rKids (q + 1) st1 = ((rKids q st1).1 ++ [(rKid (rKids q st1).2).1], (rKid (rKids q st1).2).2) := rfl
      unfold rKid at hstep
      have HST := Lib.hid hstep
      clear hstep
      generalize (rKids q st1).1 = ks at MR HST
      generalize (rKids q st1).2 = s at RR HST
      have hge : ∀ j, (Value.slice Ak q ck).ownBlock = some j → ¬ j = g := fun j hj e => by have := (World.ownsRow.lt MR.out j hj).1; omega
      go_wp2_with fail
      refine (rnumber_any g B s wr hB RR.out).mono ?_
      rintro e wa ⟨rfl, ra, ta, sa⟩
      have RA := Lib.hid ra
      have MA := Lib.hid (MR.out.touch ta hge)
      have TA := Lib.hid (TR.out.trans ta)
      clear ra ta
      generalize (rNum s).1 = a at HST ⊢
      generalize (rNum s).2 = s2 at HST RA
      go_wp2_with fail
      refine (rname_any g B s2 wa hB RA.out).mono ?_
      rintro e wb ⟨rfl, rb, tb, sb_⟩
      have RB := Lib.hid rb
      have MB := Lib.hid (MA.out.touch tb hge)
      have TB := Lib.hid (TA.out.trans tb)
      clear rb tb hge sa sb_
      generalize nm8 (rByt 8 s2).1 = m at HST ⊢
      generalize (rByt 8 s2).2 = s3 at HST RB
      have hszb : w.heap.size ≤ wb.heap.size := TB.out.size
      go_wp2_with (at_builtin; refine wpList_append_lies _ rfl _ _ 94 rfl w.heap.size 105 iK (.agg #[.int .i64 0, .int .i64 0]) 2 16 Tryz.underlying94 HK.out HK0.out HK1.out HK2.out rfl (by decide) _ _ _ rfl (MB.out.alloc _) ⟨wb.heap.size, 0, none⟩ 1 1 ([a, m].map (Value.int .i64)) rfl ?a0 ?a1 ?a2 (by omega) ?a3 ?a4 ?a5 _ rfl ?_)
      case a0 => first | rfl | (simp; done)
      case a1 =>
        intro j u hj
        match j, hj with
        | 0, hj => simp at hj; subst hj; simp [Addr.add]
        | 1, hj => simp at hj; subst hj; simp [Addr.add]
      case a2 => intro u hu; simp at hu; rcases hu with rfl | rfl <;> rfl
      case a3 => unfold maxLen; omega
      case a4 => omega
      case a5 => simp; omega
      intro g2 c2 w2 hown2 hgrow2 _ _
      have t2 : Touch (fun j => some j = (Value.slice Ak q ck).ownBlock) wb w2 := (Touch.of_below ((Below.refl _ _).alloc (Nat.le_refl _) _)).trans (Touch.of_grown hgrow2)
      have hge : ∀ j, j < w.heap.size → ¬ some j = (Value.slice Ak q ck).ownBlock := fun j hj e => by have := (World.ownsRow.lt MB.out j e.symm).1; omega
      have R2 := Lib.hid (RB.out.touch t2 hB (fun j hj => hge j (by omega)))
      have T2 := Lib.hid (TB.out.grow t2 hge)
      have M2 : OwnK w2 w.heap.size (some ⟨g2, 0, none⟩) (q + 1) c2 (ks ++ [(a, m)]) := by
        unfold OwnK
        rw [kv_append, List.map_append]
        exact hown2
      have M2 := Lib.hid M2
      clear t2 hge hown2 hgrow2
      go_wp2
      go_roundw
      case rel => exact ⟨q + 1, _, _, by omega, by go_num, rfl, by rw [HST.out]; exact M2.out, by rw [HST.out]; exact R2.out, T2.out⟩
      case measure => simp [intOf]; omega
    · obtain rfl : q = cnt := by omega
      go_wp2
      go_ret
      exact ⟨_, _, _, rfl, MR.out, RR.out, TR.out⟩

theorem rd_new {w : World} {B g : Nat} {A : Option Addr} {n c : Nat} {bs : List Int} (hx : Box w g 211 #[.slice A n c, .bool false]) (hc : n ≤ c) (hn : n ≤ 1048576) (hA : A = none → c = 0) (hb : Byts w B A n bs) : Rd w B g (some bs) :=
  ⟨A, n, c, false, hx, hc, hn, hA, hb, rfl, fun h => by cases h⟩

set_option maxHeartbeats 2000000 in
theorem implNodeFrom_any (A : Option Addr) (n c : Nat) (bs : List Int) (B : Nat) (w : World) (hn : n ≤ 1048576) (hc : n ≤ c) (hA : A = none → c = 0) (hB : B ≤ w.heap.size) (hb : Byts w B A n bs) :
    Calls Tryz.prog 124 #[.slice A n c] w fun e w' => ∃ v nd b, e = .returned (.tuple #[v, .bool b]) ∧ OwnN w' w.heap.size v nd ∧ NodeRead bs nd b ∧ Below w.heap.size w w' := by
  obtain ⟨r0, hr0⟩ : ∃ r0, w.heap.size = r0 := ⟨_, rfl⟩
  obtain ⟨w1, hw1⟩ : ∃ w1, (w.alloc (.cells #[.int .i64 0, .slice none 0 0, .slice none 0 0, .string { data := #[] }] 96)).alloc (.cells #[.slice A n c, .bool false] 211) = w1 := ⟨_, rfl⟩
  have x1 : Box w1 r0 96 #[.int .i64 0, .slice none 0 0, .slice none 0 0, .string { data := #[] }] := by rw [← hw1, ← hr0]; exact heap2_0 w _ _
  have y1 : Box w1 (r0 + 1) 211 #[.slice A n c, .bool false] := by rw [← hw1, ← hr0]; exact heap2_1 w _ _
  have s1 : w1.heap.size = r0 + 1 + 1 := by rw [← hw1, size2, hr0]
  have b1 : Below r0 w w1 := by rw [← hw1, ← hr0]; exact below2 w _ _
  have rd1 := rd_new (B := r0) y1 hc hn hA ((hb.more (by omega)).below b1)
  have X := Lib.hid x1
  have R := Lib.hid rd1
  have B1 := Lib.hid b1
  have HW := Lib.hid hw1
  have hbs : Bs (some bs) := rd1.bs
  have HBS := Lib.hid hbs
  clear x1 y1 b1 rd1 hw1 hb hA hc
  have hrn := rNum_bs hbs
  have hrp := rPart_bs hrn.1
  have hrv := rPart_bs hrp.1
  have l1 := rPart_len hrn.1
  have l2 := rPart_len hrp.1
  obtain ⟨kd, st1, h1⟩ : ∃ a s, rNum (some bs) = (a, s) := ⟨_, _, rfl⟩
  rw [h1] at hrp hrv l1 l2
  obtain ⟨ps, st2, h2⟩ : ∃ a s, rPart st1 = (a, s) := ⟨_, _, rfl⟩
  simp only [h2] at hrp hrv l1 l2
  obtain ⟨vs, st3, h3⟩ : ∃ a s, rPart st2 = (a, s) := ⟨_, _, rfl⟩
  simp only [h3] at hrv l2
  obtain ⟨ks, st4, h4⟩ : ∃ a s, rAll st3 = (a, s) := ⟨_, _, rfl⟩
  have hnode : rNode (some bs) = (⟨kd, ps, ks, strOfNums vs⟩, st4) := by
    unfold rNode
    simp only [h1, h2, h3, h4]
  have HN := Lib.hid hnode
  have lk : ks.length ≤ 255 := by
    have h5 := rKids_len (rNum st3).1.toNat (st := (rNum st3).2)
    have h6 := (rNum_bs hrv.1).2
    have h7 : (rAll st3).1.length = (rNum st3).1.toNat := h5
    rw [h4] at h7
    simp only at h7
    omega
  have H1 := Lib.hid h1
  have H2 := Lib.hid h2
  have H3 := Lib.hid h3
  have H4 := Lib.hid h4
  clear h1 h2 h3 h4 hnode hrn hrp hrv hbs
  go_enter Tryz.func124, Tryz.ntmps124
  go_wp2_with fail
  rw [HW.out]
  refine (rnumber_any (r0 + 1) r0 _ w1 (by omega) R.out).mono ?_
  rintro e w2 ⟨rfl, rd, t, s2⟩
  rw [H1.out] at rd ⊢
  have R := Lib.hid rd
  have X := Lib.hid (X.out.touch t (by omega))
  have T := Lib.hid (t.mono (T := fun k => r0 ≤ k) (fun k e => by omega))
  have B2 := Lib.hid (B1.out.trans (T.out.below (by omega) (fun k hk h => by omega)))
  clear rd t
  simp only
  have hs2 : w2.heap.size = r0 + 1 + 1 := by omega
  obtain ⟨m, hm⟩ : ∃ m, w2.heap.size = m := ⟨_, rfl⟩
  obtain ⟨w3, hw3⟩ : ∃ w3, w2.alloc (.cells #[.int .i64 kd, .slice none 0 0, .slice none 0 0, .string { data := #[] }] 96) = w3 := ⟨_, rfl⟩
  have z3 : Box w3 m 96 #[.int .i64 kd, .slice none 0 0, .slice none 0 0, .string { data := #[] }] := by rw [← hw3, ← hm]; exact heap_alloc_new _ _
  have s3 : w3.heap.size = m + 1 := by rw [← hw3, ← hm]; simp
  have b3 : Below w2.heap.size w2 w3 := by rw [← hw3]; exact (Below.refl _ _).alloc (Nat.le_refl _) _
  have R := Lib.hid (R.out.below b3 (by omega))
  have X := Lib.hid (X.out.below b3 (by omega))
  have Z := Lib.hid z3
  have B3 := Lib.hid (B2.out.trans (b3.mono (by omega)))
  have HW3 := Lib.hid hw3
  have hm2 : r0 + 1 < m := by omega
  clear z3 b3 hw3 s1 s2 hs2
  go_wp2_with fail
  rw [HW3.out]
  refine (rpath_any (r0 + 1) r0 _ w3 (by omega) R.out).mono ?_
  rintro e w4 ⟨Ap, np, cp, rfl, hown, rd, t⟩
  rw [H2.out] at rd hown
  rw [s3] at hown
  have hnp : ps.length = np := hown.len
  have R := Lib.hid rd
  have X := Lib.hid (X.out.touch t (by omega))
  have Z := Lib.hid (Z.out.touch t (by omega))
  have B4 := Lib.hid (B3.out.trans (t.below (by omega) (fun k hk h => by omega)))
  have P := Lib.hid hown
  have s4 := t.size
  clear hown rd t
  obtain ⟨w5, hw5⟩ : ∃ w5, w4.setCell ⟨m, 1, none⟩ (.slice Ap np cp) = w5 := ⟨_, rfl⟩
  have t5 : Touch (fun k => k = m) w4 w5 := by rw [← hw5]; exact touch_set w4 m 1 _ rfl
  have z5 : Box w5 m 96 #[.int .i64 kd, .slice Ap np cp, .slice none 0 0, .string { data := #[] }] := by rw [← hw5]; exact Z.out.set_ 1 _
  have HW5 := Lib.hid hw5
  clear hw5
  have q1 := Z.out.cell 1
  have f1 := Z.out.free 1
  simp at q1
  go_wp2_with fail
  rw [HW5.out]
  clear q1 f1
  have Z := Lib.hid z5
  have R := Lib.hid (R.out.touch t5 (by omega) (fun k hk e => by omega))
  have X := Lib.hid (X.out.touch t5 (by omega))
  have P := Lib.hid (P.out.touch t5 (fun j hj e => by have := (World.ownsRow.lt P.out j hj).1; omega))
  have B5 := Lib.hid (B4.out.trans (t5.below (by omega) (fun k hk h => by omega)))
  have s5 := t5.size
  clear t5 z5
  refine (rnumber_any (r0 + 1) r0 _ w5 (by omega) R.out).mono ?_
  rintro e w6 ⟨rfl, rd, t, s6⟩
  have hbs2 := rNum_bs (R.out.bs)
  obtain ⟨cv, hcv⟩ : ∃ cv : Nat, (rNum st2).1 = cv := ⟨(rNum st2).1.toNat, by omega⟩
  have hpart : rByt cv (rNum st2).2 = (vs, st3) := by rw [← H3.out]; unfold rPart; rw [hcv, Int.toNat_natCast]
  have hcv255 : cv ≤ 255 := by omega
  rw [hcv]
  have R := Lib.hid rd
  have X := Lib.hid (X.out.touch t (by omega))
  have Z := Lib.hid (Z.out.touch t (by omega))
  have P := Lib.hid (P.out.touch t (fun j hj e => by have := (World.ownsRow.lt P.out j hj).1; omega))
  have B6 := Lib.hid (B5.out.trans (t.below (by omega) (fun k hk h => by omega)))
  clear rd t hbs2
  have HPV := Lib.hid hpart
  clear hpart hcv
  go_wp2_with fail
  refine (rbytes_any (r0 + 1) cv r0 _ w6 (by omega) (by omega) R.out).mono ?_
  rintro e w7 ⟨Av, nv, cc, rfl, _, yb, rd, t, s7⟩
  rw [HPV.out] at yb rd
  have R := Lib.hid rd
  have X := Lib.hid (X.out.touch t (by omega))
  have Z := Lib.hid (Z.out.touch t (by omega))
  have P := Lib.hid (P.out.touch t (fun j hj e => by have := (World.ownsRow.lt P.out j hj).1; omega))
  have B7 := Lib.hid (B6.out.trans (t.below (by omega) (fun k hk h => by omega)))
  clear rd t
  have hconv := conv_bytes Av nv cc vs _ w7 yb
  have hvl : vs.length ≤ 255 := l2
  obtain ⟨w8, hw8⟩ : ∃ w8, w7.setCell ⟨m, 3, none⟩ (.string (strOfNums vs)) = w8 := ⟨_, rfl⟩
  have t8 : Touch (fun k => k = m) w7 w8 := by rw [← hw8]; exact touch_set w7 m 3 _ rfl
  have z8 : Box w8 m 96 #[.int .i64 kd, .slice Ap np cp, .slice none 0 0, .string (strOfNums vs)] := by rw [← hw8]; exact Z.out.set_ 3 _
  have HW8 := Lib.hid hw8
  clear hw8 yb
  have q3 := Z.out.cell 3
  have f3 := Z.out.free 3
  simp at q3
  go_wp2_with fail
  rw [HW8.out]
  clear q3 f3 hconv
  have Z := Lib.hid z8
  have R := Lib.hid (R.out.touch t8 (by omega) (fun k hk e => by omega))
  have X := Lib.hid (X.out.touch t8 (by omega))
  have P := Lib.hid (P.out.touch t8 (fun j hj e => by have := (World.ownsRow.lt P.out j hj).1; omega))
  have B8 := Lib.hid (B7.out.trans (t8.below (by omega) (fun k hk h => by omega)))
  have s8 := t8.size
  have PL := Lib.hid (fun j hj => (World.ownsRow.lt P.out j hj).2)
  have hm8 : m < w8.heap.size := z8.lt
  clear t8 z8
  refine (rkids_any (r0 + 1) r0 _ w8 (by omega) R.out).mono ?_
  rintro e w9 ⟨Ak, nk, ck, rfl, hown, rd, t⟩
  rw [H4.out] at rd hown
  have hnk : ks.length = nk := hown.len
  have R := Lib.hid rd
  have X := Lib.hid (X.out.touch t (by omega))
  have Z := Lib.hid (Z.out.touch t (by omega))
  have P := Lib.hid (P.out.touch t (fun j hj e => by have := (World.ownsRow.lt P.out j hj).1; omega))
  have K := Lib.hid hown
  have B9 := Lib.hid (B8.out.trans (t.below (by omega) (fun k hk h => by omega)))
  have s9 := B9.out.size
  clear rd t hown
  obtain ⟨w10, hw10⟩ : ∃ w10, w9.setCell ⟨m, 2, none⟩ (.slice Ak nk ck) = w10 := ⟨_, rfl⟩
  have t10 : Touch (fun k => k = m) w9 w10 := by rw [← hw10]; exact touch_set w9 m 2 _ rfl
  have z10 : Box w10 m 96 #[.int .i64 kd, .slice Ap np cp, .slice Ak nk ck, .string (strOfNums vs)] := by rw [← hw10]; exact Z.out.set_ 2 _
  have q2 := Z.out.cell 2
  have f2 := Z.out.free 2
  simp at q2
  have Z := Lib.hid z10
  have R := Lib.hid (R.out.touch t10 (by omega) (fun k hk e => by omega))
  have X := Lib.hid (X.out.touch t10 (by omega))
  have P := Lib.hid (P.out.touch t10 (fun j hj e => by have := (World.ownsRow.lt P.out j hj).1; omega))
  have K := Lib.hid (K.out.touch t10 (fun j hj e => by have := (World.ownsRow.lt K.out j hj).1; omega))
  have B10 := Lib.hid (B9.out.trans (t10.below (by omega) (fun k hk h => by omega)))
  have hv : Hid (OwnN w10 (m + 1) (.agg #[.int .i64 kd, .slice Ap np cp, .slice Ak nk ck, .string (strOfNums vs)]) ⟨kd, ps, ks, strOfNums vs⟩) :=
    ⟨Ap, np, cp, Ak, nk, ck, rfl, by omega, by omega, by rw [strOfNums_size]; omega, P.out, K.out.base (by omega), fun j hj e => by have := PL.out j hj; have := (World.ownsRow.lt K.out j e).1; omega⟩
  have hlen : kd = kd := rfl
  clear t10 z10 PL P K s4 s5 s6 s7 s8
  obtain ⟨Al, nl, cl, sh, hx, _, _, _, yl, hsh, _⟩ := R.out
  have g0 := hx.cell 0
  have g1 := hx.cell 1
  simp at g0 g1
  have hnl := yl.1
  have lz := Z.out.lt
  have lx := X.out.lt
  have hrz : ¬ r0 = m := by omega
  clear hx yl hlen
  rcases st4 with _ | ys
  · obtain rfl : sh = true := hsh
    have x0 := X.out.cell 0
    have x1 := X.out.cell 1
    have x2 := X.out.cell 2
    have x3 := X.out.cell 3
    simp at x0 x1 x2 x3
    have fx := X.out.free
    go_wp2
    obtain ⟨hX, hb⟩ := set4 X.out (.int .i64 0) (.slice none 0 0) (.slice none 0 0) (.string { data := #[] })
    refine bodyPost_ret (v := .tuple #[node0V, .bool false]) (results_box2 Tryz.results124 _ _ r0 _ _ _ _ rfl rfl hX Tryz.underlying96 rfl (by kernel_rfl)) rfl ?_
    refine ⟨_, node0, false, rfl, node0_own _ _, rNode_none (by rw [HN.out]; simp), ?_⟩
    rw [hr0]
    exact B10.out.trans (hb.below (by have := B10.out.size; omega) (fun k hk h => by omega))
  · obtain rfl : sh = false := hsh
    by_cases hys : ys = []
    · subst hys
      obtain rfl : nl = 0 := hnl.symm
      have z0 := Z.out.cell 0
      have z1 := Z.out.cell 1
      have z2 := Z.out.cell 2
      have z3 := Z.out.cell 3
      simp at z0 z1 z2 z3
      go_wp2_with fail
      refine (progNodeOk_any _ _ _ w10 (Nat.le_refl _) hv.out.node).mono ?_
      rintro e w11 ⟨rfl, b11⟩
      have V := Lib.hid (hv.out.below b11)
      have X := Lib.hid (X.out.below b11 lx)
      have Z := Lib.hid (Z.out.below b11 lz)
      have s10 := B10.out.size
      have B11 := Lib.hid (B10.out.trans (b11.mono (by omega)))
      have s11 := B11.out.size
      clear z0 z1 z2 z3 b11 hw10 q2 f2 g0 g1
      have z0 := Z.out.cell 0
      have z1 := Z.out.cell 1
      have z2 := Z.out.cell 2
      have z3 := Z.out.cell 3
      simp at z0 z1 z2 z3
      have x0 := X.out.cell 0
      have x1 := X.out.cell 1
      have x2 := X.out.cell 2
      have x3 := X.out.cell 3
      simp at x0 x1 x2 x3
      have fx := X.out.free
      by_cases hok : nodeOk ⟨kd, ps, ks, strOfNums vs⟩ = true
      · rw [hok]
        go_wp2_with fail
        obtain ⟨hX, hb⟩ := set4 X.out (.int .i64 kd) (.slice Ap np cp) (.slice Ak nk ck) (.string (strOfNums vs))
        refine bodyPost_ret (v := .tuple #[.agg #[.int .i64 kd, .slice Ap np cp, .slice Ak nk ck, .string (strOfNums vs)], .bool true]) (results_box2 Tryz.results124 _ _ r0 _ _ _ _ rfl rfl hX Tryz.underlying96 rfl (by kernel_rfl)) rfl ?_
        have hyes := rNode_back HBS.out (by rw [HN.out]) (by rw [HN.out]; exact hok)
        rw [HN.out] at hyes
        rw [hr0]
        exact ⟨_, _, true, rfl, (V.out.touch hb (fun g hg h => by have := (V.out.blk hg).1; omega)).base (by omega), hyes, B11.out.trans (hb.below (by omega) (fun k hk h => by omega))⟩
      · have hok' : nodeOk ⟨kd, ps, ks, strOfNums vs⟩ = false := by simpa using hok
        rw [hok']
        go_wp2_with fail
        obtain ⟨hX, hb⟩ := set4 X.out (.int .i64 0) (.slice none 0 0) (.slice none 0 0) (.string { data := #[] })
        refine bodyPost_ret (v := .tuple #[node0V, .bool false]) (results_box2 Tryz.results124 _ _ r0 _ _ _ _ rfl rfl hX Tryz.underlying96 rfl (by kernel_rfl)) rfl ?_
        rw [hr0]
        exact ⟨_, node0, false, rfl, node0_own _ _, rNode_none (by rw [HN.out]; simp [hok']), B11.out.trans (hb.below (by omega) (fun k hk h => by omega))⟩
    · have hpos : 0 < nl := by
        rcases ys with _ | ⟨y, r⟩
        · exact absurd rfl hys
        · have h0 : (y :: r).length = nl := hnl
          simp at h0; omega
      have hd : decide ((0 : Int) < (nl : Int)) = true := decide_eq_true (by omega)
      have x0 := X.out.cell 0
      have x1 := X.out.cell 1
      have x2 := X.out.cell 2
      have x3 := X.out.cell 3
      simp at x0 x1 x2 x3
      have fx := X.out.free
      go_wp2
      obtain ⟨hX, hb⟩ := set4 X.out (.int .i64 0) (.slice none 0 0) (.slice none 0 0) (.string { data := #[] })
      refine bodyPost_ret (v := .tuple #[node0V, .bool false]) (results_box2 Tryz.results124 _ _ r0 _ _ _ _ rfl rfl hX Tryz.underlying96 rfl (by kernel_rfl)) rfl ?_
      refine ⟨_, node0, false, rfl, node0_own _ _, rNode_none (by rw [HN.out]; simp [hys]), ?_⟩
      rw [hr0]
      exact B10.out.trans (hb.below (by have := B10.out.size; omega) (fun k hk h => by omega))
end Go.Proofs.YtigdcmfmaehjfaaGreat

-- Named: The program's nodeNamed: the node of some bytes, where they are of one and have this name.
namespace Go.Proofs.YtigdcmfmaehjfaaGreat
set_option maxRecDepth 100000
set_option linter.unusedVariables false
set_option linter.unusedSimpArgs false
open Go.RowKit

set_option maxHeartbeats 1000000 in
theorem named_any (m : Int) (A : Option Addr) (n c : Nat) (bs : List Int) (B : Nat) (w : World) (hn : n ≤ 1048576) (hc : n ≤ c) (hA : A = none → c = 0) (hB : B ≤ w.heap.size) (hb : Byts w B A n bs) :
    Calls Tryz.prog 105 #[.int .i64 m, .slice A n c] w fun e w' => ∃ v nd r, e = .returned (.tuple #[v, .bool r]) ∧ OwnN w' w.heap.size v nd ∧ Below w.heap.size w w' ∧ ((r = true ∧ NodeRead bs nd true ∧ nameOf bs = m) ∨ (r = false ∧ ¬ (IsNode bs ∧ nameOf bs = m))) := by
  obtain ⟨w1, hw1⟩ : ∃ w1, w.alloc (.cells #[.int .i64 0, .slice none 0 0, .slice none 0 0, .string { data := #[] }] 96) = w1 := ⟨_, rfl⟩
  have x1 : Box w1 w.heap.size 96 _ := hw1 ▸ heap_alloc_new _ _
  have b1 : Below w.heap.size w w1 := hw1 ▸ (Below.refl _ _).alloc (Nat.le_refl _) _
  have s1 : w1.heap.size = w.heap.size + 1 := hw1 ▸ by simp
  have X1 := Lib.hid x1
  have B1 := Lib.hid b1
  have HB := Lib.hid ((hb.more hB).below b1)
  clear x1 b1 hb
  go_enter Tryz.func105, Tryz.ntmps105
  go_wp2_with fail
  refine (implNodeFrom_any A n c bs w.heap.size w1 hn hc hA (by omega) HB.out).mono ?_
  rintro e w2 ⟨v, nd, r, rfl, own, rd, b2⟩
  have s2 := b2.size
  have O2 := Lib.hid own
  have RD := Lib.hid rd
  have B2 := Lib.hid (B1.out.trans (b2.mono (by omega)))
  have X2 := Lib.hid (X1.out.below b2 (by omega))
  have Y2 := Lib.hid (HB.out.below (b2.mono (by omega)))
  obtain ⟨Ap, np, cp, Ak, nk, ck, rfl, _⟩ := own
  clear rd b2 hw1
  obtain ⟨w3, hw3⟩ : ∃ w3, w2.alloc (.cells #[.int .i64 nd.kind, .slice Ap np cp, .slice Ak nk ck, .string nd.val] 96) = w3 := ⟨_, rfl⟩
  have b3 : Below w2.heap.size w2 w3 := hw3 ▸ (Below.refl _ _).alloc (Nat.le_refl _) _
  have N3 := Lib.hid (show Box w3 w2.heap.size 96 #[.int .i64 nd.kind, .slice Ap np cp, .slice Ak nk ck, .string nd.val] from hw3 ▸ heap_alloc_new _ _)
  have s3 : w3.heap.size = w2.heap.size + 1 := hw3 ▸ by simp
  have B3 := Lib.hid (B2.out.trans (b3.mono (by omega)))
  have X3 := Lib.hid (X2.out.below b3 (by omega))
  have O3 := Lib.hid (O2.out.below b3)
  have Y3 := Lib.hid (Y2.out.below (b3.mono (by omega)))
  have HY := Lib.hid (IsNode.of RD.out)
  have hNM : Calls Tryz.prog 144 #[.slice A n c] w3 fun e w' => e = .returned (.int .i64 (nameOf bs)) ∧ w' = w3 :=
    (name_any A n c bs w.heap.size w3 (by omega) Y3.out).mono fun e w' h => ⟨h.1, h.2.symm⟩
  have NM := Lib.hid hNM
  clear hNM b3 X2 B2 Y3 Y2 HB
  cases r with
  | false =>
    have hno := Lib.hid (show ¬ (IsNode bs ∧ nameOf bs = m) from fun h => absurd (HY.out.2 h.1) (by simp))
    have q0 := X3.out.cell 0
    have q1 := X3.out.cell 1
    have q2 := X3.out.cell 2
    have q3 := X3.out.cell 3
    have f0 := X3.out.free
    simp at q0 q1 q2 q3
    obtain ⟨hX, hb⟩ := set4 X3.out (.int .i64 0) (.slice none 0 0) (.slice none 0 0) (.string { data := #[] })
    have HX := Lib.hid hX
    have HB := Lib.hid hb
    clear hX hb
    go_wp2
    refine bodyPost_ret (v := .tuple #[node0V, .bool false]) (results_box2 Tryz.results105 _ _ w.heap.size _ _ _ _ rfl rfl HX.out Tryz.underlying96 rfl (by kernel_rfl)) rfl ?_
    exact ⟨_, node0, false, rfl, node0_own _ _, B3.out.trans (HB.out.below B3.out.size (fun k hk h => by omega)), .inr ⟨rfl, hno.out⟩⟩
  | true =>
    have hyes := HY.out.1 rfl
    have HYES := Lib.hid hyes
    clear hyes
    by_cases h1 : nameOf bs = m
    · have hb2 : (nameOf bs != m) = false := by simp [h1]
      have H1 := Lib.hid h1
      clear h1
      go_wp2_with fail
      refine (NM.out).mono ?_
      rintro e w' ⟨rfl, hw'⟩
      rw [hw']
      clear hw' w'
      clear hw3
      have hr0 : w.heap.size < w2.heap.size := by omega
      have q0 := X3.out.cell 0
      have q1 := X3.out.cell 1
      have q2 := X3.out.cell 2
      have q3 := X3.out.cell 3
      have f0 := X3.out.free
      have n0 := N3.out.cell 0
      have n1 := N3.out.cell 1
      have n2 := N3.out.cell 2
      have n3 := N3.out.cell 3
      simp at q0 q1 q2 q3 n0 n1 n2 n3
      obtain ⟨hX, hb⟩ := set4 X3.out (.int .i64 nd.kind) (.slice Ap np cp) (.slice Ak nk ck) (.string nd.val)
      have HX := Lib.hid hX
      have HB := Lib.hid hb
      clear hX hb
      go_wp2
      refine bodyPost_ret (v := .tuple #[.agg #[.int .i64 nd.kind, .slice Ap np cp, .slice Ak nk ck, .string nd.val], .bool true]) (results_box2 Tryz.results105 _ _ w.heap.size _ _ _ _ rfl rfl HX.out Tryz.underlying96 rfl (by kernel_rfl)) rfl ?_
      have O4 := O3.out
      refine ⟨_, nd, true, rfl, (O4.touch HB.out (fun g hg h => by have := (O3.out.blk hg).1; omega)).base (by omega), B3.out.trans (HB.out.below B3.out.size (fun k hk h => by omega)), .inl ⟨rfl, RD.out, H1.out⟩⟩
    · have hb2 : (nameOf bs != m) = true := by simp [h1]
      have H1 := Lib.hid h1
      clear h1
      go_wp2_with fail
      refine (NM.out).mono ?_
      rintro e w' ⟨rfl, hw'⟩
      rw [hw']
      clear hw' w'
      clear hw3
      have q0 := X3.out.cell 0
      have q1 := X3.out.cell 1
      have q2 := X3.out.cell 2
      have q3 := X3.out.cell 3
      have f0 := X3.out.free
      simp at q0 q1 q2 q3
      obtain ⟨hX, hb⟩ := set4 X3.out (.int .i64 0) (.slice none 0 0) (.slice none 0 0) (.string { data := #[] })
      have HX := Lib.hid hX
      have HB := Lib.hid hb
      clear hX hb
      go_wp2
      refine bodyPost_ret (v := .tuple #[node0V, .bool false]) (results_box2 Tryz.results105 _ _ w.heap.size _ _ _ _ rfl rfl HX.out Tryz.underlying96 rfl (by kernel_rfl)) rfl ?_
      exact ⟨_, node0, false, rfl, node0_own _ _, B3.out.trans (HB.out.below B3.out.size (fun k hk h => by omega)), .inr ⟨rfl, fun h => H1.out h.2⟩⟩
end Go.Proofs.YtigdcmfmaehjfaaGreat

-- NodesOf: What the program makes of cells: its list of nodes.
namespace Go.Proofs.YtigdcmfmaehjfaaGreat
set_option maxRecDepth 100000
set_option linter.unusedVariables false
set_option linter.unusedSimpArgs false
open Go.RowKit

theorem NV.use_blk {x : NV} {g : Nat} (h : x.use g) : NodeBlk x.v g := by
  obtain ⟨Ap, np, cp, Ak, nk, ck, nd⟩ := x
  rcases h with ⟨_, a, ha, e⟩ | ⟨_, a, ha, e⟩
  · exact ⟨_, Ap, np, cp, Ak, nk, ck, _, rfl, .inl (by simp only at ha; rw [ha, ← e]; rfl)⟩
  · exact ⟨_, Ap, np, cp, Ak, nk, ck, _, rfl, .inr (by simp only at ha; rw [ha, ← e]; rfl)⟩
/-- the list of nodes is that of the cells, each node in memory of the call's own. -/
structure NodesIs (w : World) (lo : Nat) (R : SR) (ps : List (Int × NV)) (cs : List (Int × List Int)) : Prop where
  sl : SLN w lo R ps
  len : ps.length = cs.length
  at_ : ∀ i, i < ps.length → (ps[i]?.getD (0, nv0)).1 = (cel cs i).1 ∧ NodeRead (cel cs i).2 (ps[i]?.getD (0, nv0)).2.nd true
  own : ∀ y ∈ ps, OwnN w lo y.2.v y.2.nd
  blk : ∀ y ∈ ps, ∀ g, NodeBlk y.2.v g → ¬ R.at_ g
theorem NodesIs.below {w w' : World} {lo : Nat} {R : SR} {ps : List (Int × NV)} {cs : List (Int × List Int)} (h : NodesIs w lo R ps cs) (hb : Below w.heap.size w w') : NodesIs w' lo R ps cs :=
  ⟨h.sl.below hb, h.len, h.at_, fun y hy => (h.own y hy).below hb, h.blk⟩
theorem NodesIs.touch {S : Nat → Prop} {w w' : World} {lo : Nat} {R : SR} {ps : List (Int × NV)} {cs : List (Int × List Int)} (h : NodesIs w lo R ps cs) (t : Touch S w w') (h1 : ∀ g, R.at_ g → ¬ S g) (h2 : ∀ y ∈ ps, ∀ g, NodeBlk y.2.v g → ¬ S g) : NodesIs w' lo R ps cs :=
  ⟨h.sl.touch t h1 (fun y hy g hg => h2 y hy g (NV.use_blk hg)), h.len, h.at_, fun y hy => (h.own y hy).touch t (h2 y hy), h.blk⟩
theorem SLN.not_at {w : World} {lo g : Nat} {R : SR} {ps : List (Int × NV)} {t : TypeId} {cs : Array Value} (h : SLN w lo R ps) (hb : Box w g t cs) (h1 : t ≠ 2) (h2 : t ≠ 96) : ¬ R.at_ g := fun e => by
  rcases e with ⟨a, ha, e⟩ | ⟨a, ha, e⟩
  · exact own_box_ne h.keys hb h1 (by rw [ha, ← e]; rfl)
  · exact own_box_ne h.vals hb h2 (by rw [ha, ← e]; rfl)
theorem low_end (l : List Int) (m : Int) (h : ∀ x ∈ l, x < m) : lowI l m = l.length ∧ hitI l m = false := by
  have e : lowI l m = l.length := lowI_at l m l.length (Nat.le_refl _) (fun j hj => by rw [List.getElem?_eq_getElem hj]; exact h _ (List.getElem_mem hj)) (fun hk => absurd hk (Nat.lt_irrefl _))
  exact ⟨e, by unfold hitI; rw [e]; simp⟩
theorem cel_take_at (cs : List (Int × List Int)) (k i : Nat) (h : i < k) : cel (cs.take k) i = cel cs i := by
  unfold cel
  rw [List.getElem?_take, if_pos h]
/-- one more node behind the others. -/
theorem NodesIs.snoc {w w' : World} {lo p : Nat} {R R' : SR} {ps : List (Int × NV)} {cs : List (Int × List Int)} {x : NV} {k : Nat} (h : NodesIs w lo R ps (cs.take k)) (hk : k < cs.length) (hx : OwnN w lo x.v x.nd) (hxb : ∀ g, NodeBlk x.v g → ¬ R.at_ g)
    (hp : ∀ y ∈ ps, ∀ g, NodeBlk y.2.v g → g ≠ p) (hxp : ∀ g, NodeBlk x.v g → g ≠ p) (hr : NodeRead (cel cs k).2 x.nd true)
    (hs : SLN w' lo R' (ps ++ [((cel cs k).1, x)])) (hf : R'.from_ R w.heap.size) (t : Touch (fun g => g = p ∨ R.at_ g) w w') : NodesIs w' lo R' (ps ++ [((cel cs k).1, x)]) (cs.take (k + 1)) := by
  have hl := h.len
  rw [List.length_take] at hl
  have hpl : ps.length = k := by omega
  refine ⟨hs, by simp [hpl]; omega, fun i hi => ?_, fun y hy => ?_, fun y hy g hg e => ?_⟩
  · simp at hi
    rw [cel_take_at cs _ i (by omega)]
    by_cases e : i = k
    · subst e
      rw [← hpl, List.getElem?_append_right (Nat.le_refl _)]
      simp [hpl]
      exact hr
    · have h1 := h.at_ i (by omega)
      rw [cel_take_at cs _ i (by omega)] at h1
      rw [List.getElem?_append_left (by omega)]
      exact h1
  · rcases List.mem_append.1 hy with hy | hy
    · exact (h.own y hy).touch t (fun g hg e => e.elim (hp y hy g hg) (h.blk y hy g hg))
    · simp at hy
      subst hy
      exact hx.touch t (fun g hg e => e.elim (hxp g hg) (hxb g hg))
  · rcases List.mem_append.1 hy with hy | hy
    · rcases hf g e with e | e
      · exact h.blk y hy g hg e
      · have := ((h.own y hy).blk hg).2; omega
    · simp at hy
      subst hy
      rcases hf g e with e | e
      · exact hxb g hg e
      · have := (hx.blk hg).2; omega
/-- the last name that has come; 0 where none has. -/
def lastC (cs : List (Int × List Int)) (k : Nat) : Int := if k = 0 then 0 else (cel cs (k - 1)).1
theorem kvs_rise_lt {w : World} {lo : Nat} {R : SR} {ps : List (Int × NV)} {cs : List (Int × List Int)} {k : Nat} {m : Int} (h : NodesIs w lo R ps (cs.take k)) (hk : k < cs.length) (hm : lastC cs k < m) : ∀ x ∈ kvs ps, x < m := by
  have hl := h.len
  rw [List.length_take] at hl
  have hpl : ps.length = k := by omega
  intro x hx
  obtain ⟨i, hi, rfl⟩ := List.mem_iff_getElem.1 hx
  have hi' : i < ps.length := by simpa [kvs] using hi
  have h1 := riseI_le (kvs ps) h.sl.rise i (k - 1) (by omega) (by rw [kvs_len]; omega)
  have h2 := h.at_ (k - 1) (by omega)
  rw [cel_take_at cs k (k - 1) (by omega)] at h2
  rw [kvs_at ps (k - 1) (by omega)] at h1
  rw [List.getElem?_eq_getElem (by omega)] at h2
  unfold lastC at hm
  rw [if_neg (by omega)] at hm
  rw [List.getElem?_eq_getElem hi] at h1
  have h3 : (kvs ps)[i] ≤ ps[k - 1].1 := h1
  have h4 : ps[k - 1].1 = (cel cs (k - 1)).1 := h2.1
  omega
theorem not_right_low (cs : List (Int × List Int)) (k : Nat) (hk : k < cs.length) (hle : (cel cs k).1 ≤ lastC cs k) : ¬ Right cs := fun h => by
  have h3 := h.pos k hk
  have h4 := (h.2 k hk).2.2
  unfold lastC at hle
  by_cases h0 : k = 0
  · rw [if_pos h0] at hle; omega
  · rw [if_neg h0] at hle
    have := h4 (by omega)
    omega
/-- a box of two cells, written anew. -/
theorem set2 {w : World} {g : Nat} {t : TypeId} {a b : Value} (h : Box w g t #[a, b]) (a' b' : Value) :
    Box ((w.setCell ⟨g, 0, none⟩ a').setCell ⟨g, 1, none⟩ b') g t #[a', b'] ∧ Touch (fun x => x = g) w ((w.setCell ⟨g, 0, none⟩ a').setCell ⟨g, 1, none⟩ b') :=
  ⟨(h.set_ 0 a').set_ 1 b', (touch_set (S := fun x => x = g) w g 0 a' rfl).trans (touch_set _ g 1 b' rfl)⟩
theorem Box.drewN {w : World} {g : Nat} {t : TypeId} {cs : Array Value} (h : Box w g t cs) (k : Nat) : Box (w.drewN k) g t cs := h
set_option maxHeartbeats 4000000 in
theorem nodesOf_any (A : Option Addr) (n c : Nat) (cs : List (Int × List Int)) (B : Nat) (w : World) (hn : n ≤ 1048576) (hc : n ≤ c) (hA : A = none → c = 0) (hm : ∀ i, (cel cs i).2.length ≤ 1048576) (hB : B ≤ w.heap.size) (hb : Cells w B A n cs) :
    Calls Tryz.prog 71 #[.slice A n c] w fun e w' => ∃ R ps b, e = .returned (.tuple #[.agg #[R.kv ps.length, R.vv ps.length], .bool b]) ∧ Below w.heap.size w w' ∧
      ((b = true ∧ Right cs ∧ NodesIs w' w.heap.size R ps cs) ∨ (b = false ∧ ¬ Right cs ∧ R = SR0 ∧ ps = [])) := by
  have mixed : Tryz.prog.follows .mixedOrders = true := by kernel_rfl
  have HB := Lib.hid (hb.more hB)
  have hlen := hb.1
  clear hb
  obtain ⟨w0, hw0⟩ : ∃ w0, (w.alloc (.cells #[.slice none 0 0, .slice none 0 0] 62)).alloc (.cells #[.slice none 0 0, .slice none 0 0] 62) = w0 := ⟨_, rfl⟩
  have x0 : Box w0 w.heap.size 62 #[.slice none 0 0, .slice none 0 0] := hw0 ▸ heap2_0 _ _ _
  have y0 : Box w0 (w.heap.size + 1) 62 #[.slice none 0 0, .slice none 0 0] := hw0 ▸ heap2_1 _ _ _
  have s0 : w0.heap.size = w.heap.size + 2 := hw0 ▸ size2 _ _ _
  have b0 : Below w.heap.size w w0 := hw0 ▸ below2 _ _ _
  have X0 := Lib.hid x0
  have Y0 := Lib.hid y0
  have B0 := Lib.hid b0
  clear x0 y0 b0
  by_cases hbig : 80 < n
  · have q20 := X0.out.cell 0
    have q21 := X0.out.cell 1
    have f20 := X0.out.free
    have y20 := Y0.out.cell 0
    have y21 := Y0.out.cell 1
    simp at q20 q21 y20 y21
    have s2 := set2 X0.out (.slice none 0 0) (.slice none 0 0)
    have S2 := Lib.hid s2
    clear s2
    go_enter Tryz.func71, Tryz.ntmps71
    go_wp2
    refine bodyPost_ret (v := .tuple #[.agg #[.slice none 0 0, .slice none 0 0], .bool false]) (results_box2 Tryz.results71 _ _ w.heap.size _ _ _ _ rfl rfl S2.out.1 Tryz.underlying62 rfl (by kernel_rfl)) rfl ?_
    exact ⟨SR0, [], false, rfl, B0.out.trans (S2.out.2.below B0.out.size (fun k hk e => by omega)), .inr ⟨rfl, fun h => by have := h.1; omega, rfl, rfl⟩⟩
  · go_enter Tryz.func71, Tryz.ntmps71
    go_wp2
    go_loopw [5, 16] (fun la i wr => ∃ (k : Nat) (R : SR) (ps : List (Int × NV)), k ≤ n ∧ i = .int .i64 k ∧ la = .int .i64 (lastC cs k) ∧ NodesIs wr w.heap.size R ps (cs.take k) ∧ Box wr (w.heap.size + 1) 62 #[R.kv ps.length, R.vv ps.length] ∧
      Box wr w.heap.size 62 #[.slice none 0 0, .slice none 0 0] ∧ (∀ y ∈ ps, ∀ g, NodeBlk y.2.v g → w.heap.size + 2 ≤ g) ∧ (∀ i, i < k → CellAt cs i) ∧ Below w.heap.size w wr) (fun _ i _ => n - (intOf i).toNat)
    case atStart =>
      exact ⟨0, SR0, [], Nat.zero_le _, rfl, rfl, ⟨SLN.nil _ _, by simp, fun i hi => by simp at hi, fun y hy => by simp at hy, fun y hy => by simp at hy⟩, Y0.out, X0.out, fun y hy => by simp at hy, fun i hi => by omega, B0.out⟩
    case round =>
      obtain ⟨k, R, ps, hk, rfl, rfl, hnd, hpb, hrb, hnp, hpre, hbel⟩ := hrel
      have hs0 := hbel.size
      have hps : ps.length = k := by have := hnd.len; rw [List.length_take] at this; omega
      have hp1 := hpb.lt
      have ND := Lib.hid hnd
      have PB := Lib.hid hpb
      have RB := Lib.hid hrb
      have NP := Lib.hid hnp
      have PRE := Lib.hid hpre
      have BR := Lib.hid hbel
      clear hnd hpb hrb hnp hpre hbel hw0
      by_cases hlt : k < n
      · obtain ⟨b, off, Ai, ni, ci, rfl, hbB, h0, h1, hci, hAi, hy⟩ := (HB.out.below BR.out).at_ hlt
        obtain ⟨z, hz⟩ : ∃ z, cel cs k = z := ⟨_, rfl⟩
        have hnm := hm k
        rw [hz] at h0 hy hnm
        have HZ := Lib.hid hz
        have hni := hy.1
        have Y := Lib.hid hy
        clear hy hz
        obtain ⟨w1, hw1⟩ : ∃ w1, wr.alloc (.cells #[.int .i64 z.1, .slice Ai ni ci] 99) = w1 := ⟨_, rfl⟩
        have b1 : Below wr.heap.size wr w1 := hw1 ▸ (Below.refl _ _).alloc (Nat.le_refl _) _
        have C1 := Lib.hid (show Box w1 wr.heap.size 99 #[.int .i64 z.1, .slice Ai ni ci] from hw1 ▸ heap_alloc_new _ _)
        have s1 : w1.heap.size = wr.heap.size + 1 := hw1 ▸ by simp
        have B1 := Lib.hid b1
        clear b1
        have c10 := C1.out.cell 0
        have c11 := C1.out.cell 1
        simp at c10 c11
        go_wp2_with fail
        clear c10 c11 hw1
        refine (named_any z.1 Ai ni ci z.2 w.heap.size w1 (by omega) hci hAi (by omega) (Y.out.below (B1.out.mono hs0))).mono ?_
        rintro e w2 ⟨v, nd, r, rfl, own, b2, hcase⟩
        have s2 := b2.size
        have O2 := Lib.hid own
        have B2 := Lib.hid b2
        have CASE := Lib.hid hcase
        obtain ⟨Ap, np, cp, Ak, nk, ck, rfl, _⟩ := own
        clear hcase b2
        obtain ⟨w3, hw3⟩ : ∃ w3, w2.alloc (.cells #[.int .i64 nd.kind, .slice Ap np cp, .slice Ak nk ck, .string nd.val] 96) = w3 := ⟨_, rfl⟩
        have b3 : Below w2.heap.size w2 w3 := hw3 ▸ (Below.refl _ _).alloc (Nat.le_refl _) _
        have N3 := Lib.hid (show Box w3 w2.heap.size 96 #[.int .i64 nd.kind, .slice Ap np cp, .slice Ak nk ck, .string nd.val] from hw3 ▸ heap_alloc_new _ _)
        have s3 : w3.heap.size = w2.heap.size + 1 := hw3 ▸ by simp
        have B03 := Lib.hid (B1.out.trans ((B2.out.trans (b3.mono s2)).mono (by omega)))
        have C3 := Lib.hid ((C1.out.below B2.out (by omega)).below b3 (by omega))
        have O3 := Lib.hid (O2.out.below b3)
        have R3 := Lib.hid (RB.out.below B03.out (by omega))
        have P3 := Lib.hid (PB.out.below B03.out (by omega))
        have D3 := Lib.hid (ND.out.below B03.out)
        have A3 := Lib.hid (BR.out.trans (B03.out.mono hs0))
        clear b3
        have c30 := C3.out.cell 0
        have c31 := C3.out.cell 1
        simp at c30 c31
        obtain ⟨la, hla⟩ : ∃ la, lastC cs k = la := ⟨_, rfl⟩
        have LA := Lib.hid hla
        rw [hla]
        clear hla
        cases r with
        | false =>
          have q0 := R3.out.cell 0
          have q1 := R3.out.cell 1
          have f0 := R3.out.free
          simp at q0 q1
          have hno : ¬ Right cs := (fun h => by
            rcases CASE.out with ⟨e, _⟩ | ⟨_, hn⟩
            · cases e
            · have h1 := (h.2 k (by omega)).1
              have h2 := (h.2 k (by omega)).2.1
              rw [HZ.out] at h1 h2
              exact hn ⟨h1, h2⟩)
          have HNO := Lib.hid hno
          have s2 := set2 R3.out (.slice none 0 0) (.slice none 0 0)
          have S2 := Lib.hid s2
          clear hno s2
          go_wp2
          refine bodyPost_ret (v := .tuple #[.agg #[.slice none 0 0, .slice none 0 0], .bool false]) (results_box2 Tryz.results71 _ _ w.heap.size _ _ _ _ rfl rfl S2.out.1 Tryz.underlying62 rfl (by kernel_rfl)) rfl ?_
          exact ⟨SR0, [], false, rfl, A3.out.trans (S2.out.2.below A3.out.size (fun k hk e => by omega)), .inr ⟨rfl, HNO.out, rfl, rfl⟩⟩
        | true =>
          have hyes : NodeRead z.2 nd true ∧ nameOf z.2 = z.1 := by
            rcases CASE.out with ⟨_, h⟩ | ⟨e, _⟩
            · exact h
            · cases e
          have RD := Lib.hid hyes.1
          have H1 := Lib.hid hyes.2
          clear hyes
          by_cases h2 : z.1 ≤ la
          · have hd2 : decide (z.1 ≤ la) = true := decide_eq_true h2
            have q0 := R3.out.cell 0
            have q1 := R3.out.cell 1
            have f0 := R3.out.free
            simp at q0 q1
            have hno : ¬ Right cs := (not_right_low cs k (by omega) (by rw [HZ.out, LA.out]; exact h2))
            have HNO := Lib.hid hno
            have s2 := set2 R3.out (.slice none 0 0) (.slice none 0 0)
            have S2 := Lib.hid s2
            clear hno s2
            go_wp2
            refine bodyPost_ret (v := .tuple #[.agg #[.slice none 0 0, .slice none 0 0], .bool false]) (results_box2 Tryz.results71 _ _ w.heap.size _ _ _ _ rfl rfl S2.out.1 Tryz.underlying62 rfl (by kernel_rfl)) rfl ?_
            exact ⟨SR0, [], false, rfl, A3.out.trans (S2.out.2.below A3.out.size (fun k hk e => by omega)), .inr ⟨rfl, HNO.out, rfl, rfl⟩⟩
          · have hd2 : decide (z.1 ≤ la) = false := decide_eq_false h2
            have c30 := C3.out.cell 0
            have n30 := N3.out.cell 0
            have n31 := N3.out.cell 1
            have n32 := N3.out.cell 2
            have n33 := N3.out.cell 3
            simp at c30 n30 n31 n32 n33
            have hrat : ∀ g, R.at_ g → g < wr.heap.size := fun g hg => (ND.out.sl.lt g hg).2
            have RAT := Lib.hid hrat
            have hblk : ∀ g, NodeBlk (⟨Ap, np, cp, Ak, nk, ck, nd⟩ : NV).v g → wr.heap.size < g := fun g hg => by have := (O2.out.blk hg).1; omega
            have BLK := Lib.hid hblk
            clear hrat hblk
            go_wp2_with fail
            refine (put_any (w.heap.size + 1) w.heap.size R ps z.1 ⟨Ap, np, cp, Ak, nk, ck, nd⟩ w3 P3.out D3.out.sl A3.out.size O3.out.node (fun g hg e => by have h1 := BLK.out g (NV.use_blk hg); have h2 := RAT.out g e; omega)
              (fun g hg => by have h1 := BLK.out g (NV.use_blk hg); omega) (fun y hy g hg => by have h1 := NP.out y hy g (NV.use_blk hg); omega) (by omega)).mono ?_
            have hlow := low_end (kvs ps) z.1 (kvs_rise_lt ND.out (by omega) (by rw [LA.out]; omega))
            rintro e w4 (⟨hh, _, _⟩ | ⟨_, rfl, R', pb, sl, hf, t4⟩)
            · rw [hlow.2] at hh; cases hh
            · rw [hlow.1, kvs_len, insP_end] at sl
              have hs4 := t4.size
              have hnb : ¬ R.at_ w.heap.size := D3.out.sl.not_at R3.out (by decide) (by decide)
              have C5 := Lib.hid (show Box w4 wr.heap.size 99 #[.int .i64 z.1, .slice Ai ni ci] from (t4.block _ (by omega) (fun e => e.elim (fun e => by omega) (fun e => by have := RAT.out _ e; omega))).trans C3.out)
              have R5 := Lib.hid (show Box w4 w.heap.size 62 #[.slice none 0 0, .slice none 0 0] from (t4.block _ (by omega) (fun e => e.elim (fun e => by omega) hnb)).trans R3.out)
              have A5 := Lib.hid (A3.out.trans (t4.below A3.out.size (fun g hg e => e.elim (fun e => by omega) (fun e => by have := (ND.out.sl.lt g e).1; omega))))
              have D5 := NodesIs.snoc (x := ⟨Ap, np, cp, Ak, nk, ck, nd⟩) D3.out (by omega) (O3.out.base (show w.heap.size ≤ w1.heap.size by omega)) (fun g hg e => by have h1 := BLK.out g hg; have h2 := RAT.out g e; omega) (fun y hy g hg => by have h1 := NP.out y hy g hg; omega) (fun g hg => by have h1 := BLK.out g hg; omega)
                (by rw [HZ.out]; exact RD.out) (by rw [HZ.out]; exact sl) hf t4
              rw [HZ.out] at D5
              have D5 := Lib.hid D5
              have P5 := Lib.hid pb
              clear c30 n30 n31 n32 n33 sl hf t4 pb hlow hnb
              have c50 := C5.out.cell 0
              simp at c50
              go_wp2
              go_roundw
              case rel =>
                refine ⟨k + 1, R', ps ++ [(z.1, ⟨Ap, np, cp, Ak, nk, ck, nd⟩)], by omega, by go_num, ?_, D5.out, by rw [List.length_append]; exact P5.out, R5.out, fun y hy g hg => ?_, fun i hi => ?_, A5.out⟩
                · unfold lastC; rw [if_neg (by omega), Nat.add_sub_cancel, HZ.out]
                · rcases List.mem_append.1 hy with hy | hy
                  · exact NP.out y hy g hg
                  · simp at hy; subst hy
                    have h1 := BLK.out g hg; omega
                · by_cases e : i = k
                  · subst e
                    refine ⟨by rw [HZ.out]; exact (IsNode.of RD.out).1 (by trivial), by rw [HZ.out]; exact H1.out, fun h0 => ?_⟩
                    have h5 := LA.out
                    unfold lastC at h5
                    rw [if_neg (by omega)] at h5
                    rw [HZ.out, h5]; omega
                  · exact PRE.out i (by omega)
              case measure => simp [intOf]; omega
      · obtain rfl : k = n := by omega
        rw [List.take_of_length_le (by omega)] at ND
        have p0 := PB.out.cell 0
        have p1 := PB.out.cell 1
        have q0 := RB.out.cell 0
        have q1 := RB.out.cell 1
        have f0 := RB.out.free
        unfold SR.kv at p0
        unfold SR.vv at p1
        rw [hps] at p0 p1
        simp at p0 p1 q0 q1
        have s2 := set2 RB.out (R.kv k) (R.vv k)
        unfold SR.kv SR.vv at s2
        have S2 := Lib.hid s2
        have hnb : ¬ R.at_ w.heap.size := ND.out.sl.not_at RB.out (by decide) (by decide)
        have NB := Lib.hid hnb
        clear s2 hnb
        go_wp2
        refine bodyPost_ret (v := .tuple #[.agg #[.slice R.Ak k R.ck, .slice R.Av k R.cv], .bool true]) (results_box2 Tryz.results71 _ _ w.heap.size _ _ _ _ rfl rfl S2.out.1 Tryz.underlying62 rfl (by kernel_rfl)) rfl ?_
        exact ⟨R, ps, true, by rw [hps]; rfl, BR.out.trans (S2.out.2.below hs0 (fun k hk e => by omega)), .inl ⟨rfl, ⟨by omega, fun i hi => PRE.out i (by omega)⟩, ND.out.touch S2.out.2 (fun g hg e => NB.out (e ▸ hg)) (fun y hy g hg e => by have := NP.out y hy g hg; omega)⟩⟩
end Go.Proofs.YtigdcmfmaehjfaaGreat

-- NodesL: Where a name stands in the list of nodes that is made of cells.
namespace Go.Proofs.YtigdcmfmaehjfaaGreat
set_option maxRecDepth 100000
set_option linter.unusedVariables false
set_option linter.unusedSimpArgs false
open Go.RowKit

/-- where a name stands in the list, as in the cells. -/
theorem NodesIs.find {w : World} {lo : Nat} {R : SR} {ps : List (Int × NV)} {cs : List (Int × List Int)} (h : NodesIs w lo R ps cs) (hr : Right cs) (m : Int) :
    (hitI (kvs ps) m = true → lowI (kvs ps) m < cs.length ∧ findC cs m = lowI (kvs ps) m) ∧ (hitI (kvs ps) m = false → ¬ findC cs m < cs.length) := by
  have key : ∀ i, i < ps.length → ps[i]?.getD (0, nv0) = (ps[i]?.getD (0, nv0)) := fun _ _ => rfl
  have hk : ∀ i (hi : i < ps.length), ps[i].1 = (cel cs i).1 := fun i hi => by
    have := (h.at_ i hi).1
    rw [List.getElem?_eq_getElem hi] at this
    exact this
  have hl := h.len
  refine ⟨fun ht => ?_, fun ht hf => ?_⟩
  · obtain ⟨hi, he⟩ := hit_parts ps m ht
    refine ⟨by omega, ?_⟩
    have := hr.find (lowI (kvs ps) m) (by omega)
    rw [← hk _ hi, he] at this
    exact this
  · have h1 := findC_is cs m hf
    have h2 := kvs_not ps m h.sl.rise ht
    refine h2 ?_
    rw [← h1, ← hk _ (by omega)]
    exact List.mem_map_of_mem (List.getElem_mem _)
end Go.Proofs.YtigdcmfmaehjfaaGreat

-- InsB: slices.Insert of one element, as the program calls it, at one type of element. No statement of the program is proved here.
namespace Go.Proofs.YtigdcmfmaehjfaaGreat
set_option maxRecDepth 100000
set_option linter.unusedVariables false
set_option linter.unusedSimpArgs false
open Go.RowKit

theorem Tryz.infoInsB : (Tryz.prog.info? 4).map (fun i => (i.zero, i.size, i.bytes)) = some (some (.bool false), 1, 1) := by kernel_rfl
theorem Tryz.sizeInsB : ∀ w, (Go.sizeOf 4).run Tryz.prog w = .ok 1 w := by
  intro w
  obtain ⟨i0, hi0, hz0, hz1, hz2⟩ := info_parts Tryz.infoInsB
  simp [sizeOf, typeInfo, hi0, hz1]
theorem Tryz.siInsB : (Tryz.prog.info? 4).map (·.size) = some 1 := by
  obtain ⟨i0, hi0, hz0, hz1, hz2⟩ := info_parts Tryz.infoInsB
  rw [hi0]; simp [hz1]
/-- what insertion of one element leaves. -/
def InsAtB (base n i : Nat) (v : Value) (xs us : List Value) (w : World) (e : Ending) (w' : World) : Prop :=
  ∃ g' c', e = .returned (.slice (some ⟨g', 0, none⟩) (n + 1) c') ∧ w'.ownsRow base 4 1 (.slice (some ⟨g', 0, none⟩) (n + 1) c') (n + 1) (putAt xs us (i * 1)) ∧ w.grownBy w' v.ownBlock ∧ (v.ownBlock = some g' ∨ w.heap.size ≤ g')
set_option maxHeartbeats 4000000 in
/-- there is no room, and the place is not the last. -/
theorem insB_grow (base n c i vb vc g : Nat) (xs us : List Value) (w : World) (hr : w.ownsRow base 4 1 (.slice (some ⟨g, 0, none⟩) n c) n xs) (hbase : base ≤ w.heap.size) (hi : i < n) (hn : n ≤ 1048576) (hc : c < n + 1)
    (hv : w.heap[vb]? = some (.cells us.toArray 4 (0, 0))) (hu : us.length = 1) (h1u : ∀ u ∈ us, u.oneCell' = true) (h1x : ∀ u ∈ xs, u.oneCell' = true) :
    Calls Tryz.prog 197 #[.slice (some ⟨g, 0, none⟩) n c, .int .i64 i, .slice (some ⟨vb, 0, none⟩) 1 vc] w fun e w' => InsAtB base n i (.slice (some ⟨g, 0, none⟩) n c) xs us w e w' := by
  obtain ⟨i0, hi0, hz0, hz1, hz2⟩ := info_parts Tryz.infoInsB
  obtain ⟨cur, hbg, hg, hnc, hcm, hcs, htk⟩ := own_parts hr
  have hxl := hr.1
  have hgw : g < w.heap.size := (Array.getElem?_eq_some_iff.1 hg).1
  have hvw : vb < w.heap.size := (Array.getElem?_eq_some_iff.1 hv).1
  obtain rfl : c = n := by omega
  have hold : (Builtin.firstCells i0.size i (.slice (some ⟨g, 0, none⟩) i c)).run Tryz.prog w.drew = .ok (xs.take (i * 1)).toArray w.drew := by
    rw [hz1]
    exact run_firstCells_some w.drew 1 i ⟨g, 0, none⟩ i c (xs.take (i * 1)) (by rw [List.length_take]; omega) (fun j v hj => by
      rw [Addr.add_lit, Nat.zero_add]
      rw [List.getElem?_take] at hj
      split at hj
      · exact (World.ownsRow.cellAt hr j (by omega)).trans hj
      · cases hj)
  obtain ⟨G, hG⟩ : ∃ G, G = grownCap w (c + 1) c 4 := ⟨_, rfl⟩
  have hGn : c + 1 ≤ G := by rw [hG]; exact grownCap_ge w _ _ _
  have hGm : G ≤ maxLen := by rw [hG]; exact grownCap_le_maxLen w (c + 1) c _ (by unfold maxLen; omega)
  obtain ⟨ZS, hZS⟩ : ∃ ZS : List Value, ZS = (Builtin.zeroCells (.bool false : Value).cells (c + 1 - i)).toList ++ (Builtin.zeroCells (.bool false : Value).cells (G - (c + 1))).toList := ⟨_, rfl⟩
  have hZl : ZS.length = (G - i) * 1 := by
    rw [hZS]
    simp [Builtin.zeroCells, Value.cells]
    omega
  obtain ⟨W1, hW1⟩ : ∃ W1, W1 = w.drew.alloc (.cells (xs.take (i * 1) ++ ZS).toArray 4) := ⟨_, rfl⟩
  have hrz : ∀ ty, (Builtin.append_ #[192, 3] ty #[.slice (some ⟨g, 0, none⟩) i c, .int .i64 ((c : Int) + 1 - (i : Int))]).run Tryz.prog w = .ok (.slice (some ⟨w.heap.size, 0, none⟩) (c + 1) G) W1 := fun ty => by
    have h := Lib.run_append_grow_zeros w 192 3 ty 4 i0 _ .i64 .i64 Tryz.underlying192 Tryz.underlying3 hi0 hz0 (some ⟨g, 0, none⟩) i c (xs.take (i * 1)) hold (c + 1 - i) (by omega) (by omega) (by omega) (by omega) (by rw [hz2]; omega)
      (by rw [hz2, show i + (c + 1 - i) = c + 1 by omega]; exact growslice_fits (by omega) (by omega))
    rw [show i + (c + 1 - i) = c + 1 by omega, ← hG, show (((c + 1 - i : Nat) : Nat) : Int) = (c : Int) + 1 - (i : Int) by omega] at h
    rw [h, hW1, hZS]
    congr 3
    apply Array.ext'
    simp
  have hg1 : W1.heap[w.heap.size]? = some (.cells (xs.take (i * 1) ++ ZS).toArray 4 (0, 0)) := by rw [hW1]; exact heap_alloc_new w.drew _
  have ho1 : ∀ k, k < w.heap.size → W1.heap[k]? = w.heap[k]? := fun k hk => by rw [hW1]; exact heap_alloc_old w.drew _ hk
  have hs1 : w.grownBy W1 (some w.heap.size) := ⟨by rw [hW1]; rfl, by rw [hW1]; rfl, by rw [hW1]; rfl, by rw [hW1]; simp, fun k hk _ => ho1 k hk⟩
  have lc0 : (xs.take (i * 1) ++ ZS).length = G * 1 := by simp [hZl]; omega
  obtain ⟨c1, hc1⟩ : ∃ c1 : List Value, c1 = (xs.take (i * 1) ++ ZS).take (i * 1) ++ us ++ (xs.take (i * 1) ++ ZS).drop (i * 1 + us.length) := ⟨_, rfl⟩
  have lc1 : c1.length = G * 1 := by rw [hc1]; simp [hZl]; omega
  obtain ⟨W2, hW2⟩ : ∃ W2, W2 = W1.setRow w.heap.size c1.toArray := ⟨_, rfl⟩
  have hcpA : ∀ ty dc, (Builtin.copy_ #[192, 192] ty #[.slice (some ⟨w.heap.size, i, none⟩) (c + 1 - i) dc, .slice (some ⟨vb, 0, none⟩) 1 vc]).run Tryz.prog W1 = .ok (goInt 1) W2 := fun ty dc => by
    have h := run_copy_wide (P := Tryz.prog) W1 192 192 ty 4 1 w.heap.size (i * 1) (c + 1 - i) dc 1 ⟨vb, 0, none⟩ 1 vc _ _ us Tryz.underlying192 Tryz.siInsB hg1 (by simp only [Nat.min_def]; split <;> omega) (by omega)
      (fun j v hj => by rw [Addr.add_lit, Nat.zero_add, cell_of_row W1 vb j us.toArray _ (0, 0) ((ho1 vb hvw).trans hv)]; simpa using hj) (by simp [hZl]; omega) h1u
    rw [hW2, hc1]
    simpa using h
  have hg2 : W2.heap[w.heap.size]? = some (.cells c1.toArray 4 (0, 0)) := by rw [hW2]; exact setRow_heap W1 _ _ _ _ _ hg1
  have ho2 : ∀ k, k < w.heap.size → W2.heap[k]? = w.heap[k]? := fun k hk => by rw [hW2, setRow_other W1 _ k _ (by omega)]; exact ho1 k hk
  obtain ⟨c2, hc2⟩ : ∃ c2 : List Value, c2 = c1.take (i * 1 + 1) ++ xs.drop (i * 1) ++ c1.drop (i * 1 + 1 + (xs.drop (i * 1)).length) := ⟨_, rfl⟩
  obtain ⟨W3, hW3⟩ : ∃ W3, W3 = W2.drew.setRow w.heap.size c2.toArray := ⟨_, rfl⟩
  have hcpB : ∀ ty dl dc sc, dl = c - i → (Builtin.copy_ #[192, 192] ty #[.slice (some ⟨w.heap.size, (i + 1), none⟩) dl dc, .slice (some ⟨g, i, none⟩) (c - i) sc]).run Tryz.prog W2.drew = .ok (goInt (c - i : Nat)) W3 := fun ty dl dc sc hdl => by
    subst hdl
    have h := run_copy_wide (P := Tryz.prog) W2.drew 192 192 ty 4 1 w.heap.size (i * 1 + 1) (c - i) dc (c - i) ⟨g, i * 1, none⟩ (c - i) sc _ _ (xs.drop (i * 1)) Tryz.underlying192 Tryz.siInsB hg2 (by simp only [Nat.min_def]; split <;> omega) (by simp; omega)
      (fun j v hj => by
        rw [Addr.add_lit]
        rw [List.getElem?_drop] at hj
        have hj' := (List.getElem?_eq_some_iff.1 hj).1
        rw [show W2.drew.cell? ⟨g, i * 1 + j, none⟩ = W2.cell? ⟨g, i * 1 + j, none⟩ from rfl, cell_of_row W2 g _ cur _ (0, 0) ((ho2 g hgw).trans hg)]
        rw [← cell_of_row w g _ cur _ (0, 0) hg]
        exact (World.ownsRow.cellAt hr _ (by omega)).trans hj) (by simp [lc1]; omega) (fun v hv => h1x v (List.mem_of_mem_drop hv))
    rw [hW3, hc2]
    simpa [Nat.add_mul] using h
  have hgr := grow_row xs us ZS (i * 1) 1 (by omega) hu (by rw [hZl]; omega)
  simp only [← hc1] at hgr
  rw [← hc2, lc0] at hgr
  have hfin : InsAtB base c i (.slice (some ⟨g, 0, none⟩) c c) xs us w (.returned (.slice (some ⟨w.heap.size, 0, none⟩) (c + 1) G)) W3 := by
    refine ⟨w.heap.size, G, rfl, own_mk c2.toArray (by rw [putAt_len]; omega) hbase (by rw [hW3]; exact setRow_heap W2.drew _ _ _ _ _ hg2) hGn hGm (by simpa using hgr.2) (by rw [show (c + 1) * 1 = xs.length + 1 by omega]; exact hgr.1), ?_, .inr (Nat.le_refl _)⟩
    refine ⟨by rw [hW3, hW2]; exact hs1.os, by rw [hW3, hW2]; exact hs1.tape, by rw [hW3, hW2]; exact hs1.output, by rw [hW3, hW2]; simpa using hs1.size, fun k hk _ => ?_⟩
    rw [hW3, setRow_other W2.drew _ k _ (by omega)]; exact ho2 k hk
  have HF := Lib.hid hfin
  have HA := Lib.hid hrz
  have HB := Lib.hid hcpA
  have HC := Lib.hid hcpB
  clear hfin hrz hcpA hcpB hgr hg1 ho1 hs1 hg2 ho2 hold hG hW1 hW2 hW3 hZS hc1 hc2 lc0 lc1 hZl htk hcs hr hz0
  unfold maxLen at hGm
  have mixed : Tryz.prog.follows .mixedOrders = true := by kernel_rfl
  have hz2' : ¬ ((i : Int) = (c : Int)) := by omega
  have hz3 : (c : Int) < (c : Int) + 1 := by omega
  have hw1 : IntKind.i64.wrap ((i : Int) + 1) = (i : Int) + 1 := by rw [IntKind.wrap_i64]; omega
  have htn : ((i : Int) + 1).toNat = i + 1 := by omega
  have hGi : ¬ (G = i) := by omega
  have hGim : ¬ (G = i + 1) := by omega
  have hci : ¬ (c = i) := by omega
  have hb1 : (0 : Int) ≤ (i : Int) + 1 := by omega
  have hin : i ≤ c := by omega
  have hb3 : (i : Int) ≤ (c : Int) := by omega
  go_enter Tryz.func197, Tryz.ntmps197
  go_wp2_with (first
    | (at_builtin; refine Lib.wpList_append_run _ rfl _ _ _ _ rfl _ _ rfl rfl _ _ (HA.out _) ?_)
    | (simp only [HB.out]))
  go_region_law_o (refine step_copy_runI rfl _ _ 192 192 rfl _ _ (by simp [Act.eval, Act.put]) (by simp [Act.eval, Act.put]) (HC.out _ (c - i) (G - (i + 1)) (c - i) rfl) ?_)
  go_wp2
  go_ret
  exact HF.out
set_option maxHeartbeats 4000000 in
/-- there is room, and the place is not the last. -/
theorem insB_room (base n c i vb vc g : Nat) (xs us : List Value) (w : World) (hr : w.ownsRow base 4 1 (.slice (some ⟨g, 0, none⟩) n c) n xs) (hbase : base ≤ w.heap.size) (hi : i < n) (hn : n ≤ 1048576) (hc : n + 1 ≤ c)
    (hv : w.heap[vb]? = some (.cells us.toArray 4 (0, 0))) (hu : us.length = 1) (h1u : ∀ u ∈ us, u.oneCell' = true) (h1x : ∀ u ∈ xs, u.oneCell' = true) (hne : g ≠ vb) :
    Calls Tryz.prog 197 #[.slice (some ⟨g, 0, none⟩) n c, .int .i64 i, .slice (some ⟨vb, 0, none⟩) 1 vc] w fun e w' => InsAtB base n i (.slice (some ⟨g, 0, none⟩) n c) xs us w e w' := by
  obtain ⟨cur, hbg, hg, hnc, hcm, hcs, htk⟩ := own_parts hr
  have hxl := hr.1
  have hgw : g < w.heap.size := (Array.getElem?_eq_some_iff.1 hg).1
  have hvw : vb < w.heap.size := (Array.getElem?_eq_some_iff.1 hv).1
  have hcl : cur.toList.length = c * 1 := by simpa using hcs
  have hov : ∀ lb cb, (callFunc 224 #[.slice (some ⟨vb, 0, none⟩) 1 vc, .slice (some ⟨g, (i + 1), none⟩) lb cb]).run Tryz.prog w = .ok (.value (.bool false)) w := fun lb cb => by
    rw [run_callFunc_extern Tryz.func224 (by kernel_rfl) (by kernel_rfl) (by kernel_rfl) (e := Extern.SlicesOverlaps.overlaps #[192, 192] #[4]) (by kernel_rfl),
      Lib.run_overlaps_apart w 192 4 4 Tryz.underlying192 1 Tryz.sizeInsB ⟨vb, 0, none⟩ ⟨g, (i + 1), none⟩ 1 vc lb cb (fun e => hne e.symm) 4 4 1 (c * 1) (by simp [World.shape?, hv, hu]) (by simp [World.shape?, hg, hcs]) (by omega) (frozen_of_row w vb 0 _ _ hv) (frozen_of_row w vb _ _ _ hv)]
    rfl
  obtain ⟨c1, hc1⟩ : ∃ c1 : List Value, c1 = cur.toList.take (i * 1 + 1) ++ xs.drop (i * 1) ++ cur.toList.drop (i * 1 + 1 + (xs.drop (i * 1)).length) := ⟨_, rfl⟩
  have lc1 : c1.length = c * 1 := by rw [hc1]; simp [hcs]; omega
  obtain ⟨W1, hW1⟩ : ∃ W1, W1 = w.drew.setRow g c1.toArray := ⟨_, rfl⟩
  have hcp1 : ∀ ty dl dc sc, dl = n - i → (Builtin.copy_ #[192, 192] ty #[.slice (some ⟨g, (i + 1), none⟩) dl dc, .slice (some ⟨g, i, none⟩) (n + 1 - i) sc]).run Tryz.prog w.drew = .ok (goInt (n - i : Nat)) W1 := fun ty dl dc sc hdl => by
    subst hdl
    have h := run_copy_wide (P := Tryz.prog) w.drew 192 192 ty 4 1 g (i * 1 + 1) (n - i) dc (n - i) ⟨g, i * 1, none⟩ (n + 1 - i) sc _ _ (xs.drop (i * 1)) Tryz.underlying192 Tryz.siInsB hg (by simp only [Nat.min_def]; split <;> omega) (by simp; omega)
      (fun j v hj => by
        rw [Addr.add_lit]
        rw [List.getElem?_drop] at hj
        have hj' := (List.getElem?_eq_some_iff.1 hj).1
        exact (World.ownsRow.cellAt hr _ (by omega)).trans hj) (by simp [hcs]; omega) (fun v hv => h1x v (List.mem_of_mem_drop hv))
    rw [hW1, hc1]
    simpa [Nat.add_mul] using h
  have hg1 : W1.heap[g]? = some (.cells c1.toArray 4 (0, 0)) := by rw [hW1]; exact setRow_heap w.drew _ _ _ _ _ hg
  have hv1 : W1.heap[vb]? = some (.cells us.toArray 4 (0, 0)) := by rw [hW1, setRow_other w.drew g vb _ (fun e => hne e.symm)]; exact hv
  obtain ⟨c2, hc2⟩ : ∃ c2 : List Value, c2 = c1.take (i * 1) ++ us ++ c1.drop (i * 1 + us.length) := ⟨_, rfl⟩
  obtain ⟨W2, hW2⟩ : ∃ W2, W2 = W1.setRow g c2.toArray := ⟨_, rfl⟩
  have hcp2 : ∀ ty dc, (Builtin.copy_ #[192, 192] ty #[.slice (some ⟨g, i, none⟩) (n + 1 - i) dc, .slice (some ⟨vb, 0, none⟩) 1 vc]).run Tryz.prog W1 = .ok (goInt 1) W2 := fun ty dc => by
    have h := run_copy_wide (P := Tryz.prog) W1 192 192 ty 4 1 g (i * 1) (n + 1 - i) dc 1 ⟨vb, 0, none⟩ 1 vc _ _ us Tryz.underlying192 Tryz.siInsB hg1 (by simp only [Nat.min_def]; split <;> omega) (by omega)
      (fun j v hj => by rw [Addr.add_lit, Nat.zero_add, cell_of_row W1 vb j us.toArray _ (0, 0) hv1]; simpa using hj) (by simp [lc1]; omega) h1u
    rw [hW2, hc2]
    simpa using h
  have hsr := shift_row cur.toList us xs (i * 1) 1 (by rw [hxl]; exact htk) (by omega) hu (by rw [hcl]; omega)
  simp only [← hc1] at hsr
  rw [← hc2, hcl] at hsr
  have hfin : InsAtB base n i (.slice (some ⟨g, 0, none⟩) n c) xs us w (.returned (.slice (some ⟨g, 0, none⟩) (n + 1) c)) W2 := by
    refine ⟨g, c, rfl, own_mk c2.toArray (by rw [putAt_len]; omega) hbg (by rw [hW2]; exact setRow_heap W1 _ _ _ _ _ hg1) hc hcm (by simpa using hsr.2) (by rw [show (n + 1) * 1 = xs.length + 1 by omega]; exact hsr.1), ?_, .inl rfl⟩
    refine ⟨by rw [hW2, hW1]; rfl, by rw [hW2, hW1]; rfl, by rw [hW2, hW1]; rfl, by rw [hW2, hW1]; simp, fun k hk hkg => ?_⟩
    have hkg : k ≠ g := fun e => hkg (by rw [e]; simp [Value.ownBlock])
    rw [hW2, setRow_other W1 _ k _ hkg, hW1, setRow_other w.drew _ k _ hkg]; rfl
  have HF := Lib.hid hfin
  have HA := Lib.hid hcp1
  have HB := Lib.hid hcp2
  unfold maxLen at hcm
  clear hfin hcp1 hcp2 hsr hg1 hv1 hW1 hW2 hc1 hc2 lc1 hcl htk hcs hr
  have mixed : Tryz.prog.follows .mixedOrders = true := by kernel_rfl
  have hz2' : ¬ ((i : Int) = (n : Int)) := by omega
  have hw1 : IntKind.i64.wrap ((i : Int) + 1) = (i : Int) + 1 := by rw [IntKind.wrap_i64]; omega
  have hb1 : (0 : Int) ≤ (i : Int) + 1 := by omega
  have hin : i ≤ n := by omega
  have htn : ((i : Int) + 1).toNat = i + 1 := by omega
  have hb2 : ¬ (c = i + 1) := by omega
  have hb3 : (i : Int) ≤ (n : Int) + 1 := by omega
  have hb4 : ¬ (c = i) := by omega
  go_enter Tryz.func197, Tryz.ntmps197
  go_wp2_with (simp only [hov])
  go_region_law_o (refine step_copy_runI rfl _ _ 192 192 rfl _ _ (by simp [Act.eval, Act.put]) (by simp [Act.eval, Act.put]) (HA.out _ (n - i) (c - (i + 1)) (c - i) rfl) ?_)
  go_wp2_with (simp only [HB.out])
  go_ret
  exact HF.out
set_option maxHeartbeats 4000000 in
/-- the place is the last. -/
theorem insB_end (base n c vb vc : Nat) (A : Option Addr) (xs us : List Value) (w : World) (hr : w.ownsRow base 4 1 (.slice A n c) n xs) (hbase : base ≤ w.heap.size) (hn : n ≤ 1048576)
    (hv : w.heap[vb]? = some (.cells us.toArray 4 (0, 0))) (hu : us.length = 1) (h1u : ∀ u ∈ us, u.oneCell' = true) :
    Calls Tryz.prog 197 #[.slice A n c, .int .i64 n, .slice (some ⟨vb, 0, none⟩) 1 vc] w fun e w' => InsAtB base n n (.slice A n c) xs us w e w' := by
  obtain ⟨i0, hi0, hz0, hz1, hz2⟩ := info_parts Tryz.infoInsB
  obtain ⟨hnc, hcm, hA⟩ := own_cap hr
  unfold maxLen at hcm
  have hxl := hr.1
  have hx : putAt xs us (n * 1) = xs ++ us := by unfold putAt; rw [List.take_of_length_le (by omega), List.drop_of_length_le (by omega), List.append_nil]
  unfold InsAtB
  rw [hx]
  have hnn : ((n : Int) == (n : Int)) = true := by simp
  clear hx
  go_enter Tryz.func197, Tryz.ntmps197
  rcases own_none hr with ⟨rfl, rfl, rfl⟩ | ⟨g, rfl⟩
  all_goals
    go_wp2_with (at_builtin; refine wpList_append_lies _ rfl _ _ 192 rfl base 4 i0 (.bool false) 1 1 Tryz.underlying192 hi0 hz0 hz1 hz2 rfl (by decide) _ _ _ rfl hr ⟨vb, 0, none⟩ 1 vc us rfl (by omega) (fun j u hj => by rw [Addr.add_lit, Nat.zero_add, cell_of_row w vb j us.toArray _ (0, 0) hv]; simpa using hj) h1u (by omega) (by unfold maxLen; omega) (by omega) hbase _ rfl ?_)
    all_goals
      intro g' c' w1 hown hgrow hat hlt
      go_wp2
      go_ret
      refine ⟨g', c', rfl, hown, hgrow, ?_⟩
      rcases hat with h | h
      · exact .inl h
      · exact .inr (by omega)
theorem insB_any (base n c i vb vc : Nat) (A : Option Addr) (xs us : List Value) (w : World) (hr : w.ownsRow base 4 1 (.slice A n c) n xs) (hbase : base ≤ w.heap.size) (hi : i ≤ n) (hn : n ≤ 1048576)
    (hv : w.heap[vb]? = some (.cells us.toArray 4 (0, 0))) (hu : us.length = 1) (h1u : ∀ u ∈ us, u.oneCell' = true) (h1x : ∀ u ∈ xs, u.oneCell' = true) (hne : (Value.slice A n c).ownBlock ≠ some vb) :
    Calls Tryz.prog 197 #[.slice A n c, .int .i64 i, .slice (some ⟨vb, 0, none⟩) 1 vc] w fun e w' => InsAtB base n i (.slice A n c) xs us w e w' := by
  rcases Nat.lt_or_ge i n with h | h
  · rcases own_none hr with ⟨rfl, rfl, rfl⟩ | ⟨g, rfl⟩
    · omega
    · have hne : g ≠ vb := fun e => hne (by rw [e]; simp [Value.ownBlock])
      rcases Nat.lt_or_ge c (n + 1) with h1 | h1
      · exact insB_grow base n c i vb vc g xs us w hr hbase h hn h1 hv hu h1u h1x
      · exact insB_room base n c i vb vc g xs us w hr hbase h hn h1 hv hu h1u h1x hne
  · obtain rfl : i = n := by omega
    exact insB_end base i c vb vc A xs us w hr hbase hn hv hu h1u
end Go.Proofs.YtigdcmfmaehjfaaGreat

-- SlB: A list of flags by name, as it lies in memory, and putting one into it. No statement of the program is proved here.
namespace Go.Proofs.YtigdcmfmaehjfaaGreat
set_option maxRecDepth 100000
set_option linter.unusedVariables false
set_option linter.unusedSimpArgs false
open Go.RowKit

def vbs (bs : List (Int × Bool)) : List Value := bs.map fun p => .bool p.2
def kbs (bs : List (Int × Bool)) : List Int := bs.map (·.1)
theorem kbs_len (bs : List (Int × Bool)) : (kbs bs).length = bs.length := by simp [kbs]
theorem vbs_len (bs : List (Int × Bool)) : (vbs bs).length = bs.length := by simp [vbs]
theorem vbs_put (bs : List (Int × Bool)) (i : Nat) (q : Int × Bool) : putAt (vbs bs) [.bool q.2] (i * 1) = vbs (insP bs i q) := by
  unfold vbs putAt
  rw [insP_map]
  unfold insP
  simp
theorem kbs_put (bs : List (Int × Bool)) (i : Nat) (q : Int × Bool) : putAt ((kbs bs).map (Value.int .i64)) [.int .i64 q.1] (i * 1) = (kbs (insP bs i q)).map (Value.int .i64) := by
  unfold kbs putAt
  rw [insP_map, insP_map]
  unfold insP
  simp
theorem vbs_one (bs : List (Int × Bool)) : ∀ u ∈ vbs bs, u.oneCell' = true := by
  intro u hu
  obtain ⟨p, _, rfl⟩ := List.mem_map.1 hu
  rfl
/-- a list of flags by name, in memory of the call's own from lo on. -/
structure SLB (w : World) (lo : Nat) (R : SR) (bs : List (Int × Bool)) : Prop where
  keys : OwnI w lo R.Ak bs.length R.ck (kbs bs)
  vals : w.ownsRow lo 4 1 (.slice R.Av bs.length R.cv) bs.length (vbs bs)
  rise : RiseI (kbs bs)
  len : bs.length ≤ 2000
theorem SLB.nil (w : World) (lo : Nat) : SLB w lo SR0 [] := ⟨OwnI.nil _ _, World.ownsRow_nil _ _ _ _, List.Pairwise.nil, by simp⟩
theorem SLB.lt {w : World} {lo : Nat} {R : SR} {bs : List (Int × Bool)} (h : SLB w lo R bs) (g : Nat) (hg : R.at_ g) : lo ≤ g ∧ g < w.heap.size := by
  rcases hg with ⟨a, ha, rfl⟩ | ⟨a, ha, rfl⟩
  · exact h.keys.lt _ (by rw [ha]; rfl)
  · exact h.vals.lt _ (by rw [ha]; rfl)
theorem SLB.touch {S : Nat → Prop} {w w' : World} {lo : Nat} {R : SR} {bs : List (Int × Bool)} (h : SLB w lo R bs) (t : Touch S w w') (h1 : ∀ g, R.at_ g → ¬ S g) : SLB w' lo R bs :=
  ⟨h.keys.touch t (fun g hg => h1 g (SR.kvAt R bs.length g hg)), own_touch h.vals t (fun g hg => h1 g (SR.vvAt R bs.length g hg)), h.rise, h.len⟩
theorem SLB.below {w w' : World} {lo : Nat} {R : SR} {bs : List (Int × Bool)} (h : SLB w lo R bs) (hb : Below w.heap.size w w') : SLB w' lo R bs :=
  h.touch (S := fun _ => False) (Touch.of_below hb) (fun _ _ h => h)
theorem SLB.not_at {w : World} {lo g : Nat} {R : SR} {bs : List (Int × Bool)} {t : TypeId} {cs : Array Value} (h : SLB w lo R bs) (hb : Box w g t cs) (h1 : t ≠ 2) (h2 : t ≠ 4) : ¬ R.at_ g := fun e => by
  rcases e with ⟨a, ha, e⟩ | ⟨a, ha, e⟩
  · exact own_box_ne h.keys hb h1 (by rw [ha, ← e]; rfl)
  · exact own_box_ne h.vals hb h2 (by rw [ha, ← e]; rfl)
theorem lowB_len (bs : List (Int × Bool)) (m : Int) : lowI (kbs bs) m ≤ bs.length := by have := lowI_le (kbs bs) m; rw [kbs_len] at this; exact this
/-- what a putting leaves, once both rows are made. -/
theorem putB_fin (p lo : Nat) (R : SR) (bs : List (Int × Bool)) (m : Int) (x : Bool) (w w5 w6 : World) (h : SLB w lo R bs) (hp : p < w.heap.size) (hl : bs.length < 2000) (ht : hitI (kbs bs) m = false)
    (g4 c4 g6 c6 : Nat) (T5 : Touch (fun g => g = p ∨ R.at_ g) w w5)
    (P5 : Box w5 p 194 #[.slice (some ⟨g4, 0, none⟩) (bs.length + 1) c4, R.vv bs.length])
    (K5 : OwnI w5 lo (some ⟨g4, 0, none⟩) (bs.length + 1) c4 (kbs (insP bs (lowI (kbs bs) m) (m, x)))) (G4 : R.at_ g4 ∨ w.heap.size ≤ g4)
    (V5 : w5.ownsRow lo 4 1 (R.vv bs.length) bs.length (vbs bs))
    (t6 : Touch (fun g => (R.vv bs.length).ownBlock = some g) w5 w6)
    (o6 : w6.ownsRow lo 4 1 (.slice (some ⟨g6, 0, none⟩) (bs.length + 1) c6) (bs.length + 1) (vbs (insP bs (lowI (kbs bs) m) (m, x)))) (G6 : R.at_ g6 ∨ w.heap.size ≤ g6) :
    Box w6 p 194 #[.slice (some ⟨g4, 0, none⟩) (bs.length + 1) c4, R.vv bs.length] ∧
    ∃ R', Box (w6.setCell ⟨p, 1, none⟩ (.slice (some ⟨g6, 0, none⟩) (bs.length + 1) c6)) p 194 #[R'.kv (bs.length + 1), R'.vv (bs.length + 1)] ∧
      SLB (w6.setCell ⟨p, 1, none⟩ (.slice (some ⟨g6, 0, none⟩) (bs.length + 1) c6)) lo R' (insP bs (lowI (kbs bs) m) (m, x)) ∧ R'.from_ R w.heap.size ∧ Touch (fun g => g = p ∨ R.at_ g) w (w6.setCell ⟨p, 1, none⟩ (.slice (some ⟨g6, 0, none⟩) (bs.length + 1) c6)) := by
  have hvp : (R.vv bs.length).ownBlock ≠ some p := own_box_ne V5 P5 (by decide)
  have s5 := T5.size
  have P6 : Box w6 p 194 #[.slice (some ⟨g4, 0, none⟩) (bs.length + 1) c4, R.vv bs.length] := (t6.block p (by omega) (fun e => hvp e)).trans P5
  have K6 := K5.touch t6 (fun g hg e => own_own_ne K5 V5 (by decide) g hg e)
  have g4p : g4 ≠ p := fun e => own_box_ne K6 P6 (by decide) (by rw [e]; rfl)
  have g6p : g6 ≠ p := fun e => own_box_ne o6 P6 (by decide) (by rw [e]; rfl)
  obtain ⟨w7, hw7⟩ : ∃ w7, w6.setCell ⟨p, 1, none⟩ (.slice (some ⟨g6, 0, none⟩) (bs.length + 1) c6) = w7 := ⟨_, rfl⟩
  have t7 : Touch (fun g => g = p) w6 w7 := by rw [← hw7]; exact touch_set w6 p 1 _ rfl
  have P7 : Box w7 p 194 #[.slice (some ⟨g4, 0, none⟩) (bs.length + 1) c4, .slice (some ⟨g6, 0, none⟩) (bs.length + 1) c6] := by rw [← hw7]; exact P6.set_ 1 _
  have K7 := K6.touch t7 (fun g hg e => g4p (by have e2 : g4 = g := (by simpa [Value.ownBlock] using hg); omega))
  have O7 := own_touch o6 t7 (fun g hg e => g6p (by have e2 : g6 = g := (by simpa [Value.ownBlock] using hg); omega))
  rw [hw7]
  have T7 : Touch (fun g => g = p ∨ R.at_ g) w w7 := (T5.trans (t6.mono (fun k hk => .inr (R.vvAt _ _ hk)))).trans (t7.mono (fun k hk => .inl hk))
  have hfrom : (⟨some ⟨g4, 0, none⟩, c4, some ⟨g6, 0, none⟩, c6⟩ : SR).from_ R w.heap.size := fun g hg => by
    rcases hg with ⟨a, ha, e⟩ | ⟨a, ha, e⟩
    · cases ha; subst e; exact G4
    · cases ha; subst e; exact G6
  have hli := lowB_len bs m
  have hln : (insP bs (lowI (kbs bs) m) (m, x)).length = bs.length + 1 := insP_len _ _ _ hli
  refine ⟨P6, ⟨some ⟨g4, 0, none⟩, c4, some ⟨g6, 0, none⟩, c6⟩, P7, ⟨by rw [hln]; exact K7, by rw [hln]; exact O7, ?_, by omega⟩, hfrom, T7⟩
  have hm : m ∉ kbs bs := fun hm => by rw [(hitI_mem _ _ h.rise).2 hm] at ht; cases ht
  have e : kbs (insP bs (lowI (kbs bs) m) (m, x)) = insI (kbs bs) m := by rw [← insP_low _ _ hm]; exact insP_map _ _ _ _
  rw [e]
  exact insI_rise _ _ h.rise hm
set_option maxHeartbeats 2000000 in
theorem putB_any (p lo : Nat) (R : SR) (bs : List (Int × Bool)) (m : Int) (x : Bool) (w : World) (hx : Box w p 194 #[R.kv bs.length, R.vv bs.length]) (h : SLB w lo R bs) (hlo : lo ≤ w.heap.size) (hl : bs.length < 2000) :
    Calls Tryz.prog 147 #[.pointer (some ⟨p, 0, none⟩), .int .i64 m, .bool x] w fun e w' =>
      (hitI (kbs bs) m = true ∧ e = .returned (.bool false) ∧ Below w.heap.size w w') ∨
      (hitI (kbs bs) m = false ∧ e = .returned (.bool true) ∧ ∃ R', Box w' p 194 #[R'.kv (bs.length + 1), R'.vv (bs.length + 1)] ∧ SLB w' lo R' (insP bs (lowI (kbs bs) m) (m, x)) ∧ R'.from_ R w.heap.size ∧ Touch (fun g => g = p ∨ R.at_ g) w w') := by
  have mixed : Tryz.prog.follows .mixedOrders = true := by kernel_rfl
  have hlen := h.len
  have hp := hx.lt
  have P1 := Lib.hid hx
  have HS := Lib.hid h
  have HRL := Lib.hid (fun g hg => (h.lt g hg).2)
  clear hx h
  have q0 := P1.out.cell 0
  have q1 := P1.out.cell 1
  unfold SR.kv at q0
  unfold SR.vv at q1
  simp at q0 q1
  go_enter Tryz.func147, Tryz.ntmps147
  go_wp2_with fail
  refine (search_any R.Ak bs.length R.ck (kbs bs) m w.heap.size w (by omega) HS.out.keys.ints HS.out.rise).mono ?_
  rintro e w2 ⟨rfl, nq, hq⟩
  have b2 : Below w.heap.size w w2 := by rw [hq]; exact below_drewN (Below.refl _ _) nq
  have P2 := Lib.hid (P1.out.below b2 (by omega))
  have S2 := Lib.hid (HS.out.below b2)
  have B2 := Lib.hid b2
  have hs2 : w2.heap.size = w.heap.size := by rw [hq]; simp
  clear hq b2 q0 q1
  have q0 := P2.out.cell 0
  have q1 := P2.out.cell 1
  have p0 := P2.out.free
  unfold SR.kv at q0
  unfold SR.vv at q1
  simp at q0 q1
  obtain ⟨ht, hht⟩ : ∃ ht, hitI (kbs bs) m = ht := ⟨_, rfl⟩
  have HT := Lib.hid hht
  rw [hht]
  clear hht
  obtain ⟨i, hi⟩ : ∃ i, lowI (kbs bs) m = i := ⟨_, rfl⟩
  have hil : i ≤ bs.length := by rw [← hi]; exact lowB_len bs m
  have HI := Lib.hid hi
  rw [hi]
  clear hi
  cases ht with
  | true =>
    go_wp2
    go_ret
    exact .inl ⟨HT.out, rfl, B2.out⟩
  | false =>
    -- the key's own block
    obtain ⟨w3, hw3⟩ : ∃ w3, w2.alloc (.cells #[.int .i64 m] 2) = w3 := ⟨_, rfl⟩
    have b3 : Below w2.heap.size w2 w3 := hw3 ▸ (Below.refl w2.heap.size w2).alloc (Nat.le_refl _) _
    have y3 : Box w3 w2.heap.size 2 #[.int .i64 m] := hw3 ▸ heap_alloc_new _ _
    have s3 : w3.heap.size = w.heap.size + 1 := by rw [← hw3]; simp [hs2]
    rw [hs2] at y3
    have P3 := Lib.hid (P2.out.below b3 (by omega))
    have S3 := Lib.hid (S2.out.below b3)
    have B3 := Lib.hid (B2.out.trans (b3.mono (by omega)))
    have Y3 := Lib.hid y3
    clear b3 y3
    go_wp2_with fail
    refine (insI_any lo bs.length R.ck i w.heap.size _ R.Ak ((kbs bs).map (Value.int .i64)) [.int .i64 m] w3 S3.out.keys (by omega) hil (by omega) Y3.out rfl (by intro u hu; simp at hu; subst hu; rfl) (kvs_one _) (fun e => by have := (S2.out.keys.lt _ e).2; omega)).mono ?_
    rintro e w4 ⟨g4, c4, rfl, o4, gr4, at4⟩
    rw [show ([.int .i64 m] : List Value) = [.int .i64 ((m, x) : Int × Bool).1] from rfl, kbs_put] at o4
    have gk4 := gr4
    have gr4 : Touch (fun g => R.at_ g) w3 w4 := (Touch.of_grown gr4).mono (fun k hk => R.kvAt _ _ hk.symm)
    have np_ : ¬ R.at_ p := S3.out.not_at P3.out (by decide) (by decide)
    have s4 : w3.heap.size ≤ w4.heap.size := gr4.size
    have P4 := Lib.hid (show Box w4 p _ _ from (gr4.block p (by omega) np_).trans P3.out)
    have V4 := Lib.hid (own_touch S3.out.vals (S := fun g => (R.kv bs.length).ownBlock = some g) ((Touch.of_grown (show w3.grownBy w4 (R.kv bs.length).ownBlock from gk4)).mono (fun k hk => hk.symm)) (fun g hg hk => own_own_ne S3.out.keys S3.out.vals (by decide) g hk hg))
    have V4p : (R.vv bs.length).ownBlock ≠ some p := own_box_ne V4.out P4.out (by decide)
    have K4 := Lib.hid (show OwnI w4 lo (some ⟨g4, 0, none⟩) (bs.length + 1) c4 _ from o4)
    have g4p : g4 ≠ p := fun e => own_box_ne o4 P4.out (by decide) (by rw [e]; rfl)
    have G4 := Lib.hid at4
    clear o4 gk4 at4 q0 q1 p0
    have f4 := P4.out.free
    have q4 := P4.out.cell 0
    simp at q4
    obtain ⟨w5, hw5⟩ : ∃ w5, w4.setCell ⟨p, 0, none⟩ (.slice (some ⟨g4, 0, none⟩) (bs.length + 1) c4) = w5 := ⟨_, rfl⟩
    have t5 : Touch (fun g => g = p) w4 w5 := by rw [← hw5]; exact touch_set w4 p 0 _ rfl
    have s5 : w5.heap.size = w4.heap.size := by rw [← hw5]; simp
    have P5 := Lib.hid (show Box w5 p _ #[.slice (some ⟨g4, 0, none⟩) (bs.length + 1) c4, R.vv bs.length] from by rw [← hw5]; exact P4.out.set_ 0 _)
    have V5 := Lib.hid (own_touch V4.out t5 (fun g hg hk => V4p (by rw [← hk]; exact hg)))
    have K5 := Lib.hid (K4.out.touch t5 (fun g hg hk => g4p (by have e : g4 = g := (by simpa [Value.ownBlock] using hg); omega)))
    have T5 := Lib.hid (show Touch (fun g => g = p ∨ R.at_ g) w w5 from ((Touch.of_below B3.out).trans (gr4.mono (fun k hk => .inr hk))).trans (t5.mono (fun k hk => .inl hk)))
    have q1 := P5.out.cell 1
    have f1 := P5.out.free
    unfold SR.vv at q1
    simp at q1
    obtain ⟨w51, hw51⟩ : ∃ w51, w5.alloc (.cells #[.bool x] 4) = w51 := ⟨_, rfl⟩
    have b51 : Below w5.heap.size w5 w51 := hw51 ▸ (Below.refl _ _).alloc (Nat.le_refl _) _
    have V6 := Lib.hid (show w51.ownsRow lo 4 1 (.slice R.Av bs.length R.cv) bs.length (vbs bs) from hw51 ▸ V5.out.alloc _)
    have y6 : w51.heap[w5.heap.size]? = some (.cells ([.bool x] : List Value).toArray 4 (0, 0)) := hw51 ▸ heap_alloc_new w5 _
    rw [s5] at y6
    have Y6 := Lib.hid y6
    have z6 : w51.heap.size = w4.heap.size + 1 := by rw [← hw51, ← s5]; simp
    have VB := Lib.hid (fun g hg => (V5.out.lt g hg).2)
    have B51 := Lib.hid b51
    clear gr4 t5 y6 b51
    have hp4 : p < w4.heap.size := by omega
    have hp5 : p < w5.heap.size := by omega
    have hpn : ¬ (p = w4.heap.size) := by omega
    go_wp2_with fail
    refine (insB_any lo bs.length R.cv i w4.heap.size _ R.Av (vbs bs) [.bool x] w51 V6.out (by omega) hil (by omega) Y6.out rfl (by intro u hu; simp at hu; subst hu; rfl) (vbs_one _) (fun e => by have := VB.out _ e; omega)).mono ?_
    rintro e w6 ⟨g6, c6, rfl, o6, gr6, at6⟩
    rw [show ([.bool x] : List Value) = [.bool ((m, x) : Int × Bool).2] from rfl, vbs_put, ← HI.out] at o6
    have PF := putB_fin p lo R bs m x w w5 w6 HS.out hp hl HT.out g4 c4 g6 c6 T5.out P5.out (by rw [HI.out]; exact K5.out) (G4.out.elim (fun e => .inl (R.kvAt _ _ e)) (fun e => .inr (by omega))) V5.out
      ((Touch.of_below B51.out).trans ((Touch.of_grown gr6).mono (fun k hk => hk.symm))) o6 (at6.elim (fun e => .inl (R.vvAt _ _ e)) (fun e => .inr (by omega)))
    have q6 := PF.1.cell 1
    have f6 := PF.1.free 1
    simp at q6
    have PF := Lib.hid PF.2
    clear q1 f1 o6 gr6 at6 hw51 hw5 f4 q4
    go_wp2
    go_ret
    exact .inr ⟨HT.out, rfl, PF.out⟩
end Go.Proofs.YtigdcmfmaehjfaaGreat

-- ContI: slices.Contains at int64 and at bool, slices.ContainsFunc at int64, as the program calls them. No statement of the program is proved here.
namespace Go.Proofs.YtigdcmfmaehjfaaGreat
set_option maxRecDepth 100000
set_option linter.unusedVariables false
set_option linter.unusedSimpArgs false
open Go.RowKit

theorem mem_take_all {α : Type} [Inhabited α] {P : α → Prop} (l : List α) (d : α) (h : ∀ j, j < l.length → P (l[j]?.getD d)) : ∀ x, x ∈ l → P x := by
  intro x hx
  obtain ⟨j, hj, rfl⟩ := List.mem_iff_getElem.1 hx
  have := h j hj
  rwa [List.getElem?_eq_getElem hj] at this
set_option maxHeartbeats 1600000 in
theorem indexI_any (A : Option Addr) (n c : Nat) (l : List Int) (m : Int) (B : Nat) (w : World) (hn : n ≤ 1048576) (hb : Ints w B A n l) :
    Calls Tryz.prog 202 #[.slice A n c, .int .i64 m] w fun e w' => (∃ k : Int, e = .returned (.int .i64 k) ∧ (0 ≤ k ↔ m ∈ l)) ∧ ∃ q, w' = w.drewN q := by
  have mixed : Tryz.prog.follows .mixedOrders = true := by kernel_rfl
  have hlen := hb.1
  have HB := Lib.hid hb
  clear hb
  go_enter Tryz.func202, Tryz.ntmps202
  go_wp2
  go_loopw [8] (fun s8 wr => ∃ k q : Nat, k ≤ n ∧ s8 = .int .i64 k ∧ wr = w.drewN q ∧ ∀ j, j < k → l[j]?.getD 0 ≠ m) (fun s8 _ => n - (intOf s8).toNat)
  case atStart => exact ⟨0, 0, Nat.zero_le _, rfl, rfl, fun j hj => absurd hj (Nat.not_lt_zero _)⟩
  case round =>
    obtain ⟨k, q, hk, rfl, hwq, h1⟩ := hrel
    have H1 := Lib.hid h1
    have HQ := Lib.hid hwq
    clear h1
    by_cases hlt : k < n
    · obtain ⟨b, off, rfl, hbB, hcell⟩ := HB.out.2 (by omega)
      have cm : wr.cell? ⟨b, off + k, none⟩ = some (.int .i64 (l[k]?.getD 0)) := by rw [hwq]; exact hcell _ hlt
      clear hcell hwq
      obtain ⟨y, hy⟩ : ∃ y, l[k]?.getD 0 = y := ⟨_, rfl⟩
      rw [hy] at cm
      have Y := Lib.hid hy
      clear hy
      by_cases hyx : m = y
      · have hb0 : (m == y) = true := by simpa using hyx
        have HYX := Lib.hid hyx
        clear hyx
        go_wp2
        go_ret
        refine ⟨⟨k, rfl, iff_of_true (by omega) ?_⟩, q, (by first | rfl | exact HQ.out)⟩
        rw [HYX.out, ← Y.out, List.getElem?_eq_getElem (by omega)]
        exact List.getElem_mem _
      · have hb0 : (m == y) = false := by simpa using hyx
        have HYX := Lib.hid hyx
        clear hyx
        go_wp2
        go_roundw
        case measure => simp [intOf]; omega
        case rel =>
          refine ⟨k + 1, q, by omega, by go_num, (by first | rfl | exact HQ.out), fun j hj => ?_⟩
          by_cases e : j = k
          · subst e; rw [Y.out]; exact fun e => HYX.out e.symm
          · exact H1.out j (by omega)
    · obtain rfl : k = n := by omega
      go_wp2
      go_ret
      refine ⟨⟨-1, rfl, iff_of_false (by omega) (fun hm => ?_)⟩, q, (by first | rfl | exact HQ.out)⟩
      obtain ⟨j, hj, rfl⟩ := List.mem_iff_getElem.1 hm
      exact H1.out j (by omega) (by rw [List.getElem?_eq_getElem hj]; rfl)
theorem containsI_any (A : Option Addr) (n c : Nat) (l : List Int) (m : Int) (B : Nat) (w : World) (hn : n ≤ 1048576) (hb : Ints w B A n l) :
    Calls Tryz.prog 153 #[.slice A n c, .int .i64 m] w fun e w' => e = .returned (.bool (decide (m ∈ l))) ∧ ∃ q, w' = w.drewN q := by
  go_enter Tryz.func153, Tryz.ntmps153
  go_wp2_with fail
  refine (indexI_any A n c l m B w hn hb).mono ?_
  rintro e w2 ⟨⟨k, rfl, hk⟩, q, rfl⟩
  obtain ⟨r, hr⟩ : ∃ r, decide (m ∈ l) = r := ⟨_, rfl⟩
  have HR := Lib.hid hr
  by_cases h0 : 0 ≤ k
  · have hd : decide (0 ≤ k) = true := decide_eq_true h0
    have he : true = r := by rw [← hr]; exact (decide_eq_true (hk.1 h0)).symm
    clear hk h0 hb hr
    go_wp2
    go_ret
    exact ⟨by rw [HR.out, ← he] <;> rfl, q, rfl⟩
  · have hd : decide (0 ≤ k) = false := decide_eq_false h0
    have he : false = r := by rw [← hr]; exact (decide_eq_false (fun h => h0 (hk.2 h))).symm
    clear hk h0 hb hr
    go_wp2
    go_ret
    exact ⟨by rw [HR.out, ← he] <;> rfl, q, rfl⟩
set_option maxHeartbeats 1600000 in
theorem indexB_any (A : Option Addr) (n c lo : Nat) (l : List Bool) (w : World) (hn : n ≤ 1048576) (hb : w.ownsRow lo 4 1 (.slice A n c) n (l.map Value.bool)) :
    Calls Tryz.prog 198 #[.slice A n c, .bool false] w fun e w' => (∃ k : Int, e = .returned (.int .i64 k) ∧ (0 ≤ k ↔ false ∈ l)) ∧ ∃ q, w' = w.drewN q := by
  have mixed : Tryz.prog.follows .mixedOrders = true := by kernel_rfl
  have hlen : l.length = n := by have := hb.1; simpa using this
  have hrow : 0 < n → ∃ g, A = some ⟨g, 0, none⟩ ∧ ∀ k, k < n → w.cell? ⟨g, k, none⟩ = some (.bool (l[k]?.getD true)) := fun h0 => by
    obtain ⟨g, cap, hv, _, _⟩ := World.ownsRow.form hb h0
    injection hv with hA
    refine ⟨g, hA, fun k hk => ?_⟩
    rw [hA] at hb
    have := World.ownsRow.cellAt hb (k * 1) (by omega)
    rw [Nat.mul_one] at this
    rw [this, List.getElem?_map, List.getElem?_eq_getElem (by omega)]
    rfl
  have HB := Lib.hid hrow
  clear hb hrow
  go_enter Tryz.func198, Tryz.ntmps198
  go_wp2
  go_loopw [8] (fun s8 wr => ∃ k q : Nat, k ≤ n ∧ s8 = .int .i64 k ∧ wr = w.drewN q ∧ ∀ j, j < k → l[j]?.getD true = true) (fun s8 _ => n - (intOf s8).toNat)
  case atStart => exact ⟨0, 0, Nat.zero_le _, rfl, rfl, fun j hj => absurd hj (Nat.not_lt_zero _)⟩
  case round =>
    obtain ⟨k, q, hk, rfl, hwq, h1⟩ := hrel
    have H1 := Lib.hid h1
    have HQ := Lib.hid hwq
    clear h1
    by_cases hlt : k < n
    · obtain ⟨g, rfl, hcell⟩ := HB.out (by omega)
      have cm : wr.cell? ⟨g, k, none⟩ = some (.bool (l[k]?.getD true)) := by rw [hwq]; exact hcell _ hlt
      clear hcell hwq
      obtain ⟨y, hy⟩ : ∃ y, l[k]?.getD true = y := ⟨_, rfl⟩
      rw [hy] at cm
      have Y := Lib.hid hy
      clear hy
      cases y with
      | false =>
        go_wp2
        go_ret
        refine ⟨⟨k, rfl, iff_of_true (by omega) ?_⟩, q, (by first | rfl | exact HQ.out)⟩
        have e := Y.out
        rw [List.getElem?_eq_getElem (by omega)] at e
        have e : l[k] = false := e
        rw [← e]
        exact List.getElem_mem _
      | true =>
        go_wp2
        go_roundw
        case measure => simp [intOf]; omega
        case rel =>
          refine ⟨k + 1, q, by omega, by go_num, (by first | rfl | exact HQ.out), fun j hj => ?_⟩
          by_cases e : j = k
          · subst e; exact Y.out
          · exact H1.out j (by omega)
    · obtain rfl : k = n := by omega
      go_wp2
      go_ret
      refine ⟨⟨-1, rfl, iff_of_false (by omega) (fun hm => ?_)⟩, q, (by first | rfl | exact HQ.out)⟩
      obtain ⟨j, hj, e⟩ := List.mem_iff_getElem.1 hm
      have h2 := H1.out j (by omega)
      rw [List.getElem?_eq_getElem hj] at h2
      have h2 : l[j] = true := h2
      rw [h2] at e
      cases e
theorem containsB_any (A : Option Addr) (n c lo : Nat) (bs : List (Int × Bool)) (w : World) (hn : n ≤ 1048576) (hb : w.ownsRow lo 4 1 (.slice A n c) n (vbs bs)) :
    Calls Tryz.prog 148 #[.slice A n c, .bool false] w fun e w' => e = .returned (.bool (!bs.all (·.2))) ∧ ∃ q, w' = w.drewN q := by
  have hb2 : w.ownsRow lo 4 1 (.slice A n c) n ((bs.map (·.2)).map Value.bool) := by rw [List.map_map]; exact hb
  have hm : false ∈ bs.map (·.2) ↔ (bs.all (·.2)) = false := by
    rw [← Bool.not_eq_true, List.all_eq_true]
    constructor
    · intro h hall
      obtain ⟨x, hx, e⟩ := List.mem_map.1 h
      have := hall x hx
      rw [e] at this; cases this
    · intro h
      rcases Classical.em (false ∈ bs.map (·.2)) with h1 | h1
      · exact h1
      · exact absurd (fun x hx => by
          cases e : x.2 with
          | true => rfl
          | false => exact absurd (List.mem_map.2 ⟨x, hx, e⟩) h1) h
  have HM := Lib.hid hm
  clear hm hb
  go_enter Tryz.func148, Tryz.ntmps148
  go_wp2_with fail
  refine (indexB_any A n c lo _ w hn hb2).mono ?_
  rintro e w2 ⟨⟨k, rfl, hk⟩, q, rfl⟩
  have HK := Lib.hid hk
  clear hk hb2
  obtain ⟨r, hr⟩ : ∃ r, (bs.all (·.2)) = r := ⟨_, rfl⟩
  have HR := Lib.hid hr
  clear hr
  by_cases h0 : 0 ≤ k
  · have hd : decide (0 ≤ k) = true := decide_eq_true h0
    have he : r = false := by rw [← HR.out]; exact HM.out.1 (HK.out.1 h0)
    subst he
    go_wp2
    go_ret
    exact ⟨by rw [HR.out] <;> rfl, q, rfl⟩
  · have hd : decide (0 ≤ k) = false := decide_eq_false h0
    have he : r = true := by
      cases r with
      | true => rfl
      | false => exact absurd (HK.out.2 (HM.out.2 HR.out)) h0
    subst he
    go_wp2
    go_ret
    exact ⟨by rw [HR.out] <;> rfl, q, rfl⟩
set_option maxHeartbeats 1600000 in
theorem indexF_any (K : FuncId) (p o : Nat) (f : Int → Bool) (A : Option Addr) (n c : Nat) (l : List Int) (B : Nat) (w : World) (hK : ∀ args w, (callFunc K args).run Tryz.prog w = .ok (.enter K args) w) (hn : n ≤ 1048576) (hb : Ints w B A n l)
    (hp : ∀ x q, Calls Tryz.prog K #[.pointer (some ⟨p, o, none⟩), .int .i64 x] (w.drewN q) fun e w' => e = .returned (.bool (f x)) ∧ ∃ q', w' = w.drewN q') :
    Calls Tryz.prog 152 #[.slice A n c, .func (.func K) #[.pointer (some ⟨p, o, none⟩)] #[]] w fun e w' => (∃ k : Int, e = .returned (.int .i64 k) ∧ (0 ≤ k ↔ l.any f = true)) ∧ ∃ q, w' = w.drewN q := by
  have mixed : Tryz.prog.follows .mixedOrders = true := by kernel_rfl
  have hlen := hb.1
  have HB := Lib.hid hb
  have HP := Lib.hid hp
  clear hb hp
  go_enter Tryz.func152, Tryz.ntmps152
  go_wp2
  go_loopw [8] (fun s8 wr => ∃ k q : Nat, k ≤ n ∧ s8 = .int .i64 k ∧ wr = w.drewN q ∧ ∀ j, j < k → f (l[j]?.getD 0) = false) (fun s8 _ => n - (intOf s8).toNat)
  case atStart => exact ⟨0, 0, Nat.zero_le _, rfl, rfl, fun j hj => absurd hj (Nat.not_lt_zero _)⟩
  case round =>
    obtain ⟨k, q, hk, rfl, hwq, h1⟩ := hrel
    have H1 := Lib.hid h1
    subst hwq
    clear h1
    by_cases hlt : k < n
    · obtain ⟨b, off, rfl, hbB, hcell⟩ := HB.out.2 (by omega)
      have cm : (w.drewN q).cell? ⟨b, off + k, none⟩ = some (.int .i64 (l[k]?.getD 0)) := hcell _ hlt
      have cm0 : w.cell? ⟨b, off + k, none⟩ = some (.int .i64 (l[k]?.getD 0)) := hcell _ hlt
      clear hcell
      obtain ⟨y, hy⟩ : ∃ y, l[k]?.getD 0 = y := ⟨_, rfl⟩
      rw [hy] at cm cm0
      have Y := Lib.hid hy
      clear hy
      go_wp2_with fail
      refine (HP.out y _).mono ?_
      rintro e w2 ⟨rfl, q', rfl⟩
      obtain ⟨r, hr⟩ : ∃ r, f y = r := ⟨_, rfl⟩
      have FR := Lib.hid hr
      rw [hr]
      clear hr cm cm0
      cases r with
      | true =>
        go_wp2
        go_ret
        refine ⟨⟨k, rfl, iff_of_true (by omega) ?_⟩, _, rfl⟩
        refine List.any_eq_true.2 ⟨y, ?_, FR.out⟩
        rw [← Y.out, List.getElem?_eq_getElem (by omega)]
        exact List.getElem_mem _
      | false =>
        go_wp2
        go_roundw
        case measure => simp [intOf]; omega
        case rel =>
          refine ⟨k + 1, _, by omega, by go_num, rfl, fun j hj => ?_⟩
          by_cases e : j = k
          · subst e; rw [Y.out]; exact FR.out
          · exact H1.out j (by omega)
    · obtain rfl : k = n := by omega
      go_wp2
      go_ret
      refine ⟨⟨-1, rfl, iff_of_false (by omega) (fun hm => ?_)⟩, _, rfl⟩
      obtain ⟨x, hx, hf⟩ := List.any_eq_true.1 hm
      obtain ⟨j, hj, rfl⟩ := List.mem_iff_getElem.1 hx
      have h2 := H1.out j (by omega)
      rw [List.getElem?_eq_getElem hj] at h2
      have h2 : f l[j] = false := h2
      rw [h2] at hf; cases hf
theorem containsF_any (K : FuncId) (p o : Nat) (f : Int → Bool) (A : Option Addr) (n c : Nat) (l : List Int) (B : Nat) (w : World) (hK : ∀ args w, (callFunc K args).run Tryz.prog w = .ok (.enter K args) w) (hn : n ≤ 1048576) (hb : Ints w B A n l)
    (hp : ∀ x q, Calls Tryz.prog K #[.pointer (some ⟨p, o, none⟩), .int .i64 x] (w.drewN q) fun e w' => e = .returned (.bool (f x)) ∧ ∃ q', w' = w.drewN q') :
    Calls Tryz.prog 112 #[.slice A n c, .func (.func K) #[.pointer (some ⟨p, o, none⟩)] #[]] w fun e w' => e = .returned (.bool (l.any f)) ∧ ∃ q, w' = w.drewN q := by
  go_enter Tryz.func112, Tryz.ntmps112
  go_wp2_with fail
  refine (indexF_any K p o f A n c l B w hK hn hb hp).mono ?_
  rintro e w2 ⟨⟨k, rfl, hk⟩, q, rfl⟩
  obtain ⟨r, hr⟩ : ∃ r, l.any f = r := ⟨_, rfl⟩
  rw [hr] at hk
  have HR := Lib.hid hr
  clear hb hp hr
  by_cases h0 : 0 ≤ k
  · have hd : decide (0 ≤ k) = true := decide_eq_true h0
    have he : r = true := hk.1 h0
    subst he
    clear hk
    go_wp2
    go_ret
    exact ⟨by rw [HR.out] <;> rfl, q, rfl⟩
  · have hd : decide (0 ≤ k) = false := decide_eq_false h0
    have he : r = false := by cases r with
      | false => rfl
      | true => exact absurd (hk.2 rfl) h0
    subst he
    clear hk
    go_wp2
    go_ret
    exact ⟨by rw [HR.out] <;> rfl, q, rfl⟩
end Go.Proofs.YtigdcmfmaehjfaaGreat

-- OpenIs: A base that is opened: where it lies, what is asked of it without changing it.
namespace Go.Proofs.YtigdcmfmaehjfaaGreat
set_option maxRecDepth 100000
set_option linter.unusedVariables false
set_option linter.unusedSimpArgs false
open Go.RowKit

/-- where the lists of an open base lie. -/
structure OLay where
  R : SR
  Ap : Option Addr
  np : Nat
  cp : Nat
  Ag : Option Addr
  ng : Nat
  cg : Nat
  Ab : Option Addr
  nb : Nat
  cb : Nat
/-- the box p holds the base b, opened. -/
structure OpenIs (w : World) (p lo : Nat) (L : OLay) (ps : List (Int × NV)) (b : MBase) : Prop where
  box : Box w p 66 #[.slice L.R.Ak ps.length L.R.ck, .slice L.R.Av ps.length L.R.cv, .int .i64 b.head, .slice L.Ap L.np L.cp, .int .i64 b.phase, .slice L.Ag L.ng L.cg, .slice L.Ab L.nb L.cb, .int .i64 b.cursor]
  nodes : NodesIs w lo L.R ps b.cells
  pins : Ints w w.heap.size L.Ap L.np b.pins
  grey : Ints w w.heap.size L.Ag L.ng b.grey
  black : Ints w w.heap.size L.Ab L.nb b.black
  sum : L.np + L.ng + L.nb ≤ 1048576
  cp : L.np ≤ L.cp
  cg : L.ng ≤ L.cg
  zg : L.Ag = none → L.cg = 0
section
variable {w w' : World} {p lo : Nat} {L : OLay} {ps : List (Int × NV)} {b : MBase}
theorem OpenIs.below (h : OpenIs w p lo L ps b) (hb : Below w.heap.size w w') : OpenIs w' p lo L ps b :=
  ⟨h.box.below hb h.box.lt, h.nodes.below hb, (h.pins.below hb).more hb.size, (h.grey.below hb).more hb.size, (h.black.below hb).more hb.size, h.sum, h.cp, h.cg, h.zg⟩
theorem OpenIs.drewN (h : OpenIs w p lo L ps b) (q : Nat) : OpenIs (w.drewN q) p lo L ps b := h.below (below_drewN (Below.refl _ _) q)
theorem OpenIs.c0 (h : OpenIs w p lo L ps b) : w.cell? ⟨p, 0, none⟩ = some (.slice L.R.Ak ps.length L.R.ck) := by simpa using h.box.cell 0
theorem OpenIs.c1 (h : OpenIs w p lo L ps b) : w.cell? ⟨p, 1, none⟩ = some (.slice L.R.Av ps.length L.R.cv) := by simpa using h.box.cell 1
theorem OpenIs.c2 (h : OpenIs w p lo L ps b) : w.cell? ⟨p, 2, none⟩ = some (.int .i64 b.head) := by simpa using h.box.cell 2
theorem OpenIs.c3 (h : OpenIs w p lo L ps b) : w.cell? ⟨p, 3, none⟩ = some (.slice L.Ap L.np L.cp) := by simpa using h.box.cell 3
theorem OpenIs.c4 (h : OpenIs w p lo L ps b) : w.cell? ⟨p, 4, none⟩ = some (.int .i64 b.phase) := by simpa using h.box.cell 4
theorem OpenIs.c5 (h : OpenIs w p lo L ps b) : w.cell? ⟨p, 5, none⟩ = some (.slice L.Ag L.ng L.cg) := by simpa using h.box.cell 5
theorem OpenIs.c6 (h : OpenIs w p lo L ps b) : w.cell? ⟨p, 6, none⟩ = some (.slice L.Ab L.nb L.cb) := by simpa using h.box.cell 6
theorem OpenIs.c7 (h : OpenIs w p lo L ps b) : w.cell? ⟨p, 7, none⟩ = some (.int .i64 b.cursor) := by simpa using h.box.cell 7
end
theorem drewN_below (w : World) (q : Nat) : Below w.heap.size w (w.drewN q) := below_drewN (Below.refl _ _) q
/-- what the list's method tells, in cells. -/
theorem atC_any {T : TypeId} {zs : Array Value} (p lo : Nat) (R : SR) (ns : List (Int × NV)) (cs : List (Int × List Int)) (m : Int) (w : World) (hr : Right cs) (hx : Box w p T zs) (hz0 : zs[0]? = some (R.kv ns.length)) (hz1 : zs[1]? = some (R.vv ns.length)) (hn : NodesIs w lo R ns cs) :
    Calls Tryz.prog 146 #[.pointer (some ⟨p, 0, none⟩), .int .i64 m] w fun e w' => ∃ (x : NV) (b : Bool), e = .returned (.tuple #[x.v, .bool b]) ∧ HitIs cs m x.nd b ∧ Kids w w.heap.size x.Ak x.nk x.nd.kids ∧ Below w.heap.size w w' := by
  refine (at_box p lo R ns m w hx hz0 hz1 hn.sl).mono ?_
  rintro e w2 ⟨x, b, rfl, hat, b2⟩
  have h2 := hn.find hr m
  rcases hat with ⟨ht, rfl, hi, he⟩ | ⟨ht, rfl, rfl⟩
  · obtain ⟨hi2, hfe⟩ := h2.1 ht
    refine ⟨x, true, rfl, .inl ⟨by omega, ?_⟩, ?_, b2⟩
    · have h1 := (hn.at_ _ hi).2
      rw [List.getElem?_eq_getElem hi, he] at h1
      rw [hfe]
      exact h1
    · obtain ⟨Ap, np, cp, Ak, nk, ck, e, _, _, _, _, h3⟩ := hn.sl.nodes (m, x) (by rw [← he]; exact List.getElem_mem hi)
      unfold NV.v at e
      injection e with e
      simp at e
      obtain ⟨⟨e1, e2, e3⟩, e4, e5, e6⟩ := e
      rw [e4, e5]
      exact h3
  · exact ⟨nv0, false, rfl, .inr ⟨h2.2 ht, rfl, rfl⟩, Kids.none_, b2⟩
theorem hit_find {cs : List (Int × List Int)} {m : Int} {nd : MNode} {b : Bool} (hr : Right cs) (h : HitIs cs m nd b) : b = true ↔ findC cs m < cs.length := by
  rcases h with ⟨h1, h2⟩ | ⟨h1, _, rfl⟩
  · exact iff_of_true ((IsNode.of h2).2 (hr.2 _ h1).1) h1
  · exact iff_of_false (by simp) h1
set_option maxHeartbeats 1600000 in
theorem hasAll_any (p lo : Nat) (L : OLay) (ps : List (Int × NV)) (b : MBase) (A : Option Addr) (n c : Nat) (l : List Int) (B : Nat) (w : World) (ho : OpenIs w p lo L ps b) (hr : Right b.cells) (hn : n ≤ 1048576) (hB : B ≤ w.heap.size) (hb : Ints w B A n l) :
    Calls Tryz.prog 108 #[.pointer (some ⟨p, 0, none⟩), .slice A n c] w fun e w' => SaysB e (Named b.cells l) ∧ Below w.heap.size w w' := by
  have hlen := hb.1
  have HB := Lib.hid (hb.more hB)
  have HO := Lib.hid ho
  have HR := Lib.hid hr
  clear hb ho hr
  go_enter Tryz.func108, Tryz.ntmps108
  go_wp2
  go_loopw [11] (fun s11 wr => ∃ k : Nat, k ≤ n ∧ s11 = .int .i64 k ∧ Named b.cells (l.take k) ∧ Below w.heap.size w wr) (fun s11 _ => n - (intOf s11).toNat)
  case atStart => exact ⟨0, Nat.zero_le _, rfl, (fun x hx => by simp at hx), Below.refl _ _⟩
  case round =>
    obtain ⟨k, hk, rfl, h1, hbel⟩ := hrel
    have H1 := Lib.hid h1
    have BR := Lib.hid hbel
    have hs := hbel.size
    clear h1
    by_cases hlt : k < n
    · obtain ⟨g, off, rfl, hgB, hcell⟩ := (HB.out.below hbel).2 (by omega)
      have cm : wr.cell? ⟨g, off + k, none⟩ = some (.int .i64 (l[k]?.getD 0)) := hcell _ hlt
      have hmem := getD_mem l k (by omega)
      have htk : l.take (k + 1) = l.take k ++ [l[k]?.getD 0] := by
        rw [List.take_succ_eq_append_getElem (by omega), List.getElem?_eq_getElem (by omega)]; rfl
      clear hcell hbel
      obtain ⟨y, hy⟩ : ∃ y, l[k]?.getD 0 = y := ⟨_, rfl⟩
      rw [hy] at cm hmem htk
      have TK := Lib.hid htk
      have HM := Lib.hid hmem
      have OR := Lib.hid (HO.out.below BR.out)
      clear hy hmem htk
      go_wp2_with fail
      refine (atC_any p lo L.R ps b.cells y wr HR.out OR.out.box rfl rfl OR.out.nodes).mono ?_
      rintro e w4 ⟨x, r, rfl, hit, _, b4⟩
      have hf := hit_find HR.out hit
      have FI := Lib.hid hf
      have B4 := Lib.hid (BR.out.trans (b4.mono hs))
      have s4 := b4.size
      clear hit hf b4 cm
      obtain ⟨Ap, np, cp, Ak, nk, ck, nd⟩ := x
      unfold NV.v
      obtain ⟨w5, hw5⟩ : ∃ w5, w4.alloc (.cells #[.int .i64 nd.kind, .slice Ap np cp, .slice Ak nk ck, .string nd.val] 96) = w5 := ⟨_, rfl⟩
      have b5 : Below w4.heap.size w4 w5 := hw5 ▸ (Below.refl _ _).alloc (Nat.le_refl _) _
      have B5 := Lib.hid (B4.out.trans (b5.mono (by omega)))
      clear b5
      cases r with
      | false =>
        go_wp2
        go_ret
        exact ⟨SaysB.f (fun h => absurd (FI.out.2 (h y HM.out)) (by simp)), B5.out⟩
      | true =>
        go_wp2
        go_roundw
        case measure => simp [intOf]; omega
        case rel =>
          refine ⟨k + 1, by omega, by go_num, ?_, B5.out⟩
          rw [TK.out]
          intro z hz
          rcases List.mem_append.1 hz with hz | hz
          · exact H1.out z hz
          · simp at hz; subst hz; exact FI.out.1 (by trivial)
    · obtain rfl : k = n := by omega
      have h2 := H1.out
      rw [List.take_of_length_le (by omega)] at h2
      have H2 := Lib.hid h2
      clear h2
      go_wp2
      go_ret
      exact ⟨SaysB.t H2.out, BR.out⟩
theorem isBlack_any (p lo : Nat) (L : OLay) (ps : List (Int × NV)) (b : MBase) (m : Int) (w : World) (ho : OpenIs w p lo L ps b) (hr : RiseI b.black) :
    Calls Tryz.prog 151 #[.pointer (some ⟨p, 4, none⟩), .int .i64 m] w fun e w' => e = .returned (.bool (decide (m ∈ b.black))) ∧ ∃ q, w' = w.drewN q := by
  have HO := Lib.hid ho
  have q6 := ho.c6
  have hsum := ho.sum
  clear ho
  go_enter Tryz.func151, Tryz.ntmps151
  go_wp2_with fail
  refine (search_any L.Ab L.nb L.cb b.black m w.heap.size w (by omega) HO.out.black hr).mono ?_
  rintro e w2 ⟨rfl, q, rfl⟩
  have he : hitI b.black m = decide (m ∈ b.black) := by
    have := hitI_mem b.black m hr
    cases h : hitI b.black m with
    | true => rw [h] at this; exact (decide_eq_true (this.1 rfl)).symm
    | false => rw [h] at this; exact (decide_eq_false (fun hm => absurd (this.2 hm) (by simp))).symm
  obtain ⟨r, hr⟩ : ∃ r, hitI b.black m = r := ⟨_, rfl⟩
  rw [hr] at he ⊢
  have HE := Lib.hid he
  obtain ⟨i, hi⟩ : ∃ i, lowI b.black m = i := ⟨_, rfl⟩
  rw [hi]
  clear he hr hi q6
  go_wp2
  go_ret
  exact ⟨by rw [← HE.out] <;> rfl, q, rfl⟩
theorem isWhite_any (p lo : Nat) (L : OLay) (ps : List (Int × NV)) (b : MBase) (m : Int) (w : World) (ho : OpenIs w p lo L ps b) (hr : RiseI b.black) :
    Calls Tryz.prog 113 #[.pointer (some ⟨p, 4, none⟩), .int .i64 m] w fun e w' => e = .returned (.bool (decide (m ∉ b.grey ∧ m ∉ b.black))) ∧ ∃ q, w' = w.drewN q := by
  have HO := Lib.hid ho
  have hsum := ho.sum
  clear ho
  go_enter Tryz.func113, Tryz.ntmps113
  go_wp2_with fail
  refine (isBlack_any p lo L ps b m w HO.out hr).mono ?_
  rintro e w2 ⟨rfl, q, rfl⟩
  by_cases hm : m ∈ b.black
  · have hd : decide (m ∈ b.black) = true := decide_eq_true hm
    have hf : decide (m ∉ b.grey ∧ m ∉ b.black) = false := decide_eq_false (fun h => h.2 hm)
    have HF := Lib.hid hf
    rw [hd]
    clear hd hf hm
    go_wp2
    go_ret
    exact ⟨by rw [HF.out] <;> rfl, q, rfl⟩
  · have hd : decide (m ∈ b.black) = false := decide_eq_false hm
    have q5 := (HO.out.drewN q).c5
    rw [hd]
    have HM := Lib.hid hm
    clear hd hm
    go_wp2_with fail
    refine (containsI_any L.Ag L.ng L.cg b.grey m w.heap.size (w.drewN q) (by omega) (HO.out.grey.drewN q)).mono ?_
    rintro e w3 ⟨rfl, q', rfl⟩
    have he : decide (m ∉ b.grey ∧ m ∉ b.black) = !decide (m ∈ b.grey) := by
      by_cases h : m ∈ b.grey
      · rw [decide_eq_true h]; exact decide_eq_false (fun hh => hh.1 h)
      · rw [decide_eq_false h]; exact decide_eq_true ⟨h, HM.out⟩
    obtain ⟨r, hr⟩ : ∃ r, decide (m ∈ b.grey) = r := ⟨_, rfl⟩
    rw [hr] at he ⊢
    have HE := Lib.hid he
    clear he hr q5
    go_wp2
    go_ret
    exact ⟨by rw [HE.out] <;> rfl, q + q', by first | rfl | simp⟩
end Go.Proofs.YtigdcmfmaehjfaaGreat

-- Clone: slices.Clone at int64, as the program calls it. No statement of the program is proved here.
namespace Go.Proofs.YtigdcmfmaehjfaaGreat
set_option maxRecDepth 100000
set_option linter.unusedVariables false
set_option linter.unusedSimpArgs false
open Go.RowKit

set_option maxHeartbeats 2000000 in
theorem clone_any (A : Option Addr) (n c : Nat) (xs : List Int) (B : Nat) (w : World) (hn : n ≤ 1048576) (hB : B ≤ w.heap.size) (hb : Ints w B A n xs) :
    Calls Tryz.prog 72 #[.slice A n c] w fun e w' => ∃ A' n' c', e = .returned (.slice A' n' c') ∧ OwnI w' w.heap.size A' n' c' xs ∧ Below w.heap.size w w' := by
  obtain ⟨i0, hi0, hz0, hz1, hz2⟩ := info_parts Tryz.infoInsI
  have hlen := hb.1
  have hq : ∀ (w : World) (a : Option Addr) (n c n' c' : Nat), (binOp .eql 23 (.slice a n c) (.slice none n' c')).run Tryz.prog w = .ok (.bool a.isNone) w := fun w a n c n' c' => Lib.run_eql_slice_nil w _ _ a n c n' c' Tryz.underlying23
  have mixed : Tryz.prog.follows .mixedOrders = true := by kernel_rfl
  have HB := Lib.hid (hb.more hB)
  clear hb
  cases A with
  | none =>
    have hn0 : n = 0 := by
      rcases Nat.eq_zero_or_pos n with h | h
      · exact h
      · obtain ⟨b, off, e, _⟩ := HB.out.2 h
        cases e
    subst hn0
    have hx : xs = [] := List.length_eq_zero_iff.1 hlen
    subst hx
    go_enter Tryz.func72, Tryz.ntmps72
    go_wp2
    go_ret
    exact ⟨none, 0, 0, rfl, World.ownsRow_nil _ _ _ _, Below.refl _ _⟩
  | some a =>
    go_enter Tryz.func72, Tryz.ntmps72
    go_wp2_with (at_builtin; refine wpList_append_own _ rfl _ _ 23 rfl w.heap.size 2 i0 (.int .i64 0) 1 8 Tryz.underlying23 hi0 hz0 hz1 hz2 rfl (by decide) _ _ _ rfl (World.ownsRow_made w #[] 0 (Nat.le_refl _) (Nat.zero_le _) rfl) a n c (xs.map (Value.int .i64)) rfl ?qc1 ?qc2 ?qc3 ?qc4 ?qc5 ?qc6 ?_)
    case qc1 => simp; omega
    case qc2 =>
      intro j u hj
      have hjn : j < n := by
        have := (List.getElem?_eq_some_iff.1 hj).1
        simp at this
        omega
      obtain ⟨b, off, e, hb, hc⟩ := (HB.out.alloc (Nat.le_refl _) (.cells #[] 2)).at_ hjn
      cases e
      rw [Addr.add_lit]
      rw [List.getElem?_map, List.getElem?_eq_getElem (by omega)] at hj
      rw [List.getElem?_eq_getElem (by omega)] at hc
      cases hj
      exact hc
    case qc3 => intro u hu; obtain ⟨x, _, rfl⟩ := List.mem_map.1 hu; rfl
    case qc4 => unfold maxLen; omega
    case qc5 => omega
    case qc6 => simp
    intro v' w1 hown hgrow hnil
    have H := Lib.hid hown
    obtain ⟨A', c', rfl⟩ := own_slice hown
    have hb2 := ((Below.refl w.heap.size w).alloc (Nat.le_refl _) (.cells #[] 2)).grown hgrow (by simp) (by intro k hk; simp [Value.ownBlock] at hk; omega)
    have H2 := Lib.hid hb2
    clear hown hgrow hnil hb2
    go_wp2
    go_ret
    exact ⟨A', n, c', rfl, H.out, H2.out⟩
end Go.Proofs.YtigdcmfmaehjfaaGreat

-- WithN: The program's withName: a name among rising names, each once; what is kept of an open base.
namespace Go.Proofs.YtigdcmfmaehjfaaGreat
set_option maxRecDepth 100000
set_option linter.unusedVariables false
set_option linter.unusedSimpArgs false
open Go.RowKit

def putI (l : List Int) (m : Int) : List Int := if m ∈ l then l else insI l m
theorem keptOf_put (b : MBase) : keptOf b = if b.head = 0 then b.pins else putI b.pins b.head := by
  unfold keptOf putI
  by_cases h : b.head = 0
  · simp [h]
  · simp [h]
/-- a row of numbers of the call's own, behind a call that may have written it. -/
structure NewI (w w' : World) (lo : Nat) (A : Option Addr) (n c : Nat) (A' : Option Addr) (n' c' : Nat) (l' : List Int) : Prop where
  own : OwnI w' lo A' n' c' l'
  touch : Touch (fun g => (Value.slice A n c).ownBlock = some g) w w'
  from_ : ∀ g, (Value.slice A' n' c').ownBlock = some g → (Value.slice A n c).ownBlock = some g ∨ w.heap.size ≤ g
theorem NewI.same {w w' : World} {lo : Nat} {A : Option Addr} {n c : Nat} {l : List Int} (h : OwnI w lo A n c l) (b : Below w.heap.size w w') : NewI w w' lo A n c A n c l :=
  ⟨h.below b, Touch.of_below b, fun g hg => .inl hg⟩
set_option maxHeartbeats 1600000 in
theorem withName_any (A : Option Addr) (n c : Nat) (l : List Int) (m : Int) (lo : Nat) (w : World) (h : OwnI w lo A n c l) (hr : RiseI l) (hn : n ≤ 1048000) (hlo : lo ≤ w.heap.size) :
    Calls Tryz.prog 75 #[.slice A n c, .int .i64 m] w fun e w' => ∃ A' n' c', e = .returned (.slice A' n' c') ∧ NewI w w' lo A n c A' n' c' (putI l m) := by
  have HO := Lib.hid h
  have hlen := h.len
  have hmem := hitI_mem l m hr
  have hins : m ∉ l → insP l (lowI l m) m = insI l m := insP_low l m
  have hle := lowI_le l m
  have HM := Lib.hid hmem
  have HI := Lib.hid hins
  clear hmem hins
  go_enter Tryz.func75, Tryz.ntmps75
  go_wp2_with fail
  refine (search_any A n c l m w.heap.size w (by omega) HO.out.ints hr).mono ?_
  rintro e w2 ⟨rfl, q, rfl⟩
  have B2 := Lib.hid (drewN_below w q)
  have O2 := Lib.hid (h.below B2.out)
  clear h hr
  obtain ⟨ht, hht⟩ : ∃ ht, hitI l m = ht := ⟨_, rfl⟩
  have HT := Lib.hid hht
  rw [hht]
  clear hht
  obtain ⟨i, hi⟩ : ∃ i, lowI l m = i := ⟨_, rfl⟩
  have II := Lib.hid hi
  rw [hi] at hle ⊢
  clear hi
  cases ht with
  | true =>
    go_wp2
    go_ret
    refine ⟨_, _, _, rfl, ?_⟩
    rw [show putI l m = l from if_pos (HM.out.1 HT.out)]
    exact NewI.same HO.out B2.out
  | false =>
    have hno : m ∉ l := fun hm => by have := HM.out.2 hm; rw [HT.out] at this; cases this
    have HN := Lib.hid hno
    clear hno
    obtain ⟨w3, hw3⟩ : ∃ w3, (w.drewN q).alloc (.cells #[.int .i64 m] 2) = w3 := ⟨_, rfl⟩
    have b3 : Below (w.drewN q).heap.size (w.drewN q) w3 := hw3 ▸ (Below.refl _ _).alloc (Nat.le_refl _) _
    have y3 : w3.heap[w.heap.size]? = some (.cells #[.int .i64 m] 2 (0, 0)) := hw3 ▸ heap_alloc_new (w.drewN q) _
    have s3 : w3.heap.size = w.heap.size + 1 := by rw [← hw3]; simp
    have Y3 := Lib.hid y3
    have B3 := Lib.hid (B2.out.trans b3)
    have O3 := Lib.hid (HO.out.below B3.out)
    clear b3 y3
    go_wp2_with fail
    refine (insI_any lo n c i w.heap.size _ A (l.map (Value.int .i64)) [.int .i64 m] w3 O3.out (by omega) (by omega) (by omega) Y3.out rfl (by intro u hu; simp at hu; subst hu; rfl) (kvs_one _) (fun e => by have := (HO.out.lt _ e).2; omega)).mono ?_
    rintro e w4 ⟨g4, c4, rfl, o4, gr4, at4⟩
    have e4 : putAt (l.map (Value.int .i64)) [.int .i64 m] (i * 1) = (putI l m).map (Value.int .i64) := by
      rw [show putI l m = insI l m from if_neg HN.out, ← HI.out HN.out, II.out]
      unfold putAt insP
      simp [List.map_take, List.map_drop]
    rw [e4] at o4
    have NW : NewI w w4 lo A n c (some ⟨g4, 0, none⟩) (n + 1) c4 (putI l m) :=
      ⟨o4, (Touch.of_below B3.out).trans ((Touch.of_grown gr4).mono (fun k hk => hk.symm)), fun g hg => by
        simp [Value.ownBlock] at hg
        subst hg
        exact at4.elim .inl (fun h => .inr (by omega))⟩
    have NW := Lib.hid NW
    clear o4 gr4 at4 e4 hw3
    go_wp2
    go_ret
    exact ⟨_, _, _, rfl, NW.out⟩
set_option maxHeartbeats 1600000 in
theorem kept_any (p lo : Nat) (L : OLay) (ps : List (Int × NV)) (b : MBase) (w : World) (ho : OpenIs w p lo L ps b) (hr : RiseI b.pins) (h6 : L.np ≤ 6) :
    Calls Tryz.prog 44 #[.pointer (some ⟨p, 0, none⟩)] w fun e w' => ∃ A n c, e = .returned (.slice A n c) ∧ OwnI w' w.heap.size A n c (keptOf b) ∧ n ≤ 7 ∧ Below w.heap.size w w' := by
  have HO := Lib.hid ho
  have q2 := ho.c2
  have q3 := ho.c3
  have KP := Lib.hid (keptOf_put b)
  have hlp := ho.pins.1
  have KL := Lib.hid (keptOf_len b)
  clear ho
  go_enter Tryz.func44, Tryz.ntmps44
  go_wp2_with fail
  refine (clone_any L.Ap L.np L.cp b.pins w.heap.size w (by omega) (Nat.le_refl _) HO.out.pins).mono ?_
  rintro e w2 ⟨A2, n2, c2, rfl, o2, b2⟩
  have O2 := Lib.hid o2
  have B2 := Lib.hid b2
  have hn2 := o2.len
  have s2 := b2.size
  have OO := Lib.hid (HO.out.below b2)
  clear o2 b2 q2 q3
  have q2 := OO.out.c2
  by_cases h0 : b.head = 0
  · have hb0 : (b.head == 0) = true := by simpa using h0
    have KE := KP.out
    rw [if_pos h0] at KE
    have KE := Lib.hid KE
    clear h0
    go_wp2
    go_ret
    refine ⟨_, _, _, rfl, ?_, by omega, B2.out⟩
    rw [KE.out]
    exact O2.out
  · have hb0 : (b.head == 0) = false := by simpa using h0
    have KE := KP.out
    rw [if_neg h0] at KE
    have KE := Lib.hid KE
    clear h0
    go_wp2_with fail
    refine (withName_any A2 n2 c2 b.pins b.head w.heap.size w2 O2.out hr (by omega) s2).mono ?_
    rintro e w3 ⟨A3, n3, c3, rfl, nw⟩
    have NW := Lib.hid nw
    have hn3 := nw.own.len
    rw [← KE.out] at hn3
    clear nw q2
    go_wp2
    go_ret
    have := KL.out
    refine ⟨_, _, _, rfl, ?_, by omega, B2.out.trans (NW.out.touch.below s2 (fun k hk e => by have := (O2.out.lt k e).1; omega))⟩
    rw [KE.out]
    exact NW.out.own
end Go.Proofs.YtigdcmfmaehjfaaGreat

-- QuietR: A region that only reads, within a round of a range over a function: one walk of the order of the text serves every order. (The library's law for quiet regions asks that there be no round; within one every operation that is no defer goes as everywhere: so the same is shown here for regions that hold none.) No statement of the program is proved here.
namespace Go.Proofs.YtigdcmfmaehjfaaGreat
set_option linter.unusedVariables false
section
variable {F : Fence} {n r : Nat} {P : Program} {ops : Array Oper} {C : World → Prop} {md : Region.Mode}

/-- an operation that is no defer statement. -/
def calm (o : Oper) : Bool := !(match o.op with | .defer _ => true | _ => false)
theorem calm_sem {o : Oper} (h : calm o = true) (ρ : Operand → Value) : Oper.semAt (some r) ρ o = execOp ρ o :=
  Oper.semAt_some r ρ o fun c e => by simp [calm, e] at h
theorem round_op {o : Oper} {a : Act} {K : Act → Prop} {K' : Act → World → Prop} {Q' : Exit → Act → World → Prop} {w : World} (hr : F.round = some r) (hc : calm o = true) (hC : C w)
    (hK : ∀ b v, C v → K b → K' b v) (ask : o.askedIn F P a C) (q : o.quietIn F n P a C K) : o.wpIn F n P a w K' Q' := by
  obtain ⟨u, at_, done⟩ := q
  refine ⟨ask w hC, ?_⟩
  have got : Oper.quietUponIn F n P C w u ((execOp a.eval o).run P w) := at_ w hC
  rw [hr, calm_sem hc]
  revert got
  cases (execOp a.eval o).run P w with
  | halt _ _ => exact fun e => e.elim
  | ok x v =>
    cases x with
    | value _ => rintro ⟨rfl, rfl⟩; exact hK _ _ hC done
    | skip => rintro ⟨rfl, rfl⟩; exact hK _ _ hC done
    | enter f args =>
      rintro ⟨rfl, deep, call⟩
      refine ⟨deep, call.mono ?_⟩
      rintro _ _ ⟨rfl, k⟩
      exact hK _ _ k done
    | _ => exact fun e => e.elim
theorem round_any {Q : Act → Prop} {Q' : Exit → Act → World → Prop} (hr : F.round = some r) (hc : ops.all calm = true) (hQ : ∀ a w, C w → Q a → Q' .normal a w) (fuel : Nat) :
    ∀ (listed : Array Bool) (a : Act) (w : World), C w → wpAnyQIn F n P md ops C Q fuel listed a → wpAnyIn F n P md ops Q' fuel listed a w := by
  induction fuel with
  | zero => exact fun _ _ _ k h => ⟨h.1, hQ _ _ k h.2⟩
  | succ m ih =>
    intro listed a w k h
    refine ⟨fun e => hQ _ _ k (h.1 e), fun i hi => ?_⟩
    have step := h.2 i hi
    simp only [qOpIn] at step
    simp only [wpOpIn]
    cases e : ops[i]? with
    | none => simp only [e] at step; exact ih _ _ _ k step
    | some o =>
      simp only [e] at step
      have co : calm o = true := by
        obtain ⟨l, eo⟩ := Array.getElem?_eq_some_iff.1 e
        exact eo ▸ Array.all_eq_true.1 hc i l
      by_cases wanted : Region.wanted o (yielded ops a.tmps) = true
      · simp only [wanted, if_true] at step ⊢
        exact round_op hr co k (fun b v => ih _ b v) step.1 step.2
      · simp only [wanted] at step ⊢
        exact ⟨step.1 w k, ih _ _ _ k step.2⟩
/-- the region's operations written out, at the worlds that w becomes by draws alone. -/
theorem round_quiet {id : Nat} {Q : Exit → Act → World → Prop} {a : Act} {w : World} {l : List Oper} (hr : F.round = some r) (hc : l.toArray.all calm = true) (hm : P.follows .mixedOrders = true) (hB : Region.lexB .any l.toArray = true)
    (h : wpQuietIn F n P l.toArray (fun v => ∃ k, v = w.drewN k) (fun b => ∀ v, (∃ k, v = w.drewN k) → Q .normal b v) l a) : (Code.region id l.toArray true).wpIn F n P Q a w := by
  have hB : (_ && _) = true := hB
  have both := Bool.and_eq_true_iff.1 hB
  have all := wpAnyQIn_lex (F := F) (n := n) (C := fun v => ∃ k, v = w.drewN k) (md := .any) both.1 l 0 (Array.replicate l.length false) a (by simp) (by simpa using both.2) h
  exact wpIn_region_any hm (round_any (Q := fun b => ∀ v, (∃ k, v = w.drewN k) → Q .normal b v) hr hc (fun b v k q => q v k) _ _ _ _ ⟨1, rfl⟩ (by simpa using all))
end
end Go.Proofs.YtigdcmfmaehjfaaGreat

-- Keep: What a round of a loop over an iterator keeps: every block below n₀ but one. No statement of the program is proved here.
namespace Go.Proofs.YtigdcmfmaehjfaaGreat
set_option maxRecDepth 20000
set_option linter.unusedVariables false
set_option linter.unusedSimpArgs false
open Go.RowKit

/-- every block below n but cb is as it was. -/
def KpB (cb n : Nat) (A B : World) : Prop := A.heap.size ≤ B.heap.size ∧ ∀ k, k < n → k ≠ cb → B.heap[k]? = A.heap[k]?
theorem KpB.refl (cb n : Nat) (A : World) : KpB cb n A A := ⟨Nat.le_refl _, fun _ _ _ => rfl⟩
theorem KpB.trans {cb n : Nat} {A B C : World} (h : KpB cb n A B) (k : KpB cb n B C) : KpB cb n A C := ⟨Nat.le_trans h.1 k.1, fun i hi hc => (k.2 i hi hc).trans (h.2 i hi hc)⟩
theorem KpB.put {cb n : Nat} {w : World} (hn : n ≤ w.heap.size) (W : World) (l : Nat) (o o' : Obj) (hl : w.heap.size ≤ l) (h : W.heap[l]? = some o) (_ : o.isCells = false) (_ : o.isWalk = false) : KpB cb n W (W.putObj l o') := by
  have hg := grownBy_putObj' W l o'
  exact ⟨hg.size, fun k hk _ => by
    have hl2 := (Array.getElem?_eq_some_iff.1 h).1
    exact hg.block k (by omega) (fun e => by cases e; omega)⟩
theorem KpB.cell {cb n : Nat} {A B : World} (h : KpB cb n A B) {a : Addr} (hn : a.block < n) (hc : a.block ≠ cb) : B.cell? a = A.cell? a := World.cell?_of_block (h.2 _ hn hc)
theorem KpB.of_below {cb n : Nat} {A B : World} (h : Below A.heap.size A B) (hn : n ≤ A.heap.size) : KpB cb n A B := ⟨h.size, fun k hk _ => h.block k (by omega)⟩
theorem KpB.box {cb n g : Nat} {A B : World} {t : TypeId} {cs : Array Value} (h : KpB cb n A B) (hb : Box A g t cs) (hg : g < n) (hc : g ≠ cb) : Box B g t cs := (h.2 g hg hc).trans hb
end Go.Proofs.YtigdcmfmaehjfaaGreat

-- IterN: The iterator of the list of nodes.
namespace Go.Proofs.YtigdcmfmaehjfaaGreat
set_option maxRecDepth 20000
set_option linter.unusedVariables false
set_option linter.unusedSimpArgs false
open Go.RowKit Go.Shelf
attribute [local go_sem] Oper.semAt_some

def pAt (ps : List (Int × NV)) (k : Nat) : Int × NV := ps[k]?.getD (0, nv0)
theorem pAt_mem (ps : List (Int × NV)) (k : Nat) (h : k < ps.length) : pAt ps k ∈ ps := by unfold pAt; rw [List.getElem?_eq_getElem h]; exact List.getElem_mem h
/-- what the k-th round is handed. -/
def encN (ps : List (Int × NV)) (k : Nat) : Array Value := #[.int .i64 (pAt ps k).1, (pAt ps k).2.v]
theorem range_take (k : Nat) : List.range (k + 1) = List.range k ++ [k] := List.range_succ

set_option maxHeartbeats 2000000 in
theorem allN1_in (F : Fence) (n : Nat) (h7 : F.fn 158) (hro : F.round = none) (hn : 1 ≤ n) (l Bs n₀ cb p lo : Nat) (R : SR) (ps : List (Int × NV))
    (J Jx : List Nat → World → Prop) (W : World) (hW0 : n₀ ≤ W.heap.size)
    (hY : ∀ pre x W1, J pre W1 → pre.length < ps.length → YieldAt F (n - 1) Tryz.prog l (encN ps x) W1 fun e W' =>
      (e = .returned (.bool true) ∧ J (pre ++ [x]) W' ∧ KpB cb n₀ W1 W') ∨ (e = .returned (.bool false) ∧ Jx (pre ++ [x]) W'))
    (hBs : Box W Bs 189 #[.pointer (some ⟨p, 0, none⟩)]) (hB0 : Bs < n₀) (hB1 : Bs ≠ cb)
    (hP : Box W p 62 #[R.kv ps.length, R.vv ps.length]) (hP0 : p < n₀) (hP1 : p ≠ cb)
    (hS : SLN W lo R ps) (hR : ∀ g, R.at_ g → g < n₀ ∧ g ≠ cb) (h0 : J [] W) :
    CallsIn F n Tryz.prog 158 #[.func (.yield l) #[] #[], .pointer (some ⟨Bs, 0, none⟩)] W fun e W' => (∃ v, e = .returned v) ∧
      ((∃ ys, ys = List.range ps.length ∧ J ys W') ∨ (∃ pre, (∃ k, k ≤ ps.length ∧ pre = List.range k) ∧ Jx pre W')) := by
  have hlen := hS.len
  -- what a round reads, in whatever world the rounds have left
  have hrd : ∀ W', KpB cb n₀ W W' → W'.cell? ⟨Bs, 0, none⟩ = some (.pointer (some ⟨p, 0, none⟩)) ∧ W'.cell? ⟨p, 1, none⟩ = some (.slice R.Av ps.length R.cv) := fun W' hk => by
    have h1 := (hk.box hBs hB0 hB1).cell 0
    have h2 := (hk.box hP hP0 hP1).cell 1
    unfold SR.vv at h2
    simpa using ⟨h1, h2⟩
  have hrk : ∀ W', KpB cb n₀ W W' → ∀ k, k < ps.length → ∃ g, R.Ak = some ⟨g, 0, none⟩ ∧ W'.cell? ⟨g, k, none⟩ = some (.int .i64 (pAt ps k).1) := fun W' hk k hlt => by
    obtain ⟨g, hg, _⟩ := hS.keys.form (by omega)
    have ho := hS.keys
    rw [hg] at ho
    have hgg := hR g (.inl ⟨_, hg, rfl⟩)
    refine ⟨g, hg, ?_⟩
    rw [hk.cell (a := ⟨g, k, none⟩) hgg.1 hgg.2, ho.cell hlt, kvs_at ps k hlt]
    unfold pAt
    rw [List.getElem?_eq_getElem hlt]; rfl
  have hrv : ∀ W', KpB cb n₀ W W' → ∀ k, k < ps.length → ∃ g, R.Av = some ⟨g, 0, none⟩ ∧ ∀ j, j < 4 → W'.cell? ⟨g, k * 4 + j, none⟩ = (pAt ps k).2.cells[j]? := fun W' hk k hlt => by
    obtain ⟨g, hg, _⟩ := hS.row (by omega)
    have ho := hS.vals
    rw [hg] at ho
    have hgg := hR g (.inr ⟨_, hg, rfl⟩)
    refine ⟨g, hg, fun j hj => ?_⟩
    rw [hk.cell (a := ⟨g, k * 4 + j, none⟩) hgg.1 hgg.2, World.ownsRow.cellAt ho _ (by omega), nvs_at ps k j hj hlt]
    unfold pAt
    rw [List.getElem?_eq_getElem hlt]; rfl
  have q0 := hBs.cell 0
  have q1 := hP.cell 0
  unfold SR.kv at q1
  simp at q0 q1
  refine callsIn_of_wp Tryz.func158 rfl h7 ?_ hro
  simp only [Tryz.ntmps158, List.size_toArray, List.length_cons, List.length_nil, Nat.reduceAdd, Nat.reduceSub, Array.replicate_succ, Array.replicate_zero, List.push_toArray, List.append_toArray, List.nil_append, List.cons_append]
  obtain ⟨Ak, ck, Av, cv⟩ := R
  simp only at hrd hrk hrv q1
  have RD := Lib.hid hrd
  have RK := Lib.hid hrk
  have RV := Lib.hid hrv
  clear hrd hrk hrv hBs hP hS hR
  gi_wp2
  gi_loopw [10] (fun i wr => ∃ k : Nat, k ≤ ps.length ∧ i = .int .i64 k ∧ J (List.range k) wr ∧ KpB cb n₀ W wr)
    (fun i _ => ps.length - (intOf i).toNat)
  case atStart => exact ⟨0, Nat.zero_le _, rfl, h0, KpB.refl _ _ _⟩
  case round =>
    obtain ⟨k, hk, rfl, hJs, hnx⟩ := hrel
    have hsz := hnx.1
    have KX := Lib.hid hnx
    by_cases hlt : k < ps.length
    · obtain ⟨c0, c1⟩ := RD.out wr hnx
      obtain ⟨g, rfl, c2⟩ := RK.out wr hnx k hlt
      obtain ⟨gv, rfl, c3⟩ := RV.out wr hnx k hlt
      obtain ⟨fn, tmps, assign, body, hy, hR⟩ := hY (List.range k) k _ hJs (by simpa using hlt)
      have d0 := c3 0 (by omega)
      have d1 := c3 1 (by omega)
      have d2 := c3 2 (by omega)
      have d3 := c3 3 (by omega)
      unfold NV.cells at d0 d1 d2 d3
      unfold encN NV.v at hy
      simp at d0 d1 d2 d3
      clear c3 hnx
      gi_wp2
      refine hR.mono ?_
      rintro e W3 (⟨rfl, hJ3, hk3⟩ | ⟨rfl, hJx3⟩)
      · gi_wp2
        go_roundw
        case rel => exact ⟨k + 1, by omega, by go_num, by rw [range_take]; exact hJ3, KX.out.trans hk3⟩
        case measure => simp [intOf]; omega
      · gi_wp2
        refine bodyPost_ret (results_none rfl _ _ _) rfl ?_
        exact ⟨⟨_, rfl⟩, .inr ⟨_, ⟨k + 1, by omega, (range_take k).symm⟩, hJx3⟩⟩
    · obtain rfl : k = ps.length := by omega
      gi_wp2
      go_end0
      exact ⟨⟨_, rfl⟩, .inl ⟨_, rfl, hJs⟩⟩
theorem allN_any (p : Nat) (w : World) :
    Calls Tryz.prog 121 #[.pointer (some ⟨p, 0, none⟩)] w fun e w' => e = .returned (.func (.func 158) #[] #[.pointer (some ⟨w.heap.size, 0, none⟩)]) ∧ w.alloc (.cells #[.pointer (some ⟨p, 0, none⟩)] 189) = w' := by
  go_enter Tryz.func121, Tryz.ntmps121
  go_wp2
  go_ret
  exact ⟨rfl, rfl⟩
theorem allN_stops (n : Nat) (hn : 1 ≤ n) (Bs n₀ cb p lo : Nat) (R : SR) (ps : List (Int × NV)) (w : World) (hW0 : n₀ ≤ w.heap.size)
    (hBs : Box w Bs 189 #[.pointer (some ⟨p, 0, none⟩)]) (hB0 : Bs < n₀) (hB1 : Bs ≠ cb)
    (hP : Box w p 62 #[R.kv ps.length, R.vv ps.length]) (hP0 : p < n₀) (hP1 : p ≠ cb)
    (hS : SLN w lo R ps) (hR : ∀ g, R.at_ g → g < n₀ ∧ g ≠ cb) :
    SeqStopsK Fence.wide n Tryz.prog 158 #[.pointer (some ⟨Bs, 0, none⟩)] (encN ps) (KpB cb n₀) (fun ys => ys = List.range ps.length) (fun pre => ∃ k, k ≤ ps.length ∧ pre = List.range k) ps.length w := fun l J Jx W hW hJ _ hY h0 =>
  allN1_in Fence.wide n trivial rfl hn l Bs n₀ cb p lo R ps J Jx W (Nat.le_trans hW0 hW.size) hY (hBs.below hW (by omega)) hB0 hB1 (hP.below hW (by omega)) hP0 hP1 (hS.below hW) hR h0
end Go.Proofs.YtigdcmfmaehjfaaGreat

-- IterB: The iterator of the list of flags.
namespace Go.Proofs.YtigdcmfmaehjfaaGreat
set_option maxRecDepth 20000
set_option linter.unusedVariables false
set_option linter.unusedSimpArgs false
open Go.RowKit Go.Shelf
attribute [local go_sem] Oper.semAt_some

/-- every block below n but two is as it was. -/
def KpT (cb cd n : Nat) (A B : World) : Prop := A.heap.size ≤ B.heap.size ∧ ∀ k, k < n → k ≠ cb ∧ k ≠ cd → B.heap[k]? = A.heap[k]?
theorem KpT.refl (cb cd n : Nat) (A : World) : KpT cb cd n A A := ⟨Nat.le_refl _, fun _ _ _ => rfl⟩
theorem KpT.trans {cb cd n : Nat} {A B C : World} (h : KpT cb cd n A B) (k : KpT cb cd n B C) : KpT cb cd n A C := ⟨Nat.le_trans h.1 k.1, fun i hi hc => (k.2 i hi hc).trans (h.2 i hi hc)⟩
theorem KpT.put {cb cd n : Nat} {w : World} (hn : n ≤ w.heap.size) (W : World) (l : Nat) (o o' : Obj) (hl : w.heap.size ≤ l) (h : W.heap[l]? = some o) (_ : o.isCells = false) (_ : o.isWalk = false) : KpT cb cd n W (W.putObj l o') := by
  have hg := grownBy_putObj' W l o'
  exact ⟨hg.size, fun k hk _ => by
    have hl2 := (Array.getElem?_eq_some_iff.1 h).1
    exact hg.block k (by omega) (fun e => by cases e; omega)⟩
theorem KpT.cell {cb cd n : Nat} {A B : World} (h : KpT cb cd n A B) {a : Addr} (hn : a.block < n) (hc : a.block ≠ cb ∧ a.block ≠ cd) : B.cell? a = A.cell? a := World.cell?_of_block (h.2 _ hn hc)
theorem KpT.box {cb cd n g : Nat} {A B : World} {t : TypeId} {cs : Array Value} (h : KpT cb cd n A B) (hb : Box A g t cs) (hg : g < n) (hc : g ≠ cb ∧ g ≠ cd) : Box B g t cs := (h.2 g hg hc).trans hb
def bAt (bs : List (Int × Bool)) (k : Nat) : Int × Bool := bs[k]?.getD (0, false)
theorem bAt_mem (bs : List (Int × Bool)) (k : Nat) (h : k < bs.length) : bAt bs k ∈ bs := by unfold bAt; rw [List.getElem?_eq_getElem h]; exact List.getElem_mem h
/-- what the k-th round is handed. -/
def encB (bs : List (Int × Bool)) (k : Nat) : Array Value := #[.int .i64 (bAt bs k).1, .bool (bAt bs k).2]
theorem kbs_at (bs : List (Int × Bool)) (i : Nat) (h : i < bs.length) : (kbs bs)[i]?.getD 0 = bs[i].1 := by unfold kbs; simp [h]

end Go.Proofs.YtigdcmfmaehjfaaGreat
