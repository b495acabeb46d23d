/- The program's reader: the kids; and what the program's NodeFrom reads of some bytes. -/
import Derived.Test.YtjmlpekaehfeeaaReadP
import Derived.Test.YtjmlpekaehfeeaaNodeQ
import Derived.Test.YtjmlpekaehfeeaaNodeF
import Derived.Test.YtjmlpekaehfeeaaConv
namespace Go.Proofs.Ytjmlpekaehfeeaa
set_option maxRecDepth 20000
set_option linter.unusedSimpArgs false
set_option linter.unusedVariables false
open Go.RowKit

theorem nm8_any (A : Option Addr) (n c B : Nat) (zs : List Int) (w : World) (hb : Byts w B A n zs) :
    Calls Try.prog 91 #[.slice A n c] w fun e w' => ∃ b, e = .returned (.tuple #[.int .i64 (nm8 zs), .bool b]) ∧ w = w' := by
  have hl := hb.1
  by_cases h8 : n = 8
  · subst h8
    by_cases h7 : zs[7]?.getD 0 ≤ 127
    · refine (from_yes A c zs B w hb h7).mono ?_
      rintro e w' ⟨rfl, rfl⟩
      exact ⟨true, by unfold nm8; rw [if_pos ⟨hl, h7⟩], rfl⟩
    · refine (from_high A c zs B w hb (by omega)).mono ?_
      rintro e w' ⟨rfl, rfl⟩
      exact ⟨false, by unfold nm8; rw [if_neg (by omega)], rfl⟩
  · refine (from_no_len A n c w h8).mono ?_
    rintro e w' ⟨rfl, rfl⟩
    exact ⟨false, by unfold nm8; rw [if_neg (by omega)], rfl⟩

theorem Box.touch {w w' : World} {g : Nat} {t : TypeId} {cs : Array Value} {S : Nat → Prop} (h : Box w g t cs) (k : Touch S w w') (hn : ¬ S g) : Box w' g t cs := (k.block g h.lt hn).trans h

set_option maxHeartbeats 800000 in
theorem rkids_any (g B : Nat) (st : Option (List Int)) (w : World) (hB : B ≤ g) (h : Rd w B g st) :
    Calls Try.prog 68 #[.pointer (some ⟨g, 0, none⟩)] w fun e w' => ∃ A n c, e = .returned (.slice A n c) ∧ OwnK w' w.heap.size A n c (rAll st).1 ∧ Rd w' B g (rAll st).2 ∧ Touch (fun k => k = g) w w' := by
  have HR := Lib.hid h
  have hg := h.lt
  have hbs := rNum_bs h.bs
  clear h
  obtain ⟨cnt, hcnt⟩ : ∃ cnt : Nat, (rNum st).1 = cnt := ⟨(rNum st).1.toNat, by omega⟩
  have hall : rAll st = rKids cnt (rNum st).2 := by unfold rAll; rw [hcnt, Int.toNat_natCast]
  obtain ⟨st1, hst1⟩ : ∃ st1, (rNum st).2 = st1 := ⟨_, rfl⟩
  rw [hall, hst1]
  go_enter Try.func68, Try.ntmps68
  go_wp2_with fail
  refine (rnumber_any g B st w hB HR.out).mono ?_
  rintro e w1 ⟨rfl, hrd, ht, hsz⟩
  rw [hst1] at hrd
  have HD := Lib.hid hrd
  have HT := Lib.hid ht
  have hc255 : cnt ≤ 255 := by have := hbs.2; omega
  clear hrd ht hall hbs
  rw [hcnt]
  obtain ⟨iK, hki, hk0, hk1, hk2⟩ := info_parts Try.infoK
  have HK := Lib.hid hki
  have HK0 := Lib.hid hk0
  have HK1 := Lib.hid hk1
  have HK2 := Lib.hid hk2
  clear hki hk0 hk1 hk2 hcnt hst1
  go_wp2
  go_loopw [3, 9] (fun p i wr => ∃ q : Nat, ∃ Ak ck, q ≤ cnt ∧ i = .int .i64 q ∧ p = .slice Ak q ck ∧ OwnK wr w.heap.size Ak q ck (rKids q st1).1 ∧ Rd wr B g (rKids q st1).2 ∧ Touch (fun k => k = g) w wr) (fun _ i _ => cnt - (intOf i).toNat)
  case atStart => exact ⟨0, none, 0, Nat.zero_le _, rfl, rfl, OwnK.nil _ _, HD.out, HT.out⟩
  case round =>
    obtain ⟨q, Ak, ck, hq, rfl, rfl, hown, hrd, ht⟩ := hrel
    have MR := Lib.hid hown
    have RR := Lib.hid hrd
    have TR := Lib.hid ht
    have srw := ht.size
    clear hown hrd ht
    by_cases hlt : q < cnt
    · have hstep : rKids (q + 1) st1 = ((rKids q st1).1 ++ [(rKid (rKids q st1).2).1], (rKid (rKids q st1).2).2) := rfl
      unfold rKid at hstep
      have HST := Lib.hid hstep
      clear hstep
      generalize (rKids q st1).1 = ks at MR HST
      generalize (rKids q st1).2 = s at RR HST
      have hge : ∀ j, (Value.slice Ak q ck).ownBlock = some j → ¬ j = g := fun j hj e => by have := (World.ownsRow.lt MR.out j hj).1; omega
      go_wp2_with fail
      refine (rnumber_any g B s wr hB RR.out).mono ?_
      rintro e wa ⟨rfl, ra, ta, sa⟩
      have RA := Lib.hid ra
      have MA := Lib.hid (MR.out.touch ta hge)
      have TA := Lib.hid (TR.out.trans ta)
      clear ra ta
      generalize (rNum s).1 = a at HST ⊢
      generalize (rNum s).2 = s2 at HST RA
      go_wp2_with fail
      refine (rbytes_any g 8 B s2 wa hB (by omega) RA.out).mono ?_
      rintro e wb ⟨Ab, nb_, cb, rfl, hncb, yb, rb, tb, sb_⟩
      have RB := Lib.hid rb
      have MB := Lib.hid (MA.out.touch tb hge)
      have TB := Lib.hid (TA.out.trans tb)
      clear rb tb hge
      generalize (rByt 8 s2).1 = xs at HST yb
      generalize (rByt 8 s2).2 = s3 at HST RB
      go_wp2_with fail
      refine (nm8_any Ab nb_ cb B xs wb yb).mono ?_
      rintro e w' ⟨bb, rfl, rfl⟩
      clear yb sa sb_
      generalize nm8 xs = m at HST ⊢
      have hszb : w.heap.size ≤ wb.heap.size := TB.out.size
      go_wp2_with (at_builtin; refine wpList_append_lies _ rfl _ _ 38 rfl w.heap.size 79 iK (.agg #[.int .i64 0, .int .i64 0]) 2 16 Try.underlying38 HK.out HK0.out HK1.out HK2.out rfl (by decide) _ _ _ rfl (MB.out.alloc _) ⟨wb.heap.size, 0, none⟩ 1 1 ([a, m].map (Value.int .i64)) rfl ?a0 ?a1 ?a2 (by omega) ?a3 ?a4 ?a5 _ rfl ?_)
      case a0 => first | rfl | (simp; done)
      case a1 =>
        intro j u hj
        match j, hj with
        | 0, hj => simp at hj; subst hj; simp [Addr.add]
        | 1, hj => simp at hj; subst hj; simp [Addr.add]
      case a2 => intro u hu; simp at hu; rcases hu with rfl | rfl <;> rfl
      case a3 => unfold maxLen; omega
      case a4 => omega
      case a5 => simp; omega
      intro g2 c2 w2 hown2 hgrow2 _ _
      have t2 : Touch (fun j => some j = (Value.slice Ak q ck).ownBlock) wb w2 := (Touch.of_below ((Below.refl _ _).alloc (Nat.le_refl _) _)).trans (Touch.of_grown hgrow2)
      have hge : ∀ j, j < w.heap.size → ¬ some j = (Value.slice Ak q ck).ownBlock := fun j hj e => by have := (World.ownsRow.lt MB.out j e.symm).1; omega
      have R2 := Lib.hid (RB.out.touch t2 hB (fun j hj => hge j (by omega)))
      have T2 := Lib.hid (TB.out.grow t2 hge)
      have M2 : OwnK w2 w.heap.size (some ⟨g2, 0, none⟩) (q + 1) c2 (ks ++ [(a, m)]) := by
        unfold OwnK
        rw [kv_append, List.map_append]
        exact hown2
      have M2 := Lib.hid M2
      clear t2 hge hown2 hgrow2
      go_wp2
      go_roundw
      case rel => exact ⟨q + 1, _, _, by omega, by go_num, rfl, by rw [HST.out]; exact M2.out, by rw [HST.out]; exact R2.out, T2.out⟩
      case measure => simp [intOf]; omega
    · obtain rfl : q = cnt := by omega
      go_wp2
      go_ret
      exact ⟨_, _, _, rfl, MR.out, RR.out, TR.out⟩

theorem rd_new {w : World} {B g : Nat} {A : Option Addr} {n c : Nat} {bs : List Int} (hx : Box w g 82 #[.slice A n c, .bool false]) (hc : n ≤ c) (hn : n ≤ 1048576) (hA : A = none → c = 0) (hb : Byts w B A n bs) : Rd w B g (some bs) :=
  ⟨A, n, c, false, hx, hc, hn, hA, hb, rfl, fun h => by cases h⟩

set_option maxHeartbeats 2000000 in
theorem implNodeFrom_any (A : Option Addr) (n c : Nat) (bs : List Int) (B : Nat) (w : World) (hn : n ≤ 1048576) (hc : n ≤ c) (hA : A = none → c = 0) (hB : B ≤ w.heap.size) (hb : Byts w B A n bs) :
    Calls Try.prog 28 #[.slice A n c] w fun e w' => ∃ v nd b, e = .returned (.tuple #[v, .bool b]) ∧ OwnN w' w.heap.size v nd ∧ NodeRead bs nd b ∧ Below w.heap.size w w' := by
  obtain ⟨r0, hr0⟩ : ∃ r0, w.heap.size = r0 := ⟨_, rfl⟩
  obtain ⟨w1, hw1⟩ : ∃ w1, (w.alloc (.cells #[.int .i64 0, .slice none 0 0, .slice none 0 0, .string { data := #[] }] 40)).alloc (.cells #[.slice A n c, .bool false] 82) = w1 := ⟨_, rfl⟩
  have x1 : Box w1 r0 40 #[.int .i64 0, .slice none 0 0, .slice none 0 0, .string { data := #[] }] := by rw [← hw1, ← hr0]; exact heap2_0 w _ _
  have y1 : Box w1 (r0 + 1) 82 #[.slice A n c, .bool false] := by rw [← hw1, ← hr0]; exact heap2_1 w _ _
  have s1 : w1.heap.size = r0 + 1 + 1 := by rw [← hw1, size2, hr0]
  have b1 : Below r0 w w1 := by rw [← hw1, ← hr0]; exact below2 w _ _
  have rd1 := rd_new (B := r0) y1 hc hn hA ((hb.more (by omega)).below b1)
  have X := Lib.hid x1
  have R := Lib.hid rd1
  have B1 := Lib.hid b1
  have HW := Lib.hid hw1
  have hbs : Bs (some bs) := rd1.bs
  have HBS := Lib.hid hbs
  clear x1 y1 b1 rd1 hw1 hb hA hc
  have hrn := rNum_bs hbs
  have hrp := rPart_bs hrn.1
  have hrv := rPart_bs hrp.1
  have l1 := rPart_len hrn.1
  have l2 := rPart_len hrp.1
  obtain ⟨kd, st1, h1⟩ : ∃ a s, rNum (some bs) = (a, s) := ⟨_, _, rfl⟩
  rw [h1] at hrp hrv l1 l2
  obtain ⟨ps, st2, h2⟩ : ∃ a s, rPart st1 = (a, s) := ⟨_, _, rfl⟩
  simp only [h2] at hrp hrv l1 l2
  obtain ⟨vs, st3, h3⟩ : ∃ a s, rPart st2 = (a, s) := ⟨_, _, rfl⟩
  simp only [h3] at hrv l2
  obtain ⟨ks, st4, h4⟩ : ∃ a s, rAll st3 = (a, s) := ⟨_, _, rfl⟩
  have hnode : rNode (some bs) = (⟨kd, ps, ks, strOfNums vs⟩, st4) := by
    unfold rNode
    simp only [h1, h2, h3, h4]
  have HN := Lib.hid hnode
  have lk : ks.length ≤ 255 := by
    have h5 := rKids_len (rNum st3).1.toNat (st := (rNum st3).2)
    have h6 := (rNum_bs hrv.1).2
    have h7 : (rAll st3).1.length = (rNum st3).1.toNat := h5
    rw [h4] at h7
    simp only at h7
    omega
  have H1 := Lib.hid h1
  have H2 := Lib.hid h2
  have H3 := Lib.hid h3
  have H4 := Lib.hid h4
  clear h1 h2 h3 h4 hnode hrn hrp hrv hbs
  go_enter Try.func28, Try.ntmps28
  go_wp2_with fail
  rw [HW.out]
  refine (rnumber_any (r0 + 1) r0 _ w1 (by omega) R.out).mono ?_
  rintro e w2 ⟨rfl, rd, t, s2⟩
  rw [H1.out] at rd ⊢
  have R := Lib.hid rd
  have X := Lib.hid (X.out.touch t (by omega))
  have T := Lib.hid (t.mono (T := fun k => r0 ≤ k) (fun k e => by omega))
  have B2 := Lib.hid (B1.out.trans (T.out.below (by omega) (fun k hk h => by omega)))
  clear rd t
  simp only
  have hs2 : w2.heap.size = r0 + 1 + 1 := by omega
  obtain ⟨m, hm⟩ : ∃ m, w2.heap.size = m := ⟨_, rfl⟩
  obtain ⟨w3, hw3⟩ : ∃ w3, w2.alloc (.cells #[.int .i64 kd, .slice none 0 0, .slice none 0 0, .string { data := #[] }] 40) = w3 := ⟨_, rfl⟩
  have z3 : Box w3 m 40 #[.int .i64 kd, .slice none 0 0, .slice none 0 0, .string { data := #[] }] := by rw [← hw3, ← hm]; exact heap_alloc_new _ _
  have s3 : w3.heap.size = m + 1 := by rw [← hw3, ← hm]; simp
  have b3 : Below w2.heap.size w2 w3 := by rw [← hw3]; exact (Below.refl _ _).alloc (Nat.le_refl _) _
  have R := Lib.hid (R.out.below b3 (by omega))
  have X := Lib.hid (X.out.below b3 (by omega))
  have Z := Lib.hid z3
  have B3 := Lib.hid (B2.out.trans (b3.mono (by omega)))
  have HW3 := Lib.hid hw3
  have hm2 : r0 + 1 < m := by omega
  clear z3 b3 hw3 s1 s2 hs2
  go_wp2_with fail
  rw [HW3.out]
  refine (rpath_any (r0 + 1) r0 _ w3 (by omega) R.out).mono ?_
  rintro e w4 ⟨Ap, np, cp, rfl, hown, rd, t⟩
  rw [H2.out] at rd hown
  rw [s3] at hown
  have hnp : ps.length = np := hown.len
  have R := Lib.hid rd
  have X := Lib.hid (X.out.touch t (by omega))
  have Z := Lib.hid (Z.out.touch t (by omega))
  have B4 := Lib.hid (B3.out.trans (t.below (by omega) (fun k hk h => by omega)))
  have P := Lib.hid hown
  have s4 := t.size
  clear hown rd t
  obtain ⟨w5, hw5⟩ : ∃ w5, w4.setCell ⟨m, 1, none⟩ (.slice Ap np cp) = w5 := ⟨_, rfl⟩
  have t5 : Touch (fun k => k = m) w4 w5 := by rw [← hw5]; exact touch_set w4 m 1 _ rfl
  have z5 : Box w5 m 40 #[.int .i64 kd, .slice Ap np cp, .slice none 0 0, .string { data := #[] }] := by rw [← hw5]; exact Z.out.set_ 1 _
  have HW5 := Lib.hid hw5
  clear hw5
  have q1 := Z.out.cell 1
  have f1 := Z.out.free 1
  simp at q1
  go_wp2_with fail
  rw [HW5.out]
  clear q1 f1
  have Z := Lib.hid z5
  have R := Lib.hid (R.out.touch t5 (by omega) (fun k hk e => by omega))
  have X := Lib.hid (X.out.touch t5 (by omega))
  have P := Lib.hid (P.out.touch t5 (fun j hj e => by have := (World.ownsRow.lt P.out j hj).1; omega))
  have B5 := Lib.hid (B4.out.trans (t5.below (by omega) (fun k hk h => by omega)))
  have s5 := t5.size
  clear t5 z5
  refine (rnumber_any (r0 + 1) r0 _ w5 (by omega) R.out).mono ?_
  rintro e w6 ⟨rfl, rd, t, s6⟩
  have hbs2 := rNum_bs (R.out.bs)
  obtain ⟨cv, hcv⟩ : ∃ cv : Nat, (rNum st2).1 = cv := ⟨(rNum st2).1.toNat, by omega⟩
  have hpart : rByt cv (rNum st2).2 = (vs, st3) := by rw [← H3.out]; unfold rPart; rw [hcv, Int.toNat_natCast]
  have hcv255 : cv ≤ 255 := by omega
  rw [hcv]
  have R := Lib.hid rd
  have X := Lib.hid (X.out.touch t (by omega))
  have Z := Lib.hid (Z.out.touch t (by omega))
  have P := Lib.hid (P.out.touch t (fun j hj e => by have := (World.ownsRow.lt P.out j hj).1; omega))
  have B6 := Lib.hid (B5.out.trans (t.below (by omega) (fun k hk h => by omega)))
  clear rd t hbs2
  have HPV := Lib.hid hpart
  clear hpart hcv
  go_wp2_with fail
  refine (rbytes_any (r0 + 1) cv r0 _ w6 (by omega) hcv255 R.out).mono ?_
  rintro e w7 ⟨Av, nv, cc, rfl, _, yb, rd, t, s7⟩
  rw [HPV.out] at yb rd
  have R := Lib.hid rd
  have X := Lib.hid (X.out.touch t (by omega))
  have Z := Lib.hid (Z.out.touch t (by omega))
  have P := Lib.hid (P.out.touch t (fun j hj e => by have := (World.ownsRow.lt P.out j hj).1; omega))
  have B7 := Lib.hid (B6.out.trans (t.below (by omega) (fun k hk h => by omega)))
  clear rd t
  have hconv := conv_bytes Av nv cc vs _ w7 yb
  have hvl : vs.length ≤ 255 := l2
  obtain ⟨w8, hw8⟩ : ∃ w8, w7.setCell ⟨m, 3, none⟩ (.string (strOfNums vs)) = w8 := ⟨_, rfl⟩
  have t8 : Touch (fun k => k = m) w7 w8 := by rw [← hw8]; exact touch_set w7 m 3 _ rfl
  have z8 : Box w8 m 40 #[.int .i64 kd, .slice Ap np cp, .slice none 0 0, .string (strOfNums vs)] := by rw [← hw8]; exact Z.out.set_ 3 _
  have HW8 := Lib.hid hw8
  clear hw8 yb
  have q3 := Z.out.cell 3
  have f3 := Z.out.free 3
  simp at q3
  go_wp2_with fail
  rw [HW8.out]
  clear q3 f3 hconv
  have Z := Lib.hid z8
  have R := Lib.hid (R.out.touch t8 (by omega) (fun k hk e => by omega))
  have X := Lib.hid (X.out.touch t8 (by omega))
  have P := Lib.hid (P.out.touch t8 (fun j hj e => by have := (World.ownsRow.lt P.out j hj).1; omega))
  have B8 := Lib.hid (B7.out.trans (t8.below (by omega) (fun k hk h => by omega)))
  have s8 := t8.size
  have PL := Lib.hid (fun j hj => (World.ownsRow.lt P.out j hj).2)
  have hm8 : m < w8.heap.size := z8.lt
  clear t8 z8
  refine (rkids_any (r0 + 1) r0 _ w8 (by omega) R.out).mono ?_
  rintro e w9 ⟨Ak, nk, ck, rfl, hown, rd, t⟩
  rw [H4.out] at rd hown
  have hnk : ks.length = nk := hown.len
  have R := Lib.hid rd
  have X := Lib.hid (X.out.touch t (by omega))
  have Z := Lib.hid (Z.out.touch t (by omega))
  have P := Lib.hid (P.out.touch t (fun j hj e => by have := (World.ownsRow.lt P.out j hj).1; omega))
  have K := Lib.hid hown
  have B9 := Lib.hid (B8.out.trans (t.below (by omega) (fun k hk h => by omega)))
  have s9 := B9.out.size
  clear rd t hown
  obtain ⟨w10, hw10⟩ : ∃ w10, w9.setCell ⟨m, 2, none⟩ (.slice Ak nk ck) = w10 := ⟨_, rfl⟩
  have t10 : Touch (fun k => k = m) w9 w10 := by rw [← hw10]; exact touch_set w9 m 2 _ rfl
  have z10 : Box w10 m 40 #[.int .i64 kd, .slice Ap np cp, .slice Ak nk ck, .string (strOfNums vs)] := by rw [← hw10]; exact Z.out.set_ 2 _
  have q2 := Z.out.cell 2
  have f2 := Z.out.free 2
  simp at q2
  have Z := Lib.hid z10
  have R := Lib.hid (R.out.touch t10 (by omega) (fun k hk e => by omega))
  have X := Lib.hid (X.out.touch t10 (by omega))
  have P := Lib.hid (P.out.touch t10 (fun j hj e => by have := (World.ownsRow.lt P.out j hj).1; omega))
  have K := Lib.hid (K.out.touch t10 (fun j hj e => by have := (World.ownsRow.lt K.out j hj).1; omega))
  have B10 := Lib.hid (B9.out.trans (t10.below (by omega) (fun k hk h => by omega)))
  have hv : Hid (OwnN w10 (m + 1) (.agg #[.int .i64 kd, .slice Ap np cp, .slice Ak nk ck, .string (strOfNums vs)]) ⟨kd, ps, ks, strOfNums vs⟩) :=
    ⟨Ap, np, cp, Ak, nk, ck, rfl, by omega, by omega, by rw [strOfNums_size]; omega, P.out, K.out.base (by omega), fun j hj e => by have := PL.out j hj; have := (World.ownsRow.lt K.out j e).1; omega⟩
  have hlen : kd = kd := rfl
  clear t10 z10 PL P K s4 s5 s6 s7 s8
  obtain ⟨Al, nl, cl, sh, hx, _, _, _, yl, hsh, _⟩ := R.out
  have g0 := hx.cell 0
  have g1 := hx.cell 1
  simp at g0 g1
  have hnl := yl.1
  have lz := Z.out.lt
  have lx := X.out.lt
  have hrz : ¬ r0 = m := by omega
  clear hx yl hlen
  rcases st4 with _ | ys
  · obtain rfl : sh = true := hsh
    have x0 := X.out.cell 0
    have x1 := X.out.cell 1
    have x2 := X.out.cell 2
    have x3 := X.out.cell 3
    simp at x0 x1 x2 x3
    have fx := X.out.free
    go_wp2
    obtain ⟨hX, hb⟩ := set4 X.out (.int .i64 0) (.slice none 0 0) (.slice none 0 0) (.string { data := #[] })
    refine bodyPost_ret (v := .tuple #[node0V, .bool false]) (results_box2 Try.results28 _ _ r0 _ _ _ _ rfl rfl hX Try.underlying40 rfl (by kernel_rfl)) rfl ?_
    refine ⟨_, node0, false, rfl, node0_own _ _, rNode_none (by rw [HN.out]; simp), ?_⟩
    rw [hr0]
    exact B10.out.trans (hb.below (by have := B10.out.size; omega) (fun k hk h => by omega))
  · obtain rfl : sh = false := hsh
    by_cases hys : ys = []
    · subst hys
      obtain rfl : nl = 0 := hnl.symm
      have z0 := Z.out.cell 0
      have z1 := Z.out.cell 1
      have z2 := Z.out.cell 2
      have z3 := Z.out.cell 3
      simp at z0 z1 z2 z3
      go_wp2_with fail
      refine (progNodeOk_any _ _ _ w10 (Nat.le_refl _) hv.out.node).mono ?_
      rintro e w11 ⟨rfl, b11⟩
      have V := Lib.hid (hv.out.below b11)
      have X := Lib.hid (X.out.below b11 lx)
      have Z := Lib.hid (Z.out.below b11 lz)
      have s10 := B10.out.size
      have B11 := Lib.hid (B10.out.trans (b11.mono (by omega)))
      have s11 := B11.out.size
      clear z0 z1 z2 z3 b11 hw10 q2 f2 g0 g1
      have z0 := Z.out.cell 0
      have z1 := Z.out.cell 1
      have z2 := Z.out.cell 2
      have z3 := Z.out.cell 3
      simp at z0 z1 z2 z3
      have x0 := X.out.cell 0
      have x1 := X.out.cell 1
      have x2 := X.out.cell 2
      have x3 := X.out.cell 3
      simp at x0 x1 x2 x3
      have fx := X.out.free
      by_cases hok : nodeOk ⟨kd, ps, ks, strOfNums vs⟩ = true
      · rw [hok]
        go_wp2_with fail
        obtain ⟨hX, hb⟩ := set4 X.out (.int .i64 kd) (.slice Ap np cp) (.slice Ak nk ck) (.string (strOfNums vs))
        refine bodyPost_ret (v := .tuple #[.agg #[.int .i64 kd, .slice Ap np cp, .slice Ak nk ck, .string (strOfNums vs)], .bool true]) (results_box2 Try.results28 _ _ r0 _ _ _ _ rfl rfl hX Try.underlying40 rfl (by kernel_rfl)) rfl ?_
        have hyes := rNode_back HBS.out (by rw [HN.out]) (by rw [HN.out]; exact hok)
        rw [HN.out] at hyes
        rw [hr0]
        exact ⟨_, _, true, rfl, (V.out.touch hb (fun g hg h => by have := (V.out.blk hg).1; omega)).base (by omega), hyes, B11.out.trans (hb.below (by omega) (fun k hk h => by omega))⟩
      · have hok' : nodeOk ⟨kd, ps, ks, strOfNums vs⟩ = false := by simpa using hok
        rw [hok']
        go_wp2_with fail
        obtain ⟨hX, hb⟩ := set4 X.out (.int .i64 0) (.slice none 0 0) (.slice none 0 0) (.string { data := #[] })
        refine bodyPost_ret (v := .tuple #[node0V, .bool false]) (results_box2 Try.results28 _ _ r0 _ _ _ _ rfl rfl hX Try.underlying40 rfl (by kernel_rfl)) rfl ?_
        rw [hr0]
        exact ⟨_, node0, false, rfl, node0_own _ _, rNode_none (by rw [HN.out]; simp [hok']), B11.out.trans (hb.below (by omega) (fun k hk h => by omega))⟩
    · have hpos : 0 < nl := by
        rcases ys with _ | ⟨y, r⟩
        · exact absurd rfl hys
        · have h0 : (y :: r).length = nl := hnl
          simp at h0; omega
      have hd : decide ((0 : Int) < (nl : Int)) = true := decide_eq_true (by omega)
      have x0 := X.out.cell 0
      have x1 := X.out.cell 1
      have x2 := X.out.cell 2
      have x3 := X.out.cell 3
      simp at x0 x1 x2 x3
      have fx := X.out.free
      go_wp2
      obtain ⟨hX, hb⟩ := set4 X.out (.int .i64 0) (.slice none 0 0) (.slice none 0 0) (.string { data := #[] })
      refine bodyPost_ret (v := .tuple #[node0V, .bool false]) (results_box2 Try.results28 _ _ r0 _ _ _ _ rfl rfl hX Try.underlying40 rfl (by kernel_rfl)) rfl ?_
      refine ⟨_, node0, false, rfl, node0_own _ _, rNode_none (by rw [HN.out]; simp [hys]), ?_⟩
      rw [hr0]
      exact B10.out.trans (hb.below (by have := B10.out.size; omega) (fun k hk h => by omega))
end Go.Proofs.Ytjmlpekaehfeeaa
