/- Several texts in one, in build order: ReadP, PathK, NodeP, Allows, NodeQ, ReadK, NodesOf, NodesL, FoundBy, FoundP, Bss. -/
import Derived.Test.YtmgjpmlemkkalaaPkE
import Derived.Deep.AppendLies
-- ReadP: The program's reader of the bytes of a node.
namespace Go.Proofs.Ytmgjpmlemkkalaa
set_option maxRecDepth 20000
set_option linter.unusedSimpArgs false
set_option linter.unusedVariables false
open Go.RowKit

/-- the reader in block g: what is left, below block B; none: it was short. -/
def Rd (w : World) (B g : Nat) (st : Option (List Int)) : Prop :=
  ∃ A n c short, Box w g 126 #[.slice A n c, .bool short] ∧ n ≤ c ∧ n ≤ 1048576 ∧ (A = none → c = 0) ∧ Byts w B A n (st.getD []) ∧ short = st.isNone ∧ (st = none → A = none)
theorem Rd.lt {w : World} {B g : Nat} {st} (h : Rd w B g st) : g < w.heap.size := by
  obtain ⟨A, n, c, s, hx, _⟩ := h
  exact hx.lt
theorem Rd.touch {w w' : World} {B g : Nat} {st} {S : Nat → Prop} (h : Rd w B g st) (t : Touch S w w') (hB : B ≤ g) (hs : ∀ k, k ≤ g → ¬ S k) : Rd w' B g st := by
  have hl := h.lt
  obtain ⟨A, n, c, s, hx, h1, h2, h3, h4, h5⟩ := h
  exact ⟨A, n, c, s, (t.block g hl (hs g (Nat.le_refl _))).trans hx, h1, h2, h3, h4.below (t.below (by omega) (fun k hk => hs k (by omega))), h5⟩
theorem Rd.below {w w' : World} {B g : Nat} {st} (h : Rd w B g st) (b : Below w.heap.size w w') (hB : B ≤ g) : Rd w' B g st :=
  h.touch (Touch.of_below (S := fun _ => False) b) hB (fun _ _ h => h)
theorem Rd.bs {w : World} {B g : Nat} {st} (h : Rd w B g st) : Bs st := by
  obtain ⟨A, n, c, s, _, _, _, _, h4, _⟩ := h
  intro ys e
  subst e
  exact h4.2.1

theorem Byts.take_ {w : World} {B n k : Nat} {A : Option Addr} {ys : List Int} (h : Byts w B A n ys) (hk : k ≤ n) : Byts w B A k (ys.take k) := by
  refine ⟨by have := h.1; simp; omega, fun z hz => h.2.1 z (List.mem_of_mem_take hz), fun hp => ?_⟩
  obtain ⟨b, off, e, hb, hc⟩ := h.2.2 (by omega)
  refine ⟨b, off, e, hb, fun i hi => ?_⟩
  rw [hc i (by omega)]
  simp [hi]
theorem Byts.drop_ {w : World} {B n k : Nat} {A : Option Addr} {ys : List Int} (h : Byts w B A n ys) (hk : k ≤ n) : Byts w B (A.map fun x => x.add k) (n - k) (ys.drop k) := by
  refine ⟨by have := h.1; simp; omega, fun z hz => h.2.1 z (List.mem_of_mem_drop hz), fun hp => ?_⟩
  obtain ⟨b, off, rfl, hb, hc⟩ := h.2.2 (by omega)
  refine ⟨b, off + k, by simp [Addr.add], hb, fun i hi => ?_⟩
  have := hc (k + i) (by omega)
  rw [Nat.add_assoc, this]
  simp
theorem rByt_ok {st} (cnt : Nat) (h : cnt ≤ (st.getD ([] : List Int)).length) : (rByt cnt st).1 = (st.getD []).take cnt ∧ (rByt cnt st).2.getD [] = (st.getD []).drop cnt ∧ (rByt cnt st).2.isNone = st.isNone := by
  rcases st with _ | ys
  · simp [rByt]
  · have h' : cnt ≤ ys.length := h
    simp [rByt, h']
theorem rByt_few {st} (cnt : Nat) (h : (st.getD ([] : List Int)).length < cnt) : rByt cnt st = ([], none) := by
  rcases st with _ | ys
  · simp [rByt]
  · have h' : ¬ cnt ≤ ys.length := by simpa using h
    simp [rByt, h']
theorem none_of_isNone {st : Option (List Int)} (h : st.isNone = true) : st = none := by cases st <;> simp_all

theorem rbytes_any (g cnt B : Nat) (st : Option (List Int)) (w : World) (hB : B ≤ g) (hcn : cnt ≤ 255) (h : Rd w B g st) :
    Calls Try.prog 86 #[.pointer (some ⟨g, 0, none⟩), .int .i64 cnt] w fun e w' => ∃ A n c, e = .returned (.slice A n c) ∧ n ≤ c ∧ Byts w' B A n (rByt cnt st).1 ∧ Rd w' B g (rByt cnt st).2 ∧ Touch (fun k => k = g) w w' ∧ w'.heap.size = w.heap.size := by
  have hg := h.lt
  obtain ⟨A, n, c, short, hx, hc, hn, hA, hb, hs, hst⟩ := h
  have q0 := hx.cell 0
  have q1 := hx.cell 1
  have f0 := hx.free 0
  have f1 := hx.free 1
  simp at q0 q1
  have hlen := hb.1
  have HX := Lib.hid hx
  have HB := Lib.hid hb
  have HA := Lib.hid hA
  have HS := Lib.hid hs
  have HST := Lib.hid hst
  clear hx hb hA hs hst
  by_cases hlt : n < cnt
  · have hd : decide ((n : Int) < (cnt : Int)) = true := decide_eq_true (by omega)
    have hf := Lib.hid (rByt_few (st := st) cnt (by omega))
    go_enter Try.func86, Try.ntmps86
    go_wp2
    go_ret
    rw [hf.out]
    have hx2 := (HX.out.set_ 0 (.slice none 0 0)).set_ 1 (.bool true)
    exact ⟨none, 0, 0, rfl, Nat.le_refl _, Byts.none_, ⟨none, 0, 0, true, by simpa using hx2, Nat.le_refl _, by omega, fun _ => rfl, Byts.none_, rfl, fun _ => rfl⟩, (touch_set (S := fun k => k = g) w g 0 _ rfl).trans (touch_set _ g 1 _ rfl), by simp⟩
  · have hd : decide ((n : Int) < (cnt : Int)) = false := decide_eq_false (by omega)
    have h1 : (cnt : Int) ≤ (c : Int) := by omega
    have h2 : (cnt : Int) ≤ (n : Int) := by omega
    have hok := Lib.hid (rByt_ok (st := st) cnt (by omega))
    have hle : cnt ≤ n := by omega
    go_enter Try.func86, Try.ntmps86
    go_wp2
    · subst h
      obtain rfl : n = c := by omega
      go_ret
      obtain ⟨e1, e2, e3⟩ := hok.out
      have hx2 := HX.out.set_ 0 (.slice A (n - n) 0)
      have t := touch_set (S := fun k => k = g) w g 0 (.slice A (n - n) 0) rfl
      have hb2 : Below B w (w.setCell ⟨g, 0, none⟩ (.slice A (n - n) 0)) := t.below (by omega) (fun k hk e => by omega)
      have hdr : (st.getD []).drop n = [] := List.drop_eq_nil_of_le (by omega)
      refine ⟨A, n, n, rfl, Nat.le_refl _, by rw [e1]; exact (HB.out.take_ (Nat.le_refl _)).below hb2, ⟨A, 0, 0, short, by simpa using hx2, by omega, by omega, fun _ => rfl, by rw [e2, hdr]; exact Byts.empty_at, by rw [e3]; exact HS.out, fun h => HST.out (none_of_isNone (by rw [← e3, h]; rfl))⟩, by simpa using t, by simp⟩
    · go_ret
      obtain ⟨e1, e2, e3⟩ := hok.out
      have hx2 := HX.out.set_ 0 (.slice (A.map fun x => x.add cnt) (n - cnt) (c - cnt))
      have t := touch_set (S := fun k => k = g) w g 0 (.slice (A.map fun x => x.add cnt) (n - cnt) (c - cnt)) rfl
      have hb2 : Below B w (w.setCell ⟨g, 0, none⟩ (.slice (A.map fun x => x.add cnt) (n - cnt) (c - cnt))) := t.below (by omega) (fun k hk e => by omega)
      refine ⟨A, cnt, c, rfl, by omega, by rw [e1]; exact (HB.out.take_ hle).below hb2, ⟨_, n - cnt, c - cnt, short, by simpa using hx2, by omega, by omega, fun h => ?_, by rw [e2]; exact (HB.out.drop_ hle).below hb2, by rw [e3]; exact HS.out, fun h => by rw [HST.out (none_of_isNone (by rw [← e3, h]; rfl))]; rfl⟩, t, by simp⟩
      rcases A with _ | a
      · have := HA.out rfl
        omega
      · cases h

theorem rNum_few {st} (h : (rByt 1 st).2 = none) : rNum st = (0, none) := by
  rcases st with _ | _ | ⟨y, r⟩
  · rfl
  · rfl
  · simp [rByt] at h
theorem rNum_ok {st} (h : ¬ (rByt 1 st).2 = none) : (rByt 1 st).1 = [(rNum st).1] ∧ (rByt 1 st).2 = (rNum st).2 := by
  rcases st with _ | _ | ⟨y, r⟩
  · simp [rByt] at h
  · simp [rByt] at h
  · simp [rByt, rNum]

theorem rnumber_any (g B : Nat) (st : Option (List Int)) (w : World) (hB : B ≤ g) (h : Rd w B g st) :
    Calls Try.prog 84 #[.pointer (some ⟨g, 0, none⟩)] w fun e w' => e = .returned (.int .i64 (rNum st).1) ∧ Rd w' B g (rNum st).2 ∧ Touch (fun k => k = g) w w' ∧ w'.heap.size = w.heap.size := by
  have HR := Lib.hid h
  clear h
  go_enter Try.func84, Try.ntmps84
  go_wp2_with fail
  refine (rbytes_any g 1 B st w hB (by omega) HR.out).mono ?_
  rintro e w1 ⟨A, n, c, rfl, hnc, hb, hrd, ht, hsz⟩
  have HB := Lib.hid hb
  have HD := Lib.hid hrd
  have HT := Lib.hid ht
  obtain ⟨A', n', c', short, hx, _, _, _, _, hsh, _⟩ := hrd
  have q1 := hx.cell 1
  simp at q1
  clear hb ht hx
  by_cases hn : (rByt 1 st).2 = none
  · have e0 := Lib.hid (rNum_few hn)
    rw [hn] at hsh
    subst hsh
    rw [hn] at HD
    go_wp2
    go_ret
    rw [e0.out]
    exact ⟨rfl, HD.out, HT.out, hsz⟩
  · obtain ⟨e1, e2⟩ := rNum_ok hn
    have hsf : short = false := by
      rw [hsh]
      cases h : (rByt 1 st).2 with
      | none => exact absurd h hn
      | some _ => rfl
    subst hsf
    rw [e2] at HD
    have HB2 := HB.out
    rw [e1] at HB2
    obtain rfl : n = 1 := HB2.1.symm
    obtain ⟨b, off, rfl, hbB, hc0⟩ := HB2.at_ (k := 0) (by omega)
    have hr := HB2.range 0
    rw [Nat.add_zero] at hc0
    simp only [List.getElem?_cons_zero, Option.getD_some] at hc0 hr
    generalize hzz : (rNum st).1 = z at hc0 hr e1
    have HZ := Lib.hid hzz
    have hwz : IntKind.i64.wrap z = z := by rw [IntKind.wrap_i64]; omega
    clear e1 e2 hn hsh HB2 hzz
    go_wp2
    go_ret
    exact ⟨by rw [HZ.out]; rfl, HD.out, HT.out, hsz⟩

theorem Touch.grow {S T : Nat → Prop} {w w' w'' : World} (h : Touch S w w') (k : Touch T w' w'') (hT : ∀ k, k < w.heap.size → ¬ T k) : Touch S w w'' :=
  ⟨k.os.trans h.os, k.tape.trans h.tape, k.output.trans h.output, Nat.le_trans h.size k.size, fun i hi hs => (k.block i (Nat.lt_of_lt_of_le hi h.size) (hT i hi)).trans (h.block i hi hs)⟩

set_option maxHeartbeats 800000 in
theorem rpath_any (g B : Nat) (st : Option (List Int)) (w : World) (hB : B ≤ g) (h : Rd w B g st) :
    Calls Try.prog 85 #[.pointer (some ⟨g, 0, none⟩)] w fun e w' => ∃ A n c, e = .returned (.slice A n c) ∧ OwnI w' w.heap.size A n c (rPart st).1 ∧ Rd w' B g (rPart st).2 ∧ Touch (fun k => k = g) w w' := by
  have HR := Lib.hid h
  have hg := h.lt
  have hbs := rNum_bs h.bs
  have hpb := rPart_bs h.bs
  clear h
  obtain ⟨cnt, hcnt⟩ : ∃ cnt : Nat, (rNum st).1 = cnt := ⟨(rNum st).1.toNat, by omega⟩
  have hpart : rPart st = rByt cnt (rNum st).2 := by unfold rPart; rw [hcnt, Int.toNat_natCast]
  obtain ⟨xs, st2, hps⟩ : ∃ xs st2, rPart st = (xs, st2) := ⟨_, _, rfl⟩
  rw [hps] at hpart hpb ⊢
  go_enter Try.func85, Try.ntmps85
  go_wp2_with fail
  refine (rnumber_any g B st w hB HR.out).mono ?_
  rintro e w1 ⟨rfl, hrd, ht, hsz⟩
  have HD := Lib.hid hrd
  have HT := Lib.hid ht
  clear hrd ht
  rw [hcnt]
  go_wp2_with fail
  refine (rbytes_any g cnt B _ w1 hB (by omega) HD.out).mono ?_
  rintro e w2 ⟨A, n, c, rfl, hnc, hb, hrd, ht, hsz2⟩
  rw [← hpart] at hb hrd
  have HB := Lib.hid hb
  have HD := Lib.hid hrd
  have HT := Lib.hid (HT.out.trans ht)
  have hn : n ≤ 255 := by
    have h1 := rByt_len (st := (rNum st).2) cnt
    rw [← hpart] at h1
    have := hb.1
    simp only at h1 this
    omega
  have LN : Hid (xs.length = n) := hb.1
  clear hrd ht hb hpart hps
  obtain ⟨i0, hi, hz0, hz1, hz2⟩ := info_parts Try.infoI
  have HI := Lib.hid hi
  have HZ0 := Lib.hid hz0
  have HZ1 := Lib.hid hz1
  have HZ2 := Lib.hid hz2
  clear hi hz0 hz1 hz2
  go_wp2
  go_loopw [3, 11] (fun p i wr => ∃ k : Nat, ∃ Ap cp, k ≤ n ∧ i = .int .i64 k ∧ p = .slice Ap k cp ∧ OwnI wr w.heap.size Ap k cp (xs.take k) ∧ Rd wr B g st2 ∧ Touch (fun k => k = g) w wr ∧ Byts wr B A n xs) (fun _ i _ => n - (intOf i).toNat)
  case atStart => exact ⟨0, none, 0, Nat.zero_le _, rfl, rfl, OwnI.nil _ _, HD.out, HT.out, HB.out⟩
  case round =>
    obtain ⟨k, Ap, cp, hk, rfl, rfl, hown, hrd, ht, hby⟩ := hrel
    have MR := Lib.hid hown
    have RR := Lib.hid hrd
    have TR := Lib.hid ht
    have YR := Lib.hid hby
    have srw := ht.size
    clear hown hrd ht hby
    by_cases hlt : k < n
    · obtain ⟨b, o, rfl, hbb, hc0⟩ := YR.out.at_ hlt
      have hrr := YR.out.range k
      have hst := take_step xs k (by rw [LN.out]; exact hlt)
      generalize xs[k]?.getD 0 = z at hc0 hrr hst
      have HST := Lib.hid hst
      clear hst
      have hwz : IntKind.i64.wrap z = z := by rw [IntKind.wrap_i64]; omega
      go_wp2_with (at_builtin; refine wpList_append_lies _ rfl _ _ 23 rfl w.heap.size 2 i0 (.int .i64 0) 1 8 Try.underlying23 HI.out HZ0.out HZ1.out HZ2.out rfl (by decide) _ _ _ rfl (MR.out.alloc _) ⟨wr.heap.size, 0, none⟩ 1 1 ([z].map (Value.int .i64)) rfl ?a0 ?a1 ?a2 (by omega) ?a3 ?a4 ?a5 _ rfl ?_)
      case a0 => first | rfl | (simp; done)
      case a1 =>
        intro j u hj
        match j, hj with
        | 0, hj => simp at hj; subst hj; simp [Addr.add]
      case a2 => intro u hu; simp at hu; subst hu; rfl
      case a3 => unfold maxLen; omega
      case a4 => omega
      case a5 => simp; omega
      intro g2 c2 w2 hown2 hgrow2 _ _
      have t2 : Touch (fun j => some j = (Value.slice Ap k cp).ownBlock) wr w2 := (Touch.of_below ((Below.refl _ _).alloc (Nat.le_refl _) _)).trans (Touch.of_grown hgrow2)
      have hge : ∀ j, j < w.heap.size → ¬ some j = (Value.slice Ap k cp).ownBlock := fun j hj e => by have := (World.ownsRow.lt MR.out j e.symm).1; omega
      have R2 := Lib.hid (RR.out.touch t2 hB (fun j hj => hge j (by omega)))
      have Y2 := Lib.hid (YR.out.below (t2.below (by omega) (fun j hj => hge j (by omega))))
      have T2 := Lib.hid (TR.out.grow t2 hge)
      have M2 : OwnI w2 w.heap.size (some ⟨g2, 0, none⟩) (k + 1) c2 (xs.take (k + 1)) := by
        rw [HST.out]
        unfold OwnI
        rw [List.map_append]
        simpa using hown2
      have M2 := Lib.hid M2
      clear t2 hge hown2 hgrow2
      go_wp2
      go_roundw
      case rel => exact ⟨k + 1, _, _, by omega, by go_num, rfl, M2.out, R2.out, T2.out, Y2.out⟩
      case measure => simp [intOf]; omega
    · obtain rfl : k = n := by omega
      have hst : xs.take k = xs := List.take_of_length_le (by rw [LN.out]; exact Nat.le_refl _)
      rw [hst] at MR
      go_wp2
      go_ret
      exact ⟨_, _, _, rfl, MR.out, RR.out, TR.out⟩
end Go.Proofs.Ytmgjpmlemkkalaa

-- PathK: What the program's KeyOf answers: for every list of numbers.
namespace Go.Proofs.Ytmgjpmlemkkalaa
set_option maxRecDepth 20000
open Go.RowKit

theorem isWorth_any (x : Int) (w : World) :
    Calls Try.prog 109 #[.int .i64 x] w fun e w' => e = .returned (.bool (decide (0 ≤ x ∧ x ≤ 15))) ∧ w' = w := by
  go_enter Try.func109, Try.ntmps109
  by_cases h : 0 ≤ x
  · go_wp2
    go_ret
    exact ⟨ret_b (decide_eq_decide.2 (by omega)), rfl⟩
  · go_wp2
    go_ret
    exact ⟨ret_b (by simp; omega), rfl⟩

theorem keyOf_any (A : Option Addr) (n c : Nat) (ps : List Int) (B : Nat) (w : World) (hn : n ≤ 1048576) (hB : B ≤ w.heap.size) (hp : Ints w B A n ps) :
    Calls Try.prog 100 #[.slice A n c] w fun e w' => e = .returned (.string (strOfNums (keyOf ps))) ∧ Below w.heap.size w w' := by
  have HP := Lib.hid hp
  clear hp
  by_cases hl : 8 < n
  · have hr := Lib.hid (keyOf_long ps (by have := HP.out.1; omega))
    go_enter Try.func100, Try.ntmps100
    go_wp2
    go_ret
    exact ⟨by rw [hr.out]; rfl, Below.refl _ _⟩
  · have hL : (ps.map dig).length = n := by rw [List.length_map]; exact HP.out.1
    have HM := Lib.hid (make_bytes (ps.map dig) n (by omega))
    go_enter Try.func100, Try.ntmps100
    have hmk := HM.out
    go_wp2
    clear hmk
    go_loopw [14] (fun i wr => ∃ k : Nat, k ≤ n ∧ i = .int .i64 k ∧ (∀ z ∈ ps.take k, 0 ≤ z ∧ z ≤ 15) ∧ wr = w.alloc (.cells (filled (ps.map dig) n k) 5)) (fun i _ => n - (intOf i).toNat)
    case atStart => exact ⟨0, Nat.zero_le _, rfl, by simp, rfl⟩
    case round =>
      obtain ⟨k, hk, rfl, hgood, rfl⟩ := hrel
      by_cases hlt : k < n
      · obtain ⟨b, off, rfl, hbB, hc⟩ := HP.out.at_ hlt
        have hbw : b < w.heap.size := by omega
        generalize hz : ps[k]?.getD 0 = z at hc
        have hg : (filled (ps.map dig) n k)[k]? = some (.int .u8 0) := filled_at _ n k hL hlt
        by_cases hq : 0 ≤ z ∧ z ≤ 15
        · have hd : decide (0 ≤ z ∧ z ≤ 15) = true := decide_eq_true hq
          obtain ⟨hq0, hq1⟩ := hq
          have hz16 : z < 16 := by omega
          have hst := filled_set (ps.map dig) n k hL hlt
          rw [map_at dig ps k (by have := HP.out.1; omega), hz] at hst
          have HS := Lib.hid hst
          clear hst
          go_wp2_with fail
          refine (isWorth_any _ _).mono ?_
          rintro e w' ⟨rfl, rfl⟩
          rw [hd]
          go_wp2
          go_roundw
          case rel => exact ⟨k + 1, by omega, by go_num, path_step ps k (by have := HP.out.1; omega) hgood (by rw [hz]; omega), by rw [← HS.out, ← dig_lit z (by omega) (by omega) (by show z.toNat < 16; omega)]; rfl⟩
          case measure => simp [intOf]; omega
        · have hd : decide (0 ≤ z ∧ z ≤ 15) = false := decide_eq_false hq
          go_wp2_with fail
          refine (isWorth_any _ _).mono ?_
          rintro e w' ⟨rfl, rfl⟩
          rw [hd]
          go_wp2
          go_ret
          exact ⟨by rw [keyOf_bad ps k (by have := HP.out.1; omega) (by rw [hz]; exact hq)]; rfl, (Below.refl _ _).alloc (Nat.le_refl _) _⟩
      · obtain rfl : k = n := by omega
        have e : ps.take k = ps := List.take_of_length_le (by have := HP.out.1; omega)
        rw [e] at hgood
        rw [filled_all _ k hL]
        have hb := Byts.new (w := w.alloc (.cells (u8s (ps.map dig)) 5)) hL (fun y hy => by
          obtain ⟨p, hp, rfl⟩ := List.mem_map.1 hy
          have := dig_bd p (hgood p hp)
          omega) (heap_alloc_new _ _)
        have hcv := conv_bytes _ k k _ _ _ hb
        go_wp2
        go_ret
        exact ⟨by rw [keyOf_good ps (by have := HP.out.1; omega) hgood]; rfl, (Below.refl _ _).alloc (Nat.le_refl _) _⟩
end Go.Proofs.Ytmgjpmlemkkalaa

-- NodeP: What the program's ValueOk and NodeOk answer, and their helpers: for every text, every node.
namespace Go.Proofs.Ytmgjpmlemkkalaa
set_option maxRecDepth 20000
open Go.RowKit

theorem isValueByte_any (c : Int) (w : World) :
    Calls Try.prog 110 #[.int .u8 c] w fun e w' => e = .returned (.bool (okLetter c)) ∧ w' = w := by
  have hcls : (97 ≤ c ∧ c ≤ 122) ∨ (48 ≤ c ∧ c ≤ 57) ∨ c < 48 ∨ (57 < c ∧ c < 97) ∨ 122 < c := by omega
  go_enter Try.func110, Try.ntmps110
  rcases hcls with ⟨h1, h2⟩ | ⟨h1, h2⟩ | h1 | ⟨h1, h2⟩ | h1
  · have d1 : decide ((97 : Int) ≤ c) = true := decide_eq_true (by omega)
    have d2 : decide (c ≤ 122) = true := decide_eq_true (by omega)
    go_wp2
    go_ret
    exact ⟨ret_b (by unfold okLetter; exact (decide_eq_true (by omega)).symm), rfl⟩
  · have d1 : decide ((97 : Int) ≤ c) = false := decide_eq_false (by omega)
    have d3 : decide ((48 : Int) ≤ c) = true := decide_eq_true (by omega)
    have d4 : decide (c ≤ 57) = true := decide_eq_true (by omega)
    go_wp2
    go_ret
    exact ⟨ret_b (by unfold okLetter; exact (decide_eq_true (by omega)).symm), rfl⟩
  · have d1 : decide ((97 : Int) ≤ c) = false := decide_eq_false (by omega)
    have d3 : decide ((48 : Int) ≤ c) = false := decide_eq_false (by omega)
    go_wp2
    go_ret
    exact ⟨ret_b (by unfold okLetter; exact (decide_eq_false (by omega)).symm), rfl⟩
  · have d1 : decide ((97 : Int) ≤ c) = false := decide_eq_false (by omega)
    have d3 : decide ((48 : Int) ≤ c) = true := decide_eq_true (by omega)
    have d4 : decide (c ≤ 57) = false := decide_eq_false (by omega)
    go_wp2
    go_ret
    exact ⟨ret_b (by unfold okLetter; exact (decide_eq_false (by omega)).symm), rfl⟩
  · have d1 : decide ((97 : Int) ≤ c) = true := decide_eq_true (by omega)
    have d2 : decide (c ≤ 122) = false := decide_eq_false (by omega)
    have d3 : decide ((48 : Int) ≤ c) = true := decide_eq_true (by omega)
    have d4 : decide (c ≤ 57) = false := decide_eq_false (by omega)
    go_wp2
    go_ret
    exact ⟨ret_b (by unfold okLetter; exact (decide_eq_false (by omega)).symm), rfl⟩

theorem valOk_size (zs : List Int) (h : zs.length = 0 ∨ 12 < zs.length) : valOk zs = false := by
  unfold valOk
  rw [decide_eq_false (by omega), Bool.false_and]

theorem valueOk_any (s : ByteArray) (w : World) (hs : s.size ≤ 1048576) :
    Calls Try.prog 101 #[.string s] w fun e w' => e = .returned (.bool (valOk (sb s))) ∧ w' = w := by
  have hlen := sb_len s
  go_enter Try.func101, Try.ntmps101
  by_cases h0 : s.size = 0
  · have d1 : decide ((s.size : Int) = 0) = true := decide_eq_true (by omega)
    go_wp2
    go_ret
    exact ⟨by rw [valOk_size (sb s) (by omega)]; rfl, rfl⟩
  · have d1 : decide ((s.size : Int) = 0) = false := decide_eq_false (by omega)
    have d0 : ((s.size : Int) == 0) = false := d1
    by_cases h12 : 12 < s.size
    · have d2 : decide ((12 : Int) < (s.size : Int)) = true := decide_eq_true (by omega)
      go_wp2
      go_ret
      exact ⟨by rw [valOk_size (sb s) (by omega)]; rfl, rfl⟩
    · have d2 : decide ((12 : Int) < (s.size : Int)) = false := decide_eq_false (by omega)
      go_wp2
      go_loop [14] (fun i => ∃ k : Nat, k ≤ s.size ∧ i = .int .i64 k ∧ (∀ z ∈ (sb s).take k, okLetter z = true)) (fun i => s.size - (intOf i).toNat)
      case atStart => exact ⟨0, Nat.zero_le _, rfl, by simp⟩
      case round =>
        obtain ⟨k, hk, rfl, hgood⟩ := hrel
        by_cases hlt : k < s.size
        · have hat := sb_at s k hlt
          have HAT := Lib.hid hat
          clear hat
          by_cases hq : okLetter ((s[k]'hlt).toNat : Int) = true
          · go_wp2_with fail
            refine (isValueByte_any _ _).mono ?_
            rintro e w' ⟨rfl, rfl⟩
            rw [hq]
            go_wp2
            go_round
            case rel => exact ⟨k + 1, by omega, by go_num, letters_step (sb s) k (by omega) hgood (by rw [HAT.out]; exact hq)⟩
            case measure => simp [intOf]; omega
          · have hq : okLetter ((s[k]'hlt).toNat : Int) = false := by simpa using hq
            go_wp2_with fail
            refine (isValueByte_any _ _).mono ?_
            rintro e w' ⟨rfl, rfl⟩
            rw [hq]
            go_wp2
            go_ret
            exact ⟨by rw [valOk_bad (sb s) k (by omega) (by rw [HAT.out]; exact hq)]; rfl, rfl⟩
        · have e : (sb s).take k = sb s := List.take_of_length_le (by omega)
          rw [e] at hgood
          have HG := Lib.hid (valOk_good (sb s) hgood)
          go_wp2
          go_ret
          exact ⟨by rw [HG.out]; exact ret_b (by rw [hlen]; exact (decide_eq_true (by omega)).symm), rfl⟩

/-- where the kid ahead of the k-th stands. -/
def lastAt (ks : List (Int × Int)) (k : Nat) : Int := if k = 0 then -1 else (ks[k - 1]?.getD (0, 0)).1
theorem lastAt_succ (ks : List (Int × Int)) (k : Nat) : lastAt ks (k + 1) = (ks[k]?.getD (0, 0)).1 := by
  unfold lastAt; rw [if_neg (by omega), Nat.add_sub_cancel]
theorem kidAt_of (ks : List (Int × Int)) (k : Nat) (h1 : ¬ (ks[k]?.getD (0, 0)).1 ≤ lastAt ks k) (h2 : 0 ≤ (ks[k]?.getD (0, 0)).1 ∧ (ks[k]?.getD (0, 0)).1 ≤ 15) (h3 : ¬ (ks[k]?.getD (0, 0)).2 ≤ 0) : KidAt ks k := by
  refine ⟨h2, by omega, fun h0 => ?_⟩
  unfold lastAt at h1
  rw [if_neg (by omega)] at h1
  omega
theorem kidAt_not (ks : List (Int × Int)) (k : Nat) (h : (ks[k]?.getD (0, 0)).1 ≤ lastAt ks k ∨ ¬ (0 ≤ (ks[k]?.getD (0, 0)).1 ∧ (ks[k]?.getD (0, 0)).1 ≤ 15) ∨ (ks[k]?.getD (0, 0)).2 ≤ 0) : ¬ KidAt ks k := by
  rintro ⟨h2, h3, h4⟩
  rcases h with h | h | h
  · unfold lastAt at h
    by_cases h0 : k = 0
    · rw [if_pos h0] at h; omega
    · rw [if_neg h0] at h
      have := h4 (by omega)
      omega
  · exact h h2
  · omega

set_option maxHeartbeats 1000000 in
theorem kidsOkP_any (A : Option Addr) (n c : Nat) (ks : List (Int × Int)) (B : Nat) (w : World) (hB : B ≤ w.heap.size) (hn : n ≤ 9223372036854775807) (hb : Kids w B A n ks) :
    Calls Try.prog 102 #[.slice A n c] w fun e w' => e = .returned (.bool (kidsOk ks)) ∧ Below w.heap.size w w' := by
  have HB := Lib.hid (hb.more hB)
  have hlen := hb.1
  clear hb
  go_enter Try.func102, Try.ntmps102
  go_wp2
  go_loopw [3, 8] (fun l i wr => ∃ k : Nat, k ≤ n ∧ i = .int .i64 k ∧ l = .int .i64 (lastAt ks k) ∧ (∀ j, j < k → KidAt ks j) ∧ Below w.heap.size w wr) (fun _ i _ => n - (intOf i).toNat)
  case atStart => exact ⟨0, Nat.zero_le _, rfl, rfl, fun j hj => absurd hj (by omega), Below.refl _ _⟩
  case round =>
    obtain ⟨k, hk, rfl, rfl, hgood, hbel⟩ := hrel
    by_cases hlt : k < n
    · obtain ⟨b, off, rfl, hbB, h0, h1⟩ := (HB.out.below hbel).at_ hlt
      have hls := lastAt_succ ks k
      have hyes := kidAt_of ks k
      have hno := kidAt_not ks k
      generalize ks[k]?.getD (0, 0) = x at h0 h1 hls hyes hno
      generalize lastAt ks k = l at hyes hno ⊢
      have LS := Lib.hid hls
      have HY := Lib.hid hyes
      have HN := Lib.hid hno
      have hsz := hbel.size
      have b1 := Lib.hid (hbel.alloc hsz (.cells #[.int .i64 x.1, .int .i64 x.2] 96))
      clear hls hyes hno hbel
      by_cases hR : x.1 ≤ l
      · have d1 : decide (x.1 ≤ l) = true := decide_eq_true hR
        go_wp2
        go_ret
        exact ⟨by rw [kidsOk_bad ks k (by omega) (HN.out (.inl hR))]; rfl, b1.out⟩
      · have d1 : decide (x.1 ≤ l) = false := decide_eq_false hR
        by_cases hA : 0 ≤ x.1 ∧ x.1 ≤ 15
        · have d2 : decide (0 ≤ x.1 ∧ x.1 ≤ 15) = true := decide_eq_true hA
          by_cases hN : x.2 ≤ 0
          · have d3 : decide (x.2 ≤ 0) = true := decide_eq_true hN
            go_wp2_with fail
            refine (isWorth_any _ _).mono ?_
            rintro e w' ⟨rfl, rfl⟩
            rw [d2]
            go_wp2
            go_ret
            exact ⟨by rw [kidsOk_bad ks k (by omega) (HN.out (.inr (.inr hN)))]; rfl, b1.out⟩
          · have d3 : decide (x.2 ≤ 0) = false := decide_eq_false hN
            go_wp2_with fail
            refine (isWorth_any _ _).mono ?_
            rintro e w' ⟨rfl, rfl⟩
            rw [d2]
            go_wp2
            go_roundw
            case rel =>
              refine ⟨k + 1, by omega, by go_num, by rw [LS.out], fun j hj => ?_, b1.out⟩
              rcases Nat.lt_or_ge j k with h | h
              · exact hgood j h
              · rw [show j = k by omega]
                exact HY.out hR hA hN
            case measure => simp [intOf]; omega
        · have d2 : decide (0 ≤ x.1 ∧ x.1 ≤ 15) = false := decide_eq_false hA
          go_wp2_with fail
          refine (isWorth_any _ _).mono ?_
          rintro e w' ⟨rfl, rfl⟩
          rw [d2]
          go_wp2
          go_ret
          exact ⟨by rw [kidsOk_bad ks k (by omega) (HN.out (.inr (.inl hA)))]; rfl, b1.out⟩
    · go_wp2
      go_ret
      exact ⟨by rw [kidsOk_good ks (fun i hi => hgood i (by omega))]; rfl, hbel⟩
end Go.Proofs.Ytmgjpmlemkkalaa

-- Allows: What the program's NodeOk answers, and the helper that asks whether a kind allows its parts: for every node.
namespace Go.Proofs.Ytmgjpmlemkkalaa
set_option maxRecDepth 20000
set_option linter.unusedSimpArgs false
open Go.RowKit

set_option maxHeartbeats 1600000 in      -- one walk, the ways through a switch of three
theorem allows_any (v : Value) (nd : MNode) (B : Nat) (w : World) (hB : B ≤ w.heap.size) (hv : NodeIn w B v nd) :
    Calls Try.prog 103 #[.int .i64 nd.kind, v] w fun e w' => e = .returned (.bool (kindOk nd)) ∧ Below w.heap.size w w' := by
  obtain ⟨Ap, np, cp, Ak, nk, ck, rfl, hnp, hnk, hsz, hp, hk⟩ := hv
  obtain ⟨kind, path, kids, val⟩ := nd
  have HK := Lib.hid (hk.more hB)
  have LP : Hid (path.length = np) := hp.1
  have LK : Hid (kids.length = nk) := hk.1
  have BW := fun m => Lib.hid (below_drewN ((Below.refl w.heap.size w).alloc (Nat.le_refl _) (.cells #[.int .i64 kind, .slice Ap np cp, .slice Ak nk ck, .string val] 35)) m)
  clear hp hk hsz
  go_enter Try.func103, Try.ntmps103
  by_cases hE : val.toList = []
  · obtain rfl := empty_str val hE
    clear hE
    by_cases hk1 : kind = 1
    · obtain rfl := hk1
      by_cases hz : nk = 0
      · obtain rfl := hz
        go_wp2
        go_quiet (fail)
        go_wp2
        go_ret
        exact ⟨ret_b (by simp [kindOk, hasVal, LP.out, LK.out]), (BW _).out⟩
      · have hd : decide ((nk : Int) = 0) = false := decide_eq_false (by omega)
        have hd0 : ((nk : Int) == 0) = false := hd
        go_wp2
        go_quiet (fail)
        go_wp2
        go_ret
        exact ⟨ret_b (by simp [kindOk, hasVal, LP.out, LK.out, hz]), (BW _).out⟩
    · by_cases hk2 : kind = 2
      · obtain rfl := hk2
        by_cases hz : np = 0
        · obtain rfl := hz
          go_wp2
          go_quiet (fail)
          go_wp2
          go_ret
          exact ⟨ret_b (by simp [kindOk, hasVal, LP.out, LK.out]), (BW _).out⟩
        · have hd : decide ((0 : Int) < (np : Int)) = true := decide_eq_true (by omega)
          have hz' : 0 < np := by omega
          by_cases hz1 : nk = 1
          · obtain rfl := hz1
            obtain ⟨b, off, rfl, hbB, p0, p1⟩ := HK.out.at_ (k := 0) (by omega)
            rw [Nat.zero_mul, Nat.add_zero] at p0 p1
            have hbw : b < w.heap.size := hbB
            have hx : ∃ x, kids[0]?.getD (0, 0) = x := ⟨_, rfl⟩
            obtain ⟨x, hx⟩ := hx
            rw [hx] at p0 p1
            have HX : Hid (at0 kids = x.1) := by unfold at0; rw [hx]; rfl
            clear hx
            go_wp2
            go_quiet (fail)
            go_wp2
            go_ret
            exact ⟨ret_b (by simp [kindOk, hasVal, LP.out, LK.out, hz']; rw [HX.out]; rfl), (BW _).out⟩
          · have hd1 : decide ((nk : Int) = 1) = false := decide_eq_false (by omega)
            have hd2 : ((nk : Int) == 1) = false := hd1
            go_wp2
            go_quiet (fail)
            go_wp2
            go_ret
            exact ⟨ret_b (by simp [kindOk, hasVal, LP.out, LK.out, hz', hz1]), (BW _).out⟩
      · by_cases hk3 : kind = 3
        · obtain rfl := hk3
          by_cases hz : np = 0
          · obtain rfl := hz
            by_cases hm : 1 < nk
            · have hd : decide ((1 : Int) < (nk : Int)) = true := decide_eq_true (by omega)
              go_wp2
              go_quiet (fail)
              go_wp2
              go_ret
              exact ⟨ret_b (by simp [kindOk, hasVal, LP.out, LK.out]; omega), (BW _).out⟩
            · have hd : decide ((1 : Int) < (nk : Int)) = false := decide_eq_false (by omega)
              by_cases hz1 : nk = 1
              · obtain rfl := hz1
                go_wp2
                go_quiet (fail)
                go_wp2
                go_ret
                exact ⟨ret_b (by simp [kindOk, hasVal, LP.out, LK.out]), (BW _).out⟩
              · obtain rfl : nk = 0 := by omega
                go_wp2
                go_quiet (fail)
                go_wp2
                go_ret
                exact ⟨ret_b (by simp [kindOk, hasVal, LP.out, LK.out]), (BW _).out⟩
          · have hd : decide ((np : Int) = 0) = false := decide_eq_false (by omega)
            have hd0 : ((np : Int) == 0) = false := hd
            go_wp2
            go_quiet (fail)
            go_wp2
            go_ret
            exact ⟨ret_b (by simp [kindOk, hasVal, LP.out, LK.out, hz]), (BW _).out⟩
        · have d1 : decide (kind = 1) = false := decide_eq_false hk1
          have d2 : decide (kind = 2) = false := decide_eq_false hk2
          have d3 : decide (kind = 3) = false := decide_eq_false hk3
          go_wp2
          go_quiet (fail)
          go_wp2
          go_ret
          exact ⟨ret_b (by simp [kindOk, hasVal, LP.out, LK.out, hk1, hk2, hk3]), (BW _).out⟩
  · have hE2 : val.toList.isEmpty = false := by simpa using hE
    by_cases hk1 : kind = 1
    · obtain rfl := hk1
      by_cases hz : nk = 0
      · obtain rfl := hz
        go_wp2
        go_quiet (fail)
        go_wp2
        go_ret
        exact ⟨ret_b (by simp [kindOk, hasVal, LP.out, LK.out, hE2]), (BW _).out⟩
      · have hd : decide ((nk : Int) = 0) = false := decide_eq_false (by omega)
        have hd0 : ((nk : Int) == 0) = false := hd
        go_wp2
        go_quiet (fail)
        go_wp2
        go_ret
        exact ⟨ret_b (by simp [kindOk, hasVal, LP.out, LK.out, hE2, hz]), (BW _).out⟩
    · by_cases hk2 : kind = 2
      · obtain rfl := hk2
        by_cases hz : np = 0
        · obtain rfl := hz
          go_wp2
          go_quiet (fail)
          go_wp2
          go_ret
          exact ⟨ret_b (by simp [kindOk, hasVal, LP.out, LK.out, hE2]), (BW _).out⟩
        · have hd : decide ((0 : Int) < (np : Int)) = true := decide_eq_true (by omega)
          have hz' : 0 < np := by omega
          go_wp2
          go_quiet (fail)
          go_wp2
          go_ret
          exact ⟨ret_b (by simp [kindOk, hasVal, LP.out, LK.out, hE2]), (BW _).out⟩
      · by_cases hk3 : kind = 3
        · obtain rfl := hk3
          by_cases hz : np = 0
          · obtain rfl := hz
            by_cases hm : 1 < nk
            · have hd : decide ((1 : Int) < (nk : Int)) = true := decide_eq_true (by omega)
              go_wp2
              go_quiet (fail)
              go_wp2
              go_ret
              exact ⟨ret_b (by simp [kindOk, hasVal, LP.out, LK.out, hE2]; omega), (BW _).out⟩
            · have hd : decide ((1 : Int) < (nk : Int)) = false := decide_eq_false (by omega)
              by_cases hz1 : nk = 1
              · obtain rfl := hz1
                go_wp2
                go_quiet (fail)
                go_wp2
                go_ret
                exact ⟨ret_b (by simp [kindOk, hasVal, LP.out, LK.out, hE2]), (BW _).out⟩
              · obtain rfl : nk = 0 := by omega
                go_wp2
                go_quiet (fail)
                go_wp2
                go_ret
                exact ⟨ret_b (by simp [kindOk, hasVal, LP.out, LK.out, hE2]), (BW _).out⟩
          · have hd : decide ((np : Int) = 0) = false := decide_eq_false (by omega)
            have hd0 : ((np : Int) == 0) = false := hd
            go_wp2
            go_quiet (fail)
            go_wp2
            go_ret
            exact ⟨ret_b (by simp [kindOk, hasVal, LP.out, LK.out, hE2, hz]), (BW _).out⟩
        · have d1 : decide (kind = 1) = false := decide_eq_false hk1
          have d2 : decide (kind = 2) = false := decide_eq_false hk2
          have d3 : decide (kind = 3) = false := decide_eq_false hk3
          go_wp2
          go_quiet (fail)
          go_wp2
          go_ret
          exact ⟨ret_b (by simp [kindOk, hasVal, LP.out, LK.out, hE2, hk1, hk2, hk3]), (BW _).out⟩
end Go.Proofs.Ytmgjpmlemkkalaa

-- NodeQ: What the program's NodeOk answers: for every node.
namespace Go.Proofs.Ytmgjpmlemkkalaa
set_option maxRecDepth 20000
set_option linter.unusedSimpArgs false
open Go.RowKit

theorem key_no (ps : List Int) (h : isPath ps = false) : strOfNums (keyOf ps) = { data := #[] } := by
  unfold keyOf
  rw [if_neg (by rw [h]; decide)]
  rfl
theorem key_yes (ps : List Int) (h : isPath ps = true) (hn : 0 < ps.length) : (strOfNums (keyOf ps)).toList.isEmpty = false := by
  obtain ⟨h1, h2⟩ := (isPath_iff ps).1 h
  rw [keyOf_good ps h1 h2]
  rcases hb : (strOfNums (ps.map dig)).toList.isEmpty with _ | _
  · rfl
  · have e := empty_str _ (by simpa using hb)
    have hs := strOfNums_size (ps.map dig)
    rw [e, List.length_map] at hs
    have h0 : (ByteArray.mk #[]).size = 0 := rfl
    omega

set_option maxHeartbeats 1600000 in      -- one walk, the ways through four tests
theorem progNodeOk_any (v : Value) (nd : MNode) (B : Nat) (w : World) (hB : B ≤ w.heap.size) (hv : NodeIn w B v nd) :
    Calls Try.prog 88 #[v] w fun e w' => e = .returned (.bool (nodeOk nd)) ∧ Below w.heap.size w w' := by
  have HN : Hid (∀ W, Below w.heap.size w W → NodeIn W w.heap.size v nd) := fun W hW => (hv.more hB).below hW
  obtain ⟨Ap, np, cp, Ak, nk, ck, rfl, hnp, hnk, hsz, hp, hk⟩ := hv
  obtain ⟨kind, path, kids, val⟩ := nd
  have HP := Lib.hid (hp.more hB)
  have HK := Lib.hid (hk.more hB)
  have LP : Hid (path.length = np) := hp.1
  have LK : Hid (kids.length = nk) := hk.1
  have SV := Lib.hid hsz
  have b0 := (Below.refl w.heap.size w).alloc (Nat.le_refl _) (.cells #[.int .i64 kind, .slice Ap np cp, .slice Ak nk ck, .string val] 35)
  have xb : Box (w.alloc (.cells #[.int .i64 kind, .slice Ap np cp, .slice Ak nk ck, .string val] 35)) w.heap.size _ _ := heap_alloc_new _ _
  have XB := Lib.hid xb
  have B0 := Lib.hid b0
  clear hp hk hsz b0 xb
  go_enter Try.func88, Try.ntmps88
  have q0 := XB.out.cell 0
  have q1 := XB.out.cell 1
  have q2 := XB.out.cell 2
  have q3 := XB.out.cell 3
  simp at q0 q1 q2 q3
  by_cases h0 : np = 0
  · obtain rfl := h0
    have h1 : isPath path = true := by rw [List.eq_nil_of_length_eq_zero LP.out]; rfl
    by_cases hE : val.toList = []
    · obtain rfl := empty_str val hE
      clear hE
      go_wp2_with fail
      refine (kidsOkP_any _ _ _ kids _ _ B0.out.size (by omega) (HK.out.below B0.out)).mono ?_
      rintro e w3 ⟨rfl, b3⟩
      have XB := Lib.hid (XB.out.below b3 XB.out.lt)
      have B3 := Lib.hid (B0.out.trans (b3.mono B0.out.size))
      clear b3 q0 q1 q2 q3
      have q0 := XB.out.cell 0
      have q1 := XB.out.cell 1
      have q2 := XB.out.cell 2
      have q3 := XB.out.cell 3
      simp at q0 q1 q2 q3
      by_cases h2 : kidsOk kids = true
      · rw [h2]
        go_wp2_with fail
        refine (allows_any _ ⟨kind, path, kids, { data := #[] }⟩ _ _ (B3.out.size) (HN.out _ B3.out)).mono ?_
        rintro e w9 ⟨rfl, b9⟩
        go_wp2
        go_ret
        exact ⟨ret_b (by simp [nodeOk, hasVal, h1, h2]), B3.out.trans (b9.mono B3.out.size)⟩
      · have h2 : kidsOk kids = false := by simpa using h2
        rw [h2]
        go_wp2
        go_ret
        exact ⟨ret_b (by simp [nodeOk, hasVal, h1, h2]), B3.out⟩
    · have hE2 : val.toList.isEmpty = false := by simpa using hE
      go_wp2_with fail
      refine (valueOk_any val _ SV.out).mono ?_
      rintro e w' ⟨rfl, rfl⟩
      by_cases h3 : valOk (sb val) = true
      · rw [h3]
        go_wp2_with fail
        refine (kidsOkP_any _ _ _ kids _ _ B0.out.size (by omega) (HK.out.below B0.out)).mono ?_
        rintro e w3 ⟨rfl, b3⟩
        have XB := Lib.hid (XB.out.below b3 XB.out.lt)
        have B3 := Lib.hid (B0.out.trans (b3.mono B0.out.size))
        clear b3 q0 q1 q2 q3
        have q0 := XB.out.cell 0
        have q1 := XB.out.cell 1
        have q2 := XB.out.cell 2
        have q3 := XB.out.cell 3
        simp at q0 q1 q2 q3
        by_cases h2 : kidsOk kids = true
        · rw [h2]
          go_wp2_with fail
          refine (allows_any _ ⟨kind, path, kids, val⟩ _ _ (B3.out.size) (HN.out _ B3.out)).mono ?_
          rintro e w9 ⟨rfl, b9⟩
          go_wp2
          go_ret
          exact ⟨ret_b (by simp [nodeOk, hasVal, h1, hE2, h3, h2]), B3.out.trans (b9.mono B3.out.size)⟩
        · have h2 : kidsOk kids = false := by simpa using h2
          rw [h2]
          go_wp2
          go_ret
          exact ⟨ret_b (by simp [nodeOk, hasVal, h1, hE2, h3, h2]), B3.out⟩
      · have h3 : valOk (sb val) = false := by simpa using h3
        rw [h3]
        go_wp2
        go_ret
        exact ⟨ret_b (by simp [nodeOk, hasVal, h1, hE2, h3]), B0.out⟩
  · have d0 : decide ((np : Int) = 0) = false := decide_eq_false (by omega)
    have d1 : ((np : Int) == 0) = false := d0
    go_wp2_with fail
    refine (keyOf_any _ _ _ path _ _ hnp B0.out.size (HP.out.below B0.out)).mono ?_
    rintro e w1 ⟨rfl, b1⟩
    have XB := Lib.hid (XB.out.below b1 XB.out.lt)
    have B1 := Lib.hid (B0.out.trans (b1.mono B0.out.size))
    clear b1 q0 q1 q2 q3
    have q0 := XB.out.cell 0
    have q1 := XB.out.cell 1
    have q2 := XB.out.cell 2
    have q3 := XB.out.cell 3
    simp at q0 q1 q2 q3
    by_cases h1 : isPath path = true
    · have hy := key_yes path h1 (by have := LP.out; omega)
      generalize strOfNums (keyOf path) = s at hy ⊢
      by_cases hE : val.toList = []
      · obtain rfl := empty_str val hE
        clear hE
        go_wp2_with fail
        refine (kidsOkP_any _ _ _ kids _ _ B1.out.size (by omega) (HK.out.below B1.out)).mono ?_
        rintro e w3 ⟨rfl, b3⟩
        have XB := Lib.hid (XB.out.below b3 XB.out.lt)
        have B3 := Lib.hid (B1.out.trans (b3.mono B1.out.size))
        clear b3 q0 q1 q2 q3
        have q0 := XB.out.cell 0
        have q1 := XB.out.cell 1
        have q2 := XB.out.cell 2
        have q3 := XB.out.cell 3
        simp at q0 q1 q2 q3
        by_cases h2 : kidsOk kids = true
        · rw [h2]
          go_wp2_with fail
          refine (allows_any _ ⟨kind, path, kids, { data := #[] }⟩ _ _ (B3.out.size) (HN.out _ B3.out)).mono ?_
          rintro e w9 ⟨rfl, b9⟩
          go_wp2
          go_ret
          exact ⟨ret_b (by simp [nodeOk, hasVal, h1, h2]), B3.out.trans (b9.mono B3.out.size)⟩
        · have h2 : kidsOk kids = false := by simpa using h2
          rw [h2]
          go_wp2
          go_ret
          exact ⟨ret_b (by simp [nodeOk, hasVal, h1, h2]), B3.out⟩
      · have hE2 : val.toList.isEmpty = false := by simpa using hE
        go_wp2_with fail
        refine (valueOk_any val _ SV.out).mono ?_
        rintro e w' ⟨rfl, rfl⟩
        by_cases h3 : valOk (sb val) = true
        · rw [h3]
          go_wp2_with fail
          refine (kidsOkP_any _ _ _ kids _ _ B1.out.size (by omega) (HK.out.below B1.out)).mono ?_
          rintro e w3 ⟨rfl, b3⟩
          have XB := Lib.hid (XB.out.below b3 XB.out.lt)
          have B3 := Lib.hid (B1.out.trans (b3.mono B1.out.size))
          clear b3 q0 q1 q2 q3
          have q0 := XB.out.cell 0
          have q1 := XB.out.cell 1
          have q2 := XB.out.cell 2
          have q3 := XB.out.cell 3
          simp at q0 q1 q2 q3
          by_cases h2 : kidsOk kids = true
          · rw [h2]
            go_wp2_with fail
            refine (allows_any _ ⟨kind, path, kids, val⟩ _ _ (B3.out.size) (HN.out _ B3.out)).mono ?_
            rintro e w9 ⟨rfl, b9⟩
            go_wp2
            go_ret
            exact ⟨ret_b (by simp [nodeOk, hasVal, h1, hE2, h3, h2]), B3.out.trans (b9.mono B3.out.size)⟩
          · have h2 : kidsOk kids = false := by simpa using h2
            rw [h2]
            go_wp2
            go_ret
            exact ⟨ret_b (by simp [nodeOk, hasVal, h1, hE2, h3, h2]), B3.out⟩
        · have h3 : valOk (sb val) = false := by simpa using h3
          rw [h3]
          go_wp2
          go_ret
          exact ⟨ret_b (by simp [nodeOk, hasVal, h1, hE2, h3]), B1.out⟩
    · have h1 : isPath path = false := by simpa using h1
      rw [key_no path h1]
      go_wp2
      go_ret
      exact ⟨ret_b (by simp [nodeOk, hasVal, h1]), B1.out⟩
end Go.Proofs.Ytmgjpmlemkkalaa

-- ReadK: The program's reader: the kids; and what the program's NodeFrom reads of some bytes.
namespace Go.Proofs.Ytmgjpmlemkkalaa
set_option maxRecDepth 20000
set_option linter.unusedSimpArgs false
set_option linter.unusedVariables false
open Go.RowKit

theorem nm8_any (A : Option Addr) (n c B : Nat) (zs : List Int) (w : World) (hb : Byts w B A n zs) :
    Calls Try.prog 99 #[.slice A n c] w fun e w' => ∃ b, e = .returned (.tuple #[.int .i64 (nm8 zs), .bool b]) ∧ w = w' := by
  have hl := hb.1
  by_cases h8 : n = 8
  · subst h8
    by_cases h7 : zs[7]?.getD 0 ≤ 127
    · refine (from_yes A c zs B w hb h7).mono ?_
      rintro e w' ⟨rfl, rfl⟩
      exact ⟨true, by unfold nm8; rw [if_pos ⟨hl, h7⟩], rfl⟩
    · refine (from_high A c zs B w hb (by omega)).mono ?_
      rintro e w' ⟨rfl, rfl⟩
      exact ⟨false, by unfold nm8; rw [if_neg (by omega)], rfl⟩
  · refine (from_no_len A n c w h8).mono ?_
    rintro e w' ⟨rfl, rfl⟩
    exact ⟨false, by unfold nm8; rw [if_neg (by omega)], rfl⟩

theorem Box.touch {w w' : World} {g : Nat} {t : TypeId} {cs : Array Value} {S : Nat → Prop} (h : Box w g t cs) (k : Touch S w w') (hn : ¬ S g) : Box w' g t cs := (k.block g h.lt hn).trans h

set_option maxHeartbeats 800000 in
theorem rkids_any (g B : Nat) (st : Option (List Int)) (w : World) (hB : B ≤ g) (h : Rd w B g st) :
    Calls Try.prog 87 #[.pointer (some ⟨g, 0, none⟩)] w fun e w' => ∃ A n c, e = .returned (.slice A n c) ∧ OwnK w' w.heap.size A n c (rAll st).1 ∧ Rd w' B g (rAll st).2 ∧ Touch (fun k => k = g) w w' := by
  have HR := Lib.hid h
  have hg := h.lt
  have hbs := rNum_bs h.bs
  clear h
  obtain ⟨cnt, hcnt⟩ : ∃ cnt : Nat, (rNum st).1 = cnt := ⟨(rNum st).1.toNat, by omega⟩
  have hall : rAll st = rKids cnt (rNum st).2 := by unfold rAll; rw [hcnt, Int.toNat_natCast]
  obtain ⟨st1, hst1⟩ : ∃ st1, (rNum st).2 = st1 := ⟨_, rfl⟩
  rw [hall, hst1]
  go_enter Try.func87, Try.ntmps87
  go_wp2_with fail
  refine (rnumber_any g B st w hB HR.out).mono ?_
  rintro e w1 ⟨rfl, hrd, ht, hsz⟩
  rw [hst1] at hrd
  have HD := Lib.hid hrd
  have HT := Lib.hid ht
  have hc255 : cnt ≤ 255 := by have := hbs.2; omega
  clear hrd ht hall hbs
  rw [hcnt]
  obtain ⟨iK, hki, hk0, hk1, hk2⟩ := info_parts Try.infoK
  have HK := Lib.hid hki
  have HK0 := Lib.hid hk0
  have HK1 := Lib.hid hk1
  have HK2 := Lib.hid hk2
  clear hki hk0 hk1 hk2 hcnt hst1
  go_wp2
  go_loopw [3, 9] (fun p i wr => ∃ q : Nat, ∃ Ak ck, q ≤ cnt ∧ i = .int .i64 q ∧ p = .slice Ak q ck ∧ OwnK wr w.heap.size Ak q ck (rKids q st1).1 ∧ Rd wr B g (rKids q st1).2 ∧ Touch (fun k => k = g) w wr) (fun _ i _ => cnt - (intOf i).toNat)
  case atStart => exact ⟨0, none, 0, Nat.zero_le _, rfl, rfl, OwnK.nil _ _, HD.out, HT.out⟩
  case round =>
    obtain ⟨q, Ak, ck, hq, rfl, rfl, hown, hrd, ht⟩ := hrel
    have MR := Lib.hid hown
    have RR := Lib.hid hrd
    have TR := Lib.hid ht
    have srw := ht.size
    clear hown hrd ht
    by_cases hlt : q < cnt
    · have hstep : rKids (q + 1) st1 = ((rKids q st1).1 ++ [(rKid (rKids q st1).2).1], (rKid (rKids q st1).2).2) := rfl
      unfold rKid at hstep
      have HST := Lib.hid hstep
      clear hstep
      generalize (rKids q st1).1 = ks at MR HST
      generalize (rKids q st1).2 = s at RR HST
      have hge : ∀ j, (Value.slice Ak q ck).ownBlock = some j → ¬ j = g := fun j hj e => by have := (World.ownsRow.lt MR.out j hj).1; omega
      go_wp2_with fail
      refine (rnumber_any g B s wr hB RR.out).mono ?_
      rintro e wa ⟨rfl, ra, ta, sa⟩
      have RA := Lib.hid ra
      have MA := Lib.hid (MR.out.touch ta hge)
      have TA := Lib.hid (TR.out.trans ta)
      clear ra ta
      generalize (rNum s).1 = a at HST ⊢
      generalize (rNum s).2 = s2 at HST RA
      go_wp2_with fail
      refine (rbytes_any g 8 B s2 wa hB (by omega) RA.out).mono ?_
      rintro e wb ⟨Ab, nb_, cb, rfl, hncb, yb, rb, tb, sb_⟩
      have RB := Lib.hid rb
      have MB := Lib.hid (MA.out.touch tb hge)
      have TB := Lib.hid (TA.out.trans tb)
      clear rb tb hge
      generalize (rByt 8 s2).1 = xs at HST yb
      generalize (rByt 8 s2).2 = s3 at HST RB
      go_wp2_with fail
      refine (nm8_any Ab nb_ cb B xs wb yb).mono ?_
      rintro e w' ⟨bb, rfl, rfl⟩
      clear yb sa sb_
      generalize nm8 xs = m at HST ⊢
      have hszb : w.heap.size ≤ wb.heap.size := TB.out.size
      go_wp2_with (at_builtin; refine wpList_append_lies _ rfl _ _ 33 rfl w.heap.size 96 iK (.agg #[.int .i64 0, .int .i64 0]) 2 16 Try.underlying33 HK.out HK0.out HK1.out HK2.out rfl (by decide) _ _ _ rfl (MB.out.alloc _) ⟨wb.heap.size, 0, none⟩ 1 1 ([a, m].map (Value.int .i64)) rfl ?a0 ?a1 ?a2 (by omega) ?a3 ?a4 ?a5 _ rfl ?_)
      case a0 => first | rfl | (simp; done)
      case a1 =>
        intro j u hj
        match j, hj with
        | 0, hj => simp at hj; subst hj; simp [Addr.add]
        | 1, hj => simp at hj; subst hj; simp [Addr.add]
      case a2 => intro u hu; simp at hu; rcases hu with rfl | rfl <;> rfl
      case a3 => unfold maxLen; omega
      case a4 => omega
      case a5 => simp; omega
      intro g2 c2 w2 hown2 hgrow2 _ _
      have t2 : Touch (fun j => some j = (Value.slice Ak q ck).ownBlock) wb w2 := (Touch.of_below ((Below.refl _ _).alloc (Nat.le_refl _) _)).trans (Touch.of_grown hgrow2)
      have hge : ∀ j, j < w.heap.size → ¬ some j = (Value.slice Ak q ck).ownBlock := fun j hj e => by have := (World.ownsRow.lt MB.out j e.symm).1; omega
      have R2 := Lib.hid (RB.out.touch t2 hB (fun j hj => hge j (by omega)))
      have T2 := Lib.hid (TB.out.grow t2 hge)
      have M2 : OwnK w2 w.heap.size (some ⟨g2, 0, none⟩) (q + 1) c2 (ks ++ [(a, m)]) := by
        unfold OwnK
        rw [kv_append, List.map_append]
        exact hown2
      have M2 := Lib.hid M2
      clear t2 hge hown2 hgrow2
      go_wp2
      go_roundw
      case rel => exact ⟨q + 1, _, _, by omega, by go_num, rfl, by rw [HST.out]; exact M2.out, by rw [HST.out]; exact R2.out, T2.out⟩
      case measure => simp [intOf]; omega
    · obtain rfl : q = cnt := by omega
      go_wp2
      go_ret
      exact ⟨_, _, _, rfl, MR.out, RR.out, TR.out⟩

theorem rd_new {w : World} {B g : Nat} {A : Option Addr} {n c : Nat} {bs : List Int} (hx : Box w g 126 #[.slice A n c, .bool false]) (hc : n ≤ c) (hn : n ≤ 1048576) (hA : A = none → c = 0) (hb : Byts w B A n bs) : Rd w B g (some bs) :=
  ⟨A, n, c, false, hx, hc, hn, hA, hb, rfl, fun h => by cases h⟩

set_option maxHeartbeats 2000000 in
theorem implNodeFrom_any (A : Option Addr) (n c : Nat) (bs : List Int) (B : Nat) (w : World) (hn : n ≤ 1048576) (hc : n ≤ c) (hA : A = none → c = 0) (hB : B ≤ w.heap.size) (hb : Byts w B A n bs) :
    Calls Try.prog 65 #[.slice A n c] w fun e w' => ∃ v nd b, e = .returned (.tuple #[v, .bool b]) ∧ OwnN w' w.heap.size v nd ∧ NodeRead bs nd b ∧ Below w.heap.size w w' := by
  obtain ⟨r0, hr0⟩ : ∃ r0, w.heap.size = r0 := ⟨_, rfl⟩
  obtain ⟨w1, hw1⟩ : ∃ w1, (w.alloc (.cells #[.int .i64 0, .slice none 0 0, .slice none 0 0, .string { data := #[] }] 35)).alloc (.cells #[.slice A n c, .bool false] 126) = w1 := ⟨_, rfl⟩
  have x1 : Box w1 r0 35 #[.int .i64 0, .slice none 0 0, .slice none 0 0, .string { data := #[] }] := by rw [← hw1, ← hr0]; exact heap2_0 w _ _
  have y1 : Box w1 (r0 + 1) 126 #[.slice A n c, .bool false] := by rw [← hw1, ← hr0]; exact heap2_1 w _ _
  have s1 : w1.heap.size = r0 + 1 + 1 := by rw [← hw1, size2, hr0]
  have b1 : Below r0 w w1 := by rw [← hw1, ← hr0]; exact below2 w _ _
  have rd1 := rd_new (B := r0) y1 hc hn hA ((hb.more (by omega)).below b1)
  have X := Lib.hid x1
  have R := Lib.hid rd1
  have B1 := Lib.hid b1
  have HW := Lib.hid hw1
  have hbs : Bs (some bs) := rd1.bs
  have HBS := Lib.hid hbs
  clear x1 y1 b1 rd1 hw1 hb hA hc
  have hrn := rNum_bs hbs
  have hrp := rPart_bs hrn.1
  have hrv := rPart_bs hrp.1
  have l1 := rPart_len hrn.1
  have l2 := rPart_len hrp.1
  obtain ⟨kd, st1, h1⟩ : ∃ a s, rNum (some bs) = (a, s) := ⟨_, _, rfl⟩
  rw [h1] at hrp hrv l1 l2
  obtain ⟨ps, st2, h2⟩ : ∃ a s, rPart st1 = (a, s) := ⟨_, _, rfl⟩
  simp only [h2] at hrp hrv l1 l2
  obtain ⟨vs, st3, h3⟩ : ∃ a s, rPart st2 = (a, s) := ⟨_, _, rfl⟩
  simp only [h3] at hrv l2
  obtain ⟨ks, st4, h4⟩ : ∃ a s, rAll st3 = (a, s) := ⟨_, _, rfl⟩
  have hnode : rNode (some bs) = (⟨kd, ps, ks, strOfNums vs⟩, st4) := by
    unfold rNode
    simp only [h1, h2, h3, h4]
  have HN := Lib.hid hnode
  have lk : ks.length ≤ 255 := by
    have h5 := rKids_len (rNum st3).1.toNat (st := (rNum st3).2)
    have h6 := (rNum_bs hrv.1).2
    have h7 : (rAll st3).1.length = (rNum st3).1.toNat := h5
    rw [h4] at h7
    simp only at h7
    omega
  have H1 := Lib.hid h1
  have H2 := Lib.hid h2
  have H3 := Lib.hid h3
  have H4 := Lib.hid h4
  clear h1 h2 h3 h4 hnode hrn hrp hrv hbs
  go_enter Try.func65, Try.ntmps65
  go_wp2_with fail
  rw [HW.out]
  refine (rnumber_any (r0 + 1) r0 _ w1 (by omega) R.out).mono ?_
  rintro e w2 ⟨rfl, rd, t, s2⟩
  rw [H1.out] at rd ⊢
  have R := Lib.hid rd
  have X := Lib.hid (X.out.touch t (by omega))
  have T := Lib.hid (t.mono (T := fun k => r0 ≤ k) (fun k e => by omega))
  have B2 := Lib.hid (B1.out.trans (T.out.below (by omega) (fun k hk h => by omega)))
  clear rd t
  simp only
  have hs2 : w2.heap.size = r0 + 1 + 1 := by omega
  obtain ⟨m, hm⟩ : ∃ m, w2.heap.size = m := ⟨_, rfl⟩
  obtain ⟨w3, hw3⟩ : ∃ w3, w2.alloc (.cells #[.int .i64 kd, .slice none 0 0, .slice none 0 0, .string { data := #[] }] 35) = w3 := ⟨_, rfl⟩
  have z3 : Box w3 m 35 #[.int .i64 kd, .slice none 0 0, .slice none 0 0, .string { data := #[] }] := by rw [← hw3, ← hm]; exact heap_alloc_new _ _
  have s3 : w3.heap.size = m + 1 := by rw [← hw3, ← hm]; simp
  have b3 : Below w2.heap.size w2 w3 := by rw [← hw3]; exact (Below.refl _ _).alloc (Nat.le_refl _) _
  have R := Lib.hid (R.out.below b3 (by omega))
  have X := Lib.hid (X.out.below b3 (by omega))
  have Z := Lib.hid z3
  have B3 := Lib.hid (B2.out.trans (b3.mono (by omega)))
  have HW3 := Lib.hid hw3
  have hm2 : r0 + 1 < m := by omega
  clear z3 b3 hw3 s1 s2 hs2
  go_wp2_with fail
  rw [HW3.out]
  refine (rpath_any (r0 + 1) r0 _ w3 (by omega) R.out).mono ?_
  rintro e w4 ⟨Ap, np, cp, rfl, hown, rd, t⟩
  rw [H2.out] at rd hown
  rw [s3] at hown
  have hnp : ps.length = np := hown.len
  have R := Lib.hid rd
  have X := Lib.hid (X.out.touch t (by omega))
  have Z := Lib.hid (Z.out.touch t (by omega))
  have B4 := Lib.hid (B3.out.trans (t.below (by omega) (fun k hk h => by omega)))
  have P := Lib.hid hown
  have s4 := t.size
  clear hown rd t
  obtain ⟨w5, hw5⟩ : ∃ w5, w4.setCell ⟨m, 1, none⟩ (.slice Ap np cp) = w5 := ⟨_, rfl⟩
  have t5 : Touch (fun k => k = m) w4 w5 := by rw [← hw5]; exact touch_set w4 m 1 _ rfl
  have z5 : Box w5 m 35 #[.int .i64 kd, .slice Ap np cp, .slice none 0 0, .string { data := #[] }] := by rw [← hw5]; exact Z.out.set_ 1 _
  have HW5 := Lib.hid hw5
  clear hw5
  have q1 := Z.out.cell 1
  have f1 := Z.out.free 1
  simp at q1
  go_wp2_with fail
  rw [HW5.out]
  clear q1 f1
  have Z := Lib.hid z5
  have R := Lib.hid (R.out.touch t5 (by omega) (fun k hk e => by omega))
  have X := Lib.hid (X.out.touch t5 (by omega))
  have P := Lib.hid (P.out.touch t5 (fun j hj e => by have := (World.ownsRow.lt P.out j hj).1; omega))
  have B5 := Lib.hid (B4.out.trans (t5.below (by omega) (fun k hk h => by omega)))
  have s5 := t5.size
  clear t5 z5
  refine (rnumber_any (r0 + 1) r0 _ w5 (by omega) R.out).mono ?_
  rintro e w6 ⟨rfl, rd, t, s6⟩
  have hbs2 := rNum_bs (R.out.bs)
  obtain ⟨cv, hcv⟩ : ∃ cv : Nat, (rNum st2).1 = cv := ⟨(rNum st2).1.toNat, by omega⟩
  have hpart : rByt cv (rNum st2).2 = (vs, st3) := by rw [← H3.out]; unfold rPart; rw [hcv, Int.toNat_natCast]
  have hcv255 : cv ≤ 255 := by omega
  rw [hcv]
  have R := Lib.hid rd
  have X := Lib.hid (X.out.touch t (by omega))
  have Z := Lib.hid (Z.out.touch t (by omega))
  have P := Lib.hid (P.out.touch t (fun j hj e => by have := (World.ownsRow.lt P.out j hj).1; omega))
  have B6 := Lib.hid (B5.out.trans (t.below (by omega) (fun k hk h => by omega)))
  clear rd t hbs2
  have HPV := Lib.hid hpart
  clear hpart hcv
  go_wp2_with fail
  refine (rbytes_any (r0 + 1) cv r0 _ w6 (by omega) hcv255 R.out).mono ?_
  rintro e w7 ⟨Av, nv, cc, rfl, _, yb, rd, t, s7⟩
  rw [HPV.out] at yb rd
  have R := Lib.hid rd
  have X := Lib.hid (X.out.touch t (by omega))
  have Z := Lib.hid (Z.out.touch t (by omega))
  have P := Lib.hid (P.out.touch t (fun j hj e => by have := (World.ownsRow.lt P.out j hj).1; omega))
  have B7 := Lib.hid (B6.out.trans (t.below (by omega) (fun k hk h => by omega)))
  clear rd t
  have hconv := conv_bytes Av nv cc vs _ w7 yb
  have hvl : vs.length ≤ 255 := l2
  obtain ⟨w8, hw8⟩ : ∃ w8, w7.setCell ⟨m, 3, none⟩ (.string (strOfNums vs)) = w8 := ⟨_, rfl⟩
  have t8 : Touch (fun k => k = m) w7 w8 := by rw [← hw8]; exact touch_set w7 m 3 _ rfl
  have z8 : Box w8 m 35 #[.int .i64 kd, .slice Ap np cp, .slice none 0 0, .string (strOfNums vs)] := by rw [← hw8]; exact Z.out.set_ 3 _
  have HW8 := Lib.hid hw8
  clear hw8 yb
  have q3 := Z.out.cell 3
  have f3 := Z.out.free 3
  simp at q3
  go_wp2_with fail
  rw [HW8.out]
  clear q3 f3 hconv
  have Z := Lib.hid z8
  have R := Lib.hid (R.out.touch t8 (by omega) (fun k hk e => by omega))
  have X := Lib.hid (X.out.touch t8 (by omega))
  have P := Lib.hid (P.out.touch t8 (fun j hj e => by have := (World.ownsRow.lt P.out j hj).1; omega))
  have B8 := Lib.hid (B7.out.trans (t8.below (by omega) (fun k hk h => by omega)))
  have s8 := t8.size
  have PL := Lib.hid (fun j hj => (World.ownsRow.lt P.out j hj).2)
  have hm8 : m < w8.heap.size := z8.lt
  clear t8 z8
  refine (rkids_any (r0 + 1) r0 _ w8 (by omega) R.out).mono ?_
  rintro e w9 ⟨Ak, nk, ck, rfl, hown, rd, t⟩
  rw [H4.out] at rd hown
  have hnk : ks.length = nk := hown.len
  have R := Lib.hid rd
  have X := Lib.hid (X.out.touch t (by omega))
  have Z := Lib.hid (Z.out.touch t (by omega))
  have P := Lib.hid (P.out.touch t (fun j hj e => by have := (World.ownsRow.lt P.out j hj).1; omega))
  have K := Lib.hid hown
  have B9 := Lib.hid (B8.out.trans (t.below (by omega) (fun k hk h => by omega)))
  have s9 := B9.out.size
  clear rd t hown
  obtain ⟨w10, hw10⟩ : ∃ w10, w9.setCell ⟨m, 2, none⟩ (.slice Ak nk ck) = w10 := ⟨_, rfl⟩
  have t10 : Touch (fun k => k = m) w9 w10 := by rw [← hw10]; exact touch_set w9 m 2 _ rfl
  have z10 : Box w10 m 35 #[.int .i64 kd, .slice Ap np cp, .slice Ak nk ck, .string (strOfNums vs)] := by rw [← hw10]; exact Z.out.set_ 2 _
  have q2 := Z.out.cell 2
  have f2 := Z.out.free 2
  simp at q2
  have Z := Lib.hid z10
  have R := Lib.hid (R.out.touch t10 (by omega) (fun k hk e => by omega))
  have X := Lib.hid (X.out.touch t10 (by omega))
  have P := Lib.hid (P.out.touch t10 (fun j hj e => by have := (World.ownsRow.lt P.out j hj).1; omega))
  have K := Lib.hid (K.out.touch t10 (fun j hj e => by have := (World.ownsRow.lt K.out j hj).1; omega))
  have B10 := Lib.hid (B9.out.trans (t10.below (by omega) (fun k hk h => by omega)))
  have hv : Hid (OwnN w10 (m + 1) (.agg #[.int .i64 kd, .slice Ap np cp, .slice Ak nk ck, .string (strOfNums vs)]) ⟨kd, ps, ks, strOfNums vs⟩) :=
    ⟨Ap, np, cp, Ak, nk, ck, rfl, by omega, by omega, by rw [strOfNums_size]; omega, P.out, K.out.base (by omega), fun j hj e => by have := PL.out j hj; have := (World.ownsRow.lt K.out j e).1; omega⟩
  have hlen : kd = kd := rfl
  clear t10 z10 PL P K s4 s5 s6 s7 s8
  obtain ⟨Al, nl, cl, sh, hx, _, _, _, yl, hsh, _⟩ := R.out
  have g0 := hx.cell 0
  have g1 := hx.cell 1
  simp at g0 g1
  have hnl := yl.1
  have lz := Z.out.lt
  have lx := X.out.lt
  have hrz : ¬ r0 = m := by omega
  clear hx yl hlen
  rcases st4 with _ | ys
  · obtain rfl : sh = true := hsh
    have x0 := X.out.cell 0
    have x1 := X.out.cell 1
    have x2 := X.out.cell 2
    have x3 := X.out.cell 3
    simp at x0 x1 x2 x3
    have fx := X.out.free
    go_wp2
    obtain ⟨hX, hb⟩ := set4 X.out (.int .i64 0) (.slice none 0 0) (.slice none 0 0) (.string { data := #[] })
    refine bodyPost_ret (v := .tuple #[node0V, .bool false]) (results_box2 Try.results65 _ _ r0 _ _ _ _ rfl rfl hX Try.underlying35 rfl (by kernel_rfl)) rfl ?_
    refine ⟨_, node0, false, rfl, node0_own _ _, rNode_none (by rw [HN.out]; simp), ?_⟩
    rw [hr0]
    exact B10.out.trans (hb.below (by have := B10.out.size; omega) (fun k hk h => by omega))
  · obtain rfl : sh = false := hsh
    by_cases hys : ys = []
    · subst hys
      obtain rfl : nl = 0 := hnl.symm
      have z0 := Z.out.cell 0
      have z1 := Z.out.cell 1
      have z2 := Z.out.cell 2
      have z3 := Z.out.cell 3
      simp at z0 z1 z2 z3
      go_wp2_with fail
      refine (progNodeOk_any _ _ _ w10 (Nat.le_refl _) hv.out.node).mono ?_
      rintro e w11 ⟨rfl, b11⟩
      have V := Lib.hid (hv.out.below b11)
      have X := Lib.hid (X.out.below b11 lx)
      have Z := Lib.hid (Z.out.below b11 lz)
      have s10 := B10.out.size
      have B11 := Lib.hid (B10.out.trans (b11.mono (by omega)))
      have s11 := B11.out.size
      clear z0 z1 z2 z3 b11 hw10 q2 f2 g0 g1
      have z0 := Z.out.cell 0
      have z1 := Z.out.cell 1
      have z2 := Z.out.cell 2
      have z3 := Z.out.cell 3
      simp at z0 z1 z2 z3
      have x0 := X.out.cell 0
      have x1 := X.out.cell 1
      have x2 := X.out.cell 2
      have x3 := X.out.cell 3
      simp at x0 x1 x2 x3
      have fx := X.out.free
      by_cases hok : nodeOk ⟨kd, ps, ks, strOfNums vs⟩ = true
      · rw [hok]
        go_wp2_with fail
        obtain ⟨hX, hb⟩ := set4 X.out (.int .i64 kd) (.slice Ap np cp) (.slice Ak nk ck) (.string (strOfNums vs))
        refine bodyPost_ret (v := .tuple #[.agg #[.int .i64 kd, .slice Ap np cp, .slice Ak nk ck, .string (strOfNums vs)], .bool true]) (results_box2 Try.results65 _ _ r0 _ _ _ _ rfl rfl hX Try.underlying35 rfl (by kernel_rfl)) rfl ?_
        have hyes := rNode_back HBS.out (by rw [HN.out]) (by rw [HN.out]; exact hok)
        rw [HN.out] at hyes
        rw [hr0]
        exact ⟨_, _, true, rfl, (V.out.touch hb (fun g hg h => by have := (V.out.blk hg).1; omega)).base (by omega), hyes, B11.out.trans (hb.below (by omega) (fun k hk h => by omega))⟩
      · have hok' : nodeOk ⟨kd, ps, ks, strOfNums vs⟩ = false := by simpa using hok
        rw [hok']
        go_wp2_with fail
        obtain ⟨hX, hb⟩ := set4 X.out (.int .i64 0) (.slice none 0 0) (.slice none 0 0) (.string { data := #[] })
        refine bodyPost_ret (v := .tuple #[node0V, .bool false]) (results_box2 Try.results65 _ _ r0 _ _ _ _ rfl rfl hX Try.underlying35 rfl (by kernel_rfl)) rfl ?_
        rw [hr0]
        exact ⟨_, node0, false, rfl, node0_own _ _, rNode_none (by rw [HN.out]; simp [hok']), B11.out.trans (hb.below (by omega) (fun k hk h => by omega))⟩
    · have hpos : 0 < nl := by
        rcases ys with _ | ⟨y, r⟩
        · exact absurd rfl hys
        · have h0 : (y :: r).length = nl := hnl
          simp at h0; omega
      have hd : decide ((0 : Int) < (nl : Int)) = true := decide_eq_true (by omega)
      have x0 := X.out.cell 0
      have x1 := X.out.cell 1
      have x2 := X.out.cell 2
      have x3 := X.out.cell 3
      simp at x0 x1 x2 x3
      have fx := X.out.free
      go_wp2
      obtain ⟨hX, hb⟩ := set4 X.out (.int .i64 0) (.slice none 0 0) (.slice none 0 0) (.string { data := #[] })
      refine bodyPost_ret (v := .tuple #[node0V, .bool false]) (results_box2 Try.results65 _ _ r0 _ _ _ _ rfl rfl hX Try.underlying35 rfl (by kernel_rfl)) rfl ?_
      refine ⟨_, node0, false, rfl, node0_own _ _, rNode_none (by rw [HN.out]; simp [hys]), ?_⟩
      rw [hr0]
      exact B10.out.trans (hb.below (by have := B10.out.size; omega) (fun k hk h => by omega))
end Go.Proofs.Ytmgjpmlemkkalaa

-- NodesOf: What the program makes of cells: its list of nodes.
namespace Go.Proofs.Ytmgjpmlemkkalaa
set_option maxRecDepth 100000
set_option linter.unusedVariables false
set_option linter.unusedSimpArgs false
open Go.RowKit

theorem NV.use_blk {x : NV} {g : Nat} (h : x.use g) : NodeBlk x.v g := by
  obtain ⟨Ap, np, cp, Ak, nk, ck, nd⟩ := x
  rcases h with ⟨_, a, ha, e⟩ | ⟨_, a, ha, e⟩
  · exact ⟨_, Ap, np, cp, Ak, nk, ck, _, rfl, .inl (by simp only at ha; rw [ha, ← e]; rfl)⟩
  · exact ⟨_, Ap, np, cp, Ak, nk, ck, _, rfl, .inr (by simp only at ha; rw [ha, ← e]; rfl)⟩
/-- the list of nodes is that of the cells, each node in memory of the call's own. -/
structure NodesIs (w : World) (lo : Nat) (R : SR) (ps : List (Int × NV)) (cs : List (Int × List Int)) : Prop where
  sl : SLN w lo R ps
  len : ps.length = cs.length
  at_ : ∀ i, i < ps.length → (ps[i]?.getD (0, nv0)).1 = (cel cs i).1 ∧ NodeRead (cel cs i).2 (ps[i]?.getD (0, nv0)).2.nd true
  own : ∀ y ∈ ps, OwnN w lo y.2.v y.2.nd
  blk : ∀ y ∈ ps, ∀ g, NodeBlk y.2.v g → ¬ R.at_ g
theorem NodesIs.below {w w' : World} {lo : Nat} {R : SR} {ps : List (Int × NV)} {cs : List (Int × List Int)} (h : NodesIs w lo R ps cs) (hb : Below w.heap.size w w') : NodesIs w' lo R ps cs :=
  ⟨h.sl.below hb, h.len, h.at_, fun y hy => (h.own y hy).below hb, h.blk⟩
theorem NodesIs.touch {S : Nat → Prop} {w w' : World} {lo : Nat} {R : SR} {ps : List (Int × NV)} {cs : List (Int × List Int)} (h : NodesIs w lo R ps cs) (t : Touch S w w') (h1 : ∀ g, R.at_ g → ¬ S g) (h2 : ∀ y ∈ ps, ∀ g, NodeBlk y.2.v g → ¬ S g) : NodesIs w' lo R ps cs :=
  ⟨h.sl.touch t h1 (fun y hy g hg => h2 y hy g (NV.use_blk hg)), h.len, h.at_, fun y hy => (h.own y hy).touch t (h2 y hy), h.blk⟩
theorem SLN.not_at {w : World} {lo g : Nat} {R : SR} {ps : List (Int × NV)} {t : TypeId} {cs : Array Value} (h : SLN w lo R ps) (hb : Box w g t cs) (h1 : t ≠ 2) (h2 : t ≠ 35) : ¬ R.at_ g := fun e => by
  rcases e with ⟨a, ha, e⟩ | ⟨a, ha, e⟩
  · exact own_box_ne h.keys hb h1 (by rw [ha, ← e]; rfl)
  · exact own_box_ne h.vals hb h2 (by rw [ha, ← e]; rfl)
theorem low_end (l : List Int) (m : Int) (h : ∀ x ∈ l, x < m) : lowI l m = l.length ∧ hitI l m = false := by
  have e : lowI l m = l.length := lowI_at l m l.length (Nat.le_refl _) (fun j hj => by rw [List.getElem?_eq_getElem hj]; exact h _ (List.getElem_mem hj)) (fun hk => absurd hk (Nat.lt_irrefl _))
  exact ⟨e, by unfold hitI; rw [e]; simp⟩
theorem cel_take_at (cs : List (Int × List Int)) (k i : Nat) (h : i < k) : cel (cs.take k) i = cel cs i := by
  unfold cel
  rw [List.getElem?_take, if_pos h]
/-- one more node behind the others. -/
theorem NodesIs.snoc {w w' : World} {lo p : Nat} {R R' : SR} {ps : List (Int × NV)} {cs : List (Int × List Int)} {x : NV} {k : Nat} (h : NodesIs w lo R ps (cs.take k)) (hk : k < cs.length) (hx : OwnN w lo x.v x.nd) (hxb : ∀ g, NodeBlk x.v g → ¬ R.at_ g)
    (hp : ∀ y ∈ ps, ∀ g, NodeBlk y.2.v g → g ≠ p) (hxp : ∀ g, NodeBlk x.v g → g ≠ p) (hr : NodeRead (cel cs k).2 x.nd true)
    (hs : SLN w' lo R' (ps ++ [((cel cs k).1, x)])) (hf : R'.from_ R w.heap.size) (t : Touch (fun g => g = p ∨ R.at_ g) w w') : NodesIs w' lo R' (ps ++ [((cel cs k).1, x)]) (cs.take (k + 1)) := by
  have hl := h.len
  rw [List.length_take] at hl
  have hpl : ps.length = k := by omega
  refine ⟨hs, by simp [hpl]; omega, fun i hi => ?_, fun y hy => ?_, fun y hy g hg e => ?_⟩
  · simp at hi
    rw [cel_take_at cs _ i (by omega)]
    by_cases e : i = k
    · subst e
      rw [← hpl, List.getElem?_append_right (Nat.le_refl _)]
      simp [hpl]
      exact hr
    · have h1 := h.at_ i (by omega)
      rw [cel_take_at cs _ i (by omega)] at h1
      rw [List.getElem?_append_left (by omega)]
      exact h1
  · rcases List.mem_append.1 hy with hy | hy
    · exact (h.own y hy).touch t (fun g hg e => e.elim (hp y hy g hg) (h.blk y hy g hg))
    · simp at hy
      subst hy
      exact hx.touch t (fun g hg e => e.elim (hxp g hg) (hxb g hg))
  · rcases List.mem_append.1 hy with hy | hy
    · rcases hf g e with e | e
      · exact h.blk y hy g hg e
      · have := ((h.own y hy).blk hg).2; omega
    · simp at hy
      subst hy
      rcases hf g e with e | e
      · exact hxb g hg e
      · have := (hx.blk hg).2; omega
/-- the last name that has come; 0 where none has. -/
def lastC (cs : List (Int × List Int)) (k : Nat) : Int := if k = 0 then 0 else (cel cs (k - 1)).1
theorem kvs_rise_lt {w : World} {lo : Nat} {R : SR} {ps : List (Int × NV)} {cs : List (Int × List Int)} {k : Nat} {m : Int} (h : NodesIs w lo R ps (cs.take k)) (hk : k < cs.length) (hm : lastC cs k < m) : ∀ x ∈ kvs ps, x < m := by
  have hl := h.len
  rw [List.length_take] at hl
  have hpl : ps.length = k := by omega
  intro x hx
  obtain ⟨i, hi, rfl⟩ := List.mem_iff_getElem.1 hx
  have hi' : i < ps.length := by simpa [kvs] using hi
  have h1 := riseI_le (kvs ps) h.sl.rise i (k - 1) (by omega) (by rw [kvs_len]; omega)
  have h2 := h.at_ (k - 1) (by omega)
  rw [cel_take_at cs k (k - 1) (by omega)] at h2
  rw [kvs_at ps (k - 1) (by omega)] at h1
  rw [List.getElem?_eq_getElem (by omega)] at h2
  unfold lastC at hm
  rw [if_neg (by omega)] at hm
  rw [List.getElem?_eq_getElem hi] at h1
  have h3 : (kvs ps)[i] ≤ ps[k - 1].1 := h1
  have h4 : ps[k - 1].1 = (cel cs (k - 1)).1 := h2.1
  omega
theorem not_right_low (cs : List (Int × List Int)) (k : Nat) (hk : k < cs.length) (hle : (cel cs k).1 ≤ lastC cs k) : ¬ Right cs := fun h => by
  have h3 := h.pos k hk
  have h4 := (h.2 k hk).2.2
  unfold lastC at hle
  by_cases h0 : k = 0
  · rw [if_pos h0] at hle; omega
  · rw [if_neg h0] at hle
    have := h4 (by omega)
    omega
/-- a box of two cells, written anew. -/
theorem set2 {w : World} {g : Nat} {t : TypeId} {a b : Value} (h : Box w g t #[a, b]) (a' b' : Value) :
    Box ((w.setCell ⟨g, 0, none⟩ a').setCell ⟨g, 1, none⟩ b') g t #[a', b'] ∧ Touch (fun x => x = g) w ((w.setCell ⟨g, 0, none⟩ a').setCell ⟨g, 1, none⟩ b') :=
  ⟨(h.set_ 0 a').set_ 1 b', (touch_set (S := fun x => x = g) w g 0 a' rfl).trans (touch_set _ g 1 b' rfl)⟩
theorem Box.drewN {w : World} {g : Nat} {t : TypeId} {cs : Array Value} (h : Box w g t cs) (k : Nat) : Box (w.drewN k) g t cs := h
set_option maxHeartbeats 4000000 in
theorem nodesOf_any (A : Option Addr) (n c : Nat) (cs : List (Int × List Int)) (B : Nat) (w : World) (hn : n ≤ 1048576) (hc : n ≤ c) (hA : A = none → c = 0) (hm : ∀ i, (cel cs i).2.length ≤ 1048576) (hB : B ≤ w.heap.size) (hb : Cells w B A n cs) :
    Calls Try.prog 35 #[.slice A n c] w fun e w' => ∃ R ps b, e = .returned (.tuple #[.agg #[R.kv ps.length, R.vv ps.length], .bool b]) ∧ Below w.heap.size w w' ∧
      ((b = true ∧ Right cs ∧ NodesIs w' w.heap.size R ps cs) ∨ (b = false ∧ ¬ Right cs ∧ R = SR0 ∧ ps = [])) := by
  have mixed : Try.prog.follows .mixedOrders = true := by kernel_rfl
  have HB := Lib.hid (hb.more hB)
  have hlen := hb.1
  clear hb
  obtain ⟨w0, hw0⟩ : ∃ w0, (w.alloc (.cells #[.slice none 0 0, .slice none 0 0] 67)).alloc (.cells #[.slice none 0 0, .slice none 0 0] 67) = w0 := ⟨_, rfl⟩
  have x0 : Box w0 w.heap.size 67 #[.slice none 0 0, .slice none 0 0] := hw0 ▸ heap2_0 _ _ _
  have y0 : Box w0 (w.heap.size + 1) 67 #[.slice none 0 0, .slice none 0 0] := hw0 ▸ heap2_1 _ _ _
  have s0 : w0.heap.size = w.heap.size + 2 := hw0 ▸ size2 _ _ _
  have b0 : Below w.heap.size w w0 := hw0 ▸ below2 _ _ _
  have X0 := Lib.hid x0
  have Y0 := Lib.hid y0
  have B0 := Lib.hid b0
  clear x0 y0 b0
  by_cases hbig : 80 < n
  · have q20 := X0.out.cell 0
    have q21 := X0.out.cell 1
    have f20 := X0.out.free
    have y20 := Y0.out.cell 0
    have y21 := Y0.out.cell 1
    simp at q20 q21 y20 y21
    have s2 := set2 X0.out (.slice none 0 0) (.slice none 0 0)
    have S2 := Lib.hid s2
    clear s2
    go_enter Try.func35, Try.ntmps35
    go_wp2
    refine bodyPost_ret (v := .tuple #[.agg #[.slice none 0 0, .slice none 0 0], .bool false]) (results_box2 Try.results35 _ _ w.heap.size _ _ _ _ rfl rfl S2.out.1 Try.underlying67 rfl (by kernel_rfl)) rfl ?_
    exact ⟨SR0, [], false, rfl, B0.out.trans (S2.out.2.below B0.out.size (fun k hk e => by omega)), .inr ⟨rfl, fun h => by have := h.1; omega, rfl, rfl⟩⟩
  · go_enter Try.func35, Try.ntmps35
    go_wp2
    go_loopw [5, 16] (fun la i wr => ∃ (k : Nat) (R : SR) (ps : List (Int × NV)), k ≤ n ∧ i = .int .i64 k ∧ la = .int .i64 (lastC cs k) ∧ NodesIs wr w.heap.size R ps (cs.take k) ∧ Box wr (w.heap.size + 1) 67 #[R.kv ps.length, R.vv ps.length] ∧
      Box wr w.heap.size 67 #[.slice none 0 0, .slice none 0 0] ∧ (∀ y ∈ ps, ∀ g, NodeBlk y.2.v g → w.heap.size + 2 ≤ g) ∧ (∀ i, i < k → CellAt cs i) ∧ Below w.heap.size w wr) (fun _ i _ => n - (intOf i).toNat)
    case atStart =>
      exact ⟨0, SR0, [], Nat.zero_le _, rfl, rfl, ⟨SLN.nil _ _, by simp, fun i hi => by simp at hi, fun y hy => by simp at hy, fun y hy => by simp at hy⟩, Y0.out, X0.out, fun y hy => by simp at hy, fun i hi => by omega, B0.out⟩
    case round =>
      obtain ⟨k, R, ps, hk, rfl, rfl, hnd, hpb, hrb, hnp, hpre, hbel⟩ := hrel
      have hs0 := hbel.size
      have hps : ps.length = k := by have := hnd.len; rw [List.length_take] at this; omega
      have hp1 := hpb.lt
      have ND := Lib.hid hnd
      have PB := Lib.hid hpb
      have RB := Lib.hid hrb
      have NP := Lib.hid hnp
      have PRE := Lib.hid hpre
      have BR := Lib.hid hbel
      clear hnd hpb hrb hnp hpre hbel hw0
      by_cases hlt : k < n
      · obtain ⟨b, off, Ai, ni, ci, rfl, hbB, h0, h1, hci, hAi, hy⟩ := (HB.out.below BR.out).at_ hlt
        obtain ⟨z, hz⟩ : ∃ z, cel cs k = z := ⟨_, rfl⟩
        have hnm := hm k
        rw [hz] at h0 hy hnm
        have HZ := Lib.hid hz
        have hni := hy.1
        have Y := Lib.hid hy
        clear hy hz
        obtain ⟨w1, hw1⟩ : ∃ w1, wr.alloc (.cells #[.int .i64 z.1, .slice Ai ni ci] 59) = w1 := ⟨_, rfl⟩
        have b1 : Below wr.heap.size wr w1 := hw1 ▸ (Below.refl _ _).alloc (Nat.le_refl _) _
        have C1 := Lib.hid (show Box w1 wr.heap.size 59 #[.int .i64 z.1, .slice Ai ni ci] from hw1 ▸ heap_alloc_new _ _)
        have s1 : w1.heap.size = wr.heap.size + 1 := hw1 ▸ by simp
        have B1 := Lib.hid b1
        clear b1
        have c10 := C1.out.cell 0
        have c11 := C1.out.cell 1
        simp at c10 c11
        go_wp2_with fail
        clear c10 c11 hw1
        refine (implNodeFrom_any Ai ni ci z.2 w.heap.size w1 (by omega) hci hAi (by omega) ((Y.out.below (B1.out.mono hs0)))).mono ?_
        rintro e w2 ⟨v, nd, r, rfl, own, rd, b2⟩
        have s2 := b2.size
        have O2 := Lib.hid own
        have RD := Lib.hid rd
        have B2 := Lib.hid b2
        obtain ⟨Ap, np, cp, Ak, nk, ck, rfl, _⟩ := own
        clear rd b2
        obtain ⟨w3, hw3⟩ : ∃ w3, w2.alloc (.cells #[.int .i64 nd.kind, .slice Ap np cp, .slice Ak nk ck, .string nd.val] 35) = w3 := ⟨_, rfl⟩
        have b3 : Below w2.heap.size w2 w3 := hw3 ▸ (Below.refl _ _).alloc (Nat.le_refl _) _
        have N3 := Lib.hid (show Box w3 w2.heap.size 35 #[.int .i64 nd.kind, .slice Ap np cp, .slice Ak nk ck, .string nd.val] from hw3 ▸ heap_alloc_new _ _)
        have s3 : w3.heap.size = w2.heap.size + 1 := hw3 ▸ by simp
        have B03 := Lib.hid (B1.out.trans ((B2.out.trans (b3.mono s2)).mono (by omega)))
        have C3 := Lib.hid ((C1.out.below B2.out (by omega)).below b3 (by omega))
        have O3 := Lib.hid (O2.out.below b3)
        have R3 := Lib.hid (RB.out.below B03.out (by omega))
        have P3 := Lib.hid (PB.out.below B03.out (by omega))
        have D3 := Lib.hid (ND.out.below B03.out)
        have A3 := Lib.hid (BR.out.trans (B03.out.mono hs0))
        have Y3 := Lib.hid (Y.out.below (B03.out.mono hs0))
        clear b3
        have c30 := C3.out.cell 0
        have c31 := C3.out.cell 1
        simp at c30 c31
        obtain ⟨la, hla⟩ : ∃ la, lastC cs k = la := ⟨_, rfl⟩
        have LA := Lib.hid hla
        rw [hla]
        clear hla
        have hNM : ∀ j, Calls Try.prog 66 #[.slice Ai ni ci] (w3.drewN j) fun e w' => e = .returned (.int .i64 (nameOf z.2)) ∧ w' = w3.drewN j :=
          fun j => (name_any Ai ni ci z.2 w.heap.size (w3.drewN j) (by omega) (Y3.out.drewN j)).mono fun e w' h => ⟨h.1, h.2.symm⟩
        have NM := Lib.hid hNM
        clear hNM
        cases r with
        | false =>
          go_wp2
          go_quiet (first | (go_at_call 66; exact Calls.quiet_of_same (NM.out _)))
          clear c30 c31 hw3
          have q20 := R3.out.cell 0
          have q21 := R3.out.cell 1
          have hno : ¬ Right cs := (fun h => absurd ((IsNode.of RD.out).2 (by have h1 := (h.2 k (by omega)).1; rw [HZ.out] at h1; exact h1)) (by simp))
          have HNO := Lib.hid hno
          have q0 := (R3.out.drewN nq).cell 0
          have q1 := (R3.out.drewN nq).cell 1
          have f0 := (R3.out.drewN nq).free
          simp at q0 q1
          have s2 := set2 (R3.out.drewN nq) (.slice none 0 0) (.slice none 0 0)
          have S2 := Lib.hid s2
          clear q20 q21 hno s2
          go_wp2
          refine bodyPost_ret (v := .tuple #[.agg #[.slice none 0 0, .slice none 0 0], .bool false]) (results_box2 Try.results35 _ _ w.heap.size _ _ _ _ rfl rfl S2.out.1 Try.underlying67 rfl (by kernel_rfl)) rfl ?_
          exact ⟨SR0, [], false, rfl, (below_drewN A3.out nq).trans (S2.out.2.below (below_drewN A3.out nq).size (fun k hk e => by omega)), .inr ⟨rfl, HNO.out, rfl, rfl⟩⟩
        | true =>
          by_cases h1 : z.1 = nameOf z.2
          · have hb2 : (z.1 != nameOf z.2) = false := by simp [h1]
            have H1 := Lib.hid h1
            clear h1
            by_cases h2 : z.1 ≤ la
            · have hd2 : decide (z.1 ≤ la) = true := decide_eq_true h2
              go_wp2
              go_quiet (first | (go_at_call 66; exact Calls.quiet_of_same (NM.out _)))
              clear c30 c31 hw3
              have q20 := R3.out.cell 0
              have q21 := R3.out.cell 1
              have hno : ¬ Right cs := (not_right_low cs k (by omega) (by rw [HZ.out, LA.out]; exact h2))
              have HNO := Lib.hid hno
              have q0 := (R3.out.drewN nq).cell 0
              have q1 := (R3.out.drewN nq).cell 1
              have f0 := (R3.out.drewN nq).free
              simp at q0 q1
              have s2 := set2 (R3.out.drewN nq) (.slice none 0 0) (.slice none 0 0)
              have S2 := Lib.hid s2
              clear q20 q21 hno s2
              go_wp2
              refine bodyPost_ret (v := .tuple #[.agg #[.slice none 0 0, .slice none 0 0], .bool false]) (results_box2 Try.results35 _ _ w.heap.size _ _ _ _ rfl rfl S2.out.1 Try.underlying67 rfl (by kernel_rfl)) rfl ?_
              exact ⟨SR0, [], false, rfl, (below_drewN A3.out nq).trans (S2.out.2.below (below_drewN A3.out nq).size (fun k hk e => by omega)), .inr ⟨rfl, HNO.out, rfl, rfl⟩⟩
            · have hd2 : decide (z.1 ≤ la) = false := decide_eq_false h2
              go_wp2
              go_quiet (first | (go_at_call 66; exact Calls.quiet_of_same (NM.out _)))
              clear hw3
              have W3 : ∃ W3, w3.drewN nq = W3 := ⟨_, rfl⟩
              obtain ⟨W3, hW3⟩ := W3
              have b33 : Below w3.heap.size w3 W3 := by rw [← hW3]; exact below_drewN (Below.refl _ _) nq
              have s33 : W3.heap.size = w3.heap.size := by rw [← hW3]; simp
              have C4 := Lib.hid (C3.out.below b33 (by omega))
              have N4 := Lib.hid (N3.out.below b33 (by omega))
              have O4 := Lib.hid (O3.out.below b33)
              have R4 := Lib.hid (R3.out.below b33 (by omega))
              have P4 := Lib.hid (P3.out.below b33 (by omega))
              have D4 := Lib.hid (D3.out.below b33)
              have A4 := Lib.hid (A3.out.trans (b33.mono (by omega)))
              rw [hW3]
              clear hW3 b33 c30 c31
              have c30 := C4.out.cell 0
              have n30 := N4.out.cell 0
              have n31 := N4.out.cell 1
              have n32 := N4.out.cell 2
              have n33 := N4.out.cell 3
              simp at c30 n30 n31 n32 n33
              have hrat : ∀ g, R.at_ g → g < wr.heap.size := fun g hg => (ND.out.sl.lt g hg).2
              have RAT := Lib.hid hrat
              have hblk : ∀ g, NodeBlk (⟨Ap, np, cp, Ak, nk, ck, nd⟩ : NV).v g → wr.heap.size < g := fun g hg => by have := (O2.out.blk hg).1; omega
              have BLK := Lib.hid hblk
              clear hrat hblk
              go_wp2_with fail
              refine (put_any (w.heap.size + 1) w.heap.size R ps z.1 ⟨Ap, np, cp, Ak, nk, ck, nd⟩ W3 P4.out D4.out.sl A4.out.size O4.out.node (fun g hg e => by have h1 := BLK.out g (NV.use_blk hg); have h2 := RAT.out g e; omega)
                (fun g hg => by have h1 := BLK.out g (NV.use_blk hg); omega) (fun y hy g hg => by have h1 := NP.out y hy g (NV.use_blk hg); omega) (by omega)).mono ?_
              have hlow := low_end (kvs ps) z.1 (kvs_rise_lt ND.out (by omega) (by rw [LA.out]; omega))
              rintro e w4 (⟨hh, _, _⟩ | ⟨_, rfl, R', pb, sl, hf, t4⟩)
              · rw [hlow.2] at hh; cases hh
              · rw [hlow.1, kvs_len, insP_end] at sl
                have hs4 := t4.size
                have hnb : ¬ R.at_ w.heap.size := D4.out.sl.not_at R4.out (by decide) (by decide)
                have C5 := Lib.hid (show Box w4 wr.heap.size 59 #[.int .i64 z.1, .slice Ai ni ci] from (t4.block _ (by omega) (fun e => e.elim (fun e => by omega) (fun e => by have := RAT.out _ e; omega))).trans C4.out)
                have R5 := Lib.hid (show Box w4 w.heap.size 67 #[.slice none 0 0, .slice none 0 0] from (t4.block _ (by omega) (fun e => e.elim (fun e => by omega) hnb)).trans R4.out)
                have A5 := Lib.hid (A4.out.trans (t4.below A4.out.size (fun g hg e => e.elim (fun e => by omega) (fun e => by have := (ND.out.sl.lt g e).1; omega))))
                have D5 := NodesIs.snoc (x := ⟨Ap, np, cp, Ak, nk, ck, nd⟩) D4.out (by omega) (O4.out.base (show w.heap.size ≤ w1.heap.size by omega)) (fun g hg e => by have h1 := BLK.out g hg; have h2 := RAT.out g e; omega) (fun y hy g hg => by have h1 := NP.out y hy g hg; omega) (fun g hg => by have h1 := BLK.out g hg; omega)
                  (by rw [HZ.out]; exact RD.out) (by rw [HZ.out]; exact sl) hf t4
                rw [HZ.out] at D5
                have D5 := Lib.hid D5
                have P5 := Lib.hid pb
                clear c30 n30 n31 n32 n33 sl hf t4 pb hlow hnb
                have c50 := C5.out.cell 0
                simp at c50
                go_wp2
                go_roundw
                case rel =>
                  refine ⟨k + 1, R', ps ++ [(z.1, ⟨Ap, np, cp, Ak, nk, ck, nd⟩)], by omega, by go_num, ?_, D5.out, by rw [List.length_append]; exact P5.out, R5.out, fun y hy g hg => ?_, fun i hi => ?_, A5.out⟩
                  · unfold lastC; rw [if_neg (by omega), Nat.add_sub_cancel, HZ.out]
                  · rcases List.mem_append.1 hy with hy | hy
                    · exact NP.out y hy g hg
                    · simp at hy; subst hy
                      have h1 := BLK.out g hg; omega
                  · by_cases e : i = k
                    · subst e
                      refine ⟨by rw [HZ.out]; exact (IsNode.of RD.out).1 (by trivial), by rw [HZ.out]; exact H1.out.symm, fun h0 => ?_⟩
                      have h5 := LA.out
                      unfold lastC at h5
                      rw [if_neg (by omega)] at h5
                      rw [HZ.out, h5]; omega
                    · exact PRE.out i (by omega)
                case measure => simp [intOf]; omega
          · have hb2 : (z.1 != nameOf z.2) = true := by simp [h1]
            go_wp2
            go_quiet (first | (go_at_call 66; exact Calls.quiet_of_same (NM.out _)))
            clear c30 c31 hw3
            have q20 := R3.out.cell 0
            have q21 := R3.out.cell 1
            have hno : ¬ Right cs := (fun h => h1 (by have h3 := (h.2 k (by omega)).2.1; rw [HZ.out] at h3; exact h3.symm))
            have HNO := Lib.hid hno
            have q0 := (R3.out.drewN nq).cell 0
            have q1 := (R3.out.drewN nq).cell 1
            have f0 := (R3.out.drewN nq).free
            simp at q0 q1
            have s2 := set2 (R3.out.drewN nq) (.slice none 0 0) (.slice none 0 0)
            have S2 := Lib.hid s2
            clear q20 q21 hno s2
            go_wp2
            refine bodyPost_ret (v := .tuple #[.agg #[.slice none 0 0, .slice none 0 0], .bool false]) (results_box2 Try.results35 _ _ w.heap.size _ _ _ _ rfl rfl S2.out.1 Try.underlying67 rfl (by kernel_rfl)) rfl ?_
            exact ⟨SR0, [], false, rfl, (below_drewN A3.out nq).trans (S2.out.2.below (below_drewN A3.out nq).size (fun k hk e => by omega)), .inr ⟨rfl, HNO.out, rfl, rfl⟩⟩
      · obtain rfl : k = n := by omega
        rw [List.take_of_length_le (by omega)] at ND
        have p0 := PB.out.cell 0
        have p1 := PB.out.cell 1
        have q0 := RB.out.cell 0
        have q1 := RB.out.cell 1
        have f0 := RB.out.free
        unfold SR.kv at p0
        unfold SR.vv at p1
        rw [hps] at p0 p1
        simp at p0 p1 q0 q1
        have s2 := set2 RB.out (R.kv k) (R.vv k)
        unfold SR.kv SR.vv at s2
        have S2 := Lib.hid s2
        have hnb : ¬ R.at_ w.heap.size := ND.out.sl.not_at RB.out (by decide) (by decide)
        have NB := Lib.hid hnb
        clear s2 hnb
        go_wp2
        refine bodyPost_ret (v := .tuple #[.agg #[.slice R.Ak k R.ck, .slice R.Av k R.cv], .bool true]) (results_box2 Try.results35 _ _ w.heap.size _ _ _ _ rfl rfl S2.out.1 Try.underlying67 rfl (by kernel_rfl)) rfl ?_
        exact ⟨R, ps, true, by rw [hps]; rfl, BR.out.trans (S2.out.2.below hs0 (fun k hk e => by omega)), .inl ⟨rfl, ⟨by omega, fun i hi => PRE.out i (by omega)⟩, ND.out.touch S2.out.2 (fun g hg e => NB.out (e ▸ hg)) (fun y hy g hg e => by have := NP.out y hy g hg; omega)⟩⟩
end Go.Proofs.Ytmgjpmlemkkalaa

-- NodesL: Where a name stands in the list of nodes that is made of cells.
namespace Go.Proofs.Ytmgjpmlemkkalaa
set_option maxRecDepth 100000
set_option linter.unusedVariables false
set_option linter.unusedSimpArgs false
open Go.RowKit

/-- where a name stands in the list, as in the cells. -/
theorem NodesIs.find {w : World} {lo : Nat} {R : SR} {ps : List (Int × NV)} {cs : List (Int × List Int)} (h : NodesIs w lo R ps cs) (hr : Right cs) (m : Int) :
    (hitI (kvs ps) m = true → lowI (kvs ps) m < cs.length ∧ findC cs m = lowI (kvs ps) m) ∧ (hitI (kvs ps) m = false → ¬ findC cs m < cs.length) := by
  have key : ∀ i, i < ps.length → ps[i]?.getD (0, nv0) = (ps[i]?.getD (0, nv0)) := fun _ _ => rfl
  have hk : ∀ i (hi : i < ps.length), ps[i].1 = (cel cs i).1 := fun i hi => by
    have := (h.at_ i hi).1
    rw [List.getElem?_eq_getElem hi] at this
    exact this
  have hl := h.len
  refine ⟨fun ht => ?_, fun ht hf => ?_⟩
  · obtain ⟨hi, he⟩ := hit_parts ps m ht
    refine ⟨by omega, ?_⟩
    have := hr.find (lowI (kvs ps) m) (by omega)
    rw [← hk _ hi, he] at this
    exact this
  · have h1 := findC_is cs m hf
    have h2 := kvs_not ps m h.sl.rise ht
    refine h2 ?_
    rw [← h1, ← hk _ (by omega)]
    exact List.mem_map_of_mem (List.getElem_mem _)
end Go.Proofs.Ytmgjpmlemkkalaa

-- FoundBy: The program's way down a path, by whatever tells the nodes.
namespace Go.Proofs.Ytmgjpmlemkkalaa
set_option maxRecDepth 100000
set_option linter.unusedVariables false
set_option linter.unusedSimpArgs false
open Go.RowKit

theorem OwnN.parts {w : World} {lo : Nat} {nd : MNode} {Ap Ak : Option Addr} {mp dp mk dk : Nat} (h : OwnN w lo (.agg #[.int .i64 nd.kind, .slice Ap mp dp, .slice Ak mk dk, .string nd.val]) nd) : mp ≤ 1048576 ∧ mk ≤ 1048576 ∧ OwnI w lo Ap mp dp nd.path ∧ OwnK w lo Ak mk dk nd.kids := by
  obtain ⟨Ap', np, cp, Ak', nk, ck, ev, h1, h2, h3, h4, h5, _⟩ := h
  cases ev
  exact ⟨h1, h2, h4, h5⟩
theorem below_leaf (x y : Value) (f : Nat) (W : World) : (method (f + 1) 140 (.agg #[x, y]) "loop.example/g00754/impl.below").run Try.prog W = .ok (131, .agg #[x, y]) W := by kernel_rfl
theorem below_stem (x y : Value) (f : Nat) (W : World) : (method (f + 1) 142 (.agg #[x, y]) "loop.example/g00754/impl.below").run Try.prog W = .ok (132, .agg #[x, y]) W := by kernel_rfl
theorem below_fork (x y : Value) (f : Nat) (W : World) : (method (f + 1) 144 (.agg #[x, y]) "loop.example/g00754/impl.below").run Try.prog W = .ok (134, .agg #[x, y]) W := by kernel_rfl
theorem touch_refl (S : Nat → Prop) (w : World) : Touch S w w := ⟨rfl, rfl, rfl, Nat.le_refl _, fun _ _ _ => rfl⟩
/-- the old blocks, but p, are as they were. -/
theorem touch_out {w wr w' : World} {p : Nat} (h : Touch (fun g => g = p) w wr) (h' : Touch (fun g => g = p ∨ w.heap.size ≤ g) wr w') : Touch (fun g => g = p) w w' :=
  ⟨h'.os.trans h.os, h'.tape.trans h.tape, h'.output.trans h.output, Nat.le_trans h.size h'.size, fun k hk hs => (h'.block k (Nat.lt_of_lt_of_le hk h.size) (fun e => by rcases e with e | e; exact hs e; omega)).trans (h.block k hk hs)⟩
theorem touch_more {w wr w' : World} {p B : Nat} (h : Touch (fun g => g = p) w wr) (h' : Below B wr w') (hB : w.heap.size ≤ B) : Touch (fun g => g = p) w w' :=
  touch_out h ⟨h'.os, h'.tape, h'.output, h'.size, fun k hk hs => h'.block k (by rcases Nat.lt_or_ge k B with h | h; exact h; exact absurd (.inr (by omega)) hs)⟩
/-- calls of function K, with block p ahead, tell the node under a name, in cells; I holds of the names that were told, whatever is made beside. -/
structure Tells (cs : List (Int × List Int)) (lo : Nat) (K : FuncId) (p W : Nat) (I : List Int → World → Prop) : Prop where
  keep : ∀ ways w w', I ways w → W ≤ w.heap.size → Below w.heap.size w w' → I ways w'
  call : ∀ ways ri w, I ways w → W ≤ w.heap.size → ways.length ≤ 1048576 → Calls Try.prog K #[.pointer (some ⟨p, 0, none⟩), .int .i64 ri] w fun e w' => ∃ (x : NV) (b : Bool), e = .returned (.tuple #[x.v, .bool b]) ∧ HitIs cs ri x.nd b ∧ (b = true → OwnN w' lo x.v x.nd) ∧ I (if b then ways ++ [ri] else ways) w' ∧ Touch (fun g => g = p ∨ W ≤ g) w w'
/-- where the way is: the old blocks, and what holds of the names that were told. -/
def At (p : Nat) (I : List Int → World → Prop) (ways : List Int) (w w' : World) : Prop := Touch (fun g => g = p) w w' ∧ I ways w'
theorem At.more {cs : List (Int × List Int)} {lo p : Nat} {K : FuncId} {I : List Int → World → Prop} {ways : List Int} {w w' w'' : World} (h : At p I ways w w') (hT : Tells cs lo K p w.heap.size I) (b : Below w'.heap.size w' w'') : At p I ways w w'' :=
  ⟨touch_more h.1 b h.1.size, hT.keep ways w' w'' h.2 h.1.size b⟩
set_option maxHeartbeats 4000000 in
theorem foundBy_any (K : FuncId) (p : Nat) (I : List Int → World → Prop) (cs : List (Int × List Int)) (root : Int) (pb po np cp lo : Nat) (path : List Int) (B : Nat) (w : World) (hK : ∀ args w, (callFunc K args).run Try.prog w = .ok (.enter K args) w) (hnp : np ≤ 1048576) (hcp : np ≤ cp) (hB : B ≤ w.heap.size) (hpb : pb ≠ p) (hT : Tells cs lo K p w.heap.size I) (hI : I [] w) (hp : Ints w B (some ⟨pb, po, none⟩) np path) :
    Calls Try.prog 49 #[.func (.func K) #[.pointer (some ⟨p, 0, none⟩)] #[], .int .i64 root, .slice (some ⟨pb, po, none⟩) np cp] w fun e w' => ∃ v k, e = .returned (.tuple #[.string v, .int .i64 k]) ∧ (∃ f way, DownIs cs f root path v k way ∧ I way w') ∧ Touch (fun g => g = p) w w' := by
  have HT := Lib.hid hT
  have HI := Lib.hid hI
  have HP := Lib.hid (hp.more hB)
  have hlp := hp.1
  have hKK := Lib.hid hK
  have HPB := Lib.hid (show pb < w.heap.size ∨ np = 0 from (Nat.eq_zero_or_pos np).elim .inr fun h => .inl (by obtain ⟨b, off, e, hb, _⟩ := HP.out.2 h; cases e; exact hb))
  clear hT hI hp
  go_enter Try.func49, Try.ntmps49
  by_cases h0 : root = 0
  · subst h0
    go_wp2
    go_ret2
    obtain ⟨f, hf⟩ := DownTo.none (DownTo.start cs 0 path)
    exact ⟨_, _, rfl, ⟨f, _, hf, HI.out⟩, touch_refl _ _⟩
  · have hb0 : (root == 0) = false := by simpa using h0
    go_wp2
    go_loopw [8, 9] (fun r p' wr => ∃ (ri : Int) (qo nq cq : Nat) (ps ways : List Int), r = .int .i64 ri ∧ p' = .slice (some ⟨pb, qo, none⟩) nq cq ∧ ri ≠ 0 ∧ nq ≤ cq ∧ ways.length + nq ≤ np ∧
      Ints wr w.heap.size (some ⟨pb, qo, none⟩) nq ps ∧ DownTo cs root path ri ps ways ∧ Touch (fun g => g = p) w wr ∧ I ways wr) (fun _ p' _ => lenOf p')
    case atStart => exact ⟨root, po, np, cp, path, [], rfl, rfl, h0, hcp, by simp, HP.out, DownTo.start cs root path, touch_refl _ _, HI.out⟩
    case round =>
      obtain ⟨ri, qo, nq, cq, ps, ways, rfl, rfl, hi0, hcq, hbd, hps, hto, htc, hin⟩ := hrel
      have hs0 : w.heap.size ≤ wr.heap.size := htc.size
      have hlq := hps.1
      have PR := Lib.hid hps
      have TO := Lib.hid hto
      have TC := Lib.hid htc
      have IR := Lib.hid hin
      have I0 := Lib.hid hi0
      clear hps hto htc hin hi0 hb0 h0
      go_wp2_with fail
      refine (HT.out.call ways ri wr IR.out hs0 (by omega)).mono ?_
      rintro e w2 ⟨x, b, rfl, hit, own, hin, htc⟩
      have s2 := htc.size
      have HIT := Lib.hid hit
      have OWN := Lib.hid own
      have B2 := Lib.hid (show At p I (if b then ways ++ [ri] else ways) w w2 from ⟨touch_out TC.out htc, hin⟩)
      have P2 := Lib.hid (PR.out.touch htc hs0 (fun h0 a ha e => by cases ha; rcases e with e | e; exact hpb e; rcases HPB.out with h | h; exact absurd h (Nat.not_lt.2 e); omega))
      clear hit own hin htc
      obtain ⟨Ap, mp, dp, Ak, mk, dk, nd⟩ := x
      unfold NV.v
      have HIT := Lib.hid (show HitIs cs ri nd b from HIT.out)
      obtain ⟨w5, hw5⟩ : ∃ w5, w2.alloc (.cells #[.int .i64 0, .slice none 0 0, .slice none 0 0, .string { data := #[] }] 35) = w5 := ⟨_, rfl⟩
      have x5 : Box w5 w2.heap.size 35 _ := hw5 ▸ heap_alloc_new _ _
      have b5 : Below w2.heap.size w2 w5 := hw5 ▸ (Below.refl _ _).alloc (Nat.le_refl _) _
      have q20 := x5.cell 0
      have q21 := x5.cell 1
      have q22 := x5.cell 2
      have q23 := x5.cell 3
      have f2 := x5.free
      simp at q20 q21 q22 q23
      obtain ⟨w6, hw6⟩ : ∃ w6, (((w5.setCell ⟨w2.heap.size, 0, none⟩ (.int .i64 nd.kind)).setCell ⟨w2.heap.size, 1, none⟩ (.slice Ap mp dp)).setCell ⟨w2.heap.size, 2, none⟩ (.slice Ak mk dk)).setCell ⟨w2.heap.size, 3, none⟩ (.string nd.val) = w6 := ⟨_, rfl⟩
      have h4' := set4 x5 (.int .i64 nd.kind) (.slice Ap mp dp) (.slice Ak mk dk) (.string nd.val)
      have t6 : Touch (fun b => b = w2.heap.size) w5 w6 := hw6 ▸ h4'.2
      have x6 : Box w6 w2.heap.size 35 #[.int .i64 nd.kind, .slice Ap mp dp, .slice Ak mk dk, .string nd.val] := hw6 ▸ h4'.1
      have b6 : Below w2.heap.size w2 w6 := b5.trans (t6.below b5.size (fun b hb e => by omega))
      have X6 := Lib.hid x6
      have B6 := Lib.hid (B2.out.more HT.out b6)
      have P6 := Lib.hid (P2.out.below (b6.mono (by omega)))
      have hs6 : w2.heap.size < w6.heap.size := x6.lt
      have OWN := Lib.hid (fun e => (OWN.out e).below b6 : b = true → OwnN w6 lo (.agg #[.int .i64 nd.kind, .slice Ap mp dp, .slice Ak mk dk, .string nd.val]) nd)
      clear x5 b5 h4' t6 x6 b6 B2 P2 PR TC IR
      cases b with
      | false =>
        go_wp2
        go_ret2
        exact ⟨_, _, rfl, by obtain ⟨f, h⟩ := TO.out.lost I0.out HIT.out; exact ⟨f, _, h, B6.out.2⟩, B6.out.1⟩
      | true =>
        have hok := hit_ok HIT.out
        have hkok := (nodeOk_parts nd hok).2.2.2
        have O6 := Lib.hid (OWN.out rfl)
        have q0 := X6.out.cell 0
        have q1 := X6.out.cell 1
        have q2 := X6.out.cell 2
        have q3 := X6.out.cell 3
        simp at q0 q1 q2 q3
        have hkk := (nodeOk_parts nd hok).2.1
        have KKO := Lib.hid hkk
        have KOK := Lib.hid hkok
        clear hkk hkok hok
        by_cases hk1 : nd.kind = 1
        · have HK1 := Lib.hid hk1
          clear hk1
          go_wp2_with fail
          refine (shapeLeaf_any nd Ap Ak mp dp mk dk w6 HK1.out).mono ?_
          rintro e w7 ⟨rfl, b7⟩
          have B7 := Lib.hid (B6.out.more HT.out b7)
          have P7 := Lib.hid (P6.out.below (b7.mono (by omega)))
          have O7 := Lib.hid (O6.out.below b7)
          have s7 := b7.size
          clear b7 B6 P6 O6 X6 OWN q0 q1 q2 q3 q20 q21 q22 q23 f2
          have fm := fun x y f W => below_leaf x y f W
          go_wp2_with fail
          refine (leafBelow_any Ap mp dp nd.val (some ⟨pb, qo, none⟩) nq cq w7).mono ?_
          rintro e w8 ⟨rfl, b8⟩
          have B8 := Lib.hid (B7.out.more HT.out b8)
          have P8 := Lib.hid (P7.out.below (b8.mono (by omega)))
          have O8 := Lib.hid (O7.out.below b8)
          have s8 := b8.size
          clear b8 B7 P7 O7
          go_wp2_with fail
          obtain ⟨hmp, hmk, hpp, hkk⟩ := O8.out.parts
          refine (valueLeaf_any Ap mp dp nd.val nd.path (some ⟨pb, qo, none⟩) nq cq ps w8.heap.size w8 (Nat.le_refl _) hmp (by omega) hpp.ints (P8.out.more (by omega))).mono ?_
          rintro e w9 ⟨rfl, b9⟩
          have B9 := Lib.hid (B8.out.more HT.out b9)
          obtain ⟨V, hV⟩ : ∃ V, (if nd.path = ps then nd.val else noStr) = V := ⟨_, rfl⟩
          rw [hV]
          clear b9 B8 P8 O8 hpp hkk
          by_cases he : V = noStr
          · subst he
            have HST := Lib.hid (leaf_no nd ps HK1.out KOK.out hV)
            clear hV
            unfold noStr
            go_wp2
            go_ret2
            exact ⟨noStr, 1, rfl, by obtain ⟨f, h⟩ := TO.out.stop I0.out HIT.out HST.out; exact ⟨f, _, h, B9.out.2⟩, B9.out.1⟩
          · have HST := Lib.hid (leaf_yes nd ps V HK1.out hV he)
            have hE2 := str_ne V he
            clear hV he
            go_wp2
            go_ret2
            exact ⟨V, 0, rfl, by obtain ⟨f, h⟩ := TO.out.stop I0.out HIT.out HST.out; exact ⟨f, _, h, B9.out.2⟩, B9.out.1⟩
        · by_cases hk2 : nd.kind = 2
          · obtain ⟨hpl, hkl⟩ := stem_parts nd KOK.out hk1 hk2
            have hmk : mk = 1 := O6.out.parts.2.2.2.len.symm.trans hkl
            subst hmk
            have HK1 := Lib.hid hk1
            have HK2 := Lib.hid hk2
            have hz := kid_pos nd KKO.out 0 (by omega)
            obtain ⟨z, hzz⟩ : ∃ z, (nd.kids[0]?.getD (0, 0)).2 = z := ⟨_, rfl⟩
            have ZZ := Lib.hid hzz
            rw [hzz] at hz
            have Z0 := Lib.hid hz
            clear hk1 hk2 hzz hz
            go_wp2_with fail
            refine (shapeStem_any nd Ap Ak mp dp 1 dk z w6 HK1.out HK2.out (by omega) (O6.out.parts.2.2.2.base (Nat.zero_le _)) ZZ.out).mono ?_
            rintro e w7 ⟨rfl, b7⟩
            have B7 := Lib.hid (B6.out.more HT.out b7)
            have P7 := Lib.hid (P6.out.below (b7.mono (by omega)))
            have O7 := Lib.hid (O6.out.below b7)
            have s7 := b7.size
            clear b7 B6 P6 O6 X6 OWN q0 q1 q2 q3 q20 q21 q22 q23 f2
            have fm := fun x y f W => below_stem x y f W
            obtain ⟨hmp, _, hpp, _⟩ := O7.out.parts
            have hpl2 := hpp.len
            go_wp2_with fail
            refine (stemBelow_any Ap mp dp z nd.path pb qo nq cq ps w7.heap.size w.heap.size w7 (Nat.le_refl _) (by omega) hmp (by omega) hcq hpp.ints P7.out).mono ?_
            rintro e w8 ⟨r, A', n', c', b, rfl, hor, b8⟩
            have B8 := Lib.hid (B7.out.more HT.out b8)
            have s8 := b8.size
            clear b8 B7 P7 O7 hpp
            rcases hor with ⟨rfl, hlt⟩ | ⟨rfl, hcm, hle, rfl, rfl, hcc, qo', rfl, hI⟩
            · have HST := Lib.hid (stepAt_stem_no nd ps (by omega))
              go_wp2_with fail
              refine (valueStem_any Ap mp dp z (some ⟨pb, qo, none⟩) nq cq w8).mono ?_
              rintro e w9 ⟨rfl, b9⟩
              have B9 := Lib.hid (B8.out.more HT.out b9)
              clear b9 B8
              unfold noStr
              go_wp2
              go_ret2
              exact ⟨noStr, 1, rfl, by obtain ⟨f, h⟩ := TO.out.stop I0.out HIT.out HST.out; exact ⟨f, _, h, B9.out.2⟩, B9.out.1⟩
            · have HST := Lib.hid (stepAt_stem nd ps HK2.out (by omega))
              have hst : stepAt nd ps = .inr (r, ps.drop mp) := by rw [HST.out, ZZ.out, hpl2]
              have HST := Lib.hid hst
              have HI := Lib.hid hI
              clear hst hI
              go_wp2
              go_roundw
              case rel => exact ⟨r, qo', nq - mp, c', ps.drop mp, ways ++ [ri], rfl, rfl, Z0.out, hcc, by simp; omega, HI.out, TO.out.step I0.out HIT.out HST.out, B8.out.1, B8.out.2⟩
              case measure => simp [lenOf]; omega
          · have hmf := fork_path nd KOK.out hk1 hk2
            have HK1 := Lib.hid hk1
            have HK2 := Lib.hid hk2
            clear hk1 hk2 hmf
            go_wp2_with fail
            refine (shapeFork_any nd Ap Ak mp dp mk dk w6 HK1.out HK2.out).mono ?_
            rintro e w7 ⟨rfl, b7⟩
            have B7 := Lib.hid (B6.out.more HT.out b7)
            have P7 := Lib.hid (P6.out.below (b7.mono (by omega)))
            have O7 := Lib.hid (O6.out.below b7)
            have s7 := b7.size
            clear b7 B6 P6 O6 X6 OWN q0 q1 q2 q3 q20 q21 q22 q23 f2
            have fm := fun x y f W => below_fork x y f W
            obtain ⟨_, hmk, _, hkk⟩ := O7.out.parts
            have hkl := hkk.len
            go_wp2_with fail
            refine (forkBelow_any Ak mk dk nd.val nd.kids pb qo nq cq ps w7.heap.size w.heap.size w7 (Nat.le_refl _) (by omega) hmk (by omega) hcq hkk.kids P7.out).mono ?_
            rintro e w8 ⟨r, A', n', c', b, rfl, hor, b8⟩
            have B8 := Lib.hid (B7.out.more HT.out b8)
            have s8 := b8.size
            clear b8 B7 P7 O7 hkk
            rcases hor with ⟨rfl, hno⟩ | ⟨rfl, hpos, ⟨k, hk, hrk, hrr⟩, rfl, hcc, qo', rfl, hI⟩
            · have NO := Lib.hid hno
              clear hno
              go_wp2_with fail
              refine (valueFork_any Ak mk dk nd.val (some ⟨pb, qo, none⟩) nq cq w8 (by omega)).mono ?_
              rintro e w9 ⟨rfl, b9⟩
              have B9 := Lib.hid (B8.out.more HT.out b9)
              clear b9 B8
              by_cases hq0 : nq = 0
              · rw [if_pos hq0]
                have hps : ps = [] := List.eq_nil_of_length_eq_zero (by omega)
                subst hps
                obtain ⟨V, hV⟩ : ∃ V, nd.val = V := ⟨_, rfl⟩
                rw [hV]
                by_cases he : V = noStr
                · subst he
                  have HST := Lib.hid (fork_no nd HK1.out HK2.out KOK.out hV)
                  clear hV
                  unfold noStr
                  go_wp2
                  go_ret2
                  exact ⟨noStr, 1, rfl, by obtain ⟨f, h⟩ := TO.out.stop I0.out HIT.out HST.out; exact ⟨f, _, h, B9.out.2⟩, B9.out.1⟩
                · have HST := Lib.hid (show stepAt nd [] = .inl (V, 0) by rw [fork_yes nd HK1.out HK2.out KOK.out (by rw [hV]; exact he), hV])
                  have hE2 := str_ne V he
                  clear hV he
                  go_wp2
                  go_ret2
                  exact ⟨V, 0, rfl, by obtain ⟨f, h⟩ := TO.out.stop I0.out HIT.out HST.out; exact ⟨f, _, h, B9.out.2⟩, B9.out.1⟩
              · rw [if_neg hq0]
                have hst := fork_on nd ps HK1.out HK2.out KOK.out (by omega)
                have hz : kidAt nd.kids (ps[0]?.getD 0) = 0 := by
                  rcases NO.out with h | h
                  · rw [h] at hlq; simp at hlq; omega
                  · exact kidAt_none nd.kids _ (fun j hj => h j (by omega))
                rw [hz] at hst
                have HST := Lib.hid hst
                clear hst hz
                unfold noStr
                go_wp2
                go_ret2
                exact ⟨noStr, 1, rfl, by obtain ⟨f, h⟩ := DownTo.none (TO.out.step I0.out HIT.out HST.out); exact ⟨f, _, h, B9.out.2⟩, B9.out.1⟩
            · have hst := fork_on nd ps HK1.out HK2.out KOK.out (by omega)
              rw [hrr] at hst
              have HST := Lib.hid hst
              have hr0 : r ≠ 0 := by rw [hrk]; exact kid_pos nd KKO.out k (by omega)
              have HR0 := Lib.hid hr0
              have HI := Lib.hid hI
              clear hst hI hr0 hrk hrr
              go_wp2
              go_roundw
              case rel => exact ⟨r, qo', nq - 1, c', ps.drop 1, ways ++ [ri], rfl, rfl, HR0.out, hcc, by simp; omega, HI.out, TO.out.step I0.out HIT.out HST.out, B8.out.1, B8.out.2⟩
              case measure => simp [lenOf]; omega
end Go.Proofs.Ytmgjpmlemkkalaa

-- FoundP: The program's Found: for all cells, roots and keys.
namespace Go.Proofs.Ytmgjpmlemkkalaa
set_option maxRecDepth 100000
set_option linter.unusedVariables false
set_option linter.unusedSimpArgs false
open Go.RowKit

theorem Try.enterAt (args : Array Value) (w : World) : (callFunc 50 args).run Try.prog w = .ok (.enter 50 args) w := by kernel_rfl
/-- what the list's method tells, in cells. -/
theorem at_cells {T : TypeId} {zs : Array Value} (p lo : Nat) (R : SR) (ns : List (Int × NV)) (cs : List (Int × List Int)) (m : Int) (w : World) (hr : Right cs) (hx : Box w p T zs) (hz0 : zs[0]? = some (R.kv ns.length)) (hz1 : zs[1]? = some (R.vv ns.length)) (hn : NodesIs w lo R ns cs) :
    Calls Try.prog 50 #[.pointer (some ⟨p, 0, none⟩), .int .i64 m] w fun e w' => ∃ (x : NV) (b : Bool), e = .returned (.tuple #[x.v, .bool b]) ∧ HitIs cs m x.nd b ∧ (b = true → ∃ y ∈ ns, y.2 = x) ∧ Below w.heap.size w w' := by
  refine (at_box p lo R ns m w hx hz0 hz1 hn.sl).mono ?_
  rintro e w2 ⟨x, b, rfl, hat, b2⟩
  have hf := hn.find hr m
  rcases hat with ⟨ht, rfl, hi, he⟩ | ⟨ht, rfl, rfl⟩
  · obtain ⟨hi2, hfe⟩ := hf.1 ht
    refine ⟨x, true, rfl, .inl ⟨by omega, ?_⟩, fun _ => ⟨(m, x), by rw [← he]; exact List.getElem_mem hi, rfl⟩, b2⟩
    have h1 := (hn.at_ _ hi).2
    rw [List.getElem?_eq_getElem hi, he] at h1
    rw [hfe]
    exact h1
  · exact ⟨nv0, false, rfl, .inr ⟨hf.2 ht, rfl, rfl⟩, (fun e => by cases e), b2⟩
theorem tells_at (p lo W : Nat) (R : SR) (ns : List (Int × NV)) (cs : List (Int × List Int)) (hr : Right cs) :
    Tells cs lo 50 p W (fun _ w => Box w p 67 #[R.kv ns.length, R.vv ns.length] ∧ NodesIs w lo R ns cs) :=
  ⟨fun _ w w' h _ b => ⟨h.1.below b h.1.lt, h.2.below b⟩, fun ways ri w h hW _ => (at_cells p lo R ns cs ri w hr h.1 rfl rfl h.2).mono fun e w' ⟨x, b, he, h1, h2, h3⟩ =>
    ⟨x, b, he, h1, (fun hb => by obtain ⟨y, hy, e⟩ := h2 hb; exact e ▸ (h.2.own y hy).below h3), ⟨h.1.below h3 h.1.lt, h.2.below h3⟩, ⟨h3.os, h3.tape, h3.output, h3.size, fun k hk _ => h3.block k hk⟩⟩⟩
set_option maxHeartbeats 1000000 in
theorem implFound_any (A : Option Addr) (n c : Nat) (cs : List (Int × List Int)) (root : Int) (key : ByteArray) (B : Nat) (w : World) (hn : n ≤ 1048576) (hc : n ≤ c) (hA : A = none → c = 0) (hm : ∀ i, (cel cs i).2.length ≤ 1048576) (hk : key.size ≤ 1048576) (hB : B ≤ w.heap.size) (hb : Cells w B A n cs) :
    Calls Try.prog 18 #[.slice A n c, .int .i64 root, .string key] w fun e w' => ∃ v k, e = .returned (.tuple #[.string v, .int .i64 k]) ∧ FoundIs cs root key v k ∧ Below w.heap.size w w' := by
  have HB := Lib.hid hb
  clear hb
  go_enter Try.func18, Try.ntmps18
  go_wp2_with fail
  refine (nodesOf_any A n c cs B w hn hc hA hm hB HB.out).mono ?_
  rintro e w2 ⟨R, ns, b, rfl, b2, hor⟩
  have s2 := b2.size
  have B2 := Lib.hid b2
  clear b2
  obtain ⟨w3, hw3⟩ : ∃ w3, w2.alloc (.cells #[R.kv ns.length, R.vv ns.length] 67) = w3 := ⟨_, rfl⟩
  have b3 : Below w2.heap.size w2 w3 := hw3 ▸ (Below.refl _ _).alloc (Nat.le_refl _) _
  have P3 := Lib.hid (show Box w3 w2.heap.size 67 #[R.kv ns.length, R.vv ns.length] from hw3 ▸ heap_alloc_new _ _)
  have s3 : w3.heap.size = w2.heap.size + 1 := hw3 ▸ by simp
  have B3 := Lib.hid (B2.out.trans (b3.mono s2))
  unfold SR.kv SR.vv at hw3
  unfold SR.kv SR.vv
  rcases hor with ⟨rfl, hR, hnd⟩ | ⟨rfl, hno, hR0, hp0⟩
  · have D3 := Lib.hid (hnd.below b3)
    have RT := Lib.hid hR
    clear hnd hR b3
    go_wp2_with fail
    refine (keyOk_any key w3 hk).mono ?_
    rintro e w4 ⟨rfl, b4⟩
    have s4 := b4.size
    have B4 := Lib.hid (B3.out.trans (b4.mono (by omega)))
    have P4 := Lib.hid (P3.out.below b4 (by omega))
    have D4 := Lib.hid (D3.out.below b4)
    clear b4 B3 P3 D3
    obtain ⟨ik, hik⟩ : ∃ ik, isKey (sb key) = ik := ⟨_, rfl⟩
    rw [hik]
    have IK := Lib.hid hik
    clear hik
    cases ik with
    | false =>
      go_wp2
      go_ret2
      exact ⟨noStr, 3, rfl, .inl ⟨(fun h => by have := h.2.1; rw [IK.out] at this; cases this), rfl, rfl⟩, B4.out⟩
    | true =>
      by_cases hr : root < 0
      · have hd : decide (root < 0) = true := decide_eq_true hr
        have HR := Lib.hid hr
        clear hr
        go_wp2
        go_ret2
        exact ⟨noStr, 3, rfl, .inl ⟨fun h => by have := h.2.2; have := HR.out; omega, rfl, rfl⟩, B4.out⟩
      · have hd : decide (root < 0) = false := decide_eq_false hr
        have HR := Lib.hid hr
        clear hr
        have p40 := P4.out.cell 0
        have p41 := P4.out.cell 1
        unfold SR.kv at p40
        unfold SR.vv at p41
        simp at p40 p41
        have lp4 := P4.out.lt
        have hmf : ∀ (fn : Fn) (first cap : Array Value) (w : World), (Instr.makeFunc fn first cap).run Try.prog w = .ok (.func fn first cap) w := fun _ _ _ _ => rfl
        go_wp2_with fail
        refine (pathOf_any key w4 hk).mono ?_
        rintro e w5 ⟨A5, n5, c5, rfl, o5, b5⟩
        have t5 : w4.heap.size ≤ w5.heap.size := b5.size
        have P5 := Lib.hid (P4.out.below b5 lp4)
        have D5 := Lib.hid (D4.out.below b5)
        have B5 := Lib.hid (B4.out.trans (b5.mono (by omega)))
        obtain ⟨g5, a5, i5, l5, gl5, y5⟩ : ∃ g5, A5 = some ⟨g5, 0, none⟩ ∧ n5 ≤ c5 ∧ n5 ≤ 1048576 ∧ w4.heap.size ≤ g5 ∧ Ints w5 w5.heap.size A5 n5 (pathOf (sb key)) := by
          have hl2 := o5.len
          have h2 : pathOf (sb key) = (sb key).map wd := if_pos IK.out
          have h3 := sb_len key
          rw [h2] at hl2
          have h1 := IK.out
          unfold isKey at h1
          simp at h1 hl2
          obtain ⟨g5, rfl, hg, _⟩ := o5.form (by omega)
          exact ⟨g5, rfl, o5.cap_', by omega, hg, o5.ints⟩
        subst a5
        clear b5 P4 D4 B4 p40 p41
        go_wp2_with fail
        refine (foundBy_any _ _ _ cs root g5 0 n5 c5 w.heap.size (pathOf (sb key)) w5.heap.size w5 Try.enterAt l5 i5 (Nat.le_refl _) (by omega) (tells_at w2.heap.size w.heap.size w5.heap.size R ns cs RT.out) ⟨P5.out, D5.out⟩ y5).mono ?_
        rintro e w6 ⟨v, k, rfl, ⟨f, way, hd6, _⟩, t6⟩
        have B6 : Below w.heap.size w w6 := B5.out.trans (t6.below B5.out.size (fun k hk e => by omega))
        clear t6
        go_wp2
        go_ret2
        exact ⟨v, k, rfl, .inr ⟨⟨RT.out, IK.out, by have := HR.out; omega⟩, ⟨f, way, hd6⟩⟩, B6⟩
  · subst hR0
    subst hp0
    clear b3
    have p30 := P3.out.cell 0
    have p31 := P3.out.cell 1
    have pf := P3.out.free
    unfold SR.kv at p30
    unfold SR.vv at p31
    simp [SR0] at p30 p31
    have hno := Lib.hid hno
    simp only [SR0, List.length_nil] at hw3 ⊢
    go_wp2
    go_ret2
    have s5 := set2 P3.out (.slice none 0 0) (.slice none 0 0)
    exact ⟨noStr, 3, rfl, .inl ⟨fun h => hno.out h.1, rfl, rfl⟩, B3.out.trans (s5.2.below (by omega) (fun k hk e => by omega))⟩
end Go.Proofs.Ytmgjpmlemkkalaa

-- Bss: Slices of slices of bytes: one that reads as a list of texts of bytes; one that the call made and may write into; no statement of the program is proved here.
namespace Go.Proofs.Ytmgjpmlemkkalaa
set_option maxRecDepth 20000
set_option linter.unusedVariables false
set_option linter.unusedSimpArgs false
open Go.RowKit

/-- the i-th of some rows of bytes. -/
def be (bs : List (List Int)) (i : Nat) : List Int := bs[i]?.getD []
theorem be_set (bs : List (List Int)) (k : Nat) (x : List Int) (i : Nat) (hk : k < bs.length) : be (bs.set k x) i = if i = k then x else be bs i := by
  unfold be
  by_cases h : i = k
  · subst h
    rw [if_pos rfl, List.getElem?_set_self hk]; rfl
  · rw [if_neg h, List.getElem?_set_ne (by omega)]
theorem be_append (bs : List (List Int)) (x : List Int) (i : Nat) : be (bs ++ [x]) i = if i = bs.length then x else be bs i := by
  unfold be
  by_cases h : i = bs.length
  · subst h
    simp
  · rw [if_neg h]
    rcases Nat.lt_or_ge i bs.length with h1 | h1
    · rw [List.getElem?_append_left h1]
    · rw [List.getElem?_eq_none (by simp; omega), List.getElem?_eq_none (by omega)]
theorem be_take (bs : List (List Int)) (k : Nat) (h : k < bs.length) : bs.take (k + 1) = bs.take k ++ [be bs k] := by
  unfold be
  rw [List.take_succ_eq_append_getElem h, List.getElem?_eq_getElem h]; rfl

/-- the slice value '.slice A n c' of slices of bytes reads as bs, below block B. -/
def Bss (w : World) (B : Nat) (A : Option Addr) (n : Nat) (bs : List (List Int)) : Prop :=
  bs.length = n ∧ (0 < n → ∃ b off, A = some ⟨b, off, none⟩ ∧ b < B ∧ ∀ i, i < n → ∃ Ai ni ci, w.cell? ⟨b, off + i, none⟩ = some (.slice Ai ni ci) ∧ ni ≤ ci ∧ (Ai = none → ci = 0) ∧ Byts w B Ai ni (be bs i))
section
variable {w w' : World} {B B' n : Nat} {A : Option Addr} {bs : List (List Int)}
theorem Bss.none_ : Bss w B A 0 [] := ⟨rfl, fun h => absurd h (by omega)⟩
theorem Bss.at_ {k : Nat} (h : Bss w B A n bs) (hk : k < n) : ∃ b off Ai ni ci, A = some ⟨b, off, none⟩ ∧ b < B ∧ w.cell? ⟨b, off + k, none⟩ = some (.slice Ai ni ci) ∧ ni ≤ ci ∧ (Ai = none → ci = 0) ∧ Byts w B Ai ni (be bs k) := by
  obtain ⟨b, off, e, hb, hc⟩ := h.2 (by omega)
  obtain ⟨Ai, ni, ci, h1, h2, h3, h4⟩ := hc k hk
  exact ⟨b, off, Ai, ni, ci, e, hb, h1, h2, h3, h4⟩
theorem Bss.keep (h : Bss w B A n bs) (hk : ∀ p : Addr, p.block < B → w'.cell? p = w.cell? p) : Bss w' B A n bs :=
  ⟨h.1, fun hn => by
    obtain ⟨b, off, e, hb, hc⟩ := h.2 hn
    refine ⟨b, off, e, hb, fun i hi => ?_⟩
    obtain ⟨Ai, ni, ci, h1, h2, h3, h4⟩ := hc i hi
    exact ⟨Ai, ni, ci, (hk _ hb).trans h1, h2, h3, h4.keep hk⟩⟩
theorem Bss.more (h : Bss w B A n bs) (hB : B ≤ B') : Bss w B' A n bs :=
  ⟨h.1, fun hn => by
    obtain ⟨b, off, e, hb, hc⟩ := h.2 hn
    refine ⟨b, off, e, by omega, fun i hi => ?_⟩
    obtain ⟨Ai, ni, ci, h1, h2, h3, h4⟩ := hc i hi
    exact ⟨Ai, ni, ci, h1, h2, h3, h4.more hB⟩⟩
theorem Bss.below (h : Bss w B A n bs) (hb : Below B w w') : Bss w' B A n bs := h.keep fun _ hp => hb.cell hp
theorem Bss.drewN (h : Bss w B A n bs) (k : Nat) : Bss (w.drewN k) B A n bs := h.below (below_drewN (Below.refl _ _) k)
theorem Bss.alloc (h : Bss w B A n bs) (hB : B ≤ w.heap.size) (o : Obj) : Bss (w.alloc o) B A n bs := h.keep fun p hp => World.cell?_alloc_lt w o p (by omega)
end

theorem Try.infoBs : (Try.prog.info? 51).map (fun i => (i.zero, i.size, i.bytes)) = some (some (.slice none 0 0), 1, 24) := by kernel_rfl

/-- what stands in a row of slices. -/
def bvs (n : Nat) (sl : Nat → Sub) : List Value := (List.range n).map fun i => (sl i).v
theorem bvs_at (n : Nat) (sl : Nat → Sub) (j : Nat) (h : j < n) : (bvs n sl)[j]? = some (sl j).v := by simp [bvs, h]
theorem bvs_append (n : Nat) (sl : Nat → Sub) (x : Sub) : bvs n sl ++ [x.v] = bvs (n + 1) (fun i => if i = n then x else sl i) := by
  apply List.ext_getElem?
  intro j
  by_cases hj : j < n
  · rw [List.getElem?_append_left (by simp [bvs]; omega), bvs_at _ _ j hj, bvs_at _ _ j (by omega)]
    simp only [show ¬ j = n by omega, if_false]
  · rw [List.getElem?_append_right (by simp [bvs]; omega)]
    have hl2 : (bvs n sl).length = n := by simp [bvs]
    rw [hl2]
    by_cases h0 : j = n
    · subst h0
      rw [bvs_at _ _ _ (by omega)]; simp
    · rw [List.getElem?_eq_none (by simp; omega), List.getElem?_eq_none (by simp [bvs]; omega)]

/-- the slices in a row of n are of the call's own, each in a block of its own, of the blocks from lo to hi, none of them g. -/
structure SubB (w : World) (lo hi : Nat) (g : Option Nat) (n : Nat) (bs : List (List Int)) (sl : Nat → Sub) : Prop where
  mine : ∀ i, i < n → Mine w lo (sl i).A (sl i).n (sl i).c (be bs i)
  apart : ∀ i j, i < n → j < n → i ≠ j → ∀ b, (sl i).v.ownBlock = some b → (sl j).v.ownBlock ≠ some b
  other : ∀ i, i < n → ∀ b, (sl i).v.ownBlock = some b → g ≠ some b
  under : ∀ i, i < n → ∀ b, (sl i).v.ownBlock = some b → b < hi
/-- the slice '.slice A n c' of slices of bytes is of the call's own, with all that it holds, in blocks from lo to hi, and reads as bs. -/
def OwnBs (w : World) (lo hi : Nat) (A : Option Addr) (n c : Nat) (bs : List (List Int)) : Prop :=
  bs.length = n ∧ (∀ b, (Value.slice A n c).ownBlock = some b → b < hi) ∧ ∃ sl, w.ownsRow lo 51 1 (.slice A n c) n (bvs n sl) ∧ SubB w lo hi (Value.slice A n c).ownBlock n bs sl
section
variable {w w' : World} {lo hi hi' n c g : Nat} {A : Option Addr} {bs : List (List Int)}
theorem OwnBs.nil (w : World) (lo hi : Nat) : OwnBs w lo hi none 0 0 [] := ⟨rfl, fun b h => by simp [Value.ownBlock] at h, fun _ => ⟨none, 0, 0, []⟩, World.ownsRow_nil _ _ _ _, fun i h => by omega, fun i j h => by omega, fun i h => by omega, fun i h => by omega⟩
theorem OwnBs.len (h : OwnBs w lo hi A n c bs) : bs.length = n := h.1
theorem OwnBs.touch {S : Nat → Prop} (h : OwnBs w lo hi A n c bs) (t : Touch S w w') (hn : ∀ b, lo ≤ b → b < hi → ¬ S b) : OwnBs w' lo hi A n c bs := by
  obtain ⟨hl, hu, sl, hr, hs⟩ := h
  exact ⟨hl, hu, sl, own_touch hr t (fun b hb => hn b (hr.lt b hb).1 (hu b hb)), fun i hi => (hs.mine i hi).touch t (fun b hb => hn b ((hs.mine i hi).1.lt b hb).1 (hs.under i hi b hb)), hs.apart, hs.other, hs.under⟩
theorem OwnBs.below (h : OwnBs w lo hi A n c bs) (hb : Below hi w w') : OwnBs w' lo hi A n c bs :=
  h.touch (S := fun k => hi ≤ k) ⟨hb.os, hb.tape, hb.output, hb.size, fun k hk hs => hb.block k (by omega)⟩ (fun b _ h1 h2 => by omega)
theorem OwnBs.more (h : OwnBs w lo hi A n c bs) (hh : hi ≤ hi') : OwnBs w lo hi' A n c bs := by
  obtain ⟨hl, hu, sl, hr, hs⟩ := h
  exact ⟨hl, fun b hb => Nat.lt_of_lt_of_le (hu b hb) hh, sl, hr, hs.mine, hs.apart, hs.other, fun i hi b hb => Nat.lt_of_lt_of_le (hs.under i hi b hb) hh⟩
theorem OwnBs.base {lo' : Nat} (h : OwnBs w lo hi A n c bs) (hh : lo' ≤ lo) : OwnBs w lo' hi A n c bs := by
  obtain ⟨hl, hu, sl, hr, hs⟩ := h
  refine ⟨hl, hu, sl, ⟨hr.1, ?_⟩, fun i hi => (hs.mine i hi).base hh, hs.apart, hs.other, hs.under⟩
  rcases hr.2 with h | ⟨g, cap, cur, hv, hg, r⟩
  · exact .inl h
  · exact .inr ⟨g, cap, cur, hv, by omega, r⟩
theorem OwnBs.form (h : OwnBs w lo hi A n c bs) (hn : 0 < n) : ∃ g, A = some ⟨g, 0, none⟩ ∧ lo ≤ g ∧ g < hi ∧ g < w.heap.size := by
  obtain ⟨hl, hu, sl, hr, hs⟩ := h
  obtain ⟨g, cap, hv, h1, h2⟩ := World.ownsRow.form hr hn
  injection hv with hA
  subst hA
  exact ⟨g, rfl, h1, hu g (by simp [Value.ownBlock]), h2⟩
theorem OwnBs.bss (h : OwnBs w lo hi A n c bs) : Bss w hi A n bs := by
  refine ⟨h.1, fun hn => ?_⟩
  obtain ⟨g, rfl, _, h2, _⟩ := h.form hn
  obtain ⟨hl, hu, sl, hr, hs⟩ := h
  refine ⟨g, 0, rfl, h2, fun i hi => ?_⟩
  have m := hs.mine i hi
  refine ⟨(sl i).A, (sl i).n, (sl i).c, ?_, mine_cap m, mine_none m, m.len, m.2, fun hp => ?_⟩
  · rw [Nat.zero_add, World.ownsRow.cellAt hr _ (by omega), bvs_at _ _ _ (by omega)]; rfl
  · obtain ⟨b, off, e, hb, hc⟩ := m.byts.2.2 hp
    refine ⟨b, off, e, ?_, hc⟩
    obtain ⟨g', e', _⟩ := m.form hp
    rw [e] at e'
    cases e'
    exact hs.under i hi b (by unfold Sub.v; rw [e]; simp [Value.ownBlock])
theorem OwnBs.free (h : OwnBs w lo hi (some ⟨g, 0, none⟩) n c bs) (k : Nat) : w.frozen? ⟨g, k, none⟩ = false := by
  obtain ⟨hl, hu, sl, hr, hs⟩ := h
  exact World.ownsRow.frozenAt hr k
/-- other bytes in the k-th slice. -/
theorem OwnBs.inner {k : Nat} (h : OwnBs w lo hi (some ⟨g, 0, none⟩) n c bs) (hk : k < n) :
    ∃ Ai ni ci, w.cell? ⟨g, k, none⟩ = some (.slice Ai ni ci) ∧ Mine w lo Ai ni ci (be bs k) ∧ (∀ b, (Value.slice Ai ni ci).ownBlock = some b → lo ≤ b ∧ b < hi) ∧
      ∀ w' bs', Mine w' lo Ai ni ci bs' → w.grownBy w' (Value.slice Ai ni ci).ownBlock → OwnBs w' lo hi (some ⟨g, 0, none⟩) n c (bs.set k bs') := by
  obtain ⟨hl, hu, sl, hr, hs⟩ := h
  refine ⟨(sl k).A, (sl k).n, (sl k).c, ?_, hs.mine k hk, fun b hb => ⟨((hs.mine k hk).1.lt b hb).1, hs.under k hk b hb⟩, fun w' bs' hm hg => ?_⟩
  · rw [World.ownsRow.cellAt hr _ (by omega), bvs_at _ _ _ (by omega)]; rfl
  · have t := Touch.of_grown hg
    refine ⟨by simp [hl], hu, sl, ?_, ⟨fun i hi1 => ?_, hs.apart, hs.other, hs.under⟩⟩
    · refine own_touch hr t (fun b hb e => ?_)
      have : g = b := by simpa [Value.ownBlock] using hb
      subst this
      exact hs.other k hk g e.symm (by simp [Value.ownBlock])
    · rw [be_set _ _ _ _ (by omega)]
      by_cases h : i = k
      · subst h; rw [if_pos rfl]; exact hm
      · rw [if_neg h]
        exact (hs.mine i hi1).touch t (fun b hb e => hs.apart i k hi1 hk h b hb e.symm)
end
/-- one more slice, made since. -/
theorem OwnBs.pushed {w w' : World} {lo hi hi' n c n' c' g cap : Nat} {A A' : Option Addr} {cs : List (List Int)} {bs : List Int} {sl : Nat → Sub}
    (hl : cs.length = n) (hu : ∀ b, (Value.slice A n c).ownBlock = some b → b < hi) (hs : SubB w lo hi (Value.slice A n c).ownBlock n cs sl) (hx : Mine w lo A' n' c' bs)
    (hxb : ∀ b, (Value.slice A' n' c').ownBlock = some b → hi ≤ b)
    (hr : w'.ownsRow lo 51 1 (.slice (some ⟨g, 0, none⟩) (n + 1) cap) (n + 1) (bvs n sl ++ [.slice A' n' c'])) (hg : w.grownBy w' (Value.slice A n c).ownBlock)
    (hgo : (Value.slice A n c).ownBlock = some g ∨ g = w.heap.size) (hh : hi ≤ w.heap.size) (hi1 : w'.heap.size ≤ hi') : OwnBs w' lo hi' (some ⟨g, 0, none⟩) (n + 1) cap (cs ++ [bs]) := by
  have hsz := hg.size
  have t := Touch.of_grown hg
  refine ⟨by simp [hl], fun b hb => ?_, fun i => if i = n then ⟨A', n', c', bs⟩ else sl i, ?_, ?_⟩
  · have := (World.ownsRow.lt hr b hb).2
    omega
  · rw [← bvs_append n sl ⟨A', n', c', bs⟩]; exact hr
  · have hlt : ∀ i, i < n → ∀ b, (sl i).v.ownBlock = some b → b < w.heap.size := fun i hi b hb => (World.ownsRow.lt (hs.mine i hi).1 b hb).2
    have hxl : ∀ b, (Value.slice A' n' c').ownBlock = some b → b < w.heap.size := fun b hb => (World.ownsRow.lt hx.1 b hb).2
    refine ⟨fun i hi => ?_, fun i j hi hj hij b => ?_, fun i hi b => ?_, fun i hi b => ?_⟩
    · rw [be_append, hl]
      by_cases h : i = n
      · simp only [h, if_true]
        exact hx.touch t (fun b hb e => by have := hxb b hb; have := hu b e.symm; omega)
      · simp only [h, if_false]
        exact (hs.mine i (by omega)).touch t (fun b hb e => hs.other i (by omega) b hb e.symm)
    · by_cases h : i = n
      · have h2 : ¬ j = n := by omega
        simp only [h, h2, if_true, if_false]
        intro e1 e2
        have := hxb b e1
        have := hs.under j (by omega) b e2
        omega
      · by_cases h2 : j = n
        · simp only [h, h2, if_true, if_false]
          intro e1 e2
          have := hxb b e2
          have := hs.under i (by omega) b e1
          omega
        · simp only [h, h2, if_false]
          exact hs.apart i j (by omega) (by omega) hij b
    · have hown : (Value.slice (some (⟨g, 0, none⟩ : Addr)) (n + 1) cap).ownBlock = some g := by simp [Value.ownBlock]
      rw [hown]
      by_cases h : i = n
      · simp only [h, if_true]
        intro e1 e2
        cases e2
        have := hxb _ e1
        have := hxl _ e1
        rcases hgo with e | e
        · have := hu _ e; omega
        · omega
      · simp only [h, if_false]
        intro e1 e2
        cases e2
        rcases hgo with e | e
        · exact hs.other i (by omega) _ e1 e
        · have := hlt i (by omega) _ e1; omega
    · by_cases h : i = n
      · simp only [h, if_true]
        intro e1
        have := hxl b e1
        omega
      · simp only [h, if_false]
        intro e1
        have := hlt i (by omega) b e1
        omega
theorem OwnBs.made0 (w : World) : OwnBs (w.alloc (.cells #[] 51)) w.heap.size (w.heap.size + 1) (some ⟨w.heap.size, 0, none⟩) 0 0 [] := by
  refine ⟨rfl, fun b h => by simp [Value.ownBlock] at h; omega, fun _ => ⟨none, 0, 0, []⟩, ?_, fun i h => by omega, fun i j h => by omega, fun i h => by omega, fun i h => by omega⟩
  exact World.ownsRow_lit w #[] 0 (Nat.le_refl _) (by unfold maxLen; omega) rfl
/-- the call answered with slices of bytes of its own. -/
def GaveBs (w : World) (bs : List (List Int)) (e : Ending) (w' : World) : Prop := ∃ A n c, e = .returned (.slice A n c) ∧ OwnBs w' w.heap.size w'.heap.size A n c bs ∧ Below w.heap.size w w'
end Go.Proofs.Ytmgjpmlemkkalaa
