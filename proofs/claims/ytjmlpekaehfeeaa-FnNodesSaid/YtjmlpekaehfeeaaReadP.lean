/- The program's reader of the bytes of a node. -/
import Derived.Test.YtjmlpekaehfeeaaReadM
import Derived.Test.YtjmlpekaehfeeaaTouch
import Derived.Test.YtjmlpekaehfeeaaPart
import Derived.Deep.AppendLies
namespace Go.Proofs.Ytjmlpekaehfeeaa
set_option maxRecDepth 20000
set_option linter.unusedSimpArgs false
set_option linter.unusedVariables false
open Go.RowKit

/-- the reader in block g: what is left, below block B; none: it was short. -/
def Rd (w : World) (B g : Nat) (st : Option (List Int)) : Prop :=
  ∃ A n c short, Box w g 82 #[.slice A n c, .bool short] ∧ n ≤ c ∧ n ≤ 1048576 ∧ (A = none → c = 0) ∧ Byts w B A n (st.getD []) ∧ short = st.isNone ∧ (st = none → A = none)
theorem Rd.lt {w : World} {B g : Nat} {st} (h : Rd w B g st) : g < w.heap.size := by
  obtain ⟨A, n, c, s, hx, _⟩ := h
  exact hx.lt
theorem Rd.touch {w w' : World} {B g : Nat} {st} {S : Nat → Prop} (h : Rd w B g st) (t : Touch S w w') (hB : B ≤ g) (hs : ∀ k, k ≤ g → ¬ S k) : Rd w' B g st := by
  have hl := h.lt
  obtain ⟨A, n, c, s, hx, h1, h2, h3, h4, h5⟩ := h
  exact ⟨A, n, c, s, (t.block g hl (hs g (Nat.le_refl _))).trans hx, h1, h2, h3, h4.below (t.below (by omega) (fun k hk => hs k (by omega))), h5⟩
theorem Rd.below {w w' : World} {B g : Nat} {st} (h : Rd w B g st) (b : Below w.heap.size w w') (hB : B ≤ g) : Rd w' B g st :=
  h.touch (Touch.of_below (S := fun _ => False) b) hB (fun _ _ h => h)
theorem Rd.bs {w : World} {B g : Nat} {st} (h : Rd w B g st) : Bs st := by
  obtain ⟨A, n, c, s, _, _, _, _, h4, _⟩ := h
  intro ys e
  subst e
  exact h4.2.1

theorem Byts.take_ {w : World} {B n k : Nat} {A : Option Addr} {ys : List Int} (h : Byts w B A n ys) (hk : k ≤ n) : Byts w B A k (ys.take k) := by
  refine ⟨by have := h.1; simp; omega, fun z hz => h.2.1 z (List.mem_of_mem_take hz), fun hp => ?_⟩
  obtain ⟨b, off, e, hb, hc⟩ := h.2.2 (by omega)
  refine ⟨b, off, e, hb, fun i hi => ?_⟩
  rw [hc i (by omega)]
  simp [hi]
theorem Byts.drop_ {w : World} {B n k : Nat} {A : Option Addr} {ys : List Int} (h : Byts w B A n ys) (hk : k ≤ n) : Byts w B (A.map fun x => x.add k) (n - k) (ys.drop k) := by
  refine ⟨by have := h.1; simp; omega, fun z hz => h.2.1 z (List.mem_of_mem_drop hz), fun hp => ?_⟩
  obtain ⟨b, off, rfl, hb, hc⟩ := h.2.2 (by omega)
  refine ⟨b, off + k, by simp [Addr.add], hb, fun i hi => ?_⟩
  have := hc (k + i) (by omega)
  rw [Nat.add_assoc, this]
  simp
theorem rByt_ok {st} (cnt : Nat) (h : cnt ≤ (st.getD ([] : List Int)).length) : (rByt cnt st).1 = (st.getD []).take cnt ∧ (rByt cnt st).2.getD [] = (st.getD []).drop cnt ∧ (rByt cnt st).2.isNone = st.isNone := by
  rcases st with _ | ys
  · simp [rByt]
  · have h' : cnt ≤ ys.length := h
    simp [rByt, h']
theorem rByt_few {st} (cnt : Nat) (h : (st.getD ([] : List Int)).length < cnt) : rByt cnt st = ([], none) := by
  rcases st with _ | ys
  · simp [rByt]
  · have h' : ¬ cnt ≤ ys.length := by simpa using h
    simp [rByt, h']
theorem none_of_isNone {st : Option (List Int)} (h : st.isNone = true) : st = none := by cases st <;> simp_all

theorem rbytes_any (g cnt B : Nat) (st : Option (List Int)) (w : World) (hB : B ≤ g) (hcn : cnt ≤ 255) (h : Rd w B g st) :
    Calls Try.prog 67 #[.pointer (some ⟨g, 0, none⟩), .int .i64 cnt] w fun e w' => ∃ A n c, e = .returned (.slice A n c) ∧ n ≤ c ∧ Byts w' B A n (rByt cnt st).1 ∧ Rd w' B g (rByt cnt st).2 ∧ Touch (fun k => k = g) w w' ∧ w'.heap.size = w.heap.size := by
  have hg := h.lt
  obtain ⟨A, n, c, short, hx, hc, hn, hA, hb, hs, hst⟩ := h
  have q0 := hx.cell 0
  have q1 := hx.cell 1
  have f0 := hx.free 0
  have f1 := hx.free 1
  simp at q0 q1
  have hlen := hb.1
  have HX := Lib.hid hx
  have HB := Lib.hid hb
  have HA := Lib.hid hA
  have HS := Lib.hid hs
  have HST := Lib.hid hst
  clear hx hb hA hs hst
  by_cases hlt : n < cnt
  · have hd : decide ((n : Int) < (cnt : Int)) = true := decide_eq_true (by omega)
    have hf := Lib.hid (rByt_few (st := st) cnt (by omega))
    go_enter Try.func67, Try.ntmps67
    go_wp2
    go_ret
    rw [hf.out]
    have hx2 := (HX.out.set_ 0 (.slice none 0 0)).set_ 1 (.bool true)
    exact ⟨none, 0, 0, rfl, Nat.le_refl _, Byts.none_, ⟨none, 0, 0, true, by simpa using hx2, Nat.le_refl _, by omega, fun _ => rfl, Byts.none_, rfl, fun _ => rfl⟩, (touch_set (S := fun k => k = g) w g 0 _ rfl).trans (touch_set _ g 1 _ rfl), by simp⟩
  · have hd : decide ((n : Int) < (cnt : Int)) = false := decide_eq_false (by omega)
    have h1 : (cnt : Int) ≤ (c : Int) := by omega
    have h2 : (cnt : Int) ≤ (n : Int) := by omega
    have hok := Lib.hid (rByt_ok (st := st) cnt (by omega))
    have hle : cnt ≤ n := by omega
    go_enter Try.func67, Try.ntmps67
    go_wp2
    · subst h
      obtain rfl : n = c := by omega
      go_ret
      obtain ⟨e1, e2, e3⟩ := hok.out
      have hx2 := HX.out.set_ 0 (.slice A (n - n) 0)
      have t := touch_set (S := fun k => k = g) w g 0 (.slice A (n - n) 0) rfl
      have hb2 : Below B w (w.setCell ⟨g, 0, none⟩ (.slice A (n - n) 0)) := t.below (by omega) (fun k hk e => by omega)
      have hdr : (st.getD []).drop n = [] := List.drop_eq_nil_of_le (by omega)
      refine ⟨A, n, n, rfl, Nat.le_refl _, by rw [e1]; exact (HB.out.take_ (Nat.le_refl _)).below hb2, ⟨A, 0, 0, short, by simpa using hx2, by omega, by omega, fun _ => rfl, by rw [e2, hdr]; exact Byts.empty_at, by rw [e3]; exact HS.out, fun h => HST.out (none_of_isNone (by rw [← e3, h]; rfl))⟩, by simpa using t, by simp⟩
    · go_ret
      obtain ⟨e1, e2, e3⟩ := hok.out
      have hx2 := HX.out.set_ 0 (.slice (A.map fun x => x.add cnt) (n - cnt) (c - cnt))
      have t := touch_set (S := fun k => k = g) w g 0 (.slice (A.map fun x => x.add cnt) (n - cnt) (c - cnt)) rfl
      have hb2 : Below B w (w.setCell ⟨g, 0, none⟩ (.slice (A.map fun x => x.add cnt) (n - cnt) (c - cnt))) := t.below (by omega) (fun k hk e => by omega)
      refine ⟨A, cnt, c, rfl, by omega, by rw [e1]; exact (HB.out.take_ hle).below hb2, ⟨_, n - cnt, c - cnt, short, by simpa using hx2, by omega, by omega, fun h => ?_, by rw [e2]; exact (HB.out.drop_ hle).below hb2, by rw [e3]; exact HS.out, fun h => by rw [HST.out (none_of_isNone (by rw [← e3, h]; rfl))]; rfl⟩, t, by simp⟩
      rcases A with _ | a
      · have := HA.out rfl
        omega
      · cases h

theorem rNum_few {st} (h : (rByt 1 st).2 = none) : rNum st = (0, none) := by
  rcases st with _ | _ | ⟨y, r⟩
  · rfl
  · rfl
  · simp [rByt] at h
theorem rNum_ok {st} (h : ¬ (rByt 1 st).2 = none) : (rByt 1 st).1 = [(rNum st).1] ∧ (rByt 1 st).2 = (rNum st).2 := by
  rcases st with _ | _ | ⟨y, r⟩
  · simp [rByt] at h
  · simp [rByt] at h
  · simp [rByt, rNum]

theorem rnumber_any (g B : Nat) (st : Option (List Int)) (w : World) (hB : B ≤ g) (h : Rd w B g st) :
    Calls Try.prog 65 #[.pointer (some ⟨g, 0, none⟩)] w fun e w' => e = .returned (.int .i64 (rNum st).1) ∧ Rd w' B g (rNum st).2 ∧ Touch (fun k => k = g) w w' ∧ w'.heap.size = w.heap.size := by
  have HR := Lib.hid h
  clear h
  go_enter Try.func65, Try.ntmps65
  go_wp2_with fail
  refine (rbytes_any g 1 B st w hB (by omega) HR.out).mono ?_
  rintro e w1 ⟨A, n, c, rfl, hnc, hb, hrd, ht, hsz⟩
  have HB := Lib.hid hb
  have HD := Lib.hid hrd
  have HT := Lib.hid ht
  obtain ⟨A', n', c', short, hx, _, _, _, _, hsh, _⟩ := hrd
  have q1 := hx.cell 1
  simp at q1
  clear hb ht hx
  by_cases hn : (rByt 1 st).2 = none
  · have e0 := Lib.hid (rNum_few hn)
    rw [hn] at hsh
    subst hsh
    rw [hn] at HD
    go_wp2
    go_ret
    rw [e0.out]
    exact ⟨rfl, HD.out, HT.out, hsz⟩
  · obtain ⟨e1, e2⟩ := rNum_ok hn
    have hsf : short = false := by
      rw [hsh]
      cases h : (rByt 1 st).2 with
      | none => exact absurd h hn
      | some _ => rfl
    subst hsf
    rw [e2] at HD
    have HB2 := HB.out
    rw [e1] at HB2
    obtain rfl : n = 1 := HB2.1.symm
    obtain ⟨b, off, rfl, hbB, hc0⟩ := HB2.at_ (k := 0) (by omega)
    have hr := HB2.range 0
    rw [Nat.add_zero] at hc0
    simp only [List.getElem?_cons_zero, Option.getD_some] at hc0 hr
    generalize hzz : (rNum st).1 = z at hc0 hr e1
    have HZ := Lib.hid hzz
    have hwz : IntKind.i64.wrap z = z := by rw [IntKind.wrap_i64]; omega
    clear e1 e2 hn hsh HB2 hzz
    go_wp2
    go_ret
    exact ⟨by rw [HZ.out]; rfl, HD.out, HT.out, hsz⟩

theorem Touch.grow {S T : Nat → Prop} {w w' w'' : World} (h : Touch S w w') (k : Touch T w' w'') (hT : ∀ k, k < w.heap.size → ¬ T k) : Touch S w w'' :=
  ⟨k.os.trans h.os, k.tape.trans h.tape, k.output.trans h.output, Nat.le_trans h.size k.size, fun i hi hs => (k.block i (Nat.lt_of_lt_of_le hi h.size) (hT i hi)).trans (h.block i hi hs)⟩

set_option maxHeartbeats 800000 in
theorem rpath_any (g B : Nat) (st : Option (List Int)) (w : World) (hB : B ≤ g) (h : Rd w B g st) :
    Calls Try.prog 66 #[.pointer (some ⟨g, 0, none⟩)] w fun e w' => ∃ A n c, e = .returned (.slice A n c) ∧ OwnI w' w.heap.size A n c (rPart st).1 ∧ Rd w' B g (rPart st).2 ∧ Touch (fun k => k = g) w w' := by
  have HR := Lib.hid h
  have hg := h.lt
  have hbs := rNum_bs h.bs
  have hpb := rPart_bs h.bs
  clear h
  obtain ⟨cnt, hcnt⟩ : ∃ cnt : Nat, (rNum st).1 = cnt := ⟨(rNum st).1.toNat, by omega⟩
  have hpart : rPart st = rByt cnt (rNum st).2 := by unfold rPart; rw [hcnt, Int.toNat_natCast]
  obtain ⟨xs, st2, hps⟩ : ∃ xs st2, rPart st = (xs, st2) := ⟨_, _, rfl⟩
  rw [hps] at hpart hpb ⊢
  go_enter Try.func66, Try.ntmps66
  go_wp2_with fail
  refine (rnumber_any g B st w hB HR.out).mono ?_
  rintro e w1 ⟨rfl, hrd, ht, hsz⟩
  have HD := Lib.hid hrd
  have HT := Lib.hid ht
  clear hrd ht
  rw [hcnt]
  go_wp2_with fail
  refine (rbytes_any g cnt B _ w1 hB (by omega) HD.out).mono ?_
  rintro e w2 ⟨A, n, c, rfl, hnc, hb, hrd, ht, hsz2⟩
  rw [← hpart] at hb hrd
  have HB := Lib.hid hb
  have HD := Lib.hid hrd
  have HT := Lib.hid (HT.out.trans ht)
  have hn : n ≤ 255 := by
    have h1 := rByt_len (st := (rNum st).2) cnt
    rw [← hpart] at h1
    have := hb.1
    simp only at h1 this
    omega
  have LN : Hid (xs.length = n) := hb.1
  clear hrd ht hb hpart hps
  obtain ⟨i0, hi, hz0, hz1, hz2⟩ := info_parts Try.infoI
  have HI := Lib.hid hi
  have HZ0 := Lib.hid hz0
  have HZ1 := Lib.hid hz1
  have HZ2 := Lib.hid hz2
  clear hi hz0 hz1 hz2
  go_wp2
  go_loopw [3, 11] (fun p i wr => ∃ k : Nat, ∃ Ap cp, k ≤ n ∧ i = .int .i64 k ∧ p = .slice Ap k cp ∧ OwnI wr w.heap.size Ap k cp (xs.take k) ∧ Rd wr B g st2 ∧ Touch (fun k => k = g) w wr ∧ Byts wr B A n xs) (fun _ i _ => n - (intOf i).toNat)
  case atStart => exact ⟨0, none, 0, Nat.zero_le _, rfl, rfl, OwnI.nil _ _, HD.out, HT.out, HB.out⟩
  case round =>
    obtain ⟨k, Ap, cp, hk, rfl, rfl, hown, hrd, ht, hby⟩ := hrel
    have MR := Lib.hid hown
    have RR := Lib.hid hrd
    have TR := Lib.hid ht
    have YR := Lib.hid hby
    have srw := ht.size
    clear hown hrd ht hby
    by_cases hlt : k < n
    · obtain ⟨b, o, rfl, hbb, hc0⟩ := YR.out.at_ hlt
      have hrr := YR.out.range k
      have hst := take_step xs k (by rw [LN.out]; exact hlt)
      generalize xs[k]?.getD 0 = z at hc0 hrr hst
      have HST := Lib.hid hst
      clear hst
      have hwz : IntKind.i64.wrap z = z := by rw [IntKind.wrap_i64]; omega
      go_wp2_with (at_builtin; refine wpList_append_lies _ rfl _ _ 25 rfl w.heap.size 2 i0 (.int .i64 0) 1 8 Try.underlying25 HI.out HZ0.out HZ1.out HZ2.out rfl (by decide) _ _ _ rfl (MR.out.alloc _) ⟨wr.heap.size, 0, none⟩ 1 1 ([z].map (Value.int .i64)) rfl ?a0 ?a1 ?a2 (by omega) ?a3 ?a4 ?a5 _ rfl ?_)
      case a0 => first | rfl | (simp; done)
      case a1 =>
        intro j u hj
        match j, hj with
        | 0, hj => simp at hj; subst hj; simp [Addr.add]
      case a2 => intro u hu; simp at hu; subst hu; rfl
      case a3 => unfold maxLen; omega
      case a4 => omega
      case a5 => simp; omega
      intro g2 c2 w2 hown2 hgrow2 _ _
      have t2 : Touch (fun j => some j = (Value.slice Ap k cp).ownBlock) wr w2 := (Touch.of_below ((Below.refl _ _).alloc (Nat.le_refl _) _)).trans (Touch.of_grown hgrow2)
      have hge : ∀ j, j < w.heap.size → ¬ some j = (Value.slice Ap k cp).ownBlock := fun j hj e => by have := (World.ownsRow.lt MR.out j e.symm).1; omega
      have R2 := Lib.hid (RR.out.touch t2 hB (fun j hj => hge j (by omega)))
      have Y2 := Lib.hid (YR.out.below (t2.below (by omega) (fun j hj => hge j (by omega))))
      have T2 := Lib.hid (TR.out.grow t2 hge)
      have M2 : OwnI w2 w.heap.size (some ⟨g2, 0, none⟩) (k + 1) c2 (xs.take (k + 1)) := by
        rw [HST.out]
        unfold OwnI
        rw [List.map_append]
        simpa using hown2
      have M2 := Lib.hid M2
      clear t2 hge hown2 hgrow2
      go_wp2
      go_roundw
      case rel => exact ⟨k + 1, _, _, by omega, by go_num, rfl, M2.out, R2.out, T2.out, Y2.out⟩
      case measure => simp [intOf]; omega
    · obtain rfl : k = n := by omega
      have hst : xs.take k = xs := List.take_of_length_le (by rw [LN.out]; exact Nat.le_refl _)
      rw [hst] at MR
      go_wp2
      go_ret
      exact ⟨_, _, _, rfl, MR.out, RR.out, TR.out⟩
end Go.Proofs.Ytjmlpekaehfeeaa
