/- What the helpers of the exact laws do at slices of pairs of texts: counted, copied, compared, marked, held against the marks. -/
import Derived.Test.YthehmanifcfnpaaOpenPrs
import Derived.Test.YthehmanifcfnpaaMText
import Derived.Test.YthehmanifcfnpaaCellsX
import Derived.StillTailTactics
import Derived.Deep.RegionLaw
import Derived.BigRegion
import Derived.Deep.DeepCutAuto
namespace Go.Proofs.Ythehmanifcfnpaa
set_option maxRecDepth 20000
set_option linter.unusedVariables false
set_option linter.unusedSimpArgs false
open Go.RowKit

/-- the size of some pairs, as the laws count it. -/
def szP : List (ByteArray × ByteArray) → Nat
  | [] => 0
  | c :: r => 1 + c.1.size + c.2.size + szP r
theorem szP_append (a b : List (ByteArray × ByteArray)) : szP (a ++ b) = szP a + szP b := by
  induction a with
  | nil => simp [szP]
  | cons x r ih => simp [szP, ih]; omega
theorem szP_take (ps : List (ByteArray × ByteArray)) (k : Nat) (h : k < ps.length) : szP (ps.take (k + 1)) = szP (ps.take k) + 1 + (pe ps k).1.size + (pe ps k).2.size := by
  rw [pe_take ps k h, szP_append]; simp [szP]; omega
theorem szP_take_le (ps : List (ByteArray × ByteArray)) (k : Nat) : szP (ps.take k) ≤ szP ps := by
  conv => rhs; rw [← List.take_append_drop k ps, szP_append]
  omega
theorem szP_len (ps : List (ByteArray × ByteArray)) : ps.length ≤ szP ps := by
  induction ps with
  | nil => simp
  | cons x r ih => simp [szP]; omega
theorem pe_bd (ps : List (ByteArray × ByteArray)) (h : szP ps ≤ 1048576) (i : Nat) : (pe ps i).1.size ≤ 1048576 ∧ (pe ps i).2.size ≤ 1048576 := by
  by_cases hi : i < ps.length
  · have h1 := szP_take ps i hi
    have h2 := szP_take_le ps (i + 1)
    omega
  · have e : pe ps i = (noStr, noStr) := by unfold pe; rw [List.getElem?_eq_none (by omega)]; rfl
    rw [e]; simp [noStr, ByteArray.size]

theorem szPair_any (s t : ByteArray) (left : Nat) (w : World) (hs : s.size ≤ maxLen) (ht : t.size ≤ maxLen) (hl : left ≤ 1048576) :
    Calls Try.prog 18 #[.agg #[.string s, .string t], .int .i64 left] w fun e w' => e = .returned (.int .i64 (if s.size + t.size ≤ left then ((left - (s.size + t.size) : Nat) : Int) else -1)) ∧ Below w.heap.size w w' := by
  unfold maxLen at hs ht
  have b0 := Lib.hid ((Below.refl w.heap.size w).alloc (Nat.le_refl _) (.cells #[.string s, .string t] 41))
  generalize hn : s.size = n at *
  generalize hm : t.size = m at *
  by_cases h1 : n ≤ left
  · have d1 : decide ((left : Int) - (n : Int) < 0) = false := decide_eq_false (by omega)
    by_cases h2 : n + m ≤ left
    · have d2 : decide ((left : Int) - (n : Int) - (m : Int) < 0) = false := decide_eq_false (by omega)
      rw [if_pos h2]
      go_enter Try.func18, Try.ntmps18
      go_wp2
      go_ret
      exact ⟨ret_i64 (by omega), b0.out⟩
    · have d2 : decide ((left : Int) - (n : Int) - (m : Int) < 0) = true := decide_eq_true (by omega)
      rw [if_neg h2]
      go_enter Try.func18, Try.ntmps18
      go_wp2
      go_ret
      exact ⟨rfl, b0.out⟩
  · have d1 : decide ((left : Int) - (n : Int) < 0) = true := decide_eq_true (by omega)
    rw [if_neg (by omega)]
    go_enter Try.func18, Try.ntmps18
    go_wp2
    go_ret
    exact ⟨rfl, b0.out⟩
theorem szPairs_any (A : Option Addr) (n c : Nat) (ps : List (ByteArray × ByteArray)) (w : World) (hn : n ≤ maxLen) (hm : ∀ i, (pe ps i).1.size ≤ maxLen ∧ (pe ps i).2.size ≤ maxLen) (hb : Prs w w.heap.size A n ps) :
    Calls Try.prog 5 #[.slice A n c, .int .i64 1048576] w fun e w' => e = .returned (.int .i64 (leftOf 1048576 (szP ps))) ∧ Below w.heap.size w w' := by
  have hlen : ps.length = n := hb.1
  have HB := Lib.hid hb
  clear hb
  unfold maxLen at hn
  by_cases hbig : 1048576 < n
  · have hr : leftOf 1048576 (szP ps) = -1 := if_neg (by have := szP_len ps; omega)
    rw [hr]
    go_enter Try.func5, Try.ntmps5
    go_wp2
    go_ret
    exact ⟨rfl, Below.refl _ _⟩
  · have hle : n ≤ 1048576 := by omega
    have hwr : IntKind.i64.wrap (1048576 - (n : Int)) = ((1048576 - n : Nat) : Int) := by rw [IntKind.wrap_i64]; omega
    have hd : decide ((((1048576 - n : Nat) : Int)) < 0) = false := decide_eq_false (by omega)
    go_enter Try.func5, Try.ntmps5
    go_wp2
    go_loopw [1, 5] (fun l i wr => ∃ k x : Nat, k ≤ n ∧ i = .int .i64 k ∧ l = .int .i64 x ∧ x + n + szP (ps.take k) = 1048576 + k ∧ Below w.heap.size w wr) (fun _ i _ => n - (intOf i).toNat)
    case atStart => exact ⟨0, 1048576 - n, Nat.zero_le _, rfl, by first | rfl | (simp; omega), by simp [szP]; omega, Below.refl _ _⟩
    case round =>
      obtain ⟨k, x, hk, rfl, rfl, hx, hbel⟩ := hrel
      by_cases hlt : k < n
      · obtain ⟨b, off, rfl, hbB, h0, h1⟩ := (HB.out.below hbel).at_ hlt
        have hnm := hm k
        have hst := szP_take ps k (by omega)
        have hall := szP_take_le ps (k + 1)
        have BR := Lib.hid hbel
        clear hbel
        go_wp2_with fail
        refine (szPair_any _ _ x _ hnm.1 hnm.2 (by omega)).mono ?_
        rintro e w1 ⟨rfl, b1⟩
        have B1 := Lib.hid (BR.out.trans (b1.mono BR.out.size))
        clear b1 h0 h1
        by_cases hq : (pe ps k).1.size + (pe ps k).2.size ≤ x
        · rw [if_pos hq]
          have hd2 : decide ((((x - ((pe ps k).1.size + (pe ps k).2.size) : Nat) : Int)) < 0) = false := decide_eq_false (by omega)
          go_wp2
          go_roundw
          case rel => exact ⟨k + 1, x - ((pe ps k).1.size + (pe ps k).2.size), by omega, by go_num, rfl, by omega, B1.out⟩
          case measure => simp [intOf]; omega
        · rw [if_neg hq]
          go_wp2
          go_ret
          have hle3 : n ≤ k + 1 + szP (ps.drop (k + 1)) := by have := szP_len (ps.drop (k + 1)); simp at this; omega
          have hsum : szP ps = szP (ps.take (k + 1)) + szP (ps.drop (k + 1)) := by rw [← szP_append, List.take_append_drop]
          exact ⟨by rw [show leftOf 1048576 (szP ps) = -1 from if_neg (by omega)]; rfl, B1.out⟩
      · obtain rfl : k = n := by omega
        have hst : ps.take k = ps := List.take_of_length_le (by omega)
        rw [hst] at hx
        go_wp2
        go_ret
        exact ⟨by rw [show leftOf 1048576 (szP ps) = ((1048576 - szP ps : Nat) : Int) from if_pos (by omega)]; exact ret_i64 (by omega), hbel⟩

theorem toPair_any (a m : ByteArray) (w : World) :
    Calls Try.prog 21 #[.agg #[.string a, .string m]] w fun e w' => e = .returned (.agg #[.string a, .string m]) ∧ Below w.heap.size w w' := by
  go_enter Try.func21, Try.ntmps21
  go_wp2
  refine bodyPost_ret (v := .agg #[.string a, .string m]) (by simp [results, Try.results21, go_sem]) rfl ?_
  exact ⟨rfl, (((Below.refl _ _).alloc (Nat.le_refl _) _).alloc (by simp) _).alloc (by simp; omega) _⟩
theorem eqPair_yes (a m : ByteArray) (w : World) :
    Calls Try.prog 24 #[.agg #[.string a, .string m], .agg #[.string a, .string m]] w fun e w' => e = .returned (.bool true) ∧ Below w.heap.size w w' := by
  go_enter Try.func24, Try.ntmps24
  go_wp2
  go_ret
  exact ⟨rfl, ((Below.refl _ _).alloc (Nat.le_refl _) _).alloc (by simp) _⟩

/-- the pairs as far as they are filled. -/
def filledP (ps : List (ByteArray × ByteArray)) (n k : Nat) : List (ByteArray × ByteArray) := ps.take k ++ List.replicate (n - k) (noStr, noStr)
theorem filledP_set (ps : List (ByteArray × ByteArray)) (n k : Nat) (hz : ps.length = n) (hk : k < n) : (filledP ps n k).set k (pe ps k) = filledP ps n (k + 1) := by
  unfold filledP
  obtain ⟨m, hm⟩ : ∃ m, n - k = m + 1 := ⟨n - k - 1, by omega⟩
  have hm' : n - (k + 1) = m := by omega
  have hl : min k ps.length = k := by omega
  rw [hm, hm', pe_take ps k (by omega)]
  simp [List.replicate_succ, hl]
theorem filledP_all (ps : List (ByteArray × ByteArray)) (n : Nat) (hz : ps.length = n) : filledP ps n n = ps := by
  unfold filledP
  rw [List.take_of_length_le (by omega)]; simp
theorem make_pairs (n : Nat) (hn : n ≤ 4398046511104) (W : World) :
    (Instr.makeSlice 25 (.int .i64 (n : Int)) (.int .i64 (n : Int))).run Try.prog W = .ok (.slice (some ⟨W.heap.size, 0, none⟩) n n) (W.alloc (.cells (sv (List.replicate n (noStr, noStr))).toArray 43)) := by
  obtain ⟨i0, hi, hz0, hz1, hz2⟩ := info_parts Try.infoP
  have hr := run_make (P := Try.prog) W 25 43 i0 (.agg #[.string { data := #[] }, .string { data := #[] }]) Try.underlying25 hi hz0 .i64 .i64 n n (by omega) (by omega) (by rw [hz2]; omega) (by omega)
  simp only [Int.toNat_natCast] at hr
  rw [hr, hz1]
  have e : madeCells (Value.agg #[.string { data := #[] }, .string { data := #[] }]).cells (n * 2) = (sv (List.replicate n (noStr, noStr))).toArray := by
    have hs : sv (List.replicate n (noStr, noStr)) = List.replicate (n * 2) (.string { data := #[] }) := by
      clear hr hn
      induction n with
      | zero => rfl
      | succ n ih => rw [List.replicate_succ, sv_cons, ih, show (n + 1) * 2 = n * 2 + 1 + 1 by omega]; rfl
    rw [hs]
    apply Array.ext
    · simp [madeCells]
    · intro i h1 h2
      simp [madeCells, Value.cells]
      rcases Nat.mod_two_eq_zero_or_one i with h | h <;> simp [h]
  rw [e]

theorem copyP_any (A : Option Addr) (n c : Nat) (ps : List (ByteArray × ByteArray)) (B : Nat) (w : World) (hn : n ≤ 4398046511104) (hB : B ≤ w.heap.size) (hb : Prs w B A n ps) :
    Calls Try.prog 7 #[.slice A n c] w (GaveQ w ps) := by
  have HB := Lib.hid hb
  have hlen := hb.1
  clear hb
  have HM := Lib.hid (make_pairs n hn)
  go_enter Try.func7, Try.ntmps7
  have hmk := HM.out
  go_wp2
  clear hmk
  have M0 := Lib.hid (OwnQ.of_alloc w w.heap.size (List.replicate n (noStr, noStr)) n (Nat.le_refl _) (by simp) (by unfold maxLen; omega))
  go_loopw [4] (fun i wr => ∃ k : Nat, k ≤ n ∧ i = .int .i64 k ∧ OwnQ wr w.heap.size (some ⟨w.heap.size, 0, none⟩) n n (filledP ps n k) ∧ Below w.heap.size w wr) (fun i _ => n - (intOf i).toNat)
  case atStart => exact ⟨0, Nat.zero_le _, rfl, by simpa [filledP] using M0.out, (Below.refl _ _).alloc (Nat.le_refl _) _⟩
  case round =>
    obtain ⟨k, hk, rfl, hm, hbel⟩ := hrel
    by_cases hlt : k < n
    · obtain ⟨b, off, rfl, hbB, h0, h1⟩ := (HB.out.below (hbel.mono hB)).at_ hlt
      have hset := filledP_set ps n k hlen hlt
      generalize pe ps k = x at h0 h1 hset
      have HS := Lib.hid hset
      clear hset
      have MR := Lib.hid hm
      have BR := Lib.hid hbel
      clear hm hbel
      go_wp2_with fail
      refine (toPair_any _ _ _).mono ?_
      rintro e w1 ⟨rfl, b1⟩
      have m1 := MR.out.below b1
      have hc0 := m1.cell0 hlt
      have hc1 := m1.cell1 hlt
      have hf0 := m1.free (k * 2)
      have hf1 := m1.free (k * 2 + 1)
      have hs := m1.put k x.1 x.2
      rw [show ((x.1, x.2) : ByteArray × ByteArray) = x by rfl, HS.out] at hs
      have S1 := Lib.hid hs
      have B1 := Lib.hid (BR.out.trans (b1.mono BR.out.size))
      clear hs b1 m1 h0 h1
      go_wp2
      go_roundw
      case rel => exact ⟨k + 1, by omega, by go_num, S1.out.1, B1.out.grown S1.out.2 B1.out.size (fun g h => by cases h; exact Nat.le_refl _)⟩
      case measure => simp [intOf]; omega
    · go_wp2
      go_ret
      obtain rfl : k = n := by omega
      rw [filledP_all ps k hlen] at hm
      exact ⟨_, k, k, rfl, hm, hbel⟩
theorem likeP_yes (A A' : Option Addr) (n c c' : Nat) (ps : List (ByteArray × ByteArray)) (B B' : Nat) (w : World) (hn : n ≤ 8796093022208) (hB : B ≤ w.heap.size) (hB' : B' ≤ w.heap.size) (hb : Prs w B A n ps) (hb' : Prs w B' A' n ps) :
    Calls Try.prog 9 #[.slice A n c, .slice A' n c'] w fun e w' => e = .returned (.bool true) ∧ Below w.heap.size w w' := by
  have HB := Lib.hid (hb.more hB)
  have HB' := Lib.hid (hb'.more hB')
  clear hb hb'
  go_enter Try.func9, Try.ntmps9
  go_wp2
  go_loopw [5] (fun i wr => ∃ k : Nat, k ≤ n ∧ i = .int .i64 k ∧ Below w.heap.size w wr) (fun i _ => n - (intOf i).toNat)
  case atStart => exact ⟨0, Nat.zero_le _, rfl, Below.refl _ _⟩
  case round =>
    obtain ⟨k, hk, rfl, hbel⟩ := hrel
    by_cases hlt : k < n
    · obtain ⟨b, off, rfl, hbB, h0, h1⟩ := (HB.out.below hbel).at_ hlt
      obtain ⟨b', off', rfl, hbB', h0', h1'⟩ := (HB'.out.below hbel).at_ hlt
      generalize pe ps k = x at h0 h1 h0' h1'
      have BR := Lib.hid hbel
      clear hbel
      go_wp2
      go_still_tail 8, (by kernel_rfl)
      change wpList _ _ _ _ _ wr.drew
      have BD := Lib.hid BR.out.drew
      generalize wr.drew = w2 at BD
      clear h0 h1 h0' h1'
      go_wp2_with fail
      refine (eqPair_yes _ _ _).mono ?_
      rintro e w3 ⟨rfl, b3⟩
      have B3 := Lib.hid (BD.out.trans (b3.mono BD.out.size))
      clear b3
      go_wp2
      go_roundw
      case rel => exact ⟨k + 1, by omega, by go_num, B3.out⟩
      case measure => simp [intOf]; omega
    · go_wp2
      go_ret
      exact ⟨rfl, hbel⟩

/-- the marks of pairs from k0 on. -/
def marksP (k0 n : Nat) : List (ByteArray × ByteArray) := (List.range n).map fun (i : Nat) => (mtext (k0 + 2 * i), mtext (k0 + 2 * i + 1))
theorem marksP_len (k0 : Nat) (n : Nat) : (marksP k0 n).length = n := by simp [marksP]
theorem marksP_at (k0 : Nat) (n k : Nat) (h : k < n) : pe (marksP k0 n) k = (mtext (k0 + 2 * k), mtext (k0 + 2 * k + 1)) := by simp [marksP, pe, h]
def markedP (k0 : Nat) (n k : Nat) (ps : List (ByteArray × ByteArray)) : List (ByteArray × ByteArray) := (marksP k0 n).take k ++ ps.drop k
theorem markedP_len (k0 n k : Nat) (ps : List (ByteArray × ByteArray)) (hx : ps.length = n) (hk : k ≤ n) : (markedP k0 n k ps).length = n := by
  unfold markedP; rw [List.length_append, List.length_take, marksP_len, List.length_drop]; omega
theorem markedP_set (k0 : Nat) (n k : Nat) (ps : List (ByteArray × ByteArray)) (hx : ps.length = n) (hk : k < n) : (markedP k0 n k ps).set k (mtext (k0 + 2 * k), mtext (k0 + 2 * k + 1)) = markedP k0 n (k + 1) ps := by
  unfold markedP
  have hl : min k (marksP k0 n).length = k := by have := marksP_len k0 n; omega
  have e : (marksP k0 n).take (k + 1) = (marksP k0 n).take k ++ [(mtext (k0 + 2 * k), mtext (k0 + 2 * k + 1))] := by
    rw [List.take_succ_eq_append_getElem (by rw [marksP_len]; omega)]
    simp [marksP]
  rw [e]
  have hd : ps.drop k = ps[k] :: ps.drop (k + 1) := List.drop_eq_getElem_cons (by omega)
  have hs : (ps.drop k).set 0 (mtext (k0 + 2 * k), mtext (k0 + 2 * k + 1)) = (mtext (k0 + 2 * k), mtext (k0 + 2 * k + 1)) :: ps.drop (k + 1) := by rw [hd]; rfl
  simp [hl, hs]

theorem markP_any (A : Option Addr) (n c base : Nat) (ps : List (ByteArray × ByteArray)) (k0 : Nat) (w : World) (h0 : 0 < k0) (h1 : k0 + 2 * n ≤ 4398046511104) (hm : OwnQ w base A n c ps) :
    Calls Try.prog 16 #[.slice A n c, .int .i64 k0] w fun e w' => e = .returned (.int .i64 ((k0 + 2 * n : Nat) : Int)) ∧ OwnQ w' base A n c (marksP k0 n) ∧ w.grownBy w' (Value.slice A n c).ownBlock := by
  have hx := Lib.hid hm.len
  have HM := Lib.hid hm
  clear hm
  go_enter Try.func16, Try.ntmps16
  go_wp2
  go_loopw [1, 5] (fun q i wr => ∃ k : Nat, k ≤ n ∧ i = .int .i64 k ∧ q = .int .i64 ((k0 + 2 * k : Nat) : Int) ∧ OwnQ wr base A n c (markedP k0 n k ps) ∧ w.grownBy wr (Value.slice A n c).ownBlock) (fun _ i _ => n - (intOf i).toNat)
  case atStart => exact ⟨0, Nat.zero_le _, rfl, by simp, by simpa [markedP] using HM.out, World.grownBy.refl _ _⟩
  case round =>
    obtain ⟨k, hk, rfl, rfl, hmr, hgr⟩ := hrel
    by_cases hlt : k < n
    · obtain ⟨g, rfl, hbg, hlt'⟩ := hmr.form (by omega)
      have hms := markedP_set k0 n k ps hx.out hlt
      have hml := markedP_len k0 n k ps hx.out hk
      have HS := Lib.hid hms
      have HL := Lib.hid hml
      have HG := Lib.hid hgr
      have HR := Lib.hid hmr
      clear hmr hgr hms hml
      have hq2 : k0 + 2 * (k + 1) = k0 + 2 * k + 1 + 1 := by omega
      have HQ := Lib.hid hq2
      clear hq2
      generalize hq : k0 + 2 * k = q at *
      have hqb : q + 1 ≤ 4398046511104 := by omega
      have hq0 : 0 < q := by omega
      clear hq
      go_wp2_with fail
      refine (markText_at _ q _ rfl hq0 (by omega)).mono ?_
      rintro e w1 ⟨rfl, b1⟩
      have r1 := HR.out.below b1
      have hf0 := r1.free (k * 2)
      have hc0 := r1.cell0 hlt
      obtain ⟨o1, g1⟩ := r1.set0 k (mtext q)
      have R1 := Lib.hid o1
      have G1 := Lib.hid (HG.out.trans ((below_grow b1).trans g1))
      clear r1 o1 g1 b1
      go_wp2_with fail
      refine (markText_at _ (q + 1) _ (by omega) (by omega) (by omega)).mono ?_
      rintro e w2 ⟨rfl, b2⟩
      have r2 := R1.out.below b2
      have hf1 := r2.free (k * 2 + 1)
      have hc1 := r2.cell1 hlt
      obtain ⟨o2, g2⟩ := r2.set1 k (mtext (q + 1))
      have R2 := Lib.hid o2
      have G2 := Lib.hid (G1.out.trans ((below_grow b2).trans g2))
      clear r2 o2 g2 b2 hf0 hc0
      go_wp2
      go_roundw
      case rel =>
        refine ⟨k + 1, by omega, by go_num, by rw [HQ.out]; go_num, ?_, G2.out⟩
        have h := R2.out
        rw [List.set_set, pe_set _ _ _ _ (by rw [HL.out]; omega), if_pos rfl] at h
        rw [← HS.out]
        exact h
      case measure => simp [intOf]; omega
    · go_wp2
      go_ret
      have e : k = n := by omega
      subst e
      refine ⟨rfl, ?_, hgr⟩
      have hd : markedP k0 k k ps = marksP k0 k := by
        unfold markedP
        rw [List.take_of_length_le (by have := marksP_len k0 k; omega), List.drop_eq_nil_of_le (by have := hx.out; omega)]; simp
      rw [hd] at hmr
      exact hmr

theorem heldP_yes (A : Option Addr) (n c : Nat) (B : Nat) (k0 : Nat) (w : World) (h0 : 0 < k0) (h1 : k0 + 2 * n ≤ 4398046511104) (hB : B ≤ w.heap.size) (hb : Prs w B A n (marksP k0 n)) :
    Calls Try.prog 17 #[.slice A n c, .int .i64 k0] w fun e w' => e = .returned (.int .i64 ((k0 + 2 * n : Nat) : Int)) ∧ Below w.heap.size w w' := by
  have HB := Lib.hid (hb.more hB)
  clear hb
  go_enter Try.func17, Try.ntmps17
  go_wp2
  go_loopw [1, 5] (fun q i wr => ∃ k : Nat, k ≤ n ∧ i = .int .i64 k ∧ q = .int .i64 ((k0 + 2 * k : Nat) : Int) ∧ Below w.heap.size w wr) (fun _ i _ => n - (intOf i).toNat)
  case atStart => exact ⟨0, Nat.zero_le _, rfl, by simp, Below.refl _ _⟩
  case round =>
    obtain ⟨k, hk, rfl, rfl, hbel⟩ := hrel
    by_cases hlt : k < n
    · obtain ⟨b, off, rfl, hbB, hc0, hc1⟩ := (HB.out.below hbel).at_ hlt
      rw [marksP_at k0 n k hlt] at hc0 hc1
      have BR := Lib.hid hbel
      clear hbel
      have hq2 : k0 + 2 * (k + 1) = k0 + 2 * k + 1 + 1 := by omega
      have HQ := Lib.hid hq2
      clear hq2
      generalize hq : k0 + 2 * k = q at *
      have hqb : q + 1 ≤ 4398046511104 := by omega
      have hq0 : 0 < q := by omega
      clear hq
      have BD := Lib.hid BR.out.drew
      have hsz := BR.out.size
      clear BR
      have hd0 : wr.drew.cell? ⟨b, off + k * 2, none⟩ = some (.string (mtext q)) := hc0
      have hd1 : wr.drew.cell? ⟨b, off + k * 2 + 1, none⟩ = some (.string (mtext (q + 1))) := hc1
      have hszd : w.heap.size ≤ wr.drew.heap.size := hsz
      go_wp2_with fail
      go_region_law (first | (go_simp; refine (markText_at _ q _ rfl hq0 (by omega)).mono ?_; rintro e w1 ⟨rfl, b1⟩; have B1 := Lib.hid (BD.out.trans (b1.mono hszd)); have hc0 := (b1.cell (p := ⟨b, off + k * 2, none⟩) (by show b < _; omega)).trans hd0; have hc1 := (b1.cell (p := ⟨b, off + k * 2 + 1, none⟩) (by show b < _; omega)).trans hd1))
      all_goals
        have hsz1 := B1.out.size
        have BD1 := Lib.hid B1.out.drew
        have he0 : w1.drew.cell? ⟨b, off + k * 2, none⟩ = some (.string (mtext q)) := hc0
        have he1 : w1.drew.cell? ⟨b, off + k * 2 + 1, none⟩ = some (.string (mtext (q + 1))) := hc1
        have hszd1 : w.heap.size ≤ w1.drew.heap.size := hsz1
        clear b1 hd0 hd1
        go_wp2_with fail
        go_region_law (first | (go_simp; refine (markText_at _ (q + 1) _ (by omega) (by omega) (by omega)).mono ?_; rintro e w2 ⟨rfl, b2⟩; have B2 := Lib.hid (BD1.out.trans (b2.mono hszd1)); have hc0 := (b2.cell (p := ⟨b, off + k * 2, none⟩) (by show b < _; omega)).trans he0; have hc1 := (b2.cell (p := ⟨b, off + k * 2 + 1, none⟩) (by show b < _; omega)).trans he1))
      all_goals
        clear b2
        go_wp2
        go_roundw
        case rel => exact ⟨k + 1, by omega, by go_num, by rw [HQ.out]; go_num, B2.out⟩
        case measure => simp [intOf]; omega
    · go_wp2
      go_ret
      obtain rfl : k = n := by omega
      exact ⟨rfl, hbel⟩
theorem markP_one (A : Option Addr) (n c base : Nat) (ps : List (ByteArray × ByteArray)) (w : World) (h1 : n ≤ 1048576) (hm : OwnQ w base A n c ps) :
    Calls Try.prog 16 #[.slice A n c, .int .i64 1] w fun e w' => e = .returned (.int .i64 (1 + 2 * (n : Int))) ∧ OwnQ w' base A n c (marksP 1 n) ∧ w.grownBy w' (Value.slice A n c).ownBlock := by
  have h := markP_any A n c base ps 1 w (by omega) (by omega) hm
  have e : (((1 : Nat) : Int)) = 1 := rfl
  rw [e] at h
  refine h.mono ?_
  rintro e w' ⟨rfl, o, g⟩
  exact ⟨by push_cast; rfl, o, g⟩
theorem heldP_one (A : Option Addr) (n c : Nat) (B : Nat) (w : World) (h1 : n ≤ 1048576) (hB : B ≤ w.heap.size) (hb : Prs w B A n (marksP 1 n)) :
    Calls Try.prog 17 #[.slice A n c, .int .i64 1] w fun e w' => e = .returned (.int .i64 (1 + 2 * (n : Int))) ∧ Below w.heap.size w w' := by
  have h := heldP_yes A n c B 1 w (by omega) (by omega) hB hb
  have e : (((1 : Nat) : Int)) = 1 := rfl
  rw [e] at h
  refine h.mono ?_
  rintro e w' ⟨rfl, b⟩
  exact ⟨by push_cast; rfl, b⟩
end Go.Proofs.Ythehmanifcfnpaa
