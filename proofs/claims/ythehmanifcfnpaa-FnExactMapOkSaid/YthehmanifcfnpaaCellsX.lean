/- What the helpers of the exact laws do at slices of cells. -/
import Derived.Test.YthehmanifcfnpaaOpenCells
import Derived.Test.YthehmanifcfnpaaMine
import Derived.Test.YthehmanifcfnpaaNodeX
namespace Go.Proofs.Ythehmanifcfnpaa
set_option maxRecDepth 20000
set_option linter.unusedVariables false
set_option linter.unusedSimpArgs false
open Go.RowKit

/-- the size of some cells, as the laws count it. -/
def szC : List (Int × List Int) → Nat
  | [] => 0
  | c :: r => 1 + c.2.length + szC r
theorem szC_append (a b : List (Int × List Int)) : szC (a ++ b) = szC a + szC b := by
  induction a with
  | nil => simp [szC]
  | cons x r ih => simp [szC, ih]; omega
theorem szC_take (cs : List (Int × List Int)) (k : Nat) (h : k < cs.length) : szC (cs.take (k + 1)) = szC (cs.take k) + 1 + (cel cs k).2.length := by
  rw [cel_take cs k h, szC_append]; simp [szC]; omega
theorem szC_take_le (cs : List (Int × List Int)) (k : Nat) : szC (cs.take k) ≤ szC cs := by
  conv => rhs; rw [← List.take_append_drop k cs, szC_append]
  omega
theorem szC_len (cs : List (Int × List Int)) : cs.length ≤ szC cs := by
  induction cs with
  | nil => simp
  | cons x r ih => simp [szC]; omega
theorem szC_cel (cs : List (Int × List Int)) (k : Nat) (h : k < cs.length) : 1 + (cel cs k).2.length ≤ szC cs := by
  have h1 := szC_take cs k h
  have h2 := szC_take_le cs (k + 1)
  omega

/-- the cells as the marks from k0 on leave them. -/
def markC (k0 : Int) : List (Int × List Int) → List (Int × List Int)
  | [] => []
  | c :: r => (k0, marks (k0 + 1) c.2.length) :: markC (k0 + 1 + c.2.length) r
theorem markC_append (k0 : Int) (a b : List (Int × List Int)) : markC k0 (a ++ b) = markC k0 a ++ markC (k0 + szC a) b := by
  induction a generalizing k0 with
  | nil => simp [markC, szC]
  | cons x r ih =>
    have e : k0 + 1 + (x.2.length : Int) + (szC r : Int) = k0 + ((1 + x.2.length + szC r : Nat) : Int) := by push_cast; omega
    simp only [List.cons_append, markC, ih, szC, e]
theorem markC_len (k0 : Int) (cs : List (Int × List Int)) : (markC k0 cs).length = cs.length := by
  induction cs generalizing k0 with
  | nil => rfl
  | cons x r ih => simp [markC, ih]
theorem markC_sz (k0 : Int) (cs : List (Int × List Int)) : szC (markC k0 cs) = szC cs := by
  induction cs generalizing k0 with
  | nil => rfl
  | cons x r ih => simp [markC, szC, ih, marks_len]
theorem markC_cel (k0 : Int) (cs : List (Int × List Int)) (k : Nat) (h : k < cs.length) : cel (markC k0 cs) k = (k0 + szC (cs.take k), marks (k0 + szC (cs.take k) + 1) (cel cs k).2.length) := by
  have e : cs = cs.take k ++ cel cs k :: cs.drop (k + 1) := by
    conv => lhs; rw [← List.take_append_drop k cs, List.drop_eq_getElem_cons h]
    unfold cel; rw [List.getElem?_eq_getElem h]; rfl
  have hl : (markC k0 (cs.take k)).length = k := by rw [markC_len]; simp; omega
  conv => lhs; unfold cel; rw [e, markC_append]
  rw [List.getElem?_append_right (by omega), hl]
  simp [markC]
/-- the cells, marked as far as the k-th. -/
def markTo (k0 : Int) (cs : List (Int × List Int)) (k : Nat) : List (Int × List Int) := markC k0 (cs.take k) ++ cs.drop k
theorem markTo_len (k0 : Int) (cs : List (Int × List Int)) (k : Nat) : (markTo k0 cs k).length = cs.length := by
  unfold markTo; rw [List.length_append, markC_len]; simp; omega
theorem markTo_cel (k0 : Int) (cs : List (Int × List Int)) (k : Nat) (h : k < cs.length) : cel (markTo k0 cs k) k = cel cs k := by
  unfold markTo cel
  have hl : (markC k0 (cs.take k)).length = k := by rw [markC_len]; simp; omega
  rw [List.getElem?_append_right (by omega), hl]
  simp
theorem markTo_step (k0 : Int) (cs : List (Int × List Int)) (k : Nat) (h : k < cs.length) : (markTo k0 cs k).set k (k0 + szC (cs.take k), marks (k0 + szC (cs.take k) + 1) (cel cs k).2.length) = markTo k0 cs (k + 1) := by
  unfold markTo
  have hl : (markC k0 (cs.take k)).length = k := by rw [markC_len]; simp; omega
  have hc : cs[k] = cel cs k := by unfold cel; rw [List.getElem?_eq_getElem h]; rfl
  rw [cel_take cs k h, markC_append, List.set_append, if_neg (by omega), hl, List.drop_eq_getElem_cons h, Nat.sub_self, List.set_cons_zero, List.append_assoc]
  rfl
theorem markTo_all (k0 : Int) (cs : List (Int × List Int)) : markTo k0 cs cs.length = markC k0 cs := by
  unfold markTo; simp

theorem szCell_any (m : Int) (A : Option Addr) (n c left : Nat) (w : World) (hn : n ≤ maxLen) (hl : left ≤ 1048576) :
    Calls Try.prog 25 #[.agg #[.int .i64 m, .slice A n c], .int .i64 left] w fun e w' => e = .returned (.int .i64 (if n ≤ left then ((left - n : Nat) : Int) else -1)) ∧ Below w.heap.size w w' := by
  unfold maxLen at hn
  have b0 := Lib.hid ((Below.refl w.heap.size w).alloc (Nat.le_refl _) (.cells #[.int .i64 m, .slice A n c] 49))
  have szb : ∀ W : World, Calls Try.prog 40 #[.slice A n c, .int .i64 left] W fun e w' => e = .returned (.int .i64 (if n ≤ left then ((left - n : Nat) : Int) else -1)) ∧ W = w' := by
    intro W
    by_cases h : n ≤ left
    · rw [if_pos h]
      go_enter Try.func40, Try.ntmps40
      go_wp2
      go_ret
      exact ⟨ret_i64 (by omega), rfl⟩
    · rw [if_neg h]
      go_enter Try.func40, Try.ntmps40
      go_wp2
      go_ret
      exact ⟨rfl, rfl⟩
  have SZ := Lib.hid szb
  clear szb
  go_enter Try.func25, Try.ntmps25
  go_wp2_with fail
  refine (SZ.out _).mono ?_
  rintro e w' ⟨rfl, rfl⟩
  by_cases h : n ≤ left
  · rw [if_pos h]
    go_wp2
    go_ret
    exact ⟨rfl, b0.out⟩
  · rw [if_neg h]
    go_wp2
    go_ret
    exact ⟨rfl, b0.out⟩
theorem szCells_any (A : Option Addr) (n c : Nat) (cs : List (Int × List Int)) (w : World) (hn : n ≤ maxLen) (hm : ∀ i, (cel cs i).2.length ≤ maxLen) (hb : Cells w w.heap.size A n cs) :
    Calls Try.prog 10 #[.slice A n c, .int .i64 1048576] w fun e w' => e = .returned (.int .i64 (leftOf 1048576 (szC cs))) ∧ Below w.heap.size w w' := by
  have hlen : cs.length = n := hb.1
  have HB := Lib.hid hb
  clear hb
  unfold maxLen at hn
  by_cases hbig : 1048576 < n
  · have hr : leftOf 1048576 (szC cs) = -1 := if_neg (by have := szC_len cs; omega)
    rw [hr]
    go_enter Try.func10, Try.ntmps10
    go_wp2
    go_ret
    exact ⟨rfl, Below.refl _ _⟩
  · have hle : n ≤ 1048576 := by omega
    have hwr : IntKind.i64.wrap (1048576 - (n : Int)) = ((1048576 - n : Nat) : Int) := by rw [IntKind.wrap_i64]; omega
    have hd : decide ((((1048576 - n : Nat) : Int)) < 0) = false := decide_eq_false (by omega)
    go_enter Try.func10, Try.ntmps10
    go_wp2
    go_loopw [1, 5] (fun l i wr => ∃ k x : Nat, k ≤ n ∧ i = .int .i64 k ∧ l = .int .i64 x ∧ x + n + szC (cs.take k) = 1048576 + k ∧ Below w.heap.size w wr) (fun _ i _ => n - (intOf i).toNat)
    case atStart => exact ⟨0, 1048576 - n, Nat.zero_le _, rfl, by first | rfl | (simp; omega), by simp [szC]; omega, Below.refl _ _⟩
    case round =>
      obtain ⟨k, x, hk, rfl, rfl, hx, hbel⟩ := hrel
      by_cases hlt : k < n
      · obtain ⟨b, off, Ai, ni, ci, rfl, hbB, h0, h1, _, _, hby⟩ := (HB.out.below hbel).at_ hlt
        have hni : (cel cs k).2.length = ni := hby.1
        have hnm := hm k
        have hst := szC_take cs k (by omega)
        have hall := szC_take_le cs (k + 1)
        generalize (cel cs k).1 = m0 at h0
        have BR := Lib.hid hbel
        clear hbel hby
        go_wp2_with fail
        refine (szCell_any _ _ _ _ x _ (by omega) (by omega)).mono ?_
        rintro e w1 ⟨rfl, b1⟩
        have B1 := Lib.hid (BR.out.trans (b1.mono BR.out.size))
        clear b1 h0 h1
        by_cases hq : ni ≤ x
        · rw [if_pos hq]
          have hd2 : decide ((((x - ni : Nat) : Int)) < 0) = false := decide_eq_false (by omega)
          go_wp2
          go_roundw
          case rel => exact ⟨k + 1, x - ni, by omega, by go_num, rfl, by omega, B1.out⟩
          case measure => simp [intOf]; omega
        · rw [if_neg hq]
          go_wp2
          go_ret
          have hle3 : n ≤ k + 1 + szC (cs.drop (k + 1)) := by have := szC_len (cs.drop (k + 1)); simp at this; omega
          have hsum : szC cs = szC (cs.take (k + 1)) + szC (cs.drop (k + 1)) := by rw [← szC_append, List.take_append_drop]
          exact ⟨by rw [show leftOf 1048576 (szC cs) = -1 from if_neg (by omega)]; rfl, B1.out⟩
      · obtain rfl : k = n := by omega
        have hst : cs.take k = cs := List.take_of_length_le (by omega)
        rw [hst] at hx
        go_wp2
        go_ret
        exact ⟨by rw [show leftOf 1048576 (szC cs) = ((1048576 - szC cs : Nat) : Int) from if_pos (by omega)]; exact ret_i64 (by omega), hbel⟩
end Go.Proofs.Ythehmanifcfnpaa
