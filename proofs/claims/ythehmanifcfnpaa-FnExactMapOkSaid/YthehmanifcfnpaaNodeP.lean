/- What the program's ValueOk and NodeOk answer, and their helpers: for every text, every node. -/
import Derived.Test.YthehmanifcfnpaaNodeK
import Derived.Test.YthehmanifcfnpaaPathK
namespace Go.Proofs.Ythehmanifcfnpaa
set_option maxRecDepth 20000
open Go.RowKit

theorem isValueByte_any (c : Int) (w : World) :
    Calls Try.prog 39 #[.int .u8 c] w fun e w' => e = .returned (.bool (okLetter c)) ∧ w' = w := by
  have hcls : (97 ≤ c ∧ c ≤ 122) ∨ (48 ≤ c ∧ c ≤ 57) ∨ c < 48 ∨ (57 < c ∧ c < 97) ∨ 122 < c := by omega
  go_enter Try.func39, Try.ntmps39
  rcases hcls with ⟨h1, h2⟩ | ⟨h1, h2⟩ | h1 | ⟨h1, h2⟩ | h1
  · have d1 : decide ((97 : Int) ≤ c) = true := decide_eq_true (by omega)
    have d2 : decide (c ≤ 122) = true := decide_eq_true (by omega)
    go_wp2
    go_ret
    exact ⟨ret_b (by unfold okLetter; exact (decide_eq_true (by omega)).symm), rfl⟩
  · have d1 : decide ((97 : Int) ≤ c) = false := decide_eq_false (by omega)
    have d3 : decide ((48 : Int) ≤ c) = true := decide_eq_true (by omega)
    have d4 : decide (c ≤ 57) = true := decide_eq_true (by omega)
    go_wp2
    go_ret
    exact ⟨ret_b (by unfold okLetter; exact (decide_eq_true (by omega)).symm), rfl⟩
  · have d1 : decide ((97 : Int) ≤ c) = false := decide_eq_false (by omega)
    have d3 : decide ((48 : Int) ≤ c) = false := decide_eq_false (by omega)
    go_wp2
    go_ret
    exact ⟨ret_b (by unfold okLetter; exact (decide_eq_false (by omega)).symm), rfl⟩
  · have d1 : decide ((97 : Int) ≤ c) = false := decide_eq_false (by omega)
    have d3 : decide ((48 : Int) ≤ c) = true := decide_eq_true (by omega)
    have d4 : decide (c ≤ 57) = false := decide_eq_false (by omega)
    go_wp2
    go_ret
    exact ⟨ret_b (by unfold okLetter; exact (decide_eq_false (by omega)).symm), rfl⟩
  · have d1 : decide ((97 : Int) ≤ c) = true := decide_eq_true (by omega)
    have d2 : decide (c ≤ 122) = false := decide_eq_false (by omega)
    have d3 : decide ((48 : Int) ≤ c) = true := decide_eq_true (by omega)
    have d4 : decide (c ≤ 57) = false := decide_eq_false (by omega)
    go_wp2
    go_ret
    exact ⟨ret_b (by unfold okLetter; exact (decide_eq_false (by omega)).symm), rfl⟩

theorem valOk_size (zs : List Int) (h : zs.length = 0 ∨ 12 < zs.length) : valOk zs = false := by
  unfold valOk
  rw [decide_eq_false (by omega), Bool.false_and]

theorem valueOk_any (s : ByteArray) (w : World) (hs : s.size ≤ 1048576) :
    Calls Try.prog 23 #[.string s] w fun e w' => e = .returned (.bool (valOk (sb s))) ∧ w' = w := by
  have hlen := sb_len s
  go_enter Try.func23, Try.ntmps23
  by_cases h0 : s.size = 0
  · have d1 : decide ((s.size : Int) = 0) = true := decide_eq_true (by omega)
    go_wp2
    go_ret
    exact ⟨by rw [valOk_size (sb s) (by omega)]; rfl, rfl⟩
  · have d1 : decide ((s.size : Int) = 0) = false := decide_eq_false (by omega)
    have d0 : ((s.size : Int) == 0) = false := d1
    by_cases h12 : 12 < s.size
    · have d2 : decide ((12 : Int) < (s.size : Int)) = true := decide_eq_true (by omega)
      go_wp2
      go_ret
      exact ⟨by rw [valOk_size (sb s) (by omega)]; rfl, rfl⟩
    · have d2 : decide ((12 : Int) < (s.size : Int)) = false := decide_eq_false (by omega)
      go_wp2
      go_loop [14] (fun i => ∃ k : Nat, k ≤ s.size ∧ i = .int .i64 k ∧ (∀ z ∈ (sb s).take k, okLetter z = true)) (fun i => s.size - (intOf i).toNat)
      case atStart => exact ⟨0, Nat.zero_le _, rfl, by simp⟩
      case round =>
        obtain ⟨k, hk, rfl, hgood⟩ := hrel
        by_cases hlt : k < s.size
        · have hat := sb_at s k hlt
          have HAT := Lib.hid hat
          clear hat
          by_cases hq : okLetter ((s[k]'hlt).toNat : Int) = true
          · go_wp2_with fail
            refine (isValueByte_any _ _).mono ?_
            rintro e w' ⟨rfl, rfl⟩
            rw [hq]
            go_wp2
            go_round
            case rel => exact ⟨k + 1, by omega, by go_num, letters_step (sb s) k (by omega) hgood (by rw [HAT.out]; exact hq)⟩
            case measure => simp [intOf]; omega
          · have hq : okLetter ((s[k]'hlt).toNat : Int) = false := by simpa using hq
            go_wp2_with fail
            refine (isValueByte_any _ _).mono ?_
            rintro e w' ⟨rfl, rfl⟩
            rw [hq]
            go_wp2
            go_ret
            exact ⟨by rw [valOk_bad (sb s) k (by omega) (by rw [HAT.out]; exact hq)]; rfl, rfl⟩
        · have e : (sb s).take k = sb s := List.take_of_length_le (by omega)
          rw [e] at hgood
          have HG := Lib.hid (valOk_good (sb s) hgood)
          go_wp2
          go_ret
          exact ⟨by rw [HG.out]; exact ret_b (by rw [hlen]; exact (decide_eq_true (by omega)).symm), rfl⟩

/-- where the kid ahead of the k-th stands. -/
def lastAt (ks : List (Int × Int)) (k : Nat) : Int := if k = 0 then -1 else (ks[k - 1]?.getD (0, 0)).1
theorem lastAt_succ (ks : List (Int × Int)) (k : Nat) : lastAt ks (k + 1) = (ks[k]?.getD (0, 0)).1 := by
  unfold lastAt; rw [if_neg (by omega), Nat.add_sub_cancel]
theorem kidAt_of (ks : List (Int × Int)) (k : Nat) (h1 : ¬ (ks[k]?.getD (0, 0)).1 ≤ lastAt ks k) (h2 : 0 ≤ (ks[k]?.getD (0, 0)).1 ∧ (ks[k]?.getD (0, 0)).1 ≤ 15) (h3 : ¬ (ks[k]?.getD (0, 0)).2 ≤ 0) : KidAt ks k := by
  refine ⟨h2, by omega, fun h0 => ?_⟩
  unfold lastAt at h1
  rw [if_neg (by omega)] at h1
  omega
theorem kidAt_not (ks : List (Int × Int)) (k : Nat) (h : (ks[k]?.getD (0, 0)).1 ≤ lastAt ks k ∨ ¬ (0 ≤ (ks[k]?.getD (0, 0)).1 ∧ (ks[k]?.getD (0, 0)).1 ≤ 15) ∨ (ks[k]?.getD (0, 0)).2 ≤ 0) : ¬ KidAt ks k := by
  rintro ⟨h2, h3, h4⟩
  rcases h with h | h | h
  · unfold lastAt at h
    by_cases h0 : k = 0
    · rw [if_pos h0] at h; omega
    · rw [if_neg h0] at h
      have := h4 (by omega)
      omega
  · exact h h2
  · omega

set_option maxHeartbeats 1000000 in
theorem kidsOkP_any (A : Option Addr) (n c : Nat) (ks : List (Int × Int)) (B : Nat) (w : World) (hB : B ≤ w.heap.size) (hn : n ≤ 9223372036854775807) (hb : Kids w B A n ks) :
    Calls Try.prog 86 #[.slice A n c] w fun e w' => e = .returned (.bool (kidsOk ks)) ∧ Below w.heap.size w w' := by
  have HB := Lib.hid (hb.more hB)
  have hlen := hb.1
  clear hb
  go_enter Try.func86, Try.ntmps86
  go_wp2
  go_loopw [3, 8] (fun l i wr => ∃ k : Nat, k ≤ n ∧ i = .int .i64 k ∧ l = .int .i64 (lastAt ks k) ∧ (∀ j, j < k → KidAt ks j) ∧ Below w.heap.size w wr) (fun _ i _ => n - (intOf i).toNat)
  case atStart => exact ⟨0, Nat.zero_le _, rfl, rfl, fun j hj => absurd hj (by omega), Below.refl _ _⟩
  case round =>
    obtain ⟨k, hk, rfl, rfl, hgood, hbel⟩ := hrel
    by_cases hlt : k < n
    · obtain ⟨b, off, rfl, hbB, h0, h1⟩ := (HB.out.below hbel).at_ hlt
      have hls := lastAt_succ ks k
      have hyes := kidAt_of ks k
      have hno := kidAt_not ks k
      generalize ks[k]?.getD (0, 0) = x at h0 h1 hls hyes hno
      generalize lastAt ks k = l at hyes hno ⊢
      have LS := Lib.hid hls
      have HY := Lib.hid hyes
      have HN := Lib.hid hno
      have hsz := hbel.size
      have b1 := Lib.hid (hbel.alloc hsz (.cells #[.int .i64 x.1, .int .i64 x.2] 85))
      clear hls hyes hno hbel
      by_cases hR : x.1 ≤ l
      · have d1 : decide (x.1 ≤ l) = true := decide_eq_true hR
        go_wp2
        go_ret
        exact ⟨by rw [kidsOk_bad ks k (by omega) (HN.out (.inl hR))]; rfl, b1.out⟩
      · have d1 : decide (x.1 ≤ l) = false := decide_eq_false hR
        by_cases hA : 0 ≤ x.1 ∧ x.1 ≤ 15
        · have d2 : decide (0 ≤ x.1 ∧ x.1 ≤ 15) = true := decide_eq_true hA
          by_cases hN : x.2 ≤ 0
          · have d3 : decide (x.2 ≤ 0) = true := decide_eq_true hN
            go_wp2_with fail
            refine (isWorth_any _ _).mono ?_
            rintro e w' ⟨rfl, rfl⟩
            rw [d2]
            go_wp2
            go_ret
            exact ⟨by rw [kidsOk_bad ks k (by omega) (HN.out (.inr (.inr hN)))]; rfl, b1.out⟩
          · have d3 : decide (x.2 ≤ 0) = false := decide_eq_false hN
            go_wp2_with fail
            refine (isWorth_any _ _).mono ?_
            rintro e w' ⟨rfl, rfl⟩
            rw [d2]
            go_wp2
            go_roundw
            case rel =>
              refine ⟨k + 1, by omega, by go_num, by rw [LS.out], fun j hj => ?_, b1.out⟩
              rcases Nat.lt_or_ge j k with h | h
              · exact hgood j h
              · rw [show j = k by omega]
                exact HY.out hR hA hN
            case measure => simp [intOf]; omega
        · have d2 : decide (0 ≤ x.1 ∧ x.1 ≤ 15) = false := decide_eq_false hA
          go_wp2_with fail
          refine (isWorth_any _ _).mono ?_
          rintro e w' ⟨rfl, rfl⟩
          rw [d2]
          go_wp2
          go_ret
          exact ⟨by rw [kidsOk_bad ks k (by omega) (HN.out (.inr (.inl hA)))]; rfl, b1.out⟩
    · go_wp2
      go_ret
      exact ⟨by rw [kidsOk_good ks (fun i hi => hgood i (by omega))]; rfl, hbel⟩
end Go.Proofs.Ythehmanifcfnpaa
