/- What the model's KeyOk, PathOf, KeyOf and CommonOf answer: for every text, every list. -/
import Derived.Test.YthehmanifcfnpaaInts
import Derived.Test.YthehmanifcfnpaaPathM
import Derived.Test.YthehmanifcfnpaaL1In
import Derived.WalkLawsBesides
import Derived.WalkSpells
namespace Go.Proofs.Ythehmanifcfnpaa
set_option maxRecDepth 20000
open Go.RowKit

theorem l2Worth_any (c : Int) (w : World) (hc : 0 ≤ c ∧ c ≤ 255) :
    Calls Try.prog 37 #[.int .u8 c] w fun e w' => e = .returned (.int .i64 (wd c)) ∧ w = w' := by
  obtain ⟨hc0, hc1⟩ := hc
  by_cases h1 : 48 ≤ c ∧ c ≤ 57
  · obtain ⟨h1a, h1b⟩ := h1
    have e : wd c = c - 48 := if_pos ⟨h1a, h1b⟩
    rw [e]
    clear e
    go_enter Try.func37, Try.ntmps37
    go_wp2
    go_ret
    exact ⟨rfl, rfl⟩
  · by_cases h2 : 97 ≤ c ∧ c ≤ 102
    · have e : wd c = c - 97 + 10 := by unfold wd; rw [if_neg h1, if_pos h2]; omega
      rw [e]
      obtain ⟨h2a, h2b⟩ := h2
      clear e h1
      go_enter Try.func37, Try.ntmps37
      go_wp2
      go_ret
      exact ⟨rfl, rfl⟩
    · have e : wd c = -1 := by unfold wd; rw [if_neg h1, if_neg h2]
      rw [e]
      have h1 : c < 48 ∨ 57 < c := by omega
      have h2 : c < 97 ∨ 102 < c := by omega
      clear e
      go_enter Try.func37, Try.ntmps37
      rcases h1 with h1 | h1
      · go_wp2
        go_ret
        exact ⟨rfl, rfl⟩
      · rcases h2 with h2 | h2
        · go_wp2
          go_ret
          exact ⟨rfl, rfl⟩
        · go_wp2
          go_ret
          exact ⟨rfl, rfl⟩
theorem specKeyOk_any (s : ByteArray) (w : World) (hs : s.size ≤ 1048576) :
    Calls Try.prog 19 #[.string s] w fun e w' => e = .returned (.bool (isKey (sb s))) ∧ w = w' := by
  have hlen := sb_len s
  go_enter Try.func19, Try.ntmps19
  go_wp2
  go_loop [3] (fun i => ∃ k : Nat, k ≤ s.size ∧ i = .int .i64 k ∧ (∀ z ∈ (sb s).take k, 0 ≤ wd z)) (fun i => s.size - (intOf i).toNat)
  case atStart => exact ⟨0, Nat.zero_le _, rfl, by simp⟩
  case round =>
    obtain ⟨k, hk, rfl, hgood⟩ := hrel
    by_cases hlt : k < s.size
    · have hat := sb_at s k hlt
      have hr := (s[k]'hlt).toNat_lt
      by_cases hw : 0 ≤ wd ((s[k]'hlt).toNat)
      · go_wp2_with fail
        refine (l2Worth_any _ _ (by omega)).mono ?_
        rintro e w' ⟨rfl, rfl⟩
        go_wp2
        go_round
        case rel => exact ⟨k + 1, by omega, by go_num, good_step (sb s) k (by omega) hgood (by rw [hat]; exact hw)⟩
        case measure => simp [intOf]; omega
      · go_wp2_with fail
        refine (l2Worth_any _ _ (by omega)).mono ?_
        rintro e w' ⟨rfl, rfl⟩
        go_wp2
        go_ret
        exact ⟨by rw [isKey_bad (sb s) k (by omega) (by rw [hat]; omega)]; rfl, rfl⟩
    · have e : (sb s).take k = sb s := List.take_of_length_le (by omega)
      rw [e] at hgood
      have HG := Lib.hid (isKey_good (sb s) hgood)
      by_cases h1 : 1 ≤ s.size
      · go_wp2
        go_ret
        exact ⟨by rw [HG.out]; exact ret_b (by rw [hlen]; first | exact decide_eq_decide.2 (by omega) | exact (decide_eq_false (by omega)).symm), rfl⟩
      · go_wp2
        go_ret
        exact ⟨by rw [HG.out]; exact ret_b (by rw [hlen]; first | exact decide_eq_decide.2 (by omega) | exact (decide_eq_false (by omega)).symm), rfl⟩

theorem l2Text_any (A : Option Addr) (n c : Nat) (ps : List Int) (B : Nat) (w : World) (hn : n ≤ 1048576) (hp : Ints w B A n ps) :
    Calls Try.prog 66 #[.slice A n c] w fun e w' => e = .returned (.tuple #[.string (strOfNums (keyOf ps)), .bool (isPath ps)]) ∧ ∃ m, w' = w.drewN m := by
  have HP := Lib.hid hp
  clear hp
  go_enter Try.func66, Try.ntmps66
  by_cases hl : 8 < n
  · have hr := Lib.hid (keyOf_long ps (by have := HP.out.1; omega))
    have hf : isPath ps = false := by
      rw [Bool.eq_false_iff]; intro e; have := ((isPath_iff ps).1 e).1; have := HP.out.1; omega
    have HF := Lib.hid hf
    clear hf
    go_wp2
    go_ret2
    exact ⟨by rw [hr.out, HF.out]; rfl, 0, rfl⟩
  · go_wp2
    go_loopw [4, 5] (fun s i wr => ∃ k q : Nat, k ≤ n ∧ i = .int .i64 k ∧ s = .string (strOfNums ((ps.take k).map dig)) ∧ (∀ z ∈ ps.take k, 0 ≤ z ∧ z ≤ 15) ∧ wr = w.drewN q) (fun _ i _ => n - (intOf i).toNat)
    case atStart => exact ⟨0, 0, Nat.zero_le _, rfl, rfl, by simp, rfl⟩
    case round =>
      obtain ⟨k, q, hk, rfl, rfl, hgood, rfl⟩ := hrel
      by_cases hlt : k < n
      · obtain ⟨b, off, rfl, hbB, hc⟩ := HP.out.at_ hlt
        generalize hz : ps[k]?.getD 0 = z at hc
        by_cases hq : 0 ≤ z ∧ z ≤ 15
        · have hd : decide (0 ≤ z ∧ z ≤ 15) = true := decide_eq_true hq
          obtain ⟨hq0, hq1⟩ := hq
          have hwr : IntKind.i64.wrap (z + 1) = z + 1 := by rw [IntKind.wrap_i64]; omega
          have hsl : ∀ W : World, (Instr.slice 9 (.string { data := #[48, 49, 50, 51, 52, 53, 54, 55, 56, 57, 97, 98, 99, 100, 101, 102] }) (some (.int .i64 z)) (some (.int .i64 (z + 1))) none).run Try.prog W = .ok (.string (strOfNums [dig z])) W := by
            intro W
            have h := run_slice_string (P := Try.prog) W 9 digits16 .i64 .i64 z (z + 1) Try.underlying9 hq0 (by omega) (by show z + 1 ≤ ((16 : Nat) : Int); omega)
            rw [dig_cut z hq0 hq1] at h
            exact h
          have hst : strOfNums ((ps.take k).map dig) ++ strOfNums [dig z] = strOfNums ((ps.take (k + 1)).map dig) := by
            rw [map_take_step dig ps k (by have := HP.out.1; omega), hz, str_append]
          have hS8 : (strOfNums ((ps.take k).map dig)).size ≤ 8 := by rw [strOfNums_size]; simp; omega
          generalize strOfNums ((ps.take k).map dig) = S at hst hS8
          have hadd : ∀ W : World, (Op.stringOp .add S (strOfNums [dig z])).run Try.prog W = .ok (.string (S ++ strOfNums [dig z])) W := fun W => run_string_add_sum W S (strOfNums [dig z]) (by rw [strOfNums_size [dig z]]; simp; omega)
          have HST := Lib.hid hst
          clear hst
          go_wp2_with fail
          refine (l1In_any _ _).mono ?_
          rintro e w' ⟨rfl, rfl⟩
          rw [hd]
          go_wp2
          go_quiet (fail)
          go_wp2
          go_roundw
          case rel => exact ⟨k + 1, _, by omega, by go_num, by rw [HST.out], path_step ps k (by have := HP.out.1; omega) hgood (by rw [hz]; omega), rfl⟩
          case measure => simp [intOf]; omega
        · have hd : decide (0 ≤ z ∧ z ≤ 15) = false := decide_eq_false hq
          go_wp2_with fail
          refine (l1In_any _ _).mono ?_
          rintro e w' ⟨rfl, rfl⟩
          rw [hd]
          go_wp2
          go_ret2
          exact ⟨by rw [keyOf_bad ps k (by have := HP.out.1; omega) (by rw [hz]; exact hq), isPath_bad ps k (by have := HP.out.1; omega) (by rw [hz]; exact hq)]; rfl, _, rfl⟩
      · obtain rfl : k = n := by omega
        have e : ps.take k = ps := List.take_of_length_le (by have := HP.out.1; omega)
        rw [e] at hgood ⊢
        go_wp2
        go_ret2
        exact ⟨by rw [keyOf_good ps (by have := HP.out.1; omega) hgood, (isPath_iff ps).2 ⟨by have := HP.out.1; omega, hgood⟩]; rfl, _, rfl⟩

theorem specKeyOf_any (A : Option Addr) (n c : Nat) (ps : List Int) (B : Nat) (w : World) (hn : n ≤ 1048576) (hp : Ints w B A n ps) :
    Calls Try.prog 45 #[.slice A n c] w fun e w' => e = .returned (.string (strOfNums (keyOf ps))) ∧ ∃ m, w' = w.drewN m := by
  have hlen := hp.1
  by_cases hok : isPath ps = true
  · have hk := (isPath_iff ps).1 hok
    have e1 := keyOf_good ps hk.1 hk.2
    have e2 := isKey_digs ps hk.1 hk.2
    rw [← e1] at e2
    have hs : (strOfNums (keyOf ps)).size ≤ 1048576 := by rw [strOfNums_size, e1]; simp; omega
    have H2 := Lib.hid e2
    have HO := Lib.hid hok
    have H1 := Lib.hid e1
    clear e1 e2 hk hok
    go_enter Try.func45, Try.ntmps45
    go_wp2_with fail
    refine (l2Text_any A n c ps B _ hn hp).mono ?_
    rintro e w' ⟨rfl, m, rfl⟩
    rw [HO.out]
    go_wp2_with fail
    refine (specKeyOk_any _ _ hs).mono ?_
    rintro e w' ⟨rfl, rfl⟩
    rw [H2.out]
    by_cases h1 : 1 ≤ ps.length
    · rw [decide_eq_true h1]
      go_wp2
      go_ret
      exact ⟨rfl, _, rfl⟩
    · rw [decide_eq_false h1]
      have e0 : strOfNums (keyOf ps) = { data := #[] } := by
        rw [H1.out, List.eq_nil_of_length_eq_zero (show ps.length = 0 by omega)]; rfl
      have H0 := Lib.hid e0
      clear e0
      go_wp2
      go_ret
      exact ⟨by rw [H0.out]; rfl, _, rfl⟩
  · have hok : isPath ps = false := by simpa using hok
    have e0 : strOfNums (keyOf ps) = { data := #[] } := by unfold keyOf; rw [if_neg (by rw [hok]; decide)]; rfl
    have HO := Lib.hid hok
    have H0 := Lib.hid e0
    clear hok e0
    go_enter Try.func45, Try.ntmps45
    go_wp2_with fail
    refine (l2Text_any A n c ps B _ hn hp).mono ?_
    rintro e w' ⟨rfl, m, rfl⟩
    rw [HO.out]
    go_wp2
    go_ret
    exact ⟨by rw [H0.out]; rfl, _, rfl⟩
end Go.Proofs.Ythehmanifcfnpaa
