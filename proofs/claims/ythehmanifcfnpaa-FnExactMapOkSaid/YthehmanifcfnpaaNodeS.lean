/- What the model's ValueOk, l3Path, l3Kids and NodeOk answer. -/
import Derived.Test.YthehmanifcfnpaaNodeM
import Derived.Test.YthehmanifcfnpaaL1In
import Derived.WalkLawsBesides
import Derived.WalkSpells
namespace Go.Proofs.Ythehmanifcfnpaa
set_option maxRecDepth 20000
open Go.RowKit

theorem specValueOk_any (s : ByteArray) (w : World) (hs : s.size ≤ 1048576) :
    Calls Try.prog 20 #[.string s] w fun e w' => e = .returned (.bool (valOk (sb s))) ∧ ∃ m, w' = w.drewN m := by
  have hlen := sb_len s
  go_enter Try.func20, Try.ntmps20
  go_wp2
  go_loopw [3] (fun i wr => ∃ k q : Nat, k ≤ s.size ∧ i = .int .i64 k ∧ (∀ z ∈ (sb s).take k, okLetter z = true) ∧ wr = w.drewN q) (fun i _ => s.size - (intOf i).toNat)
  case atStart => exact ⟨0, 0, Nat.zero_le _, rfl, by simp, rfl⟩
  case round =>
    obtain ⟨k, q, hk, rfl, hgood, rfl⟩ := hrel
    by_cases hlt : k < s.size
    · have hat := sb_at s k hlt
      have hcls : (97 ≤ ((s[k]'hlt).toNat : Int) ∧ ((s[k]'hlt).toNat : Int) ≤ 122) ∨ (48 ≤ ((s[k]'hlt).toNat : Int) ∧ ((s[k]'hlt).toNat : Int) ≤ 57) ∨ ((s[k]'hlt).toNat : Int) < 48 ∨ (57 < ((s[k]'hlt).toNat : Int) ∧ ((s[k]'hlt).toNat : Int) < 97) ∨ 122 < ((s[k]'hlt).toNat : Int) := by omega
      rcases hcls with ⟨h1, h2⟩ | ⟨h1, h2⟩ | h1 | ⟨h1, h2⟩ | h1
      · go_wp2
        go_roundw
        case rel => exact ⟨k + 1, _, by omega, by go_num, letters_step (sb s) k (by omega) hgood (by rw [hat]; exact decide_eq_true (by omega)), rfl⟩
        case measure => simp [intOf]; omega
      · go_wp2
        go_roundw
        case rel => exact ⟨k + 1, _, by omega, by go_num, letters_step (sb s) k (by omega) hgood (by rw [hat]; exact decide_eq_true (by omega)), rfl⟩
        case measure => simp [intOf]; omega
      · go_wp2
        go_ret
        exact ⟨by rw [valOk_bad (sb s) k (by omega) (by rw [hat]; exact decide_eq_false (by omega))]; rfl, _, rfl⟩
      · have d1 : decide (((s[k]'hlt).toNat : Int) ≤ 57) = false := decide_eq_false (by omega)
        go_wp2
        go_ret
        exact ⟨by rw [valOk_bad (sb s) k (by omega) (by rw [hat]; exact decide_eq_false (by omega))]; rfl, _, rfl⟩
      · have d1 : decide (((s[k]'hlt).toNat : Int) ≤ 57) = false := decide_eq_false (by omega)
        have d2 : decide (((s[k]'hlt).toNat : Int) ≤ 122) = false := decide_eq_false (by omega)
        go_wp2
        go_ret
        exact ⟨by rw [valOk_bad (sb s) k (by omega) (by rw [hat]; exact decide_eq_false (by omega))]; rfl, _, rfl⟩
    · have e : (sb s).take k = sb s := List.take_of_length_le (by omega)
      rw [e] at hgood
      have HG := Lib.hid (valOk_good (sb s) hgood)
      by_cases h1 : 1 ≤ s.size
      · go_wp2
        go_ret
        exact ⟨by rw [HG.out]; exact ret_b (by rw [hlen]; exact decide_eq_decide.2 (by omega)), _, rfl⟩
      · go_wp2
        go_ret
        exact ⟨by rw [HG.out]; exact ret_b (by rw [hlen]; simp; omega), _, rfl⟩

theorem l3Path_any (A : Option Addr) (n c : Nat) (ps : List Int) (B : Nat) (w : World) (hn : n ≤ 9223372036854775807) (hp : Ints w B A n ps) :
    Calls Try.prog 82 #[.slice A n c] w fun e w' => e = .returned (.bool (isPath ps)) ∧ w = w' := by
  have HP := Lib.hid hp
  clear hp
  go_enter Try.func82, Try.ntmps82
  go_wp2
  go_loop [3] (fun i => ∃ k : Nat, k ≤ n ∧ i = .int .i64 k ∧ (∀ z ∈ ps.take k, 0 ≤ z ∧ z ≤ 15)) (fun i => n - (intOf i).toNat)
  case atStart => exact ⟨0, Nat.zero_le _, rfl, by simp⟩
  case round =>
    obtain ⟨k, hk, rfl, hgood⟩ := hrel
    by_cases hlt : k < n
    · obtain ⟨b, off, rfl, hbB, hc⟩ := HP.out.at_ hlt
      generalize hz : ps[k]?.getD 0 = z at hc
      by_cases hq : 0 ≤ z ∧ z ≤ 15
      · have hd : decide (0 ≤ z ∧ z ≤ 15) = true := decide_eq_true hq
        go_wp2_with fail
        refine (l1In_any _ _).mono ?_
        rintro e w' ⟨rfl, rfl⟩
        rw [hd]
        go_wp2
        go_round
        case rel => exact ⟨k + 1, by omega, by go_num, path_step ps k (by have := HP.out.1; omega) hgood (by rw [hz]; exact hq)⟩
        case measure => simp [intOf]; omega
      · have hd : decide (0 ≤ z ∧ z ≤ 15) = false := decide_eq_false hq
        go_wp2_with fail
        refine (l1In_any _ _).mono ?_
        rintro e w' ⟨rfl, rfl⟩
        rw [hd]
        go_wp2
        go_ret
        exact ⟨by rw [isPath_bad ps k (by have := HP.out.1; omega) (by rw [hz]; exact hq)]; rfl, rfl⟩
    · have e : ps.take k = ps := List.take_of_length_le (by have := HP.out.1; omega)
      rw [e] at hgood
      have hg : isPath ps = decide (n ≤ 8) := by
        unfold isPath
        rw [show (ps.all fun z => decide (0 ≤ z ∧ z ≤ 15)) = true by simpa using hgood, Bool.and_true, HP.out.1]
      have HG := Lib.hid hg
      clear hg
      go_wp2
      go_ret
      exact ⟨by rw [HG.out]; exact ret_b (decide_eq_decide.2 (by omega)), rfl⟩

set_option maxHeartbeats 400000 in      -- one walk, five ways through a region of 33 operations
theorem l3Kids_any (A : Option Addr) (n c : Nat) (ks : List (Int × Int)) (B : Nat) (w : World) (hn : n ≤ 9223372036854775807) (hb : Kids w B A n ks) :
    Calls Try.prog 83 #[.slice A n c] w fun e w' => e = .returned (.bool (kidsOk ks)) ∧ ∃ m, w' = w.drewN m := by
  have HB := Lib.hid hb
  have hlen := hb.1
  clear hb
  go_enter Try.func83, Try.ntmps83
  go_wp2
  go_loopw [3] (fun i wr => ∃ k q : Nat, k ≤ n ∧ i = .int .i64 k ∧ (∀ j, j < k → KidAt ks j) ∧ wr = w.drewN q) (fun i _ => n - (intOf i).toNat)
  case atStart => exact ⟨0, 0, Nat.zero_le _, rfl, fun j hj => absurd hj (by omega), rfl⟩
  case round =>
    obtain ⟨k, q, hk, rfl, hgood, hwr⟩ := hrel
    have hkr : Kids wr B A n ks := hwr ▸ HB.out.drewN q
    have HK := Lib.hid hkr
    have HW := Lib.hid hwr
    clear hwr hkr
    by_cases hlt : k < n
    · obtain ⟨b, off, rfl, hbB, h0, h1⟩ := HK.out.at_ hlt
      have hx : ∃ x, ks[k]?.getD (0, 0) = x := ⟨_, rfl⟩
      obtain ⟨x, hx⟩ := hx
      rw [hx] at h0 h1
      by_cases hA : 0 ≤ x.1 ∧ x.1 ≤ 15
      · by_cases hN : x.2 < 1
        · have hdN : decide (x.2 < 1) = true := decide_eq_true hN
          go_wp2
          go_quiet (first | (go_at_call 84; exact Calls.quiet_of_same (l1In_yes _ _ hA)))
          go_wp2
          go_ret
          exact ⟨by rw [kidsOk_bad ks k (by omega) (by unfold KidAt; rw [hx]; omega)]; rfl, _, by rw [HW.out, World.drewN_drewN]⟩
        · have hdN : decide (x.2 < 1) = false := decide_eq_false hN
          by_cases hk0 : 0 < k
          · obtain ⟨b', off', e', hbB', p0, p1⟩ := HK.out.at_ (k := k - 1) (by omega)
            cases e'
            have hy : ∃ y, ks[k - 1]?.getD (0, 0) = y := ⟨_, rfl⟩
            obtain ⟨y, hy⟩ := hy
            rw [hy] at p0 p1
            have hia := index_kid_pred b off n c k hk0 hlt
            have hwk : IntKind.i64.wrap ((k : Int) - 1) = (k : Int) - 1 := by rw [IntKind.wrap_i64]; omega
            have hd : decide ((0 : Int) < (k : Int)) = true := decide_eq_true (by omega)
            by_cases hR : x.1 ≤ y.1
            · go_wp2
              go_quiet (first | (go_at_call 84; exact Calls.quiet_of_same (l1In_yes _ _ hA)))
              go_wp2
              go_ret
              exact ⟨by rw [kidsOk_bad ks k (by omega) (by unfold KidAt; rw [hx, hy]; omega)]; rfl, _, by rw [HW.out, World.drewN_drewN]⟩
            · go_wp2
              go_quiet (first | (go_at_call 84; exact Calls.quiet_of_same (l1In_yes _ _ hA)))
              go_wp2
              go_roundw
              case rel =>
                refine ⟨k + 1, _, by omega, by go_num, fun i hi => ?_, by rw [HW.out, World.drewN_drewN]⟩
                rcases Nat.lt_or_ge i k with h | h
                · exact hgood i h
                · rw [show i = k by omega]
                  unfold KidAt
                  rw [hx, hy]
                  omega
              case measure => simp [intOf]; omega
          · obtain rfl : k = 0 := by omega
            rw [Nat.zero_mul, Nat.add_zero] at h0 h1
            go_wp2
            go_quiet (first | (go_at_call 84; exact Calls.quiet_of_same (l1In_yes _ _ hA)))
            go_wp2
            go_roundw
            case rel =>
              refine ⟨1, _, by omega, by go_num, fun j hj => ?_, by rw [HW.out, World.drewN_drewN]⟩
              rcases Nat.lt_or_ge j 0 with h | h
              · exact hgood j h
              · rw [show j = 0 by omega]
                unfold KidAt
                rw [hx]
                omega
            case measure => simp [intOf]; omega
      · go_wp2
        go_quiet (first | (go_at_call 84; exact Calls.quiet_of_same (l1In_no _ _ hA)))
        go_wp2
        go_ret
        exact ⟨by rw [kidsOk_bad ks k (by omega) (by unfold KidAt; rw [hx]; omega)]; rfl, _, by rw [HW.out, World.drewN_drewN]⟩
    · go_wp2
      go_ret
      exact ⟨by rw [kidsOk_good ks (fun i hi => hgood i (by omega))]; rfl, q, HW.out⟩
end Go.Proofs.Ythehmanifcfnpaa
