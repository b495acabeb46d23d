/- What the program's KeyOf answers: for every list of numbers. -/
import Derived.Test.YthehmanifcfnpaaPathP
import Derived.Test.YthehmanifcfnpaaConv
namespace Go.Proofs.Ythehmanifcfnpaa
set_option maxRecDepth 20000
open Go.RowKit

theorem isWorth_any (x : Int) (w : World) :
    Calls Try.prog 96 #[.int .i64 x] w fun e w' => e = .returned (.bool (decide (0 ≤ x ∧ x ≤ 15))) ∧ w' = w := by
  go_enter Try.func96, Try.ntmps96
  by_cases h : 0 ≤ x
  · go_wp2
    go_ret
    exact ⟨ret_b (decide_eq_decide.2 (by omega)), rfl⟩
  · go_wp2
    go_ret
    exact ⟨ret_b (by simp; omega), rfl⟩

theorem keyOf_any (A : Option Addr) (n c : Nat) (ps : List Int) (B : Nat) (w : World) (hn : n ≤ 1048576) (hB : B ≤ w.heap.size) (hp : Ints w B A n ps) :
    Calls Try.prog 81 #[.slice A n c] w fun e w' => e = .returned (.string (strOfNums (keyOf ps))) ∧ Below w.heap.size w w' := by
  have HP := Lib.hid hp
  clear hp
  by_cases hl : 8 < n
  · have hr := Lib.hid (keyOf_long ps (by have := HP.out.1; omega))
    go_enter Try.func81, Try.ntmps81
    go_wp2
    go_ret
    exact ⟨by rw [hr.out]; rfl, Below.refl _ _⟩
  · have hL : (ps.map dig).length = n := by rw [List.length_map]; exact HP.out.1
    have HM := Lib.hid (make_bytes (ps.map dig) n (by omega))
    go_enter Try.func81, Try.ntmps81
    have hmk := HM.out
    go_wp2
    clear hmk
    go_loopw [14] (fun i wr => ∃ k : Nat, k ≤ n ∧ i = .int .i64 k ∧ (∀ z ∈ ps.take k, 0 ≤ z ∧ z ≤ 15) ∧ wr = w.alloc (.cells (filled (ps.map dig) n k) 5)) (fun i _ => n - (intOf i).toNat)
    case atStart => exact ⟨0, Nat.zero_le _, rfl, by simp, rfl⟩
    case round =>
      obtain ⟨k, hk, rfl, hgood, rfl⟩ := hrel
      by_cases hlt : k < n
      · obtain ⟨b, off, rfl, hbB, hc⟩ := HP.out.at_ hlt
        have hbw : b < w.heap.size := by omega
        generalize hz : ps[k]?.getD 0 = z at hc
        have hg : (filled (ps.map dig) n k)[k]? = some (.int .u8 0) := filled_at _ n k hL hlt
        by_cases hq : 0 ≤ z ∧ z ≤ 15
        · have hd : decide (0 ≤ z ∧ z ≤ 15) = true := decide_eq_true hq
          obtain ⟨hq0, hq1⟩ := hq
          have hz16 : z < 16 := by omega
          have hst := filled_set (ps.map dig) n k hL hlt
          rw [map_at dig ps k (by have := HP.out.1; omega), hz] at hst
          have HS := Lib.hid hst
          clear hst
          go_wp2_with fail
          refine (isWorth_any _ _).mono ?_
          rintro e w' ⟨rfl, rfl⟩
          rw [hd]
          go_wp2
          go_roundw
          case rel => exact ⟨k + 1, by omega, by go_num, path_step ps k (by have := HP.out.1; omega) hgood (by rw [hz]; omega), by rw [← HS.out, ← dig_lit z (by omega) (by omega) (by show z.toNat < 16; omega)]; rfl⟩
          case measure => simp [intOf]; omega
        · have hd : decide (0 ≤ z ∧ z ≤ 15) = false := decide_eq_false hq
          go_wp2_with fail
          refine (isWorth_any _ _).mono ?_
          rintro e w' ⟨rfl, rfl⟩
          rw [hd]
          go_wp2
          go_ret
          exact ⟨by rw [keyOf_bad ps k (by have := HP.out.1; omega) (by rw [hz]; exact hq)]; rfl, (Below.refl _ _).alloc (Nat.le_refl _) _⟩
      · obtain rfl : k = n := by omega
        have e : ps.take k = ps := List.take_of_length_le (by have := HP.out.1; omega)
        rw [e] at hgood
        rw [filled_all _ k hL]
        have hb := Byts.new (w := w.alloc (.cells (u8s (ps.map dig)) 5)) hL (fun y hy => by
          obtain ⟨p, hp, rfl⟩ := List.mem_map.1 hy
          have := dig_bd p (hgood p hp)
          omega) (heap_alloc_new _ _)
        have hcv := conv_bytes _ k k _ _ _ hb
        go_wp2
        go_ret
        exact ⟨by rw [keyOf_good ps (by have := HP.out.1; omega) hgood]; rfl, (Below.refl _ _).alloc (Nat.le_refl _) _⟩
end Go.Proofs.Ythehmanifcfnpaa
