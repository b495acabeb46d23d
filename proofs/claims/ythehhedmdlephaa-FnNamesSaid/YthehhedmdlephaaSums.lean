/- The two sums of a name and the name of bytes, as the program and as the model reckon them: what each call returns, the world left as it was. -/
import Derived.Test.YthehhedmdlephaaRows
import Derived.Test.YthehhedmdlephaaBytes
import Derived.LoopTactic
import Derived.Outline
namespace Go.Proofs.Ythehhedmdlephaa
open Go.RowKit

theorem up_any (A : Option Addr) (n c : Nat) (zs : List Int) (B : Nat) (w : World) (hn : n ≤ 9223372036854775807) (hb : Byts w B A n zs) :
    Calls Try.prog 24 #[.slice A n c, .int .i64 7, .int .i64 131, .int .i64 2147483647] w fun e w' => e = .returned (.int .i64 (upSum zs)) ∧ w = w' := by
  have HB := Lib.hid hb
  have hlen : zs.length = n := hb.1
  have HL := Lib.hid hlen
  clear hb hlen
  go_enter Try.func24, Try.ntmps24
  go_wp2
  go_loop [9, 15] (fun s i => ∃ k : Nat, k ≤ n ∧ i = .int .i64 k ∧ s = .int .i64 (upSum (zs.take k))) (fun _ i => n - (intOf i).toNat)
  case atStart => exact ⟨0, Nat.zero_le _, rfl, rfl⟩
  case round =>
    obtain ⟨k, hk, rfl, rfl⟩ := hrel
    have hs := upSum_bd (zs.take k)
    by_cases hlt : k < n
    · obtain ⟨b, off, rfl, _, hc⟩ := HB.out.at_ hlt
      have hr := HB.out.range k
      have HS := Lib.hid (upSum_step zs k (by have := HL.out; omega))
      go_wp2
      go_round
      case rel => exact ⟨k + 1, by omega, by go_num, by rw [HS.out]⟩
      case measure => simp [intOf]; omega
    · go_wp2
      go_ret
      exact ⟨ret_i64 (by rw [List.take_of_length_le (by have := HL.out; omega)]), rfl⟩
theorem lo_any (A : Option Addr) (n c : Nat) (zs : List Int) (B : Nat) (w : World) (hn : n ≤ 9223372036854775807) (hb : Byts w B A n zs) :
    Calls Try.prog 25 #[.slice A n c, .int .i64 11, .int .i64 137, .int .i64 2147483629] w fun e w' => e = .returned (.int .i64 (loSum zs)) ∧ w = w' := by
  have HB := Lib.hid hb
  have hlen : zs.length = n := hb.1
  have HL := Lib.hid hlen
  clear hb hlen
  go_enter Try.func25, Try.ntmps25
  go_wp2
  go_loop [9, 15] (fun s i => ∃ k : Nat, k ≤ n ∧ i = .int .i64 k ∧ s = .int .i64 (loSum (zs.take k))) (fun _ i => n - (intOf i).toNat)
  case atStart => exact ⟨0, Nat.zero_le _, rfl, rfl⟩
  case round =>
    obtain ⟨k, hk, rfl, rfl⟩ := hrel
    have hs := loSum_bd (zs.take k)
    by_cases hlt : k < n
    · obtain ⟨b, off, rfl, _, hc⟩ := HB.out.at_ hlt
      have hr := HB.out.range k
      have HS := Lib.hid (loSum_step zs k (by have := HL.out; omega))
      go_wp2
      go_round
      case rel => exact ⟨k + 1, by omega, by go_num, by rw [HS.out]⟩
      case measure => simp [intOf]; omega
    · go_wp2
      go_ret
      exact ⟨ret_i64 (by rw [List.take_of_length_le (by have := HL.out; omega)]), rfl⟩
theorem name_any (A : Option Addr) (n c : Nat) (zs : List Int) (B : Nat) (w : World) (hn : n ≤ 9223372036854775807) (hb : Byts w B A n zs) :
    Calls Try.prog 9 #[.slice A n c] w fun e w' => e = .returned (.int .i64 (nameOf zs)) ∧ w = w' := by
  have h1 := upSum_bd zs
  have h2 := loSum_bd zs
  have HB := Lib.hid hb
  clear hb
  go_enter Try.func9, Try.ntmps9
  go_wp2_with (first
    | (go_at_call 24; refine (up_any _ _ _ zs _ _ (by omega) HB.out).mono ?_; rintro e w' ⟨rfl, rfl⟩)
    | (go_at_call 25; refine (lo_any _ _ _ zs _ _ (by omega) HB.out).mono ?_; rintro e w' ⟨rfl, rfl⟩))
  go_ret
  exact ⟨ret_i64 (by unfold nameOf; omega), rfl⟩

theorem specName_any (A : Option Addr) (n c : Nat) (zs : List Int) (B : Nat) (w : World) (hn : n ≤ 9223372036854775807) (hb : Byts w B A n zs) :
    Calls Try.prog 14 #[.slice A n c] w fun e w' => e = .returned (.int .i64 (nameOf zs)) ∧ w = w' := by
  have HB := Lib.hid hb
  have hlen : zs.length = n := hb.1
  have HL := Lib.hid hlen
  clear hb hlen
  go_enter Try.func14, Try.ntmps14
  go_wp2
  go_loop [3, 4, 5] (fun s t i => ∃ k : Nat, k ≤ n ∧ i = .int .i64 k ∧ s = .int .i64 (upSum (zs.take k)) ∧ t = .int .i64 (loSum (zs.take k))) (fun _ _ i => n - (intOf i).toNat)
  case atStart => exact ⟨0, Nat.zero_le _, rfl, rfl, rfl⟩
  case round =>
    obtain ⟨k, hk, rfl, rfl, rfl⟩ := hrel
    have hs := upSum_bd (zs.take k)
    have ht := loSum_bd (zs.take k)
    by_cases hlt : k < n
    · obtain ⟨b, off, rfl, _, hc⟩ := HB.out.at_ hlt
      have hr := HB.out.range k
      have HS := Lib.hid (upSum_step zs k (by have := HL.out; omega))
      have HT := Lib.hid (loSum_step zs k (by have := HL.out; omega))
      go_wp2
      go_round
      case rel => exact ⟨k + 1, by omega, by go_num, by rw [HS.out], by rw [HT.out]⟩
      case measure => simp [intOf]; omega
    · go_wp2
      go_ret
      exact ⟨ret_i64 (by rw [List.take_of_length_le (by have := HL.out; omega)]; rfl), rfl⟩
end Go.Proofs.Ythehhedmdlephaa
