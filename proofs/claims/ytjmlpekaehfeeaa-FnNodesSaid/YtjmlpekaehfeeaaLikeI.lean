/- Two lists of numbers that read alike are told alike. -/
import Derived.Test.YtjmlpekaehfeeaaInts
namespace Go.Proofs.Ytjmlpekaehfeeaa
set_option maxRecDepth 20000
open Go.RowKit

theorem likeInts_yes (A A' : Option Addr) (n c c' : Nat) (zs : List Int) (B B' : Nat) (w : World) (hn : n ≤ 9223372036854775807) (hb : Ints w B A n zs) (hb' : Ints w B' A' n zs) :
    Calls Try.prog 17 #[.slice A n c, .slice A' n c'] w fun e w' => e = .returned (.bool true) ∧ ∃ m, w' = w.drewN m := by
  have HB := Lib.hid hb
  have HB' := Lib.hid hb'
  clear hb hb'
  go_enter Try.func17, Try.ntmps17
  go_wp2
  go_loopw [5] (fun i wr => ∃ k m : Nat, k ≤ n ∧ i = .int .i64 k ∧ wr = w.drewN m) (fun i _ => n - (intOf i).toNat)
  case atStart => exact ⟨0, 0, Nat.zero_le _, rfl, rfl⟩
  case round =>
    obtain ⟨k, m, hk, rfl, rfl⟩ := hrel
    by_cases hlt : k < n
    · obtain ⟨b, off, rfl, hbB, hc⟩ := HB.out.at_ hlt
      obtain ⟨b', off', rfl, hbB', hc'⟩ := HB'.out.at_ hlt
      go_wp2
      go_quiet (fail)
      go_wp2
      go_roundw
      case rel => exact ⟨k + 1, _, by omega, by go_num, rfl⟩
      case measure => simp [intOf]; omega
    · go_wp2
      go_ret
      exact ⟨rfl, m, rfl⟩
end Go.Proofs.Ytjmlpekaehfeeaa
