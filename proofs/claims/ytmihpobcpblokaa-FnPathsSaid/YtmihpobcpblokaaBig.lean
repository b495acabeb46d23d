/- A draw is big, or it isn't. -/
import Derived.Test.YtmihpobcpblokaaOwnB
namespace Go.Proofs.Ytmihpobcpblokaa
open Go.RowKit

theorem big_no (A : Option Addr) (n c : Nat) (w : World) (hn : n ≤ 4096) :
    Calls Try.prog 8 #[.slice A n c] w fun e w' => e = .returned (.bool false) ∧ w = w' := by
  go_enter Try.func8, Try.ntmps8
  go_wp2
  go_ret
  have h : decide ((4096 : Int) < (n : Int)) = false := by simp; omega
  first | exact ⟨rfl, rfl⟩ | (rw [← h]; exact ⟨rfl, rfl⟩)
theorem big_yes (A : Option Addr) (n c : Nat) (w : World) (hn : 4096 < n) :
    Calls Try.prog 8 #[.slice A n c] w fun e w' => e = .returned (.bool true) ∧ w = w' := by
  go_enter Try.func8, Try.ntmps8
  go_wp2
  go_ret
  have h : decide ((4096 : Int) < (n : Int)) = true := by simp; omega
  first | exact ⟨rfl, rfl⟩ | (rw [← h]; exact ⟨rfl, rfl⟩)
end Go.Proofs.Ytmihpobcpblokaa
