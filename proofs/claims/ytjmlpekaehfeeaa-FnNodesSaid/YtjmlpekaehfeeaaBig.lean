/- A draw is big, or it isn't. -/
import Derived.Test.YtjmlpekaehfeeaaOwnB
namespace Go.Proofs.Ytjmlpekaehfeeaa
set_option maxRecDepth 20000
open Go.RowKit

theorem big_no (A : Option Addr) (n c : Nat) (w : World) (hn : n ≤ 4096) :
    Calls Try.prog 10 #[.slice A n c] w fun e w' => e = .returned (.bool false) ∧ w = w' := by
  go_enter Try.func10, Try.ntmps10
  go_wp2
  go_ret
  have h : decide ((4096 : Int) < (n : Int)) = false := by simp; omega
  first | exact ⟨rfl, rfl⟩ | (rw [← h]; exact ⟨rfl, rfl⟩)
theorem big_yes (A : Option Addr) (n c : Nat) (w : World) (hn : 4096 < n) :
    Calls Try.prog 10 #[.slice A n c] w fun e w' => e = .returned (.bool true) ∧ w = w' := by
  go_enter Try.func10, Try.ntmps10
  go_wp2
  go_ret
  have h : decide ((4096 : Int) < (n : Int)) = true := by simp; omega
  first | exact ⟨rfl, rfl⟩ | (rw [← h]; exact ⟨rfl, rfl⟩)
end Go.Proofs.Ytjmlpekaehfeeaa
