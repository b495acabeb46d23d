/- Whether a number lies from 0 to 15: the model's l1In. -/
import Derived.Test.YthehmanifcfnpaaInts
namespace Go.Proofs.Ythehmanifcfnpaa
set_option maxRecDepth 20000
open Go.RowKit

theorem l1In_any (x : Int) (w : World) :
    Calls Try.prog 84 #[.int .i64 x, .int .i64 0, .int .i64 15] w fun e w' => e = .returned (.bool (decide (0 ≤ x ∧ x ≤ 15))) ∧ w = w' := by
  go_enter Try.func84, Try.ntmps84
  by_cases h : 0 ≤ x
  · go_wp2
    go_ret
    exact ⟨ret_b (decide_eq_decide.2 (by omega)), rfl⟩
  · go_wp2
    go_ret
    exact ⟨ret_b (by simp; omega), rfl⟩

theorem l1In_yes (x : Int) (w : World) (h : 0 ≤ x ∧ x ≤ 15) :
    Calls Try.prog 84 #[.int .i64 x, .int .i64 0, .int .i64 15] w fun e w' => e = .returned (.bool true) ∧ w' = w :=
  (l1In_any x w).mono fun e w' hh => ⟨by rw [hh.1, decide_eq_true h], hh.2.symm⟩
theorem l1In_no (x : Int) (w : World) (h : ¬ (0 ≤ x ∧ x ≤ 15)) :
    Calls Try.prog 84 #[.int .i64 x, .int .i64 0, .int .i64 15] w fun e w' => e = .returned (.bool false) ∧ w' = w :=
  (l1In_any x w).mono fun e w' hh => ⟨by rw [hh.1, decide_eq_false h], hh.2.symm⟩
end Go.Proofs.Ythehmanifcfnpaa
