/- The text of a mark, as the laws write it: the letter and the digits. -/
import Derived.Test.YthehmanifcfnpaaConv
import Derived.Test.YthehmanifcfnpaaPathM
import Derived.Test.YthehmanifcfnpaaNodeI
namespace Go.Proofs.Ythehmanifcfnpaa
set_option maxRecDepth 20000
set_option linter.unusedVariables false
set_option linter.unusedSimpArgs false
open Go.RowKit

/-- the digits of what is left of a number, ahead of those that are there. -/
def mrest (k : Nat) (out : List Int) : List Int := if h : k = 0 then out else mrest (k / 10) ((48 + (k : Int) % 10) :: out)
termination_by k
decreasing_by omega
theorem mrest_zero (out : List Int) : mrest 0 out = out := by rw [mrest]; simp
theorem mrest_step (k : Nat) (out : List Int) (h : 0 < k) : mrest k out = mrest (k / 10) ((48 + (k : Int) % 10) :: out) := by rw [mrest]; rw [dif_neg (by omega)]
/-- the text of a mark. -/
def mtext (k : Nat) : ByteArray := strOfNums (109 :: mrest k [])

theorem conv_one (W : World) (z : Int) (hz : 0 ≤ z ∧ z ≤ 255) :
    (convert 47 9 (.slice (some ⟨W.heap.size, 0, none⟩) 1 1)).run Try.prog (W.alloc (.cells #[.int .u8 z] 5)) = .ok (.string (strOfNums [z])) (W.alloc (.cells #[.int .u8 z] 5)) := by
  have hm : Mine (W.alloc (.cells (u8s [z]) 5)) W.heap.size (some ⟨W.heap.size, 0, none⟩) 1 1 [z] := Mine.of_alloc W W.heap.size [z] 1 (Nat.le_refl _) rfl (by unfold maxLen; omega) (by simp; omega)
  have e : u8s [z] = #[.int .u8 z] := rfl
  rw [e] at hm
  exact conv_bytes _ _ _ [z] _ _ hm.byts

theorem markText_any (k0 : Nat) (w : World) (hk : 0 < k0) (hb : k0 ≤ 4398046511104) :
    Calls Try.prog 36 #[.int .i64 k0] w fun e w' => e = .returned (.string (mtext k0)) ∧ Below w.heap.size w w' := by
  have hneg : decide ((k0 : Int) ≤ 0) = false := decide_eq_false (by omega)
  go_enter Try.func36, Try.ntmps36
  go_wp2
  go_loopw [0, 3] (fun q s wr => ∃ (k : Nat) (zs : List Int), q = .int .i64 k ∧ s = .string (strOfNums zs) ∧ mrest k zs = mrest k0 [] ∧ k + zs.length ≤ k0 ∧ Below w.heap.size w wr) (fun q _ _ => (intOf q).toNat)
  case atStart => exact ⟨k0, [], rfl, rfl, rfl, by simp, Below.refl _ _⟩
  case round =>
    obtain ⟨k, zs, rfl, rfl, hm, hl, hbel⟩ := hrel
    by_cases hp : 0 < k
    · have hd : decide (0 < (k : Int)) = true := decide_eq_true (by omega)
      have hap := str_append [48 + (k : Int) % 10] zs
      have hst := mrest_step k zs hp
      have hcv := fun W => conv_one W (48 + (k : Int) % 10) (by omega)
      have BR := Lib.hid hbel
      have HM := Lib.hid hm
      have ST := Lib.hid hst
      clear hbel hm hst
      have hsz : ¬ 9223372036854775807 < (strOfNums [48 + (k : Int) % 10]).size + (strOfNums zs).size := by simp only [strOfNums_size, List.length_cons, List.length_nil]; omega
      go_wp2
      go_roundw
      case rel => exact ⟨k / 10, (48 + (k : Int) % 10) :: zs, by go_num, rfl, ST.out.symm.trans HM.out, by simp only [List.length_cons]; omega, BR.out.alloc BR.out.size _⟩
      case measure => simp [intOf]; omega
    · obtain rfl : k = 0 := by omega
      rw [mrest_zero] at hm
      have HM := Lib.hid hm
      have BR := Lib.hid hbel
      have hap := str_append [109] zs
      have hm0 : ({ data := #[109] } : ByteArray) = strOfNums [109] := rfl
      have hsz : ¬ 9223372036854775807 < (strOfNums [109]).size + (strOfNums zs).size := by simp only [strOfNums_size, List.length_cons, List.length_nil]; omega
      clear hm hbel
      go_wp2
      go_ret
      exact ⟨by unfold mtext; rw [← HM.out]; rfl, BR.out⟩
theorem markText_at (z : Int) (k0 : Nat) (w : World) (hz : z = k0) (hk : 0 < k0) (hb : k0 ≤ 4398046511104) :
    Calls Try.prog 36 #[.int .i64 z] w fun e w' => e = .returned (.string (mtext k0)) ∧ Below w.heap.size w w' := by
  subst hz
  exact markText_any k0 w hk hb
end Go.Proofs.Ythehmanifcfnpaa
