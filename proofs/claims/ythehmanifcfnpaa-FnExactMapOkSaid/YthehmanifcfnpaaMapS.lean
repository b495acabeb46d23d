/- The model's MapOk. -/
import Derived.Test.YthehmanifcfnpaaPrsM
import Derived.Test.YthehmanifcfnpaaNodeS
import Derived.Test.YthehmanifcfnpaaPathS
namespace Go.Proofs.Ythehmanifcfnpaa
set_option maxRecDepth 20000
set_option linter.unusedVariables false
set_option linter.unusedSimpArgs false
open Go.RowKit

theorem index_pair (b off n c j : Nat) (h : j < n) (W : World) : (Instr.indexAt 25 (.slice (some ⟨b, off, none⟩) n c) (.int .i64 (j : Int))).run Try.prog W = .ok (.pointer (some ⟨b, off + j * 2, none⟩)) W := by
  go_simp
theorem index_pair_pred (b off n c k : Nat) (h0 : 0 < k) (h : k < n) (W : World) : (Instr.indexAt 25 (.slice (some ⟨b, off, none⟩) n c) (.int .i64 ((k : Int) - 1))).run Try.prog W = .ok (.pointer (some ⟨b, off + (k - 1) * 2, none⟩)) W := by
  obtain ⟨j, hj⟩ : ∃ j, k - 1 = j := ⟨_, rfl⟩
  have e : (k : Int) - 1 = (j : Int) := by omega
  rw [e, hj]
  exact index_pair b off n c j (by omega) W
set_option maxHeartbeats 1600000 in
theorem specMapOk_any (A : Option Addr) (n c : Nat) (ps : List (ByteArray × ByteArray)) (B : Nat) (w : World) (hn : n ≤ 1048576) (hm : ∀ i, (pe ps i).1.size ≤ 1048576 ∧ (pe ps i).2.size ≤ 1048576) (hB : B ≤ w.heap.size) (hb : Prs w B A n ps) :
    Calls Try.prog 6 #[.slice A n c] w fun e w' => ∃ r, e = .returned (.bool r) ∧ (r = true ↔ MapIs ps) ∧ Below w.heap.size w w' := by
  have HB := Lib.hid (hb.more hB)
  have hlen := hb.1
  clear hb
  go_enter Try.func6, Try.ntmps6
  go_wp2
  go_loopw [3] (fun i wr => ∃ k : Nat, k ≤ n ∧ i = .int .i64 k ∧ (∀ j, j < k → pairOk ps j) ∧ Below w.heap.size w wr) (fun i _ => n - (intOf i).toNat)
  case atStart => exact ⟨0, Nat.zero_le _, rfl, fun j h => by omega, Below.refl _ _⟩
  case round =>
    obtain ⟨k, hk, rfl, hall, hbel⟩ := hrel
    by_cases hlt : k < n
    · obtain ⟨b, off, rfl, hbB, h0, h1⟩ := (HB.out.below hbel).at_ hlt
      have hmk := hm k
      have HA := Lib.hid hall
      have BR := Lib.hid hbel
      clear hall hbel
      have KO := Lib.hid fun W => (specKeyOk_any (pe ps k).1 W hmk.1).mono (fun e w' (h : _ ∧ _) => And.intro h.1 h.2.symm)
      have VO := Lib.hid fun W => specValueOk_any (pe ps k).2 W hmk.2
      obtain ⟨ik, hik⟩ : ∃ ik, isKey (sb (pe ps k).1) = ik := ⟨_, rfl⟩
      obtain ⟨iv, hiv⟩ : ∃ iv, valOk (sb (pe ps k).2) = iv := ⟨_, rfl⟩
      rw [hik] at KO
      rw [hiv] at VO
      have IK := Lib.hid hik
      have IV := Lib.hid hiv
      clear hik hiv
      have hbad : ¬ pairOk ps k → ∀ r : Bool, r = false → (r = true ↔ MapIs ps) := fun hno r hr => iff_of_false (by rw [hr]; simp) (fun h => hno (h.1 k (by omega)))
      have BAD := Lib.hid hbad
      clear hbad
      have hcell1 := h1
      by_cases hz : k = 0
      · obtain rfl := hz
        rw [Nat.zero_mul, Nat.add_zero] at h0 h1
        cases ik <;> cases iv
        case true.true =>
          have hok : pairOk ps 0 := ⟨IK.out, IV.out, fun h => by omega⟩
          go_wp2
          go_quiet (first | (go_at_call 19; exact Calls.quiet_of_same (KO.out _)) | (go_at_call 20; exact Calls.quiet_of (VO.out _)))
          go_wp2
          go_roundw
          case rel => exact ⟨1, by omega, by go_num, fun j hj => by
            have h0 : j = 0 := by omega
            rw [h0]
            exact hok, below_drewN BR.out _⟩
          case measure => simp [intOf]; omega
        all_goals
          have hno : ¬ pairOk ps 0 := fun h => by first | (have := h.1; rw [IK.out] at this; cases this; done) | (have := h.2.1; rw [IV.out] at this; cases this; done)
          have HNO := Lib.hid hno
          clear hno
          go_wp2
          go_quiet (first | (go_at_call 19; exact Calls.quiet_of_same (KO.out _)) | (go_at_call 20; exact Calls.quiet_of (VO.out _)))
          go_wp2
          go_ret
          exact ⟨false, rfl, BAD.out HNO.out _ rfl, below_drewN BR.out _⟩
      · obtain ⟨b', off', hbo, hbB', g0, g1⟩ := (HB.out.below BR.out).at_ (k := k - 1) (by omega)
        cases hbo
        have hgt : decide (0 < (k : Int)) = true := decide_eq_true (by omega)
        have hgt' : decide (0 < k) = true := decide_eq_true (by omega)
        have hwr : IntKind.i64.wrap ((k : Int) - 1) = (k : Int) - 1 := by rw [IntKind.wrap_i64]; omega
        have hix := index_pair_pred b off n c k (by omega) (by omega)
        obtain ⟨x, hx⟩ : ∃ x, Op.bytesLess (pe ps k).1.toList (pe ps (k - 1)).1.toList = x := ⟨_, rfl⟩
        obtain ⟨y, hy⟩ : ∃ y, ((pe ps k).1.toList == (pe ps (k - 1)).1.toList) = y := ⟨_, rfl⟩
        have hxy : sle (pe ps k).1 (pe ps (k - 1)).1 = (x || y) := by unfold sle; rw [hx, hy]
        have XY := Lib.hid hxy
        clear hxy
        cases ik with
        | false =>
          have hno : ¬ pairOk ps k := fun h => by first | (have := h.1; rw [IK.out] at this; cases this; done) | (have := h.2.1; rw [IV.out] at this; cases this; done) | (have := h.2.2 (by omega); rw [XY.out] at this; cases this; done)
          have HNO := Lib.hid hno
          clear hno
          go_wp2
          go_quiet (first | (go_at_call 19; exact Calls.quiet_of_same (KO.out _)) | (go_at_call 20; exact Calls.quiet_of (VO.out _)))
          go_wp2
          go_ret
          exact ⟨false, rfl, BAD.out HNO.out _ rfl, below_drewN BR.out _⟩
        | true =>
          cases iv with
          | false =>
            have hno : ¬ pairOk ps k := fun h => by first | (have := h.1; rw [IK.out] at this; cases this; done) | (have := h.2.1; rw [IV.out] at this; cases this; done) | (have := h.2.2 (by omega); rw [XY.out] at this; cases this; done)
            have HNO := Lib.hid hno
            clear hno
            go_wp2
            go_quiet (first | (go_at_call 19; exact Calls.quiet_of_same (KO.out _)) | (go_at_call 20; exact Calls.quiet_of (VO.out _)))
            go_wp2
            go_ret
            exact ⟨false, rfl, BAD.out HNO.out _ rfl, below_drewN BR.out _⟩
          | true =>
            cases x <;> cases y
            case false.false =>
              have hok : pairOk ps k := ⟨IK.out, IV.out, fun h => XY.out⟩
              have HOK := Lib.hid hok
              clear hok
              go_wp2
              go_quiet (first | (go_at_call 19; exact Calls.quiet_of_same (KO.out _)) | (go_at_call 20; exact Calls.quiet_of (VO.out _)))
              go_wp2
              go_roundw
              case rel => exact ⟨k + 1, by omega, by go_num, fun j hj => by
                by_cases h : j = k
                · rw [h]; exact HOK.out
                · exact HA.out j (by omega), below_drewN BR.out _⟩
              case measure => simp [intOf]; omega
            all_goals
              have hno : ¬ pairOk ps k := fun h => by first | (have := h.1; rw [IK.out] at this; cases this; done) | (have := h.2.1; rw [IV.out] at this; cases this; done) | (have := h.2.2 (by omega); rw [XY.out] at this; cases this; done)
              have HNO := Lib.hid hno
              clear hno
              go_wp2
              go_quiet (first | (go_at_call 19; exact Calls.quiet_of_same (KO.out _)) | (go_at_call 20; exact Calls.quiet_of (VO.out _)))
              go_wp2
              go_ret
              exact ⟨false, rfl, BAD.out HNO.out _ rfl, below_drewN BR.out _⟩
    · have HA := Lib.hid hall
      have BR := Lib.hid hbel
      clear hall hbel
      go_wp2
      go_ret
      obtain rfl : k = n := by omega
      refine ⟨_, rfl, ?_, BR.out⟩
      unfold MapIs
      rw [hlen]
      simp
      exact ⟨fun h => ⟨HA.out, by omega⟩, fun h => by omega⟩
end Go.Proofs.Ythehmanifcfnpaa
