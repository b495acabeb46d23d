/- What the program's MapOk answers: for every list of pairs. -/
import Derived.Test.YthehmanifcfnpaaPrsM
import Derived.Test.YthehmanifcfnpaaNodeP
import Derived.Test.YthehmanifcfnpaaPathP
namespace Go.Proofs.Ythehmanifcfnpaa
set_option maxRecDepth 20000
set_option linter.unusedVariables false
set_option linter.unusedSimpArgs false
open Go.RowKit

/-- the key ahead of the k-th pair; none ahead of the first. -/
def lastKey (ps : List (ByteArray × ByteArray)) (k : Nat) : ByteArray := if k = 0 then { data := #[] } else (pe ps (k - 1)).1
theorem key_behind_none (s : ByteArray) (h : isKey (sb s) = true) : sle s { data := #[] } = false := by
  have e : (ByteArray.toList { data := #[] }) = [] := ByteArray.toList_mk []
  rcases hx : s.toList with _ | ⟨a, r⟩
  · rw [empty_str s hx] at h
    exact absurd h (by decide)
  · unfold sle
    rw [hx, e]
    rfl
theorem pairOk_last (ps : List (ByteArray × ByteArray)) (k : Nat) : pairOk ps k ↔ isKey (sb (pe ps k).1) = true ∧ valOk (sb (pe ps k).2) = true ∧ sle (pe ps k).1 (lastKey ps k) = false := by
  unfold pairOk lastKey
  by_cases h : k = 0
  · rw [if_pos h]
    exact ⟨fun x => ⟨x.1, x.2.1, key_behind_none _ x.1⟩, fun x => ⟨x.1, x.2.1, fun y => by omega⟩⟩
  · rw [if_neg h]
    exact ⟨fun x => ⟨x.1, x.2.1, x.2.2 (by omega)⟩, fun x => ⟨x.1, x.2.1, fun _ => x.2.2⟩⟩

set_option maxHeartbeats 1000000 in
theorem implMapOk_any (A : Option Addr) (n c : Nat) (ps : List (ByteArray × ByteArray)) (B : Nat) (w : World) (hn : n ≤ 1048576) (hcap : n ≤ c) (hnil : A = none → c = 0) (hm : ∀ i, (pe ps i).1.size ≤ 1048576 ∧ (pe ps i).2.size ≤ 1048576) (hB : B ≤ w.heap.size) (hb : Prs w B A n ps) :
    Calls Try.prog 8 #[.slice A n c] w fun e w' => ∃ r, e = .returned (.bool r) ∧ (r = true ↔ MapIs ps) ∧ Below w.heap.size w w' := by
  have HB := Lib.hid (hb.more hB)
  have hlen := hb.1
  clear hb
  go_enter Try.func8, Try.ntmps8
  by_cases hbig : 26 < n
  · have d0 : decide ((26 : Int) < (n : Int)) = true := decide_eq_true (by omega)
    go_wp2
    go_ret
    exact ⟨false, rfl, iff_of_false (by simp) (fun h => by have := h.2; omega), Below.refl _ _⟩
  have d0 : decide ((26 : Int) < (n : Int)) = false := decide_eq_false (by omega)
  go_wp2
  go_loopw [3, 11] (fun l i wr => ∃ k : Nat, k ≤ n ∧ i = .int .i64 k ∧ l = .string (lastKey ps k) ∧ (∀ j, j < k → pairOk ps j) ∧ Below w.heap.size w wr) (fun _ i _ => n - (intOf i).toNat)
  case atStart => exact ⟨0, Nat.zero_le _, rfl, rfl, fun j hj => absurd hj (by omega), Below.refl _ _⟩
  case round =>
    obtain ⟨k, hk, rfl, rfl, hgood, hbel⟩ := hrel
    by_cases hlt : k < n
    · obtain ⟨b, off, rfl, hbB, h0, h1⟩ := (HB.out.below hbel).at_ hlt
      have hmk := hm k
      have hsz := hbel.size
      obtain ⟨w5, hw5⟩ : ∃ w5, wr.alloc (.cells #[.string (pe ps k).1, .string (pe ps k).2] 43) = w5 := ⟨_, rfl⟩
      have b1 := Lib.hid (show Below w.heap.size w w5 from hw5 ▸ hbel.alloc hsz _)
      have X5 := Lib.hid (show Box w5 wr.heap.size 43 #[.string (pe ps k).1, .string (pe ps k).2] from hw5 ▸ heap_alloc_new _ _)
      have s5 : w5.heap.size = wr.heap.size + 1 := hw5 ▸ by simp
      have x50 := X5.out.cell 0
      have x51 := X5.out.cell 1
      simp at x50 x51
      have GD := Lib.hid hgood
      clear hbel hgood
      have hbad : ¬ pairOk ps k → ∀ r : Bool, r = false → (r = true ↔ MapIs ps) := fun hno r hr => iff_of_false (by rw [hr]; simp) (fun h => hno (h.1 k (by omega)))
      have BAD := Lib.hid hbad
      clear hbad
      have hpl := pairOk_last ps k
      have hls : lastKey ps (k + 1) = (pe ps k).1 := by unfold lastKey; rw [if_neg (by omega), Nat.add_sub_cancel]
      have LS := Lib.hid hls
      clear hls
      have KO := Lib.hid fun W => keyOk_any (pe ps k).1 W hmk.1
      have VO := Lib.hid fun W => valueOk_any (pe ps k).2 W hmk.2
      obtain ⟨ik, hik⟩ : ∃ ik, isKey (sb (pe ps k).1) = ik := ⟨_, rfl⟩
      obtain ⟨iv, hiv⟩ : ∃ iv, valOk (sb (pe ps k).2) = iv := ⟨_, rfl⟩
      obtain ⟨x, hx⟩ : ∃ x, Op.bytesLess (pe ps k).1.toList (lastKey ps k).toList = x := ⟨_, rfl⟩
      obtain ⟨y, hy⟩ : ∃ y, ((pe ps k).1.toList == (lastKey ps k).toList) = y := ⟨_, rfl⟩
      have hxy : sle (pe ps k).1 (lastKey ps k) = (x || y) := by unfold sle; rw [hx, hy]
      rw [hik] at KO hpl
      rw [hiv] at VO hpl
      rw [hxy] at hpl
      have PL := Lib.hid hpl
      clear hpl hxy hik hiv
      cases ik with
      | false =>
        have HNO := Lib.hid (show ¬ pairOk ps k from fun h => by have := (PL.out.1 h).1; cases this)
        go_wp2_with fail
        refine (KO.out _).mono ?_
        rintro e w' ⟨rfl, b2⟩
        have B2 := Lib.hid (b1.out.trans (b2.mono b1.out.size))
        clear b2
        go_wp2
        go_ret
        exact ⟨false, rfl, BAD.out HNO.out _ rfl, B2.out⟩
      | true =>
        go_wp2_with fail
        refine (KO.out _).mono ?_
        rintro e w' ⟨rfl, b2⟩
        have X6 := X5.out.below b2 (by omega)
        have x60 := X6.cell 0
        have x61 := X6.cell 1
        simp at x60 x61
        clear X6
        have B2 := Lib.hid (b1.out.trans (b2.mono b1.out.size))
        clear b2
        cases iv with
        | false =>
          have HNO := Lib.hid (show ¬ pairOk ps k from fun h => by have := (PL.out.1 h).2.1; cases this)
          go_wp2_with fail
          refine (VO.out _).mono ?_
          rintro e w' ⟨rfl, rfl⟩
          go_wp2
          go_ret
          exact ⟨false, rfl, BAD.out HNO.out _ rfl, B2.out⟩
        | true =>
          go_wp2_with fail
          refine (VO.out _).mono ?_
          rintro e w' ⟨rfl, rfl⟩
          cases x <;> cases y
          case false.false =>
            have OK := Lib.hid (show pairOk ps k from PL.out.2 (by simp))
            go_wp2
            go_roundw
            case rel =>
              refine ⟨k + 1, by omega, by go_num, by rw [LS.out], fun j hj => ?_, B2.out⟩
              rcases Nat.lt_or_ge j k with h | h
              · exact GD.out j h
              · rw [show j = k by omega]
                exact OK.out
            case measure => simp [intOf]; omega
          all_goals
            have HNO := Lib.hid (show ¬ pairOk ps k from fun h => by have := (PL.out.1 h).2.2; cases this)
            go_wp2
            go_ret
            exact ⟨false, rfl, BAD.out HNO.out _ rfl, B2.out⟩
    · go_wp2
      go_ret
      exact ⟨true, rfl, iff_of_true rfl ⟨fun i hi => hgood i (by omega), by omega⟩, hbel⟩
end Go.Proofs.Ythehmanifcfnpaa
