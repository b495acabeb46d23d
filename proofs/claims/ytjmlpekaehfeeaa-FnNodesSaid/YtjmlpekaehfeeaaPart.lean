/- A part of some bytes behind its count: the model's l3Part. -/
import Derived.Test.YtjmlpekaehfeeaaOwnB
namespace Go.Proofs.Ytjmlpekaehfeeaa
set_option maxRecDepth 20000
open Go.RowKit

/-- what stands behind the count at 'at', 'each' bytes a piece; where it ends. -/
def part (bs : List Int) (at_ : Int) (each : Nat) : List Int × Int :=
  if at_ < 0 ∨ (bs.length : Int) ≤ at_ then ([], -1)
  else if (bs.length : Int) < at_ + 1 + each * (bs[at_.toNat]?.getD 0) then ([], -1)
  else ((bs.drop (at_.toNat + 1)).take (each * (bs[at_.toNat]?.getD 0).toNat), at_ + 1 + each * (bs[at_.toNat]?.getD 0))
theorem Byts.part {w : World} {B n b off : Nat} {bs : List Int} (h : Byts w B (some ⟨b, off, none⟩) n bs) (lo len : Nat) (hl : lo + len ≤ n) : Byts w B (some ⟨b, off + lo, none⟩) len ((bs.drop lo).take len) := by
  refine ⟨?_, fun z hz => h.2.1 z (List.mem_of_mem_drop (List.mem_of_mem_take hz)), fun hp => ?_⟩
  · have := h.1
    simp; omega
  · obtain ⟨b', off', e, hb, hc⟩ := h.2.2 (by omega)
    cases e
    refine ⟨b, off + lo, rfl, hb, fun i hi => ?_⟩
    have := hc (lo + i) (by omega)
    rw [Nat.add_assoc, this]
    simp [hi]
theorem Byts.empty_at {w : World} {B : Nat} {A : Option Addr} : Byts w B A 0 [] := ⟨rfl, by simp, fun h => absurd h (by omega)⟩

theorem l3Part_any (A : Option Addr) (n c : Nat) (bs : List Int) (at_ : Int) (each : Nat) (B : Nat) (w : World) (hn : n ≤ 1048576) (hc : n ≤ c) (h1 : -1 ≤ at_) (h2 : at_ ≤ 1048576) (he : each ≤ 9) (hb : Byts w B A n bs) :
    Calls Try.prog 69 #[.slice A n c, .int .i64 at_, .int .i64 each] w fun e w' => ∃ A' n' c', e = .returned (.tuple #[.slice A' n' c', .int .i64 (part bs at_ each).2]) ∧ n' ≤ c' ∧ Byts w' B A' n' (part bs at_ each).1 ∧ Below w.heap.size w w' := by
  have HB := Lib.hid hb
  have hlen : bs.length = n := hb.1
  clear hb
  by_cases hneg : at_ < 0
  · have hp := Lib.hid (show part bs at_ each = ([], -1) from if_pos (Or.inl hneg))
    go_enter Try.func69, Try.ntmps69
    go_wp2
    go_ret2
    rw [hp.out]
    exact ⟨_, 0, 0, rfl, Nat.le_refl _, Byts.empty_at, (Below.refl _ _).alloc (Nat.le_refl _) _⟩
  obtain ⟨k, rfl⟩ : ∃ k : Nat, at_ = k := ⟨at_.toNat, by omega⟩
  by_cases hge : n ≤ k
  · have hp := Lib.hid (show part bs k each = ([], -1) from if_pos (Or.inr (by omega)))
    go_enter Try.func69, Try.ntmps69
    go_wp2
    go_ret2
    rw [hp.out]
    exact ⟨_, 0, 0, rfl, Nat.le_refl _, Byts.empty_at, (Below.refl _ _).alloc (Nat.le_refl _) _⟩
  obtain ⟨b, off, rfl, hbB, hcell⟩ := HB.out.at_ (k := k) (by omega)
  have hr := HB.out.range k
  have hx : bs[k]?.getD 0 = bs[((k : Nat) : Int).toNat]?.getD 0 := by simp
  obtain ⟨x, hxx⟩ : ∃ x : Nat, bs[k]?.getD 0 = x := ⟨(bs[k]?.getD 0).toNat, by omega⟩
  rw [hxx] at hcell hr
  have hmul : (each : Int) * (x : Int) ≤ 2295 := by
    have h1 : each * x ≤ 9 * 255 := Nat.mul_le_mul he (by omega)
    have h2 : each * x ≤ 2295 := h1
    rw [← Int.natCast_mul]
    omega
  have hmul0 : (0 : Int) ≤ (each : Int) * (x : Int) := by rw [← Int.natCast_mul]; omega
  by_cases hbig : (n : Int) < (k : Int) + 1 + each * x
  · have hp : part bs k each = ([], -1) := by
      unfold part
      rw [if_neg (by omega), ← hx, hxx, if_pos (by omega)]
    have HPP := Lib.hid hp
    have hd : decide ((n : Int) < (k : Int) + 1 + each * x) = true := decide_eq_true hbig
    clear hp hx hbig
    go_enter Try.func69, Try.ntmps69
    go_wp2
    go_ret2
    rw [HPP.out]
    exact ⟨_, 0, 0, rfl, Nat.le_refl _, Byts.empty_at, (Below.refl _ _).alloc (Nat.le_refl _) _⟩
  · have hp : part bs k each = ((bs.drop (k + 1)).take (each * x), (k : Int) + 1 + each * x) := by
      unfold part
      rw [if_neg (by omega), ← hx, hxx, if_neg (by omega)]
      simp
    have HPP := Lib.hid hp
    clear hp hx
    have hle : k + 1 + each * x ≤ n := by
      have : ((k + 1 + each * x : Nat) : Int) ≤ n := by push_cast; omega
      omega
    have hlo : (0 : Int) ≤ (k : Int) + 1 := by omega
    have hhi : (k : Int) + 1 ≤ (k : Int) + 1 + each * x := by omega
    have hcap : (k : Int) + 1 + each * x ≤ (c : Int) := by omega
    go_enter Try.func69, Try.ntmps69
    go_wp2
    · go_ret2
      rw [HPP.out]
      have hz : each * x = 0 := by omega
      exact ⟨_, _, _, rfl, by omega, by rw [hz, List.take_zero]; exact Byts.empty_at, Below.refl _ _⟩
    · go_ret2
      rw [HPP.out]
      exact ⟨_, _, _, rfl, by omega, (HB.out.part (k + 1) (each * x) hle).more (by omega), Below.refl _ _⟩
end Go.Proofs.Ytjmlpekaehfeeaa
