/- The name of which eight bytes are the bytes, as the program and as the model read it. -/
import Derived.Test.YthehmanifcfnpaaStd
import Derived.Laws.BitsAllLaws
import Derived.Laws.BitsLemmas
namespace Go.Proofs.Ythehmanifcfnpaa
set_option maxRecDepth 20000
open Go.RowKit

/-- the number that these bytes write, the lowest one first. -/
def leVal : List Int → Int
  | [] => 0
  | z :: r => z + 256 * leVal r
theorem leVal_append (a : List Int) (c : Int) : leVal (a ++ [c]) = leVal a + c * 2 ^ (8 * a.length) := by
  induction a with
  | nil => simp [leVal]
  | cons z r ih =>
    simp only [List.cons_append, leVal, ih, List.length_cons]
    rw [show 8 * (r.length + 1) = 8 * r.length + 8 by omega, Int.pow_add, show (2 : Int) ^ 8 = 256 by rfl, Int.mul_add, ← Int.mul_assoc c, Int.mul_comm _ 256, ← Int.add_assoc]
theorem leVal_bd (zs : List Int) (h : ∀ z ∈ zs, 0 ≤ z ∧ z ≤ 255) : 0 ≤ leVal zs ∧ leVal zs < 2 ^ (8 * zs.length) := by
  induction zs with
  | nil => simp [leVal]
  | cons z r ih =>
    have hz := h z (by simp)
    have ir := ih fun y hy => h y (by simp [hy])
    simp only [leVal, List.length_cons]
    rw [show 8 * (r.length + 1) = 8 * r.length + 8 by omega, Int.pow_add, show (2 : Int) ^ 8 = 256 by rfl]
    omega
theorem leVal_take (zs : List Int) (k : Nat) (h : k < zs.length) : leVal (zs.take (k + 1)) = leVal (zs.take k) + zs[k]?.getD 0 * 2 ^ (8 * k) := by
  rw [take_step zs k h, leVal_append]
  rw [show (zs.take k).length = k by simp; omega]
theorem leVal_drop (zs : List Int) (k : Nat) (h : k < zs.length) : leVal (zs.drop k) = zs[k]?.getD 0 + 256 * leVal (zs.drop (k + 1)) := by
  rw [List.drop_eq_getElem_cons h, leVal, List.getElem?_eq_getElem h]; rfl
theorem leVal_drop_le (zs : List Int) (h : ∀ z ∈ zs, 0 ≤ z ∧ z ≤ 255) (k : Nat) : 0 ≤ leVal (zs.drop k) ∧ leVal (zs.drop k) ≤ leVal zs := by
  refine ⟨(leVal_bd _ fun z hz => h z (List.mem_of_mem_drop hz)).1, ?_⟩
  induction k with
  | zero => simp
  | succ k ih =>
    by_cases hk : k < zs.length
    · have h1 := leVal_drop zs k hk
      have h2 := (leVal_bd (zs.drop (k + 1)) fun z hz => h z (List.mem_of_mem_drop hz)).1
      have h3 : 0 ≤ zs[k]?.getD 0 := by rw [List.getElem?_eq_getElem hk]; exact (h _ (List.getElem_mem hk)).1
      omega
    · rw [List.drop_eq_nil_of_le (by omega)]
      rw [List.drop_eq_nil_of_le (by omega)] at ih
      exact ih
theorem mem_at (zs : List Int) (h : ∀ z ∈ zs, 0 ≤ z ∧ z ≤ 255) (k : Nat) : 0 ≤ zs[k]?.getD 0 ∧ zs[k]?.getD 0 ≤ 255 := by
  by_cases hk : k < zs.length
  · rw [List.getElem?_eq_getElem hk]; exact h _ (List.getElem_mem hk)
  · rw [List.getElem?_eq_none (by omega)]; simp
theorem leVal_8 (zs : List Int) (h : ∀ z ∈ zs, 0 ≤ z ∧ z ≤ 255) (hl : zs.length = 8) : ∃ s, 0 ≤ s ∧ s < 72057594037927936 ∧ leVal zs = s + zs[7]?.getD 0 * 72057594037927936 := by
  have h1 := leVal_take zs 7 (by omega)
  have h2 := leVal_bd (zs.take 7) fun z hz => h z (List.mem_of_mem_take hz)
  rw [List.take_of_length_le (by omega)] at h1
  rw [show (zs.take 7).length = 7 by simp; omega] at h2
  exact ⟨_, h2.1, h2.2, h1⟩
theorem or_nat (a b : Nat) (ha : a < 18446744073709551616) (hb : b < 18446744073709551616) (y : Int) (hy : y = IntKind.i64.wrap (b : Int)) : bits .or .i64 (a : Int) y = IntKind.i64.wrap ((a ||| b : Nat) : Int) := by
  subst hy
  show IntKind.i64.wrap ((BitVec.ofInt 64 (a : Int) ||| BitVec.ofInt 64 (IntKind.i64.wrap (b : Int))).toNat : Int) = _
  have h2 : BitVec.ofInt 64 (IntKind.i64.wrap (b : Int)) = BitVec.ofInt 64 (b : Int) := by
    apply BitVec.eq_of_toNat_eq
    simp only [BitVec.toNat_ofInt, IntKind.wrap_i64]
    omega
  rw [h2, BitVec.toNat_or, ofInt_u64 a ha, ofInt_u64 b hb]
/-- what is read of the first k bytes, as the sum wraps. -/
def leW (zs : List Int) (k : Nat) : Int := wrap64 (leVal (zs.take k))
theorem wrap64_eq (n : Int) : wrap64 n = IntKind.i64.wrap n := by rw [IntKind.wrap_i64, wrap64]
theorem or_step (s c : Int) (k : Nat) (hk : k ≤ 7) (hs : 0 ≤ s ∧ s < 2 ^ (8 * k)) (hc : 0 ≤ c ∧ c ≤ 255) : bits .or .i64 s (wrap64 (c * 2 ^ (8 * k))) = wrap64 (s + c * 2 ^ (8 * k)) := by
  obtain ⟨a, rfl⟩ : ∃ a : Nat, s = a := ⟨s.toNat, by omega⟩
  obtain ⟨d, rfl⟩ : ∃ d : Nat, c = d := ⟨c.toNat, by omega⟩
  have hp : ((2 : Int) ^ (8 * k)) = ((2 ^ (8 * k) : Nat) : Int) := by simp
  have ha : a < 2 ^ (8 * k) := by have := hs.2; rw [hp] at this; omega
  have hle : 2 ^ (8 * k) ≤ 2 ^ 56 := Nat.pow_le_pow_right (by omega) (by omega)
  have hb : d * 2 ^ (8 * k) ≤ 255 * 2 ^ 56 := Nat.mul_le_mul (by omega) hle
  have hm : ((d : Int) * 2 ^ (8 * k)) = ((d * 2 ^ (8 * k) : Nat) : Int) := by simp
  rw [hm, wrap64_eq ((d * 2 ^ (8 * k) : Nat) : Int), or_nat a (d * 2 ^ (8 * k)) (by omega) (by omega) _ rfl, Nat.or_comm, nat_join (8 * k) _ _ (by simp) ha]
  rw [IntKind.wrap_i64]
  unfold wrap64
  generalize d * 2 ^ (8 * k) = X
  omega
theorem leW_step (zs : List Int) (h : ∀ z ∈ zs, 0 ≤ z ∧ z ≤ 255) (k : Nat) (hk : k < zs.length) (h7 : k ≤ 7) :
    bits .or .i64 (leW zs k) (wrap64 (zs[k]?.getD 0 * 2 ^ (8 * k))) = leW zs (k + 1) := by
  have hb := leVal_bd (zs.take k) fun z hz => h z (List.mem_of_mem_take hz)
  rw [show (zs.take k).length = k by simp; omega] at hb
  have hle : (2 : Int) ^ (8 * k) ≤ 2 ^ 56 := by
    have : 2 ^ (8 * k) ≤ 2 ^ 56 := Nat.pow_le_pow_right (by omega) (by omega)
    exact_mod_cast this
  unfold leW
  rw [leVal_take zs k hk, show wrap64 (leVal (zs.take k)) = leVal (zs.take k) by unfold wrap64; omega]
  exact or_step _ _ k h7 hb (mem_at zs h k)
theorem leW_0 (zs : List Int) : leW zs 0 = 0 := by simp [leW, leVal, wrap64]
theorem leW_yes (zs : List Int) (h : ∀ z ∈ zs, 0 ≤ z ∧ z ≤ 255) (hl : zs.length = 8) (h7 : zs[7]?.getD 0 ≤ 127) : leW zs 8 = leVal zs ∧ 0 ≤ leVal zs ∧ leVal zs ≤ 9223372036854775807 := by
  obtain ⟨s, h1, h2, h3⟩ := leVal_8 zs h hl
  have hm := mem_at zs h 7
  unfold leW wrap64
  rw [List.take_of_length_le (by omega)]
  omega
theorem leW_no (zs : List Int) (h : ∀ z ∈ zs, 0 ≤ z ∧ z ≤ 255) (hl : zs.length = 8) (h7 : (127 : Int) < zs[7]?.getD 0) : leW zs 8 < 0 := by
  obtain ⟨s, h1, h2, h3⟩ := leVal_8 zs h hl
  have hm := mem_at zs h 7
  unfold leW wrap64
  rw [List.take_of_length_le (by omega)]
  omega

theorem from_no_len (A : Option Addr) (n c : Nat) (w : World) (hn : n ≠ 8) :
    Calls Try.prog 85 #[.slice A n c] w fun e w' => e = .returned (.tuple #[.int .i64 0, .bool false]) ∧ w = w' := by
  go_enter Try.func85, Try.ntmps85
  go_wp2
  go_ret2
  exact ⟨rfl, rfl⟩
theorem specFrom_no_len (A : Option Addr) (n c : Nat) (w : World) (hn : n ≠ 8) :
    Calls Try.prog 63 #[.slice A n c] w fun e w' => e = .returned (.tuple #[.int .i64 0, .bool false]) ∧ w = w' := by
  go_enter Try.func63, Try.ntmps63
  go_wp2
  go_ret2
  exact ⟨rfl, rfl⟩

theorem from_high (A : Option Addr) (c : Nat) (zs : List Int) (B : Nat) (w : World) (hb : Byts w B A 8 zs) (h7 : (127 : Int) < zs[7]?.getD 0) :
    Calls Try.prog 85 #[.slice A 8 c] w fun e w' => e = .returned (.tuple #[.int .i64 0, .bool false]) ∧ w = w' := by
  have HN := Lib.hid (leW_no zs hb.2.1 hb.1 h7)
  have H0 := Lib.hid (leW_0 zs)
  have HB := Lib.hid hb
  clear hb h7
  go_enter Try.func85, Try.ntmps85
  go_wp2
  go_loop [4, 12] (fun s i => ∃ k : Nat, k ≤ 8 ∧ i = .int .i64 k ∧ s = .int .i64 (leW zs k)) (fun _ i => 8 - (intOf i).toNat)
  case atStart => exact ⟨0, Nat.zero_le _, rfl, by rw [H0.out]⟩
  case round =>
    obtain ⟨k, hk, rfl, rfl⟩ := hrel
    by_cases hlt : k < 8
    · obtain ⟨b, off, rfl, _, hc⟩ := HB.out.at_ hlt
      have hr := HB.out.range k
      have HS := Lib.hid (leW_step zs HB.out.2.1 k (by have := HB.out.1; omega) (by omega))
      go_wp2
      go_round
      case rel => exact ⟨k + 1, by omega, by go_num, by rw [HS.out]⟩
      case measure => simp [intOf]; omega
    · obtain rfl : k = 8 := by omega
      have hneg := HN.out
      go_wp2
      go_ret2
      exact ⟨rfl, rfl⟩
theorem from_yes (A : Option Addr) (c : Nat) (zs : List Int) (B : Nat) (w : World) (hb : Byts w B A 8 zs) (h7 : zs[7]?.getD 0 ≤ (127 : Int)) :
    Calls Try.prog 85 #[.slice A 8 c] w fun e w' => e = .returned (.tuple #[.int .i64 (leVal zs), .bool true]) ∧ w = w' := by
  have HN := Lib.hid (leW_yes zs hb.2.1 hb.1 h7)
  have H0 := Lib.hid (leW_0 zs)
  have HB := Lib.hid hb
  clear hb h7
  go_enter Try.func85, Try.ntmps85
  go_wp2
  go_loop [4, 12] (fun s i => ∃ k : Nat, k ≤ 8 ∧ i = .int .i64 k ∧ s = .int .i64 (leW zs k)) (fun _ i => 8 - (intOf i).toNat)
  case atStart => exact ⟨0, Nat.zero_le _, rfl, by rw [H0.out]⟩
  case round =>
    obtain ⟨k, hk, rfl, rfl⟩ := hrel
    by_cases hlt : k < 8
    · obtain ⟨b, off, rfl, _, hc⟩ := HB.out.at_ hlt
      have hr := HB.out.range k
      have HS := Lib.hid (leW_step zs HB.out.2.1 k (by have := HB.out.1; omega) (by omega))
      go_wp2
      go_round
      case rel => exact ⟨k + 1, by omega, by go_num, by rw [HS.out]⟩
      case measure => simp [intOf]; omega
    · obtain rfl : k = 8 := by omega
      have hpos : 0 ≤ leW zs 8 := by have := HN.out; omega
      go_wp2
      go_ret2
      exact ⟨by rw [HN.out.1]; rfl, rfl⟩

theorem specFrom_high (A : Option Addr) (c : Nat) (zs : List Int) (B : Nat) (w : World) (hb : Byts w B A 8 zs) (h7 : (127 : Int) < zs[7]?.getD 0) :
    Calls Try.prog 63 #[.slice A 8 c] w fun e w' => e = .returned (.tuple #[.int .i64 0, .bool false]) ∧ w = w' := by
  obtain ⟨b, off, rfl, _, hc⟩ := hb.at_ (k := 7) (by omega)
  have hr := hb.range 7
  clear hb
  go_enter Try.func63, Try.ntmps63
  go_wp2
  go_ret2
  exact ⟨rfl, rfl⟩
theorem specFrom_yes (A : Option Addr) (c : Nat) (zs : List Int) (B : Nat) (w : World) (hb : Byts w B A 8 zs) (h7 : zs[7]?.getD 0 ≤ (127 : Int)) :
    Calls Try.prog 63 #[.slice A 8 c] w fun e w' => e = .returned (.tuple #[.int .i64 (leVal zs), .bool true]) ∧ w = w' := by
  have HN := Lib.hid (leW_yes zs hb.2.1 hb.1 h7)
  have HB := Lib.hid hb
  obtain ⟨b, off, rfl, _, hc7⟩ := hb.at_ (k := 7) (by omega)
  have hr7 := hb.range 7
  clear hb
  go_enter Try.func63, Try.ntmps63
  go_wp2
  clear hc7 hr7 h7
  go_loop [4, 5] (fun s i => ∃ m : Nat, m ≤ 8 ∧ i = .int .i64 ((m : Int) - 1) ∧ s = .int .i64 (leVal (zs.drop m))) (fun _ i => (intOf i + 1).toNat)
  case atStart => exact ⟨8, Nat.le_refl _, rfl, by rw [List.drop_eq_nil_of_le (by have := HB.out.1; omega)]; rfl⟩
  case round =>
    obtain ⟨m, hm, rfl, rfl⟩ := hrel
    rcases m with _ | k
    · go_wp2
      go_ret2
      exact ⟨rfl, rfl⟩
    · have e1 : ((k + 1 : Nat) : Int) - 1 = (k : Int) := by omega
      rw [e1]
      clear e1
      obtain ⟨b', off', hA, _, hc⟩ := HB.out.at_ (k := k) (by omega)
      injection hA with hA
      injection hA with hA1 hA2
      subst hA1 hA2
      have hr := HB.out.range k
      have hd1 := leVal_drop_le zs HB.out.2.1 (k + 1)
      have hd0 := leVal_drop_le zs HB.out.2.1 k
      have HS := Lib.hid (leVal_drop zs k (by have := HB.out.1; omega))
      have hbd : leVal (zs.drop (k + 1)) * 256 + zs[k]?.getD 0 ≤ 9223372036854775807 := by have := HN.out; have := HS.out; omega
      go_wp2
      go_round
      case rel => exact ⟨k, by omega, rfl, by rw [HS.out]; go_num⟩
      case measure => simp [intOf]
end Go.Proofs.Ythehmanifcfnpaa
