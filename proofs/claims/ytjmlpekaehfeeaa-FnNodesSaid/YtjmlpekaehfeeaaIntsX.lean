/- What the helpers of the exact laws do at slices of int64: a copy is a new row of the same numbers; two that read alike are told alike; what marking and holding leave. -/
import Derived.Test.YtjmlpekaehfeeaaInts
namespace Go.Proofs.Ytjmlpekaehfeeaa
set_option maxRecDepth 20000
open Go.RowKit

theorem copyI_any (A : Option Addr) (n c : Nat) (zs : List Int) (B : Nat) (w : World) (hn : n ≤ 17592186044416) (hB : B ≤ w.heap.size) (hb : Ints w B A n zs) :
    Calls Try.prog 38 #[.slice A n c] w (GaveI w zs) := by
  have hlen : zs.length = n := hb.1
  have HL := Lib.hid hlen
  have HB := Lib.hid hb
  clear hb hlen
  have HM := Lib.hid (make_ints zs n hn)
  go_enter Try.func38, Try.ntmps38
  have hmk := HM.out
  go_wp2
  clear hmk
  go_loopw [4] (fun i wr => ∃ k : Nat, k ≤ n ∧ i = .int .i64 k ∧ wr = w.alloc (.cells (filledI zs n k) 2)) (fun i _ => n - (intOf i).toNat)
  case atStart => exact ⟨0, Nat.zero_le _, rfl, rfl⟩
  case round =>
    obtain ⟨k, hk, rfl, rfl⟩ := hrel
    by_cases hlt : k < n
    · obtain ⟨b, off, rfl, hbB, hc⟩ := HB.out.at_ hlt
      have hbw : b < w.heap.size := by omega
      have hg : (filledI zs n k)[k]? = some (.int .i64 0) := filledI_at zs n k HL.out hlt
      have hst := Lib.hid (filledI_set zs n k HL.out hlt)
      go_wp2
      go_roundw
      case rel => exact ⟨k + 1, by omega, by go_num, by rw [hst.out]⟩
      case measure => simp [intOf]; omega
    · go_wp2
      go_ret
      exact ⟨_, n, n, rfl, by rw [show k = n by omega, filledI_all zs n HL.out]; exact OwnI.of_alloc w _ zs n (Nat.le_refl _) HL.out (by unfold maxLen; omega), (Below.refl _ _).alloc (Nat.le_refl _) _⟩

theorem likeI_yes (A A' : Option Addr) (n c c' : Nat) (zs : List Int) (B B' : Nat) (w : World) (hn : n ≤ 9223372036854775807) (hb : Ints w B A n zs) (hb' : Ints w B' A' n zs) :
    Calls Try.prog 39 #[.slice A n c, .slice A' n c'] w fun e w' => e = .returned (.bool true) ∧ ∃ m, w' = w.drewN m := by
  have HB := Lib.hid hb
  have HB' := Lib.hid hb'
  clear hb hb'
  go_enter Try.func39, Try.ntmps39
  go_wp2
  go_loopw [5] (fun i wr => ∃ k m : Nat, k ≤ n ∧ i = .int .i64 k ∧ wr = w.drewN m) (fun i _ => n - (intOf i).toNat)
  case atStart => exact ⟨0, 0, Nat.zero_le _, rfl, rfl⟩
  case round =>
    obtain ⟨k, m, hk, rfl, rfl⟩ := hrel
    by_cases hlt : k < n
    · obtain ⟨b, off, rfl, hbB, hc⟩ := HB.out.at_ hlt
      obtain ⟨b', off', rfl, hbB', hc'⟩ := HB'.out.at_ hlt
      go_wp2
      go_quiet (fail)
      go_wp2
      go_roundw
      case rel => exact ⟨k + 1, _, by omega, by go_num, rfl⟩
      case measure => simp [intOf]; omega
    · go_wp2
      go_ret
      exact ⟨rfl, m, rfl⟩

/-- the marks from k0 on. -/
def marksI (k0 : Int) (n : Nat) : List Int := (List.range n).map fun (i : Nat) => k0 + (i : Int)
theorem marksI_len (k0 : Int) (n : Nat) : (marksI k0 n).length = n := by simp [marksI]
theorem marksI_at (k0 : Int) (n k : Nat) (h : k < n) : (marksI k0 n)[k]?.getD 0 = k0 + (k : Int) := by simp [marksI, h]
def markedI (k0 : Int) (n k : Nat) (xs : List Int) : List Int := (marksI k0 n).take k ++ xs.drop k
theorem markedI_set (k0 : Int) (n k : Nat) (xs : List Int) (hx : xs.length = n) (hk : k < n) : (markedI k0 n k xs).set k (k0 + (k : Int)) = markedI k0 n (k + 1) xs := by
  unfold markedI
  have hl : min k (marksI k0 n).length = k := by have := marksI_len k0 n; omega
  rw [take_step (marksI k0 n) k (by have := marksI_len k0 n; omega), marksI_at k0 n k hk]
  have hd : xs.drop k = xs[k] :: xs.drop (k + 1) := List.drop_eq_getElem_cons (by omega)
  have hs : (xs.drop k).set 0 (k0 + (k : Int)) = (k0 + (k : Int)) :: xs.drop (k + 1) := by rw [hd]; rfl
  simp [hl, hs]

theorem markI_any (A : Option Addr) (n c base : Nat) (xs : List Int) (k0 : Int) (w : World) (h0 : 0 ≤ k0) (h1 : k0 + n ≤ 4611686018427387904) (hm : OwnI w base A n c xs) :
    Calls Try.prog 81 #[.slice A n c, .int .i64 k0] w fun e w' => e = .returned (.int .i64 (k0 + n)) ∧ OwnI w' base A n c (marksI k0 n) ∧ w.grownBy w' (Value.slice A n c).ownBlock := by
  have hx := Lib.hid hm.len
  have HM := Lib.hid hm
  clear hm
  go_enter Try.func81, Try.ntmps81
  go_wp2
  go_loopw [1, 5] (fun q i wr => ∃ k : Nat, k ≤ n ∧ i = .int .i64 k ∧ q = .int .i64 (k0 + k) ∧ OwnI wr base A n c (markedI k0 n k xs) ∧ w.grownBy wr (Value.slice A n c).ownBlock) (fun _ i _ => n - (intOf i).toNat)
  case atStart => exact ⟨0, Nat.zero_le _, rfl, by simp, HM.out, World.grownBy.refl _ _⟩
  case round =>
    obtain ⟨k, hk, rfl, rfl, hmr, hgr⟩ := hrel
    by_cases hlt : k < n
    · obtain ⟨g, rfl, hbg, hlt'⟩ := hmr.form (by omega)
      have hc := hmr.cell hlt
      have hf := hmr.free k
      have hs := hmr.set_ k (k0 + (k : Int))
      rw [markedI_set k0 n k xs hx.out hlt] at hs
      have HS := Lib.hid hs
      have HG := Lib.hid hgr
      clear hs hmr hgr
      go_wp2
      go_roundw
      case rel => exact ⟨k + 1, by omega, by go_num, by go_num, HS.out.1, HG.out.trans HS.out.2⟩
      case measure => simp [intOf]; omega
    · go_wp2
      go_ret
      have e : k = n := by omega
      subst e
      refine ⟨rfl, ?_, hgr⟩
      have hd : markedI k0 k k xs = marksI k0 k := by
        unfold markedI
        rw [List.take_of_length_le (by have := marksI_len k0 k; omega), List.drop_eq_nil_of_le (by have := hx.out; omega)]; simp
      rw [hd] at hmr
      exact hmr

theorem heldI_yes (A : Option Addr) (n c : Nat) (B : Nat) (k0 : Int) (w : World) (h0 : 0 ≤ k0) (h1 : k0 + n ≤ 4611686018427387904) (hb : Ints w B A n (marksI k0 n)) :
    Calls Try.prog 83 #[.slice A n c, .int .i64 k0] w fun e w' => e = .returned (.int .i64 (k0 + n)) ∧ w = w' := by
  have HB := Lib.hid hb
  clear hb
  go_enter Try.func83, Try.ntmps83
  go_wp2
  go_loop [1, 5] (fun q i => ∃ k : Nat, k ≤ n ∧ i = .int .i64 k ∧ q = .int .i64 (k0 + k)) (fun _ i => n - (intOf i).toNat)
  case atStart => exact ⟨0, Nat.zero_le _, rfl, by simp⟩
  case round =>
    obtain ⟨k, hk, rfl, rfl⟩ := hrel
    by_cases hlt : k < n
    · obtain ⟨b, off, rfl, hbB, hc⟩ := HB.out.at_ hlt
      rw [marksI_at k0 n k hlt] at hc
      go_wp2
      go_round
      case rel => exact ⟨k + 1, by omega, by go_num, by go_num⟩
      case measure => simp [intOf]; omega
    · go_wp2
      go_ret
      exact ⟨ret_i64 (by omega), rfl⟩
end Go.Proofs.Ytjmlpekaehfeeaa
