/- What the helpers of the exact laws do at slices of kids. -/
import Derived.Test.YtjmlpekaehfeeaaKids
import Derived.StillTailTactics
namespace Go.Proofs.Ytjmlpekaehfeeaa
set_option maxRecDepth 20000
open Go.RowKit

theorem toKid_any (a m : Int) (w : World) :
    Calls Try.prog 92 #[.agg #[.int .i64 a, .int .i64 m]] w fun e w' => e = .returned (.agg #[.int .i64 a, .int .i64 m]) ∧ Below w.heap.size w w' := by
  go_enter Try.func92, Try.ntmps92
  go_wp2
  refine bodyPost_ret (v := .agg #[.int .i64 a, .int .i64 m]) (by simp [results, Try.results92, go_sem]) rfl ?_
  exact ⟨rfl, (((Below.refl _ _).alloc (Nat.le_refl _) _).alloc (by simp) _).alloc (by simp; omega) _⟩
theorem eqKid_yes (a m : Int) (w : World) :
    Calls Try.prog 93 #[.agg #[.int .i64 a, .int .i64 m], .agg #[.int .i64 a, .int .i64 m]] w fun e w' => e = .returned (.bool true) ∧ Below w.heap.size w w' := by
  go_enter Try.func93, Try.ntmps93
  go_wp2
  go_ret
  exact ⟨rfl, ((Below.refl _ _).alloc (Nat.le_refl _) _).alloc (by simp) _⟩

/-- the kids as far as they are filled. -/
def filledK (ks : List (Int × Int)) (n k : Nat) : List (Int × Int) := ks.take k ++ List.replicate (n - k) (0, 0)
theorem filledK_len (ks : List (Int × Int)) (n k : Nat) (hk : ks.length = n) (h : k ≤ n) : (filledK ks n k).length = n := by simp [filledK]; omega
theorem filledK_set (ks : List (Int × Int)) (n k : Nat) (hz : ks.length = n) (hk : k < n) : (filledK ks n k).set k (ks[k]?.getD (0, 0)) = filledK ks n (k + 1) := by
  unfold filledK
  obtain ⟨m, hm⟩ : ∃ m, n - k = m + 1 := ⟨n - k - 1, by omega⟩
  have hm' : n - (k + 1) = m := by omega
  rw [hm, hm', List.getElem?_eq_getElem (by omega)]
  have hl : min k ks.length = k := by omega
  have e : ks.take (k + 1) = ks.take k ++ [ks[k]] := List.take_succ_eq_append_getElem (by omega)
  simp [List.replicate_succ, hl]
  rw [e, List.append_assoc]; rfl
theorem filledK_all (ks : List (Int × Int)) (n : Nat) (hz : ks.length = n) : filledK ks n n = ks := by
  unfold filledK
  rw [List.take_of_length_le (by omega)]; simp
theorem kv_rep (n : Nat) : kv (List.replicate n (0, 0)) = List.replicate (n * 2) 0 := by
  induction n with
  | zero => rfl
  | succ n ih => rw [List.replicate_succ, kv_cons, ih, show (n + 1) * 2 = n * 2 + 1 + 1 by omega]; rfl
theorem make_kids (n : Nat) (hn : n ≤ 8796093022208) (W : World) :
    (Instr.makeSlice 38 (.int .i64 (n : Int)) (.int .i64 (n : Int))).run Try.prog W = .ok (.slice (some ⟨W.heap.size, 0, none⟩) n n) (W.alloc (.cells (i64s (kv (List.replicate n (0, 0)))) 79)) := by
  obtain ⟨i0, hi, hz0, hz1, hz2⟩ := info_parts Try.infoK
  have hr := run_make (P := Try.prog) W 38 79 i0 (.agg #[.int .i64 0, .int .i64 0]) Try.underlying38 hi hz0 .i64 .i64 n n (by omega) (by omega) (by rw [hz2]; omega) (by omega)
  simp only [Int.toNat_natCast] at hr
  rw [hr, hz1, kv_rep]
  have e : madeCells (Value.agg #[.int .i64 0, .int .i64 0]).cells (n * 2) = i64s (List.replicate (n * 2) 0) := by
    apply Array.ext
    · simp [madeCells, i64s]
    · intro i h1 h2
      simp [madeCells, i64s, Value.cells]
      rcases Nat.mod_two_eq_zero_or_one i with h | h <;> simp [h]
  rw [e]
theorem OwnK.put {w : World} {base g n c : Nat} {ks : List (Int × Int)} (h : OwnK w base (some ⟨g, 0, none⟩) n c ks) (k : Nat) (a m : Int) :
    OwnK ((w.setCell ⟨g, k * 2, none⟩ (.int .i64 a)).setCell ⟨g, k * 2 + 1, none⟩ (.int .i64 m)) base (some ⟨g, 0, none⟩) n c (ks.set k (a, m)) ∧ w.grownBy ((w.setCell ⟨g, k * 2, none⟩ (.int .i64 a)).setCell ⟨g, k * 2 + 1, none⟩ (.int .i64 m)) (some g) := by
  obtain ⟨h1, g1⟩ := h.set0 k a
  obtain ⟨h2, g2⟩ := h1.set1 k m
  refine ⟨?_, g1.trans g2⟩
  have e : (ks.set k (a, (ks[k]?.getD (0, 0)).2)).set k (((ks.set k (a, (ks[k]?.getD (0, 0)).2))[k]?.getD (0, 0)).1, m) = ks.set k (a, m) := by
    rw [List.set_set]
    by_cases hk : k < ks.length
    · rw [List.getElem?_set_self (by omega)]; rfl
    · rw [List.set_eq_of_length_le (by omega), List.set_eq_of_length_le (by omega)]
  rw [e] at h2
  exact h2

theorem copyK_any (A : Option Addr) (n c : Nat) (ks : List (Int × Int)) (B : Nat) (w : World) (hn : n ≤ 8796093022208) (hB : B ≤ w.heap.size) (hb : Kids w B A n ks) :
    Calls Try.prog 79 #[.slice A n c] w (GaveK w ks) := by
  have HB := Lib.hid hb
  have hlen := hb.1
  clear hb
  have HM := Lib.hid (make_kids n hn)
  go_enter Try.func79, Try.ntmps79
  have hmk := HM.out
  go_wp2
  clear hmk
  have M0 := Lib.hid (OwnK.of_alloc w w.heap.size (List.replicate n (0, 0)) n (Nat.le_refl _) (by simp) (by unfold maxLen; omega))
  go_loopw [4] (fun i wr => ∃ k : Nat, k ≤ n ∧ i = .int .i64 k ∧ OwnK wr w.heap.size (some ⟨w.heap.size, 0, none⟩) n n (filledK ks n k) ∧ Below w.heap.size w wr) (fun i _ => n - (intOf i).toNat)
  case atStart => exact ⟨0, Nat.zero_le _, rfl, by simpa [filledK] using M0.out, (Below.refl _ _).alloc (Nat.le_refl _) _⟩
  case round =>
    obtain ⟨k, hk, rfl, hm, hbel⟩ := hrel
    by_cases hlt : k < n
    · obtain ⟨b, off, rfl, hbB, h0, h1⟩ := (HB.out.below (hbel.mono hB)).at_ hlt
      have hset := filledK_set ks n k hlen hlt
      generalize ks[k]?.getD (0, 0) = x at h0 h1 hset
      have HS := Lib.hid hset
      clear hset
      have MR := Lib.hid hm
      have BR := Lib.hid hbel
      clear hm hbel
      go_wp2_with fail
      refine (toKid_any _ _ _).mono ?_
      rintro e w1 ⟨rfl, b1⟩
      have m1 := MR.out.below b1
      have hc0 := m1.cell0 hlt
      have hc1 := m1.cell1 hlt
      have hf0 := m1.free (k * 2)
      have hf1 := m1.free (k * 2 + 1)
      have hs := m1.put k x.1 x.2
      rw [show ((x.1, x.2) : Int × Int) = x by rfl, HS.out] at hs
      have S1 := Lib.hid hs
      have B1 := Lib.hid (BR.out.trans (b1.mono BR.out.size))
      clear hs b1 m1 h0 h1
      go_wp2
      go_roundw
      case rel => exact ⟨k + 1, by omega, by go_num, S1.out.1, B1.out.grown S1.out.2 B1.out.size (fun g h => by cases h; exact Nat.le_refl _)⟩
      case measure => simp [intOf]; omega
    · go_wp2
      go_ret
      obtain rfl : k = n := by omega
      rw [filledK_all ks k hlen] at hm
      exact ⟨_, k, k, rfl, hm, hbel⟩
theorem likeK_yes (A A' : Option Addr) (n c c' : Nat) (ks : List (Int × Int)) (B B' : Nat) (w : World) (hn : n ≤ 8796093022208) (hB : B ≤ w.heap.size) (hB' : B' ≤ w.heap.size) (hb : Kids w B A n ks) (hb' : Kids w B' A' n ks) :
    Calls Try.prog 80 #[.slice A n c, .slice A' n c'] w fun e w' => e = .returned (.bool true) ∧ Below w.heap.size w w' := by
  have HB := Lib.hid (hb.more hB)
  have HB' := Lib.hid (hb'.more hB')
  clear hb hb'
  go_enter Try.func80, Try.ntmps80
  go_wp2
  go_loopw [5] (fun i wr => ∃ k : Nat, k ≤ n ∧ i = .int .i64 k ∧ Below w.heap.size w wr) (fun i _ => n - (intOf i).toNat)
  case atStart => exact ⟨0, Nat.zero_le _, rfl, Below.refl _ _⟩
  case round =>
    obtain ⟨k, hk, rfl, hbel⟩ := hrel
    by_cases hlt : k < n
    · obtain ⟨b, off, rfl, hbB, h0, h1⟩ := (HB.out.below hbel).at_ hlt
      obtain ⟨b', off', rfl, hbB', h0', h1'⟩ := (HB'.out.below hbel).at_ hlt
      generalize ks[k]?.getD (0, 0) = x at h0 h1 h0' h1'
      have BR := Lib.hid hbel
      clear hbel
      go_wp2
      go_still_tail 8, (by kernel_rfl)
      change wpList _ _ _ _ _ wr.drew
      have BD := Lib.hid BR.out.drew
      generalize wr.drew = w2 at BD
      clear h0 h1 h0' h1'
      go_wp2_with fail
      refine (eqKid_yes _ _ _).mono ?_
      rintro e w3 ⟨rfl, b3⟩
      have B3 := Lib.hid (BD.out.trans (b3.mono BD.out.size))
      clear b3
      go_wp2
      go_roundw
      case rel => exact ⟨k + 1, by omega, by go_num, B3.out⟩
      case measure => simp [intOf]; omega
    · go_wp2
      go_ret
      exact ⟨rfl, hbel⟩

/-- the marks of kids from k0 on. -/
def marksK (k0 : Int) (n : Nat) : List (Int × Int) := (List.range n).map fun (i : Nat) => (k0 + 2 * (i : Int), k0 + 2 * (i : Int) + 1)
theorem marksK_len (k0 : Int) (n : Nat) : (marksK k0 n).length = n := by simp [marksK]
theorem marksK_at (k0 : Int) (n k : Nat) (h : k < n) : (marksK k0 n)[k]?.getD (0, 0) = (k0 + 2 * (k : Int), k0 + 2 * (k : Int) + 1) := by simp [marksK, h]
def markedK (k0 : Int) (n k : Nat) (ks : List (Int × Int)) : List (Int × Int) := (marksK k0 n).take k ++ ks.drop k
theorem markedK_set (k0 : Int) (n k : Nat) (ks : List (Int × Int)) (hx : ks.length = n) (hk : k < n) : (markedK k0 n k ks).set k (k0 + 2 * (k : Int), k0 + 2 * (k : Int) + 1) = markedK k0 n (k + 1) ks := by
  unfold markedK
  have hl : min k (marksK k0 n).length = k := by have := marksK_len k0 n; omega
  have e : (marksK k0 n).take (k + 1) = (marksK k0 n).take k ++ [(k0 + 2 * (k : Int), k0 + 2 * (k : Int) + 1)] := by
    rw [List.take_succ_eq_append_getElem (by rw [marksK_len]; omega)]
    simp [marksK]
  rw [e]
  have hd : ks.drop k = ks[k] :: ks.drop (k + 1) := List.drop_eq_getElem_cons (by omega)
  have hs : (ks.drop k).set 0 (k0 + 2 * (k : Int), k0 + 2 * (k : Int) + 1) = (k0 + 2 * (k : Int), k0 + 2 * (k : Int) + 1) :: ks.drop (k + 1) := by rw [hd]; rfl
  simp [hl, hs]

theorem markK_any (A : Option Addr) (n c base : Nat) (ks : List (Int × Int)) (k0 : Int) (w : World) (h0 : 0 ≤ k0) (h1 : k0 + 2 * n ≤ 4611686018427387904) (hm : OwnK w base A n c ks) :
    Calls Try.prog 82 #[.slice A n c, .int .i64 k0] w fun e w' => e = .returned (.int .i64 (k0 + 2 * n)) ∧ OwnK w' base A n c (marksK k0 n) ∧ w.grownBy w' (Value.slice A n c).ownBlock := by
  have hx := Lib.hid hm.len
  have HM := Lib.hid hm
  clear hm
  go_enter Try.func82, Try.ntmps82
  go_wp2
  go_loopw [1, 5] (fun q i wr => ∃ k : Nat, k ≤ n ∧ i = .int .i64 k ∧ q = .int .i64 (k0 + 2 * k) ∧ OwnK wr base A n c (markedK k0 n k ks) ∧ w.grownBy wr (Value.slice A n c).ownBlock) (fun _ i _ => n - (intOf i).toNat)
  case atStart => exact ⟨0, Nat.zero_le _, rfl, by simp, HM.out, World.grownBy.refl _ _⟩
  case round =>
    obtain ⟨k, hk, rfl, rfl, hmr, hgr⟩ := hrel
    by_cases hlt : k < n
    · obtain ⟨g, rfl, hbg, hlt'⟩ := hmr.form (by omega)
      have hc0 := hmr.cell0 hlt
      have hc1 := hmr.cell1 hlt
      have hf0 := hmr.free (k * 2)
      have hf1 := hmr.free (k * 2 + 1)
      have hs := hmr.put k (k0 + 2 * (k : Int)) (k0 + 2 * (k : Int) + 1)
      rw [markedK_set k0 n k ks hx.out hlt] at hs
      have HS := Lib.hid hs
      have HG := Lib.hid hgr
      clear hs hmr hgr
      go_wp2
      go_roundw
      case rel => exact ⟨k + 1, by omega, by go_num, by go_num, HS.out.1, HG.out.trans HS.out.2⟩
      case measure => simp [intOf]; omega
    · go_wp2
      go_ret
      have e : k = n := by omega
      subst e
      refine ⟨rfl, ?_, hgr⟩
      have hd : markedK k0 k k ks = marksK k0 k := by
        unfold markedK
        rw [List.take_of_length_le (by have := marksK_len k0 k; omega), List.drop_eq_nil_of_le (by have := hx.out; omega)]; simp
      rw [hd] at hmr
      exact hmr

theorem heldK_yes (A : Option Addr) (n c : Nat) (B : Nat) (k0 : Int) (w : World) (h0 : 0 ≤ k0) (h1 : k0 + 2 * n ≤ 4611686018427387904) (hb : Kids w B A n (marksK k0 n)) :
    Calls Try.prog 84 #[.slice A n c, .int .i64 k0] w fun e w' => e = .returned (.int .i64 (k0 + 2 * n)) ∧ w = w' := by
  have HB := Lib.hid hb
  clear hb
  go_enter Try.func84, Try.ntmps84
  go_wp2
  go_loop [1, 5] (fun q i => ∃ k : Nat, k ≤ n ∧ i = .int .i64 k ∧ q = .int .i64 (k0 + 2 * k)) (fun _ i => n - (intOf i).toNat)
  case atStart => exact ⟨0, Nat.zero_le _, rfl, by simp⟩
  case round =>
    obtain ⟨k, hk, rfl, rfl⟩ := hrel
    by_cases hlt : k < n
    · obtain ⟨b, off, rfl, hbB, hc0, hc1⟩ := HB.out.at_ hlt
      rw [marksK_at k0 n k hlt] at hc0 hc1
      go_wp2
      go_round
      case rel => exact ⟨k + 1, by omega, by go_num, by go_num⟩
      case measure => simp [intOf]; omega
    · go_wp2
      go_ret
      exact ⟨ret_i64 (by omega), rfl⟩
end Go.Proofs.Ytjmlpekaehfeeaa
