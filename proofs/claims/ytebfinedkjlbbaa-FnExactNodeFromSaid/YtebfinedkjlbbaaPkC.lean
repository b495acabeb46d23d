/- Several texts in one, in build order: KidsX, IntsX, NodeX, Conv, NodeF, Cells, CellM, Sums, CellS, OpenCells, CellsX, CellsY. -/
import Derived.Test.YtebfinedkjlbbaaPkB
import Derived.StillTailTactics
import Derived.Laws.BytesArg
import Derived.Deep.RegionLaw
import Derived.Deep.AppendLies
import Derived.BigRegion
import Derived.Deep.RegionHeld3
import Derived.Test.YtebfinedkjlbbaaRows
import Derived.LoopTactic
import Derived.Outline
-- KidsX: What the helpers of the exact laws do at slices of kids.
namespace Go.Proofs.Ytebfinedkjlbbaa
set_option maxRecDepth 20000
open Go.RowKit

theorem toKid_any (a m : Int) (w : World) :
    Calls Try.prog 130 #[.agg #[.int .i64 a, .int .i64 m]] w fun e w' => e = .returned (.agg #[.int .i64 a, .int .i64 m]) ∧ Below w.heap.size w w' := by
  go_enter Try.func130, Try.ntmps130
  go_wp2
  refine bodyPost_ret (v := .agg #[.int .i64 a, .int .i64 m]) (by simp [results, Try.results130, go_sem]) rfl ?_
  exact ⟨rfl, (((Below.refl _ _).alloc (Nat.le_refl _) _).alloc (by simp) _).alloc (by simp; omega) _⟩
theorem eqKid_yes (a m : Int) (w : World) :
    Calls Try.prog 114 #[.agg #[.int .i64 a, .int .i64 m], .agg #[.int .i64 a, .int .i64 m]] w fun e w' => e = .returned (.bool true) ∧ Below w.heap.size w w' := by
  go_enter Try.func114, Try.ntmps114
  go_wp2
  go_ret
  exact ⟨rfl, ((Below.refl _ _).alloc (Nat.le_refl _) _).alloc (by simp) _⟩

/-- the kids as far as they are filled. -/
def filledK (ks : List (Int × Int)) (n k : Nat) : List (Int × Int) := ks.take k ++ List.replicate (n - k) (0, 0)
theorem filledK_len (ks : List (Int × Int)) (n k : Nat) (hk : ks.length = n) (h : k ≤ n) : (filledK ks n k).length = n := by simp [filledK]; omega
theorem filledK_set (ks : List (Int × Int)) (n k : Nat) (hz : ks.length = n) (hk : k < n) : (filledK ks n k).set k (ks[k]?.getD (0, 0)) = filledK ks n (k + 1) := by
  unfold filledK
  obtain ⟨m, hm⟩ : ∃ m, n - k = m + 1 := ⟨n - k - 1, by omega⟩
  have hm' : n - (k + 1) = m := by omega
  rw [hm, hm', List.getElem?_eq_getElem (by omega)]
  have hl : min k ks.length = k := by omega
  have e : ks.take (k + 1) = ks.take k ++ [ks[k]] := List.take_succ_eq_append_getElem (by omega)
  simp [List.replicate_succ, hl]
  rw [e, List.append_assoc]; rfl
theorem filledK_all (ks : List (Int × Int)) (n : Nat) (hz : ks.length = n) : filledK ks n n = ks := by
  unfold filledK
  rw [List.take_of_length_le (by omega)]; simp
theorem kv_rep (n : Nat) : kv (List.replicate n (0, 0)) = List.replicate (n * 2) 0 := by
  induction n with
  | zero => rfl
  | succ n ih => rw [List.replicate_succ, kv_cons, ih, show (n + 1) * 2 = n * 2 + 1 + 1 by omega]; rfl
theorem make_kids (n : Nat) (hn : n ≤ 8796093022208) (W : World) :
    (Instr.makeSlice 24 (.int .i64 (n : Int)) (.int .i64 (n : Int))).run Try.prog W = .ok (.slice (some ⟨W.heap.size, 0, none⟩) n n) (W.alloc (.cells (i64s (kv (List.replicate n (0, 0)))) 80)) := by
  obtain ⟨i0, hi, hz0, hz1, hz2⟩ := info_parts Try.infoK
  have hr := run_make (P := Try.prog) W 24 80 i0 (.agg #[.int .i64 0, .int .i64 0]) Try.underlying24 hi hz0 .i64 .i64 n n (by omega) (by omega) (by rw [hz2]; omega) (by omega)
  simp only [Int.toNat_natCast] at hr
  rw [hr, hz1, kv_rep]
  have e : madeCells (Value.agg #[.int .i64 0, .int .i64 0]).cells (n * 2) = i64s (List.replicate (n * 2) 0) := by
    apply Array.ext
    · simp [madeCells, i64s]
    · intro i h1 h2
      simp [madeCells, i64s, Value.cells]
      rcases Nat.mod_two_eq_zero_or_one i with h | h <;> simp [h]
  rw [e]
theorem OwnK.put {w : World} {base g n c : Nat} {ks : List (Int × Int)} (h : OwnK w base (some ⟨g, 0, none⟩) n c ks) (k : Nat) (a m : Int) :
    OwnK ((w.setCell ⟨g, k * 2, none⟩ (.int .i64 a)).setCell ⟨g, k * 2 + 1, none⟩ (.int .i64 m)) base (some ⟨g, 0, none⟩) n c (ks.set k (a, m)) ∧ w.grownBy ((w.setCell ⟨g, k * 2, none⟩ (.int .i64 a)).setCell ⟨g, k * 2 + 1, none⟩ (.int .i64 m)) (some g) := by
  obtain ⟨h1, g1⟩ := h.set0 k a
  obtain ⟨h2, g2⟩ := h1.set1 k m
  refine ⟨?_, g1.trans g2⟩
  have e : (ks.set k (a, (ks[k]?.getD (0, 0)).2)).set k (((ks.set k (a, (ks[k]?.getD (0, 0)).2))[k]?.getD (0, 0)).1, m) = ks.set k (a, m) := by
    rw [List.set_set]
    by_cases hk : k < ks.length
    · rw [List.getElem?_set_self (by omega)]; rfl
    · rw [List.set_eq_of_length_le (by omega), List.set_eq_of_length_le (by omega)]
  rw [e] at h2
  exact h2

theorem copyK_any (A : Option Addr) (n c : Nat) (ks : List (Int × Int)) (B : Nat) (w : World) (hn : n ≤ 8796093022208) (hB : B ≤ w.heap.size) (hb : Kids w B A n ks) :
    Calls Try.prog 108 #[.slice A n c] w (GaveK w ks) := by
  have HB := Lib.hid hb
  have hlen := hb.1
  clear hb
  have HM := Lib.hid (make_kids n hn)
  go_enter Try.func108, Try.ntmps108
  have hmk := HM.out
  go_wp2
  clear hmk
  have M0 := Lib.hid (OwnK.of_alloc w w.heap.size (List.replicate n (0, 0)) n (Nat.le_refl _) (by simp) (by unfold maxLen; omega))
  go_loopw [4] (fun i wr => ∃ k : Nat, k ≤ n ∧ i = .int .i64 k ∧ OwnK wr w.heap.size (some ⟨w.heap.size, 0, none⟩) n n (filledK ks n k) ∧ Below w.heap.size w wr) (fun i _ => n - (intOf i).toNat)
  case atStart => exact ⟨0, Nat.zero_le _, rfl, by simpa [filledK] using M0.out, (Below.refl _ _).alloc (Nat.le_refl _) _⟩
  case round =>
    obtain ⟨k, hk, rfl, hm, hbel⟩ := hrel
    by_cases hlt : k < n
    · obtain ⟨b, off, rfl, hbB, h0, h1⟩ := (HB.out.below (hbel.mono hB)).at_ hlt
      have hset := filledK_set ks n k hlen hlt
      generalize ks[k]?.getD (0, 0) = x at h0 h1 hset
      have HS := Lib.hid hset
      clear hset
      have MR := Lib.hid hm
      have BR := Lib.hid hbel
      clear hm hbel
      go_wp2_with fail
      refine (toKid_any _ _ _).mono ?_
      rintro e w1 ⟨rfl, b1⟩
      have m1 := MR.out.below b1
      have hc0 := m1.cell0 hlt
      have hc1 := m1.cell1 hlt
      have hf0 := m1.free (k * 2)
      have hf1 := m1.free (k * 2 + 1)
      have hs := m1.put k x.1 x.2
      rw [show ((x.1, x.2) : Int × Int) = x by rfl, HS.out] at hs
      have S1 := Lib.hid hs
      have B1 := Lib.hid (BR.out.trans (b1.mono BR.out.size))
      clear hs b1 m1 h0 h1
      go_wp2
      go_roundw
      case rel => exact ⟨k + 1, by omega, by go_num, S1.out.1, B1.out.grown S1.out.2 B1.out.size (fun g h => by cases h; exact Nat.le_refl _)⟩
      case measure => simp [intOf]; omega
    · go_wp2
      go_ret
      obtain rfl : k = n := by omega
      rw [filledK_all ks k hlen] at hm
      exact ⟨_, k, k, rfl, hm, hbel⟩
theorem likeK_yes (A A' : Option Addr) (n c c' : Nat) (ks : List (Int × Int)) (B B' : Nat) (w : World) (hn : n ≤ 8796093022208) (hB : B ≤ w.heap.size) (hB' : B' ≤ w.heap.size) (hb : Kids w B A n ks) (hb' : Kids w B' A' n ks) :
    Calls Try.prog 65 #[.slice A n c, .slice A' n c'] w fun e w' => e = .returned (.bool true) ∧ Below w.heap.size w w' := by
  have HB := Lib.hid (hb.more hB)
  have HB' := Lib.hid (hb'.more hB')
  clear hb hb'
  go_enter Try.func65, Try.ntmps65
  go_wp2
  go_loopw [5] (fun i wr => ∃ k : Nat, k ≤ n ∧ i = .int .i64 k ∧ Below w.heap.size w wr) (fun i _ => n - (intOf i).toNat)
  case atStart => exact ⟨0, Nat.zero_le _, rfl, Below.refl _ _⟩
  case round =>
    obtain ⟨k, hk, rfl, hbel⟩ := hrel
    by_cases hlt : k < n
    · obtain ⟨b, off, rfl, hbB, h0, h1⟩ := (HB.out.below hbel).at_ hlt
      obtain ⟨b', off', rfl, hbB', h0', h1'⟩ := (HB'.out.below hbel).at_ hlt
      generalize ks[k]?.getD (0, 0) = x at h0 h1 h0' h1'
      have BR := Lib.hid hbel
      clear hbel
      go_wp2
      go_still_tail 8, (by kernel_rfl)
      change wpList _ _ _ _ _ wr.drew
      have BD := Lib.hid BR.out.drew
      generalize wr.drew = w2 at BD
      clear h0 h1 h0' h1'
      go_wp2_with fail
      refine (eqKid_yes _ _ _).mono ?_
      rintro e w3 ⟨rfl, b3⟩
      have B3 := Lib.hid (BD.out.trans (b3.mono BD.out.size))
      clear b3
      go_wp2
      go_roundw
      case rel => exact ⟨k + 1, by omega, by go_num, B3.out⟩
      case measure => simp [intOf]; omega
    · go_wp2
      go_ret
      exact ⟨rfl, hbel⟩

/-- the marks of kids from k0 on. -/
def marksK (k0 : Int) (n : Nat) : List (Int × Int) := (List.range n).map fun (i : Nat) => (k0 + 2 * (i : Int), k0 + 2 * (i : Int) + 1)
theorem marksK_len (k0 : Int) (n : Nat) : (marksK k0 n).length = n := by simp [marksK]
theorem marksK_at (k0 : Int) (n k : Nat) (h : k < n) : (marksK k0 n)[k]?.getD (0, 0) = (k0 + 2 * (k : Int), k0 + 2 * (k : Int) + 1) := by simp [marksK, h]
def markedK (k0 : Int) (n k : Nat) (ks : List (Int × Int)) : List (Int × Int) := (marksK k0 n).take k ++ ks.drop k
theorem markedK_set (k0 : Int) (n k : Nat) (ks : List (Int × Int)) (hx : ks.length = n) (hk : k < n) : (markedK k0 n k ks).set k (k0 + 2 * (k : Int), k0 + 2 * (k : Int) + 1) = markedK k0 n (k + 1) ks := by
  unfold markedK
  have hl : min k (marksK k0 n).length = k := by have := marksK_len k0 n; omega
  have e : (marksK k0 n).take (k + 1) = (marksK k0 n).take k ++ [(k0 + 2 * (k : Int), k0 + 2 * (k : Int) + 1)] := by
    rw [List.take_succ_eq_append_getElem (by rw [marksK_len]; omega)]
    simp [marksK]
  rw [e]
  have hd : ks.drop k = ks[k] :: ks.drop (k + 1) := List.drop_eq_getElem_cons (by omega)
  have hs : (ks.drop k).set 0 (k0 + 2 * (k : Int), k0 + 2 * (k : Int) + 1) = (k0 + 2 * (k : Int), k0 + 2 * (k : Int) + 1) :: ks.drop (k + 1) := by rw [hd]; rfl
  simp [hl, hs]

theorem markK_any (A : Option Addr) (n c base : Nat) (ks : List (Int × Int)) (k0 : Int) (w : World) (h0 : 0 ≤ k0) (h1 : k0 + 2 * n ≤ 4611686018427387904) (hm : OwnK w base A n c ks) :
    Calls Try.prog 67 #[.slice A n c, .int .i64 k0] w fun e w' => e = .returned (.int .i64 (k0 + 2 * n)) ∧ OwnK w' base A n c (marksK k0 n) ∧ w.grownBy w' (Value.slice A n c).ownBlock := by
  have hx := Lib.hid hm.len
  have HM := Lib.hid hm
  clear hm
  go_enter Try.func67, Try.ntmps67
  go_wp2
  go_loopw [1, 5] (fun q i wr => ∃ k : Nat, k ≤ n ∧ i = .int .i64 k ∧ q = .int .i64 (k0 + 2 * k) ∧ OwnK wr base A n c (markedK k0 n k ks) ∧ w.grownBy wr (Value.slice A n c).ownBlock) (fun _ i _ => n - (intOf i).toNat)
  case atStart => exact ⟨0, Nat.zero_le _, rfl, by simp, HM.out, World.grownBy.refl _ _⟩
  case round =>
    obtain ⟨k, hk, rfl, rfl, hmr, hgr⟩ := hrel
    by_cases hlt : k < n
    · obtain ⟨g, rfl, hbg, hlt'⟩ := hmr.form (by omega)
      have hc0 := hmr.cell0 hlt
      have hc1 := hmr.cell1 hlt
      have hf0 := hmr.free (k * 2)
      have hf1 := hmr.free (k * 2 + 1)
      have hs := hmr.put k (k0 + 2 * (k : Int)) (k0 + 2 * (k : Int) + 1)
      rw [markedK_set k0 n k ks hx.out hlt] at hs
      have HS := Lib.hid hs
      have HG := Lib.hid hgr
      clear hs hmr hgr
      go_wp2
      go_roundw
      case rel => exact ⟨k + 1, by omega, by go_num, by go_num, HS.out.1, HG.out.trans HS.out.2⟩
      case measure => simp [intOf]; omega
    · go_wp2
      go_ret
      have e : k = n := by omega
      subst e
      refine ⟨rfl, ?_, hgr⟩
      have hd : markedK k0 k k ks = marksK k0 k := by
        unfold markedK
        rw [List.take_of_length_le (by have := marksK_len k0 k; omega), List.drop_eq_nil_of_le (by have := hx.out; omega)]; simp
      rw [hd] at hmr
      exact hmr

theorem heldK_yes (A : Option Addr) (n c : Nat) (B : Nat) (k0 : Int) (w : World) (h0 : 0 ≤ k0) (h1 : k0 + 2 * n ≤ 4611686018427387904) (hb : Kids w B A n (marksK k0 n)) :
    Calls Try.prog 69 #[.slice A n c, .int .i64 k0] w fun e w' => e = .returned (.int .i64 (k0 + 2 * n)) ∧ w = w' := by
  have HB := Lib.hid hb
  clear hb
  go_enter Try.func69, Try.ntmps69
  go_wp2
  go_loop [1, 5] (fun q i => ∃ k : Nat, k ≤ n ∧ i = .int .i64 k ∧ q = .int .i64 (k0 + 2 * k)) (fun _ i => n - (intOf i).toNat)
  case atStart => exact ⟨0, Nat.zero_le _, rfl, by simp⟩
  case round =>
    obtain ⟨k, hk, rfl, rfl⟩ := hrel
    by_cases hlt : k < n
    · obtain ⟨b, off, rfl, hbB, hc0, hc1⟩ := HB.out.at_ hlt
      rw [marksK_at k0 n k hlt] at hc0 hc1
      go_wp2
      go_round
      case rel => exact ⟨k + 1, by omega, by go_num, by go_num⟩
      case measure => simp [intOf]; omega
    · go_wp2
      go_ret
      exact ⟨ret_i64 (by omega), rfl⟩
end Go.Proofs.Ytebfinedkjlbbaa

-- IntsX: What the helpers of the exact laws do at slices of int64: a copy is a new row of the same numbers; two that read alike are told alike; what marking and holding leave.
namespace Go.Proofs.Ytebfinedkjlbbaa
set_option maxRecDepth 20000
open Go.RowKit

theorem copyI_any (A : Option Addr) (n c : Nat) (zs : List Int) (B : Nat) (w : World) (hn : n ≤ 17592186044416) (hB : B ≤ w.heap.size) (hb : Ints w B A n zs) :
    Calls Try.prog 107 #[.slice A n c] w (GaveI w zs) := by
  have hlen : zs.length = n := hb.1
  have HL := Lib.hid hlen
  have HB := Lib.hid hb
  clear hb hlen
  have HM := Lib.hid (make_ints zs n hn)
  go_enter Try.func107, Try.ntmps107
  have hmk := HM.out
  go_wp2
  clear hmk
  go_loopw [4] (fun i wr => ∃ k : Nat, k ≤ n ∧ i = .int .i64 k ∧ wr = w.alloc (.cells (filledI zs n k) 2)) (fun i _ => n - (intOf i).toNat)
  case atStart => exact ⟨0, Nat.zero_le _, rfl, rfl⟩
  case round =>
    obtain ⟨k, hk, rfl, rfl⟩ := hrel
    by_cases hlt : k < n
    · obtain ⟨b, off, rfl, hbB, hc⟩ := HB.out.at_ hlt
      have hbw : b < w.heap.size := by omega
      have hg : (filledI zs n k)[k]? = some (.int .i64 0) := filledI_at zs n k HL.out hlt
      have hst := Lib.hid (filledI_set zs n k HL.out hlt)
      go_wp2
      go_roundw
      case rel => exact ⟨k + 1, by omega, by go_num, by rw [hst.out]⟩
      case measure => simp [intOf]; omega
    · go_wp2
      go_ret
      exact ⟨_, n, n, rfl, by rw [show k = n by omega, filledI_all zs n HL.out]; exact OwnI.of_alloc w _ zs n (Nat.le_refl _) HL.out (by unfold maxLen; omega), (Below.refl _ _).alloc (Nat.le_refl _) _⟩

theorem likeI_yes (A A' : Option Addr) (n c c' : Nat) (zs : List Int) (B B' : Nat) (w : World) (hn : n ≤ 9223372036854775807) (hb : Ints w B A n zs) (hb' : Ints w B' A' n zs) :
    Calls Try.prog 64 #[.slice A n c, .slice A' n c'] w fun e w' => e = .returned (.bool true) ∧ ∃ m, w' = w.drewN m := by
  have HB := Lib.hid hb
  have HB' := Lib.hid hb'
  clear hb hb'
  go_enter Try.func64, Try.ntmps64
  go_wp2
  go_loopw [5] (fun i wr => ∃ k m : Nat, k ≤ n ∧ i = .int .i64 k ∧ wr = w.drewN m) (fun i _ => n - (intOf i).toNat)
  case atStart => exact ⟨0, 0, Nat.zero_le _, rfl, rfl⟩
  case round =>
    obtain ⟨k, m, hk, rfl, rfl⟩ := hrel
    by_cases hlt : k < n
    · obtain ⟨b, off, rfl, hbB, hc⟩ := HB.out.at_ hlt
      obtain ⟨b', off', rfl, hbB', hc'⟩ := HB'.out.at_ hlt
      go_wp2
      go_quiet (fail)
      go_wp2
      go_roundw
      case rel => exact ⟨k + 1, _, by omega, by go_num, rfl⟩
      case measure => simp [intOf]; omega
    · go_wp2
      go_ret
      exact ⟨rfl, m, rfl⟩

/-- the marks from k0 on. -/
def marksI (k0 : Int) (n : Nat) : List Int := (List.range n).map fun (i : Nat) => k0 + (i : Int)
theorem marksI_len (k0 : Int) (n : Nat) : (marksI k0 n).length = n := by simp [marksI]
theorem marksI_at (k0 : Int) (n k : Nat) (h : k < n) : (marksI k0 n)[k]?.getD 0 = k0 + (k : Int) := by simp [marksI, h]
def markedI (k0 : Int) (n k : Nat) (xs : List Int) : List Int := (marksI k0 n).take k ++ xs.drop k
theorem markedI_set (k0 : Int) (n k : Nat) (xs : List Int) (hx : xs.length = n) (hk : k < n) : (markedI k0 n k xs).set k (k0 + (k : Int)) = markedI k0 n (k + 1) xs := by
  unfold markedI
  have hl : min k (marksI k0 n).length = k := by have := marksI_len k0 n; omega
  rw [take_step (marksI k0 n) k (by have := marksI_len k0 n; omega), marksI_at k0 n k hk]
  have hd : xs.drop k = xs[k] :: xs.drop (k + 1) := List.drop_eq_getElem_cons (by omega)
  have hs : (xs.drop k).set 0 (k0 + (k : Int)) = (k0 + (k : Int)) :: xs.drop (k + 1) := by rw [hd]; rfl
  simp [hl, hs]

theorem markI_any (A : Option Addr) (n c base : Nat) (xs : List Int) (k0 : Int) (w : World) (h0 : 0 ≤ k0) (h1 : k0 + n ≤ 4611686018427387904) (hm : OwnI w base A n c xs) :
    Calls Try.prog 66 #[.slice A n c, .int .i64 k0] w fun e w' => e = .returned (.int .i64 (k0 + n)) ∧ OwnI w' base A n c (marksI k0 n) ∧ w.grownBy w' (Value.slice A n c).ownBlock := by
  have hx := Lib.hid hm.len
  have HM := Lib.hid hm
  clear hm
  go_enter Try.func66, Try.ntmps66
  go_wp2
  go_loopw [1, 5] (fun q i wr => ∃ k : Nat, k ≤ n ∧ i = .int .i64 k ∧ q = .int .i64 (k0 + k) ∧ OwnI wr base A n c (markedI k0 n k xs) ∧ w.grownBy wr (Value.slice A n c).ownBlock) (fun _ i _ => n - (intOf i).toNat)
  case atStart => exact ⟨0, Nat.zero_le _, rfl, by simp, HM.out, World.grownBy.refl _ _⟩
  case round =>
    obtain ⟨k, hk, rfl, rfl, hmr, hgr⟩ := hrel
    by_cases hlt : k < n
    · obtain ⟨g, rfl, hbg, hlt'⟩ := hmr.form (by omega)
      have hc := hmr.cell hlt
      have hf := hmr.free k
      have hs := hmr.set_ k (k0 + (k : Int))
      rw [markedI_set k0 n k xs hx.out hlt] at hs
      have HS := Lib.hid hs
      have HG := Lib.hid hgr
      clear hs hmr hgr
      go_wp2
      go_roundw
      case rel => exact ⟨k + 1, by omega, by go_num, by go_num, HS.out.1, HG.out.trans HS.out.2⟩
      case measure => simp [intOf]; omega
    · go_wp2
      go_ret
      have e : k = n := by omega
      subst e
      refine ⟨rfl, ?_, hgr⟩
      have hd : markedI k0 k k xs = marksI k0 k := by
        unfold markedI
        rw [List.take_of_length_le (by have := marksI_len k0 k; omega), List.drop_eq_nil_of_le (by have := hx.out; omega)]; simp
      rw [hd] at hmr
      exact hmr

theorem heldI_yes (A : Option Addr) (n c : Nat) (B : Nat) (k0 : Int) (w : World) (h0 : 0 ≤ k0) (h1 : k0 + n ≤ 4611686018427387904) (hb : Ints w B A n (marksI k0 n)) :
    Calls Try.prog 68 #[.slice A n c, .int .i64 k0] w fun e w' => e = .returned (.int .i64 (k0 + n)) ∧ w = w' := by
  have HB := Lib.hid hb
  clear hb
  go_enter Try.func68, Try.ntmps68
  go_wp2
  go_loop [1, 5] (fun q i => ∃ k : Nat, k ≤ n ∧ i = .int .i64 k ∧ q = .int .i64 (k0 + k)) (fun _ i => n - (intOf i).toNat)
  case atStart => exact ⟨0, Nat.zero_le _, rfl, by simp⟩
  case round =>
    obtain ⟨k, hk, rfl, rfl⟩ := hrel
    by_cases hlt : k < n
    · obtain ⟨b, off, rfl, hbB, hc⟩ := HB.out.at_ hlt
      rw [marksI_at k0 n k hlt] at hc
      go_wp2
      go_round
      case rel => exact ⟨k + 1, by omega, by go_num, by go_num⟩
      case measure => simp [intOf]; omega
    · go_wp2
      go_ret
      exact ⟨ret_i64 (by omega), rfl⟩
end Go.Proofs.Ytebfinedkjlbbaa

-- NodeX: What the helpers of the exact laws do at nodes.
namespace Go.Proofs.Ytebfinedkjlbbaa
set_option maxRecDepth 20000
open Go.RowKit

theorem szInt64S_any (A : Option Addr) (n c left : Nat) (w : World) (hn : n ≤ maxLen) (hl : left ≤ 1048576) :
    Calls Try.prog 100 #[.slice A n c, .int .i64 left] w fun e w' => e = .returned (.int .i64 (if n ≤ left then ((left - n : Nat) : Int) else -1)) ∧ w = w' := by
  unfold maxLen at hn
  by_cases h : n ≤ left
  · rw [if_pos h]
    go_enter Try.func100, Try.ntmps100
    go_wp2
    go_ret
    exact ⟨ret_i64 (by omega), rfl⟩
  · rw [if_neg h]
    go_enter Try.func100, Try.ntmps100
    go_wp2
    go_ret
    exact ⟨rfl, rfl⟩
theorem szKidS_any (A : Option Addr) (n c left : Nat) (w : World) (hn : n ≤ maxLen) (hl : left ≤ 1048576) :
    Calls Try.prog 101 #[.slice A n c, .int .i64 left] w fun e w' => e = .returned (.int .i64 (if n ≤ left then ((left - n : Nat) : Int) else -1)) ∧ w = w' := by
  unfold maxLen at hn
  by_cases h : n ≤ left
  · rw [if_pos h]
    go_enter Try.func101, Try.ntmps101
    go_wp2
    go_ret
    exact ⟨ret_i64 (by omega), rfl⟩
  · rw [if_neg h]
    go_enter Try.func101, Try.ntmps101
    go_wp2
    go_ret
    exact ⟨rfl, rfl⟩
/-- what is left behind a node's size. -/
def leftOf (left m : Nat) : Int := if m ≤ left then ((left - m : Nat) : Int) else -1
theorem szNode_any (kind : Int) (Ap : Option Addr) (np cp : Nat) (Ak : Option Addr) (nk ck : Nat) (val : ByteArray) (left : Nat) (w : World) (h1 : np ≤ maxLen) (h2 : nk ≤ maxLen) (h3 : val.size ≤ maxLen) (hl : left ≤ 1048576) :
    Calls Try.prog 50 #[.agg #[.int .i64 kind, .slice Ap np cp, .slice Ak nk ck, .string val], .int .i64 left] w fun e w' => e = .returned (.int .i64 (leftOf left (np + nk + val.size))) ∧ Below w.heap.size w w' := by
  have b1 := (Below.refl w.heap.size w).alloc (Nat.le_refl _) (.cells #[.int .i64 kind, .slice Ap np cp, .slice Ak nk ck, .string val] 64)
  have B1 := Lib.hid b1
  clear b1
  have hv : val.size ≤ 9223372036854775807 := by unfold maxLen at h3; omega
  go_enter Try.func50, Try.ntmps50
  go_wp2_with fail
  refine (szInt64S_any _ _ _ _ _ h1 hl).mono ?_
  rintro e w' ⟨rfl, rfl⟩
  by_cases c1 : np ≤ left
  · rw [if_pos c1]
    go_wp2_with fail
    refine (szKidS_any _ _ _ (left - np) _ h2 (by omega)).mono ?_
    rintro e w' ⟨rfl, rfl⟩
    by_cases c2 : nk ≤ left - np
    · rw [if_pos c2]
      by_cases c3 : val.size ≤ left - np - nk
      · go_wp2
        go_ret
        exact ⟨ret_i64 (by unfold leftOf; rw [if_pos (by omega)]; omega), B1.out⟩
      · go_wp2
        go_ret
        exact ⟨ret_i64 (by unfold leftOf; rw [if_neg (by omega)]), B1.out⟩
    · rw [if_neg c2]
      go_wp2
      go_ret
      exact ⟨ret_i64 (by unfold leftOf; rw [if_neg (by omega)]), B1.out⟩
  · rw [if_neg c1]
    go_wp2
    go_ret
    exact ⟨ret_i64 (by unfold leftOf; rw [if_neg (by omega)]), B1.out⟩

/-- the value v is a node of the call's own: its lists lie in blocks of their own, from base on. -/
def OwnN (w : World) (base : Nat) (v : Value) (nd : MNode) : Prop :=
  ∃ Ap np cp Ak nk ck, v = .agg #[.int .i64 nd.kind, .slice Ap np cp, .slice Ak nk ck, .string nd.val] ∧ np ≤ 1048576 ∧ nk ≤ 1048576 ∧ nd.val.size ≤ 1048576 ∧ OwnI w base Ap np cp nd.path ∧ OwnK w base Ak nk ck nd.kids ∧
    ∀ g, (Value.slice Ap np cp).ownBlock = some g → (Value.slice Ak nk ck).ownBlock ≠ some g
theorem OwnN.node {w : World} {base : Nat} {v : Value} {nd : MNode} (h : OwnN w base v nd) : NodeIn w w.heap.size v nd := by
  obtain ⟨Ap, np, cp, Ak, nk, ck, rfl, h1, h2, h3, h4, h5, _⟩ := h
  exact ⟨Ap, np, cp, Ak, nk, ck, rfl, h1, h2, h3, h4.ints, h5.kids⟩
theorem OwnN.below {w w' : World} {base : Nat} {v : Value} {nd : MNode} (h : OwnN w base v nd) (hb : Below w.heap.size w w') : OwnN w' base v nd := by
  obtain ⟨Ap, np, cp, Ak, nk, ck, rfl, h1, h2, h3, h4, h5, h6⟩ := h
  exact ⟨Ap, np, cp, Ak, nk, ck, rfl, h1, h2, h3, h4.below hb, h5.below hb, h6⟩
theorem toNode_any (v : Value) (nd : MNode) (B : Nat) (w : World) (hB : B ≤ w.heap.size) (hv : NodeIn w B v nd) :
    Calls Try.prog 53 #[v] w fun e w' => ∃ v', e = .returned v' ∧ OwnN w' w.heap.size v' nd ∧ Below w.heap.size w w' := by
  obtain ⟨Ap, np, cp, Ak, nk, ck, rfl, hnp, hnk, hsz, hp, hk⟩ := hv
  obtain ⟨kind, path, kids, val⟩ := nd
  have HP := Lib.hid (hp.more hB)
  have HK := Lib.hid (hk.more hB)
  clear hp hk
  obtain ⟨w3, hw3⟩ : ∃ w3, (((w.alloc (.cells #[.int .i64 kind, .slice Ap np cp, .slice Ak nk ck, .string val] 64)).alloc (.cells #[.int .i64 0, .slice none 0 0, .slice none 0 0, .string { data := #[] }] 26)).alloc
    (.cells #[.int .i64 kind, .slice none 0 0, .slice none 0 0, .string { data := #[] }] 26)) = w3 := ⟨_, rfl⟩
  have x0 : Box w3 w.heap.size _ _ := hw3 ▸ heap3_0 _ _ _ _
  have x1 : Box w3 (w.heap.size + 1) _ _ := hw3 ▸ heap3_1 _ _ _ _
  have x2 : Box w3 (w.heap.size + 1 + 1) _ _ := hw3 ▸ heap3_2 _ _ _ _
  have s3 : w3.heap.size = w.heap.size + 3 := hw3 ▸ size3 _ _ _ _
  have b3 : Below w.heap.size w w3 := hw3 ▸ below3 _ _ _ _
  have X0 := Lib.hid x0
  have X1 := Lib.hid x1
  have X2 := Lib.hid x2
  have B3 := Lib.hid b3
  have HW := Lib.hid hw3
  clear x0 x1 x2 b3 hw3
  go_enter Try.func53, Try.ntmps53
  go_wp2_with fail
  rw [HW.out]
  refine (copyI_any _ _ _ path _ w3 (by omega) B3.out.size (HP.out.below B3.out)).mono ?_
  rintro e w4 ⟨A4, n4, c4, rfl, m4, b4⟩
  have e4 : n4 = np := m4.len.symm.trans HP.out.1
  obtain rfl := e4
  have s4 := b4.size
  have M4 := Lib.hid m4
  have X0 := Lib.hid (X0.out.below b4 (by omega))
  have X1 := Lib.hid (X1.out.below b4 (by omega))
  have X2 := Lib.hid (X2.out.below b4 (by omega))
  have B4 := Lib.hid (B3.out.trans (b4.mono (by omega)))
  clear m4 b4
  have q02 := X0.out.cell 2
  have q21 := X2.out.cell 1
  have f21 := X2.out.free 1
  simp at q02 q21
  go_wp2_with fail
  have gs := grown_set w4 (w.heap.size + 1 + 1) 1 (.slice A4 n4 c4)
  have M5 := Lib.hid (M4.out.grown gs (fun r h => by cases h; omega))
  have X0 := Lib.hid (X0.out.other (g' := w.heap.size + 1 + 1) (by omega) 1 (.slice A4 n4 c4))
  have X1 := Lib.hid (X1.out.other (g' := w.heap.size + 1 + 1) (by omega) 1 (.slice A4 n4 c4))
  have X2 := Lib.hid (X2.out.set_ 1 (.slice A4 n4 c4))
  have B5 := Lib.hid (B4.out.trans (grown_below gs B4.out.size (by omega)))
  clear gs q02 q21 f21
  generalize w4.setCell ⟨w.heap.size + 1 + 1, 1, none⟩ (.slice A4 n4 c4) = w5 at M5 X0 X1 X2 B5
  have s5 := B5.out.size
  refine (copyK_any _ _ _ kids _ w5 (by omega) s5 (HK.out.below B5.out)).mono ?_
  rintro e w6 ⟨A6, n6, c6, rfl, m6, b6⟩
  have e6 : n6 = nk := m6.len.symm.trans HK.out.1
  obtain rfl := e6
  have l1 := X1.out.lt
  have l2 := X2.out.lt
  have hA : ∀ g, (Value.slice A4 n4 c4).ownBlock = some g → g < w5.heap.size := fun g hg => (World.ownsRow.lt M5.out g hg).2
  have hA := Lib.hid hA
  have M6 := Lib.hid m6
  have M5 := Lib.hid (M5.out.below b6)
  have X0 := Lib.hid (X0.out.below b6 (by omega))
  have X1 := Lib.hid (X1.out.below b6 (by omega))
  have X2 := Lib.hid (X2.out.below b6 (by omega))
  have B6 := Lib.hid (B5.out.trans (b6.mono s5))
  clear m6 b6
  have q03 := X0.out.cell 3
  have q10 := X1.out.cell 0
  have q11 := X1.out.cell 1
  have q12 := X1.out.cell 2
  have q13 := X1.out.cell 3
  have q20 := X2.out.cell 0
  have q21 := X2.out.cell 1
  have q22 := X2.out.cell 2
  have q23 := X2.out.cell 3
  have f1 := X1.out.free
  have f2 := X2.out.free
  simp at q03 q10 q11 q12 q13 q20 q21 q22 q23
  go_wp2
  have hX := (((((X1.out.other (g' := w.heap.size + 1 + 1) (by omega) 2 (.slice A6 n6 c6)).other (g' := w.heap.size + 1 + 1) (by omega) 3 (.string val)).set_ 0 (.int .i64 kind)).set_ 1 (.slice A4 n4 c4)).set_ 2 (.slice A6 n6 c6)).set_ 3 (.string val)
  have hS : Touch (fun k => w.heap.size ≤ k ∧ k < w.heap.size + 3) w6 _ :=
    (((((touch_set w6 (w.heap.size + 1 + 1) 2 (.slice A6 n6 c6) ⟨by omega, by omega⟩).trans (touch_set _ (w.heap.size + 1 + 1) 3 (.string val) ⟨by omega, by omega⟩)).trans (touch_set _ (w.heap.size + 1) 0 (.int .i64 kind) ⟨by omega, by omega⟩)).trans
      (touch_set _ (w.heap.size + 1) 1 (.slice A4 n4 c4) ⟨by omega, by omega⟩)).trans (touch_set _ (w.heap.size + 1) 2 (.slice A6 n6 c6) ⟨by omega, by omega⟩)).trans (touch_set _ (w.heap.size + 1) 3 (.string val) ⟨by omega, by omega⟩)
  refine bodyPost_ret (v := .agg #[.int .i64 kind, .slice A4 n4 c4, .slice A6 n6 c6, .string val]) (results_cell_row Try.results53 _ _ (w.heap.size + 1) _ _ _ _ rfl hX Try.underlying26 rfl (by kernel_rfl)) rfl ?_
  have hle := B6.out.size
  exact ⟨_, rfl, ⟨A4, n4, c4, A6, n6, c6, rfl, hnp, hnk, hsz,
    (M5.out.touch hS (fun g hg h => by have := (World.ownsRow.lt M5.out g hg).1; omega)).base (by omega),
    (M6.out.touch hS (fun g hg h => by have := (World.ownsRow.lt M6.out g hg).1; omega)).base s5,
    fun g hg h => by have := hA.out g hg; have := (World.ownsRow.lt M6.out g h).1; omega⟩,
    B6.out.trans (hS.below hle (fun k hk h => by omega))⟩

theorem eqNode_yes (v v' : Value) (nd : MNode) (B B' : Nat) (w : World) (hB : B ≤ w.heap.size) (hB' : B' ≤ w.heap.size) (hv : NodeIn w B v nd) (hv' : NodeIn w B' v' nd) :
    Calls Try.prog 13 #[v, v'] w fun e w' => e = .returned (.bool true) ∧ Below w.heap.size w w' := by
  obtain ⟨Ap, np, cp, Ak, nk, ck, rfl, hnp, hnk, hsz, hp, hk⟩ := hv
  obtain ⟨Ap', np', cp', Ak', nk', ck', rfl, hnp', hnk', hsz', hp', hk'⟩ := hv'
  obtain ⟨kind, path, kids, val⟩ := nd
  have e1 : np' = np := hp'.1.symm.trans hp.1
  have e2 : nk' = nk := hk'.1.symm.trans hk.1
  obtain rfl := e1
  obtain rfl := e2
  have HP := Lib.hid (hp.more hB)
  have HK := Lib.hid (hk.more hB)
  have HP' := Lib.hid (hp'.more hB')
  have HK' := Lib.hid (hk'.more hB')
  clear hp hk hp' hk'
  obtain ⟨w3, hw3⟩ : ∃ w3, ((w.alloc (.cells #[.int .i64 kind, .slice Ap np' cp, .slice Ak nk' ck, .string val] 26)).alloc (.cells #[.int .i64 kind, .slice Ap' np' cp', .slice Ak' nk' ck', .string val] 26)) = w3 := ⟨_, rfl⟩
  have x0 : Box w3 w.heap.size _ _ := hw3 ▸ heap2_0 _ _ _
  have x1 : Box w3 (w.heap.size + 1) _ _ := hw3 ▸ heap2_1 _ _ _
  have s3 : w3.heap.size = w.heap.size + 2 := hw3 ▸ size2 _ _ _
  have b3 : Below w.heap.size w w3 := hw3 ▸ below2 _ _ _
  have X0 := Lib.hid x0
  have X1 := Lib.hid x1
  have B3 := Lib.hid b3
  have HW := Lib.hid hw3
  clear x0 x1 b3 hw3
  go_enter Try.func13, Try.ntmps13
  go_wp2_with fail
  rw [HW.out]
  refine (likeI_yes _ _ _ _ _ path _ _ w3 (by omega) (HP.out.below B3.out) (HP'.out.below B3.out)).mono ?_
  rintro e w4 ⟨rfl, m, hm⟩
  have b4 : Below w3.heap.size w3 w4 := by rw [hm]; exact below_drewN (Below.refl _ _) m
  clear hm
  have X0 := Lib.hid (X0.out.below b4 (by omega))
  have X1 := Lib.hid (X1.out.below b4 (by omega))
  have s4 := b4.size
  have B4 := Lib.hid (B3.out.trans (b4.mono (by omega)))
  clear b4
  have q02 := X0.out.cell 2
  have q12 := X1.out.cell 2
  simp at q02 q12
  go_wp2_with fail
  refine (likeK_yes _ _ _ _ _ kids _ _ w4 (by omega) B4.out.size B4.out.size (HK.out.below B4.out) (HK'.out.below B4.out)).mono ?_
  rintro e w5 ⟨rfl, b5⟩
  have X0 := Lib.hid (X0.out.below b5 (by omega))
  have X1 := Lib.hid (X1.out.below b5 (by omega))
  have B5 := Lib.hid (B4.out.trans (b5.mono (by omega)))
  clear b5 q02 q12
  have q03 := X0.out.cell 3
  have q13 := X1.out.cell 3
  simp at q03 q13
  go_wp2
  go_ret
  exact ⟨rfl, B5.out⟩

/-- block g holds one of the lists of the node v. -/
def NodeBlk (v : Value) (g : Nat) : Prop := ∃ k Ap np cp Ak nk ck s, v = .agg #[k, .slice Ap np cp, .slice Ak nk ck, s] ∧ ((Value.slice Ap np cp).ownBlock = some g ∨ (Value.slice Ak nk ck).ownBlock = some g)
theorem OwnN.blk {w : World} {base : Nat} {v : Value} {nd : MNode} (h : OwnN w base v nd) {g : Nat} (hg : NodeBlk v g) : base ≤ g ∧ g < w.heap.size := by
  obtain ⟨Ap, np, cp, Ak, nk, ck, rfl, _, _, _, h4, h5, _⟩ := h
  obtain ⟨k, Ap', np', cp', Ak', nk', ck', s, e, hg⟩ := hg
  cases e
  rcases hg with hg | hg
  · exact World.ownsRow.lt h4 g hg
  · exact World.ownsRow.lt h5 g hg
theorem OwnN.touch {S : Nat → Prop} {w w' : World} {base : Nat} {v : Value} {nd : MNode} (h : OwnN w base v nd) (t : Touch S w w') (hn : ∀ g, NodeBlk v g → ¬ S g) : OwnN w' base v nd := by
  obtain ⟨Ap, np, cp, Ak, nk, ck, rfl, h1, h2, h3, h4, h5, h6⟩ := h
  exact ⟨Ap, np, cp, Ak, nk, ck, rfl, h1, h2, h3, h4.touch t (fun g hg => hn g ⟨_, _, _, _, _, _, _, _, rfl, .inl hg⟩), h5.touch t (fun g hg => hn g ⟨_, _, _, _, _, _, _, _, rfl, .inr hg⟩), h6⟩
theorem OwnN.base {w : World} {base base' : Nat} {v : Value} {nd : MNode} (h : OwnN w base v nd) (hb : base' ≤ base) : OwnN w base' v nd := by
  obtain ⟨Ap, np, cp, Ak, nk, ck, rfl, h1, h2, h3, h4, h5, h6⟩ := h
  exact ⟨Ap, np, cp, Ak, nk, ck, rfl, h1, h2, h3, h4.base hb, h5.base hb, h6⟩
theorem markNode_any (v : Value) (nd : MNode) (base : Nat) (k0 : Int) (w : World) (h0 : 0 ≤ k0) (h1 : k0 ≤ 1000000000) (hv : OwnN w base v nd) :
    Calls Try.prog 16 #[v, .int .i64 k0] w fun e w' => ∃ k1, k0 ≤ k1 ∧ k1 ≤ k0 + 4000000 ∧ e = .returned (.int .i64 k1) ∧
      OwnN w' base v ⟨nd.kind, marksI k0 nd.path.length, marksK (k0 + nd.path.length) nd.kids.length, nd.val⟩ ∧ k1 = k0 + nd.path.length + 2 * nd.kids.length ∧
      Touch (NodeBlk v) w w' := by
  obtain ⟨Ap, np, cp, Ak, nk, ck, rfl, hnp, hnk, hsz, hp, hk, hne⟩ := hv
  obtain ⟨kind, path, kids, val⟩ := nd
  have lp : path.length = np := hp.len
  have lk : kids.length = nk := hk.len
  have HP := Lib.hid hp
  have HK := Lib.hid hk
  have HN := Lib.hid hne
  have LP := Lib.hid lp
  have LK := Lib.hid lk
  clear hp hk hne lp lk
  obtain ⟨w3, hw3⟩ : ∃ w3, w.alloc (.cells #[.int .i64 kind, .slice Ap np cp, .slice Ak nk ck, .string val] 26) = w3 := ⟨_, rfl⟩
  have x0 : Box w3 w.heap.size _ _ := hw3 ▸ heap_alloc_new _ _
  have s3 : w3.heap.size = w.heap.size + 1 := hw3 ▸ by simp
  have b3 : Below w.heap.size w w3 := hw3 ▸ (Below.refl _ _).alloc (Nat.le_refl _) _
  have X0 := Lib.hid x0
  have B3 := Lib.hid b3
  have HW := Lib.hid hw3
  clear x0 b3 hw3
  go_enter Try.func16, Try.ntmps16
  go_wp2_with fail
  rw [HW.out]
  refine (markI_any Ap np cp base path k0 w3 h0 (by omega) (HP.out.below B3.out)).mono ?_
  rintro e w4 ⟨rfl, m4, g4⟩
  have t4 := Touch.of_grown g4
  have X0 := Lib.hid (show Box w4 _ _ _ from (g4.block w.heap.size (by omega) (fun e => by have := (World.ownsRow.lt HP.out w.heap.size e.symm).2; omega)).trans X0.out)
  have K4 := Lib.hid ((HK.out.below B3.out).touch t4 (fun g hg h => HN.out g h.symm hg))
  have M4 := Lib.hid m4
  have T4 := Lib.hid ((Touch.of_below (S := NodeBlk (.agg #[.int .i64 kind, .slice Ap np cp, .slice Ak nk ck, .string val])) B3.out).trans (t4.mono (fun g h => ⟨_, _, _, _, _, _, _, _, rfl, .inl h.symm⟩)))
  have q2 := X0.out.cell 2
  simp at q2
  clear m4 g4 t4
  go_wp2_with fail
  refine (markK_any Ak nk ck base kids (k0 + np) w4 (by omega) (by omega) K4.out).mono ?_
  rintro e w5 ⟨rfl, m5, g5⟩
  have t5 := Touch.of_grown g5
  have M5 := Lib.hid (M4.out.touch t5 (fun g hg h => HN.out g hg h.symm))
  have K5 := Lib.hid m5
  have T5 := Lib.hid (T4.out.trans (t5.mono (fun g h => ⟨_, _, _, _, _, _, _, _, rfl, .inr h.symm⟩)))
  clear m5 g5 t5
  go_wp2
  go_ret
  refine ⟨k0 + np + 2 * nk, by omega, by omega, rfl, ⟨Ap, np, cp, Ak, nk, ck, rfl, hnp, hnk, hsz, ?_, ?_, HN.out⟩, ?_, T5.out⟩
  · show OwnI w5 base Ap np cp (marksI k0 path.length); rw [LP.out]; exact M5.out
  · show OwnK w5 base Ak nk ck (marksK (k0 + path.length) kids.length); rw [LP.out, LK.out]; exact K5.out
  · show k0 + np + 2 * nk = k0 + path.length + 2 * kids.length; rw [LP.out, LK.out]

theorem heldNode_yes (v : Value) (kind : Int) (val : ByteArray) (np nk : Nat) (B : Nat) (k0 : Int) (w : World) (h0 : 0 ≤ k0) (h1 : k0 ≤ 1000000000) (hB : B ≤ w.heap.size) (hv : NodeIn w B v ⟨kind, marksI k0 np, marksK (k0 + np) nk, val⟩) :
    Calls Try.prog 17 #[v, .int .i64 k0] w fun e w' => e = .returned (.int .i64 (k0 + np + 2 * nk)) ∧ Below w.heap.size w w' := by
  obtain ⟨Ap, np', cp, Ak, nk', ck, rfl, hnp, hnk, hsz, hp, hk⟩ := hv
  have e1 : np' = np := hp.1.symm.trans (marksI_len k0 np)
  have e2 : nk' = nk := hk.1.symm.trans (marksK_len (k0 + np) nk)
  obtain rfl := e1
  obtain rfl := e2
  have HP := Lib.hid (hp.more hB)
  have HK := Lib.hid (hk.more hB)
  clear hp hk
  have b3 : Below w.heap.size w (w.alloc (.cells #[.int .i64 kind, .slice Ap np' cp, .slice Ak nk' ck, .string val] 26)) := (Below.refl _ _).alloc (Nat.le_refl _) _
  have B3 := Lib.hid b3
  clear b3
  go_enter Try.func17, Try.ntmps17
  go_wp2_with fail
  refine (heldI_yes _ _ _ _ k0 _ h0 (by omega) (HP.out.below B3.out)).mono ?_
  rintro e w' ⟨rfl, rfl⟩
  go_wp2_with fail
  refine (heldK_yes _ _ _ _ (k0 + np') _ (by omega) (by omega) (HK.out.below B3.out)).mono ?_
  rintro e w' ⟨rfl, rfl⟩
  go_wp2
  go_ret
  exact ⟨rfl, B3.out⟩
end Go.Proofs.Ytebfinedkjlbbaa

-- Conv: A slice of bytes turned into a text: the text of just these bytes.
namespace Go.Proofs.Ytebfinedkjlbbaa
set_option maxRecDepth 20000
open Go.RowKit

theorem conv_bytes (A : Option Addr) (n c : Nat) (zs : List Int) (B : Nat) (w : World) (hb : Byts w B A n zs) :
    (convert 22 9 (.slice A n c)).run Try.prog w = .ok (.string (strOfNums zs)) w := by
  rcases Nat.eq_zero_or_pos n with h0 | hp
  · subst h0
    have hz : zs = [] := List.eq_nil_of_length_eq_zero hb.1
    subst hz
    rcases A with _ | a
    · exact run_convert_bytes_nil w _ _ Try.underlying22 Try.underlying5 0 c _ Try.underlying9
    · rw [run_convert_bytes_string w _ _ _ (some a) 0 c Try.underlying22 Try.underlying5 Try.underlying9]
      have hl : (loadCells a 0).run Try.prog w = .ok ([].map (Value.int .u8)).toArray w := by
        have := run_loadCells_list (P := Try.prog) w a [] (fun j v hj => by simp at hj)
        simpa using this
      rw [run_bytesToString w a 0 c [] hl]
      rfl
  · obtain ⟨b, off, rfl, _, hc⟩ := hb.2.2 hp
    exact run_convert_bytes_arg w _ _ Try.underlying22 Try.underlying5 b off n c zs hb.1 hc _ Try.underlying9

end Go.Proofs.Ytebfinedkjlbbaa

-- NodeF: What the model's NodeFrom reads of some bytes.
namespace Go.Proofs.Ytebfinedkjlbbaa
set_option maxRecDepth 20000
open Go.RowKit

/-- the node that is none, as a value. -/
def node0V : Value := .agg #[.int .i64 0, .slice none 0 0, .slice none 0 0, .string { data := #[] }]
theorem node0_own (w : World) (base : Nat) : OwnN w base node0V node0 :=
  ⟨none, 0, 0, none, 0, 0, rfl, by omega, by omega, by decide, OwnI.nil _ _, OwnK.nil _ _, fun g hg => by simp [Value.ownBlock] at hg⟩
set_option maxHeartbeats 1600000 in
theorem specNodeFrom_any (A : Option Addr) (n c : Nat) (bs : List Int) (B : Nat) (w : World) (hn : n ≤ 1048576) (hc : n ≤ c) (hB : B ≤ w.heap.size) (hb : Byts w B A n bs) :
    Calls Try.prog 10 #[.slice A n c] w fun e w' => ∃ v nd b, e = .returned (.tuple #[v, .bool b]) ∧ OwnN w' w.heap.size v nd ∧ NodeRead bs nd b ∧ Below w.heap.size w w' := by
  have HB := Lib.hid (hb.more hB)
  have hlen : bs.length = n := hb.1
  have hr := hb.2.1
  clear hb
  obtain ⟨w1, hw1⟩ : ∃ w1, w.alloc (.cells #[.int .i64 0, .slice none 0 0, .slice none 0 0, .string { data := #[] }] 26) = w1 := ⟨_, rfl⟩
  have x1 : Box w1 w.heap.size _ _ := hw1 ▸ heap_alloc_new _ _
  have s1 : w1.heap.size = w.heap.size + 1 := hw1 ▸ by simp
  have b1 : Below w.heap.size w w1 := hw1 ▸ (Below.refl _ _).alloc (Nat.le_refl _) _
  have X1 := Lib.hid x1
  have B1 := Lib.hid b1
  have HW := Lib.hid hw1
  clear x1 b1 hw1
  by_cases h0 : n = 0
  · have q10 := X1.out.cell 0
    have q11 := X1.out.cell 1
    have q12 := X1.out.cell 2
    have q13 := X1.out.cell 3
    have f1 := X1.out.free
    simp at q10 q11 q12 q13
    subst h0
    go_enter Try.func10, Try.ntmps10
    go_wp2_with fail
    rw [HW.out]
    refine bodyPost_ret (v := .tuple #[node0V, .bool false]) (results_box2 Try.results10 _ _ w.heap.size _ _ _ _ rfl rfl X1.out Try.underlying26 rfl (by kernel_rfl)) rfl ?_
    exact ⟨_, node0, false, rfl, node0_own _ _, none_empty bs hlen, B1.out⟩
  obtain ⟨r1, e1, hp1⟩ : ∃ r1 e1, part bs ((1 : Nat) : Int) 1 = (r1, e1) := ⟨_, _, rfl⟩
  have g1 := part_range bs hr ((1 : Nat) : Int) 1
  obtain ⟨r2, e2, hp2⟩ : ∃ r2 e2, part bs e1 1 = (r2, e2) := ⟨_, _, rfl⟩
  have g2 := part_range bs hr e1 1
  obtain ⟨r3, e3, hp3⟩ : ∃ r3 e3, part bs e2 9 = (r3, e3) := ⟨_, _, rfl⟩
  have g3 := part_range bs hr e2 9
  rw [hp1] at g1
  rw [hp2] at g2
  rw [hp3] at g3
  have P1 := Lib.hid hp1
  have P2 := Lib.hid hp2
  have P3 := Lib.hid hp3
  have hd0 : decide ((n : Int) = 0) = false := decide_eq_false (by omega)
  simp only [hlen] at g1 g2 g3
  clear hp1 hp2 hp3
  go_enter Try.func10, Try.ntmps10
  go_wp2_with fail
  rw [HW.out]
  refine (l3Part_any A n c bs ((1 : Nat) : Int) 1 _ w1 hn hc (by omega) (by omega) (by omega) (HB.out.below B1.out)).mono ?_
  rintro e w2 ⟨A2, n2, c2, rfl, hc2, y2, b2⟩
  rw [P1.out] at y2 ⊢
  have Y2 := Lib.hid y2
  have X1 := Lib.hid (X1.out.below b2 (by omega))
  have B2 := Lib.hid (B1.out.trans (b2.mono (by omega)))
  have s2 := b2.size
  clear b2 y2
  go_wp2_with fail
  refine (l3Part_any A n c bs e1 1 _ w2 hn hc (by omega) (by omega) (by omega) (HB.out.below B2.out)).mono ?_
  rintro e w3 ⟨A3, n3, c3, rfl, hc3, y3, b3⟩
  rw [P2.out] at y3 ⊢
  have Y3 := Lib.hid y3
  have Y2 := Lib.hid (Y2.out.below (b3.mono (by omega)))
  have X1 := Lib.hid (X1.out.below b3 (by omega))
  have B3 := Lib.hid (B2.out.trans (b3.mono (by omega)))
  have s3 := b3.size
  clear b3 y3
  go_wp2_with fail
  refine (l3Part_any A n c bs e2 9 _ w3 hn hc (by omega) (by omega) (by omega) (HB.out.below B3.out)).mono ?_
  rintro e w4 ⟨A4, n4, c4, rfl, hc4, y4, b4⟩
  rw [P3.out] at y4 ⊢
  have Y4 := Lib.hid y4
  have Y3 := Lib.hid (Y3.out.below (b4.mono (by omega)))
  have Y2 := Lib.hid (Y2.out.below (b4.mono (by omega)))
  have X1 := Lib.hid (X1.out.below b4 (by omega))
  have B4 := Lib.hid (B3.out.trans (b4.mono (by omega)))
  have s4 := b4.size
  clear b4 y4
  by_cases hk : e3 = n
  · subst hk
    obtain ⟨bk, off, rfl, hbB, hc0⟩ := (HB.out.below B4.out).at_ (k := 0) (by omega)
    have hr0 := (HB.out.below B4.out).range 0
    rw [Nat.add_zero] at hc0
    have hcv : ∀ W, Below w4.heap.size w4 W → (convert 22 9 (.slice A3 n3 c3)).run Try.prog W = .ok (.string (strOfNums r2)) W := fun W hW => conv_bytes A3 n3 c3 r2 _ W (Y3.out.below (hW.mono (by omega)))
    generalize hb0 : bs[0]?.getD 0 = z0 at hc0 hr0
    have Z0 := Lib.hid hb0
    clear hb0
    have hc0' : ∀ W, Below w4.heap.size w4 W → W.cell? ⟨bk, off, none⟩ = some (.int .u8 z0) := fun W hW => (hW.cell (p := ⟨bk, off, none⟩) (by show bk < w4.heap.size; omega)).trans hc0
    clear hc0
    have hpos : (0 : Int) < (n : Int) := by omega
    have hia : ∀ W : World, (Instr.indexAt 22 (.slice (some ⟨bk, off, none⟩) n c) (.int .i64 0)).run Try.prog W = .ok (.pointer (some ⟨bk, off, none⟩)) W := fun W => by go_simp
    have hwz : IntKind.i64.wrap z0 = z0 := by rw [IntKind.wrap_i64]; omega
    go_wp2
    go_region_held3 (fun W => Below w4.heap.size w4 W) (first | exact (Below.refl _ _).drew | exact ((Below.refl _ _).alloc (Nat.le_refl _) _).drew | assumption)
      (first | (fail))
    clear hcv hc0' hia
    have x5 : Box (w4.alloc (.cells #[.int .i64 z0, .slice none 0 0, .slice none 0 0, .string (strOfNums r2)] 26)).drew w4.heap.size _ _ := heap_alloc_new _ _
    have b5 : Below w4.heap.size w4 (w4.alloc (.cells #[.int .i64 z0, .slice none 0 0, .slice none 0 0, .string (strOfNums r2)] 26)).drew := ((Below.refl _ _).alloc (Nat.le_refl _) _).drew
    have s5 : (w4.alloc (.cells #[.int .i64 z0, .slice none 0 0, .slice none 0 0, .string (strOfNums r2)] 26)).drew.heap.size = w4.heap.size + 1 := by simp
    generalize (w4.alloc (.cells #[.int .i64 z0, .slice none 0 0, .slice none 0 0, .string (strOfNums r2)] 26)).drew = w5 at x5 b5 s5
    have X5 := Lib.hid x5
    have B5 := Lib.hid b5
    clear x5 b5
    obtain ⟨i0, hi, hz0, hz1, hz2⟩ := info_parts Try.infoI
    obtain ⟨iK, hki, hk0, hk1, hk2⟩ := info_parts Try.infoK
    have HK := Lib.hid hki
    have HK0 := Lib.hid hk0
    have HK1 := Lib.hid hk1
    have HK2 := Lib.hid hk2
    clear hki hk0 hk1 hk2
    have HI := Lib.hid hi
    have HZ0 := Lib.hid hz0
    have HZ1 := Lib.hid hz1
    have HZ2 := Lib.hid hz2
    clear hi hz0 hz1 hz2
    have L2 : Hid (r1.length = n2) := Y2.out.1
    have L3 : Hid (r3.length = n4) := Y4.out.1
    have hn4 : n4 ≤ 1048576 := by have := part_le bs e2 9; rw [P3.out, hlen] at this; have := L3.out; simp only at *; omega
    have L4 : Hid (r2.length = n3) := Y3.out.1
    have hn3 : r2.length ≤ 1048576 := by have := part_le bs e1 1; rw [P2.out, hlen] at this; simp only at *; omega
    have hn2 : n2 ≤ 1048576 := by have := part_le bs ((1 : Nat) : Int) 1; rw [P1.out, hlen] at this; have := L2.out; simp only at *; omega
    go_wp2
    go_loopw [11] (fun x wr => ∃ k : Nat, ∃ Ap cp, k ≤ n2 ∧ x = .int .i64 k ∧ OwnI wr (w4.heap.size + 1) Ap k cp (r1.take k) ∧ Box wr w4.heap.size 26 #[.int .i64 z0, .slice Ap k cp, .slice none 0 0, .string (strOfNums r2)] ∧ Below w4.heap.size w4 wr) (fun x _ => n2 - (intOf x).toNat)
    case atStart => exact ⟨0, none, 0, Nat.zero_le _, rfl, OwnI.nil _ _, X5.out, B5.out⟩
    case round =>
      obtain ⟨k, Ap, cp, hk2, rfl, hown, hbox, hbr⟩ := hrel
      have MR := Lib.hid hown
      have XR := Lib.hid hbox
      have BR := Lib.hid hbr
      clear hown hbox hbr
      by_cases hlt : k < n2
      · obtain ⟨b, o, rfl, hbb, hc0⟩ := (Y2.out.below (BR.out.mono (by omega))).at_ hlt
        have hrr := (Y2.out.below (BR.out.mono (by omega))).range k
        have hst := take_step r1 k (by rw [L2.out]; exact hlt)
        generalize r1[k]?.getD 0 = z at hc0 hrr hst
        have HST := Lib.hid hst
        clear hst
        have q1 := XR.out.cell 1
        have f1 := XR.out.free 1
        simp at q1
        have hwz2 : IntKind.i64.wrap z = z := by rw [IntKind.wrap_i64]; omega
        go_wp2
        have HO : Hid (∀ W, Below wr.heap.size wr W → OwnI W (w4.heap.size + 1) Ap k cp (r1.take k)) := fun W hb => MR.out.below hb
        have lx := XR.out.lt
        have hk := L2.out
        go_region_law (first
          | (refine step_append_lies _ rfl _ _ 23 rfl (w4.heap.size + 1) 2 i0 (.int .i64 0) 1 8 Try.underlying23 HI.out HZ0.out HZ1.out HZ2.out rfl (by decide) (.slice Ap k cp) k ((r1.take k).map (Value.int .i64)) (by simp [Act.eval]) (HO.out _ (((Below.refl _ _).alloc (Nat.le_refl _) _).drew)) ⟨wr.heap.size, 0, none⟩ 1 1 ([z].map (Value.int .i64)) (by simp [Act.eval]) rfl (by
              intro j u hj
              match j, hj with
              | 0, hj => simp at hj; subst hj; simp [Addr.add]) (by intro u hu; simp at hu; subst hu; rfl) (by omega) (by unfold maxLen; omega) (by omega) (by simp; omega) _ rfl ?_
             intro g6 c6 w6 hown6 hgrow6 _ _
             have x6 : Box w6 w4.heap.size _ _ := ((hgrow6.block w4.heap.size (by simp; omega) (fun e => by have := (World.ownsRow.lt MR.out _ e.symm).1; omega)).trans (heap_alloc_old _ _ lx)).trans XR.out
             have q6 := x6.cell 1
             have f6 := x6.free 1
             simp at q6))
        all_goals
          have b6 : Below w4.heap.size w4 w6 := ((BR.out.alloc (by omega) _).drew).grown hgrow6 (by simp; omega) (fun g hg => by have := (World.ownsRow.lt MR.out g hg).1; omega)
          go_wp2
          go_roundw
          case rel =>
            refine ⟨k + 1, some ⟨g6, 0, none⟩, c6, by omega, by go_num, ?_, by simpa using x6.set_ 1 _, b6.trans (grown_below (grown_set w6 _ 1 _) b6.size (Nat.le_refl _))⟩
            rw [HST.out]
            unfold OwnI
            rw [List.map_append]
            exact own_touch hown6 (touch_set (S := fun x => x = w4.heap.size) w6 _ 1 _ rfl) (fun g hg e => by have := (World.ownsRow.lt hown6 g hg).1; omega)
          case measure => simp [intOf]; omega
      · obtain rfl : k = n2 := by omega
        have hst : r1.take k = r1 := List.take_of_length_le (by rw [L2.out]; exact Nat.le_refl _)
        have MP : Hid (OwnI wr (w4.heap.size + 1) Ap k cp r1) := by rw [← hst]; exact MR.out
        clear MR hst
        have hp3 := P3.out
        rw [← hlen] at hp3
        have hl4 := L3.out
        obtain ⟨q0, hq, hq3⟩ := parts_all bs r1 r2 r3 e1 e2 hr P1.out P2.out hp3 (by omega)
        have HQ := Lib.hid hq
        clear hq hp3
        go_wp2
        go_loopw [12] (fun x wr => ∃ q m : Nat, ∃ Ak ck, q ≤ q0 ∧ m = 9 * q ∧ x = .int .i64 m ∧ OwnK wr (w4.heap.size + 1) Ak q ck (kidsTo r3 q) ∧ OwnI wr (w4.heap.size + 1) Ap k cp r1 ∧ (∀ g, (Value.slice Ap k cp).ownBlock = some g → (Value.slice Ak q ck).ownBlock ≠ some g) ∧
          Box wr w4.heap.size 26 #[.int .i64 z0, .slice Ap k cp, .slice Ak q ck, .string (strOfNums r2)] ∧ Below w4.heap.size w4 wr ∧ ∀ i, i < q → chunkOk r3 i) (fun x _ => n4 - (intOf x).toNat)
        case atStart => exact ⟨0, 0, none, 0, Nat.zero_le _, rfl, rfl, OwnK.nil _ _, MP.out, by simp [Value.ownBlock], XR.out, BR.out, fun i hi => absurd hi (by omega)⟩
        case round =>
          obtain ⟨q, m, Ak, ck, hqq, hm, rfl, hown, howp, hdis, hbox, hbr, hchk⟩ := hrel
          have MK := Lib.hid hown
          have MP := Lib.hid howp
          have HD := Lib.hid hdis
          have XR := Lib.hid hbox
          have BR := Lib.hid hbr
          have HC := Lib.hid hchk
          clear hown howp hdis hbox hbr hchk
          have hmm : q < q0 → m + 9 ≤ n4 := fun h => by omega
          have hmm' : ¬ q < q0 → m = n4 := fun h => by omega
          have HM := Lib.hid hm
          clear hm
          by_cases hlt : q < q0
          · have hm9 := hmm hlt
            obtain ⟨b, o, rfl, hbb, hc0⟩ := (Y4.out.below (BR.out.mono (by omega))).at_ (k := m) (by omega)
            have hrr := Y4.out.range m
            have hlo : (0 : Int) ≤ (m : Int) + 1 := by omega
            have hhi : (m : Int) + 1 ≤ (m : Int) + 9 := by omega
            have hcap : (m : Int) + 9 ≤ (c4 : Int) := by omega
            have yb := (Y4.out.below (BR.out.mono (by omega))).part (m + 1) 8 (by omega)
            have h8 : ((r3.drop (m + 1)).take 8)[7]?.getD 0 = r3[m + 8]?.getD 0 := by rw [List.getElem?_take_of_lt (by omega), List.getElem?_drop]
            clear hmm hmm'
            by_cases h7 : r3[m + 8]?.getD 0 ≤ (127 : Int)
            · have hko : kidsTo r3 (q + 1) = kidsTo r3 q ++ [(r3[m]?.getD 0, leVal ((r3.drop (m + 1)).take 8))] := by rw [kidsTo_step]; unfold kidOf; rw [HM.out]
              have hco : chunkOk r3 q := by unfold chunkOk; rw [← HM.out]; exact h7
              generalize r3[m]?.getD 0 = z at hc0 hrr hko
              have hwz2 : IntKind.i64.wrap z = z := by rw [IntKind.wrap_i64]; omega
              go_wp2_with fail
              refine (specFrom_yes _ _ _ w.heap.size wr yb (by rw [h8]; exact h7)).mono ?_
              rintro e _ ⟨rfl, rfl⟩
              generalize leVal ((r3.drop (m + 1)).take 8) = nm at hko
              have HKO := Lib.hid hko
              have HCO := Lib.hid hco
              clear hko hco yb h8
              have q1 := XR.out.cell 2
              have f1 := XR.out.free 2
              simp at q1
              go_wp2_with fail
              have HO : Hid (∀ W, Below wr.heap.size wr W → OwnK W (w4.heap.size + 1) Ak q ck (kidsTo r3 q)) := fun W hb => MK.out.below hb
              have lx := XR.out.lt
              go_region_law (first
                | (refine step_append_lies _ rfl _ _ 24 rfl (w4.heap.size + 1) 80 iK (.agg #[.int .i64 0, .int .i64 0]) 2 16 Try.underlying24 HK.out HK0.out HK1.out HK2.out rfl (by decide) (.slice Ak q ck) q ((kv (kidsTo r3 q)).map (Value.int .i64)) (by simp [Act.eval]) (HO.out _ (((Below.refl _ _).alloc (Nat.le_refl _) _).drew)) ⟨wr.heap.size, 0, none⟩ 1 1 ([z, nm].map (Value.int .i64)) (by simp [Act.eval]) rfl (by
                    intro j u hj
                    match j, hj with
                    | 0, hj => simp at hj; subst hj; simp [Addr.add]
                    | 1, hj => simp at hj; subst hj; simp [Addr.add]) (by intro u hu; simp at hu; rcases hu with rfl | rfl <;> rfl) (by omega) (by unfold maxLen; omega) (by omega) (by simp; omega) _ rfl ?_
                   intro g6 c6 w6 hown6 hgrow6 hwh6 _
                   have x6 : Box w6 w4.heap.size _ _ := ((hgrow6.block w4.heap.size (by simp; omega) (fun e => by have := (World.ownsRow.lt MK.out _ e.symm).1; omega)).trans (heap_alloc_old _ _ lx)).trans XR.out
                   have q6 := x6.cell 2
                   have f6 := x6.free 2
                   simp at q6))
              all_goals
                have b6 : Below w4.heap.size w4 w6 := ((BR.out.alloc (by omega) _).drew).grown hgrow6 (by simp; omega) (fun g hg => by have := (World.ownsRow.lt MK.out g hg).1; omega)
                have m6 : OwnI w6 (w4.heap.size + 1) Ap k cp r1 := OwnI.touch (OwnI.touch MP.out (Touch.of_below ((Below.refl _ _).alloc (Nat.le_refl _) _).drew : Touch (fun _ => False) wr _) (fun _ _ h => h)) (Touch.of_grown hgrow6) (fun g hg e => HD.out g hg e.symm)
                go_wp2
                go_roundw
                case rel =>
                  refine ⟨q + 1, m + 9, some ⟨g6, 0, none⟩, c6, by omega, by have := HM.out; omega, by go_num, ?_, ?_, ?_, by simpa using x6.set_ 2 _, b6.trans (grown_below (grown_set w6 _ 2 _) b6.size (Nat.le_refl _)), fun i hi => ?_⟩
                  · rw [HKO.out]
                    unfold OwnK
                    rw [kv_append, List.map_append]
                    exact own_touch hown6 (touch_set (S := fun x => x = w4.heap.size) w6 _ 2 _ rfl) (fun g hg e => by have := (World.ownsRow.lt hown6 g hg).1; omega)
                  · exact m6.touch (touch_set (S := fun x => x = w4.heap.size) w6 _ 2 _ rfl) (fun g hg e => by have := (World.ownsRow.lt m6 g hg).1; omega)
                  · intro g hg h
                    have hgg := own_eq h.symm
                    subst hgg
                    rcases hwh6 with h1 | h1
                    · exact HD.out _ hg h1
                    · have := (World.ownsRow.lt MP.out _ hg).2
                      simp at h1
                      omega
                  · rcases Nat.lt_or_ge i q with h | h
                    · exact HC.out i h
                    · rw [show i = q by omega]; exact HCO.out
                case measure => simp [intOf]; omega
            · have hno := none_chunk P1.out P2.out (by rw [hlen]; exact P3.out) hq3 q hlt (by unfold chunkOk; rw [← HM.out]; exact h7)
              have HNO := Lib.hid hno
              clear hno
              have X1 := Lib.hid (X1.out.below (BR.out.mono (by omega : w.heap.size + 1 ≤ w4.heap.size)) (by omega))
              have q10 := X1.out.cell 0
              have q11 := X1.out.cell 1
              have q12 := X1.out.cell 2
              have q13 := X1.out.cell 3
              have f1 := X1.out.free
              simp at q10 q11 q12 q13
              go_wp2_with fail
              refine (specFrom_high _ _ _ w.heap.size wr yb (by rw [h8]; omega)).mono ?_
              rintro e _ ⟨rfl, rfl⟩
              go_wp2_with fail
              obtain ⟨hX, hb⟩ := set4 X1.out (.int .i64 0) (.slice none 0 0) (.slice none 0 0) (.string { data := #[] })
              refine bodyPost_ret (v := .tuple #[node0V, .bool false]) (results_box2 Try.results10 _ _ w.heap.size _ _ _ _ rfl rfl hX Try.underlying26 rfl (by kernel_rfl)) rfl ?_
              have b7 := B4.out.trans (BR.out.mono (by omega))
              exact ⟨_, node0, false, rfl, node0_own _ _, HNO.out, b7.trans (hb.below b7.size (fun k hk h => by omega))⟩
          · have hme := hmm' hlt
            obtain rfl : q = q0 := by omega
            have hv : Hid (OwnN wr (w4.heap.size + 1) (.agg #[.int .i64 z0, .slice Ap k cp, .slice Ak q ck, .string (strOfNums r2)]) (nodeOf bs r1 r2 r3 q)) :=
              ⟨Ap, k, cp, Ak, q, ck, by unfold nodeOf; rw [Z0.out], hn2, by omega, by unfold nodeOf; rw [strOfNums_size]; omega, MP.out, MK.out, HD.out⟩
            have X1 := Lib.hid (X1.out.below (BR.out.mono (by omega : w.heap.size + 1 ≤ w4.heap.size)) (by omega))
            have q20 := XR.out.cell 0
            have q21 := XR.out.cell 1
            have q22 := XR.out.cell 2
            have q23 := XR.out.cell 3
            have lx := XR.out.lt
            have l1 := X1.out.lt
            simp at q20 q21 q22 q23
            go_wp2_with fail
            refine (specNodeOk_any _ _ wr.heap.size wr (Nat.le_refl _) hv.out.node).mono ?_
            rintro e w7 ⟨rfl, b7⟩
            have V := Lib.hid (hv.out.below b7)
            have X1 := Lib.hid (X1.out.below b7 l1)
            have XR := Lib.hid (XR.out.below b7 lx)
            have B7 := Lib.hid ((B4.out.trans (BR.out.mono (by omega))).trans (b7.mono (by omega)))
            clear b7 q20 q21 q22 q23
            have q10 := X1.out.cell 0
            have q11 := X1.out.cell 1
            have q12 := X1.out.cell 2
            have q13 := X1.out.cell 3
            have f1 := X1.out.free
            have q20 := XR.out.cell 0
            have q21 := XR.out.cell 1
            have q22 := XR.out.cell 2
            have q23 := XR.out.cell 3
            simp at q10 q11 q12 q13 q20 q21 q22 q23
            by_cases hok : nodeOk (nodeOf bs r1 r2 r3 q) = true
            · rw [hok]
              go_wp2_with fail
              obtain ⟨hX, hb⟩ := set4 X1.out (.int .i64 z0) (.slice Ap k cp) (.slice Ak q ck) (.string (strOfNums r2))
              refine bodyPost_ret (v := .tuple #[.agg #[.int .i64 z0, .slice Ap k cp, .slice Ak q ck, .string (strOfNums r2)], .bool true]) (results_box2 Try.results10 _ _ w.heap.size _ _ _ _ rfl rfl hX Try.underlying26 rfl (by kernel_rfl)) rfl ?_
              exact ⟨_, nodeOf bs r1 r2 r3 q, true, rfl, (V.out.touch hb (fun g hg h => by have := (V.out.blk hg).1; omega)).base (by omega), yes_read bs r1 r2 r3 q hr HQ.out hq3 HC.out hok, B7.out.trans (hb.below B7.out.size (fun k hk h => by omega))⟩
            · have hok' : nodeOk (nodeOf bs r1 r2 r3 q) = false := by simpa using hok
              rw [hok']
              go_wp2_with fail
              obtain ⟨hX, hb⟩ := set4 X1.out (.int .i64 0) (.slice none 0 0) (.slice none 0 0) (.string { data := #[] })
              refine bodyPost_ret (v := .tuple #[node0V, .bool false]) (results_box2 Try.results10 _ _ w.heap.size _ _ _ _ rfl rfl hX Try.underlying26 rfl (by kernel_rfl)) rfl ?_
              exact ⟨_, node0, false, rfl, node0_own _ _, none_bad P1.out P2.out (by rw [hlen]; exact P3.out) hq3 hok', B7.out.trans (hb.below B7.out.size (fun k hk h => by omega))⟩
  · have q10 := X1.out.cell 0
    have q11 := X1.out.cell 1
    have q12 := X1.out.cell 2
    have q13 := X1.out.cell 3
    have f1 := X1.out.free
    simp at q10 q11 q12 q13
    go_wp2
    obtain ⟨hX, hb⟩ := set4 X1.out (.int .i64 0) (.slice none 0 0) (.slice none 0 0) (.string { data := #[] })
    refine bodyPost_ret (v := .tuple #[node0V, .bool false]) (results_box2 Try.results10 _ _ w.heap.size _ _ _ _ rfl rfl hX Try.underlying26 rfl (by kernel_rfl)) rfl ?_
    exact ⟨_, node0, false, rfl, node0_own _ _, none_end P1.out P2.out P3.out (by rw [hlen]; exact hk), B4.out.trans (hb.below B4.out.size (fun k hk h => by omega))⟩
end Go.Proofs.Ytebfinedkjlbbaa

-- Cells: Slices of cells: one that reads as a list of names and bytes; one that the call made and may write into; no statement of the program is proved here.
namespace Go.Proofs.Ytebfinedkjlbbaa
set_option maxRecDepth 20000
set_option linter.unusedVariables false
set_option linter.unusedSimpArgs false
open Go.RowKit

/-- a slice of bytes that lies in a cell. -/
structure Sub where
  A : Option Addr
  n : Nat
  c : Nat
  bs : List Int
def Sub.v (x : Sub) : Value := .slice x.A x.n x.c
/-- the i-th cell of a list. -/
def cel (cs : List (Int × List Int)) (i : Nat) : Int × List Int := cs[i]?.getD (0, [])
theorem cel_set (cs : List (Int × List Int)) (k : Nat) (x : Int × List Int) (i : Nat) (hk : k < cs.length) : cel (cs.set k x) i = if i = k then x else cel cs i := by
  unfold cel
  by_cases h : i = k
  · subst h
    rw [if_pos rfl, List.getElem?_set_self hk]; rfl
  · rw [if_neg h, List.getElem?_set_ne (by omega)]
theorem cel_append (cs : List (Int × List Int)) (x : Int × List Int) (i : Nat) : cel (cs ++ [x]) i = if i = cs.length then x else cel cs i := by
  unfold cel
  by_cases h : i = cs.length
  · subst h
    simp
  · rw [if_neg h]
    rcases Nat.lt_or_ge i cs.length with h1 | h1
    · rw [List.getElem?_append_left h1]
    · rw [List.getElem?_eq_none (by simp; omega), List.getElem?_eq_none (by omega)]
theorem cel_mem (cs : List (Int × List Int)) (i : Nat) (h : i < cs.length) : cel cs i ∈ cs := by
  unfold cel
  rw [List.getElem?_eq_getElem h]; exact List.getElem_mem h
theorem cel_take (cs : List (Int × List Int)) (k : Nat) (h : k < cs.length) : cs.take (k + 1) = cs.take k ++ [cel cs k] := by
  unfold cel
  rw [List.take_succ_eq_append_getElem h, List.getElem?_eq_getElem h]; rfl

/-- the slice value '.slice A n c' of cells reads as cs, below block B. -/
def Cells (w : World) (B : Nat) (A : Option Addr) (n : Nat) (cs : List (Int × List Int)) : Prop :=
  cs.length = n ∧ (0 < n → ∃ b off, A = some ⟨b, off, none⟩ ∧ b < B ∧ ∀ i, i < n → w.cell? ⟨b, off + i * 2, none⟩ = some (.int .i64 (cel cs i).1) ∧
    ∃ Ai ni ci, w.cell? ⟨b, off + i * 2 + 1, none⟩ = some (.slice Ai ni ci) ∧ ni ≤ ci ∧ (Ai = none → ci = 0) ∧ Byts w B Ai ni (cel cs i).2)
section
variable {w w' : World} {B B' n : Nat} {A : Option Addr} {cs : List (Int × List Int)}
theorem Cells.none_ : Cells w B A 0 [] := ⟨rfl, fun h => absurd h (by omega)⟩
theorem Cells.at_ {k : Nat} (h : Cells w B A n cs) (hk : k < n) : ∃ b off Ai ni ci, A = some ⟨b, off, none⟩ ∧ b < B ∧ w.cell? ⟨b, off + k * 2, none⟩ = some (.int .i64 (cel cs k).1) ∧ w.cell? ⟨b, off + k * 2 + 1, none⟩ = some (.slice Ai ni ci) ∧ ni ≤ ci ∧ (Ai = none → ci = 0) ∧ Byts w B Ai ni (cel cs k).2 := by
  obtain ⟨b, off, e, hb, hc⟩ := h.2 (by omega)
  obtain ⟨h0, Ai, ni, ci, h1, h2, h3, h4⟩ := hc k hk
  exact ⟨b, off, Ai, ni, ci, e, hb, h0, h1, h2, h3, h4⟩
theorem Cells.keep (h : Cells w B A n cs) (hk : ∀ p : Addr, p.block < B → w'.cell? p = w.cell? p) : Cells w' B A n cs :=
  ⟨h.1, fun hn => by
    obtain ⟨b, off, e, hb, hc⟩ := h.2 hn
    refine ⟨b, off, e, hb, fun i hi => ?_⟩
    obtain ⟨h0, Ai, ni, ci, h1, h2, h3, h4⟩ := hc i hi
    exact ⟨(hk _ hb).trans h0, Ai, ni, ci, (hk _ hb).trans h1, h2, h3, h4.keep hk⟩⟩
theorem Cells.more (h : Cells w B A n cs) (hB : B ≤ B') : Cells w B' A n cs :=
  ⟨h.1, fun hn => by
    obtain ⟨b, off, e, hb, hc⟩ := h.2 hn
    refine ⟨b, off, e, by omega, fun i hi => ?_⟩
    obtain ⟨h0, Ai, ni, ci, h1, h2, h3, h4⟩ := hc i hi
    exact ⟨h0, Ai, ni, ci, h1, h2, h3, h4.more hB⟩⟩
theorem Cells.below (h : Cells w B A n cs) (hb : Below B w w') : Cells w' B A n cs := h.keep fun _ hp => hb.cell hp
theorem Cells.drewN (h : Cells w B A n cs) (k : Nat) : Cells (w.drewN k) B A n cs := h.below (below_drewN (Below.refl _ _) k)
theorem Cells.alloc (h : Cells w B A n cs) (hB : B ≤ w.heap.size) (o : Obj) : Cells (w.alloc o) B A n cs := h.keep fun p hp => World.cell?_alloc_lt w o p (by omega)
end

theorem Try.infoC : (Try.prog.info? 123).map (fun i => (i.zero, i.size, i.bytes)) = some (some (.agg #[.int .i64 0, .slice none 0 0]), 2, 32) := by kernel_rfl

/-- what stands in a row of cells. -/
def cf (cs : List (Int × List Int)) (sl : Nat → Sub) (j : Nat) : Value := if j % 2 = 0 then .int .i64 (cel cs (j / 2)).1 else (sl (j / 2)).v
def cvs (n : Nat) (cs : List (Int × List Int)) (sl : Nat → Sub) : List Value := (List.range (n * 2)).map (cf cs sl)
theorem cvs_at (n : Nat) (cs : List (Int × List Int)) (sl : Nat → Sub) (j : Nat) (h : j < n * 2) : (cvs n cs sl)[j]? = some (cf cs sl j) := by simp [cvs, h]
theorem cf0 (cs : List (Int × List Int)) (sl : Nat → Sub) (k : Nat) : cf cs sl (k * 2) = .int .i64 (cel cs k).1 := by unfold cf; rw [if_pos (by omega), show k * 2 / 2 = k by omega]
theorem cf1 (cs : List (Int × List Int)) (sl : Nat → Sub) (k : Nat) : cf cs sl (k * 2 + 1) = (sl k).v := by unfold cf; rw [if_neg (by omega), show (k * 2 + 1) / 2 = k by omega]
theorem cvs_set (n : Nat) (cs : List (Int × List Int)) (sl : Nat → Sub) (k : Nat) (m : Int) (x : Sub) (b : List Int) (hk : k < n) (hl : cs.length = n) :
    ((cvs n cs sl).set (k * 2) (.int .i64 m)).set (k * 2 + 1) x.v = cvs n (cs.set k (m, b)) (fun i => if i = k then x else sl i) := by
  apply List.ext_getElem?
  intro j
  by_cases hj : j < n * 2
  · rw [cvs_at _ _ _ j hj]
    by_cases h1 : j = k * 2 + 1
    · subst h1
      rw [List.getElem?_set_self (by simp [cvs]; omega), cf1, if_pos rfl]
    · rw [List.getElem?_set_ne (by omega)]
      by_cases h0 : j = k * 2
      · subst h0
        rw [List.getElem?_set_self (by simp [cvs]; omega), cf0, cel_set _ _ _ _ (by omega), if_pos rfl]
      · rw [List.getElem?_set_ne (by omega), cvs_at _ _ _ j hj]
        unfold cf
        rw [cel_set _ _ _ _ (by omega), if_neg (show ¬ j / 2 = k by omega)]
        simp only [show ¬ j / 2 = k by omega, if_false]
  · rw [List.getElem?_eq_none (by simp [cvs]; omega), List.getElem?_eq_none (by simp [cvs]; omega)]
theorem cvs_append (n : Nat) (cs : List (Int × List Int)) (sl : Nat → Sub) (x : Sub) (m : Int) (b : List Int) (hl : cs.length = n) :
    cvs n cs sl ++ [.int .i64 m, x.v] = cvs (n + 1) (cs ++ [(m, b)]) (fun i => if i = n then x else sl i) := by
  apply List.ext_getElem?
  intro j
  by_cases hj : j < n * 2
  · rw [List.getElem?_append_left (by simp [cvs]; omega), cvs_at _ _ _ j hj, cvs_at _ _ _ j (by omega)]
    unfold cf
    rw [cel_append, if_neg (show ¬ j / 2 = cs.length by omega)]
    simp only [show ¬ j / 2 = n by omega, if_false]
  · rw [List.getElem?_append_right (by simp [cvs]; omega)]
    have hl2 : (cvs n cs sl).length = n * 2 := by simp [cvs]
    rw [hl2]
    by_cases h0 : j = n * 2
    · subst h0
      rw [cvs_at _ _ _ _ (by omega), cf0, cel_append, if_pos hl.symm]; simp
    · by_cases h1 : j = n * 2 + 1
      · subst h1
        rw [cvs_at _ _ _ _ (by omega), cf1, if_pos rfl, show n * 2 + 1 - n * 2 = 1 by omega]; rfl
      · rw [List.getElem?_eq_none (by simp; omega), List.getElem?_eq_none (by simp [cvs]; omega)]

/-- the slices in a row of n cells are of the call's own, each in a block of its own, of the blocks from lo to hi, none of them g. -/
structure Subs (w : World) (lo hi : Nat) (g : Option Nat) (n : Nat) (cs : List (Int × List Int)) (sl : Nat → Sub) : Prop where
  mine : ∀ i, i < n → Mine w lo (sl i).A (sl i).n (sl i).c (cel cs i).2
  apart : ∀ i j, i < n → j < n → i ≠ j → ∀ b, (sl i).v.ownBlock = some b → (sl j).v.ownBlock ≠ some b
  other : ∀ i, i < n → ∀ b, (sl i).v.ownBlock = some b → g ≠ some b
  under : ∀ i, i < n → ∀ b, (sl i).v.ownBlock = some b → b < hi
/-- the slice '.slice A n c' of cells is of the call's own, with all that it holds, in blocks from lo to hi, and reads as cs. -/
def OwnC (w : World) (lo hi : Nat) (A : Option Addr) (n c : Nat) (cs : List (Int × List Int)) : Prop :=
  cs.length = n ∧ (∀ b, (Value.slice A n c).ownBlock = some b → b < hi) ∧ ∃ sl, w.ownsRow lo 123 2 (.slice A n c) n (cvs n cs sl) ∧ Subs w lo hi (Value.slice A n c).ownBlock n cs sl
section
variable {w w' : World} {lo hi hi' n c g : Nat} {A : Option Addr} {cs : List (Int × List Int)}
theorem mine_cap {base : Nat} {xs : List Int} (h : Mine w base A n c xs) : n ≤ c := by
  rcases h.1.2 with ⟨e, rfl⟩ | ⟨g, cap, cur, e, _, _, hc, _⟩
  · omega
  · cases e; exact hc
theorem mine_none {base : Nat} {xs : List Int} (h : Mine w base A n c xs) (hA : A = none) : c = 0 := by
  rcases h.1.2 with ⟨e, rfl⟩ | ⟨g, cap, cur, e, _, _, hc, _⟩
  · cases e; rfl
  · subst hA; cases e
theorem OwnC.nil (w : World) (lo hi : Nat) : OwnC w lo hi none 0 0 [] := ⟨rfl, fun b h => by simp [Value.ownBlock] at h, fun _ => ⟨none, 0, 0, []⟩, World.ownsRow_nil _ _ _ _, fun i h => by omega, fun i j h => by omega, fun i h => by omega, fun i h => by omega⟩
theorem OwnC.len (h : OwnC w lo hi A n c cs) : cs.length = n := h.1
theorem OwnC.touch {S : Nat → Prop} (h : OwnC w lo hi A n c cs) (t : Touch S w w') (hn : ∀ b, lo ≤ b → b < hi → ¬ S b) : OwnC w' lo hi A n c cs := by
  obtain ⟨hl, hu, sl, hr, hs⟩ := h
  exact ⟨hl, hu, sl, own_touch hr t (fun b hb => hn b (hr.lt b hb).1 (hu b hb)), fun i hi => (hs.mine i hi).touch t (fun b hb => hn b ((hs.mine i hi).1.lt b hb).1 (hs.under i hi b hb)), hs.apart, hs.other, hs.under⟩
theorem OwnC.below (h : OwnC w lo hi A n c cs) (hb : Below hi w w') : OwnC w' lo hi A n c cs :=
  h.touch (S := fun k => hi ≤ k) ⟨hb.os, hb.tape, hb.output, hb.size, fun k hk hs => hb.block k (by omega)⟩ (fun b _ h1 h2 => by omega)
theorem OwnC.more (h : OwnC w lo hi A n c cs) (hh : hi ≤ hi') : OwnC w lo hi' A n c cs := by
  obtain ⟨hl, hu, sl, hr, hs⟩ := h
  exact ⟨hl, fun b hb => Nat.lt_of_lt_of_le (hu b hb) hh, sl, hr, hs.mine, hs.apart, hs.other, fun i hi b hb => Nat.lt_of_lt_of_le (hs.under i hi b hb) hh⟩
theorem OwnC.base {lo' : Nat} (h : OwnC w lo hi A n c cs) (hh : lo' ≤ lo) : OwnC w lo' hi A n c cs := by
  obtain ⟨hl, hu, sl, hr, hs⟩ := h
  refine ⟨hl, hu, sl, ⟨hr.1, ?_⟩, fun i hi => (hs.mine i hi).base hh, hs.apart, hs.other, hs.under⟩
  rcases hr.2 with h | ⟨g, cap, cur, hv, hg, r⟩
  · exact .inl h
  · exact .inr ⟨g, cap, cur, hv, by omega, r⟩
theorem OwnC.form (h : OwnC w lo hi A n c cs) (hn : 0 < n) : ∃ g, A = some ⟨g, 0, none⟩ ∧ lo ≤ g ∧ g < hi ∧ g < w.heap.size := by
  obtain ⟨hl, hu, sl, hr, hs⟩ := h
  obtain ⟨g, cap, hv, h1, h2⟩ := World.ownsRow.form hr hn
  injection hv with hA
  subst hA
  exact ⟨g, rfl, h1, hu g (by simp [Value.ownBlock]), h2⟩
theorem OwnC.cells (h : OwnC w lo hi A n c cs) : Cells w hi A n cs := by
  refine ⟨h.1, fun hn => ?_⟩
  obtain ⟨g, rfl, _, h2, _⟩ := h.form hn
  obtain ⟨hl, hu, sl, hr, hs⟩ := h
  refine ⟨g, 0, rfl, h2, fun i hi => ?_⟩
  have m := hs.mine i hi
  refine ⟨?_, (sl i).A, (sl i).n, (sl i).c, ?_, mine_cap m, mine_none m, m.len, m.2, fun hp => ?_⟩
  · rw [Nat.zero_add, World.ownsRow.cellAt hr _ (by omega), cvs_at _ _ _ _ (by omega), cf0]
  · rw [Nat.zero_add, World.ownsRow.cellAt hr _ (by omega), cvs_at _ _ _ _ (by omega), cf1]; rfl
  · obtain ⟨b, off, e, hb, hc⟩ := m.byts.2.2 hp
    refine ⟨b, off, e, ?_, hc⟩
    obtain ⟨g', e', _⟩ := m.form hp
    rw [e] at e'
    cases e'
    exact hs.under i hi b (by unfold Sub.v; rw [e]; simp [Value.ownBlock])
theorem OwnC.free (h : OwnC w lo hi (some ⟨g, 0, none⟩) n c cs) (k : Nat) : w.frozen? ⟨g, k, none⟩ = false := by
  obtain ⟨hl, hu, sl, hr, hs⟩ := h
  exact World.ownsRow.frozenAt hr k
/-- another cell in place of the k-th: its bytes in a block that was made since. -/
theorem OwnC.put {w0 : World} {A' : Option Addr} {n' c' k : Nat} {bs : List Int} (m : Int) (h : OwnC w0 lo hi (some ⟨g, 0, none⟩) n c cs) (hh : hi ≤ w0.heap.size) (hb : Below w0.heap.size w0 w) (hx : Mine w w0.heap.size A' n' c' bs) (hk : k < n) (hh' : w.heap.size ≤ hi') (hlo : lo ≤ w0.heap.size) :
    OwnC ((w.setCell ⟨g, k * 2, none⟩ (.int .i64 m)).setCell ⟨g, k * 2 + 1, none⟩ (.slice A' n' c')) lo hi' (some ⟨g, 0, none⟩) n c (cs.set k (m, bs)) ∧
      Touch (fun b => b = g) w ((w.setCell ⟨g, k * 2, none⟩ (.int .i64 m)).setCell ⟨g, k * 2 + 1, none⟩ (.slice A' n' c')) := by
  have hs0 := hb.size
  have h := h.below (hb.mono hh)
  obtain ⟨hl, hu, sl, hr, hs⟩ := h
  have hg := hr.lt g (by simp [Value.ownBlock])
  have hgu := hu g (by simp [Value.ownBlock])
  obtain ⟨r1, t1⟩ := World.ownsRow.stored hr (k * 2) (.int .i64 m)
  obtain ⟨r2, t2⟩ := World.ownsRow.stored r1 (k * 2 + 1) (.slice A' n' c')
  have t : Touch (fun b => b = g) w ((w.setCell ⟨g, k * 2, none⟩ (.int .i64 m)).setCell ⟨g, k * 2 + 1, none⟩ (.slice A' n' c')) := (touch_set (S := fun b => b = g) w g _ _ rfl).trans (touch_set _ g _ _ rfl)
  refine ⟨⟨by simp [hl], fun b hb' => Nat.lt_of_lt_of_le (hu b hb') (by omega), fun i => if i = k then ⟨A', n', c', bs⟩ else sl i, ?_, ?_, ?_, ?_, ?_⟩, t⟩
  · rw [← cvs_set n cs sl k m ⟨A', n', c', bs⟩ bs hk hl]; exact r2
  · intro i hi1
    rw [cel_set _ _ _ _ (by omega)]
    by_cases h : i = k
    · simp only [h, if_true]
      exact (hx.base hlo).touch t (fun b hb' e => by have := (hx.1.lt b hb').1; omega)
    · simp only [h, if_false]
      exact (hs.mine i hi1).touch t (fun b hb' e => hs.other i hi1 b hb' (by rw [e]; simp [Value.ownBlock]))
  · intro i j hi1 hj hij b
    by_cases h : i = k
    · have h2 : ¬ j = k := by omega
      simp only [h, h2, if_true, if_false]
      intro e1 e2
      have := (hx.1.lt b e1).1
      have := hs.under j hj b e2
      omega
    · by_cases h2 : j = k
      · simp only [h, h2, if_true, if_false]
        intro e1 e2
        have := (hx.1.lt b e2).1
        have := hs.under i hi1 b e1
        omega
      · simp only [h, h2, if_false]
        exact hs.apart i j hi1 hj hij b
  · intro i hi1 b
    by_cases h : i = k
    · simp only [h, if_true]
      intro e1 e2
      have := (hx.1.lt b e1).1
      simp [Value.ownBlock] at e2
      omega
    · simp only [h, if_false]
      exact hs.other i hi1 b
  · intro i hi1 b
    by_cases h : i = k
    · simp only [h, if_true]
      intro e1
      have := (hx.1.lt b e1).2
      omega
    · simp only [h, if_false]
      intro e1
      have := hs.under i hi1 b e1
      omega
theorem OwnC.cell0 {k : Nat} (h : OwnC w lo hi (some ⟨g, 0, none⟩) n c cs) (hk : k < n) : w.cell? ⟨g, k * 2, none⟩ = some (.int .i64 (cel cs k).1) := by
  obtain ⟨b, off, _, _, _, e, _, h0, _⟩ := h.cells.at_ hk
  cases e
  simpa using h0
theorem OwnC.cell1 {k : Nat} (h : OwnC w lo hi (some ⟨g, 0, none⟩) n c cs) (hk : k < n) : ∃ Ai ni ci, w.cell? ⟨g, k * 2 + 1, none⟩ = some (.slice Ai ni ci) ∧ ni ≤ ci ∧ (Ai = none → ci = 0) ∧ Byts w hi Ai ni (cel cs k).2 := by
  obtain ⟨b, off, Ai, ni, ci, e, _, _, h1, h2, h3, h4⟩ := h.cells.at_ hk
  cases e
  exact ⟨Ai, ni, ci, by simpa using h1, h2, h3, h4⟩
theorem cvs_same (cs cs' : List (Int × List Int)) (sl : Nat → Sub) (h : ∀ i, i < n → (cel cs i).1 = (cel cs' i).1) : cvs n cs sl = cvs n cs' sl := by
  unfold cvs
  apply List.map_congr_left
  intro j hj
  have hj : j < n * 2 := by simpa using hj
  unfold cf
  rw [h (j / 2) (by omega)]
theorem cvs_name (cs : List (Int × List Int)) (sl : Nat → Sub) (k : Nat) (m : Int) (b : List Int) (hk : k < n) (hl : cs.length = n) : (cvs n cs sl).set (k * 2) (.int .i64 m) = cvs n (cs.set k (m, b)) sl := by
  apply List.ext_getElem?
  intro j
  by_cases hj : j < n * 2
  · rw [cvs_at _ _ _ j hj]
    by_cases h0 : j = k * 2
    · subst h0
      rw [List.getElem?_set_self (by simp [cvs]; omega), cf0, cel_set _ _ _ _ (by omega), if_pos rfl]
    · rw [List.getElem?_set_ne (by omega), cvs_at _ _ _ j hj]
      unfold cf
      rw [cel_set _ _ _ _ (by omega)]
      by_cases he : j % 2 = 0
      · rw [if_neg (show ¬ j / 2 = k by omega)]
      · rw [if_neg he, if_neg he]
  · rw [List.getElem?_eq_none (by simp [cvs]; omega), List.getElem?_eq_none (by simp [cvs]; omega)]
/-- another name in the k-th cell. -/
theorem OwnC.setName {k : Nat} (m : Int) (h : OwnC w lo hi (some ⟨g, 0, none⟩) n c cs) (hk : k < n) :
    OwnC (w.setCell ⟨g, k * 2, none⟩ (.int .i64 m)) lo hi (some ⟨g, 0, none⟩) n c (cs.set k (m, (cel cs k).2)) := by
  obtain ⟨hl, hu, sl, hr, hs⟩ := h
  have hg := hr.lt g (by simp [Value.ownBlock])
  obtain ⟨r1, t1⟩ := World.ownsRow.stored hr (k * 2) (.int .i64 m)
  have t : Touch (fun b => b = g) w (w.setCell ⟨g, k * 2, none⟩ (.int .i64 m)) := touch_set (S := fun b => b = g) w g _ _ rfl
  refine ⟨by simp [hl], hu, sl, ?_, ⟨fun i hi1 => ?_, hs.apart, hs.other, hs.under⟩⟩
  · rw [← cvs_name cs sl k m _ hk hl]; exact r1
  · have hm := (hs.mine i hi1).touch t (fun b hb' e => hs.other i hi1 b hb' (by rw [e]; simp [Value.ownBlock]))
    rw [cel_set _ _ _ _ (by omega)]
    by_cases h : i = k
    · subst h; rw [if_pos rfl]; exact hm
    · rw [if_neg h]; exact hm
/-- other bytes in the k-th cell's own slice. -/
theorem OwnC.inner {k : Nat} (h : OwnC w lo hi (some ⟨g, 0, none⟩) n c cs) (hk : k < n) :
    ∃ Ai ni ci, w.cell? ⟨g, k * 2 + 1, none⟩ = some (.slice Ai ni ci) ∧ Mine w lo Ai ni ci (cel cs k).2 ∧ (∀ b, (Value.slice Ai ni ci).ownBlock = some b → lo ≤ b ∧ b < hi) ∧
      ∀ w' bs', Mine w' lo Ai ni ci bs' → w.grownBy w' (Value.slice Ai ni ci).ownBlock → OwnC w' lo hi (some ⟨g, 0, none⟩) n c (cs.set k ((cel cs k).1, bs')) := by
  obtain ⟨hl, hu, sl, hr, hs⟩ := h
  refine ⟨(sl k).A, (sl k).n, (sl k).c, ?_, hs.mine k hk, fun b hb => ⟨((hs.mine k hk).1.lt b hb).1, hs.under k hk b hb⟩, fun w' bs' hm hg => ?_⟩
  · rw [World.ownsRow.cellAt hr _ (by omega), cvs_at _ _ _ _ (by omega), cf1]; rfl
  · have t := Touch.of_grown hg
    refine ⟨by simp [hl], hu, sl, ?_, ⟨fun i hi1 => ?_, hs.apart, hs.other, hs.under⟩⟩
    · rw [← cvs_same (n := n) cs (cs.set k ((cel cs k).1, bs')) sl (fun i hi1 => by
        rw [cel_set _ _ _ _ (by omega)]
        by_cases h : i = k
        · subst h; rw [if_pos rfl]
        · rw [if_neg h])]
      refine own_touch hr t (fun b hb e => ?_)
      have : g = b := by simpa [Value.ownBlock] using hb
      subst this
      exact hs.other k hk g e.symm (by simp [Value.ownBlock])
    · rw [cel_set _ _ _ _ (by omega)]
      by_cases h : i = k
      · subst h; rw [if_pos rfl]; exact hm
      · rw [if_neg h]
        exact (hs.mine i hi1).touch t (fun b hb e => hs.apart i k hi1 hk h b hb e.symm)
end
end Go.Proofs.Ytebfinedkjlbbaa

-- CellM: Plain facts on lists of cells: right ones; where a name stands. No statement of the program is proved here.
namespace Go.Proofs.Ytebfinedkjlbbaa
set_option maxRecDepth 20000
set_option linter.unusedVariables false
set_option linter.unusedSimpArgs false
open Go.RowKit

/-- bytes of a node. -/
def IsNode (bs : List Int) : Prop := ∃ nd, NodeRead bs nd true
theorem IsNode.of {bs : List Int} {nd : MNode} {b : Bool} (h : NodeRead bs nd b) : b = true ↔ IsNode bs :=
  ⟨fun e => ⟨nd, e ▸ h⟩, fun ⟨_, h'⟩ => (h.one h').2⟩
def CellAt (cs : List (Int × List Int)) (i : Nat) : Prop := IsNode (cel cs i).2 ∧ nameOf (cel cs i).2 = (cel cs i).1 ∧ (0 < i → (cel cs (i - 1)).1 < (cel cs i).1)
/-- cells as the document has them. -/
def Right (cs : List (Int × List Int)) : Prop := cs.length ≤ 80 ∧ ∀ i, i < cs.length → CellAt cs i
theorem Right.rise {cs : List (Int × List Int)} (h : Right cs) (i j : Nat) (hij : i < j) (hj : j < cs.length) : (cel cs i).1 < (cel cs j).1 := by
  induction j with
  | zero => omega
  | succ j ih =>
    have h1 := (h.2 (j + 1) hj).2.2 (by omega)
    rw [Nat.add_sub_cancel] at h1
    by_cases e : i = j
    · subst e; exact h1
    · have := ih (by omega) (by omega); omega
theorem Right.pos {cs : List (Int × List Int)} (h : Right cs) (i : Nat) (hi : i < cs.length) : 1 ≤ (cel cs i).1 ∧ (cel cs i).1 ≤ 9223372036854775807 := by
  have h1 := (h.2 i hi).2.1
  have h2 := nameOf_bd (cel cs i).2
  omega
/-- where a name stands first; behind them where it does not. -/
def findC (cs : List (Int × List Int)) (m : Int) : Nat := cs.findIdx fun c => c.1 == m
theorem findC_le (cs : List (Int × List Int)) (m : Int) : findC cs m ≤ cs.length := List.findIdx_le_length
theorem findC_is (cs : List (Int × List Int)) (m : Int) (h : findC cs m < cs.length) : (cel cs (findC cs m)).1 = m := by
  have h1 := List.findIdx_getElem (w := h)
  have h1 : cs[List.findIdx (fun c => c.1 == m) cs].1 = m := by simpa using h1
  unfold cel
  rw [List.getElem?_eq_getElem h]
  exact h1
theorem findC_not (cs : List (Int × List Int)) (m : Int) (i : Nat) (h : i < findC cs m) : (cel cs i).1 ≠ m := by
  have hl := findC_le cs m
  have h1 := List.not_of_lt_findIdx (show i < cs.findIdx fun c => c.1 == m from h)
  unfold cel
  rw [List.getElem?_eq_getElem (by omega)]
  simpa using h1
theorem findC_at (cs : List (Int × List Int)) (m : Int) (k : Nat) (hk : k < cs.length) (hm : (cel cs k).1 = m) (h : ∀ j, j < k → (cel cs j).1 ≠ m) : findC cs m = k := by
  rcases Nat.lt_trichotomy (findC cs m) k with h1 | h1 | h1
  · exact absurd (findC_is cs m (by omega)) (h _ h1)
  · exact h1
  · exact absurd hm (findC_not cs m k h1)
theorem findC_none (cs : List (Int × List Int)) (m : Int) (h : ∀ j, j < cs.length → (cel cs j).1 ≠ m) : findC cs m = cs.length := by
  have := findC_le cs m
  rcases Nat.lt_or_ge (findC cs m) cs.length with h1 | h1
  · exact absurd (findC_is cs m h1) (h _ h1)
  · omega
theorem Right.find {cs : List (Int × List Int)} (h : Right cs) (k : Nat) (hk : k < cs.length) : findC cs (cel cs k).1 = k :=
  findC_at cs _ k hk rfl fun j hj => by have := h.rise j k hj hk; omega
/-- what stands under a name: its node, and true; the zero node and false where there is none. -/
def HitIs (cs : List (Int × List Int)) (m : Int) (nd : MNode) (b : Bool) : Prop :=
  (findC cs m < cs.length ∧ NodeRead (cel cs (findC cs m)).2 nd b) ∨ (¬ findC cs m < cs.length ∧ nd = node0 ∧ b = false)
theorem HitIs.one {cs : List (Int × List Int)} {m : Int} {nd nd' : MNode} {b b' : Bool} (h : HitIs cs m nd b) (h' : HitIs cs m nd' b') : nd = nd' ∧ b = b' := by
  rcases h with ⟨h1, h2⟩ | ⟨h1, rfl, rfl⟩ <;> rcases h' with ⟨k1, k2⟩ | ⟨k1, rfl, rfl⟩
  · exact h2.one k2
  · exact absurd h1 k1
  · exact absurd k1 h1
  · exact ⟨rfl, rfl⟩
def NodeAtIs (cs : List (Int × List Int)) (m : Int) (nd : MNode) (b : Bool) : Prop := (Right cs ∧ HitIs cs m nd b) ∨ (¬ Right cs ∧ nd = node0 ∧ b = false)
theorem NodeAtIs.one {cs : List (Int × List Int)} {m : Int} {nd nd' : MNode} {b b' : Bool} (h : NodeAtIs cs m nd b) (h' : NodeAtIs cs m nd' b') : nd = nd' ∧ b = b' := by
  rcases h with ⟨h1, h2⟩ | ⟨h1, rfl, rfl⟩ <;> rcases h' with ⟨k1, k2⟩ | ⟨k1, rfl, rfl⟩
  · exact h2.one k2
  · exact absurd h1 k1
  · exact absurd k1 h1
  · exact ⟨rfl, rfl⟩
end Go.Proofs.Ytebfinedkjlbbaa

-- Sums: The two sums of a name and the name of bytes, as the program and as the model reckon them: what each call returns, the world left as it was.
namespace Go.Proofs.Ytebfinedkjlbbaa
set_option maxRecDepth 20000
open Go.RowKit

theorem up_any (A : Option Addr) (n c : Nat) (zs : List Int) (B : Nat) (w : World) (hn : n ≤ 9223372036854775807) (hb : Byts w B A n zs) :
    Calls Try.prog 144 #[.slice A n c, .int .i64 7, .int .i64 131, .int .i64 2147483647] w fun e w' => e = .returned (.int .i64 (upSum zs)) ∧ w = w' := by
  have HB := Lib.hid hb
  have hlen : zs.length = n := hb.1
  have HL := Lib.hid hlen
  clear hb hlen
  go_enter Try.func144, Try.ntmps144
  go_wp2
  go_loop [9, 15] (fun s i => ∃ k : Nat, k ≤ n ∧ i = .int .i64 k ∧ s = .int .i64 (upSum (zs.take k))) (fun _ i => n - (intOf i).toNat)
  case atStart => exact ⟨0, Nat.zero_le _, rfl, rfl⟩
  case round =>
    obtain ⟨k, hk, rfl, rfl⟩ := hrel
    have hs := upSum_bd (zs.take k)
    by_cases hlt : k < n
    · obtain ⟨b, off, rfl, _, hc⟩ := HB.out.at_ hlt
      have hr := HB.out.range k
      have HS := Lib.hid (upSum_step zs k (by have := HL.out; omega))
      go_wp2
      go_round
      case rel => exact ⟨k + 1, by omega, by go_num, by rw [HS.out]⟩
      case measure => simp [intOf]; omega
    · go_wp2
      go_ret
      exact ⟨ret_i64 (by rw [List.take_of_length_le (by have := HL.out; omega)]), rfl⟩
theorem lo_any (A : Option Addr) (n c : Nat) (zs : List Int) (B : Nat) (w : World) (hn : n ≤ 9223372036854775807) (hb : Byts w B A n zs) :
    Calls Try.prog 145 #[.slice A n c, .int .i64 11, .int .i64 137, .int .i64 2147483629] w fun e w' => e = .returned (.int .i64 (loSum zs)) ∧ w = w' := by
  have HB := Lib.hid hb
  have hlen : zs.length = n := hb.1
  have HL := Lib.hid hlen
  clear hb hlen
  go_enter Try.func145, Try.ntmps145
  go_wp2
  go_loop [9, 15] (fun s i => ∃ k : Nat, k ≤ n ∧ i = .int .i64 k ∧ s = .int .i64 (loSum (zs.take k))) (fun _ i => n - (intOf i).toNat)
  case atStart => exact ⟨0, Nat.zero_le _, rfl, rfl⟩
  case round =>
    obtain ⟨k, hk, rfl, rfl⟩ := hrel
    have hs := loSum_bd (zs.take k)
    by_cases hlt : k < n
    · obtain ⟨b, off, rfl, _, hc⟩ := HB.out.at_ hlt
      have hr := HB.out.range k
      have HS := Lib.hid (loSum_step zs k (by have := HL.out; omega))
      go_wp2
      go_round
      case rel => exact ⟨k + 1, by omega, by go_num, by rw [HS.out]⟩
      case measure => simp [intOf]; omega
    · go_wp2
      go_ret
      exact ⟨ret_i64 (by rw [List.take_of_length_le (by have := HL.out; omega)]), rfl⟩
theorem name_any (A : Option Addr) (n c : Nat) (zs : List Int) (B : Nat) (w : World) (hn : n ≤ 9223372036854775807) (hb : Byts w B A n zs) :
    Calls Try.prog 133 #[.slice A n c] w fun e w' => e = .returned (.int .i64 (nameOf zs)) ∧ w = w' := by
  have h1 := upSum_bd zs
  have h2 := loSum_bd zs
  have HB := Lib.hid hb
  clear hb
  go_enter Try.func133, Try.ntmps133
  go_wp2_with (first
    | (go_at_call 144; refine (up_any _ _ _ zs _ _ (by omega) HB.out).mono ?_; rintro e w' ⟨rfl, rfl⟩)
    | (go_at_call 145; refine (lo_any _ _ _ zs _ _ (by omega) HB.out).mono ?_; rintro e w' ⟨rfl, rfl⟩))
  go_ret
  exact ⟨ret_i64 (by unfold nameOf; omega), rfl⟩

theorem specName_any (A : Option Addr) (n c : Nat) (zs : List Int) (B : Nat) (w : World) (hn : n ≤ 9223372036854775807) (hb : Byts w B A n zs) :
    Calls Try.prog 88 #[.slice A n c] w fun e w' => e = .returned (.int .i64 (nameOf zs)) ∧ w = w' := by
  have HB := Lib.hid hb
  have hlen : zs.length = n := hb.1
  have HL := Lib.hid hlen
  clear hb hlen
  go_enter Try.func88, Try.ntmps88
  go_wp2
  go_loop [3, 4, 5] (fun s t i => ∃ k : Nat, k ≤ n ∧ i = .int .i64 k ∧ s = .int .i64 (upSum (zs.take k)) ∧ t = .int .i64 (loSum (zs.take k))) (fun _ _ i => n - (intOf i).toNat)
  case atStart => exact ⟨0, Nat.zero_le _, rfl, rfl, rfl⟩
  case round =>
    obtain ⟨k, hk, rfl, rfl, rfl⟩ := hrel
    have hs := upSum_bd (zs.take k)
    have ht := loSum_bd (zs.take k)
    by_cases hlt : k < n
    · obtain ⟨b, off, rfl, _, hc⟩ := HB.out.at_ hlt
      have hr := HB.out.range k
      have HS := Lib.hid (upSum_step zs k (by have := HL.out; omega))
      have HT := Lib.hid (loSum_step zs k (by have := HL.out; omega))
      go_wp2
      go_round
      case rel => exact ⟨k + 1, by omega, by go_num, by rw [HS.out], by rw [HT.out]⟩
      case measure => simp [intOf]; omega
    · go_wp2
      go_ret
      exact ⟨ret_i64 (by rw [List.take_of_length_le (by have := HL.out; omega)]; rfl), rfl⟩
end Go.Proofs.Ytebfinedkjlbbaa

-- CellS: The model's CellsOk, and where it finds a name.
namespace Go.Proofs.Ytebfinedkjlbbaa
set_option maxRecDepth 20000
set_option linter.unusedVariables false
set_option linter.unusedSimpArgs false
open Go.RowKit

theorem index_cell (b off n c j : Nat) (h : j < n) (W : World) : (Instr.indexAt 67 (.slice (some ⟨b, off, none⟩) n c) (.int .i64 (j : Int))).run Try.prog W = .ok (.pointer (some ⟨b, off + j * 2, none⟩)) W := by
  go_simp
theorem index_cell_pred (b off n c k : Nat) (h0 : 0 < k) (h : k - 1 < n) (W : World) : (Instr.indexAt 67 (.slice (some ⟨b, off, none⟩) n c) (.int .i64 ((k : Int) - 1))).run Try.prog W = .ok (.pointer (some ⟨b, off + (k - 1) * 2, none⟩)) W := by
  obtain ⟨j, hj⟩ : ∃ j, k - 1 = j := ⟨_, rfl⟩
  have e : (k : Int) - 1 = (j : Int) := by omega
  rw [e, hj]
  exact index_cell b off n c j (by omega) W

theorem l4Find_any (A : Option Addr) (n c : Nat) (cs : List (Int × List Int)) (m : Int) (B : Nat) (w : World) (hn : n ≤ 1048576) (hb : Cells w B A n cs) :
    Calls Try.prog 129 #[.slice A n c, .int .i64 m] w fun e w' => e = .returned (.int .i64 (if findC cs m < n then (findC cs m : Int) else -1)) ∧ w = w' := by
  have HB := Lib.hid hb
  have hlen := hb.1
  clear hb
  obtain ⟨R, hR⟩ : ∃ R : Int, (if findC cs m < n then (findC cs m : Int) else -1) = R := ⟨_, rfl⟩
  rw [hR]
  have HR := Lib.hid hR
  clear hR
  go_enter Try.func129, Try.ntmps129
  go_wp2
  go_loop [5] (fun i => ∃ k : Nat, k ≤ n ∧ i = .int .i64 k ∧ ∀ j, j < k → (cel cs j).1 ≠ m) (fun i => n - (intOf i).toNat)
  case atStart => exact ⟨0, Nat.zero_le _, rfl, fun j hj => absurd hj (by omega)⟩
  case round =>
    obtain ⟨k, hk, rfl, hno⟩ := hrel
    by_cases hlt : k < n
    · obtain ⟨b, off, Ai, ni, ci, rfl, hbB, h0, h1, _, _, hy⟩ := HB.out.at_ hlt
      have hx : ∃ x, (cel cs k).1 = x := ⟨_, rfl⟩
      obtain ⟨x, hx⟩ := hx
      rw [hx] at h0
      clear h1
      by_cases he : x = m
      · subst he
        have hf := Lib.hid (findC_at cs x k (by omega) hx hno)
        have hr : (k : Int) = R := by rw [← HR.out, hf.out, if_pos hlt]
        subst hr
        go_wp2
        go_ret
        exact ⟨rfl, rfl⟩
      · have hb0 : (x == m) = false := by simpa using he
        go_wp2
        go_round
        case rel =>
          refine ⟨k + 1, by omega, by go_num, fun j hj => ?_⟩
          rcases Nat.lt_or_ge j k with h | h
          · exact hno j h
          · rw [show j = k by omega, hx]; exact he
        case measure => simp [intOf]; omega
    · have hr : -1 = R := by rw [← HR.out, findC_none cs m (fun j hj => hno j (by omega)), if_neg (by omega)]
      subst hr
      clear HR
      go_wp2
      go_ret
      exact ⟨rfl, rfl⟩

theorem specCellsOk_any (A : Option Addr) (n c : Nat) (cs : List (Int × List Int)) (B : Nat) (w : World) (hn : n ≤ 1048576) (hm : ∀ i, (cel cs i).2.length ≤ 1048576) (hB : B ≤ w.heap.size) (hb : Cells w B A n cs) :
    Calls Try.prog 102 #[.slice A n c] w fun e w' => ∃ b, e = .returned (.bool b) ∧ (b = true ↔ Right cs) ∧ Below w.heap.size w w' := by
  have HB := Lib.hid (hb.more hB)
  have hlen := hb.1
  clear hb
  go_enter Try.func102, Try.ntmps102
  go_wp2
  go_loopw [3] (fun i wr => ∃ k : Nat, k ≤ n ∧ i = .int .i64 k ∧ (∀ j, j < k → CellAt cs j) ∧ Below w.heap.size w wr) (fun i _ => n - (intOf i).toNat)
  case atStart => exact ⟨0, Nat.zero_le _, rfl, fun j hj => absurd hj (by omega), Below.refl _ _⟩
  case round =>
    obtain ⟨k, hk, rfl, hgood, hbel⟩ := hrel
    have HK := Lib.hid (HB.out.below hbel)
    by_cases hlt : k < n
    · obtain ⟨b, off, Ai, ni, ci, rfl, hbB, h0, h1, hc, hA, hy⟩ := HK.out.at_ hlt
      obtain ⟨x, hx⟩ : ∃ x, cel cs k = x := ⟨_, rfl⟩
      have hnm := hm k
      have hni := hy.1
      have hs0 := hbel.size
      rw [hx] at h0 hy hni hnm
      have Y := Lib.hid hy
      have BR := Lib.hid hbel
      clear hy hbel
      have hle : ni ≤ 1048576 := by omega
      go_wp2_with fail
      refine (specNodeFrom_any Ai ni ci x.2 w.heap.size _ hle hc hs0 Y.out).mono ?_
      rintro e w1 ⟨v, nd, r, rfl, own, rd, b1⟩
      have hr := Lib.hid (IsNode.of rd)
      have HK1 := Lib.hid (HK.out.below (b1.mono hs0))
      have B1 := Lib.hid (BR.out.trans (b1.mono hs0))
      obtain ⟨Ap, np, cp, Ak, nk, ck, rfl, _⟩ := own
      clear rd h0 h1 b1
      obtain ⟨w2, hw2⟩ : ∃ w2, w1.alloc (.cells #[.int .i64 0, .slice none 0 0, .slice none 0 0, .string { data := #[] }] 26) = w2 := ⟨_, rfl⟩
      have x2 : Box w2 w1.heap.size _ _ := hw2 ▸ heap_alloc_new _ _
      have b2 : Below w1.heap.size w1 w2 := hw2 ▸ (Below.refl _ _).alloc (Nat.le_refl _) _
      have X2 := Lib.hid x2
      obtain ⟨w3, hw3⟩ : ∃ w3, (((w2.setCell ⟨w1.heap.size, 0, none⟩ (.int .i64 nd.kind)).setCell ⟨w1.heap.size, 1, none⟩ (.slice Ap np cp)).setCell ⟨w1.heap.size, 2, none⟩ (.slice Ak nk ck)).setCell ⟨w1.heap.size, 3, none⟩ (.string nd.val) = w3 := ⟨_, rfl⟩
      have t3 : Touch (fun b => b = w1.heap.size) w2 w3 := hw3 ▸ (set4 x2 _ _ _ _).2
      have hs1 := B1.out.size
      have b3 : Below w1.heap.size w1 w3 := b2.trans (t3.below b2.size (fun b hb e => by omega))
      have HK3 := Lib.hid (HK1.out.below (b3.mono hs1))
      have B3 := Lib.hid (B1.out.trans (b3.mono hs1))
      have q20 := X2.out.cell 0
      have q21 := X2.out.cell 1
      have q22 := X2.out.cell 2
      have q23 := X2.out.cell 3
      have f2 := X2.out.free
      simp at q20 q21 q22 q23
      clear b2 b3 t3 x2
      obtain ⟨_, _, Aj, nj, cj, e1, _, h0, h1, _, _, hy3⟩ := HK3.out.at_ hlt
      cases e1
      rw [hx] at h0 hy3
      have hnj := hy3.1
      have Y3 := Lib.hid hy3
      have hle2 : nj ≤ 9223372036854775807 := by omega
      clear hy3
      cases r with
      | false =>
        go_wp2
        go_quiet (fail)
        go_wp2
        go_ret
        exact ⟨false, rfl, iff_of_false (by simp) (fun hR => by
          have := (hR.2 k (by omega)).1
          rw [hx] at this
          exact absurd (hr.out.2 this) (by simp)), below_drewN B3.out _⟩
      | true =>
        have hNM : ∀ q, Calls Try.prog 88 #[.slice Aj nj cj] (w3.drewN q) fun e w' => e = .returned (.int .i64 (nameOf x.2)) ∧ w' = w3.drewN q :=
          fun q => (specName_any Aj nj cj x.2 w.heap.size (w3.drewN q) hle2 (Y3.out.drewN q)).mono fun e w' h => ⟨h.1, h.2.symm⟩
        have NM := Lib.hid hNM
        clear hNM
        by_cases hN : nameOf x.2 = x.1
        · have hb1 : (nameOf x.2 != x.1) = false := by simp [hN]
          by_cases hk0 : 0 < k
          · obtain ⟨_, _, _, _, _, e1, _, p0, _⟩ := HK3.out.at_ (k := k - 1) (by omega)
            cases e1
            obtain ⟨y, hy⟩ : ∃ y, cel cs (k - 1) = y := ⟨_, rfl⟩
            rw [hy] at p0
            have hia := index_cell_pred b off n c k hk0 (by omega)
            have hwk : IntKind.i64.wrap ((k : Int) - 1) = (k : Int) - 1 := by rw [IntKind.wrap_i64]; omega
            have hd : decide ((0 : Int) < (k : Int)) = true := decide_eq_true (by omega)
            by_cases hR : x.1 ≤ y.1
            · have hdR : decide (x.1 ≤ y.1) = true := decide_eq_true hR
              go_wp2
              go_quiet (first | (go_at_call 88; exact Calls.quiet_of_same (NM.out _)))
              go_wp2
              go_ret
              exact ⟨false, rfl, iff_of_false (by simp) (fun hR' => by
                have := (hR'.2 k (by omega)).2.2 hk0
                rw [hx, hy] at this
                omega), below_drewN B3.out _⟩
            · have hdR : decide (x.1 ≤ y.1) = false := decide_eq_false hR
              go_wp2
              go_quiet (first | (go_at_call 88; exact Calls.quiet_of_same (NM.out _)))
              go_wp2
              go_roundw
              case rel =>
                refine ⟨k + 1, by omega, by go_num, fun j hj => ?_, below_drewN B3.out _⟩
                rcases Nat.lt_or_ge j k with h | h
                · exact hgood j h
                · rw [show j = k by omega]
                  exact ⟨by rw [hx]; exact hr.out.1 (by trivial), by rw [hx]; exact hN, fun _ => by rw [hx, hy]; omega⟩
              case measure => simp [intOf]; omega
          · obtain rfl : k = 0 := by omega
            rw [Nat.zero_mul, Nat.add_zero] at h0 h1
            go_wp2
            go_quiet (first | (go_at_call 88; exact Calls.quiet_of_same (NM.out _)))
            go_wp2
            go_roundw
            case rel =>
              refine ⟨1, by omega, by go_num, fun j hj => ?_, below_drewN B3.out _⟩
              rw [show j = 0 by omega]
              exact ⟨by rw [hx]; exact hr.out.1 (by trivial), by rw [hx]; exact hN, fun h => absurd h (by omega)⟩
            case measure => simp [intOf]; omega
        · have hb1 : (nameOf x.2 != x.1) = true := by simp [hN]
          go_wp2
          go_quiet (first | (go_at_call 88; exact Calls.quiet_of_same (NM.out _)))
          go_wp2
          go_ret
          exact ⟨false, rfl, iff_of_false (by simp) (fun hR => by
            have := (hR.2 k (by omega)).2.1
            rw [hx] at this
            exact hN this), below_drewN B3.out _⟩
    · obtain rfl : k = n := by omega
      go_wp2
      go_ret
      refine ⟨_, rfl, ?_, hbel⟩
      constructor
      · intro h
        exact ⟨by have := of_decide_eq_true h; omega, fun i hi => hgood i (by omega)⟩
      · intro h
        have := h.1
        exact decide_eq_true (by omega)
end Go.Proofs.Ytebfinedkjlbbaa

-- OpenCells: Cells that came in as an argument: what is known of their value.
namespace Go.Proofs.Ytebfinedkjlbbaa
set_option maxRecDepth 20000
set_option linter.unusedVariables false
set_option linter.unusedSimpArgs false
open Go.RowKit Go.ChangeShapes Go.WideShapes Go.Joins Go.Deep

/-- the value v is a slice of cells cs that came in. -/
def CellsArg (w : World) (v : Value) (cs : List (Int × List Int)) : Prop :=
  ∃ A n c, v = .slice A n c ∧ n ≤ maxLen ∧ Cells w w.heap.size A n cs ∧ ∀ i, (cel cs i).2.length ≤ maxLen

theorem cells_of_trod {H : Type} {enc : TypeId × Value → H} {w : World} {fuel : Nat} {v : Value} {x : DataW H × List MemPlace}
    (h : DataW.trod enc Try.prog w 0 (fun _ => true) true fuel 61 [v] = some x) : ∃ cs, CellsArg w v cs := by
  rcases open_slice_pairs Try.underlying61 Try.underlying119 (by kernel_rfl) rfl rfl (by kernel_rfl) (by kernel_rfl) h with ⟨hcs, _⟩ | ⟨a, l, c, m, n, V0, V1, D0, D1, P0, P1, hcs, _, hl, hm, hmm, _, hc⟩
  · simp at hcs
    exact ⟨[], none, 0, 0, hcs, by unfold maxLen; omega, Cells.none_, fun i => by simp [cel]⟩
  · simp at hcs
    have hlm : l ≤ m := by rw [hmm]; simp; exact hl
    have each : ∀ i, i < l → ∃ z : Int × List Int, w.cell? (a.add (i * 2)) = some (.int .i64 z.1) ∧ z.2.length ≤ maxLen ∧ ∃ Ai ni ci, w.cell? (a.add (i * 2 + 1)) = some (.slice Ai ni ci) ∧ ni ≤ ci ∧ (Ai = none → ci = 0) ∧ Byts w w.heap.size Ai ni z.2 := by
      intro i hi
      obtain ⟨h0, h1, t0, t1⟩ := hc i (by omega)
      obtain ⟨z0, e0, _⟩ := DataW.trod_int Try.underlying2 t0
      obtain ⟨Ai, ni, ci, zs, e1, hr⟩ := row_of_trod Try.underlying22 Try.underlying5 (by kernel_rfl) t1
      simp at e0
      refine ⟨(z0, zs.take ni), by rw [h0, e0], ?_, Ai, ni, ci, by rw [h1, e1], ?_, ?_, hr.byts⟩
      · rcases hr with ⟨_, rfl, _, _⟩ | ⟨_, _, h2, h3, _⟩
        · simp
        · simp; omega
      · rcases hr with ⟨_, rfl, rfl, _⟩ | ⟨_, _, h2, h3, _⟩
        · exact Nat.le_refl _
        · exact h2
      · rcases hr with ⟨_, _, rfl, _⟩ | ⟨_, e, h2, h3, _⟩
        · exact fun _ => rfl
        · intro e'; rw [e] at e'; cases e'
    obtain ⟨Z, hZ⟩ := choose_lt each
    refine ⟨(List.range l).map Z, some a, l, c, hcs, by omega, ⟨by simp, fun hp => ?_⟩, fun i => ?_⟩
    · obtain ⟨b, off, spot⟩ := a
      have h0 := (hZ 0 (by omega)).1
      have hspot : spot = none := by simpa [Addr.add] using World.cell?_spot h0
      subst hspot
      refine ⟨b, off, rfl, by simpa [Addr.add] using block_lt_of_cell h0, fun i hi => ?_⟩
      have hadd : ∀ j, (Addr.add ⟨b, off, none⟩ j) = ⟨b, off + j, none⟩ := fun j => by unfold Addr.add; split <;> simp_all
      obtain ⟨k0, _, Ai, ni, ci, k1, k2, k3, k4⟩ := hZ i hi
      rw [hadd] at k0 k1
      have e : cel ((List.range l).map Z) i = Z i := by simp [cel, hi]
      rw [e]
      exact ⟨k0, Ai, ni, ci, k1, k2, k3, k4⟩
    · by_cases hi : i < l
      · have e : cel ((List.range l).map Z) i = Z i := by simp [cel, hi]
        rw [e]
        exact (hZ i hi).2.1
      · have e : cel ((List.range l).map Z) i = (0, []) := by simp [cel, hi]
        rw [e]; simp

theorem open_cells {H : Type} {enc : TypeId × Value → H} {w : World} {r : Reach} {b0 : Nat} {v : Value} {d : DataW H} {p : List MemPlace} (_hv : Value.okWide Try.prog w r b0 61 v)
    (h : DataW.Trod enc Try.prog w 0 (fun _ => true) true 61 v d p) (hc : ∃ A n c, v = .slice A n c) : ∃ cs, CellsArg w v cs := by
  obtain ⟨A, n, c, rfl⟩ := hc
  obtain ⟨fuel, hf⟩ := h
  exact cells_of_trod (by simpa [Value.cells] using hf)
end Go.Proofs.Ytebfinedkjlbbaa

-- CellsX: What the helpers of the exact laws do at slices of cells.
namespace Go.Proofs.Ytebfinedkjlbbaa
set_option maxRecDepth 20000
set_option linter.unusedVariables false
set_option linter.unusedSimpArgs false
open Go.RowKit

/-- the size of some cells, as the laws count it. -/
def szC : List (Int × List Int) → Nat
  | [] => 0
  | c :: r => 1 + c.2.length + szC r
theorem szC_append (a b : List (Int × List Int)) : szC (a ++ b) = szC a + szC b := by
  induction a with
  | nil => simp [szC]
  | cons x r ih => simp [szC, ih]; omega
theorem szC_take (cs : List (Int × List Int)) (k : Nat) (h : k < cs.length) : szC (cs.take (k + 1)) = szC (cs.take k) + 1 + (cel cs k).2.length := by
  rw [cel_take cs k h, szC_append]; simp [szC]; omega
theorem szC_take_le (cs : List (Int × List Int)) (k : Nat) : szC (cs.take k) ≤ szC cs := by
  conv => rhs; rw [← List.take_append_drop k cs, szC_append]
  omega
theorem szC_len (cs : List (Int × List Int)) : cs.length ≤ szC cs := by
  induction cs with
  | nil => simp
  | cons x r ih => simp [szC]; omega
theorem szC_cel (cs : List (Int × List Int)) (k : Nat) (h : k < cs.length) : 1 + (cel cs k).2.length ≤ szC cs := by
  have h1 := szC_take cs k h
  have h2 := szC_take_le cs (k + 1)
  omega

/-- the cells as the marks from k0 on leave them. -/
def markC (k0 : Int) : List (Int × List Int) → List (Int × List Int)
  | [] => []
  | c :: r => (k0, marks (k0 + 1) c.2.length) :: markC (k0 + 1 + c.2.length) r
theorem markC_append (k0 : Int) (a b : List (Int × List Int)) : markC k0 (a ++ b) = markC k0 a ++ markC (k0 + szC a) b := by
  induction a generalizing k0 with
  | nil => simp [markC, szC]
  | cons x r ih =>
    have e : k0 + 1 + (x.2.length : Int) + (szC r : Int) = k0 + ((1 + x.2.length + szC r : Nat) : Int) := by push_cast; omega
    simp only [List.cons_append, markC, ih, szC, e]
theorem markC_len (k0 : Int) (cs : List (Int × List Int)) : (markC k0 cs).length = cs.length := by
  induction cs generalizing k0 with
  | nil => rfl
  | cons x r ih => simp [markC, ih]
theorem markC_sz (k0 : Int) (cs : List (Int × List Int)) : szC (markC k0 cs) = szC cs := by
  induction cs generalizing k0 with
  | nil => rfl
  | cons x r ih => simp [markC, szC, ih, marks_len]
theorem markC_cel (k0 : Int) (cs : List (Int × List Int)) (k : Nat) (h : k < cs.length) : cel (markC k0 cs) k = (k0 + szC (cs.take k), marks (k0 + szC (cs.take k) + 1) (cel cs k).2.length) := by
  have e : cs = cs.take k ++ cel cs k :: cs.drop (k + 1) := by
    conv => lhs; rw [← List.take_append_drop k cs, List.drop_eq_getElem_cons h]
    unfold cel; rw [List.getElem?_eq_getElem h]; rfl
  have hl : (markC k0 (cs.take k)).length = k := by rw [markC_len]; simp; omega
  conv => lhs; unfold cel; rw [e, markC_append]
  rw [List.getElem?_append_right (by omega), hl]
  simp [markC]
/-- the cells, marked as far as the k-th. -/
def markTo (k0 : Int) (cs : List (Int × List Int)) (k : Nat) : List (Int × List Int) := markC k0 (cs.take k) ++ cs.drop k
theorem markTo_len (k0 : Int) (cs : List (Int × List Int)) (k : Nat) : (markTo k0 cs k).length = cs.length := by
  unfold markTo; rw [List.length_append, markC_len]; simp; omega
theorem markTo_cel (k0 : Int) (cs : List (Int × List Int)) (k : Nat) (h : k < cs.length) : cel (markTo k0 cs k) k = cel cs k := by
  unfold markTo cel
  have hl : (markC k0 (cs.take k)).length = k := by rw [markC_len]; simp; omega
  rw [List.getElem?_append_right (by omega), hl]
  simp
theorem markTo_step (k0 : Int) (cs : List (Int × List Int)) (k : Nat) (h : k < cs.length) : (markTo k0 cs k).set k (k0 + szC (cs.take k), marks (k0 + szC (cs.take k) + 1) (cel cs k).2.length) = markTo k0 cs (k + 1) := by
  unfold markTo
  have hl : (markC k0 (cs.take k)).length = k := by rw [markC_len]; simp; omega
  have hc : cs[k] = cel cs k := by unfold cel; rw [List.getElem?_eq_getElem h]; rfl
  rw [cel_take cs k h, markC_append, List.set_append, if_neg (by omega), hl, List.drop_eq_getElem_cons h, Nat.sub_self, List.set_cons_zero, List.append_assoc]
  rfl
theorem markTo_all (k0 : Int) (cs : List (Int × List Int)) : markTo k0 cs cs.length = markC k0 cs := by
  unfold markTo; simp

theorem szCell_any (m : Int) (A : Option Addr) (n c left : Nat) (w : World) (hn : n ≤ maxLen) (hl : left ≤ 1048576) :
    Calls Try.prog 99 #[.agg #[.int .i64 m, .slice A n c], .int .i64 left] w fun e w' => e = .returned (.int .i64 (if n ≤ left then ((left - n : Nat) : Int) else -1)) ∧ Below w.heap.size w w' := by
  unfold maxLen at hn
  have b0 := Lib.hid ((Below.refl w.heap.size w).alloc (Nat.le_refl _) (.cells #[.int .i64 m, .slice A n c] 119))
  have szb : ∀ W : World, Calls Try.prog 86 #[.slice A n c, .int .i64 left] W fun e w' => e = .returned (.int .i64 (if n ≤ left then ((left - n : Nat) : Int) else -1)) ∧ W = w' := by
    intro W
    by_cases h : n ≤ left
    · rw [if_pos h]
      go_enter Try.func86, Try.ntmps86
      go_wp2
      go_ret
      exact ⟨ret_i64 (by omega), rfl⟩
    · rw [if_neg h]
      go_enter Try.func86, Try.ntmps86
      go_wp2
      go_ret
      exact ⟨rfl, rfl⟩
  have SZ := Lib.hid szb
  clear szb
  go_enter Try.func99, Try.ntmps99
  go_wp2_with fail
  refine (SZ.out _).mono ?_
  rintro e w' ⟨rfl, rfl⟩
  by_cases h : n ≤ left
  · rw [if_pos h]
    go_wp2
    go_ret
    exact ⟨rfl, b0.out⟩
  · rw [if_neg h]
    go_wp2
    go_ret
    exact ⟨rfl, b0.out⟩
theorem szCells_any (A : Option Addr) (n c : Nat) (cs : List (Int × List Int)) (w : World) (hn : n ≤ maxLen) (hm : ∀ i, (cel cs i).2.length ≤ maxLen) (hb : Cells w w.heap.size A n cs) :
    Calls Try.prog 49 #[.slice A n c, .int .i64 1048576] w fun e w' => e = .returned (.int .i64 (leftOf 1048576 (szC cs))) ∧ Below w.heap.size w w' := by
  have hlen : cs.length = n := hb.1
  have HB := Lib.hid hb
  clear hb
  unfold maxLen at hn
  by_cases hbig : 1048576 < n
  · have hr : leftOf 1048576 (szC cs) = -1 := if_neg (by have := szC_len cs; omega)
    rw [hr]
    go_enter Try.func49, Try.ntmps49
    go_wp2
    go_ret
    exact ⟨rfl, Below.refl _ _⟩
  · have hle : n ≤ 1048576 := by omega
    have hwr : IntKind.i64.wrap (1048576 - (n : Int)) = ((1048576 - n : Nat) : Int) := by rw [IntKind.wrap_i64]; omega
    have hd : decide ((((1048576 - n : Nat) : Int)) < 0) = false := decide_eq_false (by omega)
    go_enter Try.func49, Try.ntmps49
    go_wp2
    go_loopw [1, 5] (fun l i wr => ∃ k x : Nat, k ≤ n ∧ i = .int .i64 k ∧ l = .int .i64 x ∧ x + n + szC (cs.take k) = 1048576 + k ∧ Below w.heap.size w wr) (fun _ i _ => n - (intOf i).toNat)
    case atStart => exact ⟨0, 1048576 - n, Nat.zero_le _, rfl, by first | rfl | (simp; omega), by simp [szC]; omega, Below.refl _ _⟩
    case round =>
      obtain ⟨k, x, hk, rfl, rfl, hx, hbel⟩ := hrel
      by_cases hlt : k < n
      · obtain ⟨b, off, Ai, ni, ci, rfl, hbB, h0, h1, _, _, hby⟩ := (HB.out.below hbel).at_ hlt
        have hni : (cel cs k).2.length = ni := hby.1
        have hnm := hm k
        have hst := szC_take cs k (by omega)
        have hall := szC_take_le cs (k + 1)
        generalize (cel cs k).1 = m0 at h0
        have BR := Lib.hid hbel
        clear hbel hby
        go_wp2_with fail
        refine (szCell_any _ _ _ _ x _ (by omega) (by omega)).mono ?_
        rintro e w1 ⟨rfl, b1⟩
        have B1 := Lib.hid (BR.out.trans (b1.mono BR.out.size))
        clear b1 h0 h1
        by_cases hq : ni ≤ x
        · rw [if_pos hq]
          have hd2 : decide ((((x - ni : Nat) : Int)) < 0) = false := decide_eq_false (by omega)
          go_wp2
          go_roundw
          case rel => exact ⟨k + 1, x - ni, by omega, by go_num, rfl, by omega, B1.out⟩
          case measure => simp [intOf]; omega
        · rw [if_neg hq]
          go_wp2
          go_ret
          have hle3 : n ≤ k + 1 + szC (cs.drop (k + 1)) := by have := szC_len (cs.drop (k + 1)); simp at this; omega
          have hsum : szC cs = szC (cs.take (k + 1)) + szC (cs.drop (k + 1)) := by rw [← szC_append, List.take_append_drop]
          exact ⟨by rw [show leftOf 1048576 (szC cs) = -1 from if_neg (by omega)]; rfl, B1.out⟩
      · obtain rfl : k = n := by omega
        have hst : cs.take k = cs := List.take_of_length_le (by omega)
        rw [hst] at hx
        go_wp2
        go_ret
        exact ⟨by rw [show leftOf 1048576 (szC cs) = ((1048576 - szC cs : Nat) : Int) from if_pos (by omega)]; exact ret_i64 (by omega), hbel⟩
end Go.Proofs.Ytebfinedkjlbbaa

-- CellsY: What the helpers of the exact laws do at slices of cells: copied, compared, marked, held against the marks.
namespace Go.Proofs.Ytebfinedkjlbbaa
set_option maxRecDepth 20000
set_option linter.unusedVariables false
set_option linter.unusedSimpArgs false
open Go.RowKit

theorem toCell_any (m : Int) (A : Option Addr) (n c : Nat) (bs : List Int) (B : Nat) (w : World) (hn : n ≤ 1048576) (hB : B ≤ w.heap.size) (hb : Byts w B A n bs) :
    Calls Try.prog 106 #[.agg #[.int .i64 m, .slice A n c]] w fun e w' => ∃ A' n' c', e = .returned (.agg #[.int .i64 m, .slice A' n' c']) ∧ Mine w' w.heap.size A' n' c' bs ∧ Below w.heap.size w w' := by
  have hn' : n ≤ 140737488355328 := by omega
  have HP := Lib.hid (hb.more hB)
  have hlen := hb.1
  clear hb
  obtain ⟨w3, hw3⟩ : ∃ w3, (((w.alloc (.cells #[.int .i64 m, .slice A n c] 119)).alloc (.cells #[.int .i64 0, .slice none 0 0] 123)).alloc
    (.cells #[.int .i64 m, .slice none 0 0] 123)) = w3 := ⟨_, rfl⟩
  have x0 : Box w3 w.heap.size _ _ := hw3 ▸ heap3_0 _ _ _ _
  have x1 : Box w3 (w.heap.size + 1) _ _ := hw3 ▸ heap3_1 _ _ _ _
  have x2 : Box w3 (w.heap.size + 1 + 1) _ _ := hw3 ▸ heap3_2 _ _ _ _
  have s3 : w3.heap.size = w.heap.size + 3 := hw3 ▸ size3 _ _ _ _
  have b3 : Below w.heap.size w w3 := hw3 ▸ below3 _ _ _ _
  have X0 := Lib.hid x0
  have X1 := Lib.hid x1
  have X2 := Lib.hid x2
  have B3 := Lib.hid b3
  have HW := Lib.hid hw3
  clear x0 x1 x2 b3 hw3
  go_enter Try.func106, Try.ntmps106
  go_wp2_with fail
  rw [HW.out]
  refine (copy_own _ _ _ bs _ w3 hn' (by omega) (HP.out.below B3.out)).mono ?_
  rintro e w4 ⟨g4, rfl, hg4, r4, b4⟩
  have s4 := b4.size
  have l4 := r4.lt
  have R4 := Lib.hid r4
  have X1 := Lib.hid (X1.out.below b4 (by omega))
  have X2 := Lib.hid (X2.out.below b4 (by omega))
  have B4 := Lib.hid (B3.out.trans (b4.mono (by omega)))
  clear r4 b4
  have q10 := X1.out.cell 0
  have q11 := X1.out.cell 1
  have q20 := X2.out.cell 0
  have q21 := X2.out.cell 1
  have f1 := X1.out.free
  have f2 := X2.out.free
  simp at q10 q11 q20 q21
  go_wp2
  have hX := ((X1.out.other (g' := w.heap.size + 1 + 1) (by omega) 1 (.slice (some ⟨g4, 0, none⟩) n n)).set_ 0 (.int .i64 m)).set_ 1 (.slice (some ⟨g4, 0, none⟩) n n)
  have hS : Touch (fun k => w.heap.size ≤ k ∧ k < w.heap.size + 3) w4 _ :=
    ((touch_set w4 (w.heap.size + 1 + 1) 1 (.slice (some ⟨g4, 0, none⟩) n n) ⟨by omega, by omega⟩).trans (touch_set _ (w.heap.size + 1) 0 (.int .i64 m) ⟨by omega, by omega⟩)).trans (touch_set _ (w.heap.size + 1) 1 (.slice (some ⟨g4, 0, none⟩) n n) ⟨by omega, by omega⟩)
  refine bodyPost_ret (v := .agg #[.int .i64 m, .slice (some ⟨g4, 0, none⟩) n n]) (results_cell_row Try.results106 _ _ (w.heap.size + 1) _ _ _ _ rfl hX Try.underlying123 rfl (by kernel_rfl)) rfl ?_
  have hle := B4.out.size
  exact ⟨_, _, _, rfl, ((row_mine R4.out hlen hg4 (by unfold maxLen; omega)).touch hS (fun g hg h => by simp [Value.ownBlock] at hg; omega)).base (by omega), B4.out.trans (hS.below hle (fun k hk h => by omega))⟩

/-- the cells as far as they are filled. -/
def filledC (cs : List (Int × List Int)) (n k : Nat) : List (Int × List Int) := cs.take k ++ List.replicate (n - k) (0, [])
theorem filledC_len (cs : List (Int × List Int)) (n k : Nat) (hk : cs.length = n) (h : k ≤ n) : (filledC cs n k).length = n := by simp [filledC]; omega
theorem filledC_set (cs : List (Int × List Int)) (n k : Nat) (hz : cs.length = n) (hk : k < n) : (filledC cs n k).set k (cel cs k) = filledC cs n (k + 1) := by
  unfold filledC
  obtain ⟨m, hm⟩ : ∃ m, n - k = m + 1 := ⟨n - k - 1, by omega⟩
  have hm' : n - (k + 1) = m := by omega
  have hl : min k cs.length = k := by omega
  rw [hm, hm', cel_take cs k (by omega)]
  simp [List.replicate_succ, hl]
theorem filledC_all (cs : List (Int × List Int)) (n : Nat) (hz : cs.length = n) : filledC cs n n = cs := by
  unfold filledC
  rw [List.take_of_length_le (by omega)]; simp
def noSub : Sub := ⟨none, 0, 0, []⟩
theorem make_cells (n : Nat) (hn : n ≤ 4398046511104) (W : World) :
    (Instr.makeSlice 67 (.int .i64 (n : Int)) (.int .i64 (n : Int))).run Try.prog W = .ok (.slice (some ⟨W.heap.size, 0, none⟩) n n) (W.alloc (.cells (cvs n (List.replicate n (0, [])) fun _ => noSub).toArray 123)) := by
  obtain ⟨i0, hi, hz0, hz1, hz2⟩ := info_parts Try.infoC
  have hr := run_make (P := Try.prog) W 67 123 i0 (.agg #[.int .i64 0, .slice none 0 0]) Try.underlying67 hi hz0 .i64 .i64 n n (by omega) (by omega) (by rw [hz2]; omega) (by omega)
  simp only [Int.toNat_natCast] at hr
  rw [hr, hz1]
  have e : madeCells (Value.agg #[.int .i64 0, .slice none 0 0]).cells (n * 2) = (cvs n (List.replicate n (0, [])) fun _ => noSub).toArray := by
    apply Array.ext
    · simp [madeCells, cvs]
    · intro i h1 h2
      have hn : i < n * 2 := by simpa [madeCells] using h1
      have hd : i / 2 < n := by omega
      simp [madeCells, cvs, Value.cells, cf, cel, hd, Sub.v, noSub]
      rcases Nat.mod_two_eq_zero_or_one i with h | h <;> simp [h]
  rw [e]
theorem OwnC.of_made (w : World) (n : Nat) (hm : n ≤ maxLen) : OwnC (w.alloc (.cells (cvs n (List.replicate n (0, [])) fun _ => noSub).toArray 123)) w.heap.size (w.heap.size + 1) (some ⟨w.heap.size, 0, none⟩) n n (List.replicate n (0, [])) := by
  refine ⟨by simp, fun b h => by simp [Value.ownBlock] at h; omega, fun _ => noSub, ?_, ?_⟩
  · refine ⟨by simp [cvs], .inr ⟨w.heap.size, n, _, rfl, Nat.le_refl _, heap_alloc_new _ _, Nat.le_refl _, hm, by simp [cvs], List.take_of_length_le (by simp [cvs])⟩⟩
  · refine ⟨fun i hi => ?_, fun i j _ _ _ b h => by simp [Sub.v, noSub, Value.ownBlock] at h, fun i _ b h => by simp [Sub.v, noSub, Value.ownBlock] at h, fun i _ b h => by simp [Sub.v, noSub, Value.ownBlock] at h⟩
    have e : cel (List.replicate n ((0 : Int), ([] : List Int))) i = (0, []) := by simp [cel, hi]
    rw [e]
    exact Mine.nil _ _
/-- the call answered with cells of its own. -/
def GaveC (w : World) (cs : List (Int × List Int)) (e : Ending) (w' : World) : Prop := ∃ A n c, e = .returned (.slice A n c) ∧ OwnC w' w.heap.size w'.heap.size A n c cs ∧ Below w.heap.size w w'

theorem copyC_any (A : Option Addr) (n c : Nat) (cs : List (Int × List Int)) (B : Nat) (w : World) (hn : n ≤ 4398046511104) (hm : ∀ i, (cel cs i).2.length ≤ 1048576) (hB : B ≤ w.heap.size) (hb : Cells w B A n cs) :
    Calls Try.prog 52 #[.slice A n c] w (GaveC w cs) := by
  have HB := Lib.hid hb
  have hlen := hb.1
  clear hb
  have HM := Lib.hid (make_cells n hn)
  go_enter Try.func52, Try.ntmps52
  have hmk := HM.out
  go_wp2
  clear hmk
  have M0 := Lib.hid (OwnC.of_made w n (by unfold maxLen; omega))
  go_loopw [4] (fun i wr => ∃ k : Nat, k ≤ n ∧ i = .int .i64 k ∧ OwnC wr w.heap.size wr.heap.size (some ⟨w.heap.size, 0, none⟩) n n (filledC cs n k) ∧ Below w.heap.size w wr) (fun i _ => n - (intOf i).toNat)
  case atStart => exact ⟨0, Nat.zero_le _, rfl, by simpa [filledC] using M0.out, (Below.refl _ _).alloc (Nat.le_refl _) _⟩
  case round =>
    obtain ⟨k, hk, rfl, hm', hbel⟩ := hrel
    by_cases hlt : k < n
    · obtain ⟨b, off, Ai, ni, ci, rfl, hbB, h0, h1, _, _, hby⟩ := (HB.out.below (hbel.mono hB)).at_ hlt
      have hni : (cel cs k).2.length = ni := hby.1
      have hset := filledC_set cs n k hlen hlt
      have hnm := hm k
      have hs0 := hbel.size
      generalize cel cs k = x at h0 h1 hset hby hni hnm
      have HS := Lib.hid hset
      have HY := Lib.hid hby
      clear hset hby
      have MR := Lib.hid hm'
      have BR := Lib.hid hbel
      clear hm' hbel
      go_wp2_with fail
      refine (toCell_any _ _ _ _ x.2 B _ (by omega) (by omega) HY.out).mono ?_
      rintro e w1 ⟨A1, n1, c1, rfl, m1, b1⟩
      have o1 := MR.out.below b1
      have hc0 := o1.cell0 hlt
      obtain ⟨Aj, nj, cj, hc1, _, _, _⟩ := o1.cell1 hlt
      have hf0 := o1.free (k * 2)
      have hf1 := o1.free (k * 2 + 1)
      have hp := MR.out.put x.1 (Nat.le_refl _) b1 m1 hlt (Nat.le_refl _) hs0
      rw [show ((x.1, x.2) : Int × List Int) = x by rfl, HS.out] at hp
      have S1 := Lib.hid hp
      have B1 := Lib.hid (BR.out.trans (b1.mono BR.out.size))
      have Z1 := Lib.hid hs0
      clear hp b1 o1 m1 h0 h1 hs0
      go_wp2
      go_roundw
      case rel =>
        refine ⟨k + 1, by omega, by go_num, ?_, B1.out.trans (S1.out.2.below B1.out.size (fun b hb h => by omega))⟩
        simpa using S1.out.1
      case measure => simp [intOf]; omega
    · go_wp2
      go_ret
      obtain rfl : k = n := by omega
      rw [filledC_all cs k hlen] at hm'
      exact ⟨_, k, k, rfl, hm', hbel⟩
theorem eqCell_yes (m : Int) (A A' : Option Addr) (n c c' : Nat) (bs : List Int) (B B' : Nat) (w : World) (hn : n ≤ 1048576) (hB : B ≤ w.heap.size) (hB' : B' ≤ w.heap.size) (hb : Byts w B A n bs) (hb' : Byts w B' A' n bs) :
    Calls Try.prog 112 #[.agg #[.int .i64 m, .slice A n c], .agg #[.int .i64 m, .slice A' n c']] w fun e w' => e = .returned (.bool true) ∧ Below w.heap.size w w' := by
  have HP := Lib.hid (hb.more hB)
  have HP' := Lib.hid (hb'.more hB')
  clear hb hb'
  obtain ⟨w3, hw3⟩ : ∃ w3, ((w.alloc (.cells #[.int .i64 m, .slice A n c] 123)).alloc (.cells #[.int .i64 m, .slice A' n c'] 123)) = w3 := ⟨_, rfl⟩
  have s3 : w3.heap.size = w.heap.size + 2 := hw3 ▸ size2 _ _ _
  have b3 : Below w.heap.size w w3 := hw3 ▸ below2 _ _ _
  have B3 := Lib.hid b3
  have HW := Lib.hid hw3
  clear b3 hw3
  go_enter Try.func112, Try.ntmps112
  go_wp2_with fail
  rw [HW.out]
  refine (like_yes _ _ _ _ _ bs _ _ w3 (by omega) (HP.out.below B3.out) (HP'.out.below B3.out)).mono ?_
  rintro e w4 ⟨rfl, q, hq⟩
  have b4 : Below w3.heap.size w3 w4 := by rw [hq]; exact below_drewN (Below.refl _ _) q
  clear hq
  have B4 := Lib.hid (B3.out.trans (b4.mono (by omega)))
  clear b4
  go_wp2
  go_ret
  exact ⟨rfl, B4.out⟩
theorem likeC_yes (A A' : Option Addr) (n c c' : Nat) (cs : List (Int × List Int)) (B B' : Nat) (w : World) (hn : n ≤ 1048576) (hm : ∀ i, (cel cs i).2.length ≤ 1048576) (hB : B ≤ w.heap.size) (hB' : B' ≤ w.heap.size) (hb : Cells w B A n cs) (hb' : Cells w B' A' n cs) :
    Calls Try.prog 55 #[.slice A n c, .slice A' n c'] w fun e w' => e = .returned (.bool true) ∧ Below w.heap.size w w' := by
  have HB := Lib.hid (hb.more hB)
  have HB' := Lib.hid (hb'.more hB')
  clear hb hb'
  go_enter Try.func55, Try.ntmps55
  go_wp2
  go_loopw [5] (fun i wr => ∃ k : Nat, k ≤ n ∧ i = .int .i64 k ∧ Below w.heap.size w wr) (fun i _ => n - (intOf i).toNat)
  case atStart => exact ⟨0, Nat.zero_le _, rfl, Below.refl _ _⟩
  case round =>
    obtain ⟨k, hk, rfl, hbel⟩ := hrel
    by_cases hlt : k < n
    · obtain ⟨b, off, Ai, ni, ci, rfl, hbB, h0, h1, _, _, hy⟩ := (HB.out.below hbel).at_ hlt
      obtain ⟨b', off', Ai', ni', ci', rfl, hbB', h0', h1', _, _, hy'⟩ := (HB'.out.below hbel).at_ hlt
      have hnm := hm k
      have e1 : ni' = ni := hy'.1.symm.trans hy.1
      obtain rfl := e1
      have hl := hy.1
      generalize cel cs k = x at h0 h1 h0' h1' hy hy' hnm hl
      have Y := Lib.hid hy
      have Y' := Lib.hid hy'
      have BR := Lib.hid hbel
      clear hbel hy hy'
      go_wp2
      go_still_tail 8, (by kernel_rfl)
      change wpList _ _ _ _ _ wr.drew
      have BD := Lib.hid BR.out.drew
      have hsz := BR.out.size
      have Y := Lib.hid (Y.out.drewN 1)
      have Y' := Lib.hid (Y'.out.drewN 1)
      have e2 : wr.drewN 1 = wr.drew := rfl
      rw [e2] at Y Y'
      have hsz2 : wr.drew.heap.size = wr.heap.size := rfl
      generalize wr.drew = w2 at BD Y Y' hsz2
      clear h0 h1 h0' h1' e2
      go_wp2_with fail
      refine (eqCell_yes _ _ _ _ _ _ x.2 _ _ _ (by omega) (by omega) (by omega) Y.out Y'.out).mono ?_
      rintro e w3 ⟨rfl, b3⟩
      have B3 := Lib.hid (BD.out.trans (b3.mono BD.out.size))
      clear b3
      go_wp2
      go_roundw
      case rel => exact ⟨k + 1, by omega, by go_num, B3.out⟩
      case measure => simp [intOf]; omega
    · go_wp2
      go_ret
      exact ⟨rfl, hbel⟩

theorem markC_any (A : Option Addr) (n c lo hi : Nat) (cs : List (Int × List Int)) (k0 : Int) (w : World) (h0 : 0 ≤ k0) (h1 : k0 + szC cs ≤ 4611686018427387904) (hm : OwnC w lo hi A n c cs) :
    Calls Try.prog 56 #[.slice A n c, .int .i64 k0] w fun e w' => e = .returned (.int .i64 (k0 + szC cs)) ∧ OwnC w' lo hi A n c (markC k0 cs) ∧ Touch (fun b => lo ≤ b ∧ b < hi) w w' := by
  have hx := hm.len
  have hnb : n ≤ 4611686018427387904 := by have := szC_len cs; omega
  have HM := Lib.hid hm
  clear hm
  go_enter Try.func56, Try.ntmps56
  go_wp2
  go_loopw [1, 5] (fun q i wr => ∃ k : Nat, k ≤ n ∧ i = .int .i64 k ∧ q = .int .i64 (k0 + szC (cs.take k)) ∧ OwnC wr lo hi A n c (markTo k0 cs k) ∧ Touch (fun b => lo ≤ b ∧ b < hi) w wr) (fun _ i _ => n - (intOf i).toNat)
  case atStart => exact ⟨0, Nat.zero_le _, rfl, by simp [szC], by simpa [markTo, markC] using HM.out, Touch.of_below (Below.refl _ _)⟩
  case round =>
    obtain ⟨k, hk, rfl, rfl, hmr, htr⟩ := hrel
    by_cases hlt : k < n
    · obtain ⟨g, rfl, hbg, hgh, hlt'⟩ := hmr.form (by omega)
      have hc0 := hmr.cell0 hlt
      have hf0 := hmr.free (k * 2)
      have hs1 := hmr.setName (k0 + szC (cs.take k)) hlt
      have hst := szC_take cs k (by omega)
      have hall := szC_take_le cs (k + 1)
      rw [markTo_cel k0 cs k (by omega)] at hs1
      obtain ⟨Ai, ni, ci, hc1, hmi, hui, hin⟩ := hs1.inner hlt
      have hcc : cel ((markTo k0 cs k).set k (k0 + szC (cs.take k), (cel cs k).2)) k = (k0 + szC (cs.take k), (cel cs k).2) := by
        rw [cel_set _ _ _ _ (by rw [markTo_len]; omega), if_pos rfl]
      rw [hcc] at hmi hin
      have hni : (cel cs k).2.length = ni := hmi.len
      have hstep := markTo_step k0 cs k (by omega)
      have T1 := Lib.hid (htr.trans (touch_set (S := fun b => lo ≤ b ∧ b < hi) wr g (k * 2) (.int .i64 (k0 + szC (cs.take k))) ⟨hbg, hgh⟩))
      have MI := Lib.hid hmi
      have IN := Lib.hid hin
      have UI := Lib.hid hui
      have HST := Lib.hid hstep
      have HR := Lib.hid hst
      have HLN := Lib.hid hni
      have hk2 : k0 + szC (cs.take k) + 1 + ni ≤ 4611686018427387904 := by omega
      have hkp : 0 ≤ k0 + szC (cs.take k) + 1 := by omega
      have hfin : k0 + szC (cs.take k) + 1 + ni = k0 + szC (cs.take (k + 1)) := by omega
      have HF := Lib.hid hfin
      generalize hq : k0 + (szC (cs.take k) : Int) = q at *
      have HQ := Lib.hid hq
      clear hmr htr hs1 hmi hin hui hstep hst hfin hall hcc hq
      go_wp2_with fail
      refine (mark_any Ai ni ci lo _ (q + 1) _ hkp hk2 MI.out).mono ?_
      rintro e w1 ⟨rfl, m1, g1⟩
      have hc := IN.out _ _ m1 g1
      rw [List.set_set] at hc
      have hs2 := HST.out
      rw [HLN.out] at hs2
      rw [show (q, marks (q + 1) ni) = ((q, (cel cs k).2).1, marks (q + 1) ni) from rfl] at hs2
      rw [show ((q, (cel cs k).2).1, marks (q + 1) ni) = (q, marks (q + 1) ni) from rfl] at hs2
      have hc' : OwnC w1 lo hi (some ⟨g, 0, none⟩) n c (markTo k0 cs (k + 1)) := by rw [← hs2]; exact hc
      have O1 := Lib.hid hc'
      have T2 := Lib.hid (T1.out.trans ((Touch.of_grown g1).mono (fun b e => UI.out b e.symm)))
      clear hc m1 g1 hs2 hc' hc0 hc1 hf0
      go_wp2
      go_roundw
      case rel => exact ⟨k + 1, by omega, by go_num, by rw [← HF.out], O1.out, T2.out⟩
      case measure => simp [intOf]; omega
    · go_wp2
      go_ret
      obtain rfl : k = n := by omega
      subst hx
      rw [List.take_length, markTo_all] at *
      exact ⟨rfl, hmr, htr⟩
theorem heldC_yes (A : Option Addr) (n c : Nat) (B : Nat) (cs : List (Int × List Int)) (k0 : Int) (w : World) (h0 : 0 ≤ k0) (h1 : k0 + szC cs ≤ 4611686018427387904) (hb : Cells w B A n (markC k0 cs)) :
    Calls Try.prog 57 #[.slice A n c, .int .i64 k0] w fun e w' => e = .returned (.int .i64 (k0 + szC cs)) ∧ w = w' := by
  have HB := Lib.hid hb
  have hx : cs.length = n := (markC_len k0 cs).symm.trans hb.1
  have hnb : n ≤ 4611686018427387904 := by have := szC_len cs; omega
  clear hb
  go_enter Try.func57, Try.ntmps57
  go_wp2
  go_loop [1, 5] (fun q i => ∃ k : Nat, k ≤ n ∧ i = .int .i64 k ∧ q = .int .i64 (k0 + szC (cs.take k))) (fun _ i => n - (intOf i).toNat)
  case atStart => exact ⟨0, Nat.zero_le _, rfl, by simp [szC]⟩
  case round =>
    obtain ⟨k, hk, rfl, rfl⟩ := hrel
    by_cases hlt : k < n
    · obtain ⟨b, off, Ai, ni, ci, rfl, hbB, hc0, hc1, _, _, hy⟩ := HB.out.at_ hlt
      rw [markC_cel k0 cs k (by omega)] at hc0 hy
      have hst := szC_take cs k (by omega)
      have hall := szC_take_le cs (k + 1)
      have hni : (cel cs k).2.length = ni := (marks_len _ _).symm.trans hy.1
      rw [hni] at hy hst
      have hk2 : k0 + szC (cs.take k) + 1 + ni ≤ 4611686018427387904 := by omega
      have hkp : 0 ≤ k0 + szC (cs.take k) + 1 := by omega
      have hfin : k0 + szC (cs.take k) + 1 + ni = k0 + szC (cs.take (k + 1)) := by omega
      have HF := Lib.hid hfin
      have Y := Lib.hid hy
      clear hfin hall hst hy
      generalize hq : k0 + (szC (cs.take k) : Int) = q at *
      have hd : decide ((((k0 : Int) + ni)) < 0) = false := decide_eq_false (by omega)
      clear hq
      go_wp2_with fail
      refine (held_yes Ai ni ci B (q + 1) _ hkp hk2 Y.out).mono ?_
      rintro e w' ⟨rfl, rfl⟩
      have hd2 : decide ((q + 1 + (ni : Int)) < 0) = false := decide_eq_false (by omega)
      go_wp2
      go_round
      case rel => exact ⟨k + 1, by omega, by go_num, by rw [← HF.out]⟩
      case measure => simp [intOf]; omega
    · go_wp2
      go_ret
      obtain rfl : k = n := by omega
      subst hx
      rw [List.take_length]
      exact ⟨rfl, rfl⟩
end Go.Proofs.Ytebfinedkjlbbaa
