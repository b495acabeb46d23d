/- What the helpers of the exact laws do at slices of kids. -/
import Derived.Test.YthehmanifcfnpaaKids
import Derived.StillTailTactics
namespace Go.Proofs.Ythehmanifcfnpaa
set_option maxRecDepth 20000
open Go.RowKit

/-- the kids as far as they are filled. -/
def filledK (ks : List (Int × Int)) (n k : Nat) : List (Int × Int) := ks.take k ++ List.replicate (n - k) (0, 0)
theorem filledK_len (ks : List (Int × Int)) (n k : Nat) (hk : ks.length = n) (h : k ≤ n) : (filledK ks n k).length = n := by simp [filledK]; omega
theorem filledK_set (ks : List (Int × Int)) (n k : Nat) (hz : ks.length = n) (hk : k < n) : (filledK ks n k).set k (ks[k]?.getD (0, 0)) = filledK ks n (k + 1) := by
  unfold filledK
  obtain ⟨m, hm⟩ : ∃ m, n - k = m + 1 := ⟨n - k - 1, by omega⟩
  have hm' : n - (k + 1) = m := by omega
  rw [hm, hm', List.getElem?_eq_getElem (by omega)]
  have hl : min k ks.length = k := by omega
  have e : ks.take (k + 1) = ks.take k ++ [ks[k]] := List.take_succ_eq_append_getElem (by omega)
  simp [List.replicate_succ, hl]
  rw [e, List.append_assoc]; rfl
theorem filledK_all (ks : List (Int × Int)) (n : Nat) (hz : ks.length = n) : filledK ks n n = ks := by
  unfold filledK
  rw [List.take_of_length_le (by omega)]; simp
theorem kv_rep (n : Nat) : kv (List.replicate n (0, 0)) = List.replicate (n * 2) 0 := by
  induction n with
  | zero => rfl
  | succ n ih => rw [List.replicate_succ, kv_cons, ih, show (n + 1) * 2 = n * 2 + 1 + 1 by omega]; rfl
theorem make_kids (n : Nat) (hn : n ≤ 8796093022208) (W : World) :
    (Instr.makeSlice 75 (.int .i64 (n : Int)) (.int .i64 (n : Int))).run Try.prog W = .ok (.slice (some ⟨W.heap.size, 0, none⟩) n n) (W.alloc (.cells (i64s (kv (List.replicate n (0, 0)))) 85)) := by
  obtain ⟨i0, hi, hz0, hz1, hz2⟩ := info_parts Try.infoK
  have hr := run_make (P := Try.prog) W 75 85 i0 (.agg #[.int .i64 0, .int .i64 0]) Try.underlying75 hi hz0 .i64 .i64 n n (by omega) (by omega) (by rw [hz2]; omega) (by omega)
  simp only [Int.toNat_natCast] at hr
  rw [hr, hz1, kv_rep]
  have e : madeCells (Value.agg #[.int .i64 0, .int .i64 0]).cells (n * 2) = i64s (List.replicate (n * 2) 0) := by
    apply Array.ext
    · simp [madeCells, i64s]
    · intro i h1 h2
      simp [madeCells, i64s, Value.cells]
      rcases Nat.mod_two_eq_zero_or_one i with h | h <;> simp [h]
  rw [e]
theorem OwnK.put {w : World} {base g n c : Nat} {ks : List (Int × Int)} (h : OwnK w base (some ⟨g, 0, none⟩) n c ks) (k : Nat) (a m : Int) :
    OwnK ((w.setCell ⟨g, k * 2, none⟩ (.int .i64 a)).setCell ⟨g, k * 2 + 1, none⟩ (.int .i64 m)) base (some ⟨g, 0, none⟩) n c (ks.set k (a, m)) ∧ w.grownBy ((w.setCell ⟨g, k * 2, none⟩ (.int .i64 a)).setCell ⟨g, k * 2 + 1, none⟩ (.int .i64 m)) (some g) := by
  obtain ⟨h1, g1⟩ := h.set0 k a
  obtain ⟨h2, g2⟩ := h1.set1 k m
  refine ⟨?_, g1.trans g2⟩
  have e : (ks.set k (a, (ks[k]?.getD (0, 0)).2)).set k (((ks.set k (a, (ks[k]?.getD (0, 0)).2))[k]?.getD (0, 0)).1, m) = ks.set k (a, m) := by
    rw [List.set_set]
    by_cases hk : k < ks.length
    · rw [List.getElem?_set_self (by omega)]; rfl
    · rw [List.set_eq_of_length_le (by omega), List.set_eq_of_length_le (by omega)]
  rw [e] at h2
  exact h2

/-- the marks of kids from k0 on. -/
def marksK (k0 : Int) (n : Nat) : List (Int × Int) := (List.range n).map fun (i : Nat) => (k0 + 2 * (i : Int), k0 + 2 * (i : Int) + 1)
theorem marksK_len (k0 : Int) (n : Nat) : (marksK k0 n).length = n := by simp [marksK]
theorem marksK_at (k0 : Int) (n k : Nat) (h : k < n) : (marksK k0 n)[k]?.getD (0, 0) = (k0 + 2 * (k : Int), k0 + 2 * (k : Int) + 1) := by simp [marksK, h]
def markedK (k0 : Int) (n k : Nat) (ks : List (Int × Int)) : List (Int × Int) := (marksK k0 n).take k ++ ks.drop k
theorem markedK_set (k0 : Int) (n k : Nat) (ks : List (Int × Int)) (hx : ks.length = n) (hk : k < n) : (markedK k0 n k ks).set k (k0 + 2 * (k : Int), k0 + 2 * (k : Int) + 1) = markedK k0 n (k + 1) ks := by
  unfold markedK
  have hl : min k (marksK k0 n).length = k := by have := marksK_len k0 n; omega
  have e : (marksK k0 n).take (k + 1) = (marksK k0 n).take k ++ [(k0 + 2 * (k : Int), k0 + 2 * (k : Int) + 1)] := by
    rw [List.take_succ_eq_append_getElem (by rw [marksK_len]; omega)]
    simp [marksK]
  rw [e]
  have hd : ks.drop k = ks[k] :: ks.drop (k + 1) := List.drop_eq_getElem_cons (by omega)
  have hs : (ks.drop k).set 0 (k0 + 2 * (k : Int), k0 + 2 * (k : Int) + 1) = (k0 + 2 * (k : Int), k0 + 2 * (k : Int) + 1) :: ks.drop (k + 1) := by rw [hd]; rfl
  simp [hl, hs]

end Go.Proofs.Ythehmanifcfnpaa
