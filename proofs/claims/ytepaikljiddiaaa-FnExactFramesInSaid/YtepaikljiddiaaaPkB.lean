/- Several texts in one, in build order: NameF, Cells, Bss, FrameM, Sums, NodeB, NameM, NodeI, CellM, Part, NodeR, Conv. -/
import Derived.Test.YtepaikljiddiaaaPkA
import Derived.Laws.BitsAllLaws
import Derived.Laws.BitsLemmas
import Derived.Test.YtepaikljiddiaaaRows
import Derived.LoopTactic
import Derived.Outline
import Derived.Laws.IdiomStrings
import Derived.Laws.BytesArg
-- NameF: The name of which eight bytes are the bytes, as the program and as the model read it.
namespace Go.Proofs.Ytepaikljiddiaaa
set_option maxRecDepth 20000
open Go.RowKit

/-- the number that these bytes write, the lowest one first. -/
def leVal : List Int → Int
  | [] => 0
  | z :: r => z + 256 * leVal r
theorem leVal_append (a : List Int) (c : Int) : leVal (a ++ [c]) = leVal a + c * 2 ^ (8 * a.length) := by
  induction a with
  | nil => simp [leVal]
  | cons z r ih =>
    simp only [List.cons_append, leVal, ih, List.length_cons]
    rw [show 8 * (r.length + 1) = 8 * r.length + 8 by omega, Int.pow_add, show (2 : Int) ^ 8 = 256 by rfl, Int.mul_add, ← Int.mul_assoc c, Int.mul_comm _ 256, ← Int.add_assoc]
theorem leVal_bd (zs : List Int) (h : ∀ z ∈ zs, 0 ≤ z ∧ z ≤ 255) : 0 ≤ leVal zs ∧ leVal zs < 2 ^ (8 * zs.length) := by
  induction zs with
  | nil => simp [leVal]
  | cons z r ih =>
    have hz := h z (by simp)
    have ir := ih fun y hy => h y (by simp [hy])
    simp only [leVal, List.length_cons]
    rw [show 8 * (r.length + 1) = 8 * r.length + 8 by omega, Int.pow_add, show (2 : Int) ^ 8 = 256 by rfl]
    omega
theorem leVal_take (zs : List Int) (k : Nat) (h : k < zs.length) : leVal (zs.take (k + 1)) = leVal (zs.take k) + zs[k]?.getD 0 * 2 ^ (8 * k) := by
  rw [take_step zs k h, leVal_append]
  rw [show (zs.take k).length = k by simp; omega]
theorem leVal_drop (zs : List Int) (k : Nat) (h : k < zs.length) : leVal (zs.drop k) = zs[k]?.getD 0 + 256 * leVal (zs.drop (k + 1)) := by
  rw [List.drop_eq_getElem_cons h, leVal, List.getElem?_eq_getElem h]; rfl
theorem leVal_drop_le (zs : List Int) (h : ∀ z ∈ zs, 0 ≤ z ∧ z ≤ 255) (k : Nat) : 0 ≤ leVal (zs.drop k) ∧ leVal (zs.drop k) ≤ leVal zs := by
  refine ⟨(leVal_bd _ fun z hz => h z (List.mem_of_mem_drop hz)).1, ?_⟩
  induction k with
  | zero => simp
  | succ k ih =>
    by_cases hk : k < zs.length
    · have h1 := leVal_drop zs k hk
      have h2 := (leVal_bd (zs.drop (k + 1)) fun z hz => h z (List.mem_of_mem_drop hz)).1
      have h3 : 0 ≤ zs[k]?.getD 0 := by rw [List.getElem?_eq_getElem hk]; exact (h _ (List.getElem_mem hk)).1
      omega
    · rw [List.drop_eq_nil_of_le (by omega)]
      rw [List.drop_eq_nil_of_le (by omega)] at ih
      exact ih
theorem mem_at (zs : List Int) (h : ∀ z ∈ zs, 0 ≤ z ∧ z ≤ 255) (k : Nat) : 0 ≤ zs[k]?.getD 0 ∧ zs[k]?.getD 0 ≤ 255 := by
  by_cases hk : k < zs.length
  · rw [List.getElem?_eq_getElem hk]; exact h _ (List.getElem_mem hk)
  · rw [List.getElem?_eq_none (by omega)]; simp
theorem leVal_8 (zs : List Int) (h : ∀ z ∈ zs, 0 ≤ z ∧ z ≤ 255) (hl : zs.length = 8) : ∃ s, 0 ≤ s ∧ s < 72057594037927936 ∧ leVal zs = s + zs[7]?.getD 0 * 72057594037927936 := by
  have h1 := leVal_take zs 7 (by omega)
  have h2 := leVal_bd (zs.take 7) fun z hz => h z (List.mem_of_mem_take hz)
  rw [List.take_of_length_le (by omega)] at h1
  rw [show (zs.take 7).length = 7 by simp; omega] at h2
  exact ⟨_, h2.1, h2.2, h1⟩
theorem or_nat (a b : Nat) (ha : a < 18446744073709551616) (hb : b < 18446744073709551616) (y : Int) (hy : y = IntKind.i64.wrap (b : Int)) : bits .or .i64 (a : Int) y = IntKind.i64.wrap ((a ||| b : Nat) : Int) := by
  subst hy
  show IntKind.i64.wrap ((BitVec.ofInt 64 (a : Int) ||| BitVec.ofInt 64 (IntKind.i64.wrap (b : Int))).toNat : Int) = _
  have h2 : BitVec.ofInt 64 (IntKind.i64.wrap (b : Int)) = BitVec.ofInt 64 (b : Int) := by
    apply BitVec.eq_of_toNat_eq
    simp only [BitVec.toNat_ofInt, IntKind.wrap_i64]
    omega
  rw [h2, BitVec.toNat_or, ofInt_u64 a ha, ofInt_u64 b hb]
/-- what is read of the first k bytes, as the sum wraps. -/
def leW (zs : List Int) (k : Nat) : Int := wrap64 (leVal (zs.take k))
theorem wrap64_eq (n : Int) : wrap64 n = IntKind.i64.wrap n := by rw [IntKind.wrap_i64, wrap64]
theorem or_step (s c : Int) (k : Nat) (hk : k ≤ 7) (hs : 0 ≤ s ∧ s < 2 ^ (8 * k)) (hc : 0 ≤ c ∧ c ≤ 255) : bits .or .i64 s (wrap64 (c * 2 ^ (8 * k))) = wrap64 (s + c * 2 ^ (8 * k)) := by
  obtain ⟨a, rfl⟩ : ∃ a : Nat, s = a := ⟨s.toNat, by omega⟩
  obtain ⟨d, rfl⟩ : ∃ d : Nat, c = d := ⟨c.toNat, by omega⟩
  have hp : ((2 : Int) ^ (8 * k)) = ((2 ^ (8 * k) : Nat) : Int) := by simp
  have ha : a < 2 ^ (8 * k) := by have := hs.2; rw [hp] at this; omega
  have hle : 2 ^ (8 * k) ≤ 2 ^ 56 := Nat.pow_le_pow_right (by omega) (by omega)
  have hb : d * 2 ^ (8 * k) ≤ 255 * 2 ^ 56 := Nat.mul_le_mul (by omega) hle
  have hm : ((d : Int) * 2 ^ (8 * k)) = ((d * 2 ^ (8 * k) : Nat) : Int) := by simp
  rw [hm, wrap64_eq ((d * 2 ^ (8 * k) : Nat) : Int), or_nat a (d * 2 ^ (8 * k)) (by omega) (by omega) _ rfl, Nat.or_comm, nat_join (8 * k) _ _ (by simp) ha]
  rw [IntKind.wrap_i64]
  unfold wrap64
  generalize d * 2 ^ (8 * k) = X
  omega
theorem leW_step (zs : List Int) (h : ∀ z ∈ zs, 0 ≤ z ∧ z ≤ 255) (k : Nat) (hk : k < zs.length) (h7 : k ≤ 7) :
    bits .or .i64 (leW zs k) (wrap64 (zs[k]?.getD 0 * 2 ^ (8 * k))) = leW zs (k + 1) := by
  have hb := leVal_bd (zs.take k) fun z hz => h z (List.mem_of_mem_take hz)
  rw [show (zs.take k).length = k by simp; omega] at hb
  have hle : (2 : Int) ^ (8 * k) ≤ 2 ^ 56 := by
    have : 2 ^ (8 * k) ≤ 2 ^ 56 := Nat.pow_le_pow_right (by omega) (by omega)
    exact_mod_cast this
  unfold leW
  rw [leVal_take zs k hk, show wrap64 (leVal (zs.take k)) = leVal (zs.take k) by unfold wrap64; omega]
  exact or_step _ _ k h7 hb (mem_at zs h k)
theorem leW_0 (zs : List Int) : leW zs 0 = 0 := by simp [leW, leVal, wrap64]
theorem leW_yes (zs : List Int) (h : ∀ z ∈ zs, 0 ≤ z ∧ z ≤ 255) (hl : zs.length = 8) (h7 : zs[7]?.getD 0 ≤ 127) : leW zs 8 = leVal zs ∧ 0 ≤ leVal zs ∧ leVal zs ≤ 9223372036854775807 := by
  obtain ⟨s, h1, h2, h3⟩ := leVal_8 zs h hl
  have hm := mem_at zs h 7
  unfold leW wrap64
  rw [List.take_of_length_le (by omega)]
  omega
theorem leW_no (zs : List Int) (h : ∀ z ∈ zs, 0 ≤ z ∧ z ≤ 255) (hl : zs.length = 8) (h7 : (127 : Int) < zs[7]?.getD 0) : leW zs 8 < 0 := by
  obtain ⟨s, h1, h2, h3⟩ := leVal_8 zs h hl
  have hm := mem_at zs h 7
  unfold leW wrap64
  rw [List.take_of_length_le (by omega)]
  omega

theorem from_no_len (A : Option Addr) (n c : Nat) (w : World) (hn : n ≠ 8) :
    Calls Try.prog 70 #[.slice A n c] w fun e w' => e = .returned (.tuple #[.int .i64 0, .bool false]) ∧ w = w' := by
  go_enter Try.func70, Try.ntmps70
  go_wp2
  go_ret2
  exact ⟨rfl, rfl⟩
theorem specFrom_no_len (A : Option Addr) (n c : Nat) (w : World) (hn : n ≠ 8) :
    Calls Try.prog 41 #[.slice A n c] w fun e w' => e = .returned (.tuple #[.int .i64 0, .bool false]) ∧ w = w' := by
  go_enter Try.func41, Try.ntmps41
  go_wp2
  go_ret2
  exact ⟨rfl, rfl⟩

theorem from_high (A : Option Addr) (c : Nat) (zs : List Int) (B : Nat) (w : World) (hb : Byts w B A 8 zs) (h7 : (127 : Int) < zs[7]?.getD 0) :
    Calls Try.prog 70 #[.slice A 8 c] w fun e w' => e = .returned (.tuple #[.int .i64 0, .bool false]) ∧ w = w' := by
  have HN := Lib.hid (leW_no zs hb.2.1 hb.1 h7)
  have H0 := Lib.hid (leW_0 zs)
  have HB := Lib.hid hb
  clear hb h7
  go_enter Try.func70, Try.ntmps70
  go_wp2
  go_loop [4, 12] (fun s i => ∃ k : Nat, k ≤ 8 ∧ i = .int .i64 k ∧ s = .int .i64 (leW zs k)) (fun _ i => 8 - (intOf i).toNat)
  case atStart => exact ⟨0, Nat.zero_le _, rfl, by rw [H0.out]⟩
  case round =>
    obtain ⟨k, hk, rfl, rfl⟩ := hrel
    by_cases hlt : k < 8
    · obtain ⟨b, off, rfl, _, hc⟩ := HB.out.at_ hlt
      have hr := HB.out.range k
      have HS := Lib.hid (leW_step zs HB.out.2.1 k (by have := HB.out.1; omega) (by omega))
      go_wp2
      go_round
      case rel => exact ⟨k + 1, by omega, by go_num, by rw [HS.out]⟩
      case measure => simp [intOf]; omega
    · obtain rfl : k = 8 := by omega
      have hneg := HN.out
      go_wp2
      go_ret2
      exact ⟨rfl, rfl⟩
theorem from_yes (A : Option Addr) (c : Nat) (zs : List Int) (B : Nat) (w : World) (hb : Byts w B A 8 zs) (h7 : zs[7]?.getD 0 ≤ (127 : Int)) :
    Calls Try.prog 70 #[.slice A 8 c] w fun e w' => e = .returned (.tuple #[.int .i64 (leVal zs), .bool true]) ∧ w = w' := by
  have HN := Lib.hid (leW_yes zs hb.2.1 hb.1 h7)
  have H0 := Lib.hid (leW_0 zs)
  have HB := Lib.hid hb
  clear hb h7
  go_enter Try.func70, Try.ntmps70
  go_wp2
  go_loop [4, 12] (fun s i => ∃ k : Nat, k ≤ 8 ∧ i = .int .i64 k ∧ s = .int .i64 (leW zs k)) (fun _ i => 8 - (intOf i).toNat)
  case atStart => exact ⟨0, Nat.zero_le _, rfl, by rw [H0.out]⟩
  case round =>
    obtain ⟨k, hk, rfl, rfl⟩ := hrel
    by_cases hlt : k < 8
    · obtain ⟨b, off, rfl, _, hc⟩ := HB.out.at_ hlt
      have hr := HB.out.range k
      have HS := Lib.hid (leW_step zs HB.out.2.1 k (by have := HB.out.1; omega) (by omega))
      go_wp2
      go_round
      case rel => exact ⟨k + 1, by omega, by go_num, by rw [HS.out]⟩
      case measure => simp [intOf]; omega
    · obtain rfl : k = 8 := by omega
      have hpos : 0 ≤ leW zs 8 := by have := HN.out; omega
      go_wp2
      go_ret2
      exact ⟨by rw [HN.out.1]; rfl, rfl⟩

theorem specFrom_high (A : Option Addr) (c : Nat) (zs : List Int) (B : Nat) (w : World) (hb : Byts w B A 8 zs) (h7 : (127 : Int) < zs[7]?.getD 0) :
    Calls Try.prog 41 #[.slice A 8 c] w fun e w' => e = .returned (.tuple #[.int .i64 0, .bool false]) ∧ w = w' := by
  obtain ⟨b, off, rfl, _, hc⟩ := hb.at_ (k := 7) (by omega)
  have hr := hb.range 7
  clear hb
  go_enter Try.func41, Try.ntmps41
  go_wp2
  go_ret2
  exact ⟨rfl, rfl⟩
theorem specFrom_yes (A : Option Addr) (c : Nat) (zs : List Int) (B : Nat) (w : World) (hb : Byts w B A 8 zs) (h7 : zs[7]?.getD 0 ≤ (127 : Int)) :
    Calls Try.prog 41 #[.slice A 8 c] w fun e w' => e = .returned (.tuple #[.int .i64 (leVal zs), .bool true]) ∧ w = w' := by
  have HN := Lib.hid (leW_yes zs hb.2.1 hb.1 h7)
  have HB := Lib.hid hb
  obtain ⟨b, off, rfl, _, hc7⟩ := hb.at_ (k := 7) (by omega)
  have hr7 := hb.range 7
  clear hb
  go_enter Try.func41, Try.ntmps41
  go_wp2
  clear hc7 hr7 h7
  go_loop [4, 5] (fun s i => ∃ m : Nat, m ≤ 8 ∧ i = .int .i64 ((m : Int) - 1) ∧ s = .int .i64 (leVal (zs.drop m))) (fun _ i => (intOf i + 1).toNat)
  case atStart => exact ⟨8, Nat.le_refl _, rfl, by rw [List.drop_eq_nil_of_le (by have := HB.out.1; omega)]; rfl⟩
  case round =>
    obtain ⟨m, hm, rfl, rfl⟩ := hrel
    rcases m with _ | k
    · go_wp2
      go_ret2
      exact ⟨rfl, rfl⟩
    · have e1 : ((k + 1 : Nat) : Int) - 1 = (k : Int) := by omega
      rw [e1]
      clear e1
      obtain ⟨b', off', hA, _, hc⟩ := HB.out.at_ (k := k) (by omega)
      injection hA with hA
      injection hA with hA1 hA2
      subst hA1 hA2
      have hr := HB.out.range k
      have hd1 := leVal_drop_le zs HB.out.2.1 (k + 1)
      have hd0 := leVal_drop_le zs HB.out.2.1 k
      have HS := Lib.hid (leVal_drop zs k (by have := HB.out.1; omega))
      have hbd : leVal (zs.drop (k + 1)) * 256 + zs[k]?.getD 0 ≤ 9223372036854775807 := by have := HN.out; have := HS.out; omega
      go_wp2
      go_round
      case rel => exact ⟨k, by omega, rfl, by rw [HS.out]; go_num⟩
      case measure => simp [intOf]
end Go.Proofs.Ytepaikljiddiaaa

-- Cells: Slices of cells: one that reads as a list of names and bytes; one that the call made and may write into; no statement of the program is proved here.
namespace Go.Proofs.Ytepaikljiddiaaa
set_option maxRecDepth 20000
set_option linter.unusedVariables false
set_option linter.unusedSimpArgs false
open Go.RowKit

/-- a slice of bytes that lies in a cell. -/
structure Sub where
  A : Option Addr
  n : Nat
  c : Nat
  bs : List Int
def Sub.v (x : Sub) : Value := .slice x.A x.n x.c
/-- the i-th cell of a list. -/
def cel (cs : List (Int × List Int)) (i : Nat) : Int × List Int := cs[i]?.getD (0, [])
theorem cel_set (cs : List (Int × List Int)) (k : Nat) (x : Int × List Int) (i : Nat) (hk : k < cs.length) : cel (cs.set k x) i = if i = k then x else cel cs i := by
  unfold cel
  by_cases h : i = k
  · subst h
    rw [if_pos rfl, List.getElem?_set_self hk]; rfl
  · rw [if_neg h, List.getElem?_set_ne (by omega)]
theorem cel_append (cs : List (Int × List Int)) (x : Int × List Int) (i : Nat) : cel (cs ++ [x]) i = if i = cs.length then x else cel cs i := by
  unfold cel
  by_cases h : i = cs.length
  · subst h
    simp
  · rw [if_neg h]
    rcases Nat.lt_or_ge i cs.length with h1 | h1
    · rw [List.getElem?_append_left h1]
    · rw [List.getElem?_eq_none (by simp; omega), List.getElem?_eq_none (by omega)]
theorem cel_mem (cs : List (Int × List Int)) (i : Nat) (h : i < cs.length) : cel cs i ∈ cs := by
  unfold cel
  rw [List.getElem?_eq_getElem h]; exact List.getElem_mem h
theorem cel_take (cs : List (Int × List Int)) (k : Nat) (h : k < cs.length) : cs.take (k + 1) = cs.take k ++ [cel cs k] := by
  unfold cel
  rw [List.take_succ_eq_append_getElem h, List.getElem?_eq_getElem h]; rfl

/-- the slice value '.slice A n c' of cells reads as cs, below block B. -/
def Cells (w : World) (B : Nat) (A : Option Addr) (n : Nat) (cs : List (Int × List Int)) : Prop :=
  cs.length = n ∧ (0 < n → ∃ b off, A = some ⟨b, off, none⟩ ∧ b < B ∧ ∀ i, i < n → w.cell? ⟨b, off + i * 2, none⟩ = some (.int .i64 (cel cs i).1) ∧
    ∃ Ai ni ci, w.cell? ⟨b, off + i * 2 + 1, none⟩ = some (.slice Ai ni ci) ∧ ni ≤ ci ∧ (Ai = none → ci = 0) ∧ Byts w B Ai ni (cel cs i).2)
section
variable {w w' : World} {B B' n : Nat} {A : Option Addr} {cs : List (Int × List Int)}
theorem Cells.none_ : Cells w B A 0 [] := ⟨rfl, fun h => absurd h (by omega)⟩
theorem Cells.at_ {k : Nat} (h : Cells w B A n cs) (hk : k < n) : ∃ b off Ai ni ci, A = some ⟨b, off, none⟩ ∧ b < B ∧ w.cell? ⟨b, off + k * 2, none⟩ = some (.int .i64 (cel cs k).1) ∧ w.cell? ⟨b, off + k * 2 + 1, none⟩ = some (.slice Ai ni ci) ∧ ni ≤ ci ∧ (Ai = none → ci = 0) ∧ Byts w B Ai ni (cel cs k).2 := by
  obtain ⟨b, off, e, hb, hc⟩ := h.2 (by omega)
  obtain ⟨h0, Ai, ni, ci, h1, h2, h3, h4⟩ := hc k hk
  exact ⟨b, off, Ai, ni, ci, e, hb, h0, h1, h2, h3, h4⟩
theorem Cells.keep (h : Cells w B A n cs) (hk : ∀ p : Addr, p.block < B → w'.cell? p = w.cell? p) : Cells w' B A n cs :=
  ⟨h.1, fun hn => by
    obtain ⟨b, off, e, hb, hc⟩ := h.2 hn
    refine ⟨b, off, e, hb, fun i hi => ?_⟩
    obtain ⟨h0, Ai, ni, ci, h1, h2, h3, h4⟩ := hc i hi
    exact ⟨(hk _ hb).trans h0, Ai, ni, ci, (hk _ hb).trans h1, h2, h3, h4.keep hk⟩⟩
theorem Cells.more (h : Cells w B A n cs) (hB : B ≤ B') : Cells w B' A n cs :=
  ⟨h.1, fun hn => by
    obtain ⟨b, off, e, hb, hc⟩ := h.2 hn
    refine ⟨b, off, e, by omega, fun i hi => ?_⟩
    obtain ⟨h0, Ai, ni, ci, h1, h2, h3, h4⟩ := hc i hi
    exact ⟨h0, Ai, ni, ci, h1, h2, h3, h4.more hB⟩⟩
theorem Cells.below (h : Cells w B A n cs) (hb : Below B w w') : Cells w' B A n cs := h.keep fun _ hp => hb.cell hp
theorem Cells.drewN (h : Cells w B A n cs) (k : Nat) : Cells (w.drewN k) B A n cs := h.below (below_drewN (Below.refl _ _) k)
theorem Cells.alloc (h : Cells w B A n cs) (hB : B ≤ w.heap.size) (o : Obj) : Cells (w.alloc o) B A n cs := h.keep fun p hp => World.cell?_alloc_lt w o p (by omega)
end

theorem Try.infoC : (Try.prog.info? 79).map (fun i => (i.zero, i.size, i.bytes)) = some (some (.agg #[.int .i64 0, .slice none 0 0]), 2, 32) := by kernel_rfl

/-- what stands in a row of cells. -/
def cf (cs : List (Int × List Int)) (sl : Nat → Sub) (j : Nat) : Value := if j % 2 = 0 then .int .i64 (cel cs (j / 2)).1 else (sl (j / 2)).v
def cvs (n : Nat) (cs : List (Int × List Int)) (sl : Nat → Sub) : List Value := (List.range (n * 2)).map (cf cs sl)
theorem cvs_at (n : Nat) (cs : List (Int × List Int)) (sl : Nat → Sub) (j : Nat) (h : j < n * 2) : (cvs n cs sl)[j]? = some (cf cs sl j) := by simp [cvs, h]
theorem cf0 (cs : List (Int × List Int)) (sl : Nat → Sub) (k : Nat) : cf cs sl (k * 2) = .int .i64 (cel cs k).1 := by unfold cf; rw [if_pos (by omega), show k * 2 / 2 = k by omega]
theorem cf1 (cs : List (Int × List Int)) (sl : Nat → Sub) (k : Nat) : cf cs sl (k * 2 + 1) = (sl k).v := by unfold cf; rw [if_neg (by omega), show (k * 2 + 1) / 2 = k by omega]
theorem cvs_set (n : Nat) (cs : List (Int × List Int)) (sl : Nat → Sub) (k : Nat) (m : Int) (x : Sub) (b : List Int) (hk : k < n) (hl : cs.length = n) :
    ((cvs n cs sl).set (k * 2) (.int .i64 m)).set (k * 2 + 1) x.v = cvs n (cs.set k (m, b)) (fun i => if i = k then x else sl i) := by
  apply List.ext_getElem?
  intro j
  by_cases hj : j < n * 2
  · rw [cvs_at _ _ _ j hj]
    by_cases h1 : j = k * 2 + 1
    · subst h1
      rw [List.getElem?_set_self (by simp [cvs]; omega), cf1, if_pos rfl]
    · rw [List.getElem?_set_ne (by omega)]
      by_cases h0 : j = k * 2
      · subst h0
        rw [List.getElem?_set_self (by simp [cvs]; omega), cf0, cel_set _ _ _ _ (by omega), if_pos rfl]
      · rw [List.getElem?_set_ne (by omega), cvs_at _ _ _ j hj]
        unfold cf
        rw [cel_set _ _ _ _ (by omega), if_neg (show ¬ j / 2 = k by omega)]
        simp only [show ¬ j / 2 = k by omega, if_false]
  · rw [List.getElem?_eq_none (by simp [cvs]; omega), List.getElem?_eq_none (by simp [cvs]; omega)]
theorem cvs_append (n : Nat) (cs : List (Int × List Int)) (sl : Nat → Sub) (x : Sub) (m : Int) (b : List Int) (hl : cs.length = n) :
    cvs n cs sl ++ [.int .i64 m, x.v] = cvs (n + 1) (cs ++ [(m, b)]) (fun i => if i = n then x else sl i) := by
  apply List.ext_getElem?
  intro j
  by_cases hj : j < n * 2
  · rw [List.getElem?_append_left (by simp [cvs]; omega), cvs_at _ _ _ j hj, cvs_at _ _ _ j (by omega)]
    unfold cf
    rw [cel_append, if_neg (show ¬ j / 2 = cs.length by omega)]
    simp only [show ¬ j / 2 = n by omega, if_false]
  · rw [List.getElem?_append_right (by simp [cvs]; omega)]
    have hl2 : (cvs n cs sl).length = n * 2 := by simp [cvs]
    rw [hl2]
    by_cases h0 : j = n * 2
    · subst h0
      rw [cvs_at _ _ _ _ (by omega), cf0, cel_append, if_pos hl.symm]; simp
    · by_cases h1 : j = n * 2 + 1
      · subst h1
        rw [cvs_at _ _ _ _ (by omega), cf1, if_pos rfl, show n * 2 + 1 - n * 2 = 1 by omega]; rfl
      · rw [List.getElem?_eq_none (by simp; omega), List.getElem?_eq_none (by simp [cvs]; omega)]

/-- the slices in a row of n cells are of the call's own, each in a block of its own, of the blocks from lo to hi, none of them g. -/
structure Subs (w : World) (lo hi : Nat) (g : Option Nat) (n : Nat) (cs : List (Int × List Int)) (sl : Nat → Sub) : Prop where
  mine : ∀ i, i < n → Mine w lo (sl i).A (sl i).n (sl i).c (cel cs i).2
  apart : ∀ i j, i < n → j < n → i ≠ j → ∀ b, (sl i).v.ownBlock = some b → (sl j).v.ownBlock ≠ some b
  other : ∀ i, i < n → ∀ b, (sl i).v.ownBlock = some b → g ≠ some b
  under : ∀ i, i < n → ∀ b, (sl i).v.ownBlock = some b → b < hi
/-- the slice '.slice A n c' of cells is of the call's own, with all that it holds, in blocks from lo to hi, and reads as cs. -/
def OwnC (w : World) (lo hi : Nat) (A : Option Addr) (n c : Nat) (cs : List (Int × List Int)) : Prop :=
  cs.length = n ∧ (∀ b, (Value.slice A n c).ownBlock = some b → b < hi) ∧ ∃ sl, w.ownsRow lo 79 2 (.slice A n c) n (cvs n cs sl) ∧ Subs w lo hi (Value.slice A n c).ownBlock n cs sl
section
variable {w w' : World} {lo hi hi' n c g : Nat} {A : Option Addr} {cs : List (Int × List Int)}
theorem mine_cap {base : Nat} {xs : List Int} (h : Mine w base A n c xs) : n ≤ c := by
  rcases h.1.2 with ⟨e, rfl⟩ | ⟨g, cap, cur, e, _, _, hc, _⟩
  · omega
  · cases e; exact hc
theorem mine_none {base : Nat} {xs : List Int} (h : Mine w base A n c xs) (hA : A = none) : c = 0 := by
  rcases h.1.2 with ⟨e, rfl⟩ | ⟨g, cap, cur, e, _, _, hc, _⟩
  · cases e; rfl
  · subst hA; cases e
theorem OwnC.nil (w : World) (lo hi : Nat) : OwnC w lo hi none 0 0 [] := ⟨rfl, fun b h => by simp [Value.ownBlock] at h, fun _ => ⟨none, 0, 0, []⟩, World.ownsRow_nil _ _ _ _, fun i h => by omega, fun i j h => by omega, fun i h => by omega, fun i h => by omega⟩
theorem OwnC.len (h : OwnC w lo hi A n c cs) : cs.length = n := h.1
theorem OwnC.touch {S : Nat → Prop} (h : OwnC w lo hi A n c cs) (t : Touch S w w') (hn : ∀ b, lo ≤ b → b < hi → ¬ S b) : OwnC w' lo hi A n c cs := by
  obtain ⟨hl, hu, sl, hr, hs⟩ := h
  exact ⟨hl, hu, sl, own_touch hr t (fun b hb => hn b (hr.lt b hb).1 (hu b hb)), fun i hi => (hs.mine i hi).touch t (fun b hb => hn b ((hs.mine i hi).1.lt b hb).1 (hs.under i hi b hb)), hs.apart, hs.other, hs.under⟩
theorem OwnC.below (h : OwnC w lo hi A n c cs) (hb : Below hi w w') : OwnC w' lo hi A n c cs :=
  h.touch (S := fun k => hi ≤ k) ⟨hb.os, hb.tape, hb.output, hb.size, fun k hk hs => hb.block k (by omega)⟩ (fun b _ h1 h2 => by omega)
theorem OwnC.more (h : OwnC w lo hi A n c cs) (hh : hi ≤ hi') : OwnC w lo hi' A n c cs := by
  obtain ⟨hl, hu, sl, hr, hs⟩ := h
  exact ⟨hl, fun b hb => Nat.lt_of_lt_of_le (hu b hb) hh, sl, hr, hs.mine, hs.apart, hs.other, fun i hi b hb => Nat.lt_of_lt_of_le (hs.under i hi b hb) hh⟩
theorem OwnC.base {lo' : Nat} (h : OwnC w lo hi A n c cs) (hh : lo' ≤ lo) : OwnC w lo' hi A n c cs := by
  obtain ⟨hl, hu, sl, hr, hs⟩ := h
  refine ⟨hl, hu, sl, ⟨hr.1, ?_⟩, fun i hi => (hs.mine i hi).base hh, hs.apart, hs.other, hs.under⟩
  rcases hr.2 with h | ⟨g, cap, cur, hv, hg, r⟩
  · exact .inl h
  · exact .inr ⟨g, cap, cur, hv, by omega, r⟩
theorem OwnC.form (h : OwnC w lo hi A n c cs) (hn : 0 < n) : ∃ g, A = some ⟨g, 0, none⟩ ∧ lo ≤ g ∧ g < hi ∧ g < w.heap.size := by
  obtain ⟨hl, hu, sl, hr, hs⟩ := h
  obtain ⟨g, cap, hv, h1, h2⟩ := World.ownsRow.form hr hn
  injection hv with hA
  subst hA
  exact ⟨g, rfl, h1, hu g (by simp [Value.ownBlock]), h2⟩
theorem OwnC.cells (h : OwnC w lo hi A n c cs) : Cells w hi A n cs := by
  refine ⟨h.1, fun hn => ?_⟩
  obtain ⟨g, rfl, _, h2, _⟩ := h.form hn
  obtain ⟨hl, hu, sl, hr, hs⟩ := h
  refine ⟨g, 0, rfl, h2, fun i hi => ?_⟩
  have m := hs.mine i hi
  refine ⟨?_, (sl i).A, (sl i).n, (sl i).c, ?_, mine_cap m, mine_none m, m.len, m.2, fun hp => ?_⟩
  · rw [Nat.zero_add, World.ownsRow.cellAt hr _ (by omega), cvs_at _ _ _ _ (by omega), cf0]
  · rw [Nat.zero_add, World.ownsRow.cellAt hr _ (by omega), cvs_at _ _ _ _ (by omega), cf1]; rfl
  · obtain ⟨b, off, e, hb, hc⟩ := m.byts.2.2 hp
    refine ⟨b, off, e, ?_, hc⟩
    obtain ⟨g', e', _⟩ := m.form hp
    rw [e] at e'
    cases e'
    exact hs.under i hi b (by unfold Sub.v; rw [e]; simp [Value.ownBlock])
theorem OwnC.free (h : OwnC w lo hi (some ⟨g, 0, none⟩) n c cs) (k : Nat) : w.frozen? ⟨g, k, none⟩ = false := by
  obtain ⟨hl, hu, sl, hr, hs⟩ := h
  exact World.ownsRow.frozenAt hr k
/-- another cell in place of the k-th: its bytes in a block that was made since. -/
theorem OwnC.put {w0 : World} {A' : Option Addr} {n' c' k : Nat} {bs : List Int} (m : Int) (h : OwnC w0 lo hi (some ⟨g, 0, none⟩) n c cs) (hh : hi ≤ w0.heap.size) (hb : Below w0.heap.size w0 w) (hx : Mine w w0.heap.size A' n' c' bs) (hk : k < n) (hh' : w.heap.size ≤ hi') (hlo : lo ≤ w0.heap.size) :
    OwnC ((w.setCell ⟨g, k * 2, none⟩ (.int .i64 m)).setCell ⟨g, k * 2 + 1, none⟩ (.slice A' n' c')) lo hi' (some ⟨g, 0, none⟩) n c (cs.set k (m, bs)) ∧
      Touch (fun b => b = g) w ((w.setCell ⟨g, k * 2, none⟩ (.int .i64 m)).setCell ⟨g, k * 2 + 1, none⟩ (.slice A' n' c')) := by
  have hs0 := hb.size
  have h := h.below (hb.mono hh)
  obtain ⟨hl, hu, sl, hr, hs⟩ := h
  have hg := hr.lt g (by simp [Value.ownBlock])
  have hgu := hu g (by simp [Value.ownBlock])
  obtain ⟨r1, t1⟩ := World.ownsRow.stored hr (k * 2) (.int .i64 m)
  obtain ⟨r2, t2⟩ := World.ownsRow.stored r1 (k * 2 + 1) (.slice A' n' c')
  have t : Touch (fun b => b = g) w ((w.setCell ⟨g, k * 2, none⟩ (.int .i64 m)).setCell ⟨g, k * 2 + 1, none⟩ (.slice A' n' c')) := (touch_set (S := fun b => b = g) w g _ _ rfl).trans (touch_set _ g _ _ rfl)
  refine ⟨⟨by simp [hl], fun b hb' => Nat.lt_of_lt_of_le (hu b hb') (by omega), fun i => if i = k then ⟨A', n', c', bs⟩ else sl i, ?_, ?_, ?_, ?_, ?_⟩, t⟩
  · rw [← cvs_set n cs sl k m ⟨A', n', c', bs⟩ bs hk hl]; exact r2
  · intro i hi1
    rw [cel_set _ _ _ _ (by omega)]
    by_cases h : i = k
    · simp only [h, if_true]
      exact (hx.base hlo).touch t (fun b hb' e => by have := (hx.1.lt b hb').1; omega)
    · simp only [h, if_false]
      exact (hs.mine i hi1).touch t (fun b hb' e => hs.other i hi1 b hb' (by rw [e]; simp [Value.ownBlock]))
  · intro i j hi1 hj hij b
    by_cases h : i = k
    · have h2 : ¬ j = k := by omega
      simp only [h, h2, if_true, if_false]
      intro e1 e2
      have := (hx.1.lt b e1).1
      have := hs.under j hj b e2
      omega
    · by_cases h2 : j = k
      · simp only [h, h2, if_true, if_false]
        intro e1 e2
        have := (hx.1.lt b e2).1
        have := hs.under i hi1 b e1
        omega
      · simp only [h, h2, if_false]
        exact hs.apart i j hi1 hj hij b
  · intro i hi1 b
    by_cases h : i = k
    · simp only [h, if_true]
      intro e1 e2
      have := (hx.1.lt b e1).1
      simp [Value.ownBlock] at e2
      omega
    · simp only [h, if_false]
      exact hs.other i hi1 b
  · intro i hi1 b
    by_cases h : i = k
    · simp only [h, if_true]
      intro e1
      have := (hx.1.lt b e1).2
      omega
    · simp only [h, if_false]
      intro e1
      have := hs.under i hi1 b e1
      omega
theorem OwnC.cell0 {k : Nat} (h : OwnC w lo hi (some ⟨g, 0, none⟩) n c cs) (hk : k < n) : w.cell? ⟨g, k * 2, none⟩ = some (.int .i64 (cel cs k).1) := by
  obtain ⟨b, off, _, _, _, e, _, h0, _⟩ := h.cells.at_ hk
  cases e
  simpa using h0
theorem OwnC.cell1 {k : Nat} (h : OwnC w lo hi (some ⟨g, 0, none⟩) n c cs) (hk : k < n) : ∃ Ai ni ci, w.cell? ⟨g, k * 2 + 1, none⟩ = some (.slice Ai ni ci) ∧ ni ≤ ci ∧ (Ai = none → ci = 0) ∧ Byts w hi Ai ni (cel cs k).2 := by
  obtain ⟨b, off, Ai, ni, ci, e, _, _, h1, h2, h3, h4⟩ := h.cells.at_ hk
  cases e
  exact ⟨Ai, ni, ci, by simpa using h1, h2, h3, h4⟩
theorem cvs_same (cs cs' : List (Int × List Int)) (sl : Nat → Sub) (h : ∀ i, i < n → (cel cs i).1 = (cel cs' i).1) : cvs n cs sl = cvs n cs' sl := by
  unfold cvs
  apply List.map_congr_left
  intro j hj
  have hj : j < n * 2 := by simpa using hj
  unfold cf
  rw [h (j / 2) (by omega)]
theorem cvs_name (cs : List (Int × List Int)) (sl : Nat → Sub) (k : Nat) (m : Int) (b : List Int) (hk : k < n) (hl : cs.length = n) : (cvs n cs sl).set (k * 2) (.int .i64 m) = cvs n (cs.set k (m, b)) sl := by
  apply List.ext_getElem?
  intro j
  by_cases hj : j < n * 2
  · rw [cvs_at _ _ _ j hj]
    by_cases h0 : j = k * 2
    · subst h0
      rw [List.getElem?_set_self (by simp [cvs]; omega), cf0, cel_set _ _ _ _ (by omega), if_pos rfl]
    · rw [List.getElem?_set_ne (by omega), cvs_at _ _ _ j hj]
      unfold cf
      rw [cel_set _ _ _ _ (by omega)]
      by_cases he : j % 2 = 0
      · rw [if_neg (show ¬ j / 2 = k by omega)]
      · rw [if_neg he, if_neg he]
  · rw [List.getElem?_eq_none (by simp [cvs]; omega), List.getElem?_eq_none (by simp [cvs]; omega)]
/-- another name in the k-th cell. -/
theorem OwnC.setName {k : Nat} (m : Int) (h : OwnC w lo hi (some ⟨g, 0, none⟩) n c cs) (hk : k < n) :
    OwnC (w.setCell ⟨g, k * 2, none⟩ (.int .i64 m)) lo hi (some ⟨g, 0, none⟩) n c (cs.set k (m, (cel cs k).2)) := by
  obtain ⟨hl, hu, sl, hr, hs⟩ := h
  have hg := hr.lt g (by simp [Value.ownBlock])
  obtain ⟨r1, t1⟩ := World.ownsRow.stored hr (k * 2) (.int .i64 m)
  have t : Touch (fun b => b = g) w (w.setCell ⟨g, k * 2, none⟩ (.int .i64 m)) := touch_set (S := fun b => b = g) w g _ _ rfl
  refine ⟨by simp [hl], hu, sl, ?_, ⟨fun i hi1 => ?_, hs.apart, hs.other, hs.under⟩⟩
  · rw [← cvs_name cs sl k m _ hk hl]; exact r1
  · have hm := (hs.mine i hi1).touch t (fun b hb' e => hs.other i hi1 b hb' (by rw [e]; simp [Value.ownBlock]))
    rw [cel_set _ _ _ _ (by omega)]
    by_cases h : i = k
    · subst h; rw [if_pos rfl]; exact hm
    · rw [if_neg h]; exact hm
/-- other bytes in the k-th cell's own slice. -/
theorem OwnC.inner {k : Nat} (h : OwnC w lo hi (some ⟨g, 0, none⟩) n c cs) (hk : k < n) :
    ∃ Ai ni ci, w.cell? ⟨g, k * 2 + 1, none⟩ = some (.slice Ai ni ci) ∧ Mine w lo Ai ni ci (cel cs k).2 ∧ (∀ b, (Value.slice Ai ni ci).ownBlock = some b → lo ≤ b ∧ b < hi) ∧
      ∀ w' bs', Mine w' lo Ai ni ci bs' → w.grownBy w' (Value.slice Ai ni ci).ownBlock → OwnC w' lo hi (some ⟨g, 0, none⟩) n c (cs.set k ((cel cs k).1, bs')) := by
  obtain ⟨hl, hu, sl, hr, hs⟩ := h
  refine ⟨(sl k).A, (sl k).n, (sl k).c, ?_, hs.mine k hk, fun b hb => ⟨((hs.mine k hk).1.lt b hb).1, hs.under k hk b hb⟩, fun w' bs' hm hg => ?_⟩
  · rw [World.ownsRow.cellAt hr _ (by omega), cvs_at _ _ _ _ (by omega), cf1]; rfl
  · have t := Touch.of_grown hg
    refine ⟨by simp [hl], hu, sl, ?_, ⟨fun i hi1 => ?_, hs.apart, hs.other, hs.under⟩⟩
    · rw [← cvs_same (n := n) cs (cs.set k ((cel cs k).1, bs')) sl (fun i hi1 => by
        rw [cel_set _ _ _ _ (by omega)]
        by_cases h : i = k
        · subst h; rw [if_pos rfl]
        · rw [if_neg h])]
      refine own_touch hr t (fun b hb e => ?_)
      have : g = b := by simpa [Value.ownBlock] using hb
      subst this
      exact hs.other k hk g e.symm (by simp [Value.ownBlock])
    · rw [cel_set _ _ _ _ (by omega)]
      by_cases h : i = k
      · subst h; rw [if_pos rfl]; exact hm
      · rw [if_neg h]
        exact (hs.mine i hi1).touch t (fun b hb e => hs.apart i k hi1 hk h b hb e.symm)
end
end Go.Proofs.Ytepaikljiddiaaa

-- Bss: Slices of slices of bytes: one that reads as a list of texts of bytes; one that the call made and may write into; no statement of the program is proved here.
namespace Go.Proofs.Ytepaikljiddiaaa
set_option maxRecDepth 20000
set_option linter.unusedVariables false
set_option linter.unusedSimpArgs false
open Go.RowKit

/-- the i-th of some rows of bytes. -/
def be (bs : List (List Int)) (i : Nat) : List Int := bs[i]?.getD []
theorem be_set (bs : List (List Int)) (k : Nat) (x : List Int) (i : Nat) (hk : k < bs.length) : be (bs.set k x) i = if i = k then x else be bs i := by
  unfold be
  by_cases h : i = k
  · subst h
    rw [if_pos rfl, List.getElem?_set_self hk]; rfl
  · rw [if_neg h, List.getElem?_set_ne (by omega)]
theorem be_append (bs : List (List Int)) (x : List Int) (i : Nat) : be (bs ++ [x]) i = if i = bs.length then x else be bs i := by
  unfold be
  by_cases h : i = bs.length
  · subst h
    simp
  · rw [if_neg h]
    rcases Nat.lt_or_ge i bs.length with h1 | h1
    · rw [List.getElem?_append_left h1]
    · rw [List.getElem?_eq_none (by simp; omega), List.getElem?_eq_none (by omega)]
theorem be_take (bs : List (List Int)) (k : Nat) (h : k < bs.length) : bs.take (k + 1) = bs.take k ++ [be bs k] := by
  unfold be
  rw [List.take_succ_eq_append_getElem h, List.getElem?_eq_getElem h]; rfl

/-- the slice value '.slice A n c' of slices of bytes reads as bs, below block B. -/
def Bss (w : World) (B : Nat) (A : Option Addr) (n : Nat) (bs : List (List Int)) : Prop :=
  bs.length = n ∧ (0 < n → ∃ b off, A = some ⟨b, off, none⟩ ∧ b < B ∧ ∀ i, i < n → ∃ Ai ni ci, w.cell? ⟨b, off + i, none⟩ = some (.slice Ai ni ci) ∧ ni ≤ ci ∧ (Ai = none → ci = 0) ∧ Byts w B Ai ni (be bs i))
section
variable {w w' : World} {B B' n : Nat} {A : Option Addr} {bs : List (List Int)}
theorem Bss.none_ : Bss w B A 0 [] := ⟨rfl, fun h => absurd h (by omega)⟩
theorem Bss.at_ {k : Nat} (h : Bss w B A n bs) (hk : k < n) : ∃ b off Ai ni ci, A = some ⟨b, off, none⟩ ∧ b < B ∧ w.cell? ⟨b, off + k, none⟩ = some (.slice Ai ni ci) ∧ ni ≤ ci ∧ (Ai = none → ci = 0) ∧ Byts w B Ai ni (be bs k) := by
  obtain ⟨b, off, e, hb, hc⟩ := h.2 (by omega)
  obtain ⟨Ai, ni, ci, h1, h2, h3, h4⟩ := hc k hk
  exact ⟨b, off, Ai, ni, ci, e, hb, h1, h2, h3, h4⟩
theorem Bss.keep (h : Bss w B A n bs) (hk : ∀ p : Addr, p.block < B → w'.cell? p = w.cell? p) : Bss w' B A n bs :=
  ⟨h.1, fun hn => by
    obtain ⟨b, off, e, hb, hc⟩ := h.2 hn
    refine ⟨b, off, e, hb, fun i hi => ?_⟩
    obtain ⟨Ai, ni, ci, h1, h2, h3, h4⟩ := hc i hi
    exact ⟨Ai, ni, ci, (hk _ hb).trans h1, h2, h3, h4.keep hk⟩⟩
theorem Bss.more (h : Bss w B A n bs) (hB : B ≤ B') : Bss w B' A n bs :=
  ⟨h.1, fun hn => by
    obtain ⟨b, off, e, hb, hc⟩ := h.2 hn
    refine ⟨b, off, e, by omega, fun i hi => ?_⟩
    obtain ⟨Ai, ni, ci, h1, h2, h3, h4⟩ := hc i hi
    exact ⟨Ai, ni, ci, h1, h2, h3, h4.more hB⟩⟩
theorem Bss.below (h : Bss w B A n bs) (hb : Below B w w') : Bss w' B A n bs := h.keep fun _ hp => hb.cell hp
theorem Bss.drewN (h : Bss w B A n bs) (k : Nat) : Bss (w.drewN k) B A n bs := h.below (below_drewN (Below.refl _ _) k)
theorem Bss.alloc (h : Bss w B A n bs) (hB : B ≤ w.heap.size) (o : Obj) : Bss (w.alloc o) B A n bs := h.keep fun p hp => World.cell?_alloc_lt w o p (by omega)
end

theorem Try.infoBs : (Try.prog.info? 22).map (fun i => (i.zero, i.size, i.bytes)) = some (some (.slice none 0 0), 1, 24) := by kernel_rfl

/-- what stands in a row of slices. -/
def bvs (n : Nat) (sl : Nat → Sub) : List Value := (List.range n).map fun i => (sl i).v
theorem bvs_at (n : Nat) (sl : Nat → Sub) (j : Nat) (h : j < n) : (bvs n sl)[j]? = some (sl j).v := by simp [bvs, h]
theorem bvs_append (n : Nat) (sl : Nat → Sub) (x : Sub) : bvs n sl ++ [x.v] = bvs (n + 1) (fun i => if i = n then x else sl i) := by
  apply List.ext_getElem?
  intro j
  by_cases hj : j < n
  · rw [List.getElem?_append_left (by simp [bvs]; omega), bvs_at _ _ j hj, bvs_at _ _ j (by omega)]
    simp only [show ¬ j = n by omega, if_false]
  · rw [List.getElem?_append_right (by simp [bvs]; omega)]
    have hl2 : (bvs n sl).length = n := by simp [bvs]
    rw [hl2]
    by_cases h0 : j = n
    · subst h0
      rw [bvs_at _ _ _ (by omega)]; simp
    · rw [List.getElem?_eq_none (by simp; omega), List.getElem?_eq_none (by simp [bvs]; omega)]

/-- the slices in a row of n are of the call's own, each in a block of its own, of the blocks from lo to hi, none of them g. -/
structure SubB (w : World) (lo hi : Nat) (g : Option Nat) (n : Nat) (bs : List (List Int)) (sl : Nat → Sub) : Prop where
  mine : ∀ i, i < n → Mine w lo (sl i).A (sl i).n (sl i).c (be bs i)
  apart : ∀ i j, i < n → j < n → i ≠ j → ∀ b, (sl i).v.ownBlock = some b → (sl j).v.ownBlock ≠ some b
  other : ∀ i, i < n → ∀ b, (sl i).v.ownBlock = some b → g ≠ some b
  under : ∀ i, i < n → ∀ b, (sl i).v.ownBlock = some b → b < hi
/-- the slice '.slice A n c' of slices of bytes is of the call's own, with all that it holds, in blocks from lo to hi, and reads as bs. -/
def OwnBs (w : World) (lo hi : Nat) (A : Option Addr) (n c : Nat) (bs : List (List Int)) : Prop :=
  bs.length = n ∧ (∀ b, (Value.slice A n c).ownBlock = some b → b < hi) ∧ ∃ sl, w.ownsRow lo 22 1 (.slice A n c) n (bvs n sl) ∧ SubB w lo hi (Value.slice A n c).ownBlock n bs sl
section
variable {w w' : World} {lo hi hi' n c g : Nat} {A : Option Addr} {bs : List (List Int)}
theorem OwnBs.nil (w : World) (lo hi : Nat) : OwnBs w lo hi none 0 0 [] := ⟨rfl, fun b h => by simp [Value.ownBlock] at h, fun _ => ⟨none, 0, 0, []⟩, World.ownsRow_nil _ _ _ _, fun i h => by omega, fun i j h => by omega, fun i h => by omega, fun i h => by omega⟩
theorem OwnBs.len (h : OwnBs w lo hi A n c bs) : bs.length = n := h.1
theorem OwnBs.touch {S : Nat → Prop} (h : OwnBs w lo hi A n c bs) (t : Touch S w w') (hn : ∀ b, lo ≤ b → b < hi → ¬ S b) : OwnBs w' lo hi A n c bs := by
  obtain ⟨hl, hu, sl, hr, hs⟩ := h
  exact ⟨hl, hu, sl, own_touch hr t (fun b hb => hn b (hr.lt b hb).1 (hu b hb)), fun i hi => (hs.mine i hi).touch t (fun b hb => hn b ((hs.mine i hi).1.lt b hb).1 (hs.under i hi b hb)), hs.apart, hs.other, hs.under⟩
theorem OwnBs.below (h : OwnBs w lo hi A n c bs) (hb : Below hi w w') : OwnBs w' lo hi A n c bs :=
  h.touch (S := fun k => hi ≤ k) ⟨hb.os, hb.tape, hb.output, hb.size, fun k hk hs => hb.block k (by omega)⟩ (fun b _ h1 h2 => by omega)
theorem OwnBs.more (h : OwnBs w lo hi A n c bs) (hh : hi ≤ hi') : OwnBs w lo hi' A n c bs := by
  obtain ⟨hl, hu, sl, hr, hs⟩ := h
  exact ⟨hl, fun b hb => Nat.lt_of_lt_of_le (hu b hb) hh, sl, hr, hs.mine, hs.apart, hs.other, fun i hi b hb => Nat.lt_of_lt_of_le (hs.under i hi b hb) hh⟩
theorem OwnBs.base {lo' : Nat} (h : OwnBs w lo hi A n c bs) (hh : lo' ≤ lo) : OwnBs w lo' hi A n c bs := by
  obtain ⟨hl, hu, sl, hr, hs⟩ := h
  refine ⟨hl, hu, sl, ⟨hr.1, ?_⟩, fun i hi => (hs.mine i hi).base hh, hs.apart, hs.other, hs.under⟩
  rcases hr.2 with h | ⟨g, cap, cur, hv, hg, r⟩
  · exact .inl h
  · exact .inr ⟨g, cap, cur, hv, by omega, r⟩
theorem OwnBs.form (h : OwnBs w lo hi A n c bs) (hn : 0 < n) : ∃ g, A = some ⟨g, 0, none⟩ ∧ lo ≤ g ∧ g < hi ∧ g < w.heap.size := by
  obtain ⟨hl, hu, sl, hr, hs⟩ := h
  obtain ⟨g, cap, hv, h1, h2⟩ := World.ownsRow.form hr hn
  injection hv with hA
  subst hA
  exact ⟨g, rfl, h1, hu g (by simp [Value.ownBlock]), h2⟩
theorem OwnBs.bss (h : OwnBs w lo hi A n c bs) : Bss w hi A n bs := by
  refine ⟨h.1, fun hn => ?_⟩
  obtain ⟨g, rfl, _, h2, _⟩ := h.form hn
  obtain ⟨hl, hu, sl, hr, hs⟩ := h
  refine ⟨g, 0, rfl, h2, fun i hi => ?_⟩
  have m := hs.mine i hi
  refine ⟨(sl i).A, (sl i).n, (sl i).c, ?_, mine_cap m, mine_none m, m.len, m.2, fun hp => ?_⟩
  · rw [Nat.zero_add, World.ownsRow.cellAt hr _ (by omega), bvs_at _ _ _ (by omega)]; rfl
  · obtain ⟨b, off, e, hb, hc⟩ := m.byts.2.2 hp
    refine ⟨b, off, e, ?_, hc⟩
    obtain ⟨g', e', _⟩ := m.form hp
    rw [e] at e'
    cases e'
    exact hs.under i hi b (by unfold Sub.v; rw [e]; simp [Value.ownBlock])
theorem OwnBs.free (h : OwnBs w lo hi (some ⟨g, 0, none⟩) n c bs) (k : Nat) : w.frozen? ⟨g, k, none⟩ = false := by
  obtain ⟨hl, hu, sl, hr, hs⟩ := h
  exact World.ownsRow.frozenAt hr k
/-- other bytes in the k-th slice. -/
theorem OwnBs.inner {k : Nat} (h : OwnBs w lo hi (some ⟨g, 0, none⟩) n c bs) (hk : k < n) :
    ∃ Ai ni ci, w.cell? ⟨g, k, none⟩ = some (.slice Ai ni ci) ∧ Mine w lo Ai ni ci (be bs k) ∧ (∀ b, (Value.slice Ai ni ci).ownBlock = some b → lo ≤ b ∧ b < hi) ∧
      ∀ w' bs', Mine w' lo Ai ni ci bs' → w.grownBy w' (Value.slice Ai ni ci).ownBlock → OwnBs w' lo hi (some ⟨g, 0, none⟩) n c (bs.set k bs') := by
  obtain ⟨hl, hu, sl, hr, hs⟩ := h
  refine ⟨(sl k).A, (sl k).n, (sl k).c, ?_, hs.mine k hk, fun b hb => ⟨((hs.mine k hk).1.lt b hb).1, hs.under k hk b hb⟩, fun w' bs' hm hg => ?_⟩
  · rw [World.ownsRow.cellAt hr _ (by omega), bvs_at _ _ _ (by omega)]; rfl
  · have t := Touch.of_grown hg
    refine ⟨by simp [hl], hu, sl, ?_, ⟨fun i hi1 => ?_, hs.apart, hs.other, hs.under⟩⟩
    · refine own_touch hr t (fun b hb e => ?_)
      have : g = b := by simpa [Value.ownBlock] using hb
      subst this
      exact hs.other k hk g e.symm (by simp [Value.ownBlock])
    · rw [be_set _ _ _ _ (by omega)]
      by_cases h : i = k
      · subst h; rw [if_pos rfl]; exact hm
      · rw [if_neg h]
        exact (hs.mine i hi1).touch t (fun b hb e => hs.apart i k hi1 hk h b hb e.symm)
end
/-- one more slice, made since. -/
theorem OwnBs.pushed {w w' : World} {lo hi hi' n c n' c' g cap : Nat} {A A' : Option Addr} {cs : List (List Int)} {bs : List Int} {sl : Nat → Sub}
    (hl : cs.length = n) (hu : ∀ b, (Value.slice A n c).ownBlock = some b → b < hi) (hs : SubB w lo hi (Value.slice A n c).ownBlock n cs sl) (hx : Mine w lo A' n' c' bs)
    (hxb : ∀ b, (Value.slice A' n' c').ownBlock = some b → hi ≤ b)
    (hr : w'.ownsRow lo 22 1 (.slice (some ⟨g, 0, none⟩) (n + 1) cap) (n + 1) (bvs n sl ++ [.slice A' n' c'])) (hg : w.grownBy w' (Value.slice A n c).ownBlock)
    (hgo : (Value.slice A n c).ownBlock = some g ∨ g = w.heap.size) (hh : hi ≤ w.heap.size) (hi1 : w'.heap.size ≤ hi') : OwnBs w' lo hi' (some ⟨g, 0, none⟩) (n + 1) cap (cs ++ [bs]) := by
  have hsz := hg.size
  have t := Touch.of_grown hg
  refine ⟨by simp [hl], fun b hb => ?_, fun i => if i = n then ⟨A', n', c', bs⟩ else sl i, ?_, ?_⟩
  · have := (World.ownsRow.lt hr b hb).2
    omega
  · rw [← bvs_append n sl ⟨A', n', c', bs⟩]; exact hr
  · have hlt : ∀ i, i < n → ∀ b, (sl i).v.ownBlock = some b → b < w.heap.size := fun i hi b hb => (World.ownsRow.lt (hs.mine i hi).1 b hb).2
    have hxl : ∀ b, (Value.slice A' n' c').ownBlock = some b → b < w.heap.size := fun b hb => (World.ownsRow.lt hx.1 b hb).2
    refine ⟨fun i hi => ?_, fun i j hi hj hij b => ?_, fun i hi b => ?_, fun i hi b => ?_⟩
    · rw [be_append, hl]
      by_cases h : i = n
      · simp only [h, if_true]
        exact hx.touch t (fun b hb e => by have := hxb b hb; have := hu b e.symm; omega)
      · simp only [h, if_false]
        exact (hs.mine i (by omega)).touch t (fun b hb e => hs.other i (by omega) b hb e.symm)
    · by_cases h : i = n
      · have h2 : ¬ j = n := by omega
        simp only [h, h2, if_true, if_false]
        intro e1 e2
        have := hxb b e1
        have := hs.under j (by omega) b e2
        omega
      · by_cases h2 : j = n
        · simp only [h, h2, if_true, if_false]
          intro e1 e2
          have := hxb b e2
          have := hs.under i (by omega) b e1
          omega
        · simp only [h, h2, if_false]
          exact hs.apart i j (by omega) (by omega) hij b
    · have hown : (Value.slice (some (⟨g, 0, none⟩ : Addr)) (n + 1) cap).ownBlock = some g := by simp [Value.ownBlock]
      rw [hown]
      by_cases h : i = n
      · simp only [h, if_true]
        intro e1 e2
        cases e2
        have := hxb _ e1
        have := hxl _ e1
        rcases hgo with e | e
        · have := hu _ e; omega
        · omega
      · simp only [h, if_false]
        intro e1 e2
        cases e2
        rcases hgo with e | e
        · exact hs.other i (by omega) _ e1 e
        · have := hlt i (by omega) _ e1; omega
    · by_cases h : i = n
      · simp only [h, if_true]
        intro e1
        have := hxl b e1
        omega
      · simp only [h, if_false]
        intro e1
        have := hlt i (by omega) b e1
        omega
theorem OwnBs.made0 (w : World) : OwnBs (w.alloc (.cells #[] 22)) w.heap.size (w.heap.size + 1) (some ⟨w.heap.size, 0, none⟩) 0 0 [] := by
  refine ⟨rfl, fun b h => by simp [Value.ownBlock] at h; omega, fun _ => ⟨none, 0, 0, []⟩, ?_, fun i h => by omega, fun i j h => by omega, fun i h => by omega, fun i h => by omega⟩
  exact World.ownsRow_lit w #[] 0 (Nat.le_refl _) (by unfold maxLen; omega) rfl
/-- the call answered with slices of bytes of its own. -/
def GaveBs (w : World) (bs : List (List Int)) (e : Ending) (w' : World) : Prop := ∃ A n c, e = .returned (.slice A n c) ∧ OwnBs w' w.heap.size w'.heap.size A n c bs ∧ Below w.heap.size w w'
end Go.Proofs.Ytepaikljiddiaaa

-- FrameM: Plain facts on frames. No statement of the program is proved here.
namespace Go.Proofs.Ytepaikljiddiaaa
set_option maxRecDepth 20000
set_option linter.unusedVariables false
set_option linter.unusedSimpArgs false
open Go.RowKit

/-- a number in two bytes. -/
def two (n : Int) : List Int := [n % 256, n / 256]
/-- a frame of some bytes. -/
def framed (b : List Int) : List Int := if 65535 < b.length then [] else (two (b.length : Int) ++ nameBytes (nameOf b)) ++ b
theorem framed_bd (b : List Int) (hb : ∀ z ∈ b, 0 ≤ z ∧ z ≤ 255) : ∀ z ∈ framed b, 0 ≤ z ∧ z ≤ 255 := by
  unfold framed
  split
  · simp
  · rename_i h
    intro z hz
    rcases List.mem_append.1 hz with hz | hz
    · rcases List.mem_append.1 hz with hz | hz
      · simp [two] at hz
        omega
      · unfold nameBytes at hz
        split at hz
        · cases hz
        · exact nb_bd _ _ z hz
    · exact hb z hz
theorem framed_len (b : List Int) : (framed b).length ≤ b.length + 10 := by
  unfold framed
  split
  · simp
  · simp only [List.length_append, two, List.length_cons, List.length_nil]
    have : (nameBytes (nameOf b)).length ≤ 8 := by
      unfold nameBytes
      split <;> simp [nb]
    omega
/-- the number that stands in two bytes. -/
def ofTwo (b : List Int) (i : Nat) : Nat := (b[i]?.getD 0 + 256 * b[i + 1]?.getD 0).toNat
/-- the body of the frame at a place. -/
def bodyAt (b : List Int) (i : Nat) : List Int := (b.drop (i + 10)).take (ofTwo b i)
/-- the eight bytes of its name. -/
def eightAt (b : List Int) (i : Nat) : List Int := (b.drop (i + 2)).take 8
/-- there is a whole frame with the right name. -/
def frameAt (b : List Int) (i : Nat) : Prop := i + 10 + ofTwo b i ≤ b.length ∧ (eightAt b i)[7]?.getD 0 ≤ 127 ∧ leVal (eightAt b i) = nameOf (bodyAt b i)
instance (b : List Int) (i : Nat) : Decidable (frameAt b i) := by unfold frameAt; infer_instance
/-- the bodies of the frames from a place on, and where they end. -/
def framesAt (b : List Int) (i : Nat) : List (List Int) × Nat :=
  if h : frameAt b i then (bodyAt b i :: (framesAt b (i + 10 + ofTwo b i)).1, (framesAt b (i + 10 + ofTwo b i)).2) else ([], i)
termination_by b.length - i
decreasing_by all_goals (have := h.1; omega)
theorem framesAt_no (b : List Int) (i : Nat) (h : ¬ frameAt b i) : framesAt b i = ([], i) := by rw [framesAt, dif_neg h]
theorem framesAt_yes (b : List Int) (i : Nat) (h : frameAt b i) : framesAt b i = (bodyAt b i :: (framesAt b (i + 10 + ofTwo b i)).1, (framesAt b (i + 10 + ofTwo b i)).2) := by
  conv => lhs; rw [framesAt, dif_pos h]
theorem bodyAt_len (b : List Int) (i : Nat) (h : i + 10 + ofTwo b i ≤ b.length) : (bodyAt b i).length = ofTwo b i := by
  unfold bodyAt; rw [List.length_take, List.length_drop]; omega
theorem framesAt_bd (b : List Int) (hb : ∀ z ∈ b, 0 ≤ z ∧ z ≤ 255) (m : Nat) : ∀ i, b.length - i ≤ m → (framesAt b i).1.length ≤ b.length - i ∧ ((∀ x ∈ (framesAt b i).1, x.length ≤ b.length ∧ ∀ z ∈ x, 0 ≤ z ∧ z ≤ 255)) := by
  induction m with
  | zero =>
    intro i hi
    rw [framesAt_no b i (fun h => by have := h.1; omega)]
    simp
  | succ m ih =>
    intro i hi
    by_cases h : frameAt b i
    · rw [framesAt_yes b i h]
      have h1 := h.1
      obtain ⟨k1, k2⟩ := ih (i + 10 + ofTwo b i) (by omega)
      refine ⟨by simp only [List.length_cons]; omega, fun x hx => ?_⟩
      rcases List.mem_cons.1 hx with rfl | hx
      · refine ⟨by rw [bodyAt_len b i h1]; omega, fun z hz => ?_⟩
        unfold bodyAt at hz
        exact hb z (List.mem_of_mem_drop (List.mem_of_mem_take hz))
      · exact k2 x hx
    · rw [framesAt_no b i h]; simp
end Go.Proofs.Ytepaikljiddiaaa

-- Sums: The two sums of a name and the name of bytes, as the program and as the model reckon them: what each call returns, the world left as it was.
namespace Go.Proofs.Ytepaikljiddiaaa
set_option maxRecDepth 20000
open Go.RowKit

theorem up_any (A : Option Addr) (n c : Nat) (zs : List Int) (B : Nat) (w : World) (hn : n ≤ 9223372036854775807) (hb : Byts w B A n zs) :
    Calls Try.prog 71 #[.slice A n c, .int .i64 7, .int .i64 131, .int .i64 2147483647] w fun e w' => e = .returned (.int .i64 (upSum zs)) ∧ w = w' := by
  have HB := Lib.hid hb
  have hlen : zs.length = n := hb.1
  have HL := Lib.hid hlen
  clear hb hlen
  go_enter Try.func71, Try.ntmps71
  go_wp2
  go_loop [9, 15] (fun s i => ∃ k : Nat, k ≤ n ∧ i = .int .i64 k ∧ s = .int .i64 (upSum (zs.take k))) (fun _ i => n - (intOf i).toNat)
  case atStart => exact ⟨0, Nat.zero_le _, rfl, rfl⟩
  case round =>
    obtain ⟨k, hk, rfl, rfl⟩ := hrel
    have hs := upSum_bd (zs.take k)
    by_cases hlt : k < n
    · obtain ⟨b, off, rfl, _, hc⟩ := HB.out.at_ hlt
      have hr := HB.out.range k
      have HS := Lib.hid (upSum_step zs k (by have := HL.out; omega))
      go_wp2
      go_round
      case rel => exact ⟨k + 1, by omega, by go_num, by rw [HS.out]⟩
      case measure => simp [intOf]; omega
    · go_wp2
      go_ret
      exact ⟨ret_i64 (by rw [List.take_of_length_le (by have := HL.out; omega)]), rfl⟩
theorem lo_any (A : Option Addr) (n c : Nat) (zs : List Int) (B : Nat) (w : World) (hn : n ≤ 9223372036854775807) (hb : Byts w B A n zs) :
    Calls Try.prog 72 #[.slice A n c, .int .i64 11, .int .i64 137, .int .i64 2147483629] w fun e w' => e = .returned (.int .i64 (loSum zs)) ∧ w = w' := by
  have HB := Lib.hid hb
  have hlen : zs.length = n := hb.1
  have HL := Lib.hid hlen
  clear hb hlen
  go_enter Try.func72, Try.ntmps72
  go_wp2
  go_loop [9, 15] (fun s i => ∃ k : Nat, k ≤ n ∧ i = .int .i64 k ∧ s = .int .i64 (loSum (zs.take k))) (fun _ i => n - (intOf i).toNat)
  case atStart => exact ⟨0, Nat.zero_le _, rfl, rfl⟩
  case round =>
    obtain ⟨k, hk, rfl, rfl⟩ := hrel
    have hs := loSum_bd (zs.take k)
    by_cases hlt : k < n
    · obtain ⟨b, off, rfl, _, hc⟩ := HB.out.at_ hlt
      have hr := HB.out.range k
      have HS := Lib.hid (loSum_step zs k (by have := HL.out; omega))
      go_wp2
      go_round
      case rel => exact ⟨k + 1, by omega, by go_num, by rw [HS.out]⟩
      case measure => simp [intOf]; omega
    · go_wp2
      go_ret
      exact ⟨ret_i64 (by rw [List.take_of_length_le (by have := HL.out; omega)]), rfl⟩
theorem name_any (A : Option Addr) (n c : Nat) (zs : List Int) (B : Nat) (w : World) (hn : n ≤ 9223372036854775807) (hb : Byts w B A n zs) :
    Calls Try.prog 46 #[.slice A n c] w fun e w' => e = .returned (.int .i64 (nameOf zs)) ∧ w = w' := by
  have h1 := upSum_bd zs
  have h2 := loSum_bd zs
  have HB := Lib.hid hb
  clear hb
  go_enter Try.func46, Try.ntmps46
  go_wp2_with (first
    | (go_at_call 71; refine (up_any _ _ _ zs _ _ (by omega) HB.out).mono ?_; rintro e w' ⟨rfl, rfl⟩)
    | (go_at_call 72; refine (lo_any _ _ _ zs _ _ (by omega) HB.out).mono ?_; rintro e w' ⟨rfl, rfl⟩))
  go_ret
  exact ⟨ret_i64 (by unfold nameOf; omega), rfl⟩

theorem specName_any (A : Option Addr) (n c : Nat) (zs : List Int) (B : Nat) (w : World) (hn : n ≤ 9223372036854775807) (hb : Byts w B A n zs) :
    Calls Try.prog 42 #[.slice A n c] w fun e w' => e = .returned (.int .i64 (nameOf zs)) ∧ w = w' := by
  have HB := Lib.hid hb
  have hlen : zs.length = n := hb.1
  have HL := Lib.hid hlen
  clear hb hlen
  go_enter Try.func42, Try.ntmps42
  go_wp2
  go_loop [3, 4, 5] (fun s t i => ∃ k : Nat, k ≤ n ∧ i = .int .i64 k ∧ s = .int .i64 (upSum (zs.take k)) ∧ t = .int .i64 (loSum (zs.take k))) (fun _ _ i => n - (intOf i).toNat)
  case atStart => exact ⟨0, Nat.zero_le _, rfl, rfl, rfl⟩
  case round =>
    obtain ⟨k, hk, rfl, rfl, rfl⟩ := hrel
    have hs := upSum_bd (zs.take k)
    have ht := loSum_bd (zs.take k)
    by_cases hlt : k < n
    · obtain ⟨b, off, rfl, _, hc⟩ := HB.out.at_ hlt
      have hr := HB.out.range k
      have HS := Lib.hid (upSum_step zs k (by have := HL.out; omega))
      have HT := Lib.hid (loSum_step zs k (by have := HL.out; omega))
      go_wp2
      go_round
      case rel => exact ⟨k + 1, by omega, by go_num, by rw [HS.out], by rw [HT.out]⟩
      case measure => simp [intOf]; omega
    · go_wp2
      go_ret
      exact ⟨ret_i64 (by rw [List.take_of_length_le (by have := HL.out; omega)]; rfl), rfl⟩
end Go.Proofs.Ytepaikljiddiaaa

-- NodeB: The bytes of a node, as the model writes them: a row of the call's own.
namespace Go.Proofs.Ytepaikljiddiaaa
set_option maxRecDepth 20000
open Go.RowKit

/-- the bytes that are written of a node, each number in one byte. -/
def kidBytes (k : Int × Int) : List Int := k.1 % 256 :: nameBytes k.2
def rawBytes (nd : MNode) : List Int :=
  [nd.kind % 256, (nd.path.length : Int) % 256] ++ nd.path.map (· % 256) ++ [(nd.val.size : Int) % 256] ++ sb nd.val ++ [(nd.kids.length : Int) % 256] ++ nd.kids.flatMap kidBytes
theorem nameBytes_len8 (x : Int) : (nameBytes x).length ≤ 8 := by
  unfold nameBytes
  split <;> simp [nb]
theorem kidBytes_len (ks : List (Int × Int)) : (ks.flatMap kidBytes).length ≤ ks.length * 9 := by
  induction ks with
  | nil => simp
  | cons k r ih =>
    have := nameBytes_len8 k.2
    simp [kidBytes] at ih ⊢
    omega
theorem Mine.app {w1 w2 : World} {base g n c g' c' m : Nat} {xs ys : List Int} (hm : Mine w1 base (some ⟨g, 0, none⟩) n c xs) (hys : ∀ z ∈ ys, 0 ≤ z ∧ z ≤ 255)
    (hown' : w2.ownsRow base 5 1 (.slice (some ⟨g', 0, none⟩) m c') m (xs.map (Value.int .u8) ++ ys.map (Value.int .u8))) : Mine w2 base (some ⟨g', 0, none⟩) m c' (xs ++ ys) := by
  refine ⟨by rw [List.map_append]; exact hown', fun z hz => ?_⟩
  rcases List.mem_append.1 hz with hz | hz
  · exact hm.2 z hz
  · exact hys z hz
/-- a text turned into bytes: a new row of just these. -/
theorem conv_str (s : ByteArray) (w : World) : ∃ cap w', (convert 9 22 (.string s)).run Try.prog w = .ok (.slice (some ⟨w.heap.size, 0, none⟩) s.size cap) w' ∧ Below w.heap.size w w' ∧ w'.heap.size = w.heap.size + 1 ∧
    ∀ j u, ((sb s).map (Value.int .u8))[j]? = some u → w'.cell? ((⟨w.heap.size, 0, none⟩ : Addr).add j) = some u := by
  refine ⟨_, _, run_bytes_of_string w _ _ _ s Try.underlying9 Try.underlying22 Try.underlying5, ?_, by simp, ?_⟩
  · exact (Below.refl w.heap.size w).drew.alloc (Nat.le_refl _) _
  · intro j u hj
    have hadd : (⟨w.heap.size, 0, none⟩ : Addr).add j = ⟨w.heap.size, j, none⟩ := by unfold Addr.add; split <;> simp_all
    rw [hadd]
    have hjl : j < (sb s).length := by
      rcases Nat.lt_or_ge j (sb s).length with h | h
      · exact h
      · rw [List.getElem?_eq_none (by simpa using h)] at hj; cases hj
    have hj2 : j < s.data.size := by rw [sb_len] at hjl; exact hjl
    have h := World.cell?_alloc_mark w.drew (bytesRow s (grownCap w s.size 0 5)) 5 ((bytesRow s (grownCap w s.size 0 5)).size, (bytesRow s (grownCap w s.size 0 5)).size + 1) j
    have h' : (w.drew.alloc (.cells (bytesRow s (grownCap w s.size 0 5)) 5 ((bytesRow s (grownCap w s.size 0 5)).size, (bytesRow s (grownCap w s.size 0 5)).size + 1))).cell? ⟨w.heap.size, j, none⟩ = _ := h
    rw [h', bytesRow_at s _ j hj2]
    have e := sb_at s j hj2
    simp [hjl] at hj e
    rw [← hj, e]
    rfl

theorem l3Bytes_any (v : Value) (nd : MNode) (B : Nat) (w : World) (hB : B ≤ w.heap.size) (hv : NodeIn w B v nd) :
    Calls Try.prog 78 #[v] w fun e w' => ∃ g n c, e = .returned (.slice (some ⟨g, 0, none⟩) n c) ∧ Mine w' w.heap.size (some ⟨g, 0, none⟩) n c (rawBytes nd) ∧ Below w.heap.size w w' := by
  obtain ⟨Ap, np, cp, Ak, nk, ck, rfl, hnp, hnk, hsz, hp, hk⟩ := hv
  obtain ⟨kind, path, kids, val⟩ := nd
  have HP := Lib.hid (hp.more hB)
  have HK := Lib.hid (hk.more hB)
  clear hp hk
  obtain ⟨w1, hw1⟩ : ∃ w1, w.alloc (.cells #[.int .i64 kind, .slice Ap np cp, .slice Ak nk ck, .string val] 46) = w1 := ⟨_, rfl⟩
  have x1 : Box w1 w.heap.size _ _ := hw1 ▸ heap_alloc_new _ _
  have s1 : w1.heap.size = w.heap.size + 1 := hw1 ▸ by simp
  have b1 : Below w.heap.size w w1 := hw1 ▸ (Below.refl _ _).alloc (Nat.le_refl _) _
  have X1 := Lib.hid x1
  have B1 := Lib.hid b1
  have HW := Lib.hid hw1
  clear x1 b1 hw1
  go_enter Try.func78, Try.ntmps78
  go_wp2
  rw [HW.out]
  obtain ⟨i0, hi, hz0, hz1, hz2⟩ := info_parts Try.info5
  have HI := Lib.hid hi
  have HZ0 := Lib.hid hz0
  have HZ1 := Lib.hid hz1
  have HZ2 := Lib.hid hz2
  clear hi hz0 hz1 hz2
  have m0 := (Mine.of_alloc w1 (w.heap.size + 1) [kind % 256, (np : Int) % 256] 2 (by omega) rfl (by unfold maxLen; omega) (by intro z hz; simp at hz; omega))
  rw [s1] at m0
  have M0 := Lib.hid m0
  clear m0
  have LP : Hid (path.length = np) := HP.out.1
  have LK : Hid (kids.length = nk) := HK.out.1
  go_loopw [3, 4] (fun b i wr => ∃ k g n c : Nat, k ≤ np ∧ i = .int .i64 k ∧ b = .slice (some ⟨g, 0, none⟩) n c ∧ Mine wr (w.heap.size + 1) (some ⟨g, 0, none⟩) n c ([kind % 256, (np : Int) % 256] ++ (path.take k).map (· % 256)) ∧ Below (w.heap.size + 1) w1 wr) (fun _ i _ => np - (intOf i).toNat)
  case atStart => exact ⟨0, _, 2, 2, Nat.zero_le _, rfl, rfl, M0.out, (Below.refl _ _).alloc (by omega) _⟩
  case round =>
    obtain ⟨k, g, n, c, hk, rfl, rfl, hm, hbr⟩ := hrel
    have hlen := hm.len
    have XR := Lib.hid (X1.out.below hbr (by omega))
    have BR := Lib.hid hbr
    have BW := Lib.hid (B1.out.trans (hbr.mono (by omega)))
    have MR := Lib.hid hm
    clear hm hbr
    have sr := BR.out.size
    have q1 := XR.out.cell 1
    simp at q1
    by_cases hlt : k < np
    · have hn : n = 2 + k := by
        have := LP.out
        simp at hlen; omega
      obtain ⟨b, off, rfl, hbB, hc⟩ := (HP.out.below BW.out).at_ hlt
      have hst := map_take_step (· % 256) path k (by rw [LP.out]; exact hlt)
      generalize path[k]?.getD 0 = z at hc hst
      have HST := Lib.hid hst
      clear hst
      go_wp2_with (at_builtin; refine wpList_append_lies _ rfl _ _ 22 rfl (w.heap.size + 1) 5 i0 (.int .u8 0) 1 1 Try.underlying22 HI.out HZ0.out HZ1.out HZ2.out rfl (by decide) _ _ _ rfl (MR.out.1.alloc _) ⟨wr.heap.size, 0, none⟩ 1 1 ([z % 256].map (Value.int .u8)) rfl ?a0 ?a1 ?a2 (by omega) ?a3 ?a4 ?a5 _ rfl ?_)
      case a0 => first | rfl | (simp; done) | simp [sb_len]
      case a1 =>
        intro j u hj
        match j, hj with
        | 0, hj => simp at hj; subst hj; simp [Addr.add]
      case a2 => intro u hu; obtain ⟨z, _, rfl⟩ := List.mem_map.1 hu; rfl
      case a3 => unfold maxLen; omega
      case a4 => omega
      case a5 => simp; omega
      intro g2 c2 w2 hown hgrow _ _
      have hm2 := MR.out.app (ys := [z % 256]) (by intro y hy; simp at hy; omega) (by simpa using hown)
      have hb2 : Below (w.heap.size + 1) w1 w2 := (BR.out.alloc (by omega) _).grown hgrow (by simp; omega) (fun g hg => (MR.out.1.lt g hg).1)
      rw [List.append_assoc, ← HST.out] at hm2
      have M2 := Lib.hid hm2
      have B2 := Lib.hid hb2
      clear hm2 hb2 hown hgrow
      go_wp2
      go_roundw
      case rel => exact ⟨k + 1, _, _, _, by omega, by go_num, rfl, M2.out, B2.out⟩
      case measure => simp [intOf]; omega
    · have hpt : path.take k = path := List.take_of_length_le (by rw [LP.out]; omega)
      rw [hpt] at MR
      have hn : n = 2 + np := by
        have h0 := MR.out.len
        have := LP.out
        simp at h0; omega
      have q3 := XR.out.cell 3
      simp at q3
      go_wp2_with (at_builtin; refine wpList_append_lies _ rfl _ _ 22 rfl (w.heap.size + 1) 5 i0 (.int .u8 0) 1 1 Try.underlying22 HI.out HZ0.out HZ1.out HZ2.out rfl (by decide) _ _ _ rfl (MR.out.1.alloc _) ⟨wr.heap.size, 0, none⟩ 1 1 ([(val.size : Int) % 256].map (Value.int .u8)) rfl ?d0 ?d1 ?d2 (by omega) ?d3 ?d4 ?d5 _ rfl ?_)
      case d0 => first | rfl | (simp; done) | simp [sb_len]
      case d1 =>
        intro j u hj
        match j, hj with
        | 0, hj => simp at hj; subst hj; simp [Addr.add]
      case d2 => intro u hu; obtain ⟨z, _, rfl⟩ := List.mem_map.1 hu; rfl
      case d3 => unfold maxLen; omega
      case d4 => omega
      case d5 => simp; omega
      intro g5 c5 w5 hown5 hgrow5 _ _
      have hm5 := MR.out.app (ys := [(val.size : Int) % 256]) (by intro y hy; simp at hy; omega) (by simpa using hown5)
      have hb5 : Below (w.heap.size + 1) w1 w5 := (BR.out.alloc (by omega) _).grown hgrow5 (by simp; omega) (fun g hg => (MR.out.1.lt g hg).1)
      have M5 := Lib.hid hm5
      have B5 := Lib.hid hb5
      clear hm5 hb5 hown5 hgrow5 q1 q3
      have s5 := B5.out.size
      have X5 := Lib.hid (X1.out.below B5.out (by omega))
      have q3 := X5.out.cell 3
      simp at q3
      obtain ⟨cap6, w6, hconv, b6, s6, hcell6⟩ := conv_str val w5
      have C6 := Lib.hid hcell6
      have M6 := Lib.hid (M5.out.below b6)
      have B6 := Lib.hid (B5.out.trans (b6.mono (by omega)))
      clear hcell6 b6
      go_wp2_with (at_builtin; refine wpList_append_own _ rfl _ _ 22 rfl (w.heap.size + 1) 5 i0 (.int .u8 0) 1 1 Try.underlying22 HI.out HZ0.out HZ1.out HZ2.out rfl (by decide) _ _ _ rfl M6.out.1 ⟨w5.heap.size, 0, none⟩ val.size _ ((sb val).map (Value.int .u8)) rfl ?e0 ?e1 ?e2 ?e3 ?e4 ?e5 ?_)
      case e0 => rw [List.length_map, Nat.mul_one]; first | rfl | exact sb_len _ | exact M8.out.len
      case e1 => exact C6.out
      case e2 => intro u hu; obtain ⟨z, _, rfl⟩ := List.mem_map.1 hu; rfl
      case e3 => unfold maxLen; omega
      case e4 => omega
      case e5 => omega
      intro v7 w7 hown7 hgrow7 hnil7
      clear hconv
      have hv : ∃ g c, v7 = .slice (some ⟨g, 0, none⟩) (2 + np + 1 + val.size) c := by
        rcases hown7.2 with ⟨e, _⟩ | ⟨g, cap, cur, e, _⟩
        · exact absurd e hnil7
        · exact ⟨g, cap, e⟩
      obtain ⟨g7, c7, rfl⟩ := hv
      have hm7 := M6.out.app (ys := sb val) (sb_bd val) (by simpa using hown7)
      have hb7 : Below (w.heap.size + 1) w1 w7 := B6.out.grown hgrow7 (by omega) (fun g hg => (M6.out.1.lt g hg).1)
      have M7 := Lib.hid hm7
      have B7 := Lib.hid hb7
      clear hm7 hb7 hown7 hgrow7 hnil7 q3
      have s7 := B7.out.size
      have X7 := Lib.hid (X1.out.below B7.out (by omega))
      have q2 := X7.out.cell 2
      simp at q2
      go_wp2_with (at_builtin; refine wpList_append_lies _ rfl _ _ 22 rfl (w.heap.size + 1) 5 i0 (.int .u8 0) 1 1 Try.underlying22 HI.out HZ0.out HZ1.out HZ2.out rfl (by decide) _ _ _ rfl (M7.out.1.alloc _) ⟨w7.heap.size, 0, none⟩ 1 1 ([(nk : Int) % 256].map (Value.int .u8)) rfl ?f0 ?f1 ?f2 (by omega) ?f3 ?f4 ?f5 _ rfl ?_)
      case f0 => first | rfl | (simp; done) | simp [sb_len]
      case f1 =>
        intro j u hj
        match j, hj with
        | 0, hj => simp at hj; subst hj; simp [Addr.add]
      case f2 => intro u hu; obtain ⟨z, _, rfl⟩ := List.mem_map.1 hu; rfl
      case f3 => unfold maxLen; omega
      case f4 => omega
      case f5 => simp; omega
      intro g8 c8 w8 hown8 hgrow8 _ _
      have hm8 := M7.out.app (ys := [(nk : Int) % 256]) (by intro y hy; simp at hy; omega) (by simpa using hown8)
      have hb8 : Below (w.heap.size + 1) w1 w8 := (B7.out.alloc (by omega) _).grown hgrow8 (by simp; omega) (fun g hg => (M7.out.1.lt g hg).1)
      generalize hpre : [kind % 256, (np : Int) % 256] ++ path.map (· % 256) ++ [(val.size : Int) % 256] ++ sb val ++ [(nk : Int) % 256] = pre at hm8
      have hplen : pre.length = 2 + np + 1 + val.size + 1 := hm8.len
      have HPRE := Lib.hid hpre
      have M8 := Lib.hid hm8
      have B8 := Lib.hid hb8
      clear hm8 hb8 hown8 hgrow8 q2 hpre
      go_wp2
      go_loopw [3, 5] (fun b i wr => ∃ k g n c : Nat, k ≤ nk ∧ i = .int .i64 k ∧ b = .slice (some ⟨g, 0, none⟩) n c ∧ Mine wr (w.heap.size + 1) (some ⟨g, 0, none⟩) n c (pre ++ (kids.take k).flatMap kidBytes) ∧ Below (w.heap.size + 1) w1 wr) (fun _ i _ => nk - (intOf i).toNat)
      case atStart => exact ⟨0, _, _, _, Nat.zero_le _, rfl, rfl, by simpa using M8.out, B8.out⟩
      case round =>
        obtain ⟨k, g, n, c, hk, rfl, rfl, hm, hbr⟩ := hrel
        have hlen := hm.len
        have XR := Lib.hid (X1.out.below hbr (by omega))
        have BR := Lib.hid hbr
        have BW := Lib.hid (B1.out.trans (hbr.mono (by omega)))
        have MR := Lib.hid hm
        clear hm hbr
        have sr := BR.out.size
        have q2 := XR.out.cell 2
        simp at q2
        have hn : n ≤ 20000000 := by
          have h1 := kidBytes_len (kids.take k)
          have h2 : (kids.take k).length ≤ nk := by rw [List.length_take, LK.out]; omega
          rw [List.length_append] at hlen
          omega
        clear hlen
        by_cases hlt : k < nk
        · have hst : (kids.take (k + 1)).flatMap kidBytes = (kids.take k).flatMap kidBytes ++ kidBytes (kids[k]?.getD (0, 0)) := by
            rw [List.take_succ_eq_append_getElem (by rw [LK.out]; exact hlt), List.flatMap_append, List.getElem?_eq_getElem (by rw [LK.out]; exact hlt)]
            simp
          obtain ⟨b, off, rfl, hbB, h0, h1⟩ := (HK.out.below BW.out).at_ hlt
          generalize hx : kids[k]?.getD (0, 0) = x at h0 h1 hst
          have HX := Lib.hid hx
          clear hx
          have HST := Lib.hid hst
          clear hst
          go_wp2_with (at_builtin; refine wpList_append_lies _ rfl _ _ 22 rfl (w.heap.size + 1) 5 i0 (.int .u8 0) 1 1 Try.underlying22 HI.out HZ0.out HZ1.out HZ2.out rfl (by decide) _ _ _ rfl (MR.out.1.alloc _) ⟨wr.heap.size, 0, none⟩ 1 1 ([x.1 % 256].map (Value.int .u8)) rfl ?g0 ?g1 ?g2 (by omega) ?g3 ?g4 ?g5 _ rfl ?_)
          case g0 => first | rfl | (simp; done) | simp [sb_len]
          case g1 =>
            intro j u hj
            match j, hj with
            | 0, hj => simp at hj; subst hj; simp [Addr.add]
          case g2 => intro u hu; obtain ⟨z, _, rfl⟩ := List.mem_map.1 hu; rfl
          case g3 => unfold maxLen; omega
          case g4 => omega
          case g5 => simp; omega
          intro g2 c2 w2 hown hgrow _ _
          have hm2 := MR.out.app (ys := [x.1 % 256]) (by intro y hy; simp at hy; omega) (by simpa using hown)
          have hb2 : Below (w.heap.size + 1) w1 w2 := (BR.out.alloc (by omega) _).grown hgrow (by simp; omega) (fun g hg => (MR.out.1.lt g hg).1)
          have M2 := Lib.hid hm2
          have B2 := Lib.hid hb2
          clear hm2 hb2 hown hgrow q2 h0 h1
          have s2 := B2.out.size
          have XR := Lib.hid (X1.out.below B2.out (by omega))
          obtain ⟨b', off', e', hbB', h0, h1⟩ := (HK.out.below (B1.out.trans (B2.out.mono (by omega)))).at_ hlt
          cases e'
          rw [HX.out] at h0 h1
          have q2 := XR.out.cell 2
          simp at q2
          go_wp2_with fail
          refine (specBytes_some x.2 _).mono ?_
          rintro e w3 ⟨g3, n3, c3, rfl, m3, b3⟩
          have hn3 : n3 ≤ 8 := by have := nameBytes_len8 x.2; have := m3.len; omega
          have M3 := Lib.hid m3
          have M2 := Lib.hid (M2.out.below b3)
          have B3 := Lib.hid (B2.out.trans (b3.mono (by omega)))
          clear m3 b3 q2 h0 h1
          have s3 := B3.out.size
          go_wp2_with (at_builtin; refine wpList_append_own _ rfl _ _ 22 rfl (w.heap.size + 1) 5 i0 (.int .u8 0) 1 1 Try.underlying22 HI.out HZ0.out HZ1.out HZ2.out rfl (by decide) _ _ _ rfl M2.out.1 ⟨g3, 0, none⟩ n3 _ ((nameBytes x.2).map (Value.int .u8)) rfl ?h0 ?h1 ?h2 ?h3 ?h4 ?h5 ?_)
          case h0 => rw [List.length_map, Nat.mul_one]; first | rfl | exact sb_len _ | exact M3.out.len
          case h1 => exact World.ownsRow.cells M3.out.1 rfl
          case h2 => intro u hu; obtain ⟨z, _, rfl⟩ := List.mem_map.1 hu; rfl
          case h3 => unfold maxLen; omega
          case h4 => omega
          case h5 => omega
          intro v4 w4 hown4 hgrow4 hnil4
          have hv : ∃ g c, v4 = .slice (some ⟨g, 0, none⟩) (n + 1 + n3) c := by
            rcases hown4.2 with ⟨e, _⟩ | ⟨g, cap, cur, e, _⟩
            · exact absurd e hnil4
            · exact ⟨g, cap, e⟩
          obtain ⟨g4, c4, rfl⟩ := hv
          have hm4 := M2.out.app (ys := nameBytes x.2) M3.out.2 (by simpa using hown4)
          have hb4 : Below (w.heap.size + 1) w1 w4 := B3.out.grown hgrow4 (by omega) (fun g hg => (M2.out.1.lt g hg).1)
          have he : pre ++ (kids.take k).flatMap kidBytes ++ [x.1 % 256] ++ nameBytes x.2 = pre ++ (kids.take (k + 1)).flatMap kidBytes := by
            rw [HST.out]; simp [kidBytes]
          rw [he] at hm4
          have M4 := Lib.hid hm4
          have B4 := Lib.hid hb4
          clear hm4 hb4 hown4 hgrow4 hnil4 he
          go_wp2
          go_roundw
          case rel => exact ⟨k + 1, _, _, _, by omega, by go_num, rfl, M4.out, B4.out⟩
          case measure => simp [intOf]; omega
        · have hkt : kids.take k = kids := List.take_of_length_le (by rw [LK.out]; omega)
          rw [hkt] at MR
          go_wp2
          go_ret
          refine ⟨g, n, c, rfl, ?_, BW.out⟩
          have hr : rawBytes ⟨kind, path, kids, val⟩ = pre ++ kids.flatMap kidBytes := by
            unfold rawBytes
            rw [← HPRE.out]
            simp only [LP.out, LK.out]
          rw [hr]
          exact MR.out.base (by omega)

/-- the bytes of a node; none where it is no right node. -/
def nodeBytes (nd : MNode) : List Int := if nodeOk nd then rawBytes nd else []
theorem nodeBytes_len (nd : MNode) : (nodeBytes nd).length ≤ 4 + nd.path.length + nd.val.size + nd.kids.length * 9 := by
  unfold nodeBytes
  split
  · unfold rawBytes
    have h1 := kidBytes_len nd.kids
    have h2 := sb_len nd.val
    simp only [List.length_append, List.length_map, List.length_cons, List.length_nil]
    omega
  · simp
end Go.Proofs.Ytepaikljiddiaaa

-- NameM: Plain facts on names: a name is read as it was written, what is read is written as it was, and one other byte makes another name.
namespace Go.Proofs.Ytepaikljiddiaaa
set_option maxRecDepth 20000
open Go.RowKit

theorem nameOf_bd (zs : List Int) : 1 ≤ nameOf zs ∧ nameOf zs ≤ 9223372036854775807 := by
  have h1 := upSum_bd zs
  have h2 := loSum_bd zs
  unfold nameOf
  omega
theorem list8 (zs : List Int) (h : zs.length = 8) : ∃ a b c d e f g i, zs = [a, b, c, d, e, f, g, i] := by
  match zs, h with
  | [a, b, c, d, e, f, g, i], _ => exact ⟨a, b, c, d, e, f, g, i, rfl⟩
theorem nb8 (x : Int) : nb x 8 = [x % 256, x / 256 % 256, x / 65536 % 256, x / 16777216 % 256, x / 4294967296 % 256, x / 1099511627776 % 256, x / 281474976710656 % 256, x / 72057594037927936 % 256] := by
  simp [nb, List.range, List.range.loop]
theorem back_of_bytes (x : Int) (h : 0 ≤ x ∧ x ≤ 9223372036854775807) : leVal (nameBytes x) = x ∧ (nameBytes x).length = 8 ∧ (nameBytes x)[7]?.getD 0 ≤ (127 : Int) := by
  rw [nameBytes_yes x (by omega), nb8]
  refine ⟨?_, rfl, ?_⟩
  · simp only [leVal]
    omega
  · simp
    omega
theorem bytes_of_back (zs : List Int) (h : ∀ z ∈ zs, 0 ≤ z ∧ z ≤ 255) (hl : zs.length = 8) (h7 : zs[7]?.getD 0 ≤ (127 : Int)) : nameBytes (leVal zs) = zs := by
  have hp := (leW_yes zs h hl h7).2.1
  rw [nameBytes_yes _ (by omega), nb8]
  obtain ⟨z0, z1, z2, z3, z4, z5, z6, z7, rfl⟩ := list8 zs hl
  have h0 := h z0 (by simp)
  have h1 := h z1 (by simp)
  have h2 := h z2 (by simp)
  have h3 := h z3 (by simp)
  have h4 := h z4 (by simp)
  have h5 := h z5 (by simp)
  have h6 := h z6 (by simp)
  have h7 := h z7 (by simp)
  clear hp h
  simp only [leVal, List.cons.injEq, and_true]
  refine ⟨?_, ?_, ?_, ?_, ?_, ?_, ?_, ?_⟩ <;> omega

/-! one other byte, another name -/
theorem upStep_inj (s t z : Int) (hs : 0 ≤ s ∧ s < 2147483647) (ht : 0 ≤ t ∧ t < 2147483647) (h : upStep s z = upStep t z) : s = t := by
  unfold upStep at h
  omega
theorem upFold_inj (r : List Int) : ∀ (s t : Int), 0 ≤ s ∧ s < 2147483647 → 0 ≤ t ∧ t < 2147483647 → r.foldl upStep s = r.foldl upStep t → s = t := by
  induction r with
  | nil => intro s t _ _ h; exact h
  | cons z r ih =>
    intro s t hs ht h
    refine upStep_inj s t z hs ht (ih _ _ ?_ ?_ h)
    · unfold upStep; omega
    · unfold upStep; omega
theorem upStep_ne (s z z' : Int) (hz : 0 ≤ z ∧ z ≤ 255) (hz' : 0 ≤ z' ∧ z' ≤ 255) (h : upStep s z = upStep s z') : z = z' := by
  unfold upStep at h
  omega
theorem upSum_set (zs : List Int) (h : ∀ z ∈ zs, 0 ≤ z ∧ z ≤ 255) (k : Nat) (hk : k < zs.length) (z' : Int) (hz' : 0 ≤ z' ∧ z' ≤ 255) (hne : z' ≠ zs[k]?.getD 0) : upSum (zs.set k z') ≠ upSum zs := by
  intro e
  have e1 : zs = zs.take k ++ zs[k] :: zs.drop (k + 1) := by rw [← List.drop_eq_getElem_cons hk, List.take_append_drop]
  have e2 : zs.set k z' = zs.take k ++ z' :: zs.drop (k + 1) := by rw [List.set_eq_take_append_cons_drop, if_pos hk]
  rw [e2] at e
  have e3 : upSum zs = upSum (zs.take k ++ zs[k] :: zs.drop (k + 1)) := congrArg upSum e1
  rw [e3] at e
  unfold upSum at e
  rw [List.foldl_append, List.foldl_append, List.foldl_cons, List.foldl_cons] at e
  have hs := fold_bd upStep 2147483647 (fun s c => by unfold upStep; omega) (zs.take k) 7 (by omega)
  have := upFold_inj _ _ _ (by unfold upStep; omega) (by unfold upStep; omega) e
  have hz := h zs[k] (List.getElem_mem hk)
  apply hne
  rw [List.getElem?_eq_getElem hk]
  exact upStep_ne _ _ _ hz' hz this
theorem nameOf_set (zs : List Int) (h : ∀ z ∈ zs, 0 ≤ z ∧ z ≤ 255) (k : Nat) (hk : k < zs.length) : nameOf (zs.set k ((zs[k]?.getD 0 + 1) % 256)) ≠ nameOf zs := by
  have hz := mem_at zs h k
  have hu := upSum_set zs h k hk ((zs[k]?.getD 0 + 1) % 256) (by omega) (by omega)
  have a1 := loSum_bd zs
  have a2 := loSum_bd (zs.set k ((zs[k]?.getD 0 + 1) % 256))
  unfold nameOf
  omega
end Go.Proofs.Ytepaikljiddiaaa

-- NodeI: Plain facts on the bytes of nodes: two right nodes that write the same bytes are one; what a reading of bytes says.
namespace Go.Proofs.Ytepaikljiddiaaa
set_option maxRecDepth 20000
open Go.RowKit

/-- the names of its kids are numbers of 64 bits. -/
def NodeWf (nd : MNode) : Prop := ∀ k ∈ nd.kids, k.2 ≤ 9223372036854775807
theorem map_mod (ps : List Int) (h : ∀ z ∈ ps, 0 ≤ z ∧ z ≤ 15) : ps.map (· % 256) = ps := by
  conv => rhs; rw [← List.map_id ps]
  apply List.map_congr_left
  intro z hz
  have := h z hz
  simp; omega
theorem nodeOk_parts (nd : MNode) (h : nodeOk nd = true) : isPath nd.path = true ∧ kidsOk nd.kids = true ∧ (hasVal nd = true → valOk (sb nd.val) = true) ∧ kindOk nd = true := by
  unfold nodeOk at h
  simp only [Bool.and_eq_true, Bool.or_eq_true, Bool.not_eq_true'] at h
  refine ⟨h.1.1.1, h.1.1.2, fun hv => ?_, h.2⟩
  rcases h.1.2 with h | h
  · rw [hv] at h; cases h
  · exact h
theorem nodeOk_kind (nd : MNode) (h : nodeOk nd = true) : 1 ≤ nd.kind ∧ nd.kind ≤ 3 := by
  have hk := (nodeOk_parts nd h).2.2.2
  unfold kindOk at hk
  split at hk
  · omega
  · split at hk
    · omega
    · split at hk
      · omega
      · cases hk
theorem nodeOk_val (nd : MNode) (h : nodeOk nd = true) : nd.val.size ≤ 12 := by
  by_cases hv : hasVal nd = true
  · have h1 := (nodeOk_parts nd h).2.2.1 hv
    unfold valOk at h1
    simp at h1
    have := sb_len nd.val
    omega
  · have h1 : nd.val.toList = [] := by
      unfold hasVal at hv
      simpa using hv
    rw [empty_str nd.val h1]; decide
theorem kidsOk_at (ks : List (Int × Int)) (h : kidsOk ks = true) (i : Nat) (hi : i < ks.length) : KidAt ks i := by
  unfold kidsOk at h
  exact of_decide_eq_true h i hi
theorem kidsOk_ge (ks : List (Int × Int)) (h : kidsOk ks = true) (i : Nat) (hi : i < ks.length) : (i : Int) ≤ (ks[i]?.getD (0, 0)).1 := by
  induction i with
  | zero => exact (kidsOk_at ks h 0 hi).1.1
  | succ i ih =>
    have h1 := ih (by omega)
    have h2 := (kidsOk_at ks h (i + 1) hi).2.2 (by omega)
    rw [Nat.add_sub_cancel] at h2
    omega
theorem kidsOk_len (ks : List (Int × Int)) (h : kidsOk ks = true) : ks.length ≤ 16 := by
  rcases Nat.lt_or_ge 16 ks.length with hl | hl
  · have h1 := kidsOk_ge ks h 16 hl
    have h2 := (kidsOk_at ks h 16 hl).1.2
    omega
  · exact hl
theorem kidsOk_mem (ks : List (Int × Int)) (h : kidsOk ks = true) (k : Int × Int) (hk : k ∈ ks) : (0 ≤ k.1 ∧ k.1 ≤ 15) ∧ 1 ≤ k.2 := by
  obtain ⟨i, hi, rfl⟩ := List.getElem_of_mem hk
  have := kidsOk_at ks h i hi
  unfold KidAt at this
  rw [List.getElem?_eq_getElem hi] at this
  exact ⟨this.1, this.2.1⟩
theorem nb_inj (x y : Int) (hx : 0 ≤ x ∧ x ≤ 9223372036854775807) (hy : 0 ≤ y ∧ y ≤ 9223372036854775807) (h : nameBytes x = nameBytes y) : x = y := by
  rw [nameBytes_yes x (by omega), nameBytes_yes y (by omega)] at h
  have e : ∀ k, k < 8 → x / 2 ^ (8 * k) % 256 = y / 2 ^ (8 * k) % 256 := by
    intro k hk
    rw [← nb_at x 8 k hk, ← nb_at y 8 k hk, h]
  have e0 := e 0 (by omega); have e1 := e 1 (by omega); have e2 := e 2 (by omega); have e3 := e 3 (by omega)
  have e4 := e 4 (by omega); have e5 := e 5 (by omega); have e6 := e 6 (by omega); have e7 := e 7 (by omega)
  simp at e0 e1 e2 e3 e4 e5 e6 e7
  omega
theorem kidBytes_inj (a b : List (Int × Int)) (hl : a.length = b.length) (ha : ∀ k ∈ a, ((0 ≤ k.1 ∧ k.1 ≤ 15) ∧ 1 ≤ k.2) ∧ k.2 ≤ 9223372036854775807) (hb : ∀ k ∈ b, ((0 ≤ k.1 ∧ k.1 ≤ 15) ∧ 1 ≤ k.2) ∧ k.2 ≤ 9223372036854775807) (h : a.flatMap kidBytes = b.flatMap kidBytes) : a = b := by
  induction a generalizing b with
  | nil => cases b with
    | nil => rfl
    | cons y q => simp at hl
  | cons x r ih =>
    cases b with
    | nil => simp at hl
    | cons y q =>
      have hx := ha x (by simp)
      have hy := hb y (by simp)
      rw [List.flatMap_cons, List.flatMap_cons] at h
      have lx : (kidBytes x).length = 9 := by unfold kidBytes; rw [nameBytes_yes x.2 (by omega)]; simp [nb]
      have ly : (kidBytes y).length = 9 := by unfold kidBytes; rw [nameBytes_yes y.2 (by omega)]; simp [nb]
      obtain ⟨h1, h2⟩ := List.append_inj h (by omega)
      have h3 := ih q (by simpa using hl) (fun k hk => ha k (by simp [hk])) (fun k hk => hb k (by simp [hk])) h2
      unfold kidBytes at h1
      injection h1 with h4 h5
      have h6 := nb_inj x.2 y.2 (by omega) (by omega) h5
      have h7 : x = y := by
        obtain ⟨x1, x2⟩ := x
        obtain ⟨y1, y2⟩ := y
        simp at h6 h4 hx hy ⊢
        omega
      rw [h7, h3]
theorem str_inj (s t : ByteArray) (h : sb s = sb t) : s = t := by rw [← str_sb s, h, str_sb t]
/-- two right nodes that write the same bytes are one. -/
theorem nodeBytes_inj (a b : MNode) (ha : nodeOk a = true) (hb : nodeOk b = true) (wa : NodeWf a) (wb : NodeWf b) (h : nodeBytes a = nodeBytes b) : a = b := by
  unfold nodeBytes at h
  rw [if_pos ha, if_pos hb] at h
  have pa := (isPath_iff _).1 (nodeOk_parts a ha).1
  have pb := (isPath_iff _).1 (nodeOk_parts b hb).1
  have ka := nodeOk_kind a ha; have kb := nodeOk_kind b hb
  have va := nodeOk_val a ha; have vb := nodeOk_val b hb
  have ca := (nodeOk_parts a ha).2.1; have cb := (nodeOk_parts b hb).2.1
  have na := kidsOk_len _ ca; have nb' := kidsOk_len _ cb
  unfold rawBytes at h
  rw [map_mod a.path pa.2, map_mod b.path pb.2] at h
  simp only [List.append_assoc, List.cons_append, List.nil_append] at h
  injection h with h1 h
  injection h with h2 h
  obtain ⟨h3, h⟩ := List.append_inj h (by omega)
  injection h with h4 h
  obtain ⟨h5, h⟩ := List.append_inj h (by rw [sb_len, sb_len]; omega)
  injection h with h6 h7
  have h8 := kidBytes_inj a.kids b.kids (by omega) (fun k hk => ⟨kidsOk_mem _ ca k hk, wa k hk⟩) (fun k hk => ⟨kidsOk_mem _ cb k hk, wb k hk⟩) h7
  have h9 := str_inj _ _ h5
  obtain ⟨ak, ap, ai, av⟩ := a
  obtain ⟨bk, bp, bi, bv⟩ := b
  simp at h1 h3 h8 h9 ka kb ⊢
  exact ⟨by omega, h3, h8, h9⟩

/-- the node that is none. -/
def node0 : MNode := ⟨0, [], [], { data := #[] }⟩
/-- what the reading of some bytes says: a right node whose bytes they are; or none, and there is none. -/
def NodeRead (bs : List Int) (nd : MNode) (b : Bool) : Prop :=
  (b = true ∧ nodeOk nd = true ∧ NodeWf nd ∧ nodeBytes nd = bs) ∨ (b = false ∧ nd = node0 ∧ ∀ n : MNode, nodeOk n = true → NodeWf n → nodeBytes n ≠ bs)
theorem NodeRead.one {bs : List Int} {nd nd' : MNode} {b b' : Bool} (h : NodeRead bs nd b) (h' : NodeRead bs nd' b') : nd = nd' ∧ b = b' := by
  rcases h with ⟨rfl, h1, h2, h3⟩ | ⟨rfl, rfl, h1⟩ <;> rcases h' with ⟨rfl, k1, k2, k3⟩ | ⟨rfl, rfl, k1⟩
  · exact ⟨nodeBytes_inj _ _ h1 k1 h2 k2 (h3.trans k3.symm), rfl⟩
  · exact absurd h3 (k1 _ h1 h2)
  · exact absurd k3 (h1 _ k1 k2)
  · exact ⟨rfl, rfl⟩
end Go.Proofs.Ytepaikljiddiaaa

-- CellM: Plain facts on lists of cells: right ones; where a name stands. No statement of the program is proved here.
namespace Go.Proofs.Ytepaikljiddiaaa
set_option maxRecDepth 20000
set_option linter.unusedVariables false
set_option linter.unusedSimpArgs false
open Go.RowKit

/-- bytes of a node. -/
def IsNode (bs : List Int) : Prop := ∃ nd, NodeRead bs nd true
theorem IsNode.of {bs : List Int} {nd : MNode} {b : Bool} (h : NodeRead bs nd b) : b = true ↔ IsNode bs :=
  ⟨fun e => ⟨nd, e ▸ h⟩, fun ⟨_, h'⟩ => (h.one h').2⟩
def CellAt (cs : List (Int × List Int)) (i : Nat) : Prop := IsNode (cel cs i).2 ∧ nameOf (cel cs i).2 = (cel cs i).1 ∧ (0 < i → (cel cs (i - 1)).1 < (cel cs i).1)
/-- cells as the document has them. -/
def Right (cs : List (Int × List Int)) : Prop := cs.length ≤ 80 ∧ ∀ i, i < cs.length → CellAt cs i
theorem Right.rise {cs : List (Int × List Int)} (h : Right cs) (i j : Nat) (hij : i < j) (hj : j < cs.length) : (cel cs i).1 < (cel cs j).1 := by
  induction j with
  | zero => omega
  | succ j ih =>
    have h1 := (h.2 (j + 1) hj).2.2 (by omega)
    rw [Nat.add_sub_cancel] at h1
    by_cases e : i = j
    · subst e; exact h1
    · have := ih (by omega) (by omega); omega
theorem Right.pos {cs : List (Int × List Int)} (h : Right cs) (i : Nat) (hi : i < cs.length) : 1 ≤ (cel cs i).1 ∧ (cel cs i).1 ≤ 9223372036854775807 := by
  have h1 := (h.2 i hi).2.1
  have h2 := nameOf_bd (cel cs i).2
  omega
/-- where a name stands first; behind them where it does not. -/
def findC (cs : List (Int × List Int)) (m : Int) : Nat := cs.findIdx fun c => c.1 == m
theorem findC_le (cs : List (Int × List Int)) (m : Int) : findC cs m ≤ cs.length := List.findIdx_le_length
theorem findC_is (cs : List (Int × List Int)) (m : Int) (h : findC cs m < cs.length) : (cel cs (findC cs m)).1 = m := by
  have h1 := List.findIdx_getElem (w := h)
  have h1 : cs[List.findIdx (fun c => c.1 == m) cs].1 = m := by simpa using h1
  unfold cel
  rw [List.getElem?_eq_getElem h]
  exact h1
theorem findC_not (cs : List (Int × List Int)) (m : Int) (i : Nat) (h : i < findC cs m) : (cel cs i).1 ≠ m := by
  have hl := findC_le cs m
  have h1 := List.not_of_lt_findIdx (show i < cs.findIdx fun c => c.1 == m from h)
  unfold cel
  rw [List.getElem?_eq_getElem (by omega)]
  simpa using h1
theorem findC_at (cs : List (Int × List Int)) (m : Int) (k : Nat) (hk : k < cs.length) (hm : (cel cs k).1 = m) (h : ∀ j, j < k → (cel cs j).1 ≠ m) : findC cs m = k := by
  rcases Nat.lt_trichotomy (findC cs m) k with h1 | h1 | h1
  · exact absurd (findC_is cs m (by omega)) (h _ h1)
  · exact h1
  · exact absurd hm (findC_not cs m k h1)
theorem findC_none (cs : List (Int × List Int)) (m : Int) (h : ∀ j, j < cs.length → (cel cs j).1 ≠ m) : findC cs m = cs.length := by
  have := findC_le cs m
  rcases Nat.lt_or_ge (findC cs m) cs.length with h1 | h1
  · exact absurd (findC_is cs m h1) (h _ h1)
  · omega
theorem Right.find {cs : List (Int × List Int)} (h : Right cs) (k : Nat) (hk : k < cs.length) : findC cs (cel cs k).1 = k :=
  findC_at cs _ k hk rfl fun j hj => by have := h.rise j k hj hk; omega
/-- what stands under a name: its node, and true; the zero node and false where there is none. -/
def HitIs (cs : List (Int × List Int)) (m : Int) (nd : MNode) (b : Bool) : Prop :=
  (findC cs m < cs.length ∧ NodeRead (cel cs (findC cs m)).2 nd b) ∨ (¬ findC cs m < cs.length ∧ nd = node0 ∧ b = false)
theorem HitIs.one {cs : List (Int × List Int)} {m : Int} {nd nd' : MNode} {b b' : Bool} (h : HitIs cs m nd b) (h' : HitIs cs m nd' b') : nd = nd' ∧ b = b' := by
  rcases h with ⟨h1, h2⟩ | ⟨h1, rfl, rfl⟩ <;> rcases h' with ⟨k1, k2⟩ | ⟨k1, rfl, rfl⟩
  · exact h2.one k2
  · exact absurd h1 k1
  · exact absurd k1 h1
  · exact ⟨rfl, rfl⟩
def NodeAtIs (cs : List (Int × List Int)) (m : Int) (nd : MNode) (b : Bool) : Prop := (Right cs ∧ HitIs cs m nd b) ∨ (¬ Right cs ∧ nd = node0 ∧ b = false)
theorem NodeAtIs.one {cs : List (Int × List Int)} {m : Int} {nd nd' : MNode} {b b' : Bool} (h : NodeAtIs cs m nd b) (h' : NodeAtIs cs m nd' b') : nd = nd' ∧ b = b' := by
  rcases h with ⟨h1, h2⟩ | ⟨h1, rfl, rfl⟩ <;> rcases h' with ⟨k1, k2⟩ | ⟨k1, rfl, rfl⟩
  · exact h2.one k2
  · exact absurd h1 k1
  · exact absurd k1 h1
  · exact ⟨rfl, rfl⟩
end Go.Proofs.Ytepaikljiddiaaa

-- Part: A part of some bytes behind its count: the model's l3Part.
namespace Go.Proofs.Ytepaikljiddiaaa
set_option maxRecDepth 20000
open Go.RowKit

/-- what stands behind the count at 'at', 'each' bytes a piece; where it ends. -/
def part (bs : List Int) (at_ : Int) (each : Nat) : List Int × Int :=
  if at_ < 0 ∨ (bs.length : Int) ≤ at_ then ([], -1)
  else if (bs.length : Int) < at_ + 1 + each * (bs[at_.toNat]?.getD 0) then ([], -1)
  else ((bs.drop (at_.toNat + 1)).take (each * (bs[at_.toNat]?.getD 0).toNat), at_ + 1 + each * (bs[at_.toNat]?.getD 0))
theorem Byts.part {w : World} {B n b off : Nat} {bs : List Int} (h : Byts w B (some ⟨b, off, none⟩) n bs) (lo len : Nat) (hl : lo + len ≤ n) : Byts w B (some ⟨b, off + lo, none⟩) len ((bs.drop lo).take len) := by
  refine ⟨?_, fun z hz => h.2.1 z (List.mem_of_mem_drop (List.mem_of_mem_take hz)), fun hp => ?_⟩
  · have := h.1
    simp; omega
  · obtain ⟨b', off', e, hb, hc⟩ := h.2.2 (by omega)
    cases e
    refine ⟨b, off + lo, rfl, hb, fun i hi => ?_⟩
    have := hc (lo + i) (by omega)
    rw [Nat.add_assoc, this]
    simp [hi]
theorem Byts.empty_at {w : World} {B : Nat} {A : Option Addr} : Byts w B A 0 [] := ⟨rfl, by simp, fun h => absurd h (by omega)⟩

theorem l3Part_any (A : Option Addr) (n c : Nat) (bs : List Int) (at_ : Int) (each : Nat) (B : Nat) (w : World) (hn : n ≤ 1048576) (hc : n ≤ c) (h1 : -1 ≤ at_) (h2 : at_ ≤ 1048576) (he : each ≤ 9) (hb : Byts w B A n bs) :
    Calls Try.prog 87 #[.slice A n c, .int .i64 at_, .int .i64 each] w fun e w' => ∃ A' n' c', e = .returned (.tuple #[.slice A' n' c', .int .i64 (part bs at_ each).2]) ∧ n' ≤ c' ∧ Byts w' B A' n' (part bs at_ each).1 ∧ Below w.heap.size w w' := by
  have HB := Lib.hid hb
  have hlen : bs.length = n := hb.1
  clear hb
  by_cases hneg : at_ < 0
  · have hp := Lib.hid (show part bs at_ each = ([], -1) from if_pos (Or.inl hneg))
    go_enter Try.func87, Try.ntmps87
    go_wp2
    go_ret2
    rw [hp.out]
    exact ⟨_, 0, 0, rfl, Nat.le_refl _, Byts.empty_at, (Below.refl _ _).alloc (Nat.le_refl _) _⟩
  obtain ⟨k, rfl⟩ : ∃ k : Nat, at_ = k := ⟨at_.toNat, by omega⟩
  by_cases hge : n ≤ k
  · have hp := Lib.hid (show part bs k each = ([], -1) from if_pos (Or.inr (by omega)))
    go_enter Try.func87, Try.ntmps87
    go_wp2
    go_ret2
    rw [hp.out]
    exact ⟨_, 0, 0, rfl, Nat.le_refl _, Byts.empty_at, (Below.refl _ _).alloc (Nat.le_refl _) _⟩
  obtain ⟨b, off, rfl, hbB, hcell⟩ := HB.out.at_ (k := k) (by omega)
  have hr := HB.out.range k
  have hx : bs[k]?.getD 0 = bs[((k : Nat) : Int).toNat]?.getD 0 := by simp
  obtain ⟨x, hxx⟩ : ∃ x : Nat, bs[k]?.getD 0 = x := ⟨(bs[k]?.getD 0).toNat, by omega⟩
  rw [hxx] at hcell hr
  have hmul : (each : Int) * (x : Int) ≤ 2295 := by
    have h1 : each * x ≤ 9 * 255 := Nat.mul_le_mul he (by omega)
    have h2 : each * x ≤ 2295 := h1
    rw [← Int.natCast_mul]
    omega
  have hmul0 : (0 : Int) ≤ (each : Int) * (x : Int) := by rw [← Int.natCast_mul]; omega
  by_cases hbig : (n : Int) < (k : Int) + 1 + each * x
  · have hp : part bs k each = ([], -1) := by
      unfold part
      rw [if_neg (by omega), ← hx, hxx, if_pos (by omega)]
    have HPP := Lib.hid hp
    have hd : decide ((n : Int) < (k : Int) + 1 + each * x) = true := decide_eq_true hbig
    clear hp hx hbig
    go_enter Try.func87, Try.ntmps87
    go_wp2
    go_ret2
    rw [HPP.out]
    exact ⟨_, 0, 0, rfl, Nat.le_refl _, Byts.empty_at, (Below.refl _ _).alloc (Nat.le_refl _) _⟩
  · have hp : part bs k each = ((bs.drop (k + 1)).take (each * x), (k : Int) + 1 + each * x) := by
      unfold part
      rw [if_neg (by omega), ← hx, hxx, if_neg (by omega)]
      simp
    have HPP := Lib.hid hp
    clear hp hx
    have hle : k + 1 + each * x ≤ n := by
      have : ((k + 1 + each * x : Nat) : Int) ≤ n := by push_cast; omega
      omega
    have hlo : (0 : Int) ≤ (k : Int) + 1 := by omega
    have hhi : (k : Int) + 1 ≤ (k : Int) + 1 + each * x := by omega
    have hcap : (k : Int) + 1 + each * x ≤ (c : Int) := by omega
    go_enter Try.func87, Try.ntmps87
    go_wp2
    · go_ret2
      rw [HPP.out]
      have hz : each * x = 0 := by omega
      exact ⟨_, _, _, rfl, by omega, by rw [hz, List.take_zero]; exact Byts.empty_at, Below.refl _ _⟩
    · go_ret2
      rw [HPP.out]
      exact ⟨_, _, _, rfl, by omega, (HB.out.part (k + 1) (each * x) hle).more (by omega), Below.refl _ _⟩
end Go.Proofs.Ytepaikljiddiaaa

-- NodeR: Plain facts on the reading of a node: its parts, one behind the other; the kids, nine bytes each.
namespace Go.Proofs.Ytepaikljiddiaaa
set_option maxRecDepth 20000
open Go.RowKit

/-- a part that is there: the count, the piece, what stands behind it. -/
theorem part_drop (bs ys : List Int) (at_ : Nat) (e : Int) (each : Nat) (hr : ∀ z ∈ bs, 0 ≤ z ∧ z ≤ 255) (h : part bs at_ each = (ys, e)) (he : 0 ≤ e) :
    at_ < bs.length ∧ bs.drop at_ = bs[at_]?.getD 0 :: ys ++ bs.drop e.toNat ∧ (ys.length : Int) = each * (bs[at_]?.getD 0) ∧ e = at_ + 1 + ys.length ∧ e ≤ bs.length := by
  unfold part at h
  split at h
  · cases h; omega
  · rename_i h0
    simp only [Int.toNat_natCast] at h
    have hat : at_ < bs.length := by omega
    have hx : 0 ≤ bs[at_]?.getD 0 ∧ bs[at_]?.getD 0 ≤ 255 := by rw [List.getElem?_eq_getElem hat]; exact hr _ (List.getElem_mem hat)
    split at h
    · cases h; omega
    · rename_i h1
      obtain ⟨x, hxx⟩ : ∃ x : Nat, bs[at_]?.getD 0 = x := ⟨(bs[at_]?.getD 0).toNat, by omega⟩
      rw [hxx] at h h1 ⊢
      simp only [Int.toNat_natCast, Prod.mk.injEq] at h
      obtain ⟨h2, h3⟩ := h
      have hle : at_ + 1 + each * x ≤ bs.length := by
        have : ((at_ + 1 + each * x : Nat) : Int) ≤ bs.length := by push_cast; omega
        omega
      have hyl : ys.length = each * x := by rw [← h2]; simp; omega
      have hce : ((each * x : Nat) : Int) = (each : Int) * (x : Int) := by push_cast; rfl
      refine ⟨hat, ?_, by rw [hyl, hce], by rw [← h3, hyl, hce], by omega⟩
      have he' : e.toNat = at_ + 1 + each * x := by omega
      rw [he', List.drop_eq_getElem_cons hat, ← h2]
      have hg : bs[at_] = (x : Int) := by rw [← hxx, List.getElem?_eq_getElem hat]; rfl
      rw [hg, List.cons_append]
      congr 1
      conv => lhs; rw [← List.take_append_drop (each * x) (bs.drop (at_ + 1))]
      rw [List.drop_drop]
/-- a part that stands there is read. -/
theorem part_of (bs ys rest : List Int) (at_ each : Nat) (x : Nat) (hat : at_ < bs.length) (h : bs.drop at_ = (x : Int) :: (ys ++ rest)) (hl : ys.length = each * x) : part bs at_ each = (ys, ((at_ + 1 + each * x : Nat) : Int)) := by
  have hlen : (bs.drop at_).length = 1 + ys.length + rest.length := by rw [h]; simp; omega
  rw [List.length_drop] at hlen
  have hx : bs[at_]?.getD 0 = x := by
    have h1 : (bs.drop at_)[0]? = some (x : Int) := by rw [h]; rfl
    rw [List.getElem?_drop, Nat.add_zero] at h1
    rw [h1]; rfl
  have hce : ((each * x : Nat) : Int) = (each : Int) * (x : Int) := by push_cast; rfl
  unfold part
  simp only [Int.toNat_natCast]
  rw [if_neg (by omega), hx, if_neg (by omega)]
  have hd : bs.drop (at_ + 1) = ys ++ rest := by
    have h1 : (bs.drop at_).drop 1 = ys ++ rest := by rw [h]; rfl
    rwa [List.drop_drop] at h1
  rw [hd]
  simp only [Int.toNat_natCast]
  rw [List.take_left' hl]
  simp only [Prod.mk.injEq, true_and]
  push_cast
  rfl
theorem part_end (bs : List Int) (at_ : Int) (each : Nat) : (part bs at_ each).2 = -1 ∨ at_ + 1 ≤ (part bs at_ each).2 ∧ 0 ≤ at_ ∨ (part bs at_ each).2 < at_ + 1 := by
  rcases Int.lt_or_le (part bs at_ each).2 (at_ + 1) with h | h
  · exact .inr (.inr h)
  · unfold part at h ⊢
    split
    · exact .inl rfl
    · split
      · exact .inl rfl
      · rename_i h0 h1
        rw [if_neg h0, if_neg h1] at h
        exact .inr (.inl ⟨h, by omega⟩)
theorem part_neg (bs : List Int) (each : Nat) : part bs (-1) each = ([], -1) := if_pos (Or.inl (by omega))
theorem part_range (bs : List Int) (hr : ∀ z ∈ bs, 0 ≤ z ∧ z ≤ 255) (at_ : Int) (each : Nat) : -1 ≤ (part bs at_ each).2 ∧ (part bs at_ each).2 ≤ bs.length := by
  unfold part
  split
  · simp
  · split
    · simp
    · rename_i h0 h1
      refine ⟨?_, by omega⟩
      have hat : at_.toNat < bs.length := by omega
      have hx : 0 ≤ bs[at_.toNat]?.getD 0 := by rw [List.getElem?_eq_getElem hat]; exact (hr _ (List.getElem_mem hat)).1
      have := Int.mul_nonneg (Int.natCast_nonneg each) hx
      show -1 ≤ at_ + 1 + _
      omega
theorem part_le (bs : List Int) (at_ : Int) (each : Nat) : (part bs at_ each).1.length ≤ bs.length := by
  unfold part
  split
  · simp
  · split
    · simp
    · simp only [List.length_take, List.length_drop]; omega

/-- the i-th kid that is written. -/
def kidOf (kb : List Int) (i : Nat) : Int × Int := (kb[9 * i]?.getD 0, leVal ((kb.drop (9 * i + 1)).take 8))
def kidsTo (kb : List Int) (q : Nat) : List (Int × Int) := (List.range q).map (kidOf kb)
def chunkOk (kb : List Int) (i : Nat) : Prop := kb[9 * i + 8]?.getD 0 ≤ (127 : Int)
theorem kidsTo_len (kb : List Int) (q : Nat) : (kidsTo kb q).length = q := by simp [kidsTo]
theorem kidsTo_step (kb : List Int) (q : Nat) : kidsTo kb (q + 1) = kidsTo kb q ++ [kidOf kb q] := by simp [kidsTo, List.range_succ]
theorem kidOf_drop (kb : List Int) (i : Nat) : kidOf kb (i + 1) = kidOf (kb.drop 9) i := by
  unfold kidOf
  rw [List.getElem?_drop, List.drop_drop, show 9 * (i + 1) = 9 + 9 * i by omega, show 9 + 9 * i + 1 = 9 + (9 * i + 1) by omega]
theorem kidsTo_drop (kb : List Int) (q : Nat) : kidsTo kb (q + 1) = kidOf kb 0 :: kidsTo (kb.drop 9) q := by
  unfold kidsTo
  rw [List.range_succ_eq_map, List.map_cons, List.map_map]
  congr 1
  apply List.map_congr_left
  intro i _
  exact kidOf_drop kb i
/-- the kids that are read are written as they were. -/
theorem kidsTo_back (q : Nat) (kb : List Int) (hr : ∀ z ∈ kb, 0 ≤ z ∧ z ≤ 255) (hl : kb.length = 9 * q) (hc : ∀ i, i < q → chunkOk kb i) : (kidsTo kb q).flatMap kidBytes = kb ∧ ∀ k ∈ kidsTo kb q, 0 ≤ k.2 ∧ k.2 ≤ 9223372036854775807 := by
  induction q generalizing kb with
  | zero =>
    have e : kb = [] := List.eq_nil_of_length_eq_zero (by omega)
    subst e
    exact ⟨rfl, by simp [kidsTo]⟩
  | succ q ih =>
    have h0 := hc 0 (by omega)
    obtain ⟨h1, h2⟩ := ih (kb.drop 9) (fun z hz => hr z (List.mem_of_mem_drop hz)) (by simp; omega) (fun i hi => by
      have := hc (i + 1) (by omega)
      unfold chunkOk at this ⊢
      rw [List.getElem?_drop, show 9 + (9 * i + 8) = 9 * (i + 1) + 8 by omega]
      exact this)
    rw [kidsTo_drop]
    have hcl : ((kb.drop 1).take 8).length = 8 := by simp; omega
    have hcr : ∀ z ∈ (kb.drop 1).take 8, 0 ≤ z ∧ z ≤ 255 := fun z hz => hr z (List.mem_of_mem_drop (List.mem_of_mem_take hz))
    have h7 : ((kb.drop 1).take 8)[7]?.getD 0 ≤ (127 : Int) := by
      unfold chunkOk at h0
      rw [List.getElem?_take_of_lt (by omega), List.getElem?_drop]
      exact h0
    have hb := bytes_of_back _ hcr hcl h7
    have hw := leW_yes _ hcr hcl h7
    refine ⟨?_, ?_⟩
    · rw [List.flatMap_cons, h1]
      have hk : kidBytes (kidOf kb 0) = kb.take 9 := by
        unfold kidBytes kidOf
        show kb[0]?.getD 0 % 256 :: nameBytes (leVal ((kb.drop 1).take 8)) = _
        rw [hb]
        have hkb : 0 < kb.length := by omega
        have hz := hr kb[0] (List.getElem_mem hkb)
        rw [List.getElem?_eq_getElem hkb]
        rcases kb with _ | ⟨z, r⟩
        · simp at hkb
        · simp at hz ⊢
          omega
      rw [hk, List.take_append_drop]
    · intro k hk
      rcases List.mem_cons.1 hk with rfl | hk
      · exact hw.2
      · exact h2 k hk
/-- what is written of kids is read as they. -/
theorem kidsTo_of (ks : List (Int × Int)) (h : ∀ k ∈ ks, ((0 ≤ k.1 ∧ k.1 ≤ 15) ∧ 1 ≤ k.2) ∧ k.2 ≤ 9223372036854775807) : (ks.flatMap kidBytes).length = 9 * ks.length ∧ kidsTo (ks.flatMap kidBytes) ks.length = ks ∧ ∀ i, i < ks.length → chunkOk (ks.flatMap kidBytes) i := by
  induction ks with
  | nil => exact ⟨rfl, rfl, fun i hi => by simp at hi⟩
  | cons x r ih =>
    have hx := h x (by simp)
    obtain ⟨h1, h2, h3⟩ := ih fun k hk => h k (by simp [hk])
    obtain ⟨hb1, hb2, hb3⟩ := back_of_bytes x.2 (by omega)
    have lx : (kidBytes x).length = 9 := by unfold kidBytes; simp [hb2]
    have hd : ((x :: r).flatMap kidBytes).drop 9 = r.flatMap kidBytes := by rw [List.flatMap_cons, List.drop_left' lx]
    refine ⟨by rw [List.flatMap_cons, List.length_append, lx, h1]; simp; omega, ?_, ?_⟩
    · rw [List.length_cons, kidsTo_drop, hd, h2]
      congr 1
      unfold kidOf
      rw [List.flatMap_cons]
      unfold kidBytes
      have e1 : (((x.1 % 256 :: nameBytes x.2) ++ r.flatMap kidBytes).drop (9 * 0 + 1)).take 8 = nameBytes x.2 := by
        show (nameBytes x.2 ++ r.flatMap kidBytes).take 8 = _
        exact List.take_left' hb2
      have e2 : x.1 % 256 = x.1 := by omega
      show (x.1 % 256, _) = x
      have e1' : leVal ((((x.1 % 256 :: nameBytes x.2) ++ r.flatMap (fun k => k.1 % 256 :: nameBytes k.2)).drop (9 * 0 + 1)).take 8) = x.2 := by
        have : (((x.1 % 256 :: nameBytes x.2) ++ r.flatMap (fun k => k.1 % 256 :: nameBytes k.2)).drop (9 * 0 + 1)).take 8 = nameBytes x.2 := by
          show (nameBytes x.2 ++ _).take 8 = _
          exact List.take_left' hb2
        rw [this, hb1]
      rw [e1', e2]
    · intro i hi
      rcases i with _ | i
      · unfold chunkOk
        rw [List.flatMap_cons, List.getElem?_append_left (by omega)]
        unfold kidBytes
        show (nameBytes x.2)[7]?.getD 0 ≤ 127
        exact hb3
      · have := h3 i (by simpa using hi)
        unfold chunkOk at this ⊢
        rw [← hd, List.getElem?_drop] at this
        rw [show 9 * (i + 1) + 8 = 9 + (9 * i + 8) by omega]
        exact this

theorem part_some (bs ys : List Int) (at_ e : Int) (each : Nat) (h : part bs at_ each = (ys, e)) (he : 0 ≤ e) : 0 ≤ at_ := by
  rcases Int.lt_or_le at_ 0 with h0 | h0
  · have : part bs at_ each = ([], -1) := if_pos (Or.inl h0)
    rw [this] at h
    cases h
    omega
  · exact h0
/-- all parts are there, up to the end. -/
theorem parts_all (bs r1 r2 r3 : List Int) (e1 e2 : Int) (hr : ∀ z ∈ bs, 0 ≤ z ∧ z ≤ 255) (h1 : part bs ((1 : Nat) : Int) 1 = (r1, e1)) (h2 : part bs e1 1 = (r2, e2)) (h3 : part bs e2 9 = (r3, (bs.length : Int))) (hl : 0 < bs.length) :
    ∃ q : Nat, bs = bs[0]?.getD 0 :: (r1.length : Int) :: (r1 ++ ((r2.length : Int) :: (r2 ++ ((q : Int) :: r3)))) ∧ r3.length = 9 * q := by
  have p2 := part_some _ _ _ _ _ h3 (by omega)
  have p1 := part_some _ _ _ _ _ h2 p2
  obtain ⟨k1, rfl⟩ : ∃ k : Nat, e1 = k := ⟨e1.toNat, by omega⟩
  obtain ⟨k2, rfl⟩ : ∃ k : Nat, e2 = k := ⟨e2.toNat, by omega⟩
  obtain ⟨a1, a2, a3, a4, a5⟩ := part_drop bs r1 1 k1 1 hr h1 (by omega)
  obtain ⟨b1, b2, b3, b4, b5⟩ := part_drop bs r2 k1 k2 1 hr h2 (by omega)
  obtain ⟨c1, c2, c3, c4, c5⟩ := part_drop bs r3 k2 bs.length 9 hr h3 (by omega)
  simp only [Int.toNat_natCast] at a2 b2 c2
  rw [List.drop_length, List.append_nil] at c2
  have hx : ∀ k : Nat, (0 : Int) ≤ bs[k]?.getD 0 := fun k => (mem_at bs hr k).1
  have h0 : bs = bs[0]?.getD 0 :: bs.drop 1 := by
    rcases bs with _ | ⟨z, r⟩
    · simp at hl
    · rfl
  refine ⟨(bs[k2]?.getD 0).toNat, ?_, by have := hx k2; omega⟩
  have e1 : (r1.length : Int) = bs[1]?.getD 0 := by omega
  have e2 : (r2.length : Int) = bs[k1]?.getD 0 := by omega
  have e3 : ((bs[k2]?.getD 0).toNat : Int) = bs[k2]?.getD 0 := by have := hx k2; omega
  rw [e1, e2, e3]
  conv => lhs; rw [h0, a2, b2, c2]
  simp
/-- the node that is read of the parts. -/
def nodeOf (bs r1 r2 r3 : List Int) (q : Nat) : MNode := ⟨bs[0]?.getD 0, r1, kidsTo r3 q, strOfNums r2⟩
theorem read_back (bs r1 r2 r3 : List Int) (q : Nat) (hr : ∀ z ∈ bs, 0 ≤ z ∧ z ≤ 255) (h : bs = bs[0]?.getD 0 :: (r1.length : Int) :: (r1 ++ ((r2.length : Int) :: (r2 ++ ((q : Int) :: r3))))) (h3 : r3.length = 9 * q) (hc : ∀ i, i < q → chunkOk r3 i) :
    rawBytes (nodeOf bs r1 r2 r3 q) = bs ∧ NodeWf (nodeOf bs r1 r2 r3 q) := by
  have m : ∀ z, z ∈ (bs[0]?.getD 0 :: (r1.length : Int) :: (r1 ++ ((r2.length : Int) :: (r2 ++ ((q : Int) :: r3))))) → 0 ≤ z ∧ z ≤ 255 := fun z hz => hr z (by rw [h]; exact hz)
  have b0 := m (bs[0]?.getD 0) (by simp)
  have b1 := m (r1.length : Int) (by simp)
  have b2 := m (r2.length : Int) (by simp)
  have bq := m (q : Int) (by simp)
  have c1 : ∀ z ∈ r1, 0 ≤ z ∧ z ≤ 255 := fun z hz => m z (by simp [hz])
  have c2 : ∀ z ∈ r2, 0 ≤ z ∧ z ≤ 255 := fun z hz => m z (by simp [hz])
  have c3 : ∀ z ∈ r3, 0 ≤ z ∧ z ≤ 255 := fun z hz => m z (by simp [hz])
  obtain ⟨k1, k2⟩ := kidsTo_back q r3 c3 h3 hc
  have e1 : r1.map (· % 256) = r1 := by
    conv => rhs; rw [← List.map_id r1]
    apply List.map_congr_left
    intro z hz
    have := c1 z hz
    simp; omega
  refine ⟨?_, fun k hk => (k2 k hk).2⟩
  unfold rawBytes nodeOf
  simp only [kidsTo_len, sb_str r2 c2, strOfNums_size, k1, e1]
  conv => rhs; rw [h]
  have d0 : bs[0]?.getD 0 % 256 = bs[0]?.getD 0 := by omega
  have d1 : (r1.length : Int) % 256 = r1.length := by omega
  have d2 : (r2.length : Int) % 256 = r2.length := by omega
  have d3 : (q : Int) % 256 = q := by omega
  rw [d0, d1, d2, d3]
  simp
/-- what a right node writes is read part by part. -/
theorem read_of (nd : MNode) (bs : List Int) (h : nodeOk nd = true) (hw : NodeWf nd) (he : nodeBytes nd = bs) :
    ∃ e1 e2 r3, part bs ((1 : Nat) : Int) 1 = (nd.path, e1) ∧ part bs e1 1 = (sb nd.val, e2) ∧ part bs e2 9 = (r3, (bs.length : Int)) ∧ bs ≠ [] ∧ bs[0]?.getD 0 = nd.kind ∧ r3.length = 9 * nd.kids.length ∧ kidsTo r3 nd.kids.length = nd.kids ∧ ∀ i, i < nd.kids.length → chunkOk r3 i := by
  have pa := (isPath_iff _).1 (nodeOk_parts nd h).1
  have ka := nodeOk_kind nd h
  have va := nodeOk_val nd h
  have ca := (nodeOk_parts nd h).2.1
  have na := kidsOk_len _ ca
  obtain ⟨k1, k2, k3⟩ := kidsTo_of nd.kids (fun k hk => ⟨kidsOk_mem _ ca k hk, hw k hk⟩)
  have hsb := sb_len nd.val
  have hbs : bs = nd.kind :: (nd.path.length : Int) :: (nd.path ++ ((nd.val.size : Int) :: (sb nd.val ++ ((nd.kids.length : Int) :: nd.kids.flatMap kidBytes)))) := by
    rw [← he]
    unfold nodeBytes
    rw [if_pos h]
    unfold rawBytes
    rw [map_mod nd.path pa.2]
    have d0 : nd.kind % 256 = nd.kind := by omega
    have d1 : (nd.path.length : Int) % 256 = nd.path.length := by omega
    have d2 : (nd.val.size : Int) % 256 = nd.val.size := by omega
    have d3 : (nd.kids.length : Int) % 256 = nd.kids.length := by omega
    rw [d0, d1, d2, d3]
    simp
  have hl : bs.length = 4 + nd.path.length + nd.val.size + 9 * nd.kids.length := by rw [hbs]; simp [hsb, k1]; omega
  have D1 : bs.drop 1 = (nd.path.length : Int) :: (nd.path ++ ((nd.val.size : Int) :: (sb nd.val ++ ((nd.kids.length : Int) :: nd.kids.flatMap kidBytes)))) := by rw [hbs]; rfl
  have D2 : bs.drop (2 + nd.path.length) = (nd.val.size : Int) :: (sb nd.val ++ ((nd.kids.length : Int) :: nd.kids.flatMap kidBytes)) := by
    rw [show 2 + nd.path.length = 1 + (1 + nd.path.length) by omega, ← List.drop_drop, D1, show 1 + nd.path.length = nd.path.length + 1 by omega, List.drop_succ_cons, List.drop_left]
  have D3 : bs.drop (3 + nd.path.length + nd.val.size) = (nd.kids.length : Int) :: (nd.kids.flatMap kidBytes ++ []) := by
    rw [show 3 + nd.path.length + nd.val.size = (2 + nd.path.length) + (nd.val.size + 1) by omega, ← List.drop_drop, D2, List.drop_succ_cons, ← hsb, List.drop_left, List.append_nil]
  have q1 := part_of bs _ _ 1 1 nd.path.length (by omega) D1 (by omega)
  have q2 := part_of bs _ _ (2 + nd.path.length) 1 nd.val.size (by omega) D2 (by omega)
  have q3 := part_of bs _ _ (3 + nd.path.length + nd.val.size) 9 nd.kids.length (by omega) D3 (by omega)
  have t1 : 1 + 1 + 1 * nd.path.length = 2 + nd.path.length := by omega
  have t2 : 2 + nd.path.length + 1 + 1 * nd.val.size = 3 + nd.path.length + nd.val.size := by omega
  have t3 : 3 + nd.path.length + nd.val.size + 1 + 9 * nd.kids.length = bs.length := by omega
  rw [t1] at q1
  rw [t2] at q2
  rw [t3] at q3
  exact ⟨_, _, _, q1, q2, q3, by rw [hbs]; simp, by rw [hbs]; rfl, k1, k2, k3⟩
/-- what the parts say of a reading. -/
theorem none_empty (bs : List Int) (hl : bs.length = 0) : NodeRead bs node0 false := .inr ⟨rfl, rfl, fun nd h1 h2 h3 => by
  obtain ⟨_, _, _, _, _, _, h, _⟩ := read_of nd bs h1 h2 h3
  exact h (List.eq_nil_of_length_eq_zero hl)⟩
section
variable {bs r1 r2 r3 : List Int} {e1 e2 e3 : Int} {q : Nat}
theorem none_end (p1 : part bs ((1 : Nat) : Int) 1 = (r1, e1)) (p2 : part bs e1 1 = (r2, e2)) (p3 : part bs e2 9 = (r3, e3)) (he : e3 ≠ bs.length) : NodeRead bs node0 false := .inr ⟨rfl, rfl, fun nd h1 h2 h3 => by
  obtain ⟨f1, f2, r, q1, q2, q3, _⟩ := read_of nd bs h1 h2 h3
  rw [p1] at q1
  cases q1
  rw [p2] at q2
  cases q2
  rw [p3] at q3
  cases q3
  exact he rfl⟩
theorem parts_are (p1 : part bs ((1 : Nat) : Int) 1 = (r1, e1)) (p2 : part bs e1 1 = (r2, e2)) (p3 : part bs e2 9 = (r3, (bs.length : Int))) (hl : r3.length = 9 * q) (nd : MNode) (h1 : nodeOk nd = true) (h2 : NodeWf nd) (h3 : nodeBytes nd = bs) :
    nodeOf bs r1 r2 r3 q = nd ∧ ∀ i, i < q → chunkOk r3 i := by
  obtain ⟨f1, f2, r, q1, q2, q3, _, k0, kl, kk, kc⟩ := read_of nd bs h1 h2 h3
  rw [p1] at q1
  cases q1
  rw [p2] at q2
  cases q2
  rw [p3] at q3
  cases q3
  obtain rfl : q = nd.kids.length := by omega
  refine ⟨?_, kc⟩
  unfold nodeOf
  rw [k0, kk, str_sb]
theorem none_chunk (p1 : part bs ((1 : Nat) : Int) 1 = (r1, e1)) (p2 : part bs e1 1 = (r2, e2)) (p3 : part bs e2 9 = (r3, (bs.length : Int))) (hl : r3.length = 9 * q) (i : Nat) (hi : i < q) (hc : ¬ chunkOk r3 i) : NodeRead bs node0 false :=
  .inr ⟨rfl, rfl, fun nd h1 h2 h3 => hc ((parts_are p1 p2 p3 hl nd h1 h2 h3).2 i hi)⟩
theorem none_bad (p1 : part bs ((1 : Nat) : Int) 1 = (r1, e1)) (p2 : part bs e1 1 = (r2, e2)) (p3 : part bs e2 9 = (r3, (bs.length : Int))) (hl : r3.length = 9 * q) (hb : nodeOk (nodeOf bs r1 r2 r3 q) = false) : NodeRead bs node0 false :=
  .inr ⟨rfl, rfl, fun nd h1 h2 h3 => by rw [(parts_are p1 p2 p3 hl nd h1 h2 h3).1, h1] at hb; cases hb⟩
end
theorem yes_read (bs r1 r2 r3 : List Int) (q : Nat) (hr : ∀ z ∈ bs, 0 ≤ z ∧ z ≤ 255) (h : bs = bs[0]?.getD 0 :: (r1.length : Int) :: (r1 ++ ((r2.length : Int) :: (r2 ++ ((q : Int) :: r3))))) (h3 : r3.length = 9 * q) (hc : ∀ i, i < q → chunkOk r3 i) (ok : nodeOk (nodeOf bs r1 r2 r3 q) = true) :
    NodeRead bs (nodeOf bs r1 r2 r3 q) true := by
  obtain ⟨k1, k2⟩ := read_back bs r1 r2 r3 q hr h h3 hc
  exact .inl ⟨rfl, ok, k2, by unfold nodeBytes; rw [if_pos ok]; exact k1⟩
end Go.Proofs.Ytepaikljiddiaaa

-- Conv: A slice of bytes turned into a text: the text of just these bytes.
namespace Go.Proofs.Ytepaikljiddiaaa
set_option maxRecDepth 20000
open Go.RowKit

theorem conv_bytes (A : Option Addr) (n c : Nat) (zs : List Int) (B : Nat) (w : World) (hb : Byts w B A n zs) :
    (convert 22 9 (.slice A n c)).run Try.prog w = .ok (.string (strOfNums zs)) w := by
  rcases Nat.eq_zero_or_pos n with h0 | hp
  · subst h0
    have hz : zs = [] := List.eq_nil_of_length_eq_zero hb.1
    subst hz
    rcases A with _ | a
    · exact run_convert_bytes_nil w _ _ Try.underlying22 Try.underlying5 0 c _ Try.underlying9
    · rw [run_convert_bytes_string w _ _ _ (some a) 0 c Try.underlying22 Try.underlying5 Try.underlying9]
      have hl : (loadCells a 0).run Try.prog w = .ok ([].map (Value.int .u8)).toArray w := by
        have := run_loadCells_list (P := Try.prog) w a [] (fun j v hj => by simp at hj)
        simpa using this
      rw [run_bytesToString w a 0 c [] hl]
      rfl
  · obtain ⟨b, off, rfl, _, hc⟩ := hb.2.2 hp
    exact run_convert_bytes_arg w _ _ Try.underlying22 Try.underlying5 b off n c zs hb.1 hc _ Try.underlying9

end Go.Proofs.Ytepaikljiddiaaa
