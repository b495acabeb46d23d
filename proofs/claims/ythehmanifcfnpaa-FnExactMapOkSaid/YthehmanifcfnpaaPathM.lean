/- Plain facts on keys and paths: what a digit is worth, the path of a text, the text of a path, how much two paths have in common. -/
import Derived.Test.YthehmanifcfnpaaBytes
import Derived.Laws.BytesArg
import Derived.Laws.Concat
import Derived.Laws.Strings
import Derived.Laws.Strings2
import Derived.Laws.RangeAny
namespace Go.Proofs.Ythehmanifcfnpaa
set_option maxRecDepth 20000
open Go.RowKit

/-- what a byte of a key is worth; -1 where it is none. -/
def wd (c : Int) : Int := if 48 ≤ c ∧ c ≤ 57 then c - 48 else if 97 ≤ c ∧ c ≤ 102 then c - 87 else -1
/-- the digit of what is worth z. -/
def dig (z : Int) : Int := if z < 10 then z + 48 else z + 87
/-- the bytes of a text, as numbers. -/
def sb (s : ByteArray) : List Int := s.data.toList.map fun b => (b.toNat : Int)
def isKey (zs : List Int) : Bool := decide (1 ≤ zs.length ∧ zs.length ≤ 8) && zs.all fun z => decide (0 ≤ wd z)
def pathOf (zs : List Int) : List Int := if isKey zs then zs.map wd else []
def isPath (ps : List Int) : Bool := decide (ps.length ≤ 8) && ps.all fun z => decide (0 ≤ z ∧ z ≤ 15)
def keyOf (ps : List Int) : List Int := if isPath ps then ps.map dig else []
def com : List Int → List Int → Nat
  | x :: a, y :: b => if x = y then com a b + 1 else 0
  | _, _ => 0

theorem sb_len (s : ByteArray) : (sb s).length = s.size := by
  unfold sb
  rw [List.length_map, Array.length_toList]; rfl
theorem sb_at (s : ByteArray) (k : Nat) (h : k < s.size) : (sb s)[k]?.getD 0 = ((s[k]'h).toNat : Int) := by
  have h' : k < s.data.size := h
  have e : s.data[k]? = some (s[k]'h) := Array.getElem?_eq_getElem h'
  unfold sb
  rw [List.getElem?_map, Array.getElem?_toList, e]
  rfl
theorem sb_bd (s : ByteArray) : ∀ z ∈ sb s, 0 ≤ z ∧ z ≤ 255 := by
  intro z hz
  simp only [sb, List.mem_map] at hz
  obtain ⟨b, _, rfl⟩ := hz
  have := b.toNat_lt
  omega
theorem wd_bd (c : Int) : -1 ≤ wd c ∧ wd c ≤ 15 := by unfold wd; split <;> (try split) <;> omega
theorem wd_dig (z : Int) (h : 0 ≤ z ∧ z ≤ 15) : wd (dig z) = z := by unfold wd dig; split <;> split <;> (try split) <;> omega
theorem dig_wd (c : Int) (h : 0 ≤ wd c) : dig (wd c) = c := by
  by_cases h1 : 48 ≤ c ∧ c ≤ 57
  · have e : wd c = c - 48 := if_pos h1
    rw [e]; unfold dig; split <;> omega
  · by_cases h2 : 97 ≤ c ∧ c ≤ 102
    · have e : wd c = c - 87 := by unfold wd; rw [if_neg h1, if_pos h2]
      rw [e]; unfold dig; split <;> omega
    · have e : wd c = -1 := by unfold wd; rw [if_neg h1, if_neg h2]
      omega
theorem dig_bd (z : Int) (h : 0 ≤ z ∧ z ≤ 15) : 48 ≤ dig z ∧ dig z ≤ 102 := by unfold dig; split <;> omega
theorem isKey_iff (zs : List Int) : isKey zs = true ↔ (1 ≤ zs.length ∧ zs.length ≤ 8) ∧ ∀ z ∈ zs, 0 ≤ wd z := by simp [isKey]
theorem isPath_iff (ps : List Int) : isPath ps = true ↔ ps.length ≤ 8 ∧ ∀ z ∈ ps, 0 ≤ z ∧ z ≤ 15 := by simp [isPath]
theorem pathOf_len (zs : List Int) : (pathOf zs).length ≤ 8 := by
  unfold pathOf
  split
  · rename_i h; have := (isKey_iff zs).1 h; simp; omega
  · simp
theorem pathOf_pos (zs : List Int) : decide (0 < (pathOf zs).length) = isKey zs := by
  unfold pathOf
  split
  · rename_i h; have := (isKey_iff zs).1 h; rw [h]; simp; omega
  · rename_i h; simp at h; simp [h]
theorem pathOf_long (zs : List Int) (h : 8 < zs.length) : pathOf zs = [] := by
  unfold pathOf
  rw [if_neg]
  intro e
  have := (isKey_iff zs).1 e
  omega
theorem pathOf_bad (zs : List Int) (k : Nat) (hk : k < zs.length) (h : wd (zs[k]?.getD 0) < 0) : pathOf zs = [] := by
  unfold pathOf
  rw [if_neg]
  intro e
  have h2 := ((isKey_iff zs).1 e).2 (zs[k]?.getD 0) (by rw [List.getElem?_eq_getElem hk]; exact List.getElem_mem hk)
  omega
theorem pathOf_good (zs : List Int) (hl : zs.length ≤ 8) (h : ∀ z ∈ zs, 0 ≤ wd z) : pathOf zs = zs.map wd := by
  unfold pathOf
  split
  · rfl
  · rename_i e
    rcases zs with _ | ⟨z, r⟩
    · rfl
    · exact absurd ((isKey_iff _).2 ⟨⟨by simp, hl⟩, h⟩) e
theorem isKey_bad (zs : List Int) (k : Nat) (hk : k < zs.length) (h : wd (zs[k]?.getD 0) < 0) : isKey zs = false := by
  rw [← pathOf_pos, pathOf_bad zs k hk h]; simp
theorem isKey_good (zs : List Int) (h : ∀ z ∈ zs, 0 ≤ wd z) : isKey zs = decide (1 ≤ zs.length ∧ zs.length ≤ 8) := by
  unfold isKey
  rw [show (zs.all fun z => decide (0 ≤ wd z)) = true by simpa using h, Bool.and_true]
theorem good_step (zs : List Int) (k : Nat) (hk : k < zs.length) (h : ∀ z ∈ zs.take k, 0 ≤ wd z) (h1 : 0 ≤ wd (zs[k]?.getD 0)) : ∀ z ∈ zs.take (k + 1), 0 ≤ wd z := by
  rw [take_step zs k hk]
  intro z hz
  simp only [List.mem_append, List.mem_singleton] at hz
  rcases hz with hz | rfl
  · exact h z hz
  · exact h1
theorem map_take_step (f : Int → Int) (zs : List Int) (k : Nat) (hk : k < zs.length) : (zs.take (k + 1)).map f = (zs.take k).map f ++ [f (zs[k]?.getD 0)] := by
  rw [take_step zs k hk]; simp

theorem keyOf_long (ps : List Int) (h : 8 < ps.length) : keyOf ps = [] := by
  unfold keyOf
  rw [if_neg]
  intro e
  have := (isPath_iff ps).1 e
  omega
theorem keyOf_bad (ps : List Int) (k : Nat) (hk : k < ps.length) (h : ¬ (0 ≤ ps[k]?.getD 0 ∧ ps[k]?.getD 0 ≤ 15)) : keyOf ps = [] := by
  unfold keyOf
  rw [if_neg]
  intro e
  exact h (((isPath_iff ps).1 e).2 (ps[k]?.getD 0) (by rw [List.getElem?_eq_getElem hk]; exact List.getElem_mem hk))
theorem isPath_bad (ps : List Int) (k : Nat) (hk : k < ps.length) (h : ¬ (0 ≤ ps[k]?.getD 0 ∧ ps[k]?.getD 0 ≤ 15)) : isPath ps = false := by
  rw [Bool.eq_false_iff]
  intro e
  exact h (((isPath_iff ps).1 e).2 (ps[k]?.getD 0) (by rw [List.getElem?_eq_getElem hk]; exact List.getElem_mem hk))
theorem keyOf_good (ps : List Int) (hl : ps.length ≤ 8) (h : ∀ z ∈ ps, 0 ≤ z ∧ z ≤ 15) : keyOf ps = ps.map dig := by
  unfold keyOf
  rw [if_pos ((isPath_iff ps).2 ⟨hl, h⟩)]
theorem path_step (ps : List Int) (k : Nat) (hk : k < ps.length) (h : ∀ z ∈ ps.take k, 0 ≤ z ∧ z ≤ 15) (h1 : 0 ≤ ps[k]?.getD 0 ∧ ps[k]?.getD 0 ≤ 15) : ∀ z ∈ ps.take (k + 1), 0 ≤ z ∧ z ≤ 15 := by
  rw [take_step ps k hk]
  intro z hz
  simp only [List.mem_append, List.mem_singleton] at hz
  rcases hz with hz | rfl
  · exact h z hz
  · exact h1

theorem sb_str (zs : List Int) (h : ∀ z ∈ zs, 0 ≤ z ∧ z ≤ 255) : sb (strOfNums zs) = zs := by
  simp only [sb, strOfNums, List.map_map]
  rw [List.map_congr_left (g := id), List.map_id]
  intro z hz
  have := h z hz
  simp
  omega
theorem str_sb (s : ByteArray) : strOfNums (sb s) = s := by
  obtain ⟨⟨l⟩⟩ := s
  simp only [sb, strOfNums, List.map_map]
  congr 2
  conv => rhs; rw [← List.map_id l]
  apply List.map_congr_left
  intro b _
  simp
theorem str_append (a b : List Int) : strOfNums a ++ strOfNums b = strOfNums (a ++ b) := by
  unfold strOfNums
  rw [ByteArray.mk_append_mk, List.map_append]
/-- the text of the digits of a path is a key, where it is not empty. -/
theorem isKey_digs (ps : List Int) (hl : ps.length ≤ 8) (h : ∀ z ∈ ps, 0 ≤ z ∧ z ≤ 15) : isKey (sb (strOfNums (ps.map dig))) = decide (1 ≤ ps.length) := by
  rw [sb_str]
  · rw [isKey_good]
    · simp [hl]
    · intro z hz
      obtain ⟨p, hp, rfl⟩ := List.mem_map.1 hz
      rw [wd_dig p (h p hp)]
      exact (h p hp).1
  · intro z hz
    obtain ⟨p, hp, rfl⟩ := List.mem_map.1 hz
    have := dig_bd p (h p hp)
    omega
/-- the key of the path of a key is the key. -/
theorem keyOf_pathOf (zs : List Int) (h : isKey zs = true) : keyOf (pathOf zs) = zs := by
  have hk := (isKey_iff zs).1 h
  unfold pathOf
  rw [if_pos h, keyOf_good (zs.map wd) (by simp; omega) (by
    intro z hz
    obtain ⟨p, hp, rfl⟩ := List.mem_map.1 hz
    exact ⟨hk.2 p hp, (wd_bd p).2⟩), List.map_map]
  conv => rhs; rw [← List.map_id zs]
  apply List.map_congr_left
  intro c hc
  exact dig_wd c (hk.2 c hc)

theorem com_self (a : List Int) : com a a = a.length := by
  induction a with
  | nil => rfl
  | cons x r ih => simp [com, ih]
theorem com_is (a b : List Int) (k : Nat) (ha : k ≤ a.length) (hb : k ≤ b.length) (hs : ∀ i, i < k → a[i]?.getD 0 = b[i]?.getD 0) (he : k = a.length ∨ k = b.length ∨ a[k]?.getD 0 ≠ b[k]?.getD 0) : com a b = k := by
  induction a generalizing b k with
  | nil => simp at ha; subst ha; rfl
  | cons x r ih =>
    rcases b with _ | ⟨y, q⟩
    · simp at hb; subst hb; rfl
    · rcases k with _ | k
      · simp at he
        simp [com, he]
      · have h0 := hs 0 (by omega)
        simp at h0
        subst h0
        simp only [com, if_true]
        congr 1
        refine ih q k (by simpa using ha) (by simpa using hb) (fun i hi => ?_) ?_
        · have := hs (i + 1) (by omega)
          simpa using this
        · simpa using he
theorem map_at (f : Int → Int) (zs : List Int) (k : Nat) (hk : k < zs.length) : (zs.map f)[k]?.getD 0 = f (zs[k]?.getD 0) := by
  rw [List.getElem?_map, List.getElem?_eq_getElem hk]; rfl
/-- the sixteen digits. -/
def digits16 : ByteArray := { data := #[48, 49, 50, 51, 52, 53, 54, 55, 56, 57, 97, 98, 99, 100, 101, 102] }
theorem dig_lit (z : Int) (h0 : 0 ≤ z) (h1 : z ≤ 15) (hh : z.toNat < digits16.size) : ((digits16[z.toNat]'hh).toNat : Int) = dig z := by
  obtain ⟨k, rfl⟩ : ∃ k : Nat, z = k := ⟨z.toNat, by omega⟩
  simp only [Int.toNat_natCast]
  match k, h1 with
  | 0, _ => rfl
  | 1, _ => rfl
  | 2, _ => rfl
  | 3, _ => rfl
  | 4, _ => rfl
  | 5, _ => rfl
  | 6, _ => rfl
  | 7, _ => rfl
  | 8, _ => rfl
  | 9, _ => rfl
  | 10, _ => rfl
  | 11, _ => rfl
  | 12, _ => rfl
  | 13, _ => rfl
  | 14, _ => rfl
  | 15, _ => rfl
  | k + 16, h1 => omega
theorem dig_cut (z : Int) (h0 : 0 ≤ z) (h1 : z ≤ 15) : digits16.extract z.toNat (z + 1).toNat = strOfNums [dig z] := by
  obtain ⟨k, rfl⟩ : ∃ k : Nat, z = k := ⟨z.toNat, by omega⟩
  match k, h1 with
  | 0, _ => rfl
  | 1, _ => rfl
  | 2, _ => rfl
  | 3, _ => rfl
  | 4, _ => rfl
  | 5, _ => rfl
  | 6, _ => rfl
  | 7, _ => rfl
  | 8, _ => rfl
  | 9, _ => rfl
  | 10, _ => rfl
  | 11, _ => rfl
  | 12, _ => rfl
  | 13, _ => rfl
  | 14, _ => rfl
  | 15, _ => rfl
  | k + 16, h1 => omega
end Go.Proofs.Ythehmanifcfnpaa
