/- What the program's KeyOk, PathOf, KeyOf and CommonOf answer: for every text, every list. -/
import Derived.Test.YthehmanifcfnpaaInts
import Derived.Test.YthehmanifcfnpaaPathM
import Derived.WalkLawsBesides
import Derived.WalkSpells
import Derived.Lib.OthersKept
import Derived.Laws.RangeAny
namespace Go.Proofs.Ythehmanifcfnpaa
set_option maxRecDepth 20000
open Go.RowKit

theorem worth_yes (r : Int) (w : World) (h : 0 ≤ wd r) :
    Calls Try.prog 61 #[.int .i32 r] w fun e w' => e = .returned (.tuple #[.int .i64 (wd r), .bool true]) ∧ w = w' := by
  by_cases h1 : 48 ≤ r ∧ r ≤ 57
  · obtain ⟨h1a, h1b⟩ := h1
    have e : wd r = r - 48 := if_pos ⟨h1a, h1b⟩
    rw [e]
    clear e h
    go_enter Try.func61, Try.ntmps61
    go_wp2
    go_ret2
    exact ⟨rfl, rfl⟩
  · have h2 : 97 ≤ r ∧ r ≤ 102 := by unfold wd at h; rw [if_neg h1] at h; split at h <;> omega
    have e : wd r = r - 97 + 10 := by unfold wd; rw [if_neg h1, if_pos h2]; omega
    rw [e]
    obtain ⟨h2a, h2b⟩ := h2
    clear e h h1
    go_enter Try.func61, Try.ntmps61
    go_wp2
    go_ret2
    exact ⟨rfl, rfl⟩
theorem worth_no (r : Int) (w : World) (h : wd r < 0) :
    Calls Try.prog 61 #[.int .i32 r] w fun e w' => e = .returned (.tuple #[.int .i64 0, .bool false]) ∧ w = w' := by
  have h1 : ¬ (48 ≤ r ∧ r ≤ 57) := fun h1 => by unfold wd at h; rw [if_pos h1] at h; omega
  have h2 : ¬ (97 ≤ r ∧ r ≤ 102) := fun h2 => by unfold wd at h; rw [if_neg h1, if_pos h2] at h; omega
  have h1 : r < 48 ∨ 57 < r := by omega
  have h2 : r < 97 ∨ 102 < r := by omega
  clear h
  go_enter Try.func61, Try.ntmps61
  rcases h1 with h1 | h1
  · go_wp2
    go_ret2
    exact ⟨rfl, rfl⟩
  · rcases h2 with h2 | h2
    · go_wp2
      go_ret2
      exact ⟨rfl, rfl⟩
    · go_wp2
      go_ret2
      exact ⟨rfl, rfl⟩
theorem own_iter {w : World} {base : Nat} {e : TypeId} {size : Nat} {v : Value} {n : Nat} {xs : List Value} (h : w.ownsRow base e size v n xs) {k : Nat} {s : ByteArray} {p : Nat} (hk : w.heap[k]? = some (.stringIter s p)) (q : Nat) : (w.iterAt k s q).ownsRow base e size v n xs := by
  obtain ⟨h1, h2⟩ := h
  refine ⟨h1, ?_⟩
  rcases h2 with h2 | ⟨g, cap, cur, a, b, c, d⟩
  · exact .inl h2
  · refine .inr ⟨g, cap, cur, a, b, ?_, d⟩
    rw [Lib.iterAt_other _ _ _ _ _ (fun e1 => by rw [e1, hk] at c; cases c)]
    exact c
theorem own_apart {w : World} {base : Nat} {e : TypeId} {size : Nat} {v : Value} {n : Nat} {xs : List Value} (h : w.ownsRow base e size v n xs) {k : Nat} {s : ByteArray} {p : Nat} (hk : w.heap[k]? = some (.stringIter s p)) : some k ≠ v.ownBlock := by
  rcases h.2 with ⟨rfl, _⟩ | ⟨g, cap, cur, rfl, b, c, d⟩
  · exact fun h => by cases h
  · intro e1
    cases e1
    rw [hk] at c
    cases c

theorem pathOf_any (s : ByteArray) (w : World) (hs : s.size ≤ 1048576) :
    Calls Try.prog 38 #[.string s] w (GaveI w (pathOf (sb s))) := by
  by_cases hl : 8 < s.size
  · have hr := Lib.hid (pathOf_long (sb s) (by rw [sb_len]; exact hl))
    go_enter Try.func38, Try.ntmps38
    go_wp2
    go_ret
    exact ⟨none, 0, 0, rfl, by rw [hr.out]; exact OwnI.nil _ _, Below.refl _ _⟩
  · obtain ⟨i0, hi, hz0, hz1, hz2⟩ := info_parts Try.infoI
    have hmk : ∀ W : World, (Instr.makeSlice 52 (.int .i64 0) (.int .i64 (s.size : Int))).run Try.prog W = .ok (.slice (some ⟨W.heap.size, 0, none⟩) 0 s.size) (W.alloc (.cells (filledI [] s.size 0) 2)) := by
      intro W
      have hr := run_make (P := Try.prog) W 52 2 i0 (.int .i64 0) Try.underlying52 hi hz0 .i64 .i64 0 s.size (by omega) (by omega) (by rw [hz2]; omega) (by omega)
      simp only [Int.toNat_natCast] at hr
      rw [hr, hz1, Nat.mul_one]
      show Result.ok _ (W.alloc (.cells (madeCells #[.int .i64 0] s.size) _)) = _
      rw [filledI_none [] s.size]
      rfl
    have HI := Lib.hid hi
    have HZ0 := Lib.hid hz0
    have HZ1 := Lib.hid hz1
    have HZ2 := Lib.hid hz2
    clear hi hz0 hz1 hz2
    go_enter Try.func38, Try.ntmps38
    go_wp2
    clear hmk
    go_loopw [3] (fun v wr => ∃ pos : Nat, pos ≤ s.size ∧ wr.ownsRow w.heap.size 2 1 v pos ((((sb s).take pos).map wd).map (Value.int .i64)) ∧ (∀ z ∈ (sb s).take pos, 0 ≤ wd z) ∧ wr.heap[w.heap.size + 1]? = some (.stringIter s pos) ∧ Below w.heap.size w wr) (fun _ wr => s.size - wr.iterPos (w.heap.size + 1))
    case atStart =>
      refine ⟨0, Nat.zero_le _, ?_, by simp, by simpa using World.iter_heap (w.alloc (.cells (filledI [] s.size 0) 2)) s 0, ((Below.refl _ _).alloc (Nat.le_refl _) _).alloc (by simp) _⟩
      exact (World.ownsRow_made w (filledI [] s.size 0) s.size (Nat.le_refl _) (by unfold maxLen; omega) (by simp [filledI, i64s])).alloc _
    case round =>
      obtain ⟨pos, hpos, hown, hgood, hit, hbel⟩ := hrel
      have hlen := sb_len s
      by_cases hp : pos < s.size
      · have hat := sb_at s pos hp
        by_cases ha : (s[pos]'hp).toNat < 128
        · have hnx : ∀ ty, (Instr.next (.pointer (some ⟨w.heap.size + 1, 0, none⟩)) true ty).run Try.prog wr = _ := fun ty => Lib.run_next_ascii_at wr (w.heap.size + 1) s pos ty hit hp ha
          by_cases hw : 0 ≤ wd ((s[pos]'hp).toNat)
          · have hown1 := own_iter hown hit (pos + 1)
            have hit1 := Lib.iterAt_heap wr (w.heap.size + 1) s pos (pos + 1) hit
            have hbel1 := Lib.below_iterAt hbel (Nat.le_succ _) s (pos + 1)
            generalize hW : wr.iterAt (w.heap.size + 1) s (pos + 1) = wi at hnx hown1 hit1 hbel1
            have hsz := hbel1.size
            go_wp2_with fail
            refine (worth_yes _ _ hw).mono ?_
            rintro e w' ⟨rfl, rfl⟩
            clear hnx
            go_wp2_with (at_builtin; refine wpList_append_own_at _ rfl _ _ 52 rfl w.heap.size 2 i0 (.int .i64 0) 1 8 Try.underlying52 HI.out HZ0.out HZ1.out HZ2.out rfl (by decide) _ _ _ rfl (hown1.alloc _) ⟨wi.heap.size, 0, none⟩ 1 1 [.int .i64 (wd ((s[pos]'hp).toNat))] rfl rfl ?c1 ?c2 ?c3 ?c4 ?c5 ?_)
            case c1 =>
              intro j u hj
              match j, hj with
              | 0, hj => simp at hj; subst hj; simp [Addr.add]
            case c2 => intro u hu; simp at hu; subst hu; rfl
            case c3 => unfold maxLen; omega
            case c4 => omega
            case c5 => simp; omega
            intro v' w1 hown' hgrow _ _
            have hown2 : w1.ownsRow w.heap.size 2 1 v' (pos + 1) ((((sb s).take (pos + 1)).map wd).map (Value.int .i64)) := by
              rw [map_take_step wd (sb s) pos (by omega), hat]
              simpa using hown'
            have hlt1 : w.heap.size + 1 < wi.heap.size := (Array.getElem?_eq_some_iff.1 hit1).1
            have hit2 := ((hgrow.block (w.heap.size + 1) (by simp; omega) (own_apart hown1 hit1)).trans ((World.grownBy_alloc wi _ none).block _ hlt1 (by simp))).trans hit1
            have hb1 : Below w.heap.size w w1 := (hbel1.alloc hsz _).grown hgrow (by simp; omega) (fun g hg => (hown1.lt g hg).1)
            have hg1 := good_step (sb s) pos (by omega) hgood (by rw [hat]; exact hw)
            clear hown' hgrow hown1 hbel1 hown hbel hit1
            go_wp2
            go_roundw
            case rel => exact ⟨pos + 1, by omega, hown2, hg1, hit2, hb1⟩
            case measure => rw [iterPos_of hit2, iterPos_of hit]; omega
          · go_wp2_with fail
            refine (worth_no _ _ (by omega)).mono ?_
            rintro e w' ⟨rfl, rfl⟩
            go_wp2
            go_ret
            exact ⟨none, 0, 0, rfl, by rw [pathOf_bad (sb s) pos (by omega) (by rw [hat]; omega)]; exact OwnI.nil _ _, Lib.below_iterAt hbel (Nat.le_succ _) s _⟩
        · have hd := decode_high s pos hp (by omega)
          have hnx : ∀ ty, (Instr.next (.pointer (some ⟨w.heap.size + 1, 0, none⟩)) true ty).run Try.prog wr = _ := fun ty => Lib.run_next_any_at wr (w.heap.size + 1) s pos ty hit hp
          have hw : wd ((Utf8.decode s pos).1 : Int) < 0 := by unfold wd; rw [if_neg (by omega), if_neg (by omega)]; omega
          have hw2 : wd ((s[pos]'hp).toNat : Int) < 0 := by unfold wd; rw [if_neg (by omega), if_neg (by omega)]; omega
          go_wp2_with fail
          refine (worth_no _ _ hw).mono ?_
          rintro e w' ⟨rfl, rfl⟩
          go_wp2
          go_ret
          exact ⟨none, 0, 0, rfl, by rw [pathOf_bad (sb s) pos (by omega) (by rw [hat]; omega)]; exact OwnI.nil _ _, Lib.below_iterAt hbel (Nat.le_succ _) s _⟩
      · have hnx : ∀ ty, (Instr.next (.pointer (some ⟨w.heap.size + 1, 0, none⟩)) true ty).run Try.prog wr = _ := fun ty => Lib.run_next_end_at wr (w.heap.size + 1) s pos ty hit hp
        obtain rfl : pos = s.size := by omega
        obtain ⟨A, c, rfl⟩ := own_slice hown
        go_wp2
        go_ret
        have e : (sb s).take s.size = sb s := List.take_of_length_le (by omega)
        rw [e] at hown hgood
        exact ⟨A, s.size, c, rfl, by rw [pathOf_good (sb s) (by omega) hgood]; exact hown, hbel⟩
theorem keyOk_any (s : ByteArray) (w : World) (hs : s.size ≤ 1048576) :
    Calls Try.prog 22 #[.string s] w fun e w' => e = .returned (.bool (isKey (sb s))) ∧ Below w.heap.size w w' := by
  have hp := Lib.hid (pathOf_pos (sb s))
  go_enter Try.func22, Try.ntmps22
  go_wp2_with fail
  refine (pathOf_any s _ hs).mono ?_
  rintro e w1 ⟨A, n, c, rfl, hown, hbel⟩
  have hn := hown.len
  have e0 : decide (0 < n) = isKey (sb s) := by rw [← hp.out, hn]
  have H := Lib.hid e0
  clear hown e0
  go_wp2
  go_ret
  exact ⟨by rw [← H.out]; rfl, hbel⟩
end Go.Proofs.Ythehmanifcfnpaa
