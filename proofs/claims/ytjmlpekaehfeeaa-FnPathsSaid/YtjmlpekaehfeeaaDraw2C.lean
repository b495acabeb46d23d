/- What DrawKeyOf and DrawCommonOf make: lists of at most nine numbers, the old world as it was. -/
import Derived.Test.YtjmlpekaehfeeaaDraw2P
namespace Go.Proofs.Ytjmlpekaehfeeaa
set_option maxRecDepth 20000
open Go.RowKit

/-- a list of at most m numbers was made, the old world is as it was. -/
def Path2 (w : World) (m : Nat) (e : Ending) (w' : World) : Prop := ∃ A n c xs, n ≤ m ∧ e = .returned (.slice A n c) ∧ OwnI w' w.heap.size A n c xs ∧ Below w.heap.size w w'
theorem drawKeyOf_any (A : Option Addr) (n c : Nat) (zs : List Int) (w : World) (hn : n ≤ 4096) (hb : Byts w w.heap.size A n zs) :
    Calls Try.prog 13 #[.slice A n c] w (Path2 w 9) := by
  have HB := Lib.hid hb
  clear hb
  go_enter Try.func13, Try.ntmps13
  go_wp2_with fail
  refine (new_any _ _ _ zs _ hn HB.out).mono ?_
  rintro e w1 ⟨g, rfl, c1, b1⟩
  have C1 := Lib.hid c1
  have B1 := Lib.hid b1
  clear c1 b1
  go_wp2_with fail
  refine (l2DrawPath_any _ _ _ C1.out).mono ?_
  rintro e w2 ⟨r, n2, c2, xs, hn2, rfl, m2, k2, g2⟩
  have M2 := Lib.hid m2
  have G2 := Lib.hid g2
  clear m2 k2 g2
  go_wp2
  go_ret
  exact ⟨_, n2, c2, xs, hn2, rfl, M2.out.base B1.out.size, B1.out.trans (grown_below G2.out B1.out.size C1.out.ge)⟩

theorem l1Copy_any (r n c : Nat) (xs : List Int) (base : Nat) (w : World) (hn : n ≤ 1048576) (hx : OwnI w base (some ⟨r, 0, none⟩) n c xs) :
    Calls Try.prog 53 #[.slice (some ⟨r, 0, none⟩) n c] w fun e w' => ∃ r' c', e = .returned (.slice (some ⟨r', 0, none⟩) n c') ∧ OwnI w' w.heap.size (some ⟨r', 0, none⟩) n c' xs ∧ Below w.heap.size w w' := by
  have HX := Lib.hid hx
  have hl := hx.lt
  have hlen := hx.len
  clear hx
  obtain ⟨i0, hi, hz0, hz1, hz2⟩ := info_parts Try.infoI
  have HI := Lib.hid hi
  have HZ0 := Lib.hid hz0
  have HZ1 := Lib.hid hz1
  have HZ2 := Lib.hid hz2
  clear hi hz0 hz1 hz2
  have HE := Lib.hid (OwnI.empty w w.heap.size (Nat.le_refl _))
  go_enter Try.func53, Try.ntmps53
  go_wp2_with (at_builtin; refine wpList_append_own _ rfl _ _ 25 rfl w.heap.size 2 i0 (.int .i64 0) 1 8 Try.underlying25 HI.out HZ0.out HZ1.out HZ2.out rfl (by decide) _ _ _ rfl HE.out ⟨r, 0, none⟩ n c (xs.map (Value.int .i64)) rfl ?c1 ?c2 ?c3 ?c4 ?c5 ?c6 ?_)
  case c1 => simp [hlen]
  case c2 =>
    intro j u hj
    have hadd : (⟨r, 0, none⟩ : Addr).add j = ⟨r, j, none⟩ := by unfold Addr.add; split <;> simp_all
    have h := World.ownsRow.cells HX.out (g := r) rfl j u hj
    rw [hadd] at h ⊢
    rw [World.cell?_alloc_lt w _ _ (by simp; omega)]
    exact h
  case c3 =>
    intro u hu
    obtain ⟨z, _, rfl⟩ := List.mem_map.1 hu
    rfl
  case c4 => unfold maxLen; omega
  case c5 => omega
  case c6 => simp
  intro v' w1 hown' hgrow hnil
  have hv : ∃ r' c', v' = .slice (some ⟨r', 0, none⟩) n c' := by
    rcases hown'.2 with ⟨e, _⟩ | ⟨g, cap, cur, e, _⟩
    · exact absurd e hnil
    · exact ⟨g, cap, e⟩
  obtain ⟨r', c', rfl⟩ := hv
  have hm : OwnI w1 w.heap.size (some ⟨r', 0, none⟩) n c' xs := by
    unfold OwnI
    simpa using hown'
  have hb : Below w.heap.size w w1 := ((Below.refl _ _).alloc (Nat.le_refl _) _).grown hgrow (by simp) (fun g hg => (World.ownsRow.lt HE.out g hg).1)
  have HM := Lib.hid hm
  have HB := Lib.hid hb
  clear hm hb hown' hgrow hnil
  go_wp2
  go_ret
  exact ⟨r', c', rfl, HM.out, HB.out⟩

/-- two lists of at most m numbers were made, the old world is as it was. -/
def Path3 (w : World) (m : Nat) (e : Ending) (w' : World) : Prop :=
  ∃ A n c xs A' n' c' ys, n ≤ m ∧ n' ≤ m ∧ e = .returned (.tuple #[.slice A n c, .slice A' n' c']) ∧ OwnI w' w.heap.size A n c xs ∧ OwnI w' w.heap.size A' n' c' ys ∧ Below w.heap.size w w'

theorem drawCommonOf_any (A : Option Addr) (n c : Nat) (zs : List Int) (w : World) (hn : n ≤ 4096) (hb : Byts w w.heap.size A n zs) :
    Calls Try.prog 14 #[.slice A n c] w (Path3 w 9) := by
  have HB := Lib.hid hb
  clear hb
  go_enter Try.func14, Try.ntmps14
  go_wp2_with fail
  refine (new_any _ _ _ zs _ hn HB.out).mono ?_
  rintro e w1 ⟨g, rfl, c1, b1⟩
  have C1 := Lib.hid c1
  have B1 := Lib.hid b1
  have hge := c1.ge
  have hlt := c1.lt
  clear c1 b1
  go_wp2_with fail
  refine (l2DrawPath_any _ _ _ C1.out).mono ?_
  rintro e w2 ⟨r, n2, c2, xs, hn2, rfl, m2, k2, g2⟩
  have M2 := Lib.hid m2
  have C2 := Lib.hid k2
  have B2 := Lib.hid (B1.out.trans (grown_below g2 B1.out.size hge))
  have hl2 := m2.lt
  have s2 := g2.size
  clear m2 k2 g2 C1 B1
  go_wp2_with fail
  refine (l1Copy_any r n2 c2 xs _ _ (by omega) M2.out).mono ?_
  rintro e w3 ⟨r3, c3, rfl, m3, b3⟩
  have M3 := Lib.hid m3
  have hl3 := m3.lt
  have X3 := Lib.hid (M2.out.below b3)
  have g3 : w2.grownBy w3 (some g) := ⟨b3.os, b3.tape, b3.output, b3.size, fun k hk _ => b3.block k hk⟩
  have C3 := Lib.hid (C2.out.grown (row := none) ⟨b3.os, b3.tape, b3.output, b3.size, fun k hk _ => b3.block k hk⟩ (fun r h => by cases h))
  have B3 := Lib.hid (B2.out.trans (b3.mono B2.out.size))
  have s3 := b3.size
  clear m3 b3 g3 C2 M2
  by_cases hpos : 0 < n2
  · go_wp2_with fail
    refine (once_any _ _ g 2 (by omega) (by omega) C3.out).mono ?_
    rintro e w4 ⟨b4, rfl, c4, g4⟩
    have X4 := Lib.hid (X3.out.grown g4 (fun r h => by cases h; exact hlt))
    have Y4 := Lib.hid (M3.out.grown g4 (fun r h => by cases h; omega))
    have C4 := Lib.hid c4
    have B4 := Lib.hid (B3.out.trans (grown_below g4 B3.out.size hge))
    clear c4 g4 X3 M3 C3
    cases b4
    · go_wp2_with fail
      refine (once_any _ _ g 3 (by omega) (by omega) C4.out).mono ?_
      rintro e w7 ⟨b7, rfl, c7, g7⟩
      have X7 := Lib.hid (X4.out.grown g7 (fun r h => by cases h; exact hlt))
      have Y7 := Lib.hid (Y4.out.grown g7 (fun r h => by cases h; omega))
      have C7 := Lib.hid c7
      have B7 := Lib.hid (B4.out.trans (grown_below g7 B4.out.size hge))
      clear c7 g7
      have s7 := B7.out.size
      cases b7
      · go_wp2
        go_ret2
        exact ⟨_, n2, c2, xs, _, n2, c3, xs, hn2, hn2, rfl, X7.out.base (by omega), Y7.out.base (by omega), B7.out⟩
      · go_wp2_with fail
        refine (l2DrawPath_any _ _ _ C7.out).mono ?_
        rintro e w8 ⟨r8, n8, c8, zs8, hn8, rfl, m8, k8, g8⟩
        have X8 := Lib.hid (X7.out.grown g8 (fun r h => by cases h; exact hlt))
        have M8 := Lib.hid m8
        have B8 := Lib.hid (B7.out.trans (grown_below g8 s7 hge))
        clear m8 k8 g8
        go_wp2
        go_ret2
        exact ⟨_, n2, c2, xs, _, n8, c8, zs8, hn2, hn8, rfl, X8.out.base (by omega), M8.out.base s7, B8.out⟩
    · go_wp2_with fail
      refine (below_any _ _ g n2 (by omega) (by omega) C4.out).mono ?_
      rintro e w5 ⟨k, hk0, hk1, rfl, c5, g5⟩
      obtain ⟨k, rfl⟩ : ∃ q : Nat, k = q := ⟨k.toNat, by omega⟩
      have X5 := Lib.hid (X4.out.grown g5 (fun r h => by cases h; exact hlt))
      have Y5 := Lib.hid (Y4.out.grown g5 (fun r h => by cases h; omega))
      have C5 := Lib.hid c5
      have B5 := Lib.hid (B4.out.trans (grown_below g5 B4.out.size hge))
      clear c5 g5 X4 Y4 C4
      go_wp2_with fail
      refine (below_any _ _ g 16 (by omega) (by omega) C5.out).mono ?_
      rintro e w6 ⟨z, hz0, hz1, rfl, c6, g6⟩
      have hx6 := X5.out.grown g6 (fun r h => by cases h; exact hlt)
      have hy6 := Y5.out.grown g6 (fun r h => by cases h; omega)
      have hb6 := B5.out.trans (grown_below g6 B5.out.size hge)
      have hs6 := hb6.size
      have hcell := hy6.cell (k := k) (by omega)
      have hfree := hy6.free k
      obtain ⟨hset, hgs⟩ := hy6.set_ k z
      have X6 := Lib.hid (hx6.apart hgs (by omega))
      have Y6 := Lib.hid hset
      have C6 := Lib.hid (c6.grown hgs (fun r h => by cases h; omega))
      have B6 := Lib.hid (hb6.trans (grown_below hgs hs6 (by omega)))
      clear c6 g6 hx6 hy6 hset hgs X5 Y5 C5 hb6
      go_wp2_with fail
      refine (once_any _ _ g 3 (by omega) (by omega) C6.out).mono ?_
      rintro e w7 ⟨b7, rfl, c7, g7⟩
      have X7 := Lib.hid (X6.out.grown g7 (fun r h => by cases h; exact hlt))
      have Y7 := Lib.hid (Y6.out.grown g7 (fun r h => by cases h; omega))
      have C7 := Lib.hid c7
      have B7 := Lib.hid (B6.out.trans (grown_below g7 B6.out.size hge))
      clear c7 g7
      have s7 := B7.out.size
      cases b7
      · go_wp2
        go_ret2
        exact ⟨_, n2, c2, xs, _, n2, c3, (xs.set k z), hn2, hn2, rfl, X7.out.base (by omega), Y7.out.base (by omega), B7.out⟩
      · go_wp2_with fail
        refine (l2DrawPath_any _ _ _ C7.out).mono ?_
        rintro e w8 ⟨r8, n8, c8, zs8, hn8, rfl, m8, k8, g8⟩
        have X8 := Lib.hid (X7.out.grown g8 (fun r h => by cases h; exact hlt))
        have M8 := Lib.hid m8
        have B8 := Lib.hid (B7.out.trans (grown_below g8 s7 hge))
        clear m8 k8 g8
        go_wp2
        go_ret2
        exact ⟨_, n2, c2, xs, _, n8, c8, zs8, hn2, hn8, rfl, X8.out.base (by omega), M8.out.base s7, B8.out⟩
  · go_wp2_with fail
    refine (once_any _ _ g 3 (by omega) (by omega) C3.out).mono ?_
    rintro e w7 ⟨b7, rfl, c7, g7⟩
    have X7 := Lib.hid (X3.out.grown g7 (fun r h => by cases h; exact hlt))
    have Y7 := Lib.hid (M3.out.grown g7 (fun r h => by cases h; omega))
    have C7 := Lib.hid c7
    have B7 := Lib.hid (B3.out.trans (grown_below g7 B3.out.size hge))
    clear c7 g7
    have s7 := B7.out.size
    cases b7
    · go_wp2
      go_ret2
      exact ⟨_, n2, c2, xs, _, n2, c3, xs, hn2, hn2, rfl, X7.out.base (by omega), Y7.out.base (by omega), B7.out⟩
    · go_wp2_with fail
      refine (l2DrawPath_any _ _ _ C7.out).mono ?_
      rintro e w8 ⟨r8, n8, c8, zs8, hn8, rfl, m8, k8, g8⟩
      have X8 := Lib.hid (X7.out.grown g8 (fun r h => by cases h; exact hlt))
      have M8 := Lib.hid m8
      have B8 := Lib.hid (B7.out.trans (grown_below g8 s7 hge))
      clear m8 k8 g8
      go_wp2
      go_ret2
      exact ⟨_, n2, c2, xs, _, n8, c8, zs8, hn2, hn8, rfl, X8.out.base (by omega), M8.out.base s7, B8.out⟩
end Go.Proofs.Ytjmlpekaehfeeaa
