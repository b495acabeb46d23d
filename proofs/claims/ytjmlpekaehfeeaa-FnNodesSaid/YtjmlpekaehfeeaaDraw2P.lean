/- The lists of numbers that chapter 2 draws: one of the call's own, two of them. -/
import Derived.Test.YtjmlpekaehfeeaaDraw2
namespace Go.Proofs.Ytjmlpekaehfeeaa
set_option maxRecDepth 20000
open Go.RowKit

theorem OwnI.apart {w w' : World} {base n c r r' : Nat} {xs : List Int} (h : OwnI w base (some ⟨r, 0, none⟩) n c xs) (hg : w.grownBy w' (some r')) (hne : r ≠ r') : OwnI w' base (some ⟨r, 0, none⟩) n c xs :=
  World.ownsRow.kept h hg (.inr (by simp [Value.ownBlock]; exact hne))
theorem OwnI.lt {w : World} {base n c r : Nat} {xs : List Int} (h : OwnI w base (some ⟨r, 0, none⟩) n c xs) : base ≤ r ∧ r < w.heap.size := World.ownsRow.lt h r rfl

/-- a list of at most m numbers was drawn into a row of the call's own. -/
def Path1 (w : World) (B g : Nat) (m : Nat) (e : Ending) (w' : World) : Prop :=
  ∃ r n c xs, n ≤ m ∧ e = .returned (.slice (some ⟨r, 0, none⟩) n c) ∧ OwnI w' w.heap.size (some ⟨r, 0, none⟩) n c xs ∧ Cur w' B g ∧ w.grownBy w' (some g)

/-- what an append to a list of the call's own leaves. -/
theorem appended {w0 w1 w2 : World} {B g r n c r' c' m : Nat} {xs ys : List Int} {o : Obj} (hlt : g < w0.heap.size) (hown : OwnI w1 w0.heap.size (some ⟨r, 0, none⟩) n c xs) (hc : Cur w1 B g) (hg : w0.grownBy w1 (some g))
    (hown' : w2.ownsRow w0.heap.size 2 1 (.slice (some ⟨r', 0, none⟩) m c') m (xs.map (Value.int .i64) ++ ys.map (Value.int .i64))) (hgrow : (w1.alloc o).grownBy w2 (Value.slice (some ⟨r, 0, none⟩) n c).ownBlock) :
    OwnI w2 w0.heap.size (some ⟨r', 0, none⟩) m c' (xs ++ ys) ∧ Cur w2 B g ∧ w0.grownBy w2 (some g) := by
  have hl := hown.lt
  have hge := hc.ge
  have hg1 : w1.grownBy w2 (some r) := (World.grownBy_alloc w1 o (some r)).trans hgrow
  refine ⟨?_, hc.grown hg1 (fun k e => by cases e; omega), grown_new hg hg1 hl.1⟩
  unfold OwnI
  rw [List.map_append]
  exact hown'

theorem l2DrawPath_any (w : World) (B g : Nat) (hc : Cur w B g) :
    Calls Try.prog 52 #[.pointer (some ⟨g, 0, none⟩)] w (Path1 w B g 9) := by
  have hlt := hc.lt
  have HC := Lib.hid hc
  clear hc
  obtain ⟨i0, hi, hz0, hz1, hz2⟩ := info_parts Try.infoI
  have HI := Lib.hid hi
  have HZ0 := Lib.hid hz0
  have HZ1 := Lib.hid hz1
  have HZ2 := Lib.hid hz2
  clear hi hz0 hz1 hz2
  go_enter Try.func52, Try.ntmps52
  go_wp2_with fail
  refine (below_any _ B g 6 (by omega) (by omega) (HC.out.grown (World.grownBy_alloc w _ none) (fun r h => by cases h))).mono ?_
  rintro e w1 ⟨r, hr0, hr1, rfl, c1, g1⟩
  have M1 := Lib.hid ((OwnI.empty w w.heap.size (Nat.le_refl _)).grown g1 (fun r h => by cases h; exact hlt))
  have G1 := Lib.hid ((World.grownBy_alloc w _ (some g)).trans g1)
  have C1 := Lib.hid c1
  obtain ⟨q, rfl⟩ : ∃ q : Nat, r = q := ⟨r.toNat, by omega⟩
  clear g1 c1 HC
  go_wp2
  go_loopw [3, 4] (fun s n wr => ∃ (r m c k : Nat) (xs : List Int), k ≤ 5 ∧ m + k ≤ 5 ∧ n = .int .i64 k ∧ s = .slice (some ⟨r, 0, none⟩) m c ∧ OwnI wr w.heap.size (some ⟨r, 0, none⟩) m c xs ∧ Cur wr B g ∧ w.grownBy wr (some g)) (fun _ n _ => (intOf n).toNat)
  case atStart => exact ⟨_, 0, 0, q, [], by omega, by omega, rfl, rfl, M1.out, C1.out, G1.out⟩
  case round =>
    obtain ⟨r, m, c, k', xs, hk5, hmk, rfl, rfl, hown, hcr, hgr⟩ := hrel
    have MR := Lib.hid hown
    have CR := Lib.hid hcr
    have GR := Lib.hid hgr
    clear hown hcr hgr M1 C1 G1
    have hs := GR.out.size
    rcases k' with _ | k'
    · go_wp2_with fail
      refine (once_any _ B g 10 (by omega) (by omega) CR.out).mono ?_
      rintro e w2 ⟨b, rfl, c2, g2⟩
      have M2 := Lib.hid (MR.out.grown g2 (fun r h => by cases h; exact hlt))
      have G2 := Lib.hid (GR.out.trans g2)
      have C2 := Lib.hid c2
      clear g2 c2 MR CR
      cases b
      · go_wp2_with fail
        refine (once_any _ B g 12 (by omega) (by omega) C2.out).mono ?_
        rintro e w5 ⟨b5, rfl, c5, g5⟩
        have M5 := Lib.hid (M2.out.grown g5 (fun r h => by cases h; exact hlt))
        have G5 := Lib.hid (G2.out.trans g5)
        have C5 := Lib.hid c5
        have hs5 := G5.out.size
        clear g5 c5
        cases b5
        · go_wp2
          go_ret
          exact ⟨_, _, _, _, by omega, rfl, M5.out, C5.out, G5.out⟩
        · go_wp2_with (at_builtin; refine wpList_append_lies _ rfl _ _ 25 rfl w.heap.size 2 i0 (.int .i64 0) 1 8 Try.underlying25 HI.out HZ0.out HZ1.out HZ2.out rfl (by decide) _ _ _ rfl (M5.out.alloc _) ⟨w5.heap.size, 0, none⟩ 3 3 ([1, 2, 3].map (Value.int .i64)) rfl rfl ?p1 ?p2 (by omega) ?p3 ?p4 ?p5 _ rfl ?_)
          case p1 =>
            intro j u hj
            match j, hj with
            | 0, hj => simp at hj; subst hj; simp [Addr.add]
            | 1, hj => simp at hj; subst hj; simp [Addr.add]
            | 2, hj => simp at hj; subst hj; simp [Addr.add]
          case p2 => intro u hu; simp at hu; rcases hu with rfl | rfl | rfl <;> rfl
          case p3 => unfold maxLen; omega
          case p4 => omega
          case p5 => simp; omega
          intro r6 c6 w6 hown6 hgrow6 _ _
          obtain ⟨m6, k6, g6⟩ := appended hlt M5.out C5.out G5.out (xs := xs) (ys := [1, 2, 3]) (by simpa using hown6) hgrow6
          have M6 := Lib.hid m6
          have C6 := Lib.hid k6
          have G6 := Lib.hid g6
          clear m6 k6 g6 hown6 hgrow6
          go_wp2
          go_ret
          exact ⟨_, _, _, _, by omega, rfl, M6.out, C6.out, G6.out⟩
      · go_wp2_with fail
        refine (from_m1 _ B g C2.out).mono ?_
        rintro e w3 ⟨z, rfl, c3, g3⟩
        have M3 := Lib.hid (M2.out.grown g3 (fun r h => by cases h; exact hlt))
        have G3 := Lib.hid (G2.out.trans g3)
        have C3 := Lib.hid c3
        have hs3 := G3.out.size
        clear g3 c3 M2 C2
        go_wp2_with (at_builtin; refine wpList_append_lies _ rfl _ _ 25 rfl w.heap.size 2 i0 (.int .i64 0) 1 8 Try.underlying25 HI.out HZ0.out HZ1.out HZ2.out rfl (by decide) _ _ _ rfl (M3.out.alloc _) ⟨w3.heap.size, 0, none⟩ 1 1 ([z].map (Value.int .i64)) rfl rfl ?q1 ?q2 (by omega) ?q3 ?q4 ?q5 _ rfl ?_)
        case q1 =>
          intro j u hj
          match j, hj with
          | 0, hj => simp at hj; subst hj; simp [Addr.add]
        case q2 => intro u hu; simp at hu; subst hu; rfl
        case q3 => unfold maxLen; omega
        case q4 => omega
        case q5 => simp; omega
        intro r4 c4 w4 hown4 hgrow4 _ _
        obtain ⟨m4, k4, g4⟩ := appended hlt M3.out C3.out G3.out (xs := xs) (ys := [z]) (by simpa using hown4) hgrow4
        have M4 := Lib.hid m4
        have C4 := Lib.hid k4
        have G4 := Lib.hid g4
        clear m4 k4 g4 hown4 hgrow4
        go_wp2_with fail
        refine (once_any _ B g 12 (by omega) (by omega) C4.out).mono ?_
        rintro e w5 ⟨b5, rfl, c5, g5⟩
        have M5 := Lib.hid (M4.out.grown g5 (fun r h => by cases h; exact hlt))
        have G5 := Lib.hid (G4.out.trans g5)
        have C5 := Lib.hid c5
        have hs5 := G5.out.size
        clear g5 c5
        cases b5
        · go_wp2
          go_ret
          exact ⟨_, _, _, _, by omega, rfl, M5.out, C5.out, G5.out⟩
        · go_wp2_with (at_builtin; refine wpList_append_lies _ rfl _ _ 25 rfl w.heap.size 2 i0 (.int .i64 0) 1 8 Try.underlying25 HI.out HZ0.out HZ1.out HZ2.out rfl (by decide) _ _ _ rfl (M5.out.alloc _) ⟨w5.heap.size, 0, none⟩ 3 3 ([1, 2, 3].map (Value.int .i64)) rfl rfl ?s1 ?s2 (by omega) ?s3 ?s4 ?s5 _ rfl ?_)
          case s1 =>
            intro j u hj
            match j, hj with
            | 0, hj => simp at hj; subst hj; simp [Addr.add]
            | 1, hj => simp at hj; subst hj; simp [Addr.add]
            | 2, hj => simp at hj; subst hj; simp [Addr.add]
          case s2 => intro u hu; simp at hu; rcases hu with rfl | rfl | rfl <;> rfl
          case s3 => unfold maxLen; omega
          case s4 => omega
          case s5 => simp; omega
          intro r6 c6 w6 hown6 hgrow6 _ _
          obtain ⟨m6, k6, g6⟩ := appended hlt M5.out C5.out G5.out (xs := (xs ++ [z])) (ys := [1, 2, 3]) (by simpa using hown6) hgrow6
          have M6 := Lib.hid m6
          have C6 := Lib.hid k6
          have G6 := Lib.hid g6
          clear m6 k6 g6 hown6 hgrow6
          go_wp2
          go_ret
          exact ⟨_, _, _, _, by omega, rfl, M6.out, C6.out, G6.out⟩
    · have hcast : (((k' + 1 : Nat) : Int)) = (k' : Int) + 1 := by omega
      rw [hcast]
      clear hcast
      go_wp2_with fail
      refine (below_any _ B g 4 (by omega) (by omega) (CR.out.grown (World.grownBy_alloc wr _ none) (fun r h => by cases h))).mono ?_
      rintro e w3 ⟨p, hr0, hr1, rfl, c3, g3⟩
      have hblk := g3.block wr.heap.size (by simp) (by intro e; cases e; omega)
      rw [heap_alloc_new] at hblk
      obtain ⟨k, rfl⟩ : ∃ k : Nat, p = k := ⟨p.toNat, by omega⟩
      obtain ⟨z, hz⟩ := int_cell (xs := [1, 2, 10, 15]) hblk k (by simp; omega)
      clear hblk
      have g3' := (World.grownBy_alloc wr _ (some g)).trans g3
      have M3 := Lib.hid (MR.out.grown g3' (fun r h => by cases h; exact hlt))
      have G3 := Lib.hid (GR.out.trans g3')
      have C3 := Lib.hid c3
      clear g3 c3 CR g3' MR
      have hs3 := G3.out.size
      go_wp2_with (at_builtin; refine wpList_append_lies _ rfl _ _ 25 rfl w.heap.size 2 i0 (.int .i64 0) 1 8 Try.underlying25 HI.out HZ0.out HZ1.out HZ2.out rfl (by decide) _ _ _ rfl (M3.out.alloc _) ⟨w3.heap.size, 0, none⟩ 1 1 ([z].map (Value.int .i64)) rfl rfl ?c1 ?c2 (by omega) ?c3 ?c4 ?c5 _ rfl ?_)
      case c1 =>
        intro j u hj
        match j, hj with
        | 0, hj => simp at hj; subst hj; simp [Addr.add]
      case c2 => intro u hu; simp at hu; subst hu; rfl
      case c3 => unfold maxLen; omega
      case c4 => omega
      case c5 => simp; omega
      intro r4 c4 w4 hown4 hgrow4 _ _
      obtain ⟨m4, k4, g4⟩ := appended hlt M3.out C3.out G3.out (xs := xs) (ys := [z]) (by simpa using hown4) hgrow4
      have M4 := Lib.hid m4
      have C4 := Lib.hid k4
      have G4 := Lib.hid g4
      clear m4 k4 g4 hown4 hgrow4
      go_wp2
      go_roundw
      case rel => exact ⟨_, _, _, k', _, by omega, by omega, by go_num, rfl, M4.out, C4.out, G4.out⟩
      case measure => simp [intOf]
end Go.Proofs.Ytjmlpekaehfeeaa
