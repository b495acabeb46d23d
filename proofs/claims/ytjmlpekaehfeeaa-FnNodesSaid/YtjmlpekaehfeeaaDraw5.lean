/- What DrawNodeBytes, DrawValueOk and DrawNodeFrom make: a node, a text, some bytes of the call's own; the old world is as it was. -/
import Derived.Test.YtjmlpekaehfeeaaDraw4
import Derived.Test.YtjmlpekaehfeeaaNodeB
import Derived.Test.YtjmlpekaehfeeaaReadP
namespace Go.Proofs.Ytjmlpekaehfeeaa
set_option maxRecDepth 20000
set_option linter.unusedSimpArgs false
set_option linter.unusedVariables false
open Go.RowKit

/-- a node was made, the old world is as it was. -/
def NodeMade (w : World) (e : Ending) (w' : World) : Prop :=
  ∃ v nd, e = .returned v ∧ OwnN w' w.heap.size v nd ∧ NodeWf nd ∧ nd.path.length ≤ 9 ∧ nd.kids.length ≤ 3 ∧ nd.val.size ≤ 13 ∧ Below w.heap.size w w'
theorem drawNodeBytes_any (A : Option Addr) (n c : Nat) (zs : List Int) (w : World) (hn : n ≤ 4096) (hb : Byts w w.heap.size A n zs) :
    Calls Try.prog 25 #[.slice A n c] w (NodeMade w) := by
  have HB := Lib.hid hb
  clear hb
  obtain ⟨w1, hw1⟩ : ∃ w1, w.alloc (.cells #[.int .i64 0, .slice none 0 0, .slice none 0 0, .string { data := #[] }] 40) = w1 := ⟨_, rfl⟩
  have x1 : Box w1 w.heap.size 40 #[.int .i64 0, .slice none 0 0, .slice none 0 0, .string { data := #[] }] := hw1 ▸ heap_alloc_new _ _
  have s1 : w.heap.size < w1.heap.size := hw1 ▸ by simp
  have b1 : Below w.heap.size w w1 := hw1 ▸ (Below.refl _ _).alloc (Nat.le_refl _) _
  have X1 := Lib.hid x1
  have B1 := Lib.hid b1
  have HW := Lib.hid hw1
  clear x1 b1 hw1
  go_enter Try.func25, Try.ntmps25
  go_wp2_with fail
  rw [HW.out]
  refine (new_any _ _ _ zs _ hn ((HB.out.below B1.out).more (by omega))).mono ?_
  rintro e w2 ⟨g, rfl, c2, b2⟩
  have hge := c2.ge
  have C2 := Lib.hid c2
  have X2 := Lib.hid (X1.out.below b2 s1)
  have B2 := Lib.hid (B1.out.trans (b2.mono (by omega)))
  have s2 := B2.out.size
  have s12 := b2.size
  clear c2 b2
  go_wp2_with fail
  refine (l3DrawAny_any _ _ _ C2.out).mono ?_
  rintro e w3 ⟨v, nd, rfl, hN, wf, e1, e2, e3, k3, g3⟩
  have X3 := Lib.hid (X2.out.grown g3 (by intro e; cases e; omega))
  have B3 := Lib.hid (B2.out.trans (grown_below g3 s2 (by omega)))
  have V := Lib.hid hN
  obtain ⟨Ap, np, cp, Ak, nk, ck, rfl, _⟩ := hN
  clear k3 g3
  have q10 := X3.out.cell 0
  have q11 := X3.out.cell 1
  have q12 := X3.out.cell 2
  have q13 := X3.out.cell 3
  have f1 := X3.out.free
  simp at q10 q11 q12 q13
  go_wp2
  obtain ⟨hX, hb⟩ := set4 X3.out (.int .i64 nd.kind) (.slice Ap np cp) (.slice Ak nk ck) (.string nd.val)
  refine bodyPost_ret (v := .agg #[.int .i64 nd.kind, .slice Ap np cp, .slice Ak nk ck, .string nd.val]) (results_cell_row Try.results25 _ _ w.heap.size _ _ _ _ rfl hX Try.underlying40 rfl (by kernel_rfl)) rfl ?_
  exact ⟨_, nd, rfl, (V.out.touch hb (fun g hg h => by have := (V.out.blk hg).1; omega)).base (by omega), wf, e1, e2, e3, B3.out.trans (hb.below B3.out.size (fun k hk h => by omega))⟩

theorem drawValueOk_any (A : Option Addr) (n c : Nat) (zs : List Int) (w : World) (hn : n ≤ 4096) (hb : Byts w w.heap.size A n zs) :
    Calls Try.prog 30 #[.slice A n c] w (Text2 w 13) := by
  have HB := Lib.hid hb
  clear hb
  go_enter Try.func30, Try.ntmps30
  go_wp2_with fail
  refine (new_any _ _ _ zs _ hn HB.out).mono ?_
  rintro e w1 ⟨g, rfl, c1, b1⟩
  have C1 := Lib.hid c1
  have B1 := Lib.hid b1
  clear c1 b1
  go_wp2_with fail
  refine (once_any _ _ _ 2 (by omega) (by omega) C1.out).mono ?_
  rintro e w2 ⟨b, rfl, k2, g2⟩
  have K2 := Lib.hid k2
  have hlt := k2.lt
  have hge := k2.ge
  have B2 := Lib.hid (B1.out.trans (grown_below g2 B1.out.size C1.out.ge))
  have s2 := B2.out.size
  clear k2 g2
  cases b
  · go_wp2_with fail
    refine (l3DrawValue_any _ _ _ K2.out).mono ?_
    rintro e w3 ⟨s, hs, rfl, k3, g3⟩
    have B3 := Lib.hid (B2.out.trans (grown_below g3 s2 hge))
    clear k3 g3
    go_wp2
    go_ret
    exact ⟨s, by omega, rfl, B3.out⟩
  · go_wp2_with fail
    refine (below_any _ _ g 5 (by omega) (by omega) (K2.out.grown (World.grownBy_alloc w2 _ none) (fun r h => by cases h))).mono ?_
    rintro e w3 ⟨r, hr0, hr1, rfl, c3, g3⟩
    have hblk := g3.block w2.heap.size (by simp) (by intro e; cases e; omega)
    rw [heap_alloc_new] at hblk
    obtain ⟨k, rfl⟩ : ∃ k : Nat, r = k := ⟨r.toNat, by omega⟩
    obtain ⟨x, hx5, hx⟩ := str_cell (xs := [⟨#[]⟩, ⟨#[65]⟩, ⟨#[97, 32, 98]⟩, ⟨#[97, 98, 99, 100, 101, 102, 103, 104, 105, 106, 107, 108]⟩, ⟨#[97, 98, 99, 100, 101, 102, 103, 104, 105, 106, 107, 108, 109]⟩]) hblk 13 (by decide) k (by simp; omega)
    clear hblk
    have B3 := Lib.hid (B2.out.trans (grown_below ((World.grownBy_alloc w2 _ (some g)).trans g3) s2 hge))
    clear c3 g3
    go_wp2
    go_ret
    exact ⟨x, hx5, rfl, B3.out⟩

theorem mine_cap {w : World} {base n c : Nat} {A : Option Addr} {xs : List Int} (h : Mine w base A n c xs) : n ≤ c := by
  rcases h.1.2 with ⟨e, rfl⟩ | ⟨g, cap, cur, e, _, _, hc, _⟩
  · omega
  · cases e; exact hc
theorem mine_none {w : World} {base n c : Nat} {A : Option Addr} {xs : List Int} (h : Mine w base A n c xs) (hA : A = none) : c = 0 := by
  rcases h.1.2 with ⟨e, rfl⟩ | ⟨g, cap, cur, e, _, _, hc, _⟩
  · cases e; rfl
  · subst hA; cases e
theorem rawBytes_len (nd : MNode) : 4 ≤ (rawBytes nd).length ∧ (rawBytes nd).length ≤ 4 + nd.path.length + nd.val.size + nd.kids.length * 9 := by
  unfold rawBytes
  have h1 := kidBytes_len nd.kids
  have h2 := sb_len nd.val
  simp only [List.length_append, List.length_map, List.length_cons, List.length_nil]
  omega

/-- some bytes were made, the old world is as it was. -/
def BytsMade (w : World) (m : Nat) (e : Ending) (w' : World) : Prop :=
  ∃ A n c xs, n ≤ m ∧ n ≤ c ∧ (A = none → c = 0) ∧ e = .returned (.slice A n c) ∧ Byts w' w'.heap.size A n xs ∧ Below w.heap.size w w'
set_option maxHeartbeats 800000 in
theorem drawNodeFrom_any (A : Option Addr) (n c : Nat) (zs : List Int) (w : World) (hn : n ≤ 4096) (hb : Byts w w.heap.size A n zs) :
    Calls Try.prog 27 #[.slice A n c] w (BytsMade w 256) := by
  have HB := Lib.hid hb
  clear hb
  go_enter Try.func27, Try.ntmps27
  go_wp2_with fail
  refine (new_any _ _ _ zs _ hn HB.out).mono ?_
  rintro e w1 ⟨g, rfl, c1, b1⟩
  have C1 := Lib.hid c1
  have B1 := Lib.hid b1
  have hge := c1.ge
  clear c1 b1
  go_wp2_with fail
  refine (l3Draw_any _ _ _ C1.out).mono ?_
  rintro e w2 ⟨v, nd, rfl, hN, wf, e1, e2, e3, k2, g2⟩
  have K2 := Lib.hid k2
  have hlt := k2.lt
  have B2 := Lib.hid (B1.out.trans (grown_below g2 B1.out.size hge))
  have s2 := B2.out.size
  clear k2 g2
  go_wp2_with fail
  refine (l3Bytes_any v nd _ w2 (Nat.le_refl _) hN.node).mono ?_
  rintro e w3 ⟨r, m, cm, rfl, m3, b3⟩
  have hml : (rawBytes nd).length = m := m3.len
  have hrl := rawBytes_len nd
  have hmc := mine_cap m3
  have M3 := Lib.hid m3
  have K3 : Hid (Cur w3 w.heap.size g) := K2.out.grown (below_grow b3 (row := none)) (fun r h => by cases h)
  have B3 := Lib.hid (B2.out.trans (b3.mono s2))
  have s3 := B3.out.size
  have hlr := (m3.1.lt r rfl).1
  clear b3 m3 hN
  generalize rawBytes nd = xs at hml hrl M3
  go_wp2_with fail
  refine (once_any _ _ _ 2 (by omega) (by omega) K3.out).mono ?_
  rintro e w4 ⟨b, rfl, k4, g4⟩
  have K4 := Lib.hid k4
  have M4 := Lib.hid (M3.out.grown g4 (fun r h => by cases h; omega))
  have B4 := Lib.hid (B3.out.trans (grown_below g4 s3 (by omega)))
  have s4 := B4.out.size
  clear k4 g4
  cases b
  · go_wp2
    go_ret
    exact ⟨some ⟨r, 0, none⟩, m, cm, xs, by omega, hmc, (fun h => by cases h), rfl, M4.out.byts, B4.out⟩
  · go_wp2_with fail
    refine (below_any _ _ g 3 (by omega) (by omega) K4.out).mono ?_
    rintro e w5 ⟨q, hq0, hq1, rfl, k5, g5⟩
    have K5 := Lib.hid k5
    have M5 := Lib.hid (M4.out.grown g5 (fun r h => by cases h; omega))
    have B5 := Lib.hid (B4.out.trans (grown_below g5 s4 (by omega)))
    have s5 := B5.out.size
    clear k5 g5
    have hq : q = 0 ∨ q = 1 ∨ q = 2 := by omega
    rcases hq with rfl | rfl | rfl
    · go_wp2_with fail
      refine (below_any _ _ g (m : Int) (by omega) (by omega) K5.out).mono ?_
      rintro e w6 ⟨i, hi0, hi1, rfl, k6, g6⟩
      obtain ⟨i, rfl⟩ : ∃ k : Nat, i = k := ⟨i.toNat, by omega⟩
      have K6 := Lib.hid k6
      have M6 := Lib.hid (M5.out.grown g6 (fun r h => by cases h; omega))
      have B6 := Lib.hid (B5.out.trans (grown_below g6 s5 (by omega)))
      have s6 := B6.out.size
      clear k6 g6
      go_wp2_with fail
      refine (below_any _ _ g 256 (by omega) (by omega) K6.out).mono ?_
      rintro e w7 ⟨z, hz0, hz1, rfl, k7, g7⟩
      have M7 := Lib.hid (M6.out.grown g7 (fun r h => by cases h; omega))
      have B7 := Lib.hid (B6.out.trans (grown_below g7 s6 (by omega)))
      have hcell := M7.out.cell (k := i) (by omega)
      have hfree := M7.out.free i
      have S7 := Lib.hid (M7.out.set_ i z (by omega))
      have s7 := B7.out.size
      clear k7 g7
      go_wp2
      go_ret
      exact ⟨some ⟨r, 0, none⟩, m, cm, _, by omega, hmc, (fun h => by cases h), rfl, S7.out.1.byts, B7.out.trans (grown_below S7.out.2 s7 (by omega))⟩
    · go_wp2_with fail
      refine (below_any _ _ g (m : Int) (by omega) (by omega) K5.out).mono ?_
      rintro e w6 ⟨i, hi0, hi1, rfl, k6, g6⟩
      obtain ⟨i, rfl⟩ : ∃ k : Nat, i = k := ⟨i.toNat, by omega⟩
      have M6 := Lib.hid (M5.out.grown g6 (fun r h => by cases h; omega))
      have B6 := Lib.hid (B5.out.trans (grown_below g6 s5 (by omega)))
      clear k6 g6
      have hic : (i : Int) ≤ (cm : Int) := by omega
      go_wp2
      go_ret
      exact ⟨some ⟨r, 0, none⟩, i, cm, _, by omega, by omega, (fun h => by cases h), rfl, M6.out.byts.take_ (by omega), B6.out⟩
    · go_wp2_with fail
      refine (below_any _ _ g 3 (by omega) (by omega) K5.out).mono ?_
      rintro e w6 ⟨z, hz0, hz1, rfl, k6, g6⟩
      have M6 := Lib.hid (M5.out.grown g6 (fun r h => by cases h; omega))
      have B6 := Lib.hid (B5.out.trans (grown_below g6 s5 (by omega)))
      have s6 := B6.out.size
      clear k6 g6
      obtain ⟨i0, hi, hz0, hz1, hz2⟩ := info_parts Try.info5
      have s26 : w2.heap.size ≤ w6.heap.size := by have := (M6.out.1.lt r rfl).2; omega
      go_wp2_with (at_builtin; refine wpList_append_lies _ rfl _ _ 22 rfl w2.heap.size 5 i0 (.int .u8 0) 1 1 Try.underlying22 hi hz0 hz1 hz2 rfl (by decide) _ _ _ rfl (M6.out.1.alloc _) ⟨w6.heap.size, 0, none⟩ 1 1 ([z].map (Value.int .u8)) rfl ?a0 ?a1 ?a2 (by omega) ?a3 ?a4 ?a5 _ rfl ?_)
      case a0 => first | rfl | (simp; done)
      case a1 =>
        intro j u hj
        match j, hj with
        | 0, hj => simp at hj; subst hj; simp [Addr.add]
      case a2 => intro u hu; simp at hu; subst hu; rfl
      case a3 => unfold maxLen; omega
      case a4 => omega
      case a5 => simp; omega
      intro g7 c7 w7 hown7 hgrow7 _ _
      have hm7 := M6.out.app (ys := [z]) (by intro y hy; simp at hy; omega) (by simpa using hown7)
      have hb7 : Below w.heap.size w w7 := (B6.out.alloc s6 _).grown hgrow7 (by simp; omega) (fun g hg => by have := (M6.out.1.lt g hg).1; omega)
      have hc7 := mine_cap hm7
      have M7 := Lib.hid hm7
      have B7 := Lib.hid hb7
      clear hm7 hb7 hown7 hgrow7
      go_wp2
      go_ret
      exact ⟨some ⟨g7, 0, none⟩, m + 1, c7, _, by omega, hc7, (fun h => by cases h), rfl, M7.out.byts, B7.out⟩
end Go.Proofs.Ytjmlpekaehfeeaa
