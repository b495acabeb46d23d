/- What chapter 1's drawing functions make: some bytes of the call's own, some number. -/
import Derived.Test.YthehhedmdlephaaCur
import Derived.Test.YthehhedmdlephaaSums
import Derived.Test.YthehhedmdlephaaNameB
namespace Go.Proofs.Ythehhedmdlephaa
open Go.RowKit

theorem Mine.base {w : World} {base base' n c : Nat} {A : Option Addr} {xs : List Int} (h : Mine w base A n c xs) (hb : base' ≤ base) : Mine w base' A n c xs := by
  refine ⟨⟨h.1.1, ?_⟩, h.2⟩
  rcases h.1.2 with h | ⟨g, cap, cur, hv, hg, r⟩
  · exact .inl h
  · exact .inr ⟨g, cap, cur, hv, by omega, r⟩
theorem Mine.grown {w w' : World} {base n c : Nat} {A : Option Addr} {xs : List Int} (h : Mine w base A n c xs) {row : Option Nat} (hg : w.grownBy w' row) (hr : ∀ r, row = some r → r < base) : Mine w' base A n c xs := by
  refine ⟨World.ownsRow.kept h.1 hg ?_, h.2⟩
  rcases hb : (Value.slice A n c).ownBlock with _ | k
  · exact .inl rfl
  · right
    intro e
    have := hr k e.symm
    have := (h.1.lt k hb).1
    omega

/-- some bytes were drawn into a row of the call's own. -/
def Bytes1 (w : World) (B g : Nat) (m : Nat) (e : Ending) (w' : World) : Prop :=
  ∃ A n c xs, n ≤ m ∧ e = .returned (.slice A n c) ∧ Mine w' w.heap.size A n c xs ∧ Cur w' B g ∧ w.grownBy w' (some g)

theorem grown_new {a b c : World} {row : Option Nat} {r : Nat} (h : a.grownBy b row) (k : b.grownBy c (some r)) (hr : a.heap.size ≤ r) : a.grownBy c row :=
  ⟨k.os.trans h.os, k.tape.trans h.tape, k.output.trans h.output, Nat.le_trans h.size k.size, fun x hx hne => (k.block x (Nat.lt_of_lt_of_le hx h.size) (fun e => by cases e; omega)).trans (h.block x hx hne)⟩
theorem grown_below {a b : World} {r B : Nat} (h : a.grownBy b (some r)) (hB : B ≤ a.heap.size) (hr : B ≤ r) : Below B a b := (Below.refl _ _).grown h hB (fun k e => by cases e; exact hr)

theorem drawBytes_any (w : World) (B g : Nat) (hc : Cur w B g) :
    Calls Try.prog 23 #[.pointer (some ⟨g, 0, none⟩)] w (Bytes1 w B g 9) := by
  have hlt := hc.lt
  have HC := Lib.hid hc
  clear hc
  go_enter Try.func23, Try.ntmps23
  go_wp2_with fail
  refine (below_any _ B g 10 (by omega) (by omega) HC.out).mono ?_
  rintro e w1 ⟨r, hr0, hr1, rfl, c1, g1⟩
  obtain ⟨n, rfl⟩ : ∃ n : Nat, r = n := ⟨r.toNat, by omega⟩
  have s1 := g1.size
  have C1 := Lib.hid c1
  have G1 := Lib.hid g1
  clear c1 g1 HC
  have hmk := make_bytes (List.replicate n 0) n (by omega)
  go_wp2
  clear hmk
  have hm0 : Mine (w1.alloc (.cells (filled (List.replicate n 0) n 0) 5)) w.heap.size (some ⟨w1.heap.size, 0, none⟩) n n (List.replicate n 0) := by
    have e0 : filled (List.replicate n 0) n 0 = u8s (List.replicate n 0) := by unfold filled; simp
    rw [e0]
    exact Mine.of_alloc w1 _ _ n s1 (by simp) (by unfold maxLen; omega) (by intro z hz; rw [List.eq_of_mem_replicate hz]; omega)
  have M0 := Lib.hid hm0
  clear hm0
  have ge := C1.out.ge
  go_loopw [4] (fun i wr => ∃ (k : Nat) (xs : List Int), k ≤ n ∧ i = .int .i64 k ∧ Mine wr w.heap.size (some ⟨w1.heap.size, 0, none⟩) n n xs ∧ Cur wr B g ∧ w.grownBy wr (some g)) (fun i _ => n - (intOf i).toNat)
  case atStart =>
    exact ⟨0, _, Nat.zero_le _, rfl, M0.out, C1.out.grown (World.grownBy_alloc w1 _ none) (fun r h => by cases h), G1.out.trans (World.grownBy_alloc w1 _ _)⟩
  case round =>
    obtain ⟨k, xs, hk, rfl, hm, hcr, hgr⟩ := hrel
    have MR := Lib.hid hm
    have CR := Lib.hid hcr
    have GR := Lib.hid hgr
    clear hm hcr hgr
    by_cases hkn : k < n
    · go_wp2_with fail
      refine (below_any _ B g 256 (by omega) (by omega) CR.out).mono ?_
      rintro e w2 ⟨r, hr0, hr1, rfl, c2, g2⟩
      have m2 := MR.out.grown g2 (fun r h => by cases h; omega)
      have hc2 := m2.cell hkn
      have hf2 := m2.free k
      have S2 := Lib.hid (m2.set_ k r (by omega))
      have C2 := Lib.hid c2
      have G2 := Lib.hid (GR.out.trans g2)
      have L2 : g ≠ w1.heap.size := by omega
      clear m2 c2 g2
      go_wp2
      go_roundw
      case rel => exact ⟨k + 1, _, by omega, by go_num, S2.out.1, C2.out.grown S2.out.2 (fun r h => by cases h; omega), grown_new G2.out S2.out.2 s1⟩
      case measure => simp [intOf]; omega
    · go_wp2
      go_ret
      exact ⟨_, n, n, xs, by omega, rfl, MR.out, CR.out, GR.out⟩

/-- some bytes were made, the old world is as it was. -/
def Bytes2 (w : World) (m : Nat) (e : Ending) (w' : World) : Prop :=
  ∃ A n c xs, n ≤ m ∧ e = .returned (.slice A n c) ∧ Mine w' w.heap.size A n c xs ∧ Below w.heap.size w w'
def Int2 (w : World) (e : Ending) (w' : World) : Prop := ∃ x : Int, e = .returned (.int .i64 x) ∧ Below w.heap.size w w'

theorem drawNameOf_any (A : Option Addr) (n c : Nat) (zs : List Int) (w : World) (hn : n ≤ 4096) (hb : Byts w w.heap.size A n zs) :
    Calls Try.prog 8 #[.slice A n c] w (Bytes2 w 9) := by
  have HB := Lib.hid hb
  clear hb
  go_enter Try.func8, Try.ntmps8
  go_wp2_with fail
  refine (new_any _ _ _ zs _ hn HB.out).mono ?_
  rintro e w1 ⟨g, rfl, c1, b1⟩
  have C1 := Lib.hid c1
  have B1 := Lib.hid b1
  clear c1 b1
  go_wp2_with fail
  refine (drawBytes_any _ _ _ C1.out).mono ?_
  rintro e w2 ⟨A2, n2, c2, xs, hn2, rfl, m2, k2, g2⟩
  have M2 := Lib.hid m2
  have K2 := Lib.hid k2
  have G2 := Lib.hid g2
  clear m2 k2 g2
  go_wp2
  go_ret
  exact ⟨A2, n2, c2, xs, hn2, rfl, M2.out.base B1.out.size, B1.out.trans (grown_below G2.out B1.out.size C1.out.ge)⟩

theorem drawNameFrom_any (A : Option Addr) (n c : Nat) (zs : List Int) (w : World) (hn : n ≤ 4096) (hb : Byts w w.heap.size A n zs) :
    Calls Try.prog 11 #[.slice A n c] w (Bytes2 w 9) := by
  have HB := Lib.hid hb
  clear hb
  have hmk : ∀ W : World, (Instr.makeSlice 22 (.int .i64 8) (.int .i64 8)).run Try.prog W = .ok (.slice (some ⟨W.heap.size, 0, none⟩) 8 8) (W.alloc (.cells (u8s (List.replicate 8 0)) 5)) := by
    intro W
    have h := make_bytes (List.replicate 8 0) 8 (by omega) W
    have e0 : filled (List.replicate 8 0) 8 0 = u8s (List.replicate 8 0) := by unfold filled; simp
    rw [e0] at h
    exact h
  have HM := Lib.hid hmk
  clear hmk
  go_enter Try.func11, Try.ntmps11
  go_wp2_with fail
  refine (new_any _ _ _ zs _ hn HB.out).mono ?_
  rintro e w1 ⟨g, rfl, c1, b1⟩
  have C1 := Lib.hid c1
  have B1 := Lib.hid b1
  clear c1 b1
  go_wp2_with fail
  refine (once_any _ _ _ 3 (by omega) (by omega) C1.out).mono ?_
  rintro e w2 ⟨b, rfl, k2, g2⟩
  have K2 := Lib.hid k2
  have G2 := Lib.hid g2
  have s2 : w.heap.size ≤ w2.heap.size := Nat.le_trans B1.out.size g2.size
  have B2 := Lib.hid (B1.out.trans (grown_below g2 B1.out.size C1.out.ge))
  clear k2 g2
  cases b
  · have hmk := HM.out
    go_wp2
    clear hmk
    have hm0 : Mine (w2.alloc (.cells (u8s (List.replicate 8 0)) 5)) w2.heap.size (some ⟨w2.heap.size, 0, none⟩) 8 8 (List.replicate 8 0) :=
      Mine.of_alloc w2 _ _ 8 (Nat.le_refl _) (by simp) (by unfold maxLen; omega) (by intro z hz; rw [List.eq_of_mem_replicate hz]; omega)
    have M0 := Lib.hid hm0
    clear hm0
    have ge := K2.out.ge
    have lt := K2.out.lt
    go_loopw [5] (fun i wr => ∃ (k : Nat) (xs : List Int), k ≤ 8 ∧ i = .int .i64 k ∧ Mine wr w2.heap.size (some ⟨w2.heap.size, 0, none⟩) 8 8 xs ∧ Cur wr w.heap.size g ∧ Below w.heap.size w wr) (fun i _ => 8 - (intOf i).toNat)
    case atStart =>
      exact ⟨0, _, Nat.zero_le _, rfl, M0.out, K2.out.grown (World.grownBy_alloc w2 _ none) (fun r h => by cases h), B2.out.alloc s2 _⟩
    case round =>
      obtain ⟨k, xs, hk, rfl, hm, hcr, hbr⟩ := hrel
      have MR := Lib.hid hm
      have CR := Lib.hid hcr
      have BR := Lib.hid hbr
      clear hm hcr hbr
      by_cases hkn : k < 8
      · go_wp2_with fail
        refine (below_any _ _ g 256 (by omega) (by omega) CR.out).mono ?_
        rintro e w3 ⟨r, hr0, hr1, rfl, c3, g3⟩
        have m3 := MR.out.grown g3 (fun r h => by cases h; omega)
        have hc3 := m3.cell hkn
        have hf3 := m3.free k
        have S3 := Lib.hid (m3.set_ k r (by omega))
        have C3 := Lib.hid c3
        have B3 := Lib.hid (BR.out.trans (grown_below g3 BR.out.size ge))
        clear m3 c3 g3
        go_wp2
        go_roundw
        case rel => exact ⟨k + 1, _, by omega, by go_num, S3.out.1, C3.out.grown S3.out.2 (fun r h => by cases h; omega), B3.out.trans (grown_below S3.out.2 B3.out.size s2)⟩
        case measure => simp [intOf]; omega
      · go_wp2
        go_ret
        exact ⟨_, 8, 8, xs, by omega, rfl, MR.out.base s2, BR.out⟩
  · go_wp2_with fail
    refine (drawBytes_any _ _ _ K2.out).mono ?_
    rintro e w3 ⟨A2, n2, c2, xs, hn2, rfl, m2, k3, g3⟩
    have M2 := Lib.hid m2
    have K3 := Lib.hid k3
    have G3 := Lib.hid g3
    clear m2 k3 g3
    go_wp2
    go_ret
    exact ⟨A2, n2, c2, xs, hn2, rfl, M2.out.base s2, B2.out.trans (grown_below G3.out s2 K2.out.ge)⟩
end Go.Proofs.Ythehhedmdlephaa
