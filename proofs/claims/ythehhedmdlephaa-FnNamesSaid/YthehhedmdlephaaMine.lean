/- A slice of bytes that the call made and may write into: what marking it and holding it against its marks leave. -/
import Derived.Test.YthehhedmdlephaaStd
import Derived.OwnWalk
import Derived.Laws.OwnMore
import Derived.Deep.AppendLies
namespace Go.Proofs.Ythehhedmdlephaa
open Go.RowKit

/-- the slice '.slice A n c' lies in a block of the call's own, from base on, and holds the bytes xs. -/
def Mine (w : World) (base : Nat) (A : Option Addr) (n c : Nat) (xs : List Int) : Prop :=
  w.ownsRow base 5 1 (.slice A n c) n (xs.map (Value.int .u8)) ∧ ∀ z ∈ xs, 0 ≤ z ∧ z ≤ 255
section
variable {w w' : World} {base n c : Nat} {A : Option Addr} {xs : List Int}
theorem Mine.nil (w : World) (base : Nat) : Mine w base none 0 0 [] := ⟨World.ownsRow_nil _ _ _ _, by simp⟩
theorem Mine.len (h : Mine w base A n c xs) : xs.length = n := by have := h.1.1; simpa using this
theorem Mine.form (h : Mine w base A n c xs) (hn : 0 < n) : ∃ g, A = some ⟨g, 0, none⟩ ∧ base ≤ g ∧ g < w.heap.size := by
  rcases h.1.2 with ⟨_, h0⟩ | ⟨g, cap, cur, hv, hb, hg, _⟩
  · omega
  · injection hv with hA
    refine ⟨g, hA, hb, ?_⟩
    rcases Nat.lt_or_ge g w.heap.size with hlt | hge
    · exact hlt
    · rw [Array.getElem?_eq_none hge] at hg; cases hg
theorem Mine.byts (h : Mine w base A n c xs) : Byts w w.heap.size A n xs :=
  ⟨h.len, h.2, fun hn => by
    obtain ⟨g, rfl, _, hlt⟩ := h.form hn
    refine ⟨g, 0, rfl, hlt, fun i hi => ?_⟩
    rw [Nat.zero_add, World.ownsRow.cellAt h.1 i (by omega)]
    have := h.len
    simp [show i < xs.length by omega]⟩
theorem Mine.cell {g : Nat} (h : Mine w base (some ⟨g, 0, none⟩) n c xs) {k : Nat} (hk : k < n) : w.cell? ⟨g, k, none⟩ = some (.int .u8 (xs[k]?.getD 0)) := by
  rw [World.ownsRow.cellAt h.1 k (by omega)]
  have := h.len
  simp [show k < xs.length by omega]
theorem Mine.free {g : Nat} (h : Mine w base (some ⟨g, 0, none⟩) n c xs) (k : Nat) : w.frozen? ⟨g, k, none⟩ = false := World.ownsRow.frozenAt h.1 k
theorem Mine.below (h : Mine w base A n c xs) (hb : Below w.heap.size w w') : Mine w' base A n c xs :=
  ⟨World.ownsRow.kept h.1 (row := none) ⟨hb.os, hb.tape, hb.output, hb.size, fun k hk _ => hb.block k hk⟩ (by cases hA : Value.ownBlock (.slice A n c) <;> simp), h.2⟩
theorem Mine.drewN (h : Mine w base A n c xs) (m : Nat) : Mine (w.drewN m) base A n c xs := h.below (below_drewN (Below.refl _ _) m)
theorem Mine.set_ {g : Nat} (h : Mine w base (some ⟨g, 0, none⟩) n c xs) (k : Nat) (z : Int) (hz : 0 ≤ z ∧ z ≤ 255) :
    Mine (w.setCell ⟨g, k, none⟩ (.int .u8 z)) base (some ⟨g, 0, none⟩) n c (xs.set k z) ∧ w.grownBy (w.setCell ⟨g, k, none⟩ (.int .u8 z)) (some g) := by
  obtain ⟨h1, h2⟩ := World.ownsRow.stored h.1 k (.int .u8 z)
  refine ⟨⟨by rw [List.map_set]; exact h1, fun y hy => ?_⟩, h2⟩
  rcases List.mem_or_eq_of_mem_set hy with hy | rfl
  · exact h.2 y hy
  · exact hz
theorem Mine.of_alloc (w : World) (base : Nat) (zs : List Int) (n : Nat) (hb : base ≤ w.heap.size) (hn : zs.length = n) (hm : n ≤ maxLen) (hz : ∀ z ∈ zs, 0 ≤ z ∧ z ≤ 255) :
    Mine (w.alloc (.cells (u8s zs) 5)) base (some ⟨w.heap.size, 0, none⟩) n n zs :=
  ⟨World.ownsRow_lit w (u8s zs) n hb hm (by simp [u8s, hn]), hz⟩
theorem Byts.grown {B : Nat} {zs : List Int} (h : Byts w B A n zs) {row : Option Nat} (hg : w.grownBy w' row) (hB : B ≤ w.heap.size) (hr : ∀ g, row = some g → B ≤ g) : Byts w' B A n zs :=
  h.keep fun p hp => World.cell?_of_block (hg.block p.block (by omega) (fun e => by have := hr _ e.symm; omega))
end

/-- the marks from k0 on. -/
def marks (k0 : Int) (n : Nat) : List Int := (List.range n).map fun (i : Nat) => (k0 + (i : Int)) % 256
theorem marks_len (k0 : Int) (n : Nat) : (marks k0 n).length = n := by simp [marks]
theorem marks_at (k0 : Int) (n k : Nat) (h : k < n) : (marks k0 n)[k]?.getD 0 = (k0 + (k : Int)) % 256 := by simp [marks, h]
theorem marks_bd (k0 : Int) (n : Nat) : ∀ z ∈ marks k0 n, 0 ≤ z ∧ z ≤ 255 := by
  intro z hz
  simp only [marks, List.mem_map] at hz
  obtain ⟨i, _, rfl⟩ := hz
  omega
def marked (k0 : Int) (n k : Nat) (xs : List Int) : List Int := (marks k0 n).take k ++ xs.drop k
theorem marked_set (k0 : Int) (n k : Nat) (xs : List Int) (hx : xs.length = n) (hk : k < n) : (marked k0 n k xs).set k ((k0 + (k : Int)) % 256) = marked k0 n (k + 1) xs := by
  unfold marked
  have hl : min k (marks k0 n).length = k := by have := marks_len k0 n; omega
  rw [take_step (marks k0 n) k (by have := marks_len k0 n; omega), marks_at k0 n k hk]
  have hd : xs.drop k = xs[k] :: xs.drop (k + 1) := List.drop_eq_getElem_cons (by omega)
  have hs : (xs.drop k).set 0 ((k0 + (k : Int)) % 256) = (k0 + (k : Int)) % 256 :: xs.drop (k + 1) := by rw [hd]; rfl
  simp [hl, hs]

theorem mark_any (A : Option Addr) (n c base : Nat) (xs : List Int) (k0 : Int) (w : World) (h0 : 0 ≤ k0) (h1 : k0 + n ≤ 4611686018427387904) (hm : Mine w base A n c xs) :
    Calls Try.prog 20 #[.slice A n c, .int .i64 k0] w fun e w' => e = .returned (.int .i64 (k0 + n)) ∧ Mine w' base A n c (marks k0 n) ∧ w.grownBy w' (Value.slice A n c).ownBlock := by
  have hx := Lib.hid hm.len
  have HM := Lib.hid hm
  clear hm
  go_enter Try.func20, Try.ntmps20
  go_wp2
  go_loopw [1, 5] (fun q i wr => ∃ k : Nat, k ≤ n ∧ i = .int .i64 k ∧ q = .int .i64 (k0 + k) ∧ Mine wr base A n c (marked k0 n k xs) ∧ w.grownBy wr (Value.slice A n c).ownBlock) (fun _ i _ => n - (intOf i).toNat)
  case atStart => exact ⟨0, Nat.zero_le _, rfl, by simp, HM.out, World.grownBy.refl _ _⟩
  case round =>
    obtain ⟨k, hk, rfl, rfl, hmr, hgr⟩ := hrel
    by_cases hlt : k < n
    · obtain ⟨g, rfl, hbg, hlt'⟩ := hmr.form (by omega)
      have hc := hmr.cell hlt
      have hf := hmr.free k
      have hs := hmr.set_ k ((k0 + (k : Int)) % 256) (by omega)
      rw [marked_set k0 n k xs hx.out hlt] at hs
      have HS := Lib.hid hs
      have HG := Lib.hid hgr
      clear hs hmr hgr
      go_wp2
      go_roundw
      case rel => exact ⟨k + 1, by omega, by go_num, by go_num, HS.out.1, HG.out.trans HS.out.2⟩
      case measure => simp [intOf]; omega
    · go_wp2
      go_ret
      have e : k = n := by omega
      subst e
      refine ⟨rfl, ?_, hgr⟩
      have hd : marked k0 k k xs = marks k0 k := by
        unfold marked
        rw [List.take_of_length_le (by have := marks_len k0 k; omega), List.drop_eq_nil_of_le (by have := hx.out; omega)]; simp
      rw [hd] at hmr
      exact hmr

theorem held_yes (A : Option Addr) (n c : Nat) (B : Nat) (k0 : Int) (w : World) (h0 : 0 ≤ k0) (h1 : k0 + n ≤ 4611686018427387904) (hb : Byts w B A n (marks k0 n)) :
    Calls Try.prog 21 #[.slice A n c, .int .i64 k0] w fun e w' => e = .returned (.int .i64 (k0 + n)) ∧ w = w' := by
  have HB := Lib.hid hb
  clear hb
  go_enter Try.func21, Try.ntmps21
  go_wp2
  go_loop [1, 5] (fun q i => ∃ k : Nat, k ≤ n ∧ i = .int .i64 k ∧ q = .int .i64 (k0 + k)) (fun _ i => n - (intOf i).toNat)
  case atStart => exact ⟨0, Nat.zero_le _, rfl, by simp⟩
  case round =>
    obtain ⟨k, hk, rfl, rfl⟩ := hrel
    by_cases hlt : k < n
    · obtain ⟨b, off, rfl, hbB, hc⟩ := HB.out.at_ hlt
      rw [marks_at k0 n k hlt] at hc
      go_wp2
      go_round
      case rel => exact ⟨k + 1, by omega, by go_num, by go_num⟩
      case measure => simp [intOf]; omega
    · go_wp2
      go_ret
      exact ⟨ret_i64 (by omega), rfl⟩
end Go.Proofs.Ythehhedmdlephaa
