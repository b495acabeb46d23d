/- Slices of int64: one that reads as a list of numbers, one that the call made and may write into; no statement of the program is proved here. -/
import Derived.Test.YthehmanifcfnpaaOwnB
namespace Go.Proofs.Ythehmanifcfnpaa
set_option maxRecDepth 20000
open Go.RowKit

/-- the slice value '.slice A n c' reads as the numbers zs, below block B. -/
def Ints (w : World) (B : Nat) (A : Option Addr) (n : Nat) (zs : List Int) : Prop :=
  zs.length = n ∧ (0 < n → ∃ b off, A = some ⟨b, off, none⟩ ∧ b < B ∧ ∀ i, i < n → w.cell? ⟨b, off + i, none⟩ = some (.int .i64 (zs.getD i 0)))
section
variable {w w' : World} {B B' n : Nat} {A : Option Addr} {zs : List Int}
theorem Ints.none_ : Ints w B A 0 [] := ⟨rfl, fun h => absurd h (by omega)⟩
theorem Ints.at_ {k : Nat} (h : Ints w B A n zs) (hk : k < n) : ∃ b off, A = some ⟨b, off, none⟩ ∧ b < B ∧ w.cell? ⟨b, off + k, none⟩ = some (.int .i64 (zs[k]?.getD 0)) := by
  obtain ⟨b, off, e, hb, hc⟩ := h.2 (by omega)
  exact ⟨b, off, e, hb, by simpa using hc k hk⟩
theorem Ints.keep (h : Ints w B A n zs) (hk : ∀ p : Addr, p.block < B → w'.cell? p = w.cell? p) : Ints w' B A n zs :=
  ⟨h.1, fun hn => by
    obtain ⟨b, off, e, hb, hc⟩ := h.2 hn
    exact ⟨b, off, e, hb, fun i hi => (hk _ hb).trans (hc i hi)⟩⟩
theorem Ints.more (h : Ints w B A n zs) (hB : B ≤ B') : Ints w B' A n zs :=
  ⟨h.1, fun hn => by
    obtain ⟨b, off, e, hb, hc⟩ := h.2 hn
    exact ⟨b, off, e, by omega, hc⟩⟩
theorem Ints.below (h : Ints w B A n zs) (hb : Below B w w') : Ints w' B A n zs := h.keep fun _ hp => hb.cell hp
theorem Ints.drewN (h : Ints w B A n zs) (k : Nat) : Ints (w.drewN k) B A n zs := h
theorem Ints.alloc (h : Ints w B A n zs) (hB : B ≤ w.heap.size) (o : Obj) : Ints (w.alloc o) B A n zs := h.keep fun p hp => World.cell?_alloc_lt w o p (by omega)
theorem Ints.grown (h : Ints w B A n zs) {row : Option Nat} (hg : w.grownBy w' row) (hB : B ≤ w.heap.size) (hr : ∀ g, row = some g → B ≤ g) : Ints w' B A n zs :=
  h.keep fun p hp => World.cell?_of_block (hg.block p.block (by omega) (fun e => by have := hr _ e.symm; omega))
end
theorem IsRow.ints {w : World} {a : Option Addr} {len cap : Nat} {zs : List Int} (h : IsRow .i64 w a len cap zs) : Ints w w.heap.size a len (zs.take len) := by
  rcases h with ⟨rfl, rfl, rfl, rfl⟩ | ⟨x, rfl, hl, hm, hz, hc, hw⟩
  · exact Ints.none_
  · refine ⟨by simp; omega, fun hp => ?_⟩
    obtain ⟨b, off, spot⟩ := x
    have h0 := hc 0 (by omega)
    have hspot : spot = none := by simpa [Addr.add] using World.cell?_spot h0
    subst hspot
    refine ⟨b, off, rfl, ?_, fun i hi => ?_⟩
    · have := block_lt_of_cell h0
      simpa [Addr.add] using this
    · have hci := hc i (by omega)
      have e : (Addr.add ⟨b, off, none⟩ i) = ⟨b, off + i, none⟩ := by unfold Addr.add; split <;> simp_all
      rw [e] at hci
      rw [hci]
      simp [hi]

theorem Try.infoI : (Try.prog.info? 2).map (fun i => (i.zero, i.size, i.bytes)) = some (some (.int .i64 0), 1, 8) := by kernel_rfl

/-- the cells of the numbers zs. -/
def i64s (zs : List Int) : Array Value := (zs.map (Value.int .i64)).toArray
/-- the row as far as it is filled. -/
def filledI (zs : List Int) (n k : Nat) : Array Value := i64s (zs.take k ++ List.replicate (n - k) 0)
theorem filledI_at (zs : List Int) (n k : Nat) (hz : zs.length = n) (hk : k < n) : (filledI zs n k)[k]? = some (.int .i64 0) := by
  have hm : min k zs.length = k := by omega
  have hp : 0 < n - k := by omega
  unfold filledI i64s
  simp [hm, hp]
theorem filledI_set (zs : List Int) (n k : Nat) (hz : zs.length = n) (hk : k < n) : (filledI zs n k).setIfInBounds k (.int .i64 (zs[k]?.getD 0)) = filledI zs n (k + 1) := by
  unfold filledI i64s
  rw [take_step zs k (by omega)]
  obtain ⟨m, hm⟩ : ∃ m, n - k = m + 1 := ⟨n - k - 1, by omega⟩
  have hm' : n - (k + 1) = m := by omega
  rw [hm, hm']
  have hl : min k zs.length = k := by omega
  simp [List.replicate_succ, hl]
theorem filledI_all (zs : List Int) (n : Nat) (hz : zs.length = n) : filledI zs n n = i64s zs := by
  unfold filledI
  rw [List.take_of_length_le (by omega)]; simp
theorem filledI_none (zs : List Int) (n : Nat) : madeCells #[.int .i64 0] n = filledI zs n 0 := by
  apply Array.ext
  · simp [madeCells, filledI, i64s]
  · intro i h1 h2
    simp [madeCells, filledI, i64s, Nat.mod_one]
theorem make_ints (zs : List Int) (n : Nat) (hn : n ≤ 17592186044416) (W : World) :
    (Instr.makeSlice 52 (.int .i64 (n : Int)) (.int .i64 (n : Int))).run Try.prog W = .ok (.slice (some ⟨W.heap.size, 0, none⟩) n n) (W.alloc (.cells (filledI zs n 0) 2)) := by
  obtain ⟨i0, hi, hz0, hz1, hz2⟩ := info_parts Try.infoI
  have hr := run_make (P := Try.prog) W 52 2 i0 (.int .i64 0) Try.underlying52 hi hz0 .i64 .i64 n n (by omega) (by omega) (by rw [hz2]; omega) (by omega)
  simp only [Int.toNat_natCast] at hr
  rw [hr, hz1, Nat.mul_one]
  show Result.ok _ (W.alloc (.cells (madeCells #[.int .i64 0] n) _)) = _
  rw [filledI_none zs n]

/-- the slice '.slice A n c' lies in a block of the call's own, from base on, and holds the numbers xs. -/
def OwnI (w : World) (base : Nat) (A : Option Addr) (n c : Nat) (xs : List Int) : Prop :=
  w.ownsRow base 2 1 (.slice A n c) n (xs.map (Value.int .i64))
section
variable {w w' : World} {base n c : Nat} {A : Option Addr} {xs : List Int}
theorem OwnI.nil (w : World) (base : Nat) : OwnI w base none 0 0 [] := World.ownsRow_nil _ _ _ _
theorem OwnI.len (h : OwnI w base A n c xs) : xs.length = n := by have := h.1; simpa using this
theorem OwnI.form (h : OwnI w base A n c xs) (hn : 0 < n) : ∃ g, A = some ⟨g, 0, none⟩ ∧ base ≤ g ∧ g < w.heap.size := by
  rcases h.2 with ⟨_, h0⟩ | ⟨g, cap, cur, hv, hb, hg, _⟩
  · omega
  · injection hv with hA
    refine ⟨g, hA, hb, ?_⟩
    rcases Nat.lt_or_ge g w.heap.size with hlt | hge
    · exact hlt
    · rw [Array.getElem?_eq_none hge] at hg; cases hg
theorem OwnI.ints (h : OwnI w base A n c xs) : Ints w w.heap.size A n xs :=
  ⟨h.len, fun hn => by
    obtain ⟨g, rfl, _, hlt⟩ := h.form hn
    refine ⟨g, 0, rfl, hlt, fun i hi => ?_⟩
    rw [Nat.zero_add, World.ownsRow.cellAt h i (by omega)]
    have := h.len
    simp [show i < xs.length by omega]⟩
theorem OwnI.cell {g : Nat} (h : OwnI w base (some ⟨g, 0, none⟩) n c xs) {k : Nat} (hk : k < n) : w.cell? ⟨g, k, none⟩ = some (.int .i64 (xs[k]?.getD 0)) := by
  rw [World.ownsRow.cellAt h k (by omega)]
  have := h.len
  simp [show k < xs.length by omega]
theorem OwnI.free {g : Nat} (h : OwnI w base (some ⟨g, 0, none⟩) n c xs) (k : Nat) : w.frozen? ⟨g, k, none⟩ = false := World.ownsRow.frozenAt h k
theorem OwnI.below (h : OwnI w base A n c xs) (hb : Below w.heap.size w w') : OwnI w' base A n c xs :=
  World.ownsRow.kept h (row := none) ⟨hb.os, hb.tape, hb.output, hb.size, fun k hk _ => hb.block k hk⟩ (by cases hA : Value.ownBlock (.slice A n c) <;> simp)
theorem OwnI.drewN (h : OwnI w base A n c xs) (m : Nat) : OwnI (w.drewN m) base A n c xs := h.below (below_drewN (Below.refl _ _) m)
theorem OwnI.set_ {g : Nat} (h : OwnI w base (some ⟨g, 0, none⟩) n c xs) (k : Nat) (z : Int) :
    OwnI (w.setCell ⟨g, k, none⟩ (.int .i64 z)) base (some ⟨g, 0, none⟩) n c (xs.set k z) ∧ w.grownBy (w.setCell ⟨g, k, none⟩ (.int .i64 z)) (some g) := by
  obtain ⟨h1, h2⟩ := World.ownsRow.stored h k (.int .i64 z)
  exact ⟨by unfold OwnI; rw [List.map_set]; exact h1, h2⟩
theorem OwnI.of_alloc (w : World) (base : Nat) (zs : List Int) (n : Nat) (hb : base ≤ w.heap.size) (hn : zs.length = n) (hm : n ≤ maxLen) :
    OwnI (w.alloc (.cells (i64s zs) 2)) base (some ⟨w.heap.size, 0, none⟩) n n zs :=
  World.ownsRow_lit w (i64s zs) n hb hm (by simp [i64s, hn])
theorem OwnI.empty (w : World) (base : Nat) (hb : base ≤ w.heap.size) : OwnI (w.alloc (.cells #[] 2)) base (some ⟨w.heap.size, 0, none⟩) 0 0 [] :=
  World.ownsRow_lit w #[] 0 hb (by unfold maxLen; omega) rfl
end
theorem OwnI.base {w : World} {base base' n c : Nat} {A : Option Addr} {xs : List Int} (h : OwnI w base A n c xs) (hb : base' ≤ base) : OwnI w base' A n c xs := by
  refine ⟨h.1, ?_⟩
  rcases h.2 with h | ⟨g, cap, cur, hv, hg, r⟩
  · exact .inl h
  · exact .inr ⟨g, cap, cur, hv, by omega, r⟩
theorem OwnI.grown {w w' : World} {base n c : Nat} {A : Option Addr} {xs : List Int} (h : OwnI w base A n c xs) {row : Option Nat} (hg : w.grownBy w' row) (hr : ∀ r, row = some r → r < base) : OwnI w' base A n c xs := by
  refine World.ownsRow.kept h hg ?_
  rcases hb : (Value.slice A n c).ownBlock with _ | k
  · exact .inl rfl
  · right
    intro e
    have := hr k e.symm
    have := (h.lt k hb).1
    omega
theorem own_slice {w : World} {base : Nat} {e : TypeId} {size : Nat} {v : Value} {n : Nat} {xs : List Value} (h : w.ownsRow base e size v n xs) : ∃ A c, v = .slice A n c := by
  rcases h.2 with ⟨rfl, rfl⟩ | ⟨g, cap, cur, rfl, _⟩
  · exact ⟨_, _, rfl⟩
  · exact ⟨_, _, rfl⟩
theorem ret_b {a b : Bool} (h : a = b) : Ending.returned (.bool a) = .returned (.bool b) := by rw [h]
/-- what a call leaves that hands back numbers of its own. -/
def GaveI (w : World) (zs : List Int) (e : Ending) (w' : World) : Prop := ∃ A n c, e = .returned (.slice A n c) ∧ OwnI w' w.heap.size A n c zs ∧ Below w.heap.size w w'
end Go.Proofs.Ythehmanifcfnpaa
