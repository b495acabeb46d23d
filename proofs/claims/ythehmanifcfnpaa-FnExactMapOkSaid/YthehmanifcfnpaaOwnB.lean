/- Slices of bytes in blocks of their own: a row as far as it is filled, a slice that the call made and may write into; no statement of the program is proved here. -/
import Derived.Test.YthehmanifcfnpaaRows
import Derived.Test.YthehmanifcfnpaaBytes
import Derived.LoopTactic
import Derived.Outline
import Derived.Deep.QuietTactic
import Derived.BigQuiet
import Derived.Laws.MakeOwn
import Derived.WalkSmall
import Derived.OwnWalk
import Derived.Laws.OwnMore
import Derived.Deep.AppendLies
namespace Go.Proofs.Ythehmanifcfnpaa
set_option maxRecDepth 20000
open Go.RowKit

theorem Try.info5 : (Try.prog.info? 5).map (fun i => (i.zero, i.size, i.bytes)) = some (some (.int .u8 0), 1, 1) := by kernel_rfl

/-- the row as far as it is filled. -/
def filled (zs : List Int) (n k : Nat) : Array Value := u8s (zs.take k ++ List.replicate (n - k) 0)
theorem filled_at (zs : List Int) (n k : Nat) (hz : zs.length = n) (hk : k < n) : (filled zs n k)[k]? = some (.int .u8 0) := by
  have hm : min k zs.length = k := by omega
  have hp : 0 < n - k := by omega
  unfold filled u8s
  simp [hm, hp]
theorem filled_set (zs : List Int) (n k : Nat) (hz : zs.length = n) (hk : k < n) : (filled zs n k).setIfInBounds k (.int .u8 (zs[k]?.getD 0)) = filled zs n (k + 1) := by
  unfold filled u8s
  rw [take_step zs k (by omega)]
  obtain ⟨m, hm⟩ : ∃ m, n - k = m + 1 := ⟨n - k - 1, by omega⟩
  have hm' : n - (k + 1) = m := by omega
  rw [hm, hm']
  have hl : min k zs.length = k := by omega
  simp [List.replicate_succ, hl]
theorem filled_all (zs : List Int) (n : Nat) (hz : zs.length = n) : filled zs n n = u8s zs := by
  unfold filled
  rw [List.take_of_length_le (by omega)]; simp
theorem filled_none (zs : List Int) (n : Nat) : madeCells #[.int .u8 0] n = filled zs n 0 := by
  apply Array.ext
  · simp [madeCells, filled, u8s]
  · intro i h1 h2
    simp [madeCells, filled, u8s, Nat.mod_one]
theorem u8s_size (zs : List Int) : (u8s zs).size = zs.length := by simp [u8s]

/-- block g is a row of just these bytes, made by the call. -/
def Row (w : World) (g : Nat) (zs : List Int) : Prop := w.heap[g]? = some (.cells (u8s zs) 5 (0, 0)) ∧ ∀ z ∈ zs, 0 ≤ z ∧ z ≤ 255
theorem Row.lt {w : World} {g : Nat} {zs : List Int} (h : Row w g zs) : g < w.heap.size := by
  rcases Nat.lt_or_ge g w.heap.size with hlt | hge
  · exact hlt
  · have h1 := h.1; rw [Array.getElem?_eq_none hge] at h1; cases h1
theorem Row.below {w w' : World} {g B : Nat} {zs : List Int} (h : Row w g zs) (hb : Below B w w') (hg : g < B) : Row w' g zs := ⟨(hb.block g hg).trans h.1, h.2⟩
theorem Row.drewN {w : World} {g : Nat} {zs : List Int} (h : Row w g zs) (m : Nat) : Row (w.drewN m) g zs := h
theorem Row.byts {w : World} {g n : Nat} {zs : List Int} (h : Row w g zs) (hn : zs.length = n) : Byts w w.heap.size (some ⟨g, 0, none⟩) n zs := (Byts.new hn h.2 h.1).more h.lt

/-- the slice '.slice A n c' lies in a block of the call's own, from base on, and holds the bytes xs. -/
def Mine (w : World) (base : Nat) (A : Option Addr) (n c : Nat) (xs : List Int) : Prop :=
  w.ownsRow base 5 1 (.slice A n c) n (xs.map (Value.int .u8)) ∧ ∀ z ∈ xs, 0 ≤ z ∧ z ≤ 255
section
variable {w w' : World} {base n c : Nat} {A : Option Addr} {xs : List Int}
theorem Mine.nil (w : World) (base : Nat) : Mine w base none 0 0 [] := ⟨World.ownsRow_nil _ _ _ _, by simp⟩
theorem Mine.len (h : Mine w base A n c xs) : xs.length = n := by have := h.1.1; simpa using this
theorem Mine.form (h : Mine w base A n c xs) (hn : 0 < n) : ∃ g, A = some ⟨g, 0, none⟩ ∧ base ≤ g ∧ g < w.heap.size := by
  rcases h.1.2 with ⟨_, h0⟩ | ⟨g, cap, cur, hv, hb, hg, _⟩
  · omega
  · injection hv with hA
    refine ⟨g, hA, hb, ?_⟩
    rcases Nat.lt_or_ge g w.heap.size with hlt | hge
    · exact hlt
    · rw [Array.getElem?_eq_none hge] at hg; cases hg
theorem Mine.byts (h : Mine w base A n c xs) : Byts w w.heap.size A n xs :=
  ⟨h.len, h.2, fun hn => by
    obtain ⟨g, rfl, _, hlt⟩ := h.form hn
    refine ⟨g, 0, rfl, hlt, fun i hi => ?_⟩
    rw [Nat.zero_add, World.ownsRow.cellAt h.1 i (by omega)]
    have := h.len
    simp [show i < xs.length by omega]⟩
theorem Mine.cell {g : Nat} (h : Mine w base (some ⟨g, 0, none⟩) n c xs) {k : Nat} (hk : k < n) : w.cell? ⟨g, k, none⟩ = some (.int .u8 (xs[k]?.getD 0)) := by
  rw [World.ownsRow.cellAt h.1 k (by omega)]
  have := h.len
  simp [show k < xs.length by omega]
theorem Mine.free {g : Nat} (h : Mine w base (some ⟨g, 0, none⟩) n c xs) (k : Nat) : w.frozen? ⟨g, k, none⟩ = false := World.ownsRow.frozenAt h.1 k
theorem Mine.below (h : Mine w base A n c xs) (hb : Below w.heap.size w w') : Mine w' base A n c xs :=
  ⟨World.ownsRow.kept h.1 (row := none) ⟨hb.os, hb.tape, hb.output, hb.size, fun k hk _ => hb.block k hk⟩ (by cases hA : Value.ownBlock (.slice A n c) <;> simp), h.2⟩
theorem Mine.drewN (h : Mine w base A n c xs) (m : Nat) : Mine (w.drewN m) base A n c xs := h.below (below_drewN (Below.refl _ _) m)
theorem Mine.set_ {g : Nat} (h : Mine w base (some ⟨g, 0, none⟩) n c xs) (k : Nat) (z : Int) (hz : 0 ≤ z ∧ z ≤ 255) :
    Mine (w.setCell ⟨g, k, none⟩ (.int .u8 z)) base (some ⟨g, 0, none⟩) n c (xs.set k z) ∧ w.grownBy (w.setCell ⟨g, k, none⟩ (.int .u8 z)) (some g) := by
  obtain ⟨h1, h2⟩ := World.ownsRow.stored h.1 k (.int .u8 z)
  refine ⟨⟨by rw [List.map_set]; exact h1, fun y hy => ?_⟩, h2⟩
  rcases List.mem_or_eq_of_mem_set hy with hy | rfl
  · exact h.2 y hy
  · exact hz
theorem Mine.of_alloc (w : World) (base : Nat) (zs : List Int) (n : Nat) (hb : base ≤ w.heap.size) (hn : zs.length = n) (hm : n ≤ maxLen) (hz : ∀ z ∈ zs, 0 ≤ z ∧ z ≤ 255) :
    Mine (w.alloc (.cells (u8s zs) 5)) base (some ⟨w.heap.size, 0, none⟩) n n zs :=
  ⟨World.ownsRow_lit w (u8s zs) n hb hm (by simp [u8s, hn]), hz⟩
theorem Byts.grown {B : Nat} {zs : List Int} (h : Byts w B A n zs) {row : Option Nat} (hg : w.grownBy w' row) (hB : B ≤ w.heap.size) (hr : ∀ g, row = some g → B ≤ g) : Byts w' B A n zs :=
  h.keep fun p hp => World.cell?_of_block (hg.block p.block (by omega) (fun e => by have := hr _ e.symm; omega))
end

theorem make_bytes (zs : List Int) (n : Nat) (hn : n ≤ 140737488355328) (W : World) :
    (Instr.makeSlice 47 (.int .i64 (n : Int)) (.int .i64 (n : Int))).run Try.prog W = .ok (.slice (some ⟨W.heap.size, 0, none⟩) n n) (W.alloc (.cells (filled zs n 0) 5)) := by
  obtain ⟨i0, hi, hz0, hz1, hz2⟩ := info_parts Try.info5
  have hr := run_make (P := Try.prog) W 47 5 i0 (.int .u8 0) Try.underlying47 hi hz0 .i64 .i64 n n (by omega) (by omega) (by rw [hz2]; omega) (by omega)
  simp only [Int.toNat_natCast] at hr
  rw [hr, hz1, Nat.mul_one]
  show Result.ok _ (W.alloc (.cells (madeCells #[.int .u8 0] n) _)) = _
  rw [filled_none zs n]

theorem Mine.empty (w : World) : Mine (w.alloc (.cells #[] 5)) w.heap.size (some ⟨w.heap.size, 0, none⟩) 0 0 [] :=
  ⟨World.ownsRow_lit w #[] 0 (Nat.le_refl _) (by unfold maxLen; omega) rfl, by simp⟩
theorem Mine.base {w : World} {base base' n c : Nat} {A : Option Addr} {xs : List Int} (h : Mine w base A n c xs) (hb : base' ≤ base) : Mine w base' A n c xs := by
  refine ⟨⟨h.1.1, ?_⟩, h.2⟩
  rcases h.1.2 with h | ⟨g, cap, cur, hv, hg, r⟩
  · exact .inl h
  · exact .inr ⟨g, cap, cur, hv, by omega, r⟩
theorem Mine.grown {w w' : World} {base n c : Nat} {A : Option Addr} {xs : List Int} (h : Mine w base A n c xs) {row : Option Nat} (hg : w.grownBy w' row) (hr : ∀ r, row = some r → r < base) : Mine w' base A n c xs := by
  refine ⟨World.ownsRow.kept h.1 hg ?_, h.2⟩
  rcases hb : (Value.slice A n c).ownBlock with _ | k
  · exact .inl rfl
  · right
    intro e
    have := hr k e.symm
    have := (h.1.lt k hb).1
    omega

theorem grown_new {a b c : World} {row : Option Nat} {r : Nat} (h : a.grownBy b row) (k : b.grownBy c (some r)) (hr : a.heap.size ≤ r) : a.grownBy c row :=
  ⟨k.os.trans h.os, k.tape.trans h.tape, k.output.trans h.output, Nat.le_trans h.size k.size, fun x hx hne => (k.block x (Nat.lt_of_lt_of_le hx h.size) (fun e => by cases e; omega)).trans (h.block x hx hne)⟩
theorem grown_below {a b : World} {r B : Nat} (h : a.grownBy b (some r)) (hB : B ≤ a.heap.size) (hr : B ≤ r) : Below B a b := (Below.refl _ _).grown h hB (fun k e => by cases e; exact hr)

/-- a row of the call's own may be written. -/
theorem row_mine {w : World} {base g n : Nat} {zs : List Int} (h : Row w g zs) (hn : zs.length = n) (hb : base ≤ g) (hm : n ≤ maxLen) : Mine w base (some ⟨g, 0, none⟩) n n zs := by
  subst hn
  exact ⟨⟨by simp, .inr ⟨g, zs.length, _, rfl, hb, h.1, Nat.le_refl _, hm, by simp [u8s], by rw [Nat.mul_one]; exact List.take_of_length_le (by simp [u8s])⟩⟩, h.2⟩
theorem grown_set (w : World) (g j : Nat) (u : Value) : w.grownBy (w.setCell ⟨g, j, none⟩ u) (some g) :=
  ⟨rfl, rfl, rfl, by simp, fun k _ hk => heap_setCell_other w ⟨g, j, none⟩ k u (fun e => hk (by simp [e]))⟩
theorem grown_drewN {w w' : World} {row : Option Nat} (h : w.grownBy w' row) (m : Nat) : w.grownBy (w'.drewN m) row := ⟨h.os, h.tape, h.output, h.size, h.block⟩
end Go.Proofs.Ythehmanifcfnpaa
