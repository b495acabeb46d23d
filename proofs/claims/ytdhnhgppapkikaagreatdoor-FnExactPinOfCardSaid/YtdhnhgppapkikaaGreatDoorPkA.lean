/- Several texts in one, in build order: Bytes, OwnB, Ints, PathM, PathP. -/
import Derived.WalkKit
import Derived.ProofKit
import Derived.OpenShut
import Derived.Below
import Derived.Deep.Draws
import Derived.Lib.Hide
import Derived.Laws.Rows
import Derived.Test.YtdhnhgppapkikaaGreatDoorRows
import Derived.LoopTactic
import Derived.Outline
import Derived.Deep.QuietTactic
import Derived.BigQuiet
import Derived.Laws.MakeOwn
import Derived.WalkSmall
import Derived.OwnWalk
import Derived.Laws.OwnMore
import Derived.Deep.AppendLies
import Derived.Laws.BytesArg
import Derived.Laws.Concat
import Derived.Laws.Strings
import Derived.Laws.Strings2
import Derived.Laws.RangeAny
import Derived.WalkLawsBesides
import Derived.WalkSpells
import Derived.Lib.OthersKept
-- Bytes: Plain facts on a slice of bytes that reads as a list, on the two sums of a name, and on worlds; no statement of the program is proved here.
namespace Go.Proofs.YtdhnhgppapkikaaGreatDoor
set_option maxRecDepth 20000
open Go.RowKit

/-- the slice value '.slice A n c' reads as the bytes zs, below block B. -/
def Byts (w : World) (B : Nat) (A : Option Addr) (n : Nat) (zs : List Int) : Prop :=
  zs.length = n ∧ (∀ z ∈ zs, 0 ≤ z ∧ z ≤ 255) ∧
  (0 < n → ∃ b off, A = some ⟨b, off, none⟩ ∧ b < B ∧ ∀ i, i < n → w.cell? ⟨b, off + i, none⟩ = some (.int .u8 (zs.getD i 0)))

section
variable {w w' : World} {B B' n : Nat} {A : Option Addr} {zs : List Int}
theorem Byts.none_ : Byts w B A 0 [] := ⟨rfl, by simp, fun h => absurd h (by omega)⟩
theorem Byts.range (h : Byts w B A n zs) (k : Nat) : 0 ≤ zs[k]?.getD 0 ∧ zs[k]?.getD 0 ≤ 255 := by
  by_cases hk : k < zs.length
  · rw [List.getElem?_eq_getElem hk]; exact h.2.1 _ (List.getElem_mem hk)
  · rw [List.getElem?_eq_none (by omega)]; simp
theorem Byts.at_ {k : Nat} (h : Byts w B A n zs) (hk : k < n) : ∃ b off, A = some ⟨b, off, none⟩ ∧ b < B ∧ w.cell? ⟨b, off + k, none⟩ = some (.int .u8 (zs[k]?.getD 0)) := by
  obtain ⟨b, off, e, hb, hc⟩ := h.2.2 (by omega)
  exact ⟨b, off, e, hb, by simpa using hc k hk⟩
theorem Byts.keep (h : Byts w B A n zs) (hk : ∀ p : Addr, p.block < B → w'.cell? p = w.cell? p) : Byts w' B A n zs :=
  ⟨h.1, h.2.1, fun hn => by
    obtain ⟨b, off, e, hb, hc⟩ := h.2.2 hn
    exact ⟨b, off, e, hb, fun i hi => (hk _ hb).trans (hc i hi)⟩⟩
theorem Byts.more (h : Byts w B A n zs) (hB : B ≤ B') : Byts w B' A n zs :=
  ⟨h.1, h.2.1, fun hn => by
    obtain ⟨b, off, e, hb, hc⟩ := h.2.2 hn
    exact ⟨b, off, e, by omega, hc⟩⟩
theorem Byts.below (h : Byts w B A n zs) (hb : Below B w w') : Byts w' B A n zs := h.keep fun _ hp => hb.cell hp
theorem Byts.drew (h : Byts w B A n zs) : Byts w.drew B A n zs := h
theorem Byts.drewN (h : Byts w B A n zs) (k : Nat) : Byts (w.drewN k) B A n zs := h
theorem Byts.alloc (h : Byts w B A n zs) (hB : B ≤ w.heap.size) (o : Obj) : Byts (w.alloc o) B A n zs := h.keep fun p hp => World.cell?_alloc_lt w o p (by omega)
end

/-- the cells of the bytes zs. -/
def u8s (zs : List Int) : Array Value := (zs.map (Value.int .u8)).toArray
theorem u8s_at (zs : List Int) (i : Nat) (h : i < zs.length) : (u8s zs)[i]? = some (.int .u8 (zs.getD i 0)) := by
  simp [u8s, h]
/-- a row of bytes that is a block of its own. -/
theorem Byts.new {w : World} {g : Nat} {zs : List Int} {t : TypeId} {n : Nat} (hz : zs.length = n) (hr : ∀ z ∈ zs, 0 ≤ z ∧ z ≤ 255) (h : w.heap[g]? = some (.cells (u8s zs) t (0, 0))) : Byts w (g + 1) (some ⟨g, 0, none⟩) n zs :=
  ⟨hz, hr, fun _ => ⟨g, 0, rfl, by omega, fun i hi => by rw [cell_of_row w g _ _ t (0, 0) h, Nat.zero_add]; exact u8s_at zs i (by omega)⟩⟩

/-- what is told of a slice of integers that came in: nil, or a row of cells. -/
def IsRow (k : IntKind) (w : World) (a : Option Addr) (len cap : Nat) (zs : List Int) : Prop :=
  (a = none ∧ len = 0 ∧ cap = 0 ∧ zs = []) ∨
  ∃ x, a = some x ∧ len ≤ cap ∧ cap ≤ maxLen ∧ zs.length = cap ∧ (∀ i, i < zs.length → w.cell? (x.add i) = some (.int k (zs.getD i 0))) ∧ ∀ n ∈ zs, (Lit.int k n).wf = true
theorem IsRow.len_le {k : IntKind} {w : World} {a : Option Addr} {len cap : Nat} {zs : List Int} (h : IsRow k w a len cap zs) : len ≤ 9223372036854775807 := by
  rcases h with ⟨_, h, _⟩ | ⟨_, _, h, h', _⟩
  · omega
  · unfold maxLen at h'; omega
theorem IsRow.byts {w : World} {a : Option Addr} {len cap : Nat} {zs : List Int} (h : IsRow .u8 w a len cap zs) : Byts w w.heap.size a len (zs.take len) := by
  rcases h with ⟨rfl, rfl, rfl, rfl⟩ | ⟨x, rfl, hl, hm, hz, hc, hw⟩
  · exact Byts.none_
  · refine ⟨by simp; omega, fun z hzm => ?_, fun hp => ?_⟩
    · have hwz := hw z (List.mem_of_mem_take hzm)
      exact bounds_u8 hwz
    · obtain ⟨b, off, spot⟩ := x
      have h0 := hc 0 (by omega)
      have hspot : spot = none := by simpa [Addr.add] using World.cell?_spot h0
      subst hspot
      refine ⟨b, off, rfl, ?_, fun i hi => ?_⟩
      · have := block_lt_of_cell h0
        simpa [Addr.add] using this
      · have hci := hc i (by omega)
        have e : (Addr.add ⟨b, off, none⟩ i) = ⟨b, off + i, none⟩ := by unfold Addr.add; split <;> simp_all
        rw [e] at hci
        rw [hci]
        simp [hi]

/-! the two sums -/
def upStep (s c : Int) : Int := (131 * s + c + 1) % 2147483647
def loStep (s c : Int) : Int := (137 * s + c + 1) % 2147483629
def upSum (zs : List Int) : Int := zs.foldl upStep 7
def loSum (zs : List Int) : Int := zs.foldl loStep 11
def nameOf (zs : List Int) : Int := upSum zs * 2147483648 + loSum zs + 1
theorem take_step (zs : List Int) (k : Nat) (h : k < zs.length) : zs.take (k + 1) = zs.take k ++ [zs[k]?.getD 0] := by
  rw [List.take_succ_eq_append_getElem h, List.getElem?_eq_getElem h]; rfl
theorem upSum_step (zs : List Int) (k : Nat) (h : k < zs.length) : upSum (zs.take (k + 1)) = (131 * upSum (zs.take k) + zs[k]?.getD 0 + 1) % 2147483647 := by
  rw [take_step zs k h, upSum, List.foldl_append]; rfl
theorem loSum_step (zs : List Int) (k : Nat) (h : k < zs.length) : loSum (zs.take (k + 1)) = (137 * loSum (zs.take k) + zs[k]?.getD 0 + 1) % 2147483629 := by
  rw [take_step zs k h, loSum, List.foldl_append]; rfl
theorem fold_bd (f : Int → Int → Int) (m : Int) (hf : ∀ s c, 0 ≤ f s c ∧ f s c < m) (zs : List Int) (s : Int) (hs : 0 ≤ s ∧ s < m) : 0 ≤ zs.foldl f s ∧ zs.foldl f s < m := by
  induction zs generalizing s with
  | nil => exact hs
  | cons z r ih => exact ih _ (hf s z)
theorem upSum_bd (zs : List Int) : 0 ≤ upSum zs ∧ upSum zs < 2147483647 := fold_bd _ _ (fun s c => by unfold upStep; omega) zs 7 (by omega)
theorem loSum_bd (zs : List Int) : 0 ≤ loSum zs ∧ loSum zs < 2147483629 := fold_bd _ _ (fun s c => by unfold loStep; omega) zs 11 (by omega)
theorem ret_i64 {k : IntKind} {a b : Int} (h : a = b) : Ending.returned (.int k a) = .returned (.int k b) := by rw [h]
end Go.Proofs.YtdhnhgppapkikaaGreatDoor

-- OwnB: Slices of bytes in blocks of their own: a row as far as it is filled, a slice that the call made and may write into; no statement of the program is proved here.
namespace Go.Proofs.YtdhnhgppapkikaaGreatDoor
set_option maxRecDepth 20000
open Go.RowKit

theorem Tryz.info5 : (Tryz.prog.info? 5).map (fun i => (i.zero, i.size, i.bytes)) = some (some (.int .u8 0), 1, 1) := by kernel_rfl

/-- the row as far as it is filled. -/
def filled (zs : List Int) (n k : Nat) : Array Value := u8s (zs.take k ++ List.replicate (n - k) 0)
theorem filled_at (zs : List Int) (n k : Nat) (hz : zs.length = n) (hk : k < n) : (filled zs n k)[k]? = some (.int .u8 0) := by
  have hm : min k zs.length = k := by omega
  have hp : 0 < n - k := by omega
  unfold filled u8s
  simp [hm, hp]
theorem filled_set (zs : List Int) (n k : Nat) (hz : zs.length = n) (hk : k < n) : (filled zs n k).setIfInBounds k (.int .u8 (zs[k]?.getD 0)) = filled zs n (k + 1) := by
  unfold filled u8s
  rw [take_step zs k (by omega)]
  obtain ⟨m, hm⟩ : ∃ m, n - k = m + 1 := ⟨n - k - 1, by omega⟩
  have hm' : n - (k + 1) = m := by omega
  rw [hm, hm']
  have hl : min k zs.length = k := by omega
  simp [List.replicate_succ, hl]
theorem filled_all (zs : List Int) (n : Nat) (hz : zs.length = n) : filled zs n n = u8s zs := by
  unfold filled
  rw [List.take_of_length_le (by omega)]; simp
theorem filled_none (zs : List Int) (n : Nat) : madeCells #[.int .u8 0] n = filled zs n 0 := by
  apply Array.ext
  · simp [madeCells, filled, u8s]
  · intro i h1 h2
    simp [madeCells, filled, u8s, Nat.mod_one]
theorem u8s_size (zs : List Int) : (u8s zs).size = zs.length := by simp [u8s]

/-- block g is a row of just these bytes, made by the call. -/
def Row (w : World) (g : Nat) (zs : List Int) : Prop := w.heap[g]? = some (.cells (u8s zs) 5 (0, 0)) ∧ ∀ z ∈ zs, 0 ≤ z ∧ z ≤ 255
theorem Row.lt {w : World} {g : Nat} {zs : List Int} (h : Row w g zs) : g < w.heap.size := by
  rcases Nat.lt_or_ge g w.heap.size with hlt | hge
  · exact hlt
  · have h1 := h.1; rw [Array.getElem?_eq_none hge] at h1; cases h1
theorem Row.below {w w' : World} {g B : Nat} {zs : List Int} (h : Row w g zs) (hb : Below B w w') (hg : g < B) : Row w' g zs := ⟨(hb.block g hg).trans h.1, h.2⟩
theorem Row.drewN {w : World} {g : Nat} {zs : List Int} (h : Row w g zs) (m : Nat) : Row (w.drewN m) g zs := h
theorem Row.byts {w : World} {g n : Nat} {zs : List Int} (h : Row w g zs) (hn : zs.length = n) : Byts w w.heap.size (some ⟨g, 0, none⟩) n zs := (Byts.new hn h.2 h.1).more h.lt

/-- the slice '.slice A n c' lies in a block of the call's own, from base on, and holds the bytes xs. -/
def Mine (w : World) (base : Nat) (A : Option Addr) (n c : Nat) (xs : List Int) : Prop :=
  w.ownsRow base 5 1 (.slice A n c) n (xs.map (Value.int .u8)) ∧ ∀ z ∈ xs, 0 ≤ z ∧ z ≤ 255
section
variable {w w' : World} {base n c : Nat} {A : Option Addr} {xs : List Int}
theorem Mine.nil (w : World) (base : Nat) : Mine w base none 0 0 [] := ⟨World.ownsRow_nil _ _ _ _, by simp⟩
theorem Mine.len (h : Mine w base A n c xs) : xs.length = n := by have := h.1.1; simpa using this
theorem Mine.form (h : Mine w base A n c xs) (hn : 0 < n) : ∃ g, A = some ⟨g, 0, none⟩ ∧ base ≤ g ∧ g < w.heap.size := by
  rcases h.1.2 with ⟨_, h0⟩ | ⟨g, cap, cur, hv, hb, hg, _⟩
  · omega
  · injection hv with hA
    refine ⟨g, hA, hb, ?_⟩
    rcases Nat.lt_or_ge g w.heap.size with hlt | hge
    · exact hlt
    · rw [Array.getElem?_eq_none hge] at hg; cases hg
theorem Mine.byts (h : Mine w base A n c xs) : Byts w w.heap.size A n xs :=
  ⟨h.len, h.2, fun hn => by
    obtain ⟨g, rfl, _, hlt⟩ := h.form hn
    refine ⟨g, 0, rfl, hlt, fun i hi => ?_⟩
    rw [Nat.zero_add, World.ownsRow.cellAt h.1 i (by omega)]
    have := h.len
    simp [show i < xs.length by omega]⟩
theorem Mine.cell {g : Nat} (h : Mine w base (some ⟨g, 0, none⟩) n c xs) {k : Nat} (hk : k < n) : w.cell? ⟨g, k, none⟩ = some (.int .u8 (xs[k]?.getD 0)) := by
  rw [World.ownsRow.cellAt h.1 k (by omega)]
  have := h.len
  simp [show k < xs.length by omega]
theorem Mine.free {g : Nat} (h : Mine w base (some ⟨g, 0, none⟩) n c xs) (k : Nat) : w.frozen? ⟨g, k, none⟩ = false := World.ownsRow.frozenAt h.1 k
theorem Mine.below (h : Mine w base A n c xs) (hb : Below w.heap.size w w') : Mine w' base A n c xs :=
  ⟨World.ownsRow.kept h.1 (row := none) ⟨hb.os, hb.tape, hb.output, hb.size, fun k hk _ => hb.block k hk⟩ (by cases hA : Value.ownBlock (.slice A n c) <;> simp), h.2⟩
theorem Mine.drewN (h : Mine w base A n c xs) (m : Nat) : Mine (w.drewN m) base A n c xs := h.below (below_drewN (Below.refl _ _) m)
theorem Mine.set_ {g : Nat} (h : Mine w base (some ⟨g, 0, none⟩) n c xs) (k : Nat) (z : Int) (hz : 0 ≤ z ∧ z ≤ 255) :
    Mine (w.setCell ⟨g, k, none⟩ (.int .u8 z)) base (some ⟨g, 0, none⟩) n c (xs.set k z) ∧ w.grownBy (w.setCell ⟨g, k, none⟩ (.int .u8 z)) (some g) := by
  obtain ⟨h1, h2⟩ := World.ownsRow.stored h.1 k (.int .u8 z)
  refine ⟨⟨by rw [List.map_set]; exact h1, fun y hy => ?_⟩, h2⟩
  rcases List.mem_or_eq_of_mem_set hy with hy | rfl
  · exact h.2 y hy
  · exact hz
theorem Mine.of_alloc (w : World) (base : Nat) (zs : List Int) (n : Nat) (hb : base ≤ w.heap.size) (hn : zs.length = n) (hm : n ≤ maxLen) (hz : ∀ z ∈ zs, 0 ≤ z ∧ z ≤ 255) :
    Mine (w.alloc (.cells (u8s zs) 5)) base (some ⟨w.heap.size, 0, none⟩) n n zs :=
  ⟨World.ownsRow_lit w (u8s zs) n hb hm (by simp [u8s, hn]), hz⟩
theorem Byts.grown {B : Nat} {zs : List Int} (h : Byts w B A n zs) {row : Option Nat} (hg : w.grownBy w' row) (hB : B ≤ w.heap.size) (hr : ∀ g, row = some g → B ≤ g) : Byts w' B A n zs :=
  h.keep fun p hp => World.cell?_of_block (hg.block p.block (by omega) (fun e => by have := hr _ e.symm; omega))
end

theorem make_bytes (zs : List Int) (n : Nat) (hn : n ≤ 140737488355328) (W : World) :
    (Instr.makeSlice 22 (.int .i64 (n : Int)) (.int .i64 (n : Int))).run Tryz.prog W = .ok (.slice (some ⟨W.heap.size, 0, none⟩) n n) (W.alloc (.cells (filled zs n 0) 5)) := by
  obtain ⟨i0, hi, hz0, hz1, hz2⟩ := info_parts Tryz.info5
  have hr := run_make (P := Tryz.prog) W 22 5 i0 (.int .u8 0) Tryz.underlying22 hi hz0 .i64 .i64 n n (by omega) (by omega) (by rw [hz2]; omega) (by omega)
  simp only [Int.toNat_natCast] at hr
  rw [hr, hz1, Nat.mul_one]
  show Result.ok _ (W.alloc (.cells (madeCells #[.int .u8 0] n) _)) = _
  rw [filled_none zs n]

theorem Mine.empty (w : World) : Mine (w.alloc (.cells #[] 5)) w.heap.size (some ⟨w.heap.size, 0, none⟩) 0 0 [] :=
  ⟨World.ownsRow_lit w #[] 0 (Nat.le_refl _) (by unfold maxLen; omega) rfl, by simp⟩
theorem Mine.base {w : World} {base base' n c : Nat} {A : Option Addr} {xs : List Int} (h : Mine w base A n c xs) (hb : base' ≤ base) : Mine w base' A n c xs := by
  refine ⟨⟨h.1.1, ?_⟩, h.2⟩
  rcases h.1.2 with h | ⟨g, cap, cur, hv, hg, r⟩
  · exact .inl h
  · exact .inr ⟨g, cap, cur, hv, by omega, r⟩
theorem Mine.grown {w w' : World} {base n c : Nat} {A : Option Addr} {xs : List Int} (h : Mine w base A n c xs) {row : Option Nat} (hg : w.grownBy w' row) (hr : ∀ r, row = some r → r < base) : Mine w' base A n c xs := by
  refine ⟨World.ownsRow.kept h.1 hg ?_, h.2⟩
  rcases hb : (Value.slice A n c).ownBlock with _ | k
  · exact .inl rfl
  · right
    intro e
    have := hr k e.symm
    have := (h.1.lt k hb).1
    omega

theorem grown_new {a b c : World} {row : Option Nat} {r : Nat} (h : a.grownBy b row) (k : b.grownBy c (some r)) (hr : a.heap.size ≤ r) : a.grownBy c row :=
  ⟨k.os.trans h.os, k.tape.trans h.tape, k.output.trans h.output, Nat.le_trans h.size k.size, fun x hx hne => (k.block x (Nat.lt_of_lt_of_le hx h.size) (fun e => by cases e; omega)).trans (h.block x hx hne)⟩
theorem grown_below {a b : World} {r B : Nat} (h : a.grownBy b (some r)) (hB : B ≤ a.heap.size) (hr : B ≤ r) : Below B a b := (Below.refl _ _).grown h hB (fun k e => by cases e; exact hr)

/-- a row of the call's own may be written. -/
theorem row_mine {w : World} {base g n : Nat} {zs : List Int} (h : Row w g zs) (hn : zs.length = n) (hb : base ≤ g) (hm : n ≤ maxLen) : Mine w base (some ⟨g, 0, none⟩) n n zs := by
  subst hn
  exact ⟨⟨by simp, .inr ⟨g, zs.length, _, rfl, hb, h.1, Nat.le_refl _, hm, by simp [u8s], by rw [Nat.mul_one]; exact List.take_of_length_le (by simp [u8s])⟩⟩, h.2⟩
theorem grown_set (w : World) (g j : Nat) (u : Value) : w.grownBy (w.setCell ⟨g, j, none⟩ u) (some g) :=
  ⟨rfl, rfl, rfl, by simp, fun k _ hk => heap_setCell_other w ⟨g, j, none⟩ k u (fun e => hk (by simp [e]))⟩
theorem grown_drewN {w w' : World} {row : Option Nat} (h : w.grownBy w' row) (m : Nat) : w.grownBy (w'.drewN m) row := ⟨h.os, h.tape, h.output, h.size, h.block⟩
end Go.Proofs.YtdhnhgppapkikaaGreatDoor

-- Ints: Slices of int64: one that reads as a list of numbers, one that the call made and may write into; no statement of the program is proved here.
namespace Go.Proofs.YtdhnhgppapkikaaGreatDoor
set_option maxRecDepth 20000
open Go.RowKit

/-- the slice value '.slice A n c' reads as the numbers zs, below block B. -/
def Ints (w : World) (B : Nat) (A : Option Addr) (n : Nat) (zs : List Int) : Prop :=
  zs.length = n ∧ (0 < n → ∃ b off, A = some ⟨b, off, none⟩ ∧ b < B ∧ ∀ i, i < n → w.cell? ⟨b, off + i, none⟩ = some (.int .i64 (zs.getD i 0)))
section
variable {w w' : World} {B B' n : Nat} {A : Option Addr} {zs : List Int}
theorem Ints.none_ : Ints w B A 0 [] := ⟨rfl, fun h => absurd h (by omega)⟩
theorem Ints.at_ {k : Nat} (h : Ints w B A n zs) (hk : k < n) : ∃ b off, A = some ⟨b, off, none⟩ ∧ b < B ∧ w.cell? ⟨b, off + k, none⟩ = some (.int .i64 (zs[k]?.getD 0)) := by
  obtain ⟨b, off, e, hb, hc⟩ := h.2 (by omega)
  exact ⟨b, off, e, hb, by simpa using hc k hk⟩
theorem Ints.keep (h : Ints w B A n zs) (hk : ∀ p : Addr, p.block < B → w'.cell? p = w.cell? p) : Ints w' B A n zs :=
  ⟨h.1, fun hn => by
    obtain ⟨b, off, e, hb, hc⟩ := h.2 hn
    exact ⟨b, off, e, hb, fun i hi => (hk _ hb).trans (hc i hi)⟩⟩
theorem Ints.more (h : Ints w B A n zs) (hB : B ≤ B') : Ints w B' A n zs :=
  ⟨h.1, fun hn => by
    obtain ⟨b, off, e, hb, hc⟩ := h.2 hn
    exact ⟨b, off, e, by omega, hc⟩⟩
theorem Ints.below (h : Ints w B A n zs) (hb : Below B w w') : Ints w' B A n zs := h.keep fun _ hp => hb.cell hp
theorem Ints.drewN (h : Ints w B A n zs) (k : Nat) : Ints (w.drewN k) B A n zs := h
theorem Ints.alloc (h : Ints w B A n zs) (hB : B ≤ w.heap.size) (o : Obj) : Ints (w.alloc o) B A n zs := h.keep fun p hp => World.cell?_alloc_lt w o p (by omega)
theorem Ints.grown (h : Ints w B A n zs) {row : Option Nat} (hg : w.grownBy w' row) (hB : B ≤ w.heap.size) (hr : ∀ g, row = some g → B ≤ g) : Ints w' B A n zs :=
  h.keep fun p hp => World.cell?_of_block (hg.block p.block (by omega) (fun e => by have := hr _ e.symm; omega))
end
theorem IsRow.ints {w : World} {a : Option Addr} {len cap : Nat} {zs : List Int} (h : IsRow .i64 w a len cap zs) : Ints w w.heap.size a len (zs.take len) := by
  rcases h with ⟨rfl, rfl, rfl, rfl⟩ | ⟨x, rfl, hl, hm, hz, hc, hw⟩
  · exact Ints.none_
  · refine ⟨by simp; omega, fun hp => ?_⟩
    obtain ⟨b, off, spot⟩ := x
    have h0 := hc 0 (by omega)
    have hspot : spot = none := by simpa [Addr.add] using World.cell?_spot h0
    subst hspot
    refine ⟨b, off, rfl, ?_, fun i hi => ?_⟩
    · have := block_lt_of_cell h0
      simpa [Addr.add] using this
    · have hci := hc i (by omega)
      have e : (Addr.add ⟨b, off, none⟩ i) = ⟨b, off + i, none⟩ := by unfold Addr.add; split <;> simp_all
      rw [e] at hci
      rw [hci]
      simp [hi]

theorem Tryz.infoI : (Tryz.prog.info? 2).map (fun i => (i.zero, i.size, i.bytes)) = some (some (.int .i64 0), 1, 8) := by kernel_rfl

/-- the cells of the numbers zs. -/
def i64s (zs : List Int) : Array Value := (zs.map (Value.int .i64)).toArray
/-- the row as far as it is filled. -/
def filledI (zs : List Int) (n k : Nat) : Array Value := i64s (zs.take k ++ List.replicate (n - k) 0)
theorem filledI_at (zs : List Int) (n k : Nat) (hz : zs.length = n) (hk : k < n) : (filledI zs n k)[k]? = some (.int .i64 0) := by
  have hm : min k zs.length = k := by omega
  have hp : 0 < n - k := by omega
  unfold filledI i64s
  simp [hm, hp]
theorem filledI_set (zs : List Int) (n k : Nat) (hz : zs.length = n) (hk : k < n) : (filledI zs n k).setIfInBounds k (.int .i64 (zs[k]?.getD 0)) = filledI zs n (k + 1) := by
  unfold filledI i64s
  rw [take_step zs k (by omega)]
  obtain ⟨m, hm⟩ : ∃ m, n - k = m + 1 := ⟨n - k - 1, by omega⟩
  have hm' : n - (k + 1) = m := by omega
  rw [hm, hm']
  have hl : min k zs.length = k := by omega
  simp [List.replicate_succ, hl]
theorem filledI_all (zs : List Int) (n : Nat) (hz : zs.length = n) : filledI zs n n = i64s zs := by
  unfold filledI
  rw [List.take_of_length_le (by omega)]; simp
theorem filledI_none (zs : List Int) (n : Nat) : madeCells #[.int .i64 0] n = filledI zs n 0 := by
  apply Array.ext
  · simp [madeCells, filledI, i64s]
  · intro i h1 h2
    simp [madeCells, filledI, i64s, Nat.mod_one]
theorem make_ints (zs : List Int) (n : Nat) (hn : n ≤ 17592186044416) (W : World) :
    (Instr.makeSlice 25 (.int .i64 (n : Int)) (.int .i64 (n : Int))).run Tryz.prog W = .ok (.slice (some ⟨W.heap.size, 0, none⟩) n n) (W.alloc (.cells (filledI zs n 0) 2)) := by
  obtain ⟨i0, hi, hz0, hz1, hz2⟩ := info_parts Tryz.infoI
  have hr := run_make (P := Tryz.prog) W 25 2 i0 (.int .i64 0) Tryz.underlying25 hi hz0 .i64 .i64 n n (by omega) (by omega) (by rw [hz2]; omega) (by omega)
  simp only [Int.toNat_natCast] at hr
  rw [hr, hz1, Nat.mul_one]
  show Result.ok _ (W.alloc (.cells (madeCells #[.int .i64 0] n) _)) = _
  rw [filledI_none zs n]

/-- the slice '.slice A n c' lies in a block of the call's own, from base on, and holds the numbers xs. -/
def OwnI (w : World) (base : Nat) (A : Option Addr) (n c : Nat) (xs : List Int) : Prop :=
  w.ownsRow base 2 1 (.slice A n c) n (xs.map (Value.int .i64))
section
variable {w w' : World} {base n c : Nat} {A : Option Addr} {xs : List Int}
theorem OwnI.nil (w : World) (base : Nat) : OwnI w base none 0 0 [] := World.ownsRow_nil _ _ _ _
theorem OwnI.len (h : OwnI w base A n c xs) : xs.length = n := by have := h.1; simpa using this
theorem OwnI.form (h : OwnI w base A n c xs) (hn : 0 < n) : ∃ g, A = some ⟨g, 0, none⟩ ∧ base ≤ g ∧ g < w.heap.size := by
  rcases h.2 with ⟨_, h0⟩ | ⟨g, cap, cur, hv, hb, hg, _⟩
  · omega
  · injection hv with hA
    refine ⟨g, hA, hb, ?_⟩
    rcases Nat.lt_or_ge g w.heap.size with hlt | hge
    · exact hlt
    · rw [Array.getElem?_eq_none hge] at hg; cases hg
theorem OwnI.ints (h : OwnI w base A n c xs) : Ints w w.heap.size A n xs :=
  ⟨h.len, fun hn => by
    obtain ⟨g, rfl, _, hlt⟩ := h.form hn
    refine ⟨g, 0, rfl, hlt, fun i hi => ?_⟩
    rw [Nat.zero_add, World.ownsRow.cellAt h i (by omega)]
    have := h.len
    simp [show i < xs.length by omega]⟩
theorem OwnI.cell {g : Nat} (h : OwnI w base (some ⟨g, 0, none⟩) n c xs) {k : Nat} (hk : k < n) : w.cell? ⟨g, k, none⟩ = some (.int .i64 (xs[k]?.getD 0)) := by
  rw [World.ownsRow.cellAt h k (by omega)]
  have := h.len
  simp [show k < xs.length by omega]
theorem OwnI.free {g : Nat} (h : OwnI w base (some ⟨g, 0, none⟩) n c xs) (k : Nat) : w.frozen? ⟨g, k, none⟩ = false := World.ownsRow.frozenAt h k
theorem OwnI.below (h : OwnI w base A n c xs) (hb : Below w.heap.size w w') : OwnI w' base A n c xs :=
  World.ownsRow.kept h (row := none) ⟨hb.os, hb.tape, hb.output, hb.size, fun k hk _ => hb.block k hk⟩ (by cases hA : Value.ownBlock (.slice A n c) <;> simp)
theorem OwnI.drewN (h : OwnI w base A n c xs) (m : Nat) : OwnI (w.drewN m) base A n c xs := h.below (below_drewN (Below.refl _ _) m)
theorem OwnI.set_ {g : Nat} (h : OwnI w base (some ⟨g, 0, none⟩) n c xs) (k : Nat) (z : Int) :
    OwnI (w.setCell ⟨g, k, none⟩ (.int .i64 z)) base (some ⟨g, 0, none⟩) n c (xs.set k z) ∧ w.grownBy (w.setCell ⟨g, k, none⟩ (.int .i64 z)) (some g) := by
  obtain ⟨h1, h2⟩ := World.ownsRow.stored h k (.int .i64 z)
  exact ⟨by unfold OwnI; rw [List.map_set]; exact h1, h2⟩
theorem OwnI.of_alloc (w : World) (base : Nat) (zs : List Int) (n : Nat) (hb : base ≤ w.heap.size) (hn : zs.length = n) (hm : n ≤ maxLen) :
    OwnI (w.alloc (.cells (i64s zs) 2)) base (some ⟨w.heap.size, 0, none⟩) n n zs :=
  World.ownsRow_lit w (i64s zs) n hb hm (by simp [i64s, hn])
theorem OwnI.empty (w : World) (base : Nat) (hb : base ≤ w.heap.size) : OwnI (w.alloc (.cells #[] 2)) base (some ⟨w.heap.size, 0, none⟩) 0 0 [] :=
  World.ownsRow_lit w #[] 0 hb (by unfold maxLen; omega) rfl
end
theorem OwnI.base {w : World} {base base' n c : Nat} {A : Option Addr} {xs : List Int} (h : OwnI w base A n c xs) (hb : base' ≤ base) : OwnI w base' A n c xs := by
  refine ⟨h.1, ?_⟩
  rcases h.2 with h | ⟨g, cap, cur, hv, hg, r⟩
  · exact .inl h
  · exact .inr ⟨g, cap, cur, hv, by omega, r⟩
theorem OwnI.grown {w w' : World} {base n c : Nat} {A : Option Addr} {xs : List Int} (h : OwnI w base A n c xs) {row : Option Nat} (hg : w.grownBy w' row) (hr : ∀ r, row = some r → r < base) : OwnI w' base A n c xs := by
  refine World.ownsRow.kept h hg ?_
  rcases hb : (Value.slice A n c).ownBlock with _ | k
  · exact .inl rfl
  · right
    intro e
    have := hr k e.symm
    have := (h.lt k hb).1
    omega
theorem own_slice {w : World} {base : Nat} {e : TypeId} {size : Nat} {v : Value} {n : Nat} {xs : List Value} (h : w.ownsRow base e size v n xs) : ∃ A c, v = .slice A n c := by
  rcases h.2 with ⟨rfl, rfl⟩ | ⟨g, cap, cur, rfl, _⟩
  · exact ⟨_, _, rfl⟩
  · exact ⟨_, _, rfl⟩
theorem ret_b {a b : Bool} (h : a = b) : Ending.returned (.bool a) = .returned (.bool b) := by rw [h]
/-- what a call leaves that hands back numbers of its own. -/
def GaveI (w : World) (zs : List Int) (e : Ending) (w' : World) : Prop := ∃ A n c, e = .returned (.slice A n c) ∧ OwnI w' w.heap.size A n c zs ∧ Below w.heap.size w w'
end Go.Proofs.YtdhnhgppapkikaaGreatDoor

-- PathM: Plain facts on keys and paths: what a digit is worth, the path of a text, the text of a path, how much two paths have in common.
namespace Go.Proofs.YtdhnhgppapkikaaGreatDoor
set_option maxRecDepth 20000
open Go.RowKit

/-- what a byte of a key is worth; -1 where it is none. -/
def wd (c : Int) : Int := if 48 ≤ c ∧ c ≤ 57 then c - 48 else if 97 ≤ c ∧ c ≤ 102 then c - 87 else -1
/-- the digit of what is worth z. -/
def dig (z : Int) : Int := if z < 10 then z + 48 else z + 87
/-- the bytes of a text, as numbers. -/
def sb (s : ByteArray) : List Int := s.data.toList.map fun b => (b.toNat : Int)
def isKey (zs : List Int) : Bool := decide (1 ≤ zs.length ∧ zs.length ≤ 8) && zs.all fun z => decide (0 ≤ wd z)
def pathOf (zs : List Int) : List Int := if isKey zs then zs.map wd else []
def isPath (ps : List Int) : Bool := decide (ps.length ≤ 8) && ps.all fun z => decide (0 ≤ z ∧ z ≤ 15)
def keyOf (ps : List Int) : List Int := if isPath ps then ps.map dig else []
def com : List Int → List Int → Nat
  | x :: a, y :: b => if x = y then com a b + 1 else 0
  | _, _ => 0

theorem sb_len (s : ByteArray) : (sb s).length = s.size := by
  unfold sb
  rw [List.length_map, Array.length_toList]; rfl
theorem sb_at (s : ByteArray) (k : Nat) (h : k < s.size) : (sb s)[k]?.getD 0 = ((s[k]'h).toNat : Int) := by
  have h' : k < s.data.size := h
  have e : s.data[k]? = some (s[k]'h) := Array.getElem?_eq_getElem h'
  unfold sb
  rw [List.getElem?_map, Array.getElem?_toList, e]
  rfl
theorem sb_bd (s : ByteArray) : ∀ z ∈ sb s, 0 ≤ z ∧ z ≤ 255 := by
  intro z hz
  simp only [sb, List.mem_map] at hz
  obtain ⟨b, _, rfl⟩ := hz
  have := b.toNat_lt
  omega
theorem wd_bd (c : Int) : -1 ≤ wd c ∧ wd c ≤ 15 := by unfold wd; split <;> (try split) <;> omega
theorem wd_dig (z : Int) (h : 0 ≤ z ∧ z ≤ 15) : wd (dig z) = z := by unfold wd dig; split <;> split <;> (try split) <;> omega
theorem dig_wd (c : Int) (h : 0 ≤ wd c) : dig (wd c) = c := by
  by_cases h1 : 48 ≤ c ∧ c ≤ 57
  · have e : wd c = c - 48 := if_pos h1
    rw [e]; unfold dig; split <;> omega
  · by_cases h2 : 97 ≤ c ∧ c ≤ 102
    · have e : wd c = c - 87 := by unfold wd; rw [if_neg h1, if_pos h2]
      rw [e]; unfold dig; split <;> omega
    · have e : wd c = -1 := by unfold wd; rw [if_neg h1, if_neg h2]
      omega
theorem dig_bd (z : Int) (h : 0 ≤ z ∧ z ≤ 15) : 48 ≤ dig z ∧ dig z ≤ 102 := by unfold dig; split <;> omega
theorem isKey_iff (zs : List Int) : isKey zs = true ↔ (1 ≤ zs.length ∧ zs.length ≤ 8) ∧ ∀ z ∈ zs, 0 ≤ wd z := by simp [isKey]
theorem isPath_iff (ps : List Int) : isPath ps = true ↔ ps.length ≤ 8 ∧ ∀ z ∈ ps, 0 ≤ z ∧ z ≤ 15 := by simp [isPath]
theorem pathOf_len (zs : List Int) : (pathOf zs).length ≤ 8 := by
  unfold pathOf
  split
  · rename_i h; have := (isKey_iff zs).1 h; simp; omega
  · simp
theorem pathOf_pos (zs : List Int) : decide (0 < (pathOf zs).length) = isKey zs := by
  unfold pathOf
  split
  · rename_i h; have := (isKey_iff zs).1 h; rw [h]; simp; omega
  · rename_i h; simp at h; simp [h]
theorem pathOf_long (zs : List Int) (h : 8 < zs.length) : pathOf zs = [] := by
  unfold pathOf
  rw [if_neg]
  intro e
  have := (isKey_iff zs).1 e
  omega
theorem pathOf_bad (zs : List Int) (k : Nat) (hk : k < zs.length) (h : wd (zs[k]?.getD 0) < 0) : pathOf zs = [] := by
  unfold pathOf
  rw [if_neg]
  intro e
  have h2 := ((isKey_iff zs).1 e).2 (zs[k]?.getD 0) (by rw [List.getElem?_eq_getElem hk]; exact List.getElem_mem hk)
  omega
theorem pathOf_good (zs : List Int) (hl : zs.length ≤ 8) (h : ∀ z ∈ zs, 0 ≤ wd z) : pathOf zs = zs.map wd := by
  unfold pathOf
  split
  · rfl
  · rename_i e
    rcases zs with _ | ⟨z, r⟩
    · rfl
    · exact absurd ((isKey_iff _).2 ⟨⟨by simp, hl⟩, h⟩) e
theorem isKey_bad (zs : List Int) (k : Nat) (hk : k < zs.length) (h : wd (zs[k]?.getD 0) < 0) : isKey zs = false := by
  rw [← pathOf_pos, pathOf_bad zs k hk h]; simp
theorem isKey_good (zs : List Int) (h : ∀ z ∈ zs, 0 ≤ wd z) : isKey zs = decide (1 ≤ zs.length ∧ zs.length ≤ 8) := by
  unfold isKey
  rw [show (zs.all fun z => decide (0 ≤ wd z)) = true by simpa using h, Bool.and_true]
theorem good_step (zs : List Int) (k : Nat) (hk : k < zs.length) (h : ∀ z ∈ zs.take k, 0 ≤ wd z) (h1 : 0 ≤ wd (zs[k]?.getD 0)) : ∀ z ∈ zs.take (k + 1), 0 ≤ wd z := by
  rw [take_step zs k hk]
  intro z hz
  simp only [List.mem_append, List.mem_singleton] at hz
  rcases hz with hz | rfl
  · exact h z hz
  · exact h1
theorem map_take_step (f : Int → Int) (zs : List Int) (k : Nat) (hk : k < zs.length) : (zs.take (k + 1)).map f = (zs.take k).map f ++ [f (zs[k]?.getD 0)] := by
  rw [take_step zs k hk]; simp

theorem keyOf_long (ps : List Int) (h : 8 < ps.length) : keyOf ps = [] := by
  unfold keyOf
  rw [if_neg]
  intro e
  have := (isPath_iff ps).1 e
  omega
theorem keyOf_bad (ps : List Int) (k : Nat) (hk : k < ps.length) (h : ¬ (0 ≤ ps[k]?.getD 0 ∧ ps[k]?.getD 0 ≤ 15)) : keyOf ps = [] := by
  unfold keyOf
  rw [if_neg]
  intro e
  exact h (((isPath_iff ps).1 e).2 (ps[k]?.getD 0) (by rw [List.getElem?_eq_getElem hk]; exact List.getElem_mem hk))
theorem isPath_bad (ps : List Int) (k : Nat) (hk : k < ps.length) (h : ¬ (0 ≤ ps[k]?.getD 0 ∧ ps[k]?.getD 0 ≤ 15)) : isPath ps = false := by
  rw [Bool.eq_false_iff]
  intro e
  exact h (((isPath_iff ps).1 e).2 (ps[k]?.getD 0) (by rw [List.getElem?_eq_getElem hk]; exact List.getElem_mem hk))
theorem keyOf_good (ps : List Int) (hl : ps.length ≤ 8) (h : ∀ z ∈ ps, 0 ≤ z ∧ z ≤ 15) : keyOf ps = ps.map dig := by
  unfold keyOf
  rw [if_pos ((isPath_iff ps).2 ⟨hl, h⟩)]
theorem path_step (ps : List Int) (k : Nat) (hk : k < ps.length) (h : ∀ z ∈ ps.take k, 0 ≤ z ∧ z ≤ 15) (h1 : 0 ≤ ps[k]?.getD 0 ∧ ps[k]?.getD 0 ≤ 15) : ∀ z ∈ ps.take (k + 1), 0 ≤ z ∧ z ≤ 15 := by
  rw [take_step ps k hk]
  intro z hz
  simp only [List.mem_append, List.mem_singleton] at hz
  rcases hz with hz | rfl
  · exact h z hz
  · exact h1

theorem sb_str (zs : List Int) (h : ∀ z ∈ zs, 0 ≤ z ∧ z ≤ 255) : sb (strOfNums zs) = zs := by
  simp only [sb, strOfNums, List.map_map]
  rw [List.map_congr_left (g := id), List.map_id]
  intro z hz
  have := h z hz
  simp
  omega
theorem str_sb (s : ByteArray) : strOfNums (sb s) = s := by
  obtain ⟨⟨l⟩⟩ := s
  simp only [sb, strOfNums, List.map_map]
  congr 2
  conv => rhs; rw [← List.map_id l]
  apply List.map_congr_left
  intro b _
  simp
theorem str_append (a b : List Int) : strOfNums a ++ strOfNums b = strOfNums (a ++ b) := by
  unfold strOfNums
  rw [ByteArray.mk_append_mk, List.map_append]
/-- the text of the digits of a path is a key, where it is not empty. -/
theorem isKey_digs (ps : List Int) (hl : ps.length ≤ 8) (h : ∀ z ∈ ps, 0 ≤ z ∧ z ≤ 15) : isKey (sb (strOfNums (ps.map dig))) = decide (1 ≤ ps.length) := by
  rw [sb_str]
  · rw [isKey_good]
    · simp [hl]
    · intro z hz
      obtain ⟨p, hp, rfl⟩ := List.mem_map.1 hz
      rw [wd_dig p (h p hp)]
      exact (h p hp).1
  · intro z hz
    obtain ⟨p, hp, rfl⟩ := List.mem_map.1 hz
    have := dig_bd p (h p hp)
    omega
/-- the key of the path of a key is the key. -/
theorem keyOf_pathOf (zs : List Int) (h : isKey zs = true) : keyOf (pathOf zs) = zs := by
  have hk := (isKey_iff zs).1 h
  unfold pathOf
  rw [if_pos h, keyOf_good (zs.map wd) (by simp; omega) (by
    intro z hz
    obtain ⟨p, hp, rfl⟩ := List.mem_map.1 hz
    exact ⟨hk.2 p hp, (wd_bd p).2⟩), List.map_map]
  conv => rhs; rw [← List.map_id zs]
  apply List.map_congr_left
  intro c hc
  exact dig_wd c (hk.2 c hc)

theorem com_self (a : List Int) : com a a = a.length := by
  induction a with
  | nil => rfl
  | cons x r ih => simp [com, ih]
theorem com_is (a b : List Int) (k : Nat) (ha : k ≤ a.length) (hb : k ≤ b.length) (hs : ∀ i, i < k → a[i]?.getD 0 = b[i]?.getD 0) (he : k = a.length ∨ k = b.length ∨ a[k]?.getD 0 ≠ b[k]?.getD 0) : com a b = k := by
  induction a generalizing b k with
  | nil => simp at ha; subst ha; rfl
  | cons x r ih =>
    rcases b with _ | ⟨y, q⟩
    · simp at hb; subst hb; rfl
    · rcases k with _ | k
      · simp at he
        simp [com, he]
      · have h0 := hs 0 (by omega)
        simp at h0
        subst h0
        simp only [com, if_true]
        congr 1
        refine ih q k (by simpa using ha) (by simpa using hb) (fun i hi => ?_) ?_
        · have := hs (i + 1) (by omega)
          simpa using this
        · simpa using he
theorem map_at (f : Int → Int) (zs : List Int) (k : Nat) (hk : k < zs.length) : (zs.map f)[k]?.getD 0 = f (zs[k]?.getD 0) := by
  rw [List.getElem?_map, List.getElem?_eq_getElem hk]; rfl
/-- the sixteen digits. -/
def digits16 : ByteArray := { data := #[48, 49, 50, 51, 52, 53, 54, 55, 56, 57, 97, 98, 99, 100, 101, 102] }
theorem dig_lit (z : Int) (h0 : 0 ≤ z) (h1 : z ≤ 15) (hh : z.toNat < digits16.size) : ((digits16[z.toNat]'hh).toNat : Int) = dig z := by
  obtain ⟨k, rfl⟩ : ∃ k : Nat, z = k := ⟨z.toNat, by omega⟩
  simp only [Int.toNat_natCast]
  match k, h1 with
  | 0, _ => rfl
  | 1, _ => rfl
  | 2, _ => rfl
  | 3, _ => rfl
  | 4, _ => rfl
  | 5, _ => rfl
  | 6, _ => rfl
  | 7, _ => rfl
  | 8, _ => rfl
  | 9, _ => rfl
  | 10, _ => rfl
  | 11, _ => rfl
  | 12, _ => rfl
  | 13, _ => rfl
  | 14, _ => rfl
  | 15, _ => rfl
  | k + 16, h1 => omega
theorem dig_cut (z : Int) (h0 : 0 ≤ z) (h1 : z ≤ 15) : digits16.extract z.toNat (z + 1).toNat = strOfNums [dig z] := by
  obtain ⟨k, rfl⟩ : ∃ k : Nat, z = k := ⟨z.toNat, by omega⟩
  match k, h1 with
  | 0, _ => rfl
  | 1, _ => rfl
  | 2, _ => rfl
  | 3, _ => rfl
  | 4, _ => rfl
  | 5, _ => rfl
  | 6, _ => rfl
  | 7, _ => rfl
  | 8, _ => rfl
  | 9, _ => rfl
  | 10, _ => rfl
  | 11, _ => rfl
  | 12, _ => rfl
  | 13, _ => rfl
  | 14, _ => rfl
  | 15, _ => rfl
  | k + 16, h1 => omega
end Go.Proofs.YtdhnhgppapkikaaGreatDoor

-- PathP: What the program's KeyOk, PathOf, KeyOf and CommonOf answer: for every text, every list.
namespace Go.Proofs.YtdhnhgppapkikaaGreatDoor
set_option maxRecDepth 20000
open Go.RowKit

theorem own_iter {w : World} {base : Nat} {e : TypeId} {size : Nat} {v : Value} {n : Nat} {xs : List Value} (h : w.ownsRow base e size v n xs) {k : Nat} {s : ByteArray} {p : Nat} (hk : w.heap[k]? = some (.stringIter s p)) (q : Nat) : (w.iterAt k s q).ownsRow base e size v n xs := by
  obtain ⟨h1, h2⟩ := h
  refine ⟨h1, ?_⟩
  rcases h2 with h2 | ⟨g, cap, cur, a, b, c, d⟩
  · exact .inl h2
  · refine .inr ⟨g, cap, cur, a, b, ?_, d⟩
    rw [Lib.iterAt_other _ _ _ _ _ (fun e1 => by rw [e1, hk] at c; cases c)]
    exact c
theorem own_apart {w : World} {base : Nat} {e : TypeId} {size : Nat} {v : Value} {n : Nat} {xs : List Value} (h : w.ownsRow base e size v n xs) {k : Nat} {s : ByteArray} {p : Nat} (hk : w.heap[k]? = some (.stringIter s p)) : some k ≠ v.ownBlock := by
  rcases h.2 with ⟨rfl, _⟩ | ⟨g, cap, cur, rfl, b, c, d⟩
  · exact fun h => by cases h
  · intro e1
    cases e1
    rw [hk] at c
    cases c

end Go.Proofs.YtdhnhgppapkikaaGreatDoor
