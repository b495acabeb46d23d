/- Several texts in one, in build order: Bytes, OwnB, Std, Mine, Ints, Kids, Touch, PathM, NodeM, L1In, NodeS, NodeK, KidsX, IntsX, NodeX, NameB. -/
import Derived.WalkKit
import Derived.ProofKit
import Derived.OpenShut
import Derived.Below
import Derived.Deep.Draws
import Derived.Lib.Hide
import Derived.Laws.Rows
import Derived.Test.YtepaikljiddiaaaRows
import Derived.LoopTactic
import Derived.Outline
import Derived.Deep.QuietTactic
import Derived.BigQuiet
import Derived.Laws.MakeOwn
import Derived.WalkSmall
import Derived.OwnWalk
import Derived.Laws.OwnMore
import Derived.Deep.AppendLies
import Derived.Deep.SlicePairs
import Derived.Laws.BytesArg
import Derived.Laws.Concat
import Derived.Laws.Strings
import Derived.Laws.Strings2
import Derived.Laws.RangeAny
import Derived.WalkLawsBesides
import Derived.WalkSpells
import Derived.StillTailTactics
-- Bytes: Plain facts on a slice of bytes that reads as a list, on the two sums of a name, and on worlds; no statement of the program is proved here.
namespace Go.Proofs.Ytepaikljiddiaaa
set_option maxRecDepth 20000
open Go.RowKit

/-- the slice value '.slice A n c' reads as the bytes zs, below block B. -/
def Byts (w : World) (B : Nat) (A : Option Addr) (n : Nat) (zs : List Int) : Prop :=
  zs.length = n ∧ (∀ z ∈ zs, 0 ≤ z ∧ z ≤ 255) ∧
  (0 < n → ∃ b off, A = some ⟨b, off, none⟩ ∧ b < B ∧ ∀ i, i < n → w.cell? ⟨b, off + i, none⟩ = some (.int .u8 (zs.getD i 0)))

section
variable {w w' : World} {B B' n : Nat} {A : Option Addr} {zs : List Int}
theorem Byts.none_ : Byts w B A 0 [] := ⟨rfl, by simp, fun h => absurd h (by omega)⟩
theorem Byts.range (h : Byts w B A n zs) (k : Nat) : 0 ≤ zs[k]?.getD 0 ∧ zs[k]?.getD 0 ≤ 255 := by
  by_cases hk : k < zs.length
  · rw [List.getElem?_eq_getElem hk]; exact h.2.1 _ (List.getElem_mem hk)
  · rw [List.getElem?_eq_none (by omega)]; simp
theorem Byts.at_ {k : Nat} (h : Byts w B A n zs) (hk : k < n) : ∃ b off, A = some ⟨b, off, none⟩ ∧ b < B ∧ w.cell? ⟨b, off + k, none⟩ = some (.int .u8 (zs[k]?.getD 0)) := by
  obtain ⟨b, off, e, hb, hc⟩ := h.2.2 (by omega)
  exact ⟨b, off, e, hb, by simpa using hc k hk⟩
theorem Byts.keep (h : Byts w B A n zs) (hk : ∀ p : Addr, p.block < B → w'.cell? p = w.cell? p) : Byts w' B A n zs :=
  ⟨h.1, h.2.1, fun hn => by
    obtain ⟨b, off, e, hb, hc⟩ := h.2.2 hn
    exact ⟨b, off, e, hb, fun i hi => (hk _ hb).trans (hc i hi)⟩⟩
theorem Byts.more (h : Byts w B A n zs) (hB : B ≤ B') : Byts w B' A n zs :=
  ⟨h.1, h.2.1, fun hn => by
    obtain ⟨b, off, e, hb, hc⟩ := h.2.2 hn
    exact ⟨b, off, e, by omega, hc⟩⟩
theorem Byts.below (h : Byts w B A n zs) (hb : Below B w w') : Byts w' B A n zs := h.keep fun _ hp => hb.cell hp
theorem Byts.drew (h : Byts w B A n zs) : Byts w.drew B A n zs := h
theorem Byts.drewN (h : Byts w B A n zs) (k : Nat) : Byts (w.drewN k) B A n zs := h
theorem Byts.alloc (h : Byts w B A n zs) (hB : B ≤ w.heap.size) (o : Obj) : Byts (w.alloc o) B A n zs := h.keep fun p hp => World.cell?_alloc_lt w o p (by omega)
end

/-- the cells of the bytes zs. -/
def u8s (zs : List Int) : Array Value := (zs.map (Value.int .u8)).toArray
theorem u8s_at (zs : List Int) (i : Nat) (h : i < zs.length) : (u8s zs)[i]? = some (.int .u8 (zs.getD i 0)) := by
  simp [u8s, h]
/-- a row of bytes that is a block of its own. -/
theorem Byts.new {w : World} {g : Nat} {zs : List Int} {t : TypeId} {n : Nat} (hz : zs.length = n) (hr : ∀ z ∈ zs, 0 ≤ z ∧ z ≤ 255) (h : w.heap[g]? = some (.cells (u8s zs) t (0, 0))) : Byts w (g + 1) (some ⟨g, 0, none⟩) n zs :=
  ⟨hz, hr, fun _ => ⟨g, 0, rfl, by omega, fun i hi => by rw [cell_of_row w g _ _ t (0, 0) h, Nat.zero_add]; exact u8s_at zs i (by omega)⟩⟩

/-- what is told of a slice of integers that came in: nil, or a row of cells. -/
def IsRow (k : IntKind) (w : World) (a : Option Addr) (len cap : Nat) (zs : List Int) : Prop :=
  (a = none ∧ len = 0 ∧ cap = 0 ∧ zs = []) ∨
  ∃ x, a = some x ∧ len ≤ cap ∧ cap ≤ maxLen ∧ zs.length = cap ∧ (∀ i, i < zs.length → w.cell? (x.add i) = some (.int k (zs.getD i 0))) ∧ ∀ n ∈ zs, (Lit.int k n).wf = true
theorem IsRow.len_le {k : IntKind} {w : World} {a : Option Addr} {len cap : Nat} {zs : List Int} (h : IsRow k w a len cap zs) : len ≤ 9223372036854775807 := by
  rcases h with ⟨_, h, _⟩ | ⟨_, _, h, h', _⟩
  · omega
  · unfold maxLen at h'; omega
theorem IsRow.byts {w : World} {a : Option Addr} {len cap : Nat} {zs : List Int} (h : IsRow .u8 w a len cap zs) : Byts w w.heap.size a len (zs.take len) := by
  rcases h with ⟨rfl, rfl, rfl, rfl⟩ | ⟨x, rfl, hl, hm, hz, hc, hw⟩
  · exact Byts.none_
  · refine ⟨by simp; omega, fun z hzm => ?_, fun hp => ?_⟩
    · have hwz := hw z (List.mem_of_mem_take hzm)
      exact bounds_u8 hwz
    · obtain ⟨b, off, spot⟩ := x
      have h0 := hc 0 (by omega)
      have hspot : spot = none := by simpa [Addr.add] using World.cell?_spot h0
      subst hspot
      refine ⟨b, off, rfl, ?_, fun i hi => ?_⟩
      · have := block_lt_of_cell h0
        simpa [Addr.add] using this
      · have hci := hc i (by omega)
        have e : (Addr.add ⟨b, off, none⟩ i) = ⟨b, off + i, none⟩ := by unfold Addr.add; split <;> simp_all
        rw [e] at hci
        rw [hci]
        simp [hi]

/-! the two sums -/
def upStep (s c : Int) : Int := (131 * s + c + 1) % 2147483647
def loStep (s c : Int) : Int := (137 * s + c + 1) % 2147483629
def upSum (zs : List Int) : Int := zs.foldl upStep 7
def loSum (zs : List Int) : Int := zs.foldl loStep 11
def nameOf (zs : List Int) : Int := upSum zs * 2147483648 + loSum zs + 1
theorem take_step (zs : List Int) (k : Nat) (h : k < zs.length) : zs.take (k + 1) = zs.take k ++ [zs[k]?.getD 0] := by
  rw [List.take_succ_eq_append_getElem h, List.getElem?_eq_getElem h]; rfl
theorem upSum_step (zs : List Int) (k : Nat) (h : k < zs.length) : upSum (zs.take (k + 1)) = (131 * upSum (zs.take k) + zs[k]?.getD 0 + 1) % 2147483647 := by
  rw [take_step zs k h, upSum, List.foldl_append]; rfl
theorem loSum_step (zs : List Int) (k : Nat) (h : k < zs.length) : loSum (zs.take (k + 1)) = (137 * loSum (zs.take k) + zs[k]?.getD 0 + 1) % 2147483629 := by
  rw [take_step zs k h, loSum, List.foldl_append]; rfl
theorem fold_bd (f : Int → Int → Int) (m : Int) (hf : ∀ s c, 0 ≤ f s c ∧ f s c < m) (zs : List Int) (s : Int) (hs : 0 ≤ s ∧ s < m) : 0 ≤ zs.foldl f s ∧ zs.foldl f s < m := by
  induction zs generalizing s with
  | nil => exact hs
  | cons z r ih => exact ih _ (hf s z)
theorem upSum_bd (zs : List Int) : 0 ≤ upSum zs ∧ upSum zs < 2147483647 := fold_bd _ _ (fun s c => by unfold upStep; omega) zs 7 (by omega)
theorem loSum_bd (zs : List Int) : 0 ≤ loSum zs ∧ loSum zs < 2147483629 := fold_bd _ _ (fun s c => by unfold loStep; omega) zs 11 (by omega)
theorem ret_i64 {k : IntKind} {a b : Int} (h : a = b) : Ending.returned (.int k a) = .returned (.int k b) := by rw [h]
end Go.Proofs.Ytepaikljiddiaaa

-- OwnB: Slices of bytes in blocks of their own: a row as far as it is filled, a slice that the call made and may write into; no statement of the program is proved here.
namespace Go.Proofs.Ytepaikljiddiaaa
set_option maxRecDepth 20000
open Go.RowKit

theorem Try.info5 : (Try.prog.info? 5).map (fun i => (i.zero, i.size, i.bytes)) = some (some (.int .u8 0), 1, 1) := by kernel_rfl

/-- the row as far as it is filled. -/
def filled (zs : List Int) (n k : Nat) : Array Value := u8s (zs.take k ++ List.replicate (n - k) 0)
theorem filled_at (zs : List Int) (n k : Nat) (hz : zs.length = n) (hk : k < n) : (filled zs n k)[k]? = some (.int .u8 0) := by
  have hm : min k zs.length = k := by omega
  have hp : 0 < n - k := by omega
  unfold filled u8s
  simp [hm, hp]
theorem filled_set (zs : List Int) (n k : Nat) (hz : zs.length = n) (hk : k < n) : (filled zs n k).setIfInBounds k (.int .u8 (zs[k]?.getD 0)) = filled zs n (k + 1) := by
  unfold filled u8s
  rw [take_step zs k (by omega)]
  obtain ⟨m, hm⟩ : ∃ m, n - k = m + 1 := ⟨n - k - 1, by omega⟩
  have hm' : n - (k + 1) = m := by omega
  rw [hm, hm']
  have hl : min k zs.length = k := by omega
  simp [List.replicate_succ, hl]
theorem filled_all (zs : List Int) (n : Nat) (hz : zs.length = n) : filled zs n n = u8s zs := by
  unfold filled
  rw [List.take_of_length_le (by omega)]; simp
theorem filled_none (zs : List Int) (n : Nat) : madeCells #[.int .u8 0] n = filled zs n 0 := by
  apply Array.ext
  · simp [madeCells, filled, u8s]
  · intro i h1 h2
    simp [madeCells, filled, u8s, Nat.mod_one]
theorem u8s_size (zs : List Int) : (u8s zs).size = zs.length := by simp [u8s]

/-- block g is a row of just these bytes, made by the call. -/
def Row (w : World) (g : Nat) (zs : List Int) : Prop := w.heap[g]? = some (.cells (u8s zs) 5 (0, 0)) ∧ ∀ z ∈ zs, 0 ≤ z ∧ z ≤ 255
theorem Row.lt {w : World} {g : Nat} {zs : List Int} (h : Row w g zs) : g < w.heap.size := by
  rcases Nat.lt_or_ge g w.heap.size with hlt | hge
  · exact hlt
  · have h1 := h.1; rw [Array.getElem?_eq_none hge] at h1; cases h1
theorem Row.below {w w' : World} {g B : Nat} {zs : List Int} (h : Row w g zs) (hb : Below B w w') (hg : g < B) : Row w' g zs := ⟨(hb.block g hg).trans h.1, h.2⟩
theorem Row.drewN {w : World} {g : Nat} {zs : List Int} (h : Row w g zs) (m : Nat) : Row (w.drewN m) g zs := h
theorem Row.byts {w : World} {g n : Nat} {zs : List Int} (h : Row w g zs) (hn : zs.length = n) : Byts w w.heap.size (some ⟨g, 0, none⟩) n zs := (Byts.new hn h.2 h.1).more h.lt

/-- the slice '.slice A n c' lies in a block of the call's own, from base on, and holds the bytes xs. -/
def Mine (w : World) (base : Nat) (A : Option Addr) (n c : Nat) (xs : List Int) : Prop :=
  w.ownsRow base 5 1 (.slice A n c) n (xs.map (Value.int .u8)) ∧ ∀ z ∈ xs, 0 ≤ z ∧ z ≤ 255
section
variable {w w' : World} {base n c : Nat} {A : Option Addr} {xs : List Int}
theorem Mine.nil (w : World) (base : Nat) : Mine w base none 0 0 [] := ⟨World.ownsRow_nil _ _ _ _, by simp⟩
theorem Mine.len (h : Mine w base A n c xs) : xs.length = n := by have := h.1.1; simpa using this
theorem Mine.form (h : Mine w base A n c xs) (hn : 0 < n) : ∃ g, A = some ⟨g, 0, none⟩ ∧ base ≤ g ∧ g < w.heap.size := by
  rcases h.1.2 with ⟨_, h0⟩ | ⟨g, cap, cur, hv, hb, hg, _⟩
  · omega
  · injection hv with hA
    refine ⟨g, hA, hb, ?_⟩
    rcases Nat.lt_or_ge g w.heap.size with hlt | hge
    · exact hlt
    · rw [Array.getElem?_eq_none hge] at hg; cases hg
theorem Mine.byts (h : Mine w base A n c xs) : Byts w w.heap.size A n xs :=
  ⟨h.len, h.2, fun hn => by
    obtain ⟨g, rfl, _, hlt⟩ := h.form hn
    refine ⟨g, 0, rfl, hlt, fun i hi => ?_⟩
    rw [Nat.zero_add, World.ownsRow.cellAt h.1 i (by omega)]
    have := h.len
    simp [show i < xs.length by omega]⟩
theorem Mine.cell {g : Nat} (h : Mine w base (some ⟨g, 0, none⟩) n c xs) {k : Nat} (hk : k < n) : w.cell? ⟨g, k, none⟩ = some (.int .u8 (xs[k]?.getD 0)) := by
  rw [World.ownsRow.cellAt h.1 k (by omega)]
  have := h.len
  simp [show k < xs.length by omega]
theorem Mine.free {g : Nat} (h : Mine w base (some ⟨g, 0, none⟩) n c xs) (k : Nat) : w.frozen? ⟨g, k, none⟩ = false := World.ownsRow.frozenAt h.1 k
theorem Mine.below (h : Mine w base A n c xs) (hb : Below w.heap.size w w') : Mine w' base A n c xs :=
  ⟨World.ownsRow.kept h.1 (row := none) ⟨hb.os, hb.tape, hb.output, hb.size, fun k hk _ => hb.block k hk⟩ (by cases hA : Value.ownBlock (.slice A n c) <;> simp), h.2⟩
theorem Mine.drewN (h : Mine w base A n c xs) (m : Nat) : Mine (w.drewN m) base A n c xs := h.below (below_drewN (Below.refl _ _) m)
theorem Mine.set_ {g : Nat} (h : Mine w base (some ⟨g, 0, none⟩) n c xs) (k : Nat) (z : Int) (hz : 0 ≤ z ∧ z ≤ 255) :
    Mine (w.setCell ⟨g, k, none⟩ (.int .u8 z)) base (some ⟨g, 0, none⟩) n c (xs.set k z) ∧ w.grownBy (w.setCell ⟨g, k, none⟩ (.int .u8 z)) (some g) := by
  obtain ⟨h1, h2⟩ := World.ownsRow.stored h.1 k (.int .u8 z)
  refine ⟨⟨by rw [List.map_set]; exact h1, fun y hy => ?_⟩, h2⟩
  rcases List.mem_or_eq_of_mem_set hy with hy | rfl
  · exact h.2 y hy
  · exact hz
theorem Mine.of_alloc (w : World) (base : Nat) (zs : List Int) (n : Nat) (hb : base ≤ w.heap.size) (hn : zs.length = n) (hm : n ≤ maxLen) (hz : ∀ z ∈ zs, 0 ≤ z ∧ z ≤ 255) :
    Mine (w.alloc (.cells (u8s zs) 5)) base (some ⟨w.heap.size, 0, none⟩) n n zs :=
  ⟨World.ownsRow_lit w (u8s zs) n hb hm (by simp [u8s, hn]), hz⟩
theorem Byts.grown {B : Nat} {zs : List Int} (h : Byts w B A n zs) {row : Option Nat} (hg : w.grownBy w' row) (hB : B ≤ w.heap.size) (hr : ∀ g, row = some g → B ≤ g) : Byts w' B A n zs :=
  h.keep fun p hp => World.cell?_of_block (hg.block p.block (by omega) (fun e => by have := hr _ e.symm; omega))
end

theorem make_bytes (zs : List Int) (n : Nat) (hn : n ≤ 140737488355328) (W : World) :
    (Instr.makeSlice 22 (.int .i64 (n : Int)) (.int .i64 (n : Int))).run Try.prog W = .ok (.slice (some ⟨W.heap.size, 0, none⟩) n n) (W.alloc (.cells (filled zs n 0) 5)) := by
  obtain ⟨i0, hi, hz0, hz1, hz2⟩ := info_parts Try.info5
  have hr := run_make (P := Try.prog) W 22 5 i0 (.int .u8 0) Try.underlying22 hi hz0 .i64 .i64 n n (by omega) (by omega) (by rw [hz2]; omega) (by omega)
  simp only [Int.toNat_natCast] at hr
  rw [hr, hz1, Nat.mul_one]
  show Result.ok _ (W.alloc (.cells (madeCells #[.int .u8 0] n) _)) = _
  rw [filled_none zs n]

theorem Mine.empty (w : World) : Mine (w.alloc (.cells #[] 5)) w.heap.size (some ⟨w.heap.size, 0, none⟩) 0 0 [] :=
  ⟨World.ownsRow_lit w #[] 0 (Nat.le_refl _) (by unfold maxLen; omega) rfl, by simp⟩
theorem Mine.base {w : World} {base base' n c : Nat} {A : Option Addr} {xs : List Int} (h : Mine w base A n c xs) (hb : base' ≤ base) : Mine w base' A n c xs := by
  refine ⟨⟨h.1.1, ?_⟩, h.2⟩
  rcases h.1.2 with h | ⟨g, cap, cur, hv, hg, r⟩
  · exact .inl h
  · exact .inr ⟨g, cap, cur, hv, by omega, r⟩
theorem Mine.grown {w w' : World} {base n c : Nat} {A : Option Addr} {xs : List Int} (h : Mine w base A n c xs) {row : Option Nat} (hg : w.grownBy w' row) (hr : ∀ r, row = some r → r < base) : Mine w' base A n c xs := by
  refine ⟨World.ownsRow.kept h.1 hg ?_, h.2⟩
  rcases hb : (Value.slice A n c).ownBlock with _ | k
  · exact .inl rfl
  · right
    intro e
    have := hr k e.symm
    have := (h.1.lt k hb).1
    omega

theorem grown_new {a b c : World} {row : Option Nat} {r : Nat} (h : a.grownBy b row) (k : b.grownBy c (some r)) (hr : a.heap.size ≤ r) : a.grownBy c row :=
  ⟨k.os.trans h.os, k.tape.trans h.tape, k.output.trans h.output, Nat.le_trans h.size k.size, fun x hx hne => (k.block x (Nat.lt_of_lt_of_le hx h.size) (fun e => by cases e; omega)).trans (h.block x hx hne)⟩
theorem grown_below {a b : World} {r B : Nat} (h : a.grownBy b (some r)) (hB : B ≤ a.heap.size) (hr : B ≤ r) : Below B a b := (Below.refl _ _).grown h hB (fun k e => by cases e; exact hr)

/-- a row of the call's own may be written. -/
theorem row_mine {w : World} {base g n : Nat} {zs : List Int} (h : Row w g zs) (hn : zs.length = n) (hb : base ≤ g) (hm : n ≤ maxLen) : Mine w base (some ⟨g, 0, none⟩) n n zs := by
  subst hn
  exact ⟨⟨by simp, .inr ⟨g, zs.length, _, rfl, hb, h.1, Nat.le_refl _, hm, by simp [u8s], by rw [Nat.mul_one]; exact List.take_of_length_le (by simp [u8s])⟩⟩, h.2⟩
theorem grown_set (w : World) (g j : Nat) (u : Value) : w.grownBy (w.setCell ⟨g, j, none⟩ u) (some g) :=
  ⟨rfl, rfl, rfl, by simp, fun k _ hk => heap_setCell_other w ⟨g, j, none⟩ k u (fun e => hk (by simp [e]))⟩
theorem grown_drewN {w w' : World} {row : Option Nat} (h : w.grownBy w' row) (m : Nat) : w.grownBy (w'.drewN m) row := ⟨h.os, h.tape, h.output, h.size, h.block⟩
end Go.Proofs.Ytepaikljiddiaaa

-- Std: What the helpers of the exact laws do at slices of bytes: a copy is a new row of the same bytes; two that read alike are told alike.
namespace Go.Proofs.Ytepaikljiddiaaa
set_option maxRecDepth 20000
open Go.RowKit

theorem copy_any (A : Option Addr) (n c : Nat) (zs : List Int) (B : Nat) (w : World) (hn : n ≤ 140737488355328) (hB : B ≤ w.heap.size) (hb : Byts w B A n zs) :
    Calls Try.prog 28 #[.slice A n c] w fun e w' => e = .returned (.slice (some ⟨w.heap.size, 0, none⟩) n n) ∧ w' = w.alloc (.cells (u8s zs) 5) := by
  have hlen : zs.length = n := hb.1
  have HL := Lib.hid hlen
  have HB := Lib.hid hb
  clear hb hlen
  obtain ⟨i0, hi, hz0, hz1, hz2⟩ := info_parts Try.info5
  have hmk : ∀ W : World, (Instr.makeSlice 22 (.int .i64 (n : Int)) (.int .i64 (n : Int))).run Try.prog W = .ok (.slice (some ⟨W.heap.size, 0, none⟩) n n) (W.alloc (.cells (filled zs n 0) 5)) := by
    intro W
    have hr := run_make (P := Try.prog) W 22 5 i0 (.int .u8 0) Try.underlying22 hi hz0 .i64 .i64 n n (by omega) (by omega) (by rw [hz2]; omega) (by omega)
    simp only [Int.toNat_natCast] at hr
    rw [hr, hz1, Nat.mul_one]
    show Result.ok _ (W.alloc (.cells (madeCells #[.int .u8 0] n) _)) = _
    rw [filled_none zs n]
  have HM := Lib.hid hmk
  clear hmk hi hz0 hz1 hz2
  go_enter Try.func28, Try.ntmps28
  have hmk := HM.out
  go_wp2
  clear hmk
  go_loopw [4] (fun i wr => ∃ k : Nat, k ≤ n ∧ i = .int .i64 k ∧ wr = w.alloc (.cells (filled zs n k) 5)) (fun i _ => n - (intOf i).toNat)
  case atStart => exact ⟨0, Nat.zero_le _, rfl, rfl⟩
  case round =>
    obtain ⟨k, hk, rfl, rfl⟩ := hrel
    by_cases hlt : k < n
    · obtain ⟨b, off, rfl, hbB, hc⟩ := HB.out.at_ hlt
      have hr := HB.out.range k
      have hbw : b < w.heap.size := by omega
      have hg : (filled zs n k)[k]? = some (.int .u8 0) := filled_at zs n k HL.out hlt
      have hst := Lib.hid (filled_set zs n k HL.out hlt)
      go_wp2
      go_roundw
      case rel => exact ⟨k + 1, by omega, by go_num, by rw [hst.out]⟩
      case measure => simp [intOf]; omega
    · go_wp2
      go_ret
      exact ⟨rfl, by rw [show k = n by omega, filled_all zs n HL.out]⟩

theorem copy_own (A : Option Addr) (n c : Nat) (zs : List Int) (B : Nat) (w : World) (hn : n ≤ 140737488355328) (hB : B ≤ w.heap.size) (hb : Byts w B A n zs) :
    Calls Try.prog 28 #[.slice A n c] w fun e w' => ∃ g, e = .returned (.slice (some ⟨g, 0, none⟩) n n) ∧ w.heap.size ≤ g ∧ Row w' g zs ∧ Below w.heap.size w w' := by
  refine (copy_any A n c zs B w hn hB hb).mono ?_
  rintro e w' ⟨rfl, rfl⟩
  exact ⟨w.heap.size, rfl, Nat.le_refl _, ⟨heap_alloc_new _ _, hb.2.1⟩, (Below.refl _ _).alloc (Nat.le_refl _) _⟩

theorem like_yes (A A' : Option Addr) (n c c' : Nat) (zs : List Int) (B B' : Nat) (w : World) (hn : n ≤ 9223372036854775807) (hb : Byts w B A n zs) (hb' : Byts w B' A' n zs) :
    Calls Try.prog 29 #[.slice A n c, .slice A' n c'] w fun e w' => e = .returned (.bool true) ∧ ∃ m, w' = w.drewN m := by
  have HB := Lib.hid hb
  have HB' := Lib.hid hb'
  clear hb hb'
  go_enter Try.func29, Try.ntmps29
  go_wp2
  go_loopw [5] (fun i wr => ∃ k m : Nat, k ≤ n ∧ i = .int .i64 k ∧ wr = w.drewN m) (fun i _ => n - (intOf i).toNat)
  case atStart => exact ⟨0, 0, Nat.zero_le _, rfl, rfl⟩
  case round =>
    obtain ⟨k, m, hk, rfl, rfl⟩ := hrel
    by_cases hlt : k < n
    · obtain ⟨b, off, rfl, hbB, hc⟩ := HB.out.at_ hlt
      obtain ⟨b', off', rfl, hbB', hc'⟩ := HB'.out.at_ hlt
      have hr := HB.out.range k
      go_wp2
      go_quiet (fail)
      go_wp2
      go_roundw
      case rel => exact ⟨k + 1, _, by omega, by go_num, rfl⟩
      case measure => simp [intOf]; omega
    · go_wp2
      go_ret
      exact ⟨rfl, m, rfl⟩
end Go.Proofs.Ytepaikljiddiaaa

-- Mine: A slice of bytes that the call made and may write into: what marking it and holding it against its marks leave.
namespace Go.Proofs.Ytepaikljiddiaaa
set_option maxRecDepth 20000
open Go.RowKit

/-- the marks from k0 on. -/
def marks (k0 : Int) (n : Nat) : List Int := (List.range n).map fun (i : Nat) => (k0 + (i : Int)) % 256
theorem marks_len (k0 : Int) (n : Nat) : (marks k0 n).length = n := by simp [marks]
theorem marks_at (k0 : Int) (n k : Nat) (h : k < n) : (marks k0 n)[k]?.getD 0 = (k0 + (k : Int)) % 256 := by simp [marks, h]
theorem marks_bd (k0 : Int) (n : Nat) : ∀ z ∈ marks k0 n, 0 ≤ z ∧ z ≤ 255 := by
  intro z hz
  simp only [marks, List.mem_map] at hz
  obtain ⟨i, _, rfl⟩ := hz
  omega
def marked (k0 : Int) (n k : Nat) (xs : List Int) : List Int := (marks k0 n).take k ++ xs.drop k
theorem marked_set (k0 : Int) (n k : Nat) (xs : List Int) (hx : xs.length = n) (hk : k < n) : (marked k0 n k xs).set k ((k0 + (k : Int)) % 256) = marked k0 n (k + 1) xs := by
  unfold marked
  have hl : min k (marks k0 n).length = k := by have := marks_len k0 n; omega
  rw [take_step (marks k0 n) k (by have := marks_len k0 n; omega), marks_at k0 n k hk]
  have hd : xs.drop k = xs[k] :: xs.drop (k + 1) := List.drop_eq_getElem_cons (by omega)
  have hs : (xs.drop k).set 0 ((k0 + (k : Int)) % 256) = (k0 + (k : Int)) % 256 :: xs.drop (k + 1) := by rw [hd]; rfl
  simp [hl, hs]

theorem mark_any (A : Option Addr) (n c base : Nat) (xs : List Int) (k0 : Int) (w : World) (h0 : 0 ≤ k0) (h1 : k0 + n ≤ 4611686018427387904) (hm : Mine w base A n c xs) :
    Calls Try.prog 30 #[.slice A n c, .int .i64 k0] w fun e w' => e = .returned (.int .i64 (k0 + n)) ∧ Mine w' base A n c (marks k0 n) ∧ w.grownBy w' (Value.slice A n c).ownBlock := by
  have hx := Lib.hid hm.len
  have HM := Lib.hid hm
  clear hm
  go_enter Try.func30, Try.ntmps30
  go_wp2
  go_loopw [1, 5] (fun q i wr => ∃ k : Nat, k ≤ n ∧ i = .int .i64 k ∧ q = .int .i64 (k0 + k) ∧ Mine wr base A n c (marked k0 n k xs) ∧ w.grownBy wr (Value.slice A n c).ownBlock) (fun _ i _ => n - (intOf i).toNat)
  case atStart => exact ⟨0, Nat.zero_le _, rfl, by simp, HM.out, World.grownBy.refl _ _⟩
  case round =>
    obtain ⟨k, hk, rfl, rfl, hmr, hgr⟩ := hrel
    by_cases hlt : k < n
    · obtain ⟨g, rfl, hbg, hlt'⟩ := hmr.form (by omega)
      have hc := hmr.cell hlt
      have hf := hmr.free k
      have hs := hmr.set_ k ((k0 + (k : Int)) % 256) (by omega)
      rw [marked_set k0 n k xs hx.out hlt] at hs
      have HS := Lib.hid hs
      have HG := Lib.hid hgr
      clear hs hmr hgr
      go_wp2
      go_roundw
      case rel => exact ⟨k + 1, by omega, by go_num, by go_num, HS.out.1, HG.out.trans HS.out.2⟩
      case measure => simp [intOf]; omega
    · go_wp2
      go_ret
      have e : k = n := by omega
      subst e
      refine ⟨rfl, ?_, hgr⟩
      have hd : marked k0 k k xs = marks k0 k := by
        unfold marked
        rw [List.take_of_length_le (by have := marks_len k0 k; omega), List.drop_eq_nil_of_le (by have := hx.out; omega)]; simp
      rw [hd] at hmr
      exact hmr

theorem held_yes (A : Option Addr) (n c : Nat) (B : Nat) (k0 : Int) (w : World) (h0 : 0 ≤ k0) (h1 : k0 + n ≤ 4611686018427387904) (hb : Byts w B A n (marks k0 n)) :
    Calls Try.prog 31 #[.slice A n c, .int .i64 k0] w fun e w' => e = .returned (.int .i64 (k0 + n)) ∧ w = w' := by
  have HB := Lib.hid hb
  clear hb
  go_enter Try.func31, Try.ntmps31
  go_wp2
  go_loop [1, 5] (fun q i => ∃ k : Nat, k ≤ n ∧ i = .int .i64 k ∧ q = .int .i64 (k0 + k)) (fun _ i => n - (intOf i).toNat)
  case atStart => exact ⟨0, Nat.zero_le _, rfl, by simp⟩
  case round =>
    obtain ⟨k, hk, rfl, rfl⟩ := hrel
    by_cases hlt : k < n
    · obtain ⟨b, off, rfl, hbB, hc⟩ := HB.out.at_ hlt
      rw [marks_at k0 n k hlt] at hc
      go_wp2
      go_round
      case rel => exact ⟨k + 1, by omega, by go_num, by go_num⟩
      case measure => simp [intOf]; omega
    · go_wp2
      go_ret
      exact ⟨ret_i64 (by omega), rfl⟩
end Go.Proofs.Ytepaikljiddiaaa

-- Ints: Slices of int64: one that reads as a list of numbers, one that the call made and may write into; no statement of the program is proved here.
namespace Go.Proofs.Ytepaikljiddiaaa
set_option maxRecDepth 20000
open Go.RowKit

/-- the slice value '.slice A n c' reads as the numbers zs, below block B. -/
def Ints (w : World) (B : Nat) (A : Option Addr) (n : Nat) (zs : List Int) : Prop :=
  zs.length = n ∧ (0 < n → ∃ b off, A = some ⟨b, off, none⟩ ∧ b < B ∧ ∀ i, i < n → w.cell? ⟨b, off + i, none⟩ = some (.int .i64 (zs.getD i 0)))
section
variable {w w' : World} {B B' n : Nat} {A : Option Addr} {zs : List Int}
theorem Ints.none_ : Ints w B A 0 [] := ⟨rfl, fun h => absurd h (by omega)⟩
theorem Ints.at_ {k : Nat} (h : Ints w B A n zs) (hk : k < n) : ∃ b off, A = some ⟨b, off, none⟩ ∧ b < B ∧ w.cell? ⟨b, off + k, none⟩ = some (.int .i64 (zs[k]?.getD 0)) := by
  obtain ⟨b, off, e, hb, hc⟩ := h.2 (by omega)
  exact ⟨b, off, e, hb, by simpa using hc k hk⟩
theorem Ints.keep (h : Ints w B A n zs) (hk : ∀ p : Addr, p.block < B → w'.cell? p = w.cell? p) : Ints w' B A n zs :=
  ⟨h.1, fun hn => by
    obtain ⟨b, off, e, hb, hc⟩ := h.2 hn
    exact ⟨b, off, e, hb, fun i hi => (hk _ hb).trans (hc i hi)⟩⟩
theorem Ints.more (h : Ints w B A n zs) (hB : B ≤ B') : Ints w B' A n zs :=
  ⟨h.1, fun hn => by
    obtain ⟨b, off, e, hb, hc⟩ := h.2 hn
    exact ⟨b, off, e, by omega, hc⟩⟩
theorem Ints.below (h : Ints w B A n zs) (hb : Below B w w') : Ints w' B A n zs := h.keep fun _ hp => hb.cell hp
theorem Ints.drewN (h : Ints w B A n zs) (k : Nat) : Ints (w.drewN k) B A n zs := h
theorem Ints.alloc (h : Ints w B A n zs) (hB : B ≤ w.heap.size) (o : Obj) : Ints (w.alloc o) B A n zs := h.keep fun p hp => World.cell?_alloc_lt w o p (by omega)
theorem Ints.grown (h : Ints w B A n zs) {row : Option Nat} (hg : w.grownBy w' row) (hB : B ≤ w.heap.size) (hr : ∀ g, row = some g → B ≤ g) : Ints w' B A n zs :=
  h.keep fun p hp => World.cell?_of_block (hg.block p.block (by omega) (fun e => by have := hr _ e.symm; omega))
end
theorem IsRow.ints {w : World} {a : Option Addr} {len cap : Nat} {zs : List Int} (h : IsRow .i64 w a len cap zs) : Ints w w.heap.size a len (zs.take len) := by
  rcases h with ⟨rfl, rfl, rfl, rfl⟩ | ⟨x, rfl, hl, hm, hz, hc, hw⟩
  · exact Ints.none_
  · refine ⟨by simp; omega, fun hp => ?_⟩
    obtain ⟨b, off, spot⟩ := x
    have h0 := hc 0 (by omega)
    have hspot : spot = none := by simpa [Addr.add] using World.cell?_spot h0
    subst hspot
    refine ⟨b, off, rfl, ?_, fun i hi => ?_⟩
    · have := block_lt_of_cell h0
      simpa [Addr.add] using this
    · have hci := hc i (by omega)
      have e : (Addr.add ⟨b, off, none⟩ i) = ⟨b, off + i, none⟩ := by unfold Addr.add; split <;> simp_all
      rw [e] at hci
      rw [hci]
      simp [hi]

theorem Try.infoI : (Try.prog.info? 2).map (fun i => (i.zero, i.size, i.bytes)) = some (some (.int .i64 0), 1, 8) := by kernel_rfl

/-- the cells of the numbers zs. -/
def i64s (zs : List Int) : Array Value := (zs.map (Value.int .i64)).toArray
/-- the row as far as it is filled. -/
def filledI (zs : List Int) (n k : Nat) : Array Value := i64s (zs.take k ++ List.replicate (n - k) 0)
theorem filledI_at (zs : List Int) (n k : Nat) (hz : zs.length = n) (hk : k < n) : (filledI zs n k)[k]? = some (.int .i64 0) := by
  have hm : min k zs.length = k := by omega
  have hp : 0 < n - k := by omega
  unfold filledI i64s
  simp [hm, hp]
theorem filledI_set (zs : List Int) (n k : Nat) (hz : zs.length = n) (hk : k < n) : (filledI zs n k).setIfInBounds k (.int .i64 (zs[k]?.getD 0)) = filledI zs n (k + 1) := by
  unfold filledI i64s
  rw [take_step zs k (by omega)]
  obtain ⟨m, hm⟩ : ∃ m, n - k = m + 1 := ⟨n - k - 1, by omega⟩
  have hm' : n - (k + 1) = m := by omega
  rw [hm, hm']
  have hl : min k zs.length = k := by omega
  simp [List.replicate_succ, hl]
theorem filledI_all (zs : List Int) (n : Nat) (hz : zs.length = n) : filledI zs n n = i64s zs := by
  unfold filledI
  rw [List.take_of_length_le (by omega)]; simp
theorem filledI_none (zs : List Int) (n : Nat) : madeCells #[.int .i64 0] n = filledI zs n 0 := by
  apply Array.ext
  · simp [madeCells, filledI, i64s]
  · intro i h1 h2
    simp [madeCells, filledI, i64s, Nat.mod_one]
theorem make_ints (zs : List Int) (n : Nat) (hn : n ≤ 17592186044416) (W : World) :
    (Instr.makeSlice 34 (.int .i64 (n : Int)) (.int .i64 (n : Int))).run Try.prog W = .ok (.slice (some ⟨W.heap.size, 0, none⟩) n n) (W.alloc (.cells (filledI zs n 0) 2)) := by
  obtain ⟨i0, hi, hz0, hz1, hz2⟩ := info_parts Try.infoI
  have hr := run_make (P := Try.prog) W 34 2 i0 (.int .i64 0) Try.underlying34 hi hz0 .i64 .i64 n n (by omega) (by omega) (by rw [hz2]; omega) (by omega)
  simp only [Int.toNat_natCast] at hr
  rw [hr, hz1, Nat.mul_one]
  show Result.ok _ (W.alloc (.cells (madeCells #[.int .i64 0] n) _)) = _
  rw [filledI_none zs n]

/-- the slice '.slice A n c' lies in a block of the call's own, from base on, and holds the numbers xs. -/
def OwnI (w : World) (base : Nat) (A : Option Addr) (n c : Nat) (xs : List Int) : Prop :=
  w.ownsRow base 2 1 (.slice A n c) n (xs.map (Value.int .i64))
section
variable {w w' : World} {base n c : Nat} {A : Option Addr} {xs : List Int}
theorem OwnI.nil (w : World) (base : Nat) : OwnI w base none 0 0 [] := World.ownsRow_nil _ _ _ _
theorem OwnI.len (h : OwnI w base A n c xs) : xs.length = n := by have := h.1; simpa using this
theorem OwnI.form (h : OwnI w base A n c xs) (hn : 0 < n) : ∃ g, A = some ⟨g, 0, none⟩ ∧ base ≤ g ∧ g < w.heap.size := by
  rcases h.2 with ⟨_, h0⟩ | ⟨g, cap, cur, hv, hb, hg, _⟩
  · omega
  · injection hv with hA
    refine ⟨g, hA, hb, ?_⟩
    rcases Nat.lt_or_ge g w.heap.size with hlt | hge
    · exact hlt
    · rw [Array.getElem?_eq_none hge] at hg; cases hg
theorem OwnI.ints (h : OwnI w base A n c xs) : Ints w w.heap.size A n xs :=
  ⟨h.len, fun hn => by
    obtain ⟨g, rfl, _, hlt⟩ := h.form hn
    refine ⟨g, 0, rfl, hlt, fun i hi => ?_⟩
    rw [Nat.zero_add, World.ownsRow.cellAt h i (by omega)]
    have := h.len
    simp [show i < xs.length by omega]⟩
theorem OwnI.cell {g : Nat} (h : OwnI w base (some ⟨g, 0, none⟩) n c xs) {k : Nat} (hk : k < n) : w.cell? ⟨g, k, none⟩ = some (.int .i64 (xs[k]?.getD 0)) := by
  rw [World.ownsRow.cellAt h k (by omega)]
  have := h.len
  simp [show k < xs.length by omega]
theorem OwnI.free {g : Nat} (h : OwnI w base (some ⟨g, 0, none⟩) n c xs) (k : Nat) : w.frozen? ⟨g, k, none⟩ = false := World.ownsRow.frozenAt h k
theorem OwnI.below (h : OwnI w base A n c xs) (hb : Below w.heap.size w w') : OwnI w' base A n c xs :=
  World.ownsRow.kept h (row := none) ⟨hb.os, hb.tape, hb.output, hb.size, fun k hk _ => hb.block k hk⟩ (by cases hA : Value.ownBlock (.slice A n c) <;> simp)
theorem OwnI.drewN (h : OwnI w base A n c xs) (m : Nat) : OwnI (w.drewN m) base A n c xs := h.below (below_drewN (Below.refl _ _) m)
theorem OwnI.set_ {g : Nat} (h : OwnI w base (some ⟨g, 0, none⟩) n c xs) (k : Nat) (z : Int) :
    OwnI (w.setCell ⟨g, k, none⟩ (.int .i64 z)) base (some ⟨g, 0, none⟩) n c (xs.set k z) ∧ w.grownBy (w.setCell ⟨g, k, none⟩ (.int .i64 z)) (some g) := by
  obtain ⟨h1, h2⟩ := World.ownsRow.stored h k (.int .i64 z)
  exact ⟨by unfold OwnI; rw [List.map_set]; exact h1, h2⟩
theorem OwnI.of_alloc (w : World) (base : Nat) (zs : List Int) (n : Nat) (hb : base ≤ w.heap.size) (hn : zs.length = n) (hm : n ≤ maxLen) :
    OwnI (w.alloc (.cells (i64s zs) 2)) base (some ⟨w.heap.size, 0, none⟩) n n zs :=
  World.ownsRow_lit w (i64s zs) n hb hm (by simp [i64s, hn])
theorem OwnI.empty (w : World) (base : Nat) (hb : base ≤ w.heap.size) : OwnI (w.alloc (.cells #[] 2)) base (some ⟨w.heap.size, 0, none⟩) 0 0 [] :=
  World.ownsRow_lit w #[] 0 hb (by unfold maxLen; omega) rfl
end
theorem OwnI.base {w : World} {base base' n c : Nat} {A : Option Addr} {xs : List Int} (h : OwnI w base A n c xs) (hb : base' ≤ base) : OwnI w base' A n c xs := by
  refine ⟨h.1, ?_⟩
  rcases h.2 with h | ⟨g, cap, cur, hv, hg, r⟩
  · exact .inl h
  · exact .inr ⟨g, cap, cur, hv, by omega, r⟩
theorem OwnI.grown {w w' : World} {base n c : Nat} {A : Option Addr} {xs : List Int} (h : OwnI w base A n c xs) {row : Option Nat} (hg : w.grownBy w' row) (hr : ∀ r, row = some r → r < base) : OwnI w' base A n c xs := by
  refine World.ownsRow.kept h hg ?_
  rcases hb : (Value.slice A n c).ownBlock with _ | k
  · exact .inl rfl
  · right
    intro e
    have := hr k e.symm
    have := (h.lt k hb).1
    omega
theorem own_slice {w : World} {base : Nat} {e : TypeId} {size : Nat} {v : Value} {n : Nat} {xs : List Value} (h : w.ownsRow base e size v n xs) : ∃ A c, v = .slice A n c := by
  rcases h.2 with ⟨rfl, rfl⟩ | ⟨g, cap, cur, rfl, _⟩
  · exact ⟨_, _, rfl⟩
  · exact ⟨_, _, rfl⟩
theorem ret_b {a b : Bool} (h : a = b) : Ending.returned (.bool a) = .returned (.bool b) := by rw [h]
/-- what a call leaves that hands back numbers of its own. -/
def GaveI (w : World) (zs : List Int) (e : Ending) (w' : World) : Prop := ∃ A n c, e = .returned (.slice A n c) ∧ OwnI w' w.heap.size A n c zs ∧ Below w.heap.size w w'
end Go.Proofs.Ytepaikljiddiaaa

-- Kids: Slices of kids: one that reads as a list of pairs of numbers, one that the call made and may write into; no statement of the program is proved here.
namespace Go.Proofs.Ytepaikljiddiaaa
set_option maxRecDepth 20000
open Go.RowKit

/-- the numbers of some kids, one behind the other. -/
def kv (ks : List (Int × Int)) : List Int := ks.flatMap fun k => [k.1, k.2]
theorem kv_len (ks : List (Int × Int)) : (kv ks).length = ks.length * 2 := by
  induction ks with
  | nil => rfl
  | cons k r ih => simp [kv] at ih ⊢; omega
theorem kv_cons (k : Int × Int) (r : List (Int × Int)) : kv (k :: r) = k.1 :: k.2 :: kv r := rfl
theorem kv_append (a b : List (Int × Int)) : kv (a ++ b) = kv a ++ kv b := by simp [kv]
theorem kv_at0 (ks : List (Int × Int)) (k : Nat) : (kv ks)[k * 2]?.getD 0 = (ks[k]?.getD (0, 0)).1 := by
  induction ks generalizing k with
  | nil => simp [kv]
  | cons x r ih =>
    rcases k with _ | k
    · rfl
    · rw [kv_cons, show (k + 1) * 2 = k * 2 + 1 + 1 by omega, List.getElem?_cons_succ, List.getElem?_cons_succ, ih k]; rfl
theorem kv_at1 (ks : List (Int × Int)) (k : Nat) : (kv ks)[k * 2 + 1]?.getD 0 = (ks[k]?.getD (0, 0)).2 := by
  induction ks generalizing k with
  | nil => simp [kv]
  | cons x r ih =>
    rcases k with _ | k
    · rfl
    · rw [kv_cons, show (k + 1) * 2 + 1 = k * 2 + 1 + 1 + 1 by omega, List.getElem?_cons_succ, List.getElem?_cons_succ, ih k]; rfl

/-- the slice value '.slice A n c' of kids reads as ks, below block B. -/
def Kids (w : World) (B : Nat) (A : Option Addr) (n : Nat) (ks : List (Int × Int)) : Prop := ks.length = n ∧ Ints w B A (n * 2) (kv ks)
section
variable {w w' : World} {B B' n : Nat} {A : Option Addr} {ks : List (Int × Int)}
theorem Kids.none_ : Kids w B A 0 [] := ⟨rfl, Ints.none_⟩
theorem Kids.at_ {k : Nat} (h : Kids w B A n ks) (hk : k < n) : ∃ b off, A = some ⟨b, off, none⟩ ∧ b < B ∧ w.cell? ⟨b, off + k * 2, none⟩ = some (.int .i64 (ks[k]?.getD (0, 0)).1) ∧ w.cell? ⟨b, off + k * 2 + 1, none⟩ = some (.int .i64 (ks[k]?.getD (0, 0)).2) := by
  obtain ⟨b, off, e, hb, hc⟩ := h.2.2 (by omega)
  refine ⟨b, off, e, hb, ?_, ?_⟩
  · have := hc (k * 2) (by omega)
    rw [this, ← kv_at0]; simp
  · have := hc (k * 2 + 1) (by omega)
    rw [Nat.add_assoc, this, ← kv_at1]; simp
theorem Kids.keep (h : Kids w B A n ks) (hk : ∀ p : Addr, p.block < B → w'.cell? p = w.cell? p) : Kids w' B A n ks := ⟨h.1, h.2.keep hk⟩
theorem Kids.more (h : Kids w B A n ks) (hB : B ≤ B') : Kids w B' A n ks := ⟨h.1, h.2.more hB⟩
theorem Kids.below (h : Kids w B A n ks) (hb : Below B w w') : Kids w' B A n ks := ⟨h.1, h.2.below hb⟩
theorem Kids.drewN (h : Kids w B A n ks) (k : Nat) : Kids (w.drewN k) B A n ks := h
theorem Kids.alloc (h : Kids w B A n ks) (hB : B ≤ w.heap.size) (o : Obj) : Kids (w.alloc o) B A n ks := ⟨h.1, h.2.alloc hB o⟩
theorem Kids.grown (h : Kids w B A n ks) {row : Option Nat} (hg : w.grownBy w' row) (hB : B ≤ w.heap.size) (hr : ∀ g, row = some g → B ≤ g) : Kids w' B A n ks := ⟨h.1, h.2.grown hg hB hr⟩
end

theorem Try.infoK : (Try.prog.info? 111).map (fun i => (i.zero, i.size, i.bytes)) = some (some (.agg #[.int .i64 0, .int .i64 0]), 2, 16) := by kernel_rfl

/-- the slice '.slice A n c' of kids lies in a block of the call's own, from base on, and holds ks. -/
def OwnK (w : World) (base : Nat) (A : Option Addr) (n c : Nat) (ks : List (Int × Int)) : Prop :=
  w.ownsRow base 111 2 (.slice A n c) n ((kv ks).map (Value.int .i64))
section
variable {w w' : World} {base n c : Nat} {A : Option Addr} {ks : List (Int × Int)}
theorem OwnK.nil (w : World) (base : Nat) : OwnK w base none 0 0 [] := World.ownsRow_nil _ _ _ _
theorem OwnK.len (h : OwnK w base A n c ks) : ks.length = n := by have := h.1; simp [kv_len] at this; omega
theorem OwnK.form (h : OwnK w base A n c ks) (hn : 0 < n) : ∃ g, A = some ⟨g, 0, none⟩ ∧ base ≤ g ∧ g < w.heap.size := by
  obtain ⟨g, cap, hv, h1, h2⟩ := World.ownsRow.form h hn
  injection hv with hA
  exact ⟨g, hA, h1, h2⟩
theorem OwnK.kids (h : OwnK w base A n c ks) : Kids w w.heap.size A n ks :=
  ⟨h.len, by rw [kv_len, h.len], fun hn => by
    obtain ⟨g, rfl, _, hlt⟩ := h.form (by omega)
    refine ⟨g, 0, rfl, hlt, fun i hi => ?_⟩
    rw [Nat.zero_add, World.ownsRow.cellAt h i (by omega)]
    have := h.len
    simp [show i < (kv ks).length by rw [kv_len]; omega]⟩
theorem OwnK.cell0 {g : Nat} (h : OwnK w base (some ⟨g, 0, none⟩) n c ks) {k : Nat} (hk : k < n) : w.cell? ⟨g, k * 2, none⟩ = some (.int .i64 (ks[k]?.getD (0, 0)).1) := by
  obtain ⟨b, off, e, _, h1, _⟩ := h.kids.at_ hk
  cases e
  rwa [Nat.zero_add] at h1
theorem OwnK.cell1 {g : Nat} (h : OwnK w base (some ⟨g, 0, none⟩) n c ks) {k : Nat} (hk : k < n) : w.cell? ⟨g, k * 2 + 1, none⟩ = some (.int .i64 (ks[k]?.getD (0, 0)).2) := by
  obtain ⟨b, off, e, _, _, h1⟩ := h.kids.at_ hk
  cases e
  rwa [Nat.zero_add] at h1
theorem OwnK.free {g : Nat} (h : OwnK w base (some ⟨g, 0, none⟩) n c ks) (k : Nat) : w.frozen? ⟨g, k, none⟩ = false := World.ownsRow.frozenAt h k
theorem OwnK.below (h : OwnK w base A n c ks) (hb : Below w.heap.size w w') : OwnK w' base A n c ks :=
  World.ownsRow.kept h (row := none) ⟨hb.os, hb.tape, hb.output, hb.size, fun k hk _ => hb.block k hk⟩ (by cases hA : Value.ownBlock (.slice A n c) <;> simp)
theorem OwnK.drewN (h : OwnK w base A n c ks) (m : Nat) : OwnK (w.drewN m) base A n c ks := h.below (below_drewN (Below.refl _ _) m)
end
theorem kv_set0 (ks : List (Int × Int)) (k : Nat) (z : Int) : (kv ks).set (k * 2) z = kv (ks.set k (z, (ks[k]?.getD (0, 0)).2)) := by
  induction ks generalizing k with
  | nil => simp [kv]
  | cons x r ih =>
    rcases k with _ | k
    · rfl
    · rw [kv_cons, show (k + 1) * 2 = k * 2 + 1 + 1 by omega, List.set_cons_succ, List.set_cons_succ, ih k]; rfl
theorem kv_set1 (ks : List (Int × Int)) (k : Nat) (z : Int) : (kv ks).set (k * 2 + 1) z = kv (ks.set k ((ks[k]?.getD (0, 0)).1, z)) := by
  induction ks generalizing k with
  | nil => simp [kv]
  | cons x r ih =>
    rcases k with _ | k
    · rfl
    · rw [kv_cons, show (k + 1) * 2 + 1 = k * 2 + 1 + 1 + 1 by omega, List.set_cons_succ, List.set_cons_succ, ih k]; rfl
section
variable {w w' : World} {base n c : Nat} {ks : List (Int × Int)}
theorem OwnK.set0 {g : Nat} (h : OwnK w base (some ⟨g, 0, none⟩) n c ks) (k : Nat) (z : Int) :
    OwnK (w.setCell ⟨g, k * 2, none⟩ (.int .i64 z)) base (some ⟨g, 0, none⟩) n c (ks.set k (z, (ks[k]?.getD (0, 0)).2)) ∧ w.grownBy (w.setCell ⟨g, k * 2, none⟩ (.int .i64 z)) (some g) := by
  obtain ⟨h1, h2⟩ := World.ownsRow.stored h (k * 2) (.int .i64 z)
  exact ⟨by unfold OwnK; rw [← kv_set0, List.map_set]; exact h1, h2⟩
theorem OwnK.set1 {g : Nat} (h : OwnK w base (some ⟨g, 0, none⟩) n c ks) (k : Nat) (z : Int) :
    OwnK (w.setCell ⟨g, k * 2 + 1, none⟩ (.int .i64 z)) base (some ⟨g, 0, none⟩) n c (ks.set k ((ks[k]?.getD (0, 0)).1, z)) ∧ w.grownBy (w.setCell ⟨g, k * 2 + 1, none⟩ (.int .i64 z)) (some g) := by
  obtain ⟨h1, h2⟩ := World.ownsRow.stored h (k * 2 + 1) (.int .i64 z)
  exact ⟨by unfold OwnK; rw [← kv_set1, List.map_set]; exact h1, h2⟩
theorem OwnK.of_alloc (w : World) (base : Nat) (ks : List (Int × Int)) (n : Nat) (hb : base ≤ w.heap.size) (hn : ks.length = n) (hm : n ≤ maxLen) :
    OwnK (w.alloc (.cells (i64s (kv ks)) 111)) base (some ⟨w.heap.size, 0, none⟩) n n ks :=
  World.ownsRow_lit w (i64s (kv ks)) n hb hm (by simp [i64s, kv_len, hn])
end
theorem OwnK.base {w : World} {base base' n c : Nat} {A : Option Addr} {ks : List (Int × Int)} (h : OwnK w base A n c ks) (hb : base' ≤ base) : OwnK w base' A n c ks := by
  refine ⟨h.1, ?_⟩
  rcases h.2 with h | ⟨g, cap, cur, hv, hg, r⟩
  · exact .inl h
  · exact .inr ⟨g, cap, cur, hv, by omega, r⟩
theorem OwnK.grown {w w' : World} {base n c : Nat} {A : Option Addr} {ks : List (Int × Int)} (h : OwnK w base A n c ks) {row : Option Nat} (hg : w.grownBy w' row) (hr : ∀ r, row = some r → r < base) : OwnK w' base A n c ks := by
  refine World.ownsRow.kept h hg ?_
  rcases hb : (Value.slice A n c).ownBlock with _ | k
  · exact .inl rfl
  · right
    intro e
    have := hr k e.symm
    have := (h.lt k hb).1
    omega
theorem index_kid (b off n c j : Nat) (h : j < n) (W : World) : (Instr.indexAt 44 (.slice (some ⟨b, off, none⟩) n c) (.int .i64 (j : Int))).run Try.prog W = .ok (.pointer (some ⟨b, off + j * 2, none⟩)) W := by
  go_simp
theorem index_kid_pred (b off n c k : Nat) (h0 : 0 < k) (h : k < n) (W : World) : (Instr.indexAt 44 (.slice (some ⟨b, off, none⟩) n c) (.int .i64 ((k : Int) - 1))).run Try.prog W = .ok (.pointer (some ⟨b, off + (k - 1) * 2, none⟩)) W := by
  obtain ⟨j, hj⟩ : ∃ j, k - 1 = j := ⟨_, rfl⟩
  have e : (k : Int) - 1 = (j : Int) := by omega
  rw [e, hj]
  exact index_kid b off n c j (by omega) W
/-- what a call leaves that hands back kids of its own. -/
def GaveK (w : World) (ks : List (Int × Int)) (e : Ending) (w' : World) : Prop := ∃ A n c, e = .returned (.slice A n c) ∧ OwnK w' w.heap.size A n c ks ∧ Below w.heap.size w w'
end Go.Proofs.Ytepaikljiddiaaa

-- Touch: Which blocks a call may have touched; what is kept behind it. No statement of the program is proved here.
namespace Go.Proofs.Ytepaikljiddiaaa
set_option maxRecDepth 20000
open Go.RowKit

/-- of the blocks that were there, only those of which S tells may have turned. -/
structure Touch (S : Nat → Prop) (w w' : World) : Prop where
  os : w'.os = w.os
  tape : w'.tape = w.tape
  output : w'.output = w.output
  size : w.heap.size ≤ w'.heap.size
  block : ∀ k, k < w.heap.size → ¬ S k → w'.heap[k]? = w.heap[k]?
section
variable {S T : Nat → Prop} {w w' w'' : World} {B : Nat}
theorem Touch.trans (h : Touch S w w') (k : Touch S w' w'') : Touch S w w'' :=
  ⟨k.os.trans h.os, k.tape.trans h.tape, k.output.trans h.output, Nat.le_trans h.size k.size, fun i hi hs => (k.block i (Nat.lt_of_lt_of_le hi h.size) hs).trans (h.block i hi hs)⟩
theorem Touch.mono (h : Touch S w w') (hs : ∀ k, S k → T k) : Touch T w w' := ⟨h.os, h.tape, h.output, h.size, fun k hk ht => h.block k hk (fun x => ht (hs k x))⟩
theorem Touch.of_grown {row : Option Nat} (h : w.grownBy w' row) : Touch (fun k => some k = row) w w' := ⟨h.os, h.tape, h.output, h.size, fun k hk hs => h.block k hk hs⟩
theorem Touch.of_below (h : Below w.heap.size w w') : Touch S w w' := ⟨h.os, h.tape, h.output, h.size, fun k hk _ => h.block k hk⟩
theorem Touch.below (h : Touch S w w') (hB : B ≤ w.heap.size) (hs : ∀ k, k < B → ¬ S k) : Below B w w' := ⟨h.os, h.tape, h.output, h.size, fun k hk => h.block k (by omega) (hs k hk)⟩
theorem own_touch {base : Nat} {e : TypeId} {size : Nat} {v : Value} {n : Nat} {xs : List Value} (h : w.ownsRow base e size v n xs) (t : Touch S w w') (hn : ∀ g, v.ownBlock = some g → ¬ S g) : w'.ownsRow base e size v n xs := by
  have hl := h.lt
  refine ⟨h.1, ?_⟩
  rcases h.2 with h | ⟨g, cap, cur, rfl, hb, hg, r⟩
  · exact .inl h
  · exact .inr ⟨g, cap, cur, rfl, hb, (t.block g (hl g rfl).2 (hn g rfl)).trans hg, r⟩
theorem OwnI.touch {base n c : Nat} {A : Option Addr} {xs : List Int} (h : OwnI w base A n c xs) (t : Touch S w w') (hn : ∀ g, (Value.slice A n c).ownBlock = some g → ¬ S g) : OwnI w' base A n c xs := own_touch h t hn
theorem OwnK.touch {base n c : Nat} {A : Option Addr} {xs : List (Int × Int)} (h : OwnK w base A n c xs) (t : Touch S w w') (hn : ∀ g, (Value.slice A n c).ownBlock = some g → ¬ S g) : OwnK w' base A n c xs := own_touch h t hn
theorem Mine.touch {base n c : Nat} {A : Option Addr} {xs : List Int} (h : Mine w base A n c xs) (t : Touch S w w') (hn : ∀ g, (Value.slice A n c).ownBlock = some g → ¬ S g) : Mine w' base A n c xs := ⟨own_touch h.1 t hn, h.2⟩
end
theorem heap3_0 (w : World) (A B C : Obj) : (((w.alloc A).alloc B).alloc C).heap[w.heap.size]? = some A := by rw [heap_alloc_old _ _ (by simp; omega), heap_alloc_old _ _ (by simp), heap_alloc_new]
theorem heap3_1 (w : World) (A B C : Obj) : (((w.alloc A).alloc B).alloc C).heap[w.heap.size + 1]? = some B := by
  have h := heap_alloc_new (w.alloc A) B
  rw [heap_alloc_old _ _ (by simp)]
  simpa using h
theorem heap3_2 (w : World) (A B C : Obj) : (((w.alloc A).alloc B).alloc C).heap[w.heap.size + 1 + 1]? = some C := by
  have h := heap_alloc_new ((w.alloc A).alloc B) C
  simpa using h
theorem size3 (w : World) (A B C : Obj) : (((w.alloc A).alloc B).alloc C).heap.size = w.heap.size + 3 := by simp
theorem below3 (w : World) (A B C : Obj) : Below w.heap.size w (((w.alloc A).alloc B).alloc C) := (((Below.refl _ _).alloc (Nat.le_refl _) _).alloc (by simp) _).alloc (by simp; omega) _
theorem heap2_0 (w : World) (A B : Obj) : ((w.alloc A).alloc B).heap[w.heap.size]? = some A := by rw [heap_alloc_old _ _ (by simp), heap_alloc_new]
theorem heap2_1 (w : World) (A B : Obj) : ((w.alloc A).alloc B).heap[w.heap.size + 1]? = some B := by
  have h := heap_alloc_new (w.alloc A) B
  simpa using h
theorem size2 (w : World) (A B : Obj) : ((w.alloc A).alloc B).heap.size = w.heap.size + 2 := by simp
theorem below2 (w : World) (A B : Obj) : Below w.heap.size w ((w.alloc A).alloc B) := ((Below.refl _ _).alloc (Nat.le_refl _) _).alloc (by simp) _
/-- block g is a box of these cells. -/
def Box (w : World) (g : Nat) (t : TypeId) (cs : Array Value) : Prop := w.heap[g]? = some (.cells cs t (0, 0))
section
variable {w w' : World} {g g' B k : Nat} {t : TypeId} {cs : Array Value}
theorem Box.cell (h : Box w g t cs) (k : Nat) : w.cell? ⟨g, k, none⟩ = cs[k]? := cell_of_row w g k _ _ _ h
theorem Box.free (h : Box w g t cs) (k : Nat) : w.frozen? ⟨g, k, none⟩ = false := frozen_of_row w g k _ _ h
theorem Box.below (h : Box w g t cs) (hb : Below B w w') (hg : g < B) : Box w' g t cs := (hb.block g hg).trans h
theorem Box.set_ (h : Box w g t cs) (k : Nat) (u : Value) : Box (w.setCell ⟨g, k, none⟩ u) g t (cs.setIfInBounds k u) :=
  heap_setCell_same w g k _ _ _ h
theorem Box.other (h : Box w g t cs) (hne : g ≠ g') (k : Nat) (u : Value) : Box (w.setCell ⟨g', k, none⟩ u) g t cs := (heap_setCell_other w ⟨g', k, none⟩ g u hne).trans h
theorem Box.grown {row : Option Nat} (h : Box w g t cs) (hg : w.grownBy w' row) (hne : some g ≠ row) : Box w' g t cs := (hg.block g (Array.getElem?_eq_some_iff.1 h).1 hne).trans h
theorem Box.lt (h : Box w g t cs) : g < w.heap.size := (Array.getElem?_eq_some_iff.1 h).1
end
theorem touch_set {S : Nat → Prop} (w : World) (g k : Nat) (u : Value) (hs : S g) : Touch S w (w.setCell ⟨g, k, none⟩ u) := (Touch.of_grown (grown_set w g k u)).mono fun i hi => by cases hi; exact hs
theorem own_eq {g r n c : Nat} (h : some g = (Value.slice (some ⟨r, 0, none⟩) n c).ownBlock) : g = r := by simpa [Value.ownBlock] using h
theorem results_box2 {P : Program} {fn : Func} {p q : Tmp} {ty : TypeId} (h : fn.results = #[.cell p ty, .tmp q]) (tmps : Array Value) (w : World) (g : Nat) (t : TypeId) (cs : Array Value) (d : TypeDesc) (v : Value)
    (hp : tmps.getD p undef = .pointer (some ⟨g, 0, none⟩)) (hq : tmps.getD q undef = v) (hg : Box w g t cs)
    (hu : P.underlying ty = some d) (hd : (match d with | .struct _ | .array _ _ => true | _ => false) = true) (hi : (P.info? ty).map (·.size) = some cs.size) :
    (results fn tmps).run P w = .ok (.tuple #[.agg cs, v]) w := by
  have hp' : tmps[p]?.getD undef = .pointer (some ⟨g, 0, none⟩) := by simpa using hp
  have hq' : tmps[q]?.getD undef = v := by simpa using hq
  simp [results, h, hp', hq', asAddr, run_loadVar_row w g t ty cs _ d hg hu hd hi]
/-- a box of four cells, written anew. -/
theorem set4 {w : World} {g : Nat} {t : TypeId} {a b c d : Value} (h : Box w g t #[a, b, c, d]) (a' b' c' d' : Value) :
    Box ((((w.setCell ⟨g, 0, none⟩ a').setCell ⟨g, 1, none⟩ b').setCell ⟨g, 2, none⟩ c').setCell ⟨g, 3, none⟩ d') g t #[a', b', c', d'] ∧
      Touch (fun x => x = g) w ((((w.setCell ⟨g, 0, none⟩ a').setCell ⟨g, 1, none⟩ b').setCell ⟨g, 2, none⟩ c').setCell ⟨g, 3, none⟩ d') :=
  ⟨(((h.set_ 0 a').set_ 1 b').set_ 2 c').set_ 3 d', (((touch_set (S := fun x => x = g) w g 0 a' rfl).trans (touch_set _ g 1 b' rfl)).trans (touch_set _ g 2 c' rfl)).trans (touch_set _ g 3 d' rfl)⟩
theorem Touch.one {w w' : World} {r : Nat} (h : Touch (fun x => x = r) w w') : w.grownBy w' (some r) := ⟨h.os, h.tape, h.output, h.size, fun k hk hne => h.block k hk (fun e => hne (by rw [e]))⟩
theorem below_grow {w w' : World} {row : Option Nat} (b : Below w.heap.size w w') : w.grownBy w' row := ⟨b.os, b.tape, b.output, b.size, fun k hk _ => b.block k hk⟩
end Go.Proofs.Ytepaikljiddiaaa

-- PathM: Plain facts on keys and paths: what a digit is worth, the path of a text, the text of a path, how much two paths have in common.
namespace Go.Proofs.Ytepaikljiddiaaa
set_option maxRecDepth 20000
open Go.RowKit

/-- what a byte of a key is worth; -1 where it is none. -/
def wd (c : Int) : Int := if 48 ≤ c ∧ c ≤ 57 then c - 48 else if 97 ≤ c ∧ c ≤ 102 then c - 87 else -1
/-- the digit of what is worth z. -/
def dig (z : Int) : Int := if z < 10 then z + 48 else z + 87
/-- the bytes of a text, as numbers. -/
def sb (s : ByteArray) : List Int := s.data.toList.map fun b => (b.toNat : Int)
def isKey (zs : List Int) : Bool := decide (1 ≤ zs.length ∧ zs.length ≤ 8) && zs.all fun z => decide (0 ≤ wd z)
def pathOf (zs : List Int) : List Int := if isKey zs then zs.map wd else []
def isPath (ps : List Int) : Bool := decide (ps.length ≤ 8) && ps.all fun z => decide (0 ≤ z ∧ z ≤ 15)
def keyOf (ps : List Int) : List Int := if isPath ps then ps.map dig else []
def com : List Int → List Int → Nat
  | x :: a, y :: b => if x = y then com a b + 1 else 0
  | _, _ => 0

theorem sb_len (s : ByteArray) : (sb s).length = s.size := by
  unfold sb
  rw [List.length_map, Array.length_toList]; rfl
theorem sb_at (s : ByteArray) (k : Nat) (h : k < s.size) : (sb s)[k]?.getD 0 = ((s[k]'h).toNat : Int) := by
  have h' : k < s.data.size := h
  have e : s.data[k]? = some (s[k]'h) := Array.getElem?_eq_getElem h'
  unfold sb
  rw [List.getElem?_map, Array.getElem?_toList, e]
  rfl
theorem sb_bd (s : ByteArray) : ∀ z ∈ sb s, 0 ≤ z ∧ z ≤ 255 := by
  intro z hz
  simp only [sb, List.mem_map] at hz
  obtain ⟨b, _, rfl⟩ := hz
  have := b.toNat_lt
  omega
theorem wd_bd (c : Int) : -1 ≤ wd c ∧ wd c ≤ 15 := by unfold wd; split <;> (try split) <;> omega
theorem wd_dig (z : Int) (h : 0 ≤ z ∧ z ≤ 15) : wd (dig z) = z := by unfold wd dig; split <;> split <;> (try split) <;> omega
theorem dig_wd (c : Int) (h : 0 ≤ wd c) : dig (wd c) = c := by
  by_cases h1 : 48 ≤ c ∧ c ≤ 57
  · have e : wd c = c - 48 := if_pos h1
    rw [e]; unfold dig; split <;> omega
  · by_cases h2 : 97 ≤ c ∧ c ≤ 102
    · have e : wd c = c - 87 := by unfold wd; rw [if_neg h1, if_pos h2]
      rw [e]; unfold dig; split <;> omega
    · have e : wd c = -1 := by unfold wd; rw [if_neg h1, if_neg h2]
      omega
theorem dig_bd (z : Int) (h : 0 ≤ z ∧ z ≤ 15) : 48 ≤ dig z ∧ dig z ≤ 102 := by unfold dig; split <;> omega
theorem isKey_iff (zs : List Int) : isKey zs = true ↔ (1 ≤ zs.length ∧ zs.length ≤ 8) ∧ ∀ z ∈ zs, 0 ≤ wd z := by simp [isKey]
theorem isPath_iff (ps : List Int) : isPath ps = true ↔ ps.length ≤ 8 ∧ ∀ z ∈ ps, 0 ≤ z ∧ z ≤ 15 := by simp [isPath]
theorem pathOf_len (zs : List Int) : (pathOf zs).length ≤ 8 := by
  unfold pathOf
  split
  · rename_i h; have := (isKey_iff zs).1 h; simp; omega
  · simp
theorem pathOf_pos (zs : List Int) : decide (0 < (pathOf zs).length) = isKey zs := by
  unfold pathOf
  split
  · rename_i h; have := (isKey_iff zs).1 h; rw [h]; simp; omega
  · rename_i h; simp at h; simp [h]
theorem pathOf_long (zs : List Int) (h : 8 < zs.length) : pathOf zs = [] := by
  unfold pathOf
  rw [if_neg]
  intro e
  have := (isKey_iff zs).1 e
  omega
theorem pathOf_bad (zs : List Int) (k : Nat) (hk : k < zs.length) (h : wd (zs[k]?.getD 0) < 0) : pathOf zs = [] := by
  unfold pathOf
  rw [if_neg]
  intro e
  have h2 := ((isKey_iff zs).1 e).2 (zs[k]?.getD 0) (by rw [List.getElem?_eq_getElem hk]; exact List.getElem_mem hk)
  omega
theorem pathOf_good (zs : List Int) (hl : zs.length ≤ 8) (h : ∀ z ∈ zs, 0 ≤ wd z) : pathOf zs = zs.map wd := by
  unfold pathOf
  split
  · rfl
  · rename_i e
    rcases zs with _ | ⟨z, r⟩
    · rfl
    · exact absurd ((isKey_iff _).2 ⟨⟨by simp, hl⟩, h⟩) e
theorem isKey_bad (zs : List Int) (k : Nat) (hk : k < zs.length) (h : wd (zs[k]?.getD 0) < 0) : isKey zs = false := by
  rw [← pathOf_pos, pathOf_bad zs k hk h]; simp
theorem isKey_good (zs : List Int) (h : ∀ z ∈ zs, 0 ≤ wd z) : isKey zs = decide (1 ≤ zs.length ∧ zs.length ≤ 8) := by
  unfold isKey
  rw [show (zs.all fun z => decide (0 ≤ wd z)) = true by simpa using h, Bool.and_true]
theorem good_step (zs : List Int) (k : Nat) (hk : k < zs.length) (h : ∀ z ∈ zs.take k, 0 ≤ wd z) (h1 : 0 ≤ wd (zs[k]?.getD 0)) : ∀ z ∈ zs.take (k + 1), 0 ≤ wd z := by
  rw [take_step zs k hk]
  intro z hz
  simp only [List.mem_append, List.mem_singleton] at hz
  rcases hz with hz | rfl
  · exact h z hz
  · exact h1
theorem map_take_step (f : Int → Int) (zs : List Int) (k : Nat) (hk : k < zs.length) : (zs.take (k + 1)).map f = (zs.take k).map f ++ [f (zs[k]?.getD 0)] := by
  rw [take_step zs k hk]; simp

theorem keyOf_long (ps : List Int) (h : 8 < ps.length) : keyOf ps = [] := by
  unfold keyOf
  rw [if_neg]
  intro e
  have := (isPath_iff ps).1 e
  omega
theorem keyOf_bad (ps : List Int) (k : Nat) (hk : k < ps.length) (h : ¬ (0 ≤ ps[k]?.getD 0 ∧ ps[k]?.getD 0 ≤ 15)) : keyOf ps = [] := by
  unfold keyOf
  rw [if_neg]
  intro e
  exact h (((isPath_iff ps).1 e).2 (ps[k]?.getD 0) (by rw [List.getElem?_eq_getElem hk]; exact List.getElem_mem hk))
theorem isPath_bad (ps : List Int) (k : Nat) (hk : k < ps.length) (h : ¬ (0 ≤ ps[k]?.getD 0 ∧ ps[k]?.getD 0 ≤ 15)) : isPath ps = false := by
  rw [Bool.eq_false_iff]
  intro e
  exact h (((isPath_iff ps).1 e).2 (ps[k]?.getD 0) (by rw [List.getElem?_eq_getElem hk]; exact List.getElem_mem hk))
theorem keyOf_good (ps : List Int) (hl : ps.length ≤ 8) (h : ∀ z ∈ ps, 0 ≤ z ∧ z ≤ 15) : keyOf ps = ps.map dig := by
  unfold keyOf
  rw [if_pos ((isPath_iff ps).2 ⟨hl, h⟩)]
theorem path_step (ps : List Int) (k : Nat) (hk : k < ps.length) (h : ∀ z ∈ ps.take k, 0 ≤ z ∧ z ≤ 15) (h1 : 0 ≤ ps[k]?.getD 0 ∧ ps[k]?.getD 0 ≤ 15) : ∀ z ∈ ps.take (k + 1), 0 ≤ z ∧ z ≤ 15 := by
  rw [take_step ps k hk]
  intro z hz
  simp only [List.mem_append, List.mem_singleton] at hz
  rcases hz with hz | rfl
  · exact h z hz
  · exact h1

theorem sb_str (zs : List Int) (h : ∀ z ∈ zs, 0 ≤ z ∧ z ≤ 255) : sb (strOfNums zs) = zs := by
  simp only [sb, strOfNums, List.map_map]
  rw [List.map_congr_left (g := id), List.map_id]
  intro z hz
  have := h z hz
  simp
  omega
theorem str_sb (s : ByteArray) : strOfNums (sb s) = s := by
  obtain ⟨⟨l⟩⟩ := s
  simp only [sb, strOfNums, List.map_map]
  congr 2
  conv => rhs; rw [← List.map_id l]
  apply List.map_congr_left
  intro b _
  simp
theorem str_append (a b : List Int) : strOfNums a ++ strOfNums b = strOfNums (a ++ b) := by
  unfold strOfNums
  rw [ByteArray.mk_append_mk, List.map_append]
/-- the text of the digits of a path is a key, where it is not empty. -/
theorem isKey_digs (ps : List Int) (hl : ps.length ≤ 8) (h : ∀ z ∈ ps, 0 ≤ z ∧ z ≤ 15) : isKey (sb (strOfNums (ps.map dig))) = decide (1 ≤ ps.length) := by
  rw [sb_str]
  · rw [isKey_good]
    · simp [hl]
    · intro z hz
      obtain ⟨p, hp, rfl⟩ := List.mem_map.1 hz
      rw [wd_dig p (h p hp)]
      exact (h p hp).1
  · intro z hz
    obtain ⟨p, hp, rfl⟩ := List.mem_map.1 hz
    have := dig_bd p (h p hp)
    omega
/-- the key of the path of a key is the key. -/
theorem keyOf_pathOf (zs : List Int) (h : isKey zs = true) : keyOf (pathOf zs) = zs := by
  have hk := (isKey_iff zs).1 h
  unfold pathOf
  rw [if_pos h, keyOf_good (zs.map wd) (by simp; omega) (by
    intro z hz
    obtain ⟨p, hp, rfl⟩ := List.mem_map.1 hz
    exact ⟨hk.2 p hp, (wd_bd p).2⟩), List.map_map]
  conv => rhs; rw [← List.map_id zs]
  apply List.map_congr_left
  intro c hc
  exact dig_wd c (hk.2 c hc)

theorem com_self (a : List Int) : com a a = a.length := by
  induction a with
  | nil => rfl
  | cons x r ih => simp [com, ih]
theorem com_is (a b : List Int) (k : Nat) (ha : k ≤ a.length) (hb : k ≤ b.length) (hs : ∀ i, i < k → a[i]?.getD 0 = b[i]?.getD 0) (he : k = a.length ∨ k = b.length ∨ a[k]?.getD 0 ≠ b[k]?.getD 0) : com a b = k := by
  induction a generalizing b k with
  | nil => simp at ha; subst ha; rfl
  | cons x r ih =>
    rcases b with _ | ⟨y, q⟩
    · simp at hb; subst hb; rfl
    · rcases k with _ | k
      · simp at he
        simp [com, he]
      · have h0 := hs 0 (by omega)
        simp at h0
        subst h0
        simp only [com, if_true]
        congr 1
        refine ih q k (by simpa using ha) (by simpa using hb) (fun i hi => ?_) ?_
        · have := hs (i + 1) (by omega)
          simpa using this
        · simpa using he
theorem map_at (f : Int → Int) (zs : List Int) (k : Nat) (hk : k < zs.length) : (zs.map f)[k]?.getD 0 = f (zs[k]?.getD 0) := by
  rw [List.getElem?_map, List.getElem?_eq_getElem hk]; rfl
/-- the sixteen digits. -/
def digits16 : ByteArray := { data := #[48, 49, 50, 51, 52, 53, 54, 55, 56, 57, 97, 98, 99, 100, 101, 102] }
theorem dig_lit (z : Int) (h0 : 0 ≤ z) (h1 : z ≤ 15) (hh : z.toNat < digits16.size) : ((digits16[z.toNat]'hh).toNat : Int) = dig z := by
  obtain ⟨k, rfl⟩ : ∃ k : Nat, z = k := ⟨z.toNat, by omega⟩
  simp only [Int.toNat_natCast]
  match k, h1 with
  | 0, _ => rfl
  | 1, _ => rfl
  | 2, _ => rfl
  | 3, _ => rfl
  | 4, _ => rfl
  | 5, _ => rfl
  | 6, _ => rfl
  | 7, _ => rfl
  | 8, _ => rfl
  | 9, _ => rfl
  | 10, _ => rfl
  | 11, _ => rfl
  | 12, _ => rfl
  | 13, _ => rfl
  | 14, _ => rfl
  | 15, _ => rfl
  | k + 16, h1 => omega
theorem dig_cut (z : Int) (h0 : 0 ≤ z) (h1 : z ≤ 15) : digits16.extract z.toNat (z + 1).toNat = strOfNums [dig z] := by
  obtain ⟨k, rfl⟩ : ∃ k : Nat, z = k := ⟨z.toNat, by omega⟩
  match k, h1 with
  | 0, _ => rfl
  | 1, _ => rfl
  | 2, _ => rfl
  | 3, _ => rfl
  | 4, _ => rfl
  | 5, _ => rfl
  | 6, _ => rfl
  | 7, _ => rfl
  | 8, _ => rfl
  | 9, _ => rfl
  | 10, _ => rfl
  | 11, _ => rfl
  | 12, _ => rfl
  | 13, _ => rfl
  | 14, _ => rfl
  | 15, _ => rfl
  | k + 16, h1 => omega
end Go.Proofs.Ytepaikljiddiaaa

-- NodeM: Plain facts on nodes: what a node is, when it is one, its bytes.
namespace Go.Proofs.Ytepaikljiddiaaa
set_option maxRecDepth 20000
open Go.RowKit

/-- a node. -/
structure MNode where
  kind : Int
  path : List Int
  kids : List (Int × Int)
  val : ByteArray

def okLetter (c : Int) : Bool := decide ((97 ≤ c ∧ c ≤ 122) ∨ (48 ≤ c ∧ c ≤ 57))
def valOk (zs : List Int) : Bool := decide (1 ≤ zs.length ∧ zs.length ≤ 12) && zs.all okLetter
/-- the kid at i is right, seen from the one ahead of it. -/
def KidAt (ks : List (Int × Int)) (i : Nat) : Prop :=
  (0 ≤ (ks[i]?.getD (0, 0)).1 ∧ (ks[i]?.getD (0, 0)).1 ≤ 15) ∧ 1 ≤ (ks[i]?.getD (0, 0)).2 ∧ (0 < i → (ks[i - 1]?.getD (0, 0)).1 < (ks[i]?.getD (0, 0)).1)
instance (ks : List (Int × Int)) (i : Nat) : Decidable (KidAt ks i) := by unfold KidAt; infer_instance
def kidsOk (ks : List (Int × Int)) : Bool := decide (∀ i, i < ks.length → KidAt ks i)
def hasVal (n : MNode) : Bool := !n.val.toList.isEmpty
/-- where the first kid stands. -/
def at0 (ks : List (Int × Int)) : Int := (ks[0]?.getD (0, 0)).1
def kindOk (n : MNode) : Bool :=
  if n.kind = 1 then decide (n.kids.length = 0) && hasVal n
  else if n.kind = 2 then decide (0 < n.path.length) && !hasVal n && decide (n.kids.length = 1) && decide (at0 n.kids = 0)
  else if n.kind = 3 then decide (n.path.length = 0) && decide (2 ≤ n.kids.length + (if hasVal n then 1 else 0))
  else false
def nodeOk (n : MNode) : Bool := isPath n.path && kidsOk n.kids && (!hasVal n || valOk (sb n.val)) && kindOk n

theorem valOk_bad (zs : List Int) (k : Nat) (hk : k < zs.length) (h : okLetter (zs[k]?.getD 0) = false) : valOk zs = false := by
  unfold valOk
  rw [Bool.and_eq_false_iff]
  right
  rw [List.all_eq_false]
  exact ⟨zs[k]?.getD 0, by rw [List.getElem?_eq_getElem hk]; exact List.getElem_mem hk, by rw [h]; decide⟩
theorem valOk_good (zs : List Int) (h : ∀ z ∈ zs, okLetter z = true) : valOk zs = decide (1 ≤ zs.length ∧ zs.length ≤ 12) := by
  unfold valOk
  rw [show zs.all okLetter = true by rw [List.all_eq_true]; exact h, Bool.and_true]
theorem letters_step (zs : List Int) (k : Nat) (hk : k < zs.length) (h : ∀ z ∈ zs.take k, okLetter z = true) (h1 : okLetter (zs[k]?.getD 0) = true) : ∀ z ∈ zs.take (k + 1), okLetter z = true := by
  rw [take_step zs k hk]
  intro z hz
  simp only [List.mem_append, List.mem_singleton] at hz
  rcases hz with hz | rfl
  · exact h z hz
  · exact h1
theorem kidsOk_bad (ks : List (Int × Int)) (k : Nat) (hk : k < ks.length) (h : ¬ KidAt ks k) : kidsOk ks = false := by
  unfold kidsOk
  rw [decide_eq_false_iff_not]
  exact fun e => h (e k hk)
theorem kidsOk_good (ks : List (Int × Int)) (h : ∀ i, i < ks.length → KidAt ks i) : kidsOk ks = true := by
  unfold kidsOk
  exact decide_eq_true h
theorem isPath_long (ps : List Int) (h : 8 < ps.length) : isPath ps = false := by
  rw [Bool.eq_false_iff]; intro e; have := ((isPath_iff ps).1 e).1; omega
end Go.Proofs.Ytepaikljiddiaaa

-- L1In: Whether a number lies from 0 to 15: the model's l1In.
namespace Go.Proofs.Ytepaikljiddiaaa
set_option maxRecDepth 20000
open Go.RowKit

theorem l1In_any (x : Int) (w : World) :
    Calls Try.prog 88 #[.int .i64 x, .int .i64 0, .int .i64 15] w fun e w' => e = .returned (.bool (decide (0 ≤ x ∧ x ≤ 15))) ∧ w = w' := by
  go_enter Try.func88, Try.ntmps88
  by_cases h : 0 ≤ x
  · go_wp2
    go_ret
    exact ⟨ret_b (decide_eq_decide.2 (by omega)), rfl⟩
  · go_wp2
    go_ret
    exact ⟨ret_b (by simp; omega), rfl⟩

theorem l1In_yes (x : Int) (w : World) (h : 0 ≤ x ∧ x ≤ 15) :
    Calls Try.prog 88 #[.int .i64 x, .int .i64 0, .int .i64 15] w fun e w' => e = .returned (.bool true) ∧ w' = w :=
  (l1In_any x w).mono fun e w' hh => ⟨by rw [hh.1, decide_eq_true h], hh.2.symm⟩
theorem l1In_no (x : Int) (w : World) (h : ¬ (0 ≤ x ∧ x ≤ 15)) :
    Calls Try.prog 88 #[.int .i64 x, .int .i64 0, .int .i64 15] w fun e w' => e = .returned (.bool false) ∧ w' = w :=
  (l1In_any x w).mono fun e w' hh => ⟨by rw [hh.1, decide_eq_false h], hh.2.symm⟩
end Go.Proofs.Ytepaikljiddiaaa

-- NodeS: What the model's ValueOk, l3Path, l3Kids and NodeOk answer.
namespace Go.Proofs.Ytepaikljiddiaaa
set_option maxRecDepth 20000
open Go.RowKit

theorem specValueOk_any (s : ByteArray) (w : World) (hs : s.size ≤ 1048576) :
    Calls Try.prog 77 #[.string s] w fun e w' => e = .returned (.bool (valOk (sb s))) ∧ ∃ m, w' = w.drewN m := by
  have hlen := sb_len s
  go_enter Try.func77, Try.ntmps77
  go_wp2
  go_loopw [3] (fun i wr => ∃ k q : Nat, k ≤ s.size ∧ i = .int .i64 k ∧ (∀ z ∈ (sb s).take k, okLetter z = true) ∧ wr = w.drewN q) (fun i _ => s.size - (intOf i).toNat)
  case atStart => exact ⟨0, 0, Nat.zero_le _, rfl, by simp, rfl⟩
  case round =>
    obtain ⟨k, q, hk, rfl, hgood, rfl⟩ := hrel
    by_cases hlt : k < s.size
    · have hat := sb_at s k hlt
      have hcls : (97 ≤ ((s[k]'hlt).toNat : Int) ∧ ((s[k]'hlt).toNat : Int) ≤ 122) ∨ (48 ≤ ((s[k]'hlt).toNat : Int) ∧ ((s[k]'hlt).toNat : Int) ≤ 57) ∨ ((s[k]'hlt).toNat : Int) < 48 ∨ (57 < ((s[k]'hlt).toNat : Int) ∧ ((s[k]'hlt).toNat : Int) < 97) ∨ 122 < ((s[k]'hlt).toNat : Int) := by omega
      rcases hcls with ⟨h1, h2⟩ | ⟨h1, h2⟩ | h1 | ⟨h1, h2⟩ | h1
      · go_wp2
        go_roundw
        case rel => exact ⟨k + 1, _, by omega, by go_num, letters_step (sb s) k (by omega) hgood (by rw [hat]; exact decide_eq_true (by omega)), rfl⟩
        case measure => simp [intOf]; omega
      · go_wp2
        go_roundw
        case rel => exact ⟨k + 1, _, by omega, by go_num, letters_step (sb s) k (by omega) hgood (by rw [hat]; exact decide_eq_true (by omega)), rfl⟩
        case measure => simp [intOf]; omega
      · go_wp2
        go_ret
        exact ⟨by rw [valOk_bad (sb s) k (by omega) (by rw [hat]; exact decide_eq_false (by omega))]; rfl, _, rfl⟩
      · have d1 : decide (((s[k]'hlt).toNat : Int) ≤ 57) = false := decide_eq_false (by omega)
        go_wp2
        go_ret
        exact ⟨by rw [valOk_bad (sb s) k (by omega) (by rw [hat]; exact decide_eq_false (by omega))]; rfl, _, rfl⟩
      · have d1 : decide (((s[k]'hlt).toNat : Int) ≤ 57) = false := decide_eq_false (by omega)
        have d2 : decide (((s[k]'hlt).toNat : Int) ≤ 122) = false := decide_eq_false (by omega)
        go_wp2
        go_ret
        exact ⟨by rw [valOk_bad (sb s) k (by omega) (by rw [hat]; exact decide_eq_false (by omega))]; rfl, _, rfl⟩
    · have e : (sb s).take k = sb s := List.take_of_length_le (by omega)
      rw [e] at hgood
      have HG := Lib.hid (valOk_good (sb s) hgood)
      by_cases h1 : 1 ≤ s.size
      · go_wp2
        go_ret
        exact ⟨by rw [HG.out]; exact ret_b (by rw [hlen]; exact decide_eq_decide.2 (by omega)), _, rfl⟩
      · go_wp2
        go_ret
        exact ⟨by rw [HG.out]; exact ret_b (by rw [hlen]; simp; omega), _, rfl⟩

theorem l3Path_any (A : Option Addr) (n c : Nat) (ps : List Int) (B : Nat) (w : World) (hn : n ≤ 9223372036854775807) (hp : Ints w B A n ps) :
    Calls Try.prog 75 #[.slice A n c] w fun e w' => e = .returned (.bool (isPath ps)) ∧ w = w' := by
  have HP := Lib.hid hp
  clear hp
  go_enter Try.func75, Try.ntmps75
  go_wp2
  go_loop [3] (fun i => ∃ k : Nat, k ≤ n ∧ i = .int .i64 k ∧ (∀ z ∈ ps.take k, 0 ≤ z ∧ z ≤ 15)) (fun i => n - (intOf i).toNat)
  case atStart => exact ⟨0, Nat.zero_le _, rfl, by simp⟩
  case round =>
    obtain ⟨k, hk, rfl, hgood⟩ := hrel
    by_cases hlt : k < n
    · obtain ⟨b, off, rfl, hbB, hc⟩ := HP.out.at_ hlt
      generalize hz : ps[k]?.getD 0 = z at hc
      by_cases hq : 0 ≤ z ∧ z ≤ 15
      · have hd : decide (0 ≤ z ∧ z ≤ 15) = true := decide_eq_true hq
        go_wp2_with fail
        refine (l1In_any _ _).mono ?_
        rintro e w' ⟨rfl, rfl⟩
        rw [hd]
        go_wp2
        go_round
        case rel => exact ⟨k + 1, by omega, by go_num, path_step ps k (by have := HP.out.1; omega) hgood (by rw [hz]; exact hq)⟩
        case measure => simp [intOf]; omega
      · have hd : decide (0 ≤ z ∧ z ≤ 15) = false := decide_eq_false hq
        go_wp2_with fail
        refine (l1In_any _ _).mono ?_
        rintro e w' ⟨rfl, rfl⟩
        rw [hd]
        go_wp2
        go_ret
        exact ⟨by rw [isPath_bad ps k (by have := HP.out.1; omega) (by rw [hz]; exact hq)]; rfl, rfl⟩
    · have e : ps.take k = ps := List.take_of_length_le (by have := HP.out.1; omega)
      rw [e] at hgood
      have hg : isPath ps = decide (n ≤ 8) := by
        unfold isPath
        rw [show (ps.all fun z => decide (0 ≤ z ∧ z ≤ 15)) = true by simpa using hgood, Bool.and_true, HP.out.1]
      have HG := Lib.hid hg
      clear hg
      go_wp2
      go_ret
      exact ⟨by rw [HG.out]; exact ret_b (decide_eq_decide.2 (by omega)), rfl⟩

set_option maxHeartbeats 400000 in      -- one walk, five ways through a region of 33 operations
theorem l3Kids_any (A : Option Addr) (n c : Nat) (ks : List (Int × Int)) (B : Nat) (w : World) (hn : n ≤ 9223372036854775807) (hb : Kids w B A n ks) :
    Calls Try.prog 76 #[.slice A n c] w fun e w' => e = .returned (.bool (kidsOk ks)) ∧ ∃ m, w' = w.drewN m := by
  have HB := Lib.hid hb
  have hlen := hb.1
  clear hb
  go_enter Try.func76, Try.ntmps76
  go_wp2
  go_loopw [3] (fun i wr => ∃ k q : Nat, k ≤ n ∧ i = .int .i64 k ∧ (∀ j, j < k → KidAt ks j) ∧ wr = w.drewN q) (fun i _ => n - (intOf i).toNat)
  case atStart => exact ⟨0, 0, Nat.zero_le _, rfl, fun j hj => absurd hj (by omega), rfl⟩
  case round =>
    obtain ⟨k, q, hk, rfl, hgood, hwr⟩ := hrel
    have hkr : Kids wr B A n ks := hwr ▸ HB.out.drewN q
    have HK := Lib.hid hkr
    have HW := Lib.hid hwr
    clear hwr hkr
    by_cases hlt : k < n
    · obtain ⟨b, off, rfl, hbB, h0, h1⟩ := HK.out.at_ hlt
      have hx : ∃ x, ks[k]?.getD (0, 0) = x := ⟨_, rfl⟩
      obtain ⟨x, hx⟩ := hx
      rw [hx] at h0 h1
      by_cases hA : 0 ≤ x.1 ∧ x.1 ≤ 15
      · by_cases hN : x.2 < 1
        · have hdN : decide (x.2 < 1) = true := decide_eq_true hN
          go_wp2
          go_quiet (first | (go_at_call 88; exact Calls.quiet_of_same (l1In_yes _ _ hA)))
          go_wp2
          go_ret
          exact ⟨by rw [kidsOk_bad ks k (by omega) (by unfold KidAt; rw [hx]; omega)]; rfl, _, by rw [HW.out, World.drewN_drewN]⟩
        · have hdN : decide (x.2 < 1) = false := decide_eq_false hN
          by_cases hk0 : 0 < k
          · obtain ⟨b', off', e', hbB', p0, p1⟩ := HK.out.at_ (k := k - 1) (by omega)
            cases e'
            have hy : ∃ y, ks[k - 1]?.getD (0, 0) = y := ⟨_, rfl⟩
            obtain ⟨y, hy⟩ := hy
            rw [hy] at p0 p1
            have hia := index_kid_pred b off n c k hk0 hlt
            have hwk : IntKind.i64.wrap ((k : Int) - 1) = (k : Int) - 1 := by rw [IntKind.wrap_i64]; omega
            have hd : decide ((0 : Int) < (k : Int)) = true := decide_eq_true (by omega)
            by_cases hR : x.1 ≤ y.1
            · go_wp2
              go_quiet (first | (go_at_call 88; exact Calls.quiet_of_same (l1In_yes _ _ hA)))
              go_wp2
              go_ret
              exact ⟨by rw [kidsOk_bad ks k (by omega) (by unfold KidAt; rw [hx, hy]; omega)]; rfl, _, by rw [HW.out, World.drewN_drewN]⟩
            · go_wp2
              go_quiet (first | (go_at_call 88; exact Calls.quiet_of_same (l1In_yes _ _ hA)))
              go_wp2
              go_roundw
              case rel =>
                refine ⟨k + 1, _, by omega, by go_num, fun i hi => ?_, by rw [HW.out, World.drewN_drewN]⟩
                rcases Nat.lt_or_ge i k with h | h
                · exact hgood i h
                · rw [show i = k by omega]
                  unfold KidAt
                  rw [hx, hy]
                  omega
              case measure => simp [intOf]; omega
          · obtain rfl : k = 0 := by omega
            rw [Nat.zero_mul, Nat.add_zero] at h0 h1
            go_wp2
            go_quiet (first | (go_at_call 88; exact Calls.quiet_of_same (l1In_yes _ _ hA)))
            go_wp2
            go_roundw
            case rel =>
              refine ⟨1, _, by omega, by go_num, fun j hj => ?_, by rw [HW.out, World.drewN_drewN]⟩
              rcases Nat.lt_or_ge j 0 with h | h
              · exact hgood j h
              · rw [show j = 0 by omega]
                unfold KidAt
                rw [hx]
                omega
            case measure => simp [intOf]; omega
      · go_wp2
        go_quiet (first | (go_at_call 88; exact Calls.quiet_of_same (l1In_no _ _ hA)))
        go_wp2
        go_ret
        exact ⟨by rw [kidsOk_bad ks k (by omega) (by unfold KidAt; rw [hx]; omega)]; rfl, _, by rw [HW.out, World.drewN_drewN]⟩
    · go_wp2
      go_ret
      exact ⟨by rw [kidsOk_good ks (fun i hi => hgood i (by omega))]; rfl, q, HW.out⟩
end Go.Proofs.Ytepaikljiddiaaa

-- NodeK: What the model's NodeOk answers: for every node.
namespace Go.Proofs.Ytepaikljiddiaaa
set_option maxRecDepth 20000
open Go.RowKit

/-- the value v is the node nd, its lists below block B. -/
def NodeIn (w : World) (B : Nat) (v : Value) (nd : MNode) : Prop :=
  ∃ Ap np cp Ak nk ck, v = .agg #[.int .i64 nd.kind, .slice Ap np cp, .slice Ak nk ck, .string nd.val] ∧ np ≤ 1048576 ∧ nk ≤ 1048576 ∧ nd.val.size ≤ 1048576 ∧ Ints w B Ap np nd.path ∧ Kids w B Ak nk nd.kids

theorem NodeIn.below {w w' : World} {B : Nat} {v : Value} {nd : MNode} (h : NodeIn w B v nd) (hb : Below B w w') : NodeIn w' B v nd := by
  obtain ⟨Ap, np, cp, Ak, nk, ck, rfl, h1, h2, h3, h4, h5⟩ := h
  exact ⟨Ap, np, cp, Ak, nk, ck, rfl, h1, h2, h3, h4.below hb, h5.below hb⟩
theorem NodeIn.more {w : World} {B B' : Nat} {v : Value} {nd : MNode} (h : NodeIn w B v nd) (hB : B ≤ B') : NodeIn w B' v nd := by
  obtain ⟨Ap, np, cp, Ak, nk, ck, rfl, h1, h2, h3, h4, h5⟩ := h
  exact ⟨Ap, np, cp, Ak, nk, ck, rfl, h1, h2, h3, h4.more hB, h5.more hB⟩

theorem empty_str (s : ByteArray) (h : s.toList = []) : s = { data := #[] } := by
  obtain ⟨⟨l⟩⟩ := s
  have e : (ByteArray.mk l.toArray).toList = l := ByteArray.toList_mk l
  have h' : (ByteArray.mk l.toArray).toList = [] := h
  rw [e] at h'
  rw [h']

set_option maxHeartbeats 1000000 in      -- one walk, the ways through four tests and a switch of three
theorem specNodeOk_any (v : Value) (nd : MNode) (B : Nat) (w : World) (hB : B ≤ w.heap.size) (hv : NodeIn w B v nd) :
    Calls Try.prog 54 #[v] w fun e w' => e = .returned (.bool (nodeOk nd)) ∧ Below w.heap.size w w' := by
  obtain ⟨Ap, np, cp, Ak, nk, ck, rfl, hnp, hnk, hsz, hp, hk⟩ := hv
  obtain ⟨kind, path, kids, val⟩ := nd
  have HP := Lib.hid (hp.more hB)
  have HK := Lib.hid (hk.more hB)
  have LP : Hid (path.length = np) := hp.1
  have LK : Hid (kids.length = nk) := hk.1
  have BW := fun m => Lib.hid (below_drewN ((Below.refl w.heap.size w).alloc (Nat.le_refl _) (.cells #[.int .i64 kind, .slice Ap np cp, .slice Ak nk ck, .string val] 46)) m)
  have SV := Lib.hid hsz
  clear hp hk hsz
  go_enter Try.func54, Try.ntmps54
  go_wp2_with fail
  refine (l3Path_any _ _ _ path _ _ (by omega) (HP.out.alloc (Nat.le_refl _) _)).mono ?_
  rintro e w' ⟨rfl, rfl⟩
  by_cases h1 : isPath path = true
  · rw [h1]
    go_wp2_with fail
    refine (l3Kids_any _ _ _ kids _ _ (by omega) (HK.out.alloc (Nat.le_refl _) _)).mono ?_
    rintro e w' ⟨rfl, m, rfl⟩
    by_cases h2 : kidsOk kids = true
    · rw [h2]
      by_cases hE : val.toList = []
      · obtain rfl := empty_str val hE
        clear hE
        by_cases hk1 : kind = 1
        · obtain rfl := hk1
          by_cases hz : nk = 0
          · obtain rfl := hz
            go_wp2
            go_ret
            exact ⟨ret_b (by simp [nodeOk, kindOk, hasVal, h1, h2, LK.out]), (BW _).out⟩
          · have hd : decide ((nk : Int) = 0) = false := decide_eq_false (by omega)
            go_wp2
            go_ret
            exact ⟨ret_b (by simp [nodeOk, kindOk, hasVal, h1, h2, LK.out, hz]), (BW _).out⟩
        · by_cases hk2 : kind = 2
          · obtain rfl := hk2
            by_cases hz : np = 0
            · obtain rfl := hz
              go_wp2
              go_ret
              exact ⟨ret_b (by simp [nodeOk, kindOk, hasVal, h1, h2, LP.out, LK.out]), (BW _).out⟩
            · have hd : decide ((0 : Int) < (np : Int)) = true := decide_eq_true (by omega)
              have hz' : 0 < np := by omega
              by_cases hz1 : nk = 1
              · obtain rfl := hz1
                obtain ⟨b, off, rfl, hbB, p0, p1⟩ := HK.out.at_ (k := 0) (by omega)
                rw [Nat.zero_mul, Nat.add_zero] at p0 p1
                have hbw : b < w.heap.size := hbB
                have hx : ∃ x, kids[0]?.getD (0, 0) = x := ⟨_, rfl⟩
                obtain ⟨x, hx⟩ := hx
                rw [hx] at p0 p1
                have HX : Hid (at0 kids = x.1) := by unfold at0; rw [hx]; rfl
                clear hx
                go_wp2
                go_ret
                exact ⟨ret_b (by simp [nodeOk, kindOk, hasVal, h1, h2, LP.out, LK.out, hz']; rw [HX.out]; rfl), (BW _).out⟩
              · have hd1 : decide ((nk : Int) = 1) = false := decide_eq_false (by omega)
                go_wp2
                go_ret
                exact ⟨ret_b (by simp [nodeOk, kindOk, hasVal, h1, h2, LP.out, LK.out, hz1, hz']), (BW _).out⟩
          · by_cases hk3 : kind = 3
            · obtain rfl := hk3
              by_cases hz : np = 0
              · obtain rfl := hz
                go_wp2
                go_ret
                exact ⟨ret_b (by simp [nodeOk, kindOk, hasVal, h1, h2, LP.out, LK.out]; omega), (BW _).out⟩
              · have hd : decide ((np : Int) = 0) = false := decide_eq_false (by omega)
                go_wp2
                go_ret
                exact ⟨ret_b (by simp [nodeOk, kindOk, hasVal, h1, h2, LP.out, LK.out, hz]), (BW _).out⟩
            · have d1 : decide (kind = 1) = false := decide_eq_false hk1
              have d2 : decide (kind = 2) = false := decide_eq_false hk2
              have d3 : decide (kind = 3) = false := decide_eq_false hk3
              go_wp2
              go_ret
              exact ⟨ret_b (by simp [nodeOk, kindOk, hasVal, h1, h2, hk1, hk2, hk3]), (BW _).out⟩
      · have hE2 : val.toList.isEmpty = false := by simpa using hE
        go_wp2_with fail
        refine (specValueOk_any val _ SV.out).mono ?_
        rintro e w' ⟨rfl, m2, rfl⟩
        by_cases h3 : valOk (sb val) = true
        · rw [h3]
          by_cases hk1 : kind = 1
          · obtain rfl := hk1
            by_cases hz : nk = 0
            · obtain rfl := hz
              go_wp2
              go_ret
              exact ⟨ret_b (by simp [nodeOk, kindOk, hasVal, h1, h2, LK.out, hE2, h3]), (BW _).out⟩
            · have hd : decide ((nk : Int) = 0) = false := decide_eq_false (by omega)
              go_wp2
              go_ret
              exact ⟨ret_b (by simp [nodeOk, kindOk, hasVal, h1, h2, LK.out, hE2, h3, hz]), (BW _).out⟩
          · by_cases hk2 : kind = 2
            · obtain rfl := hk2
              by_cases hz : np = 0
              · obtain rfl := hz
                go_wp2
                go_ret
                exact ⟨ret_b (by simp [nodeOk, kindOk, hasVal, h1, h2, LP.out, LK.out, hE2, h3]), (BW _).out⟩
              · have hd : decide ((0 : Int) < (np : Int)) = true := decide_eq_true (by omega)
                go_wp2
                go_ret
                exact ⟨ret_b (by simp [nodeOk, kindOk, hasVal, h1, h2, LP.out, LK.out, hE2, h3]), (BW _).out⟩
            · by_cases hk3 : kind = 3
              · obtain rfl := hk3
                by_cases hz : np = 0
                · obtain rfl := hz
                  go_wp2
                  go_ret
                  exact ⟨ret_b (by simp [nodeOk, kindOk, hasVal, h1, h2, LP.out, LK.out, hE2, h3]; omega), (BW _).out⟩
                · have hd : decide ((np : Int) = 0) = false := decide_eq_false (by omega)
                  go_wp2
                  go_ret
                  exact ⟨ret_b (by simp [nodeOk, kindOk, hasVal, h1, h2, LP.out, LK.out, hE2, h3, hz]), (BW _).out⟩
              · have d1 : decide (kind = 1) = false := decide_eq_false hk1
                have d2 : decide (kind = 2) = false := decide_eq_false hk2
                have d3 : decide (kind = 3) = false := decide_eq_false hk3
                go_wp2
                go_ret
                exact ⟨ret_b (by simp [nodeOk, kindOk, hasVal, h1, h2, hE2, h3, hk1, hk2, hk3]), (BW _).out⟩
        · have h3 : valOk (sb val) = false := by simpa using h3
          rw [h3]
          go_wp2
          go_ret
          exact ⟨ret_b (by simp [nodeOk, hasVal, hE2, h3]), (BW _).out⟩
    · have h2 : kidsOk kids = false := by simpa using h2
      rw [h2]
      go_wp2
      go_ret
      exact ⟨ret_b (by simp [nodeOk, h2]), (BW _).out⟩
  · have h1 : isPath path = false := by simpa using h1
    rw [h1]
    go_wp2
    go_ret
    exact ⟨ret_b (by simp [nodeOk, h1]), (BW 0).out⟩
end Go.Proofs.Ytepaikljiddiaaa

-- KidsX: What the helpers of the exact laws do at slices of kids.
namespace Go.Proofs.Ytepaikljiddiaaa
set_option maxRecDepth 20000
open Go.RowKit

theorem toKid_any (a m : Int) (w : World) :
    Calls Try.prog 80 #[.agg #[.int .i64 a, .int .i64 m]] w fun e w' => e = .returned (.agg #[.int .i64 a, .int .i64 m]) ∧ Below w.heap.size w w' := by
  go_enter Try.func80, Try.ntmps80
  go_wp2
  refine bodyPost_ret (v := .agg #[.int .i64 a, .int .i64 m]) (by simp [results, Try.results80, go_sem]) rfl ?_
  exact ⟨rfl, (((Below.refl _ _).alloc (Nat.le_refl _) _).alloc (by simp) _).alloc (by simp; omega) _⟩
theorem eqKid_yes (a m : Int) (w : World) :
    Calls Try.prog 86 #[.agg #[.int .i64 a, .int .i64 m], .agg #[.int .i64 a, .int .i64 m]] w fun e w' => e = .returned (.bool true) ∧ Below w.heap.size w w' := by
  go_enter Try.func86, Try.ntmps86
  go_wp2
  go_ret
  exact ⟨rfl, ((Below.refl _ _).alloc (Nat.le_refl _) _).alloc (by simp) _⟩

/-- the kids as far as they are filled. -/
def filledK (ks : List (Int × Int)) (n k : Nat) : List (Int × Int) := ks.take k ++ List.replicate (n - k) (0, 0)
theorem filledK_len (ks : List (Int × Int)) (n k : Nat) (hk : ks.length = n) (h : k ≤ n) : (filledK ks n k).length = n := by simp [filledK]; omega
theorem filledK_set (ks : List (Int × Int)) (n k : Nat) (hz : ks.length = n) (hk : k < n) : (filledK ks n k).set k (ks[k]?.getD (0, 0)) = filledK ks n (k + 1) := by
  unfold filledK
  obtain ⟨m, hm⟩ : ∃ m, n - k = m + 1 := ⟨n - k - 1, by omega⟩
  have hm' : n - (k + 1) = m := by omega
  rw [hm, hm', List.getElem?_eq_getElem (by omega)]
  have hl : min k ks.length = k := by omega
  have e : ks.take (k + 1) = ks.take k ++ [ks[k]] := List.take_succ_eq_append_getElem (by omega)
  simp [List.replicate_succ, hl]
  rw [e, List.append_assoc]; rfl
theorem filledK_all (ks : List (Int × Int)) (n : Nat) (hz : ks.length = n) : filledK ks n n = ks := by
  unfold filledK
  rw [List.take_of_length_le (by omega)]; simp
theorem kv_rep (n : Nat) : kv (List.replicate n (0, 0)) = List.replicate (n * 2) 0 := by
  induction n with
  | zero => rfl
  | succ n ih => rw [List.replicate_succ, kv_cons, ih, show (n + 1) * 2 = n * 2 + 1 + 1 by omega]; rfl
theorem make_kids (n : Nat) (hn : n ≤ 8796093022208) (W : World) :
    (Instr.makeSlice 44 (.int .i64 (n : Int)) (.int .i64 (n : Int))).run Try.prog W = .ok (.slice (some ⟨W.heap.size, 0, none⟩) n n) (W.alloc (.cells (i64s (kv (List.replicate n (0, 0)))) 111)) := by
  obtain ⟨i0, hi, hz0, hz1, hz2⟩ := info_parts Try.infoK
  have hr := run_make (P := Try.prog) W 44 111 i0 (.agg #[.int .i64 0, .int .i64 0]) Try.underlying44 hi hz0 .i64 .i64 n n (by omega) (by omega) (by rw [hz2]; omega) (by omega)
  simp only [Int.toNat_natCast] at hr
  rw [hr, hz1, kv_rep]
  have e : madeCells (Value.agg #[.int .i64 0, .int .i64 0]).cells (n * 2) = i64s (List.replicate (n * 2) 0) := by
    apply Array.ext
    · simp [madeCells, i64s]
    · intro i h1 h2
      simp [madeCells, i64s, Value.cells]
      rcases Nat.mod_two_eq_zero_or_one i with h | h <;> simp [h]
  rw [e]
theorem OwnK.put {w : World} {base g n c : Nat} {ks : List (Int × Int)} (h : OwnK w base (some ⟨g, 0, none⟩) n c ks) (k : Nat) (a m : Int) :
    OwnK ((w.setCell ⟨g, k * 2, none⟩ (.int .i64 a)).setCell ⟨g, k * 2 + 1, none⟩ (.int .i64 m)) base (some ⟨g, 0, none⟩) n c (ks.set k (a, m)) ∧ w.grownBy ((w.setCell ⟨g, k * 2, none⟩ (.int .i64 a)).setCell ⟨g, k * 2 + 1, none⟩ (.int .i64 m)) (some g) := by
  obtain ⟨h1, g1⟩ := h.set0 k a
  obtain ⟨h2, g2⟩ := h1.set1 k m
  refine ⟨?_, g1.trans g2⟩
  have e : (ks.set k (a, (ks[k]?.getD (0, 0)).2)).set k (((ks.set k (a, (ks[k]?.getD (0, 0)).2))[k]?.getD (0, 0)).1, m) = ks.set k (a, m) := by
    rw [List.set_set]
    by_cases hk : k < ks.length
    · rw [List.getElem?_set_self (by omega)]; rfl
    · rw [List.set_eq_of_length_le (by omega), List.set_eq_of_length_le (by omega)]
  rw [e] at h2
  exact h2

theorem copyK_any (A : Option Addr) (n c : Nat) (ks : List (Int × Int)) (B : Nat) (w : World) (hn : n ≤ 8796093022208) (hB : B ≤ w.heap.size) (hb : Kids w B A n ks) :
    Calls Try.prog 59 #[.slice A n c] w (GaveK w ks) := by
  have HB := Lib.hid hb
  have hlen := hb.1
  clear hb
  have HM := Lib.hid (make_kids n hn)
  go_enter Try.func59, Try.ntmps59
  have hmk := HM.out
  go_wp2
  clear hmk
  have M0 := Lib.hid (OwnK.of_alloc w w.heap.size (List.replicate n (0, 0)) n (Nat.le_refl _) (by simp) (by unfold maxLen; omega))
  go_loopw [4] (fun i wr => ∃ k : Nat, k ≤ n ∧ i = .int .i64 k ∧ OwnK wr w.heap.size (some ⟨w.heap.size, 0, none⟩) n n (filledK ks n k) ∧ Below w.heap.size w wr) (fun i _ => n - (intOf i).toNat)
  case atStart => exact ⟨0, Nat.zero_le _, rfl, by simpa [filledK] using M0.out, (Below.refl _ _).alloc (Nat.le_refl _) _⟩
  case round =>
    obtain ⟨k, hk, rfl, hm, hbel⟩ := hrel
    by_cases hlt : k < n
    · obtain ⟨b, off, rfl, hbB, h0, h1⟩ := (HB.out.below (hbel.mono hB)).at_ hlt
      have hset := filledK_set ks n k hlen hlt
      generalize ks[k]?.getD (0, 0) = x at h0 h1 hset
      have HS := Lib.hid hset
      clear hset
      have MR := Lib.hid hm
      have BR := Lib.hid hbel
      clear hm hbel
      go_wp2_with fail
      refine (toKid_any _ _ _).mono ?_
      rintro e w1 ⟨rfl, b1⟩
      have m1 := MR.out.below b1
      have hc0 := m1.cell0 hlt
      have hc1 := m1.cell1 hlt
      have hf0 := m1.free (k * 2)
      have hf1 := m1.free (k * 2 + 1)
      have hs := m1.put k x.1 x.2
      rw [show ((x.1, x.2) : Int × Int) = x by rfl, HS.out] at hs
      have S1 := Lib.hid hs
      have B1 := Lib.hid (BR.out.trans (b1.mono BR.out.size))
      clear hs b1 m1 h0 h1
      go_wp2
      go_roundw
      case rel => exact ⟨k + 1, by omega, by go_num, S1.out.1, B1.out.grown S1.out.2 B1.out.size (fun g h => by cases h; exact Nat.le_refl _)⟩
      case measure => simp [intOf]; omega
    · go_wp2
      go_ret
      obtain rfl : k = n := by omega
      rw [filledK_all ks k hlen] at hm
      exact ⟨_, k, k, rfl, hm, hbel⟩
theorem likeK_yes (A A' : Option Addr) (n c c' : Nat) (ks : List (Int × Int)) (B B' : Nat) (w : World) (hn : n ≤ 8796093022208) (hB : B ≤ w.heap.size) (hB' : B' ≤ w.heap.size) (hb : Kids w B A n ks) (hb' : Kids w B' A' n ks) :
    Calls Try.prog 65 #[.slice A n c, .slice A' n c'] w fun e w' => e = .returned (.bool true) ∧ Below w.heap.size w w' := by
  have HB := Lib.hid (hb.more hB)
  have HB' := Lib.hid (hb'.more hB')
  clear hb hb'
  go_enter Try.func65, Try.ntmps65
  go_wp2
  go_loopw [5] (fun i wr => ∃ k : Nat, k ≤ n ∧ i = .int .i64 k ∧ Below w.heap.size w wr) (fun i _ => n - (intOf i).toNat)
  case atStart => exact ⟨0, Nat.zero_le _, rfl, Below.refl _ _⟩
  case round =>
    obtain ⟨k, hk, rfl, hbel⟩ := hrel
    by_cases hlt : k < n
    · obtain ⟨b, off, rfl, hbB, h0, h1⟩ := (HB.out.below hbel).at_ hlt
      obtain ⟨b', off', rfl, hbB', h0', h1'⟩ := (HB'.out.below hbel).at_ hlt
      generalize ks[k]?.getD (0, 0) = x at h0 h1 h0' h1'
      have BR := Lib.hid hbel
      clear hbel
      go_wp2
      go_still_tail 8, (by kernel_rfl)
      change wpList _ _ _ _ _ wr.drew
      have BD := Lib.hid BR.out.drew
      generalize wr.drew = w2 at BD
      clear h0 h1 h0' h1'
      go_wp2_with fail
      refine (eqKid_yes _ _ _).mono ?_
      rintro e w3 ⟨rfl, b3⟩
      have B3 := Lib.hid (BD.out.trans (b3.mono BD.out.size))
      clear b3
      go_wp2
      go_roundw
      case rel => exact ⟨k + 1, by omega, by go_num, B3.out⟩
      case measure => simp [intOf]; omega
    · go_wp2
      go_ret
      exact ⟨rfl, hbel⟩

/-- the marks of kids from k0 on. -/
def marksK (k0 : Int) (n : Nat) : List (Int × Int) := (List.range n).map fun (i : Nat) => (k0 + 2 * (i : Int), k0 + 2 * (i : Int) + 1)
theorem marksK_len (k0 : Int) (n : Nat) : (marksK k0 n).length = n := by simp [marksK]
theorem marksK_at (k0 : Int) (n k : Nat) (h : k < n) : (marksK k0 n)[k]?.getD (0, 0) = (k0 + 2 * (k : Int), k0 + 2 * (k : Int) + 1) := by simp [marksK, h]
def markedK (k0 : Int) (n k : Nat) (ks : List (Int × Int)) : List (Int × Int) := (marksK k0 n).take k ++ ks.drop k
theorem markedK_set (k0 : Int) (n k : Nat) (ks : List (Int × Int)) (hx : ks.length = n) (hk : k < n) : (markedK k0 n k ks).set k (k0 + 2 * (k : Int), k0 + 2 * (k : Int) + 1) = markedK k0 n (k + 1) ks := by
  unfold markedK
  have hl : min k (marksK k0 n).length = k := by have := marksK_len k0 n; omega
  have e : (marksK k0 n).take (k + 1) = (marksK k0 n).take k ++ [(k0 + 2 * (k : Int), k0 + 2 * (k : Int) + 1)] := by
    rw [List.take_succ_eq_append_getElem (by rw [marksK_len]; omega)]
    simp [marksK]
  rw [e]
  have hd : ks.drop k = ks[k] :: ks.drop (k + 1) := List.drop_eq_getElem_cons (by omega)
  have hs : (ks.drop k).set 0 (k0 + 2 * (k : Int), k0 + 2 * (k : Int) + 1) = (k0 + 2 * (k : Int), k0 + 2 * (k : Int) + 1) :: ks.drop (k + 1) := by rw [hd]; rfl
  simp [hl, hs]

theorem markK_any (A : Option Addr) (n c base : Nat) (ks : List (Int × Int)) (k0 : Int) (w : World) (h0 : 0 ≤ k0) (h1 : k0 + 2 * n ≤ 4611686018427387904) (hm : OwnK w base A n c ks) :
    Calls Try.prog 67 #[.slice A n c, .int .i64 k0] w fun e w' => e = .returned (.int .i64 (k0 + 2 * n)) ∧ OwnK w' base A n c (marksK k0 n) ∧ w.grownBy w' (Value.slice A n c).ownBlock := by
  have hx := Lib.hid hm.len
  have HM := Lib.hid hm
  clear hm
  go_enter Try.func67, Try.ntmps67
  go_wp2
  go_loopw [1, 5] (fun q i wr => ∃ k : Nat, k ≤ n ∧ i = .int .i64 k ∧ q = .int .i64 (k0 + 2 * k) ∧ OwnK wr base A n c (markedK k0 n k ks) ∧ w.grownBy wr (Value.slice A n c).ownBlock) (fun _ i _ => n - (intOf i).toNat)
  case atStart => exact ⟨0, Nat.zero_le _, rfl, by simp, HM.out, World.grownBy.refl _ _⟩
  case round =>
    obtain ⟨k, hk, rfl, rfl, hmr, hgr⟩ := hrel
    by_cases hlt : k < n
    · obtain ⟨g, rfl, hbg, hlt'⟩ := hmr.form (by omega)
      have hc0 := hmr.cell0 hlt
      have hc1 := hmr.cell1 hlt
      have hf0 := hmr.free (k * 2)
      have hf1 := hmr.free (k * 2 + 1)
      have hs := hmr.put k (k0 + 2 * (k : Int)) (k0 + 2 * (k : Int) + 1)
      rw [markedK_set k0 n k ks hx.out hlt] at hs
      have HS := Lib.hid hs
      have HG := Lib.hid hgr
      clear hs hmr hgr
      go_wp2
      go_roundw
      case rel => exact ⟨k + 1, by omega, by go_num, by go_num, HS.out.1, HG.out.trans HS.out.2⟩
      case measure => simp [intOf]; omega
    · go_wp2
      go_ret
      have e : k = n := by omega
      subst e
      refine ⟨rfl, ?_, hgr⟩
      have hd : markedK k0 k k ks = marksK k0 k := by
        unfold markedK
        rw [List.take_of_length_le (by have := marksK_len k0 k; omega), List.drop_eq_nil_of_le (by have := hx.out; omega)]; simp
      rw [hd] at hmr
      exact hmr

end Go.Proofs.Ytepaikljiddiaaa

-- IntsX: What the helpers of the exact laws do at slices of int64: a copy is a new row of the same numbers; two that read alike are told alike; what marking and holding leave.
namespace Go.Proofs.Ytepaikljiddiaaa
set_option maxRecDepth 20000
open Go.RowKit

theorem copyI_any (A : Option Addr) (n c : Nat) (zs : List Int) (B : Nat) (w : World) (hn : n ≤ 17592186044416) (hB : B ≤ w.heap.size) (hb : Ints w B A n zs) :
    Calls Try.prog 58 #[.slice A n c] w (GaveI w zs) := by
  have hlen : zs.length = n := hb.1
  have HL := Lib.hid hlen
  have HB := Lib.hid hb
  clear hb hlen
  have HM := Lib.hid (make_ints zs n hn)
  go_enter Try.func58, Try.ntmps58
  have hmk := HM.out
  go_wp2
  clear hmk
  go_loopw [4] (fun i wr => ∃ k : Nat, k ≤ n ∧ i = .int .i64 k ∧ wr = w.alloc (.cells (filledI zs n k) 2)) (fun i _ => n - (intOf i).toNat)
  case atStart => exact ⟨0, Nat.zero_le _, rfl, rfl⟩
  case round =>
    obtain ⟨k, hk, rfl, rfl⟩ := hrel
    by_cases hlt : k < n
    · obtain ⟨b, off, rfl, hbB, hc⟩ := HB.out.at_ hlt
      have hbw : b < w.heap.size := by omega
      have hg : (filledI zs n k)[k]? = some (.int .i64 0) := filledI_at zs n k HL.out hlt
      have hst := Lib.hid (filledI_set zs n k HL.out hlt)
      go_wp2
      go_roundw
      case rel => exact ⟨k + 1, by omega, by go_num, by rw [hst.out]⟩
      case measure => simp [intOf]; omega
    · go_wp2
      go_ret
      exact ⟨_, n, n, rfl, by rw [show k = n by omega, filledI_all zs n HL.out]; exact OwnI.of_alloc w _ zs n (Nat.le_refl _) HL.out (by unfold maxLen; omega), (Below.refl _ _).alloc (Nat.le_refl _) _⟩

theorem likeI_yes (A A' : Option Addr) (n c c' : Nat) (zs : List Int) (B B' : Nat) (w : World) (hn : n ≤ 9223372036854775807) (hb : Ints w B A n zs) (hb' : Ints w B' A' n zs) :
    Calls Try.prog 64 #[.slice A n c, .slice A' n c'] w fun e w' => e = .returned (.bool true) ∧ ∃ m, w' = w.drewN m := by
  have HB := Lib.hid hb
  have HB' := Lib.hid hb'
  clear hb hb'
  go_enter Try.func64, Try.ntmps64
  go_wp2
  go_loopw [5] (fun i wr => ∃ k m : Nat, k ≤ n ∧ i = .int .i64 k ∧ wr = w.drewN m) (fun i _ => n - (intOf i).toNat)
  case atStart => exact ⟨0, 0, Nat.zero_le _, rfl, rfl⟩
  case round =>
    obtain ⟨k, m, hk, rfl, rfl⟩ := hrel
    by_cases hlt : k < n
    · obtain ⟨b, off, rfl, hbB, hc⟩ := HB.out.at_ hlt
      obtain ⟨b', off', rfl, hbB', hc'⟩ := HB'.out.at_ hlt
      go_wp2
      go_quiet (fail)
      go_wp2
      go_roundw
      case rel => exact ⟨k + 1, _, by omega, by go_num, rfl⟩
      case measure => simp [intOf]; omega
    · go_wp2
      go_ret
      exact ⟨rfl, m, rfl⟩

/-- the marks from k0 on. -/
def marksI (k0 : Int) (n : Nat) : List Int := (List.range n).map fun (i : Nat) => k0 + (i : Int)
theorem marksI_len (k0 : Int) (n : Nat) : (marksI k0 n).length = n := by simp [marksI]
theorem marksI_at (k0 : Int) (n k : Nat) (h : k < n) : (marksI k0 n)[k]?.getD 0 = k0 + (k : Int) := by simp [marksI, h]
def markedI (k0 : Int) (n k : Nat) (xs : List Int) : List Int := (marksI k0 n).take k ++ xs.drop k
theorem markedI_set (k0 : Int) (n k : Nat) (xs : List Int) (hx : xs.length = n) (hk : k < n) : (markedI k0 n k xs).set k (k0 + (k : Int)) = markedI k0 n (k + 1) xs := by
  unfold markedI
  have hl : min k (marksI k0 n).length = k := by have := marksI_len k0 n; omega
  rw [take_step (marksI k0 n) k (by have := marksI_len k0 n; omega), marksI_at k0 n k hk]
  have hd : xs.drop k = xs[k] :: xs.drop (k + 1) := List.drop_eq_getElem_cons (by omega)
  have hs : (xs.drop k).set 0 (k0 + (k : Int)) = (k0 + (k : Int)) :: xs.drop (k + 1) := by rw [hd]; rfl
  simp [hl, hs]

theorem markI_any (A : Option Addr) (n c base : Nat) (xs : List Int) (k0 : Int) (w : World) (h0 : 0 ≤ k0) (h1 : k0 + n ≤ 4611686018427387904) (hm : OwnI w base A n c xs) :
    Calls Try.prog 66 #[.slice A n c, .int .i64 k0] w fun e w' => e = .returned (.int .i64 (k0 + n)) ∧ OwnI w' base A n c (marksI k0 n) ∧ w.grownBy w' (Value.slice A n c).ownBlock := by
  have hx := Lib.hid hm.len
  have HM := Lib.hid hm
  clear hm
  go_enter Try.func66, Try.ntmps66
  go_wp2
  go_loopw [1, 5] (fun q i wr => ∃ k : Nat, k ≤ n ∧ i = .int .i64 k ∧ q = .int .i64 (k0 + k) ∧ OwnI wr base A n c (markedI k0 n k xs) ∧ w.grownBy wr (Value.slice A n c).ownBlock) (fun _ i _ => n - (intOf i).toNat)
  case atStart => exact ⟨0, Nat.zero_le _, rfl, by simp, HM.out, World.grownBy.refl _ _⟩
  case round =>
    obtain ⟨k, hk, rfl, rfl, hmr, hgr⟩ := hrel
    by_cases hlt : k < n
    · obtain ⟨g, rfl, hbg, hlt'⟩ := hmr.form (by omega)
      have hc := hmr.cell hlt
      have hf := hmr.free k
      have hs := hmr.set_ k (k0 + (k : Int))
      rw [markedI_set k0 n k xs hx.out hlt] at hs
      have HS := Lib.hid hs
      have HG := Lib.hid hgr
      clear hs hmr hgr
      go_wp2
      go_roundw
      case rel => exact ⟨k + 1, by omega, by go_num, by go_num, HS.out.1, HG.out.trans HS.out.2⟩
      case measure => simp [intOf]; omega
    · go_wp2
      go_ret
      have e : k = n := by omega
      subst e
      refine ⟨rfl, ?_, hgr⟩
      have hd : markedI k0 k k xs = marksI k0 k := by
        unfold markedI
        rw [List.take_of_length_le (by have := marksI_len k0 k; omega), List.drop_eq_nil_of_le (by have := hx.out; omega)]; simp
      rw [hd] at hmr
      exact hmr

end Go.Proofs.Ytepaikljiddiaaa

-- NodeX: What the helpers of the exact laws do at nodes.
namespace Go.Proofs.Ytepaikljiddiaaa
set_option maxRecDepth 20000
open Go.RowKit

theorem szInt64S_any (A : Option Addr) (n c left : Nat) (w : World) (hn : n ≤ maxLen) (hl : left ≤ 1048576) :
    Calls Try.prog 50 #[.slice A n c, .int .i64 left] w fun e w' => e = .returned (.int .i64 (if n ≤ left then ((left - n : Nat) : Int) else -1)) ∧ w = w' := by
  unfold maxLen at hn
  by_cases h : n ≤ left
  · rw [if_pos h]
    go_enter Try.func50, Try.ntmps50
    go_wp2
    go_ret
    exact ⟨ret_i64 (by omega), rfl⟩
  · rw [if_neg h]
    go_enter Try.func50, Try.ntmps50
    go_wp2
    go_ret
    exact ⟨rfl, rfl⟩
theorem szKidS_any (A : Option Addr) (n c left : Nat) (w : World) (hn : n ≤ maxLen) (hl : left ≤ 1048576) :
    Calls Try.prog 51 #[.slice A n c, .int .i64 left] w fun e w' => e = .returned (.int .i64 (if n ≤ left then ((left - n : Nat) : Int) else -1)) ∧ w = w' := by
  unfold maxLen at hn
  by_cases h : n ≤ left
  · rw [if_pos h]
    go_enter Try.func51, Try.ntmps51
    go_wp2
    go_ret
    exact ⟨ret_i64 (by omega), rfl⟩
  · rw [if_neg h]
    go_enter Try.func51, Try.ntmps51
    go_wp2
    go_ret
    exact ⟨rfl, rfl⟩
/-- what is left behind a node's size. -/
def leftOf (left m : Nat) : Int := if m ≤ left then ((left - m : Nat) : Int) else -1
theorem szNode_any (kind : Int) (Ap : Option Addr) (np cp : Nat) (Ak : Option Addr) (nk ck : Nat) (val : ByteArray) (left : Nat) (w : World) (h1 : np ≤ maxLen) (h2 : nk ≤ maxLen) (h3 : val.size ≤ maxLen) (hl : left ≤ 1048576) :
    Calls Try.prog 18 #[.agg #[.int .i64 kind, .slice Ap np cp, .slice Ak nk ck, .string val], .int .i64 left] w fun e w' => e = .returned (.int .i64 (leftOf left (np + nk + val.size))) ∧ Below w.heap.size w w' := by
  have b1 := (Below.refl w.heap.size w).alloc (Nat.le_refl _) (.cells #[.int .i64 kind, .slice Ap np cp, .slice Ak nk ck, .string val] 37)
  have B1 := Lib.hid b1
  clear b1
  have hv : val.size ≤ 9223372036854775807 := by unfold maxLen at h3; omega
  go_enter Try.func18, Try.ntmps18
  go_wp2_with fail
  refine (szInt64S_any _ _ _ _ _ h1 hl).mono ?_
  rintro e w' ⟨rfl, rfl⟩
  by_cases c1 : np ≤ left
  · rw [if_pos c1]
    go_wp2_with fail
    refine (szKidS_any _ _ _ (left - np) _ h2 (by omega)).mono ?_
    rintro e w' ⟨rfl, rfl⟩
    by_cases c2 : nk ≤ left - np
    · rw [if_pos c2]
      by_cases c3 : val.size ≤ left - np - nk
      · go_wp2
        go_ret
        exact ⟨ret_i64 (by unfold leftOf; rw [if_pos (by omega)]; omega), B1.out⟩
      · go_wp2
        go_ret
        exact ⟨ret_i64 (by unfold leftOf; rw [if_neg (by omega)]), B1.out⟩
    · rw [if_neg c2]
      go_wp2
      go_ret
      exact ⟨ret_i64 (by unfold leftOf; rw [if_neg (by omega)]), B1.out⟩
  · rw [if_neg c1]
    go_wp2
    go_ret
    exact ⟨ret_i64 (by unfold leftOf; rw [if_neg (by omega)]), B1.out⟩

/-- the value v is a node of the call's own: its lists lie in blocks of their own, from base on. -/
def OwnN (w : World) (base : Nat) (v : Value) (nd : MNode) : Prop :=
  ∃ Ap np cp Ak nk ck, v = .agg #[.int .i64 nd.kind, .slice Ap np cp, .slice Ak nk ck, .string nd.val] ∧ np ≤ 1048576 ∧ nk ≤ 1048576 ∧ nd.val.size ≤ 1048576 ∧ OwnI w base Ap np cp nd.path ∧ OwnK w base Ak nk ck nd.kids ∧
    ∀ g, (Value.slice Ap np cp).ownBlock = some g → (Value.slice Ak nk ck).ownBlock ≠ some g
theorem OwnN.node {w : World} {base : Nat} {v : Value} {nd : MNode} (h : OwnN w base v nd) : NodeIn w w.heap.size v nd := by
  obtain ⟨Ap, np, cp, Ak, nk, ck, rfl, h1, h2, h3, h4, h5, _⟩ := h
  exact ⟨Ap, np, cp, Ak, nk, ck, rfl, h1, h2, h3, h4.ints, h5.kids⟩
theorem OwnN.below {w w' : World} {base : Nat} {v : Value} {nd : MNode} (h : OwnN w base v nd) (hb : Below w.heap.size w w') : OwnN w' base v nd := by
  obtain ⟨Ap, np, cp, Ak, nk, ck, rfl, h1, h2, h3, h4, h5, h6⟩ := h
  exact ⟨Ap, np, cp, Ak, nk, ck, rfl, h1, h2, h3, h4.below hb, h5.below hb, h6⟩
theorem toNode_any (v : Value) (nd : MNode) (B : Nat) (w : World) (hB : B ≤ w.heap.size) (hv : NodeIn w B v nd) :
    Calls Try.prog 21 #[v] w fun e w' => ∃ v', e = .returned v' ∧ OwnN w' w.heap.size v' nd ∧ Below w.heap.size w w' := by
  obtain ⟨Ap, np, cp, Ak, nk, ck, rfl, hnp, hnk, hsz, hp, hk⟩ := hv
  obtain ⟨kind, path, kids, val⟩ := nd
  have HP := Lib.hid (hp.more hB)
  have HK := Lib.hid (hk.more hB)
  clear hp hk
  obtain ⟨w3, hw3⟩ : ∃ w3, (((w.alloc (.cells #[.int .i64 kind, .slice Ap np cp, .slice Ak nk ck, .string val] 37)).alloc (.cells #[.int .i64 0, .slice none 0 0, .slice none 0 0, .string { data := #[] }] 46)).alloc
    (.cells #[.int .i64 kind, .slice none 0 0, .slice none 0 0, .string { data := #[] }] 46)) = w3 := ⟨_, rfl⟩
  have x0 : Box w3 w.heap.size _ _ := hw3 ▸ heap3_0 _ _ _ _
  have x1 : Box w3 (w.heap.size + 1) _ _ := hw3 ▸ heap3_1 _ _ _ _
  have x2 : Box w3 (w.heap.size + 1 + 1) _ _ := hw3 ▸ heap3_2 _ _ _ _
  have s3 : w3.heap.size = w.heap.size + 3 := hw3 ▸ size3 _ _ _ _
  have b3 : Below w.heap.size w w3 := hw3 ▸ below3 _ _ _ _
  have X0 := Lib.hid x0
  have X1 := Lib.hid x1
  have X2 := Lib.hid x2
  have B3 := Lib.hid b3
  have HW := Lib.hid hw3
  clear x0 x1 x2 b3 hw3
  go_enter Try.func21, Try.ntmps21
  go_wp2_with fail
  rw [HW.out]
  refine (copyI_any _ _ _ path _ w3 (by omega) B3.out.size (HP.out.below B3.out)).mono ?_
  rintro e w4 ⟨A4, n4, c4, rfl, m4, b4⟩
  have e4 : n4 = np := m4.len.symm.trans HP.out.1
  obtain rfl := e4
  have s4 := b4.size
  have M4 := Lib.hid m4
  have X0 := Lib.hid (X0.out.below b4 (by omega))
  have X1 := Lib.hid (X1.out.below b4 (by omega))
  have X2 := Lib.hid (X2.out.below b4 (by omega))
  have B4 := Lib.hid (B3.out.trans (b4.mono (by omega)))
  clear m4 b4
  have q02 := X0.out.cell 2
  have q21 := X2.out.cell 1
  have f21 := X2.out.free 1
  simp at q02 q21
  go_wp2_with fail
  have gs := grown_set w4 (w.heap.size + 1 + 1) 1 (.slice A4 n4 c4)
  have M5 := Lib.hid (M4.out.grown gs (fun r h => by cases h; omega))
  have X0 := Lib.hid (X0.out.other (g' := w.heap.size + 1 + 1) (by omega) 1 (.slice A4 n4 c4))
  have X1 := Lib.hid (X1.out.other (g' := w.heap.size + 1 + 1) (by omega) 1 (.slice A4 n4 c4))
  have X2 := Lib.hid (X2.out.set_ 1 (.slice A4 n4 c4))
  have B5 := Lib.hid (B4.out.trans (grown_below gs B4.out.size (by omega)))
  clear gs q02 q21 f21
  generalize w4.setCell ⟨w.heap.size + 1 + 1, 1, none⟩ (.slice A4 n4 c4) = w5 at M5 X0 X1 X2 B5
  have s5 := B5.out.size
  refine (copyK_any _ _ _ kids _ w5 (by omega) s5 (HK.out.below B5.out)).mono ?_
  rintro e w6 ⟨A6, n6, c6, rfl, m6, b6⟩
  have e6 : n6 = nk := m6.len.symm.trans HK.out.1
  obtain rfl := e6
  have l1 := X1.out.lt
  have l2 := X2.out.lt
  have hA : ∀ g, (Value.slice A4 n4 c4).ownBlock = some g → g < w5.heap.size := fun g hg => (World.ownsRow.lt M5.out g hg).2
  have hA := Lib.hid hA
  have M6 := Lib.hid m6
  have M5 := Lib.hid (M5.out.below b6)
  have X0 := Lib.hid (X0.out.below b6 (by omega))
  have X1 := Lib.hid (X1.out.below b6 (by omega))
  have X2 := Lib.hid (X2.out.below b6 (by omega))
  have B6 := Lib.hid (B5.out.trans (b6.mono s5))
  clear m6 b6
  have q03 := X0.out.cell 3
  have q10 := X1.out.cell 0
  have q11 := X1.out.cell 1
  have q12 := X1.out.cell 2
  have q13 := X1.out.cell 3
  have q20 := X2.out.cell 0
  have q21 := X2.out.cell 1
  have q22 := X2.out.cell 2
  have q23 := X2.out.cell 3
  have f1 := X1.out.free
  have f2 := X2.out.free
  simp at q03 q10 q11 q12 q13 q20 q21 q22 q23
  go_wp2
  have hX := (((((X1.out.other (g' := w.heap.size + 1 + 1) (by omega) 2 (.slice A6 n6 c6)).other (g' := w.heap.size + 1 + 1) (by omega) 3 (.string val)).set_ 0 (.int .i64 kind)).set_ 1 (.slice A4 n4 c4)).set_ 2 (.slice A6 n6 c6)).set_ 3 (.string val)
  have hS : Touch (fun k => w.heap.size ≤ k ∧ k < w.heap.size + 3) w6 _ :=
    (((((touch_set w6 (w.heap.size + 1 + 1) 2 (.slice A6 n6 c6) ⟨by omega, by omega⟩).trans (touch_set _ (w.heap.size + 1 + 1) 3 (.string val) ⟨by omega, by omega⟩)).trans (touch_set _ (w.heap.size + 1) 0 (.int .i64 kind) ⟨by omega, by omega⟩)).trans
      (touch_set _ (w.heap.size + 1) 1 (.slice A4 n4 c4) ⟨by omega, by omega⟩)).trans (touch_set _ (w.heap.size + 1) 2 (.slice A6 n6 c6) ⟨by omega, by omega⟩)).trans (touch_set _ (w.heap.size + 1) 3 (.string val) ⟨by omega, by omega⟩)
  refine bodyPost_ret (v := .agg #[.int .i64 kind, .slice A4 n4 c4, .slice A6 n6 c6, .string val]) (results_cell_row Try.results21 _ _ (w.heap.size + 1) _ _ _ _ rfl hX Try.underlying46 rfl (by kernel_rfl)) rfl ?_
  have hle := B6.out.size
  exact ⟨_, rfl, ⟨A4, n4, c4, A6, n6, c6, rfl, hnp, hnk, hsz,
    (M5.out.touch hS (fun g hg h => by have := (World.ownsRow.lt M5.out g hg).1; omega)).base (by omega),
    (M6.out.touch hS (fun g hg h => by have := (World.ownsRow.lt M6.out g hg).1; omega)).base s5,
    fun g hg h => by have := hA.out g hg; have := (World.ownsRow.lt M6.out g h).1; omega⟩,
    B6.out.trans (hS.below hle (fun k hk h => by omega))⟩

theorem eqNode_yes (v v' : Value) (nd : MNode) (B B' : Nat) (w : World) (hB : B ≤ w.heap.size) (hB' : B' ≤ w.heap.size) (hv : NodeIn w B v nd) (hv' : NodeIn w B' v' nd) :
    Calls Try.prog 24 #[v, v'] w fun e w' => e = .returned (.bool true) ∧ Below w.heap.size w w' := by
  obtain ⟨Ap, np, cp, Ak, nk, ck, rfl, hnp, hnk, hsz, hp, hk⟩ := hv
  obtain ⟨Ap', np', cp', Ak', nk', ck', rfl, hnp', hnk', hsz', hp', hk'⟩ := hv'
  obtain ⟨kind, path, kids, val⟩ := nd
  have e1 : np' = np := hp'.1.symm.trans hp.1
  have e2 : nk' = nk := hk'.1.symm.trans hk.1
  obtain rfl := e1
  obtain rfl := e2
  have HP := Lib.hid (hp.more hB)
  have HK := Lib.hid (hk.more hB)
  have HP' := Lib.hid (hp'.more hB')
  have HK' := Lib.hid (hk'.more hB')
  clear hp hk hp' hk'
  obtain ⟨w3, hw3⟩ : ∃ w3, ((w.alloc (.cells #[.int .i64 kind, .slice Ap np' cp, .slice Ak nk' ck, .string val] 46)).alloc (.cells #[.int .i64 kind, .slice Ap' np' cp', .slice Ak' nk' ck', .string val] 46)) = w3 := ⟨_, rfl⟩
  have x0 : Box w3 w.heap.size _ _ := hw3 ▸ heap2_0 _ _ _
  have x1 : Box w3 (w.heap.size + 1) _ _ := hw3 ▸ heap2_1 _ _ _
  have s3 : w3.heap.size = w.heap.size + 2 := hw3 ▸ size2 _ _ _
  have b3 : Below w.heap.size w w3 := hw3 ▸ below2 _ _ _
  have X0 := Lib.hid x0
  have X1 := Lib.hid x1
  have B3 := Lib.hid b3
  have HW := Lib.hid hw3
  clear x0 x1 b3 hw3
  go_enter Try.func24, Try.ntmps24
  go_wp2_with fail
  rw [HW.out]
  refine (likeI_yes _ _ _ _ _ path _ _ w3 (by omega) (HP.out.below B3.out) (HP'.out.below B3.out)).mono ?_
  rintro e w4 ⟨rfl, m, hm⟩
  have b4 : Below w3.heap.size w3 w4 := by rw [hm]; exact below_drewN (Below.refl _ _) m
  clear hm
  have X0 := Lib.hid (X0.out.below b4 (by omega))
  have X1 := Lib.hid (X1.out.below b4 (by omega))
  have s4 := b4.size
  have B4 := Lib.hid (B3.out.trans (b4.mono (by omega)))
  clear b4
  have q02 := X0.out.cell 2
  have q12 := X1.out.cell 2
  simp at q02 q12
  go_wp2_with fail
  refine (likeK_yes _ _ _ _ _ kids _ _ w4 (by omega) B4.out.size B4.out.size (HK.out.below B4.out) (HK'.out.below B4.out)).mono ?_
  rintro e w5 ⟨rfl, b5⟩
  have X0 := Lib.hid (X0.out.below b5 (by omega))
  have X1 := Lib.hid (X1.out.below b5 (by omega))
  have B5 := Lib.hid (B4.out.trans (b5.mono (by omega)))
  clear b5 q02 q12
  have q03 := X0.out.cell 3
  have q13 := X1.out.cell 3
  simp at q03 q13
  go_wp2
  go_ret
  exact ⟨rfl, B5.out⟩

/-- block g holds one of the lists of the node v. -/
def NodeBlk (v : Value) (g : Nat) : Prop := ∃ k Ap np cp Ak nk ck s, v = .agg #[k, .slice Ap np cp, .slice Ak nk ck, s] ∧ ((Value.slice Ap np cp).ownBlock = some g ∨ (Value.slice Ak nk ck).ownBlock = some g)
theorem OwnN.blk {w : World} {base : Nat} {v : Value} {nd : MNode} (h : OwnN w base v nd) {g : Nat} (hg : NodeBlk v g) : base ≤ g ∧ g < w.heap.size := by
  obtain ⟨Ap, np, cp, Ak, nk, ck, rfl, _, _, _, h4, h5, _⟩ := h
  obtain ⟨k, Ap', np', cp', Ak', nk', ck', s, e, hg⟩ := hg
  cases e
  rcases hg with hg | hg
  · exact World.ownsRow.lt h4 g hg
  · exact World.ownsRow.lt h5 g hg
theorem OwnN.touch {S : Nat → Prop} {w w' : World} {base : Nat} {v : Value} {nd : MNode} (h : OwnN w base v nd) (t : Touch S w w') (hn : ∀ g, NodeBlk v g → ¬ S g) : OwnN w' base v nd := by
  obtain ⟨Ap, np, cp, Ak, nk, ck, rfl, h1, h2, h3, h4, h5, h6⟩ := h
  exact ⟨Ap, np, cp, Ak, nk, ck, rfl, h1, h2, h3, h4.touch t (fun g hg => hn g ⟨_, _, _, _, _, _, _, _, rfl, .inl hg⟩), h5.touch t (fun g hg => hn g ⟨_, _, _, _, _, _, _, _, rfl, .inr hg⟩), h6⟩
theorem OwnN.base {w : World} {base base' : Nat} {v : Value} {nd : MNode} (h : OwnN w base v nd) (hb : base' ≤ base) : OwnN w base' v nd := by
  obtain ⟨Ap, np, cp, Ak, nk, ck, rfl, h1, h2, h3, h4, h5, h6⟩ := h
  exact ⟨Ap, np, cp, Ak, nk, ck, rfl, h1, h2, h3, h4.base hb, h5.base hb, h6⟩
theorem markNode_any (v : Value) (nd : MNode) (base : Nat) (k0 : Int) (w : World) (h0 : 0 ≤ k0) (h1 : k0 ≤ 1000000000) (hv : OwnN w base v nd) :
    Calls Try.prog 26 #[v, .int .i64 k0] w fun e w' => ∃ k1, k0 ≤ k1 ∧ k1 ≤ k0 + 4000000 ∧ e = .returned (.int .i64 k1) ∧
      OwnN w' base v ⟨nd.kind, marksI k0 nd.path.length, marksK (k0 + nd.path.length) nd.kids.length, nd.val⟩ ∧ k1 = k0 + nd.path.length + 2 * nd.kids.length ∧
      Touch (NodeBlk v) w w' := by
  obtain ⟨Ap, np, cp, Ak, nk, ck, rfl, hnp, hnk, hsz, hp, hk, hne⟩ := hv
  obtain ⟨kind, path, kids, val⟩ := nd
  have lp : path.length = np := hp.len
  have lk : kids.length = nk := hk.len
  have HP := Lib.hid hp
  have HK := Lib.hid hk
  have HN := Lib.hid hne
  have LP := Lib.hid lp
  have LK := Lib.hid lk
  clear hp hk hne lp lk
  obtain ⟨w3, hw3⟩ : ∃ w3, w.alloc (.cells #[.int .i64 kind, .slice Ap np cp, .slice Ak nk ck, .string val] 46) = w3 := ⟨_, rfl⟩
  have x0 : Box w3 w.heap.size _ _ := hw3 ▸ heap_alloc_new _ _
  have s3 : w3.heap.size = w.heap.size + 1 := hw3 ▸ by simp
  have b3 : Below w.heap.size w w3 := hw3 ▸ (Below.refl _ _).alloc (Nat.le_refl _) _
  have X0 := Lib.hid x0
  have B3 := Lib.hid b3
  have HW := Lib.hid hw3
  clear x0 b3 hw3
  go_enter Try.func26, Try.ntmps26
  go_wp2_with fail
  rw [HW.out]
  refine (markI_any Ap np cp base path k0 w3 h0 (by omega) (HP.out.below B3.out)).mono ?_
  rintro e w4 ⟨rfl, m4, g4⟩
  have t4 := Touch.of_grown g4
  have X0 := Lib.hid (show Box w4 _ _ _ from (g4.block w.heap.size (by omega) (fun e => by have := (World.ownsRow.lt HP.out w.heap.size e.symm).2; omega)).trans X0.out)
  have K4 := Lib.hid ((HK.out.below B3.out).touch t4 (fun g hg h => HN.out g h.symm hg))
  have M4 := Lib.hid m4
  have T4 := Lib.hid ((Touch.of_below (S := NodeBlk (.agg #[.int .i64 kind, .slice Ap np cp, .slice Ak nk ck, .string val])) B3.out).trans (t4.mono (fun g h => ⟨_, _, _, _, _, _, _, _, rfl, .inl h.symm⟩)))
  have q2 := X0.out.cell 2
  simp at q2
  clear m4 g4 t4
  go_wp2_with fail
  refine (markK_any Ak nk ck base kids (k0 + np) w4 (by omega) (by omega) K4.out).mono ?_
  rintro e w5 ⟨rfl, m5, g5⟩
  have t5 := Touch.of_grown g5
  have M5 := Lib.hid (M4.out.touch t5 (fun g hg h => HN.out g hg h.symm))
  have K5 := Lib.hid m5
  have T5 := Lib.hid (T4.out.trans (t5.mono (fun g h => ⟨_, _, _, _, _, _, _, _, rfl, .inr h.symm⟩)))
  clear m5 g5 t5
  go_wp2
  go_ret
  refine ⟨k0 + np + 2 * nk, by omega, by omega, rfl, ⟨Ap, np, cp, Ak, nk, ck, rfl, hnp, hnk, hsz, ?_, ?_, HN.out⟩, ?_, T5.out⟩
  · show OwnI w5 base Ap np cp (marksI k0 path.length); rw [LP.out]; exact M5.out
  · show OwnK w5 base Ak nk ck (marksK (k0 + path.length) kids.length); rw [LP.out, LK.out]; exact K5.out
  · show k0 + np + 2 * nk = k0 + path.length + 2 * kids.length; rw [LP.out, LK.out]

end Go.Proofs.Ytepaikljiddiaaa

-- NameB: The eight bytes of a name, as the program and as the model write them: a row of the call's own.
namespace Go.Proofs.Ytepaikljiddiaaa
set_option maxRecDepth 20000
open Go.RowKit

/-- the first k of the bytes of x, the lowest one first. -/
def nb (x : Int) (k : Nat) : List Int := (List.range k).map fun (i : Nat) => x / 2 ^ (8 * i) % 256
def nameBytes (x : Int) : List Int := if x < 0 then [] else nb x 8
theorem nb_len (x : Int) (k : Nat) : (nb x k).length = k := by simp [nb]
theorem nb_at (x : Int) (n k : Nat) (h : k < n) : (nb x n)[k]?.getD 0 = x / 2 ^ (8 * k) % 256 := by simp [nb, h]
theorem nb_bd (x : Int) (k : Nat) : ∀ z ∈ nb x k, 0 ≤ z ∧ z ≤ 255 := by
  intro z hz
  simp only [nb, List.mem_map] at hz
  obtain ⟨i, _, rfl⟩ := hz
  omega
theorem nb_step (x : Int) (k : Nat) : nb x (k + 1) = nb x k ++ [x / 2 ^ (8 * k) % 256] := by simp [nb, List.range_succ]
theorem nameBytes_no (x : Int) (h : x < 0) : nameBytes x = [] := if_pos h
theorem nameBytes_yes (x : Int) (h : ¬ x < 0) : nameBytes x = nb x 8 := if_neg h

theorem bytes_any (x : Int) (w : World) :
    Calls Try.prog 45 #[.int .i64 x] w fun e w' => ∃ A n c, e = .returned (.slice A n c) ∧ Mine w' w.heap.size A n c (nameBytes x) ∧ Below w.heap.size w w' := by
  by_cases hx : x < 0
  · have hr := Lib.hid (nameBytes_no x hx)
    go_enter Try.func45, Try.ntmps45
    go_wp2
    go_ret
    exact ⟨none, 0, 0, rfl, by rw [hr.out]; exact Mine.nil _ _, Below.refl _ _⟩
  · have hr := Lib.hid (nameBytes_yes x hx)
    have hmk : ∀ W : World, (Instr.makeSlice 22 (.int .i64 8) (.int .i64 8)).run Try.prog W = .ok (.slice (some ⟨W.heap.size, 0, none⟩) 8 8) (W.alloc (.cells (filled (nb x 8) 8 0) 5)) :=
      fun W => make_bytes (nb x 8) 8 (by omega) W
    go_enter Try.func45, Try.ntmps45
    go_wp2
    clear hmk
    go_loopw [10] (fun i wr => ∃ k : Nat, k ≤ 8 ∧ i = .int .i64 k ∧ wr = w.alloc (.cells (filled (nb x 8) 8 k) 5)) (fun i _ => 8 - (intOf i).toNat)
    case atStart => exact ⟨0, Nat.zero_le _, rfl, rfl⟩
    case round =>
      obtain ⟨k, hk, rfl, rfl⟩ := hrel
      by_cases hlt : k < 8
      · have hg : (filled (nb x 8) 8 k)[k]? = some (.int .u8 0) := filled_at _ 8 k (nb_len x 8) hlt
        have hst := filled_set (nb x 8) 8 k (nb_len x 8) hlt
        rw [nb_at x 8 k hlt] at hst
        have HS := Lib.hid hst
        clear hst
        go_wp2
        go_roundw
        case rel => exact ⟨k + 1, by omega, by go_num, by rw [HS.out]⟩
        case measure => simp [intOf]; omega
      · go_wp2
        go_ret
        exact ⟨some ⟨w.heap.size, 0, none⟩, 8, 8, rfl, by rw [hr.out, show k = 8 by omega, filled_all _ 8 (nb_len x 8)]; exact Mine.of_alloc w _ _ 8 (Nat.le_refl _) (nb_len x 8) (by unfold maxLen; omega) (nb_bd x 8), (Below.refl _ _).alloc (Nat.le_refl _) _⟩
theorem specBytes_no (x : Int) (w : World) (hx : x < 0) :
    Calls Try.prog 48 #[.int .i64 x] w fun e w' => ∃ g n c, e = .returned (.slice (some ⟨g, 0, none⟩) n c) ∧ Mine w' w.heap.size (some ⟨g, 0, none⟩) n c (nameBytes x) ∧ Below w.heap.size w w' := by
  have hr := Lib.hid (nameBytes_no x hx)
  have hx' : decide (0 ≤ x) = false := by simp; omega
  go_enter Try.func48, Try.ntmps48
  go_wp2
  refine wp_loop_rounds 1 ?_
  rw [rounds_succ]
  go_wp2
  go_ret
  exact ⟨w.heap.size, 0, 0, rfl, by rw [hr.out]; exact Mine.empty w, (Below.refl _ _).alloc (Nat.le_refl _) _⟩
theorem specBytes_yes (x : Int) (w : World) (hx : ¬ x < 0) :
    Calls Try.prog 48 #[.int .i64 x] w fun e w' => ∃ g n c, e = .returned (.slice (some ⟨g, 0, none⟩) n c) ∧ Mine w' w.heap.size (some ⟨g, 0, none⟩) n c (nameBytes x) ∧ Below w.heap.size w w' := by
  obtain ⟨i0, hi, hz0, hz1, hz2⟩ := info_parts Try.info5
  have HI := Lib.hid hi
  have HZ0 := Lib.hid hz0
  have HZ1 := Lib.hid hz1
  have HZ2 := Lib.hid hz2
  clear hi hz0 hz1 hz2
  have hr := Lib.hid (nameBytes_yes x hx)
  go_enter Try.func48, Try.ntmps48
  go_wp2
  go_loopw [3, 4] (fun v i wr => ∃ k : Nat, k ≤ 8 ∧ i = .int .i64 k ∧ wr.ownsRow w.heap.size 5 1 v k ((nb x k).map (Value.int .u8)) ∧ Below w.heap.size w wr) (fun _ i _ => 8 - (intOf i).toNat)
  case atStart => exact ⟨0, Nat.zero_le _, rfl, (Mine.empty w).1, (Below.refl _ _).alloc (Nat.le_refl _) _⟩
  case round =>
    obtain ⟨k, hk, rfl, hown, hbel⟩ := hrel
    by_cases hlt : k < 8
    · have hp : (0 : Int) ≤ x / 2 ^ (8 * k) := Int.ediv_nonneg (by omega) (Int.pow_nonneg (by decide))
      have hs := hbel.size
      go_wp2_with (at_builtin; refine wpList_append_own _ rfl _ _ 22 rfl w.heap.size 5 i0 (.int .u8 0) 1 1 Try.underlying22 HI.out HZ0.out HZ1.out HZ2.out rfl (by decide) _ _ _ rfl (hown.alloc _) ⟨wr.heap.size, 0, none⟩ 1 1 [.int .u8 (x / 2 ^ (8 * k) % 256)] rfl rfl ?c1 ?c2 ?c3 ?c4 ?c5 ?_)
      case c1 =>
        intro j u hj
        match j, hj with
        | 0, hj => simp at hj; subst hj; simp [Addr.add]
      case c2 => intro u hu; simp at hu; subst hu; rfl
      case c3 => unfold maxLen; omega
      case c4 => omega
      case c5 => simp; omega
      intro v' w1 hown' hgrow _
      have hb1 : Below w.heap.size w w1 := (hbel.alloc hs _).grown hgrow (by simp; omega) (fun g hg => (hown.lt g hg).1)
      rw [show (nb x k).map (Value.int .u8) ++ [Value.int .u8 (x / 2 ^ (8 * k) % 256)] = (nb x (k + 1)).map (Value.int .u8) by rw [nb_step]; simp] at hown'
      clear hgrow hown hbel
      go_wp2
      go_roundw
      case rel => exact ⟨k + 1, by omega, by go_num, hown', hb1⟩
      case measure => simp [intOf]; omega
    · obtain rfl : k = 8 := by omega
      have hm : ∃ g c, u3 = .slice (some ⟨g, 0, none⟩) 8 c := by
        obtain ⟨g, c, h, _⟩ := hown.form (by omega)
        exact ⟨g, c, h⟩
      obtain ⟨g, c, rfl⟩ := hm
      go_wp2
      go_ret
      exact ⟨g, 8, c, rfl, by rw [hr.out]; exact ⟨hown, nb_bd x 8⟩, hbel⟩
theorem specBytes_some (x : Int) (w : World) :
    Calls Try.prog 48 #[.int .i64 x] w fun e w' => ∃ g n c, e = .returned (.slice (some ⟨g, 0, none⟩) n c) ∧ Mine w' w.heap.size (some ⟨g, 0, none⟩) n c (nameBytes x) ∧ Below w.heap.size w w' := by
  by_cases hx : x < 0
  · exact specBytes_no x w hx
  · exact specBytes_yes x w hx
theorem specBytes_any (x : Int) (w : World) :
    Calls Try.prog 48 #[.int .i64 x] w fun e w' => ∃ A n c, e = .returned (.slice A n c) ∧ Mine w' w.heap.size A n c (nameBytes x) ∧ Below w.heap.size w w' := by
  refine (specBytes_some x w).mono ?_
  rintro e w' ⟨g, n, c, h⟩
  exact ⟨_, n, c, h⟩
end Go.Proofs.Ytepaikljiddiaaa
