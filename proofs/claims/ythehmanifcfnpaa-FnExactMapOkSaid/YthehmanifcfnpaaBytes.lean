/- Plain facts on a slice of bytes that reads as a list, on the two sums of a name, and on worlds; no statement of the program is proved here. -/
import Derived.WalkKit
import Derived.ProofKit
import Derived.OpenShut
import Derived.Below
import Derived.Deep.Draws
import Derived.Lib.Hide
import Derived.Laws.Rows
namespace Go.Proofs.Ythehmanifcfnpaa
set_option maxRecDepth 20000
open Go.RowKit

/-- the slice value '.slice A n c' reads as the bytes zs, below block B. -/
def Byts (w : World) (B : Nat) (A : Option Addr) (n : Nat) (zs : List Int) : Prop :=
  zs.length = n ∧ (∀ z ∈ zs, 0 ≤ z ∧ z ≤ 255) ∧
  (0 < n → ∃ b off, A = some ⟨b, off, none⟩ ∧ b < B ∧ ∀ i, i < n → w.cell? ⟨b, off + i, none⟩ = some (.int .u8 (zs.getD i 0)))

section
variable {w w' : World} {B B' n : Nat} {A : Option Addr} {zs : List Int}
theorem Byts.none_ : Byts w B A 0 [] := ⟨rfl, by simp, fun h => absurd h (by omega)⟩
theorem Byts.range (h : Byts w B A n zs) (k : Nat) : 0 ≤ zs[k]?.getD 0 ∧ zs[k]?.getD 0 ≤ 255 := by
  by_cases hk : k < zs.length
  · rw [List.getElem?_eq_getElem hk]; exact h.2.1 _ (List.getElem_mem hk)
  · rw [List.getElem?_eq_none (by omega)]; simp
theorem Byts.at_ {k : Nat} (h : Byts w B A n zs) (hk : k < n) : ∃ b off, A = some ⟨b, off, none⟩ ∧ b < B ∧ w.cell? ⟨b, off + k, none⟩ = some (.int .u8 (zs[k]?.getD 0)) := by
  obtain ⟨b, off, e, hb, hc⟩ := h.2.2 (by omega)
  exact ⟨b, off, e, hb, by simpa using hc k hk⟩
theorem Byts.keep (h : Byts w B A n zs) (hk : ∀ p : Addr, p.block < B → w'.cell? p = w.cell? p) : Byts w' B A n zs :=
  ⟨h.1, h.2.1, fun hn => by
    obtain ⟨b, off, e, hb, hc⟩ := h.2.2 hn
    exact ⟨b, off, e, hb, fun i hi => (hk _ hb).trans (hc i hi)⟩⟩
theorem Byts.more (h : Byts w B A n zs) (hB : B ≤ B') : Byts w B' A n zs :=
  ⟨h.1, h.2.1, fun hn => by
    obtain ⟨b, off, e, hb, hc⟩ := h.2.2 hn
    exact ⟨b, off, e, by omega, hc⟩⟩
theorem Byts.below (h : Byts w B A n zs) (hb : Below B w w') : Byts w' B A n zs := h.keep fun _ hp => hb.cell hp
theorem Byts.drew (h : Byts w B A n zs) : Byts w.drew B A n zs := h
theorem Byts.drewN (h : Byts w B A n zs) (k : Nat) : Byts (w.drewN k) B A n zs := h
theorem Byts.alloc (h : Byts w B A n zs) (hB : B ≤ w.heap.size) (o : Obj) : Byts (w.alloc o) B A n zs := h.keep fun p hp => World.cell?_alloc_lt w o p (by omega)
end

/-- the cells of the bytes zs. -/
def u8s (zs : List Int) : Array Value := (zs.map (Value.int .u8)).toArray
theorem u8s_at (zs : List Int) (i : Nat) (h : i < zs.length) : (u8s zs)[i]? = some (.int .u8 (zs.getD i 0)) := by
  simp [u8s, h]
/-- a row of bytes that is a block of its own. -/
theorem Byts.new {w : World} {g : Nat} {zs : List Int} {t : TypeId} {n : Nat} (hz : zs.length = n) (hr : ∀ z ∈ zs, 0 ≤ z ∧ z ≤ 255) (h : w.heap[g]? = some (.cells (u8s zs) t (0, 0))) : Byts w (g + 1) (some ⟨g, 0, none⟩) n zs :=
  ⟨hz, hr, fun _ => ⟨g, 0, rfl, by omega, fun i hi => by rw [cell_of_row w g _ _ t (0, 0) h, Nat.zero_add]; exact u8s_at zs i (by omega)⟩⟩

/-- what is told of a slice of integers that came in: nil, or a row of cells. -/
def IsRow (k : IntKind) (w : World) (a : Option Addr) (len cap : Nat) (zs : List Int) : Prop :=
  (a = none ∧ len = 0 ∧ cap = 0 ∧ zs = []) ∨
  ∃ x, a = some x ∧ len ≤ cap ∧ cap ≤ maxLen ∧ zs.length = cap ∧ (∀ i, i < zs.length → w.cell? (x.add i) = some (.int k (zs.getD i 0))) ∧ ∀ n ∈ zs, (Lit.int k n).wf = true
theorem IsRow.len_le {k : IntKind} {w : World} {a : Option Addr} {len cap : Nat} {zs : List Int} (h : IsRow k w a len cap zs) : len ≤ 9223372036854775807 := by
  rcases h with ⟨_, h, _⟩ | ⟨_, _, h, h', _⟩
  · omega
  · unfold maxLen at h'; omega
theorem IsRow.byts {w : World} {a : Option Addr} {len cap : Nat} {zs : List Int} (h : IsRow .u8 w a len cap zs) : Byts w w.heap.size a len (zs.take len) := by
  rcases h with ⟨rfl, rfl, rfl, rfl⟩ | ⟨x, rfl, hl, hm, hz, hc, hw⟩
  · exact Byts.none_
  · refine ⟨by simp; omega, fun z hzm => ?_, fun hp => ?_⟩
    · have hwz := hw z (List.mem_of_mem_take hzm)
      exact bounds_u8 hwz
    · obtain ⟨b, off, spot⟩ := x
      have h0 := hc 0 (by omega)
      have hspot : spot = none := by simpa [Addr.add] using World.cell?_spot h0
      subst hspot
      refine ⟨b, off, rfl, ?_, fun i hi => ?_⟩
      · have := block_lt_of_cell h0
        simpa [Addr.add] using this
      · have hci := hc i (by omega)
        have e : (Addr.add ⟨b, off, none⟩ i) = ⟨b, off + i, none⟩ := by unfold Addr.add; split <;> simp_all
        rw [e] at hci
        rw [hci]
        simp [hi]

/-! the two sums -/
def upStep (s c : Int) : Int := (131 * s + c + 1) % 2147483647
def loStep (s c : Int) : Int := (137 * s + c + 1) % 2147483629
def upSum (zs : List Int) : Int := zs.foldl upStep 7
def loSum (zs : List Int) : Int := zs.foldl loStep 11
def nameOf (zs : List Int) : Int := upSum zs * 2147483648 + loSum zs + 1
theorem take_step (zs : List Int) (k : Nat) (h : k < zs.length) : zs.take (k + 1) = zs.take k ++ [zs[k]?.getD 0] := by
  rw [List.take_succ_eq_append_getElem h, List.getElem?_eq_getElem h]; rfl
theorem upSum_step (zs : List Int) (k : Nat) (h : k < zs.length) : upSum (zs.take (k + 1)) = (131 * upSum (zs.take k) + zs[k]?.getD 0 + 1) % 2147483647 := by
  rw [take_step zs k h, upSum, List.foldl_append]; rfl
theorem loSum_step (zs : List Int) (k : Nat) (h : k < zs.length) : loSum (zs.take (k + 1)) = (137 * loSum (zs.take k) + zs[k]?.getD 0 + 1) % 2147483629 := by
  rw [take_step zs k h, loSum, List.foldl_append]; rfl
theorem fold_bd (f : Int → Int → Int) (m : Int) (hf : ∀ s c, 0 ≤ f s c ∧ f s c < m) (zs : List Int) (s : Int) (hs : 0 ≤ s ∧ s < m) : 0 ≤ zs.foldl f s ∧ zs.foldl f s < m := by
  induction zs generalizing s with
  | nil => exact hs
  | cons z r ih => exact ih _ (hf s z)
theorem upSum_bd (zs : List Int) : 0 ≤ upSum zs ∧ upSum zs < 2147483647 := fold_bd _ _ (fun s c => by unfold upStep; omega) zs 7 (by omega)
theorem loSum_bd (zs : List Int) : 0 ≤ loSum zs ∧ loSum zs < 2147483629 := fold_bd _ _ (fun s c => by unfold loStep; omega) zs 11 (by omega)
theorem ret_i64 {k : IntKind} {a b : Int} (h : a = b) : Ending.returned (.int k a) = .returned (.int k b) := by rw [h]
end Go.Proofs.Ythehmanifcfnpaa
