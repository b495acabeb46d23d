/- What the helpers of the exact laws do at slices of bytes: a copy is a new row of the same bytes; two that read alike are told alike. -/
import Derived.Test.YthehhedmdlephaaRows
import Derived.Test.YthehhedmdlephaaBytes
import Derived.LoopTactic
import Derived.Outline
import Derived.Deep.QuietTactic
import Derived.BigQuiet
import Derived.Laws.MakeOwn
import Derived.WalkSmall
namespace Go.Proofs.Ythehhedmdlephaa
open Go.RowKit

theorem Try.info5 : (Try.prog.info? 5).map (fun i => (i.zero, i.size, i.bytes)) = some (some (.int .u8 0), 1, 1) := by kernel_rfl

/-- the row as far as it is filled. -/
def filled (zs : List Int) (n k : Nat) : Array Value := u8s (zs.take k ++ List.replicate (n - k) 0)
theorem filled_at (zs : List Int) (n k : Nat) (hz : zs.length = n) (hk : k < n) : (filled zs n k)[k]? = some (.int .u8 0) := by
  have hm : min k zs.length = k := by omega
  have hp : 0 < n - k := by omega
  unfold filled u8s
  simp [hm, hp]
theorem filled_set (zs : List Int) (n k : Nat) (hz : zs.length = n) (hk : k < n) : (filled zs n k).setIfInBounds k (.int .u8 (zs[k]?.getD 0)) = filled zs n (k + 1) := by
  unfold filled u8s
  rw [take_step zs k (by omega)]
  obtain ⟨m, hm⟩ : ∃ m, n - k = m + 1 := ⟨n - k - 1, by omega⟩
  have hm' : n - (k + 1) = m := by omega
  rw [hm, hm']
  have hl : min k zs.length = k := by omega
  simp [List.replicate_succ, hl]
theorem filled_all (zs : List Int) (n : Nat) (hz : zs.length = n) : filled zs n n = u8s zs := by
  unfold filled
  rw [List.take_of_length_le (by omega)]; simp
theorem filled_none (zs : List Int) (n : Nat) : madeCells #[.int .u8 0] n = filled zs n 0 := by
  apply Array.ext
  · simp [madeCells, filled, u8s]
  · intro i h1 h2
    simp [madeCells, filled, u8s, Nat.mod_one]
theorem u8s_size (zs : List Int) : (u8s zs).size = zs.length := by simp [u8s]

theorem copy_any (A : Option Addr) (n c : Nat) (zs : List Int) (B : Nat) (w : World) (hn : n ≤ 140737488355328) (hB : B ≤ w.heap.size) (hb : Byts w B A n zs) :
    Calls Try.prog 18 #[.slice A n c] w fun e w' => e = .returned (.slice (some ⟨w.heap.size, 0, none⟩) n n) ∧ w' = w.alloc (.cells (u8s zs) 5) := by
  have hlen : zs.length = n := hb.1
  have HL := Lib.hid hlen
  have HB := Lib.hid hb
  clear hb hlen
  obtain ⟨i0, hi, hz0, hz1, hz2⟩ := info_parts Try.info5
  have hmk : ∀ W : World, (Instr.makeSlice 22 (.int .i64 (n : Int)) (.int .i64 (n : Int))).run Try.prog W = .ok (.slice (some ⟨W.heap.size, 0, none⟩) n n) (W.alloc (.cells (filled zs n 0) 5)) := by
    intro W
    have hr := run_make (P := Try.prog) W 22 5 i0 (.int .u8 0) Try.underlying22 hi hz0 .i64 .i64 n n (by omega) (by omega) (by rw [hz2]; omega) (by omega)
    simp only [Int.toNat_natCast] at hr
    rw [hr, hz1, Nat.mul_one]
    show Result.ok _ (W.alloc (.cells (madeCells #[.int .u8 0] n) _)) = _
    rw [filled_none zs n]
  have HM := Lib.hid hmk
  clear hmk hi hz0 hz1 hz2
  go_enter Try.func18, Try.ntmps18
  have hmk := HM.out
  go_wp2
  clear hmk
  go_loopw [4] (fun i wr => ∃ k : Nat, k ≤ n ∧ i = .int .i64 k ∧ wr = w.alloc (.cells (filled zs n k) 5)) (fun i _ => n - (intOf i).toNat)
  case atStart => exact ⟨0, Nat.zero_le _, rfl, rfl⟩
  case round =>
    obtain ⟨k, hk, rfl, rfl⟩ := hrel
    by_cases hlt : k < n
    · obtain ⟨b, off, rfl, hbB, hc⟩ := HB.out.at_ hlt
      have hr := HB.out.range k
      have hbw : b < w.heap.size := by omega
      have hg : (filled zs n k)[k]? = some (.int .u8 0) := filled_at zs n k HL.out hlt
      have hst := Lib.hid (filled_set zs n k HL.out hlt)
      go_wp2
      go_roundw
      case rel => exact ⟨k + 1, by omega, by go_num, by rw [hst.out]⟩
      case measure => simp [intOf]; omega
    · go_wp2
      go_ret
      exact ⟨rfl, by rw [show k = n by omega, filled_all zs n HL.out]⟩

/-- block g is a row of just these bytes, made by the call. -/
def Row (w : World) (g : Nat) (zs : List Int) : Prop := w.heap[g]? = some (.cells (u8s zs) 5 (0, 0)) ∧ ∀ z ∈ zs, 0 ≤ z ∧ z ≤ 255
theorem Row.lt {w : World} {g : Nat} {zs : List Int} (h : Row w g zs) : g < w.heap.size := by
  rcases Nat.lt_or_ge g w.heap.size with hlt | hge
  · exact hlt
  · have h1 := h.1; rw [Array.getElem?_eq_none hge] at h1; cases h1
theorem Row.below {w w' : World} {g B : Nat} {zs : List Int} (h : Row w g zs) (hb : Below B w w') (hg : g < B) : Row w' g zs := ⟨(hb.block g hg).trans h.1, h.2⟩
theorem Row.drewN {w : World} {g : Nat} {zs : List Int} (h : Row w g zs) (m : Nat) : Row (w.drewN m) g zs := h
theorem Row.byts {w : World} {g n : Nat} {zs : List Int} (h : Row w g zs) (hn : zs.length = n) : Byts w w.heap.size (some ⟨g, 0, none⟩) n zs := (Byts.new hn h.2 h.1).more h.lt

theorem copy_own (A : Option Addr) (n c : Nat) (zs : List Int) (B : Nat) (w : World) (hn : n ≤ 140737488355328) (hB : B ≤ w.heap.size) (hb : Byts w B A n zs) :
    Calls Try.prog 18 #[.slice A n c] w fun e w' => ∃ g, e = .returned (.slice (some ⟨g, 0, none⟩) n n) ∧ w.heap.size ≤ g ∧ Row w' g zs ∧ Below w.heap.size w w' := by
  refine (copy_any A n c zs B w hn hB hb).mono ?_
  rintro e w' ⟨rfl, rfl⟩
  exact ⟨w.heap.size, rfl, Nat.le_refl _, ⟨heap_alloc_new _ _, hb.2.1⟩, (Below.refl _ _).alloc (Nat.le_refl _) _⟩

theorem like_yes (A A' : Option Addr) (n c c' : Nat) (zs : List Int) (B B' : Nat) (w : World) (hn : n ≤ 9223372036854775807) (hb : Byts w B A n zs) (hb' : Byts w B' A' n zs) :
    Calls Try.prog 19 #[.slice A n c, .slice A' n c'] w fun e w' => e = .returned (.bool true) ∧ ∃ m, w' = w.drewN m := by
  have HB := Lib.hid hb
  have HB' := Lib.hid hb'
  clear hb hb'
  go_enter Try.func19, Try.ntmps19
  go_wp2
  go_loopw [5] (fun i wr => ∃ k m : Nat, k ≤ n ∧ i = .int .i64 k ∧ wr = w.drewN m) (fun i _ => n - (intOf i).toNat)
  case atStart => exact ⟨0, 0, Nat.zero_le _, rfl, rfl⟩
  case round =>
    obtain ⟨k, m, hk, rfl, rfl⟩ := hrel
    by_cases hlt : k < n
    · obtain ⟨b, off, rfl, hbB, hc⟩ := HB.out.at_ hlt
      obtain ⟨b', off', rfl, hbB', hc'⟩ := HB'.out.at_ hlt
      have hr := HB.out.range k
      go_wp2
      go_quiet (fail)
      go_wp2
      go_roundw
      case rel => exact ⟨k + 1, _, by omega, by go_num, rfl⟩
      case measure => simp [intOf]; omega
    · go_wp2
      go_ret
      exact ⟨rfl, m, rfl⟩
end Go.Proofs.Ythehhedmdlephaa
