/- The eight bytes of a name, as the program and as the model write them: a row of the call's own. -/
import Derived.Test.YtjmlpekaehfeeaaMine
namespace Go.Proofs.Ytjmlpekaehfeeaa
set_option maxRecDepth 20000
open Go.RowKit

/-- the first k of the bytes of x, the lowest one first. -/
def nb (x : Int) (k : Nat) : List Int := (List.range k).map fun (i : Nat) => x / 2 ^ (8 * i) % 256
def nameBytes (x : Int) : List Int := if x < 0 then [] else nb x 8
theorem nb_len (x : Int) (k : Nat) : (nb x k).length = k := by simp [nb]
theorem nb_at (x : Int) (n k : Nat) (h : k < n) : (nb x n)[k]?.getD 0 = x / 2 ^ (8 * k) % 256 := by simp [nb, h]
theorem nb_bd (x : Int) (k : Nat) : ∀ z ∈ nb x k, 0 ≤ z ∧ z ≤ 255 := by
  intro z hz
  simp only [nb, List.mem_map] at hz
  obtain ⟨i, _, rfl⟩ := hz
  omega
theorem nb_step (x : Int) (k : Nat) : nb x (k + 1) = nb x k ++ [x / 2 ^ (8 * k) % 256] := by simp [nb, List.range_succ]
theorem nameBytes_no (x : Int) (h : x < 0) : nameBytes x = [] := if_pos h
theorem nameBytes_yes (x : Int) (h : ¬ x < 0) : nameBytes x = nb x 8 := if_neg h

theorem bytes_any (x : Int) (w : World) :
    Calls Try.prog 62 #[.int .i64 x] w fun e w' => ∃ A n c, e = .returned (.slice A n c) ∧ Mine w' w.heap.size A n c (nameBytes x) ∧ Below w.heap.size w w' := by
  by_cases hx : x < 0
  · have hr := Lib.hid (nameBytes_no x hx)
    go_enter Try.func62, Try.ntmps62
    go_wp2
    go_ret
    exact ⟨none, 0, 0, rfl, by rw [hr.out]; exact Mine.nil _ _, Below.refl _ _⟩
  · have hr := Lib.hid (nameBytes_yes x hx)
    have hmk : ∀ W : World, (Instr.makeSlice 22 (.int .i64 8) (.int .i64 8)).run Try.prog W = .ok (.slice (some ⟨W.heap.size, 0, none⟩) 8 8) (W.alloc (.cells (filled (nb x 8) 8 0) 5)) :=
      fun W => make_bytes (nb x 8) 8 (by omega) W
    go_enter Try.func62, Try.ntmps62
    go_wp2
    clear hmk
    go_loopw [10] (fun i wr => ∃ k : Nat, k ≤ 8 ∧ i = .int .i64 k ∧ wr = w.alloc (.cells (filled (nb x 8) 8 k) 5)) (fun i _ => 8 - (intOf i).toNat)
    case atStart => exact ⟨0, Nat.zero_le _, rfl, rfl⟩
    case round =>
      obtain ⟨k, hk, rfl, rfl⟩ := hrel
      by_cases hlt : k < 8
      · have hg : (filled (nb x 8) 8 k)[k]? = some (.int .u8 0) := filled_at _ 8 k (nb_len x 8) hlt
        have hst := filled_set (nb x 8) 8 k (nb_len x 8) hlt
        rw [nb_at x 8 k hlt] at hst
        have HS := Lib.hid hst
        clear hst
        go_wp2
        go_roundw
        case rel => exact ⟨k + 1, by omega, by go_num, by rw [HS.out]⟩
        case measure => simp [intOf]; omega
      · go_wp2
        go_ret
        exact ⟨some ⟨w.heap.size, 0, none⟩, 8, 8, rfl, by rw [hr.out, show k = 8 by omega, filled_all _ 8 (nb_len x 8)]; exact Mine.of_alloc w _ _ 8 (Nat.le_refl _) (nb_len x 8) (by unfold maxLen; omega) (nb_bd x 8), (Below.refl _ _).alloc (Nat.le_refl _) _⟩
theorem specBytes_no (x : Int) (w : World) (hx : x < 0) :
    Calls Try.prog 89 #[.int .i64 x] w fun e w' => ∃ g n c, e = .returned (.slice (some ⟨g, 0, none⟩) n c) ∧ Mine w' w.heap.size (some ⟨g, 0, none⟩) n c (nameBytes x) ∧ Below w.heap.size w w' := by
  have hr := Lib.hid (nameBytes_no x hx)
  have hx' : decide (0 ≤ x) = false := by simp; omega
  go_enter Try.func89, Try.ntmps89
  go_wp2
  refine wp_loop_rounds 1 ?_
  rw [rounds_succ]
  go_wp2
  go_ret
  exact ⟨w.heap.size, 0, 0, rfl, by rw [hr.out]; exact Mine.empty w, (Below.refl _ _).alloc (Nat.le_refl _) _⟩
theorem specBytes_yes (x : Int) (w : World) (hx : ¬ x < 0) :
    Calls Try.prog 89 #[.int .i64 x] w fun e w' => ∃ g n c, e = .returned (.slice (some ⟨g, 0, none⟩) n c) ∧ Mine w' w.heap.size (some ⟨g, 0, none⟩) n c (nameBytes x) ∧ Below w.heap.size w w' := by
  obtain ⟨i0, hi, hz0, hz1, hz2⟩ := info_parts Try.info5
  have HI := Lib.hid hi
  have HZ0 := Lib.hid hz0
  have HZ1 := Lib.hid hz1
  have HZ2 := Lib.hid hz2
  clear hi hz0 hz1 hz2
  have hr := Lib.hid (nameBytes_yes x hx)
  go_enter Try.func89, Try.ntmps89
  go_wp2
  go_loopw [3, 4] (fun v i wr => ∃ k : Nat, k ≤ 8 ∧ i = .int .i64 k ∧ wr.ownsRow w.heap.size 5 1 v k ((nb x k).map (Value.int .u8)) ∧ Below w.heap.size w wr) (fun _ i _ => 8 - (intOf i).toNat)
  case atStart => exact ⟨0, Nat.zero_le _, rfl, (Mine.empty w).1, (Below.refl _ _).alloc (Nat.le_refl _) _⟩
  case round =>
    obtain ⟨k, hk, rfl, hown, hbel⟩ := hrel
    by_cases hlt : k < 8
    · have hp : (0 : Int) ≤ x / 2 ^ (8 * k) := Int.ediv_nonneg (by omega) (Int.pow_nonneg (by decide))
      have hs := hbel.size
      go_wp2_with (at_builtin; refine wpList_append_own _ rfl _ _ 22 rfl w.heap.size 5 i0 (.int .u8 0) 1 1 Try.underlying22 HI.out HZ0.out HZ1.out HZ2.out rfl (by decide) _ _ _ rfl (hown.alloc _) ⟨wr.heap.size, 0, none⟩ 1 1 [.int .u8 (x / 2 ^ (8 * k) % 256)] rfl rfl ?c1 ?c2 ?c3 ?c4 ?c5 ?_)
      case c1 =>
        intro j u hj
        match j, hj with
        | 0, hj => simp at hj; subst hj; simp [Addr.add]
      case c2 => intro u hu; simp at hu; subst hu; rfl
      case c3 => unfold maxLen; omega
      case c4 => omega
      case c5 => simp; omega
      intro v' w1 hown' hgrow _
      have hb1 : Below w.heap.size w w1 := (hbel.alloc hs _).grown hgrow (by simp; omega) (fun g hg => (hown.lt g hg).1)
      rw [show (nb x k).map (Value.int .u8) ++ [Value.int .u8 (x / 2 ^ (8 * k) % 256)] = (nb x (k + 1)).map (Value.int .u8) by rw [nb_step]; simp] at hown'
      clear hgrow hown hbel
      go_wp2
      go_roundw
      case rel => exact ⟨k + 1, by omega, by go_num, hown', hb1⟩
      case measure => simp [intOf]; omega
    · obtain rfl : k = 8 := by omega
      have hm : ∃ g c, u3 = .slice (some ⟨g, 0, none⟩) 8 c := by
        obtain ⟨g, c, h, _⟩ := hown.form (by omega)
        exact ⟨g, c, h⟩
      obtain ⟨g, c, rfl⟩ := hm
      go_wp2
      go_ret
      exact ⟨g, 8, c, rfl, by rw [hr.out]; exact ⟨hown, nb_bd x 8⟩, hbel⟩
theorem specBytes_some (x : Int) (w : World) :
    Calls Try.prog 89 #[.int .i64 x] w fun e w' => ∃ g n c, e = .returned (.slice (some ⟨g, 0, none⟩) n c) ∧ Mine w' w.heap.size (some ⟨g, 0, none⟩) n c (nameBytes x) ∧ Below w.heap.size w w' := by
  by_cases hx : x < 0
  · exact specBytes_no x w hx
  · exact specBytes_yes x w hx
theorem specBytes_any (x : Int) (w : World) :
    Calls Try.prog 89 #[.int .i64 x] w fun e w' => ∃ A n c, e = .returned (.slice A n c) ∧ Mine w' w.heap.size A n c (nameBytes x) ∧ Below w.heap.size w w' := by
  refine (specBytes_some x w).mono ?_
  rintro e w' ⟨g, n, c, h⟩
  exact ⟨_, n, c, h⟩
end Go.Proofs.Ytjmlpekaehfeeaa
