/- Cells that came in as an argument: what is known of their value. -/
import Derived.Test.YthehmanifcfnpaaCells
import Derived.Test.YthehmanifcfnpaaOpenNode
namespace Go.Proofs.Ythehmanifcfnpaa
set_option maxRecDepth 20000
set_option linter.unusedVariables false
set_option linter.unusedSimpArgs false
open Go.RowKit Go.ChangeShapes Go.WideShapes Go.Joins Go.Deep

/-- the value v is a slice of cells cs that came in. -/
def CellsArg (w : World) (v : Value) (cs : List (Int × List Int)) : Prop :=
  ∃ A n c, v = .slice A n c ∧ n ≤ maxLen ∧ Cells w w.heap.size A n cs ∧ ∀ i, (cel cs i).2.length ≤ maxLen

theorem cells_of_trod {H : Type} {enc : TypeId × Value → H} {w : World} {fuel : Nat} {v : Value} {x : DataW H × List MemPlace}
    (h : DataW.trod enc Try.prog w 0 (fun _ => true) true fuel 29 [v] = some x) : ∃ cs, CellsArg w v cs := by
  rcases open_slice_pairs Try.underlying29 Try.underlying49 (by kernel_rfl) rfl rfl (by kernel_rfl) (by kernel_rfl) h with ⟨hcs, _⟩ | ⟨a, l, c, m, n, V0, V1, D0, D1, P0, P1, hcs, _, hl, hm, hmm, _, hc⟩
  · simp at hcs
    exact ⟨[], none, 0, 0, hcs, by unfold maxLen; omega, Cells.none_, fun i => by simp [cel]⟩
  · simp at hcs
    have hlm : l ≤ m := by rw [hmm]; simp; exact hl
    have each : ∀ i, i < l → ∃ z : Int × List Int, w.cell? (a.add (i * 2)) = some (.int .i64 z.1) ∧ z.2.length ≤ maxLen ∧ ∃ Ai ni ci, w.cell? (a.add (i * 2 + 1)) = some (.slice Ai ni ci) ∧ ni ≤ ci ∧ (Ai = none → ci = 0) ∧ Byts w w.heap.size Ai ni z.2 := by
      intro i hi
      obtain ⟨h0, h1, t0, t1⟩ := hc i (by omega)
      obtain ⟨z0, e0, _⟩ := DataW.trod_int Try.underlying2 t0
      obtain ⟨Ai, ni, ci, zs, e1, hr⟩ := row_of_trod Try.underlying47 Try.underlying5 (by kernel_rfl) t1
      simp at e0
      refine ⟨(z0, zs.take ni), by rw [h0, e0], ?_, Ai, ni, ci, by rw [h1, e1], ?_, ?_, hr.byts⟩
      · rcases hr with ⟨_, rfl, _, _⟩ | ⟨_, _, h2, h3, _⟩
        · simp
        · simp; omega
      · rcases hr with ⟨_, rfl, rfl, _⟩ | ⟨_, _, h2, h3, _⟩
        · exact Nat.le_refl _
        · exact h2
      · rcases hr with ⟨_, _, rfl, _⟩ | ⟨_, e, h2, h3, _⟩
        · exact fun _ => rfl
        · intro e'; rw [e] at e'; cases e'
    obtain ⟨Z, hZ⟩ := choose_lt each
    refine ⟨(List.range l).map Z, some a, l, c, hcs, by omega, ⟨by simp, fun hp => ?_⟩, fun i => ?_⟩
    · obtain ⟨b, off, spot⟩ := a
      have h0 := (hZ 0 (by omega)).1
      have hspot : spot = none := by simpa [Addr.add] using World.cell?_spot h0
      subst hspot
      refine ⟨b, off, rfl, by simpa [Addr.add] using block_lt_of_cell h0, fun i hi => ?_⟩
      have hadd : ∀ j, (Addr.add ⟨b, off, none⟩ j) = ⟨b, off + j, none⟩ := fun j => by unfold Addr.add; split <;> simp_all
      obtain ⟨k0, _, Ai, ni, ci, k1, k2, k3, k4⟩ := hZ i hi
      rw [hadd] at k0 k1
      have e : cel ((List.range l).map Z) i = Z i := by simp [cel, hi]
      rw [e]
      exact ⟨k0, Ai, ni, ci, k1, k2, k3, k4⟩
    · by_cases hi : i < l
      · have e : cel ((List.range l).map Z) i = Z i := by simp [cel, hi]
        rw [e]
        exact (hZ i hi).2.1
      · have e : cel ((List.range l).map Z) i = (0, []) := by simp [cel, hi]
        rw [e]; simp

theorem open_cells {H : Type} {enc : TypeId × Value → H} {w : World} {r : Reach} {b0 : Nat} {v : Value} {d : DataW H} {p : List MemPlace} (_hv : Value.okWide Try.prog w r b0 29 v)
    (h : DataW.Trod enc Try.prog w 0 (fun _ => true) true 29 v d p) (hc : ∃ A n c, v = .slice A n c) : ∃ cs, CellsArg w v cs := by
  obtain ⟨A, n, c, rfl⟩ := hc
  obtain ⟨fuel, hf⟩ := h
  exact cells_of_trod (by simpa [Value.cells] using hf)
end Go.Proofs.Ythehmanifcfnpaa
