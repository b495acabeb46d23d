/- Pairs of texts that came in as an argument: what is known of their value. -/
import Derived.Test.YthehmanifcfnpaaPrs
import Derived.Test.YthehmanifcfnpaaOpenNode
namespace Go.Proofs.Ythehmanifcfnpaa
set_option maxRecDepth 20000
set_option linter.unusedVariables false
set_option linter.unusedSimpArgs false
open Go.RowKit Go.ChangeShapes Go.WideShapes Go.Joins Go.Deep

/-- the value v is a slice of pairs ps that came in. -/
def PrsArg (w : World) (v : Value) (ps : List (ByteArray × ByteArray)) : Prop :=
  ∃ A n c, v = .slice A n c ∧ n ≤ maxLen ∧ Prs w w.heap.size A n ps ∧ ∀ i, (pe ps i).1.size ≤ maxLen ∧ (pe ps i).2.size ≤ maxLen

theorem prs_of_trod {H : Type} {enc : TypeId × Value → H} {w : World} {fuel : Nat} {v : Value} {x : DataW H × List MemPlace}
    (h : DataW.trod enc Try.prog w 0 (fun _ => true) true fuel 22 [v] = some x) : ∃ ps, PrsArg w v ps := by
  rcases open_slice_pairs Try.underlying22 Try.underlying41 (by kernel_rfl) rfl rfl (by kernel_rfl) (by kernel_rfl) h with ⟨hcs, _⟩ | ⟨a, l, c, m, n, V0, V1, D0, D1, P0, P1, hcs, _, hl, hm, hmm, _, hc⟩
  · simp at hcs
    exact ⟨[], none, 0, 0, hcs, by unfold maxLen; omega, Prs.none_, fun i => by simp [pe, noStr, ByteArray.size]⟩
  · simp at hcs
    have hlm : l ≤ m := by rw [hmm]; simp; exact hl
    have each : ∀ i, i < l → ∃ z : ByteArray × ByteArray, w.cell? (a.add (i * 2)) = some (.string z.1) ∧ w.cell? (a.add (i * 2 + 1)) = some (.string z.2) ∧ z.1.size ≤ maxLen ∧ z.2.size ≤ maxLen := by
      intro i hi
      obtain ⟨h0, h1, t0, t1⟩ := hc i (by omega)
      obtain ⟨z0, e0, _, k0⟩ := DataW.trod_string Try.underlying9 t0
      obtain ⟨z1, e1, _, k1⟩ := DataW.trod_string Try.underlying9 t1
      simp at e0 e1
      exact ⟨(z0, z1), by rw [h0, e0], by rw [h1, e1], k0, k1⟩
    obtain ⟨Z, hZ⟩ := choose_lt each
    refine ⟨(List.range l).map Z, some a, l, c, hcs, by omega, ⟨by simp, fun hp => ?_⟩, fun i => ?_⟩
    · obtain ⟨b, off, spot⟩ := a
      have h0 := (hZ 0 (by omega)).1
      have hspot : spot = none := by simpa [Addr.add] using World.cell?_spot h0
      subst hspot
      refine ⟨b, off, rfl, by simpa [Addr.add] using block_lt_of_cell h0, fun i hi => ?_⟩
      have hadd : ∀ j, (Addr.add ⟨b, off, none⟩ j) = ⟨b, off + j, none⟩ := fun j => by unfold Addr.add; split <;> simp_all
      obtain ⟨k0, k1, _⟩ := hZ i hi
      rw [hadd] at k0 k1
      have e : pe ((List.range l).map Z) i = Z i := by simp [pe, hi]
      rw [e]
      exact ⟨k0, k1⟩
    · by_cases hi : i < l
      · have e : pe ((List.range l).map Z) i = Z i := by simp [pe, hi]
        rw [e]
        exact (hZ i hi).2.2
      · have e : pe ((List.range l).map Z) i = (noStr, noStr) := by simp [pe, hi]
        rw [e]; simp [noStr, ByteArray.size]

theorem open_prs {H : Type} {enc : TypeId × Value → H} {w : World} {r : Reach} {b0 : Nat} {v : Value} {d : DataW H} {p : List MemPlace} (_hv : Value.okWide Try.prog w r b0 22 v)
    (h : DataW.Trod enc Try.prog w 0 (fun _ => true) true 22 v d p) (hc : ∃ A n c, v = .slice A n c) : ∃ ps, PrsArg w v ps := by
  obtain ⟨A, n, c, rfl⟩ := hc
  obtain ⟨fuel, hf⟩ := h
  exact prs_of_trod (by simpa [Value.cells] using hf)
end Go.Proofs.Ythehmanifcfnpaa
