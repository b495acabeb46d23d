/- A node that came in as an argument: what is known of its value. -/
import Derived.Test.YtjmlpekaehfeeaaNodeK
import Derived.ProofKit
import Derived.OpenShut
import Derived.ShutString
import Derived.ChangeOld
import Derived.Lib.SmallJoins
import Derived.Deep.SlicePairs
namespace Go.Proofs.Ytjmlpekaehfeeaa
set_option maxRecDepth 20000
open Go.RowKit Go.ChangeShapes Go.WideShapes Go.Joins Go.Deep

/-- the value v is a node nd that came in. -/
def NodeArg (w : World) (v : Value) (nd : MNode) : Prop :=
  ∃ Ap np cp Ak nk ck, v = .agg #[.int .i64 nd.kind, .slice Ap np cp, .slice Ak nk ck, .string nd.val] ∧ np ≤ maxLen ∧ nk ≤ maxLen ∧ nd.val.size ≤ maxLen ∧ Ints w w.heap.size Ap np nd.path ∧ Kids w w.heap.size Ak nk nd.kids

theorem row_of_trod {H : Type} {enc : TypeId × Value → H} {w : World} {k : IntKind} {t e : TypeId} {fuel : Nat} {v : Value} {x : DataW H × List MemPlace} (ht : Try.prog.underlying t = some (.slice e)) (he : Try.prog.underlying e = some (.int k)) (hc : Try.prog.cellsOf e = 1)
    (h : DataW.trod enc Try.prog w 0 (fun _ => true) true fuel t [v] = some x) : ∃ a len cap zs, v = .slice a len cap ∧ IsRow k w a len cap zs := by
  rcases open_ints ht he hc h with ⟨hcs, _⟩ | ⟨a, l, c, zs, hcs, _, hl, hm, hz, _, hcell, hwz⟩
  · simp at hcs
    exact ⟨none, 0, 0, [], hcs, .inl ⟨rfl, rfl, rfl, rfl⟩⟩
  · simp at hcs
    exact ⟨_, l, c, zs, hcs, .inr ⟨_, rfl, hl, hm, by simpa using hz, hcell, hwz⟩⟩

/-- the pairs of numbers that stand in a row, from a place on. -/
theorem kids_of_trod {H : Type} {enc : TypeId × Value → H} {w : World} {fuel : Nat} {v : Value} {x : DataW H × List MemPlace}
    (h : DataW.trod enc Try.prog w 0 (fun _ => true) true fuel 51 [v] = some x) : ∃ a len cap ks, v = .slice a len cap ∧ len ≤ maxLen ∧ Kids w w.heap.size a len ks := by
  rcases open_slice_pairs Try.underlying51 Try.underlying106 (by kernel_rfl) rfl rfl (by kernel_rfl) (by kernel_rfl) h with ⟨hcs, _⟩ | ⟨a, l, c, m, n, V0, V1, D0, D1, P0, P1, hcs, _, hl, hm, hmm, _, hc⟩
  · simp at hcs
    exact ⟨none, 0, 0, [], hcs, by unfold maxLen; omega, Kids.none_⟩
  · simp at hcs
    have hlm : l ≤ m := by rw [hmm]; simp; exact hl
    have each : ∀ i, i < l → ∃ z : Int × Int, w.cell? (a.add (i * 2)) = some (.int .i64 z.1) ∧ w.cell? (a.add (i * 2 + 1)) = some (.int .i64 z.2) := by
      intro i hi
      obtain ⟨h0, h1, t0, t1⟩ := hc i (by omega)
      obtain ⟨z0, e0, _⟩ := DataW.trod_int Try.underlying2 t0
      obtain ⟨z1, e1, _⟩ := DataW.trod_int Try.underlying2 t1
      simp at e0 e1
      exact ⟨(z0, z1), by rw [h0, e0], by rw [h1, e1]⟩
    obtain ⟨Z, hZ⟩ := choose_lt each
    refine ⟨some a, l, c, (List.range l).map Z, hcs, by omega, by simp, by rw [kv_len]; simp, fun hp => ?_⟩
    obtain ⟨b, off, spot⟩ := a
    have h0 := (hZ 0 (by omega)).1
    have hspot : spot = none := by simpa [Addr.add] using World.cell?_spot h0
    subst hspot
    refine ⟨b, off, rfl, by simpa [Addr.add] using block_lt_of_cell h0, fun i hi => ?_⟩
    have hadd : ∀ j, (Addr.add ⟨b, off, none⟩ j) = ⟨b, off + j, none⟩ := fun j => by unfold Addr.add; split <;> simp_all
    obtain ⟨q, hq | hq⟩ : ∃ q, i = q * 2 ∨ i = q * 2 + 1 := ⟨i / 2, by omega⟩
    · subst hq
      have := (hZ q (by omega)).1
      rw [hadd] at this
      rw [this]
      have e := kv_at0 ((List.range l).map Z) q
      simp [show q < l by omega] at e
      simp [e]
    · subst hq
      have := (hZ q (by omega)).2
      rw [hadd] at this
      rw [this]
      have e := kv_at1 ((List.range l).map Z) q
      simp [show q < l by omega] at e
      simp [e]

theorem open_node {H : Type} {enc : TypeId × Value → H} {w : World} {r : Reach} {b0 : Nat} {v : Value} {d : DataW H} {p : List MemPlace} (hv : Value.okWide Try.prog w r b0 53 v)
    (h : DataW.Trod enc Try.prog w 0 (fun _ => true) true 53 v d p) : ∃ nd, NodeArg w v nd := by
  obtain ⟨v0, v1, v2, v3, y0, y1, y2, y3, n, rfl, _, _, h0, h1, h2, h3⟩ := open_agg4 Try.underlying53 (by kernel_rfl) (by kernel_rfl) hv h
  obtain ⟨z, e0, _⟩ := DataW.trod_int Try.underlying2 h0
  obtain ⟨ap, np, cp, ps, rfl, hp⟩ := row_of_trod Try.underlying25 Try.underlying2 (by kernel_rfl) h1
  obtain ⟨ak, nk, ck, ks, rfl, hk1, hk2⟩ := kids_of_trod h2
  obtain ⟨s, e3, _, hs⟩ := DataW.trod_string Try.underlying9 h3
  simp at e0 e3
  subst e0 e3
  refine ⟨⟨z, ps.take np, ks, s⟩, ap, np, cp, ak, nk, ck, rfl, ?_, hk1, hs, hp.ints, hk2⟩
  rcases hp with ⟨_, h, _⟩ | ⟨_, _, hl, hm, _⟩
  · rw [h]; unfold maxLen; omega
  · omega
end Go.Proofs.Ytjmlpekaehfeeaa
