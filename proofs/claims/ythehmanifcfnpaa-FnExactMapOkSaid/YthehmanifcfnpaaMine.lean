/- A slice of bytes that the call made and may write into: what marking it and holding it against its marks leave. -/
import Derived.Test.YthehmanifcfnpaaStd
import Derived.OwnWalk
import Derived.Laws.OwnMore
import Derived.Deep.AppendLies
namespace Go.Proofs.Ythehmanifcfnpaa
set_option maxRecDepth 20000
open Go.RowKit

/-- the marks from k0 on. -/
def marks (k0 : Int) (n : Nat) : List Int := (List.range n).map fun (i : Nat) => (k0 + (i : Int)) % 256
theorem marks_len (k0 : Int) (n : Nat) : (marks k0 n).length = n := by simp [marks]
theorem marks_at (k0 : Int) (n k : Nat) (h : k < n) : (marks k0 n)[k]?.getD 0 = (k0 + (k : Int)) % 256 := by simp [marks, h]
theorem marks_bd (k0 : Int) (n : Nat) : ∀ z ∈ marks k0 n, 0 ≤ z ∧ z ≤ 255 := by
  intro z hz
  simp only [marks, List.mem_map] at hz
  obtain ⟨i, _, rfl⟩ := hz
  omega
def marked (k0 : Int) (n k : Nat) (xs : List Int) : List Int := (marks k0 n).take k ++ xs.drop k
theorem marked_set (k0 : Int) (n k : Nat) (xs : List Int) (hx : xs.length = n) (hk : k < n) : (marked k0 n k xs).set k ((k0 + (k : Int)) % 256) = marked k0 n (k + 1) xs := by
  unfold marked
  have hl : min k (marks k0 n).length = k := by have := marks_len k0 n; omega
  rw [take_step (marks k0 n) k (by have := marks_len k0 n; omega), marks_at k0 n k hk]
  have hd : xs.drop k = xs[k] :: xs.drop (k + 1) := List.drop_eq_getElem_cons (by omega)
  have hs : (xs.drop k).set 0 ((k0 + (k : Int)) % 256) = (k0 + (k : Int)) % 256 :: xs.drop (k + 1) := by rw [hd]; rfl
  simp [hl, hs]

theorem mark_any (A : Option Addr) (n c base : Nat) (xs : List Int) (k0 : Int) (w : World) (h0 : 0 ≤ k0) (h1 : k0 + n ≤ 4611686018427387904) (hm : Mine w base A n c xs) :
    Calls Try.prog 35 #[.slice A n c, .int .i64 k0] w fun e w' => e = .returned (.int .i64 (k0 + n)) ∧ Mine w' base A n c (marks k0 n) ∧ w.grownBy w' (Value.slice A n c).ownBlock := by
  have hx := Lib.hid hm.len
  have HM := Lib.hid hm
  clear hm
  go_enter Try.func35, Try.ntmps35
  go_wp2
  go_loopw [1, 5] (fun q i wr => ∃ k : Nat, k ≤ n ∧ i = .int .i64 k ∧ q = .int .i64 (k0 + k) ∧ Mine wr base A n c (marked k0 n k xs) ∧ w.grownBy wr (Value.slice A n c).ownBlock) (fun _ i _ => n - (intOf i).toNat)
  case atStart => exact ⟨0, Nat.zero_le _, rfl, by simp, HM.out, World.grownBy.refl _ _⟩
  case round =>
    obtain ⟨k, hk, rfl, rfl, hmr, hgr⟩ := hrel
    by_cases hlt : k < n
    · obtain ⟨g, rfl, hbg, hlt'⟩ := hmr.form (by omega)
      have hc := hmr.cell hlt
      have hf := hmr.free k
      have hs := hmr.set_ k ((k0 + (k : Int)) % 256) (by omega)
      rw [marked_set k0 n k xs hx.out hlt] at hs
      have HS := Lib.hid hs
      have HG := Lib.hid hgr
      clear hs hmr hgr
      go_wp2
      go_roundw
      case rel => exact ⟨k + 1, by omega, by go_num, by go_num, HS.out.1, HG.out.trans HS.out.2⟩
      case measure => simp [intOf]; omega
    · go_wp2
      go_ret
      have e : k = n := by omega
      subst e
      refine ⟨rfl, ?_, hgr⟩
      have hd : marked k0 k k xs = marks k0 k := by
        unfold marked
        rw [List.take_of_length_le (by have := marks_len k0 k; omega), List.drop_eq_nil_of_le (by have := hx.out; omega)]; simp
      rw [hd] at hmr
      exact hmr

end Go.Proofs.Ythehmanifcfnpaa
