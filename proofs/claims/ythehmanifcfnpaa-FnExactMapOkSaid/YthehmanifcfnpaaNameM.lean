/- Plain facts on names: a name is read as it was written, what is read is written as it was, and one other byte makes another name. -/
import Derived.Test.YthehmanifcfnpaaNameB
import Derived.Test.YthehmanifcfnpaaNameF
namespace Go.Proofs.Ythehmanifcfnpaa
set_option maxRecDepth 20000
open Go.RowKit

theorem nameOf_bd (zs : List Int) : 1 ≤ nameOf zs ∧ nameOf zs ≤ 9223372036854775807 := by
  have h1 := upSum_bd zs
  have h2 := loSum_bd zs
  unfold nameOf
  omega
theorem list8 (zs : List Int) (h : zs.length = 8) : ∃ a b c d e f g i, zs = [a, b, c, d, e, f, g, i] := by
  match zs, h with
  | [a, b, c, d, e, f, g, i], _ => exact ⟨a, b, c, d, e, f, g, i, rfl⟩
theorem nb8 (x : Int) : nb x 8 = [x % 256, x / 256 % 256, x / 65536 % 256, x / 16777216 % 256, x / 4294967296 % 256, x / 1099511627776 % 256, x / 281474976710656 % 256, x / 72057594037927936 % 256] := by
  simp [nb, List.range, List.range.loop]
theorem back_of_bytes (x : Int) (h : 0 ≤ x ∧ x ≤ 9223372036854775807) : leVal (nameBytes x) = x ∧ (nameBytes x).length = 8 ∧ (nameBytes x)[7]?.getD 0 ≤ (127 : Int) := by
  rw [nameBytes_yes x (by omega), nb8]
  refine ⟨?_, rfl, ?_⟩
  · simp only [leVal]
    omega
  · simp
    omega
theorem bytes_of_back (zs : List Int) (h : ∀ z ∈ zs, 0 ≤ z ∧ z ≤ 255) (hl : zs.length = 8) (h7 : zs[7]?.getD 0 ≤ (127 : Int)) : nameBytes (leVal zs) = zs := by
  have hp := (leW_yes zs h hl h7).2.1
  rw [nameBytes_yes _ (by omega), nb8]
  obtain ⟨z0, z1, z2, z3, z4, z5, z6, z7, rfl⟩ := list8 zs hl
  have h0 := h z0 (by simp)
  have h1 := h z1 (by simp)
  have h2 := h z2 (by simp)
  have h3 := h z3 (by simp)
  have h4 := h z4 (by simp)
  have h5 := h z5 (by simp)
  have h6 := h z6 (by simp)
  have h7 := h z7 (by simp)
  clear hp h
  simp only [leVal, List.cons.injEq, and_true]
  refine ⟨?_, ?_, ?_, ?_, ?_, ?_, ?_, ?_⟩ <;> omega

/-! one other byte, another name -/
theorem upStep_inj (s t z : Int) (hs : 0 ≤ s ∧ s < 2147483647) (ht : 0 ≤ t ∧ t < 2147483647) (h : upStep s z = upStep t z) : s = t := by
  unfold upStep at h
  omega
theorem upFold_inj (r : List Int) : ∀ (s t : Int), 0 ≤ s ∧ s < 2147483647 → 0 ≤ t ∧ t < 2147483647 → r.foldl upStep s = r.foldl upStep t → s = t := by
  induction r with
  | nil => intro s t _ _ h; exact h
  | cons z r ih =>
    intro s t hs ht h
    refine upStep_inj s t z hs ht (ih _ _ ?_ ?_ h)
    · unfold upStep; omega
    · unfold upStep; omega
theorem upStep_ne (s z z' : Int) (hz : 0 ≤ z ∧ z ≤ 255) (hz' : 0 ≤ z' ∧ z' ≤ 255) (h : upStep s z = upStep s z') : z = z' := by
  unfold upStep at h
  omega
theorem upSum_set (zs : List Int) (h : ∀ z ∈ zs, 0 ≤ z ∧ z ≤ 255) (k : Nat) (hk : k < zs.length) (z' : Int) (hz' : 0 ≤ z' ∧ z' ≤ 255) (hne : z' ≠ zs[k]?.getD 0) : upSum (zs.set k z') ≠ upSum zs := by
  intro e
  have e1 : zs = zs.take k ++ zs[k] :: zs.drop (k + 1) := by rw [← List.drop_eq_getElem_cons hk, List.take_append_drop]
  have e2 : zs.set k z' = zs.take k ++ z' :: zs.drop (k + 1) := by rw [List.set_eq_take_append_cons_drop, if_pos hk]
  rw [e2] at e
  have e3 : upSum zs = upSum (zs.take k ++ zs[k] :: zs.drop (k + 1)) := congrArg upSum e1
  rw [e3] at e
  unfold upSum at e
  rw [List.foldl_append, List.foldl_append, List.foldl_cons, List.foldl_cons] at e
  have hs := fold_bd upStep 2147483647 (fun s c => by unfold upStep; omega) (zs.take k) 7 (by omega)
  have := upFold_inj _ _ _ (by unfold upStep; omega) (by unfold upStep; omega) e
  have hz := h zs[k] (List.getElem_mem hk)
  apply hne
  rw [List.getElem?_eq_getElem hk]
  exact upStep_ne _ _ _ hz' hz this
theorem nameOf_set (zs : List Int) (h : ∀ z ∈ zs, 0 ≤ z ∧ z ≤ 255) (k : Nat) (hk : k < zs.length) : nameOf (zs.set k ((zs[k]?.getD 0 + 1) % 256)) ≠ nameOf zs := by
  have hz := mem_at zs h k
  have hu := upSum_set zs h k hk ((zs[k]?.getD 0 + 1) % 256) (by omega) (by omega)
  have a1 := loSum_bd zs
  have a2 := loSum_bd (zs.set k ((zs[k]?.getD 0 + 1) % 256))
  unfold nameOf
  omega
end Go.Proofs.Ythehmanifcfnpaa
