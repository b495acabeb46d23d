/- Several texts in one, in build order: FoundP. -/
import Derived.Test.YtbgcbmbloegopaaPkE
-- FoundP: The program's Found: for all cells, roots and keys.
namespace Go.Proofs.Ytbgcbmbloegopaa
set_option maxRecDepth 100000
set_option linter.unusedVariables false
set_option linter.unusedSimpArgs false
open Go.RowKit

set_option maxHeartbeats 1000000 in
theorem implFound_any (A : Option Addr) (n c : Nat) (cs : List (Int × List Int)) (root : Int) (key : ByteArray) (B : Nat) (w : World) (hn : n ≤ 1048576) (hc : n ≤ c) (hA : A = none → c = 0) (hm : ∀ i, (cel cs i).2.length ≤ 1048576) (hk : key.size ≤ 1048576) (hB : B ≤ w.heap.size) (hb : Cells w B A n cs) :
    Calls Try.prog 7 #[.slice A n c, .int .i64 root, .string key] w fun e w' => ∃ v k, e = .returned (.tuple #[.string v, .int .i64 k]) ∧ FoundIs cs root key v k ∧ Below w.heap.size w w' := by
  have HB := Lib.hid hb
  clear hb
  go_enter Try.func7, Try.ntmps7
  go_wp2_with fail
  refine (nodesOf_any A n c cs B w hn hc hA hm hB HB.out).mono ?_
  rintro e w2 ⟨R, ns, b, rfl, b2, hor⟩
  have s2 := b2.size
  have B2 := Lib.hid b2
  clear b2
  obtain ⟨w3, hw3⟩ : ∃ w3, w2.alloc (.cells #[R.kv ns.length, R.vv ns.length] 43) = w3 := ⟨_, rfl⟩
  have b3 : Below w2.heap.size w2 w3 := hw3 ▸ (Below.refl _ _).alloc (Nat.le_refl _) _
  have P3 := Lib.hid (show Box w3 w2.heap.size 43 #[R.kv ns.length, R.vv ns.length] from hw3 ▸ heap_alloc_new _ _)
  have s3 : w3.heap.size = w2.heap.size + 1 := hw3 ▸ by simp
  have B3 := Lib.hid (B2.out.trans (b3.mono s2))
  unfold SR.kv SR.vv at hw3
  unfold SR.kv SR.vv
  rcases hor with ⟨rfl, hR, hnd⟩ | ⟨rfl, hno, hR0, hp0⟩
  · have D3 := Lib.hid (hnd.below b3)
    have RT := Lib.hid hR
    clear hnd hR b3
    go_wp2_with fail
    refine (keyOk_any key w3 hk).mono ?_
    rintro e w4 ⟨rfl, b4⟩
    have s4 := b4.size
    have B4 := Lib.hid (B3.out.trans (b4.mono (by omega)))
    have P4 := Lib.hid (P3.out.below b4 (by omega))
    have D4 := Lib.hid (D3.out.below b4)
    clear b4 B3 P3 D3
    obtain ⟨ik, hik⟩ : ∃ ik, isKey (sb key) = ik := ⟨_, rfl⟩
    rw [hik]
    have IK := Lib.hid hik
    clear hik
    cases ik with
    | false =>
      go_wp2
      go_ret2
      exact ⟨noStr, 3, rfl, .inl ⟨(fun h => by have := h.2.1; rw [IK.out] at this; cases this), rfl, rfl⟩, B4.out⟩
    | true =>
      by_cases hr : root < 0
      · have hd : decide (root < 0) = true := decide_eq_true hr
        have HR := Lib.hid hr
        clear hr
        go_wp2
        go_ret2
        exact ⟨noStr, 3, rfl, .inl ⟨fun h => by have := h.2.2; have := HR.out; omega, rfl, rfl⟩, B4.out⟩
      · have hd : decide (root < 0) = false := decide_eq_false hr
        have HR := Lib.hid hr
        clear hr
        have p40 := P4.out.cell 0
        have p41 := P4.out.cell 1
        unfold SR.kv at p40
        unfold SR.vv at p41
        simp at p40 p41
        have lp4 := P4.out.lt
        go_wp2_with fail
        go_region_law (first
          | (go_simp
             refine (pathOf_any key w4.drew hk).mono ?_
             rintro e w5 ⟨A5, n5, c5, rfl, o5, b5⟩
             have z5 : Below w4.heap.size w4 w5 := (below_drewN (Below.refl _ _) 1).trans b5
             have t5 : w4.heap.size ≤ w5.heap.size := b5.size
             have r0 := (P4.out.below z5 lp4).cell 0
             have r1 := (P4.out.below z5 lp4).cell 1
             unfold SR.kv at r0
             unfold SR.vv at r1
             simp at r0 r1
             obtain ⟨g5, a5, i5, l5, y5⟩ : ∃ g5, A5 = some ⟨g5, 0, none⟩ ∧ n5 ≤ c5 ∧ n5 ≤ 1048576 ∧ Ints w5 w5.heap.size A5 n5 (pathOf (sb key)) := by
               have hl2 := o5.len
               have h2 : pathOf (sb key) = (sb key).map wd := if_pos IK.out
               have h3 := sb_len key
               rw [h2] at hl2
               have h1 := IK.out
               unfold isKey at h1
               simp at h1 hl2
               obtain ⟨g5, rfl, _, _⟩ := o5.form (by omega)
               exact ⟨g5, rfl, o5.cap_', by omega, o5.ints⟩
             subst a5)
          | (go_simp
             refine (foundIn_any R ns cs root g5 0 n5 c5 w.heap.size (pathOf (sb key)) w5.heap.size w5 l5 i5 (Nat.le_refl _) RT.out (D4.out.below z5) y5).mono ?_
             rintro e w6 ⟨v, k, rfl, hd6, b6⟩))
        all_goals
          have B6 : Below w.heap.size w w6 := B4.out.trans ((z5.trans (b6.mono t5)).mono (by omega))
          clear p40 p41 r0 r1
          go_wp2
          go_ret2
          exact ⟨v, k, rfl, .inr ⟨⟨RT.out, IK.out, by have := HR.out; omega⟩, hd6⟩, B6⟩
  · subst hR0
    subst hp0
    clear b3
    have p30 := P3.out.cell 0
    have p31 := P3.out.cell 1
    have pf := P3.out.free
    unfold SR.kv at p30
    unfold SR.vv at p31
    simp [SR0] at p30 p31
    have hno := Lib.hid hno
    simp only [SR0, List.length_nil] at hw3 ⊢
    go_wp2
    go_ret2
    have s5 := set2 P3.out (.slice none 0 0) (.slice none 0 0)
    exact ⟨noStr, 3, rfl, .inl ⟨fun h => hno.out h.1, rfl, rfl⟩, B3.out.trans (s5.2.below (by omega) (fun k hk e => by omega))⟩
end Go.Proofs.Ytbgcbmbloegopaa
