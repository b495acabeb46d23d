/- What the program's NodeOk answers: for every node. -/
import Derived.Test.YtjmlpekaehfeeaaAllows
namespace Go.Proofs.Ytjmlpekaehfeeaa
set_option maxRecDepth 20000
set_option linter.unusedSimpArgs false
open Go.RowKit

theorem key_no (ps : List Int) (h : isPath ps = false) : strOfNums (keyOf ps) = { data := #[] } := by
  unfold keyOf
  rw [if_neg (by rw [h]; decide)]
  rfl
theorem key_yes (ps : List Int) (h : isPath ps = true) (hn : 0 < ps.length) : (strOfNums (keyOf ps)).toList.isEmpty = false := by
  obtain ⟨h1, h2⟩ := (isPath_iff ps).1 h
  rw [keyOf_good ps h1 h2]
  rcases hb : (strOfNums (ps.map dig)).toList.isEmpty with _ | _
  · rfl
  · have e := empty_str _ (by simpa using hb)
    have hs := strOfNums_size (ps.map dig)
    rw [e, List.length_map] at hs
    have h0 : (ByteArray.mk #[]).size = 0 := rfl
    omega

set_option maxHeartbeats 1600000 in      -- one walk, the ways through four tests
theorem progNodeOk_any (v : Value) (nd : MNode) (B : Nat) (w : World) (hB : B ≤ w.heap.size) (hv : NodeIn w B v nd) :
    Calls Try.prog 34 #[v] w fun e w' => e = .returned (.bool (nodeOk nd)) ∧ Below w.heap.size w w' := by
  have HN : Hid (∀ W, Below w.heap.size w W → NodeIn W w.heap.size v nd) := fun W hW => (hv.more hB).below hW
  obtain ⟨Ap, np, cp, Ak, nk, ck, rfl, hnp, hnk, hsz, hp, hk⟩ := hv
  obtain ⟨kind, path, kids, val⟩ := nd
  have HP := Lib.hid (hp.more hB)
  have HK := Lib.hid (hk.more hB)
  have LP : Hid (path.length = np) := hp.1
  have LK : Hid (kids.length = nk) := hk.1
  have SV := Lib.hid hsz
  have b0 := (Below.refl w.heap.size w).alloc (Nat.le_refl _) (.cells #[.int .i64 kind, .slice Ap np cp, .slice Ak nk ck, .string val] 40)
  have xb : Box (w.alloc (.cells #[.int .i64 kind, .slice Ap np cp, .slice Ak nk ck, .string val] 40)) w.heap.size _ _ := heap_alloc_new _ _
  have XB := Lib.hid xb
  have B0 := Lib.hid b0
  clear hp hk hsz b0 xb
  go_enter Try.func34, Try.ntmps34
  have q0 := XB.out.cell 0
  have q1 := XB.out.cell 1
  have q2 := XB.out.cell 2
  have q3 := XB.out.cell 3
  simp at q0 q1 q2 q3
  by_cases h0 : np = 0
  · obtain rfl := h0
    have h1 : isPath path = true := by rw [List.eq_nil_of_length_eq_zero LP.out]; rfl
    by_cases hE : val.toList = []
    · obtain rfl := empty_str val hE
      clear hE
      go_wp2_with fail
      refine (kidsOkP_any _ _ _ kids _ _ B0.out.size (by omega) (HK.out.below B0.out)).mono ?_
      rintro e w3 ⟨rfl, b3⟩
      have XB := Lib.hid (XB.out.below b3 XB.out.lt)
      have B3 := Lib.hid (B0.out.trans (b3.mono B0.out.size))
      clear b3 q0 q1 q2 q3
      have q0 := XB.out.cell 0
      have q1 := XB.out.cell 1
      have q2 := XB.out.cell 2
      have q3 := XB.out.cell 3
      simp at q0 q1 q2 q3
      by_cases h2 : kidsOk kids = true
      · rw [h2]
        go_wp2_with fail
        refine (allows_any _ ⟨kind, path, kids, { data := #[] }⟩ _ _ (B3.out.size) (HN.out _ B3.out)).mono ?_
        rintro e w9 ⟨rfl, b9⟩
        go_wp2
        go_ret
        exact ⟨ret_b (by simp [nodeOk, hasVal, h1, h2]), B3.out.trans (b9.mono B3.out.size)⟩
      · have h2 : kidsOk kids = false := by simpa using h2
        rw [h2]
        go_wp2
        go_ret
        exact ⟨ret_b (by simp [nodeOk, hasVal, h1, h2]), B3.out⟩
    · have hE2 : val.toList.isEmpty = false := by simpa using hE
      go_wp2_with fail
      refine (valueOk_any val _ SV.out).mono ?_
      rintro e w' ⟨rfl, rfl⟩
      by_cases h3 : valOk (sb val) = true
      · rw [h3]
        go_wp2_with fail
        refine (kidsOkP_any _ _ _ kids _ _ B0.out.size (by omega) (HK.out.below B0.out)).mono ?_
        rintro e w3 ⟨rfl, b3⟩
        have XB := Lib.hid (XB.out.below b3 XB.out.lt)
        have B3 := Lib.hid (B0.out.trans (b3.mono B0.out.size))
        clear b3 q0 q1 q2 q3
        have q0 := XB.out.cell 0
        have q1 := XB.out.cell 1
        have q2 := XB.out.cell 2
        have q3 := XB.out.cell 3
        simp at q0 q1 q2 q3
        by_cases h2 : kidsOk kids = true
        · rw [h2]
          go_wp2_with fail
          refine (allows_any _ ⟨kind, path, kids, val⟩ _ _ (B3.out.size) (HN.out _ B3.out)).mono ?_
          rintro e w9 ⟨rfl, b9⟩
          go_wp2
          go_ret
          exact ⟨ret_b (by simp [nodeOk, hasVal, h1, hE2, h3, h2]), B3.out.trans (b9.mono B3.out.size)⟩
        · have h2 : kidsOk kids = false := by simpa using h2
          rw [h2]
          go_wp2
          go_ret
          exact ⟨ret_b (by simp [nodeOk, hasVal, h1, hE2, h3, h2]), B3.out⟩
      · have h3 : valOk (sb val) = false := by simpa using h3
        rw [h3]
        go_wp2
        go_ret
        exact ⟨ret_b (by simp [nodeOk, hasVal, h1, hE2, h3]), B0.out⟩
  · have d0 : decide ((np : Int) = 0) = false := decide_eq_false (by omega)
    have d1 : ((np : Int) == 0) = false := d0
    go_wp2_with fail
    refine (keyOf_any _ _ _ path _ _ hnp B0.out.size (HP.out.below B0.out)).mono ?_
    rintro e w1 ⟨rfl, b1⟩
    have XB := Lib.hid (XB.out.below b1 XB.out.lt)
    have B1 := Lib.hid (B0.out.trans (b1.mono B0.out.size))
    clear b1 q0 q1 q2 q3
    have q0 := XB.out.cell 0
    have q1 := XB.out.cell 1
    have q2 := XB.out.cell 2
    have q3 := XB.out.cell 3
    simp at q0 q1 q2 q3
    by_cases h1 : isPath path = true
    · have hy := key_yes path h1 (by have := LP.out; omega)
      generalize strOfNums (keyOf path) = s at hy ⊢
      by_cases hE : val.toList = []
      · obtain rfl := empty_str val hE
        clear hE
        go_wp2_with fail
        refine (kidsOkP_any _ _ _ kids _ _ B1.out.size (by omega) (HK.out.below B1.out)).mono ?_
        rintro e w3 ⟨rfl, b3⟩
        have XB := Lib.hid (XB.out.below b3 XB.out.lt)
        have B3 := Lib.hid (B1.out.trans (b3.mono B1.out.size))
        clear b3 q0 q1 q2 q3
        have q0 := XB.out.cell 0
        have q1 := XB.out.cell 1
        have q2 := XB.out.cell 2
        have q3 := XB.out.cell 3
        simp at q0 q1 q2 q3
        by_cases h2 : kidsOk kids = true
        · rw [h2]
          go_wp2_with fail
          refine (allows_any _ ⟨kind, path, kids, { data := #[] }⟩ _ _ (B3.out.size) (HN.out _ B3.out)).mono ?_
          rintro e w9 ⟨rfl, b9⟩
          go_wp2
          go_ret
          exact ⟨ret_b (by simp [nodeOk, hasVal, h1, h2]), B3.out.trans (b9.mono B3.out.size)⟩
        · have h2 : kidsOk kids = false := by simpa using h2
          rw [h2]
          go_wp2
          go_ret
          exact ⟨ret_b (by simp [nodeOk, hasVal, h1, h2]), B3.out⟩
      · have hE2 : val.toList.isEmpty = false := by simpa using hE
        go_wp2_with fail
        refine (valueOk_any val _ SV.out).mono ?_
        rintro e w' ⟨rfl, rfl⟩
        by_cases h3 : valOk (sb val) = true
        · rw [h3]
          go_wp2_with fail
          refine (kidsOkP_any _ _ _ kids _ _ B1.out.size (by omega) (HK.out.below B1.out)).mono ?_
          rintro e w3 ⟨rfl, b3⟩
          have XB := Lib.hid (XB.out.below b3 XB.out.lt)
          have B3 := Lib.hid (B1.out.trans (b3.mono B1.out.size))
          clear b3 q0 q1 q2 q3
          have q0 := XB.out.cell 0
          have q1 := XB.out.cell 1
          have q2 := XB.out.cell 2
          have q3 := XB.out.cell 3
          simp at q0 q1 q2 q3
          by_cases h2 : kidsOk kids = true
          · rw [h2]
            go_wp2_with fail
            refine (allows_any _ ⟨kind, path, kids, val⟩ _ _ (B3.out.size) (HN.out _ B3.out)).mono ?_
            rintro e w9 ⟨rfl, b9⟩
            go_wp2
            go_ret
            exact ⟨ret_b (by simp [nodeOk, hasVal, h1, hE2, h3, h2]), B3.out.trans (b9.mono B3.out.size)⟩
          · have h2 : kidsOk kids = false := by simpa using h2
            rw [h2]
            go_wp2
            go_ret
            exact ⟨ret_b (by simp [nodeOk, hasVal, h1, hE2, h3, h2]), B3.out⟩
        · have h3 : valOk (sb val) = false := by simpa using h3
          rw [h3]
          go_wp2
          go_ret
          exact ⟨ret_b (by simp [nodeOk, hasVal, h1, hE2, h3]), B1.out⟩
    · have h1 : isPath path = false := by simpa using h1
      rw [key_no path h1]
      go_wp2
      go_ret
      exact ⟨ret_b (by simp [nodeOk, hasVal, h1]), B1.out⟩
end Go.Proofs.Ytjmlpekaehfeeaa
