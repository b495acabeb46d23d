/- What the program's NodeOk answers, and the helper that asks whether a kind allows its parts: for every node. -/
import Derived.Test.YtjmlpekaehfeeaaNodeP
import Derived.Test.YtjmlpekaehfeeaaTouch
namespace Go.Proofs.Ytjmlpekaehfeeaa
set_option maxRecDepth 20000
set_option linter.unusedSimpArgs false
open Go.RowKit

set_option maxHeartbeats 1600000 in      -- one walk, the ways through a switch of three
theorem allows_any (v : Value) (nd : MNode) (B : Nat) (w : World) (hB : B ≤ w.heap.size) (hv : NodeIn w B v nd) :
    Calls Try.prog 73 #[.int .i64 nd.kind, v] w fun e w' => e = .returned (.bool (kindOk nd)) ∧ Below w.heap.size w w' := by
  obtain ⟨Ap, np, cp, Ak, nk, ck, rfl, hnp, hnk, hsz, hp, hk⟩ := hv
  obtain ⟨kind, path, kids, val⟩ := nd
  have HK := Lib.hid (hk.more hB)
  have LP : Hid (path.length = np) := hp.1
  have LK : Hid (kids.length = nk) := hk.1
  have BW := fun m => Lib.hid (below_drewN ((Below.refl w.heap.size w).alloc (Nat.le_refl _) (.cells #[.int .i64 kind, .slice Ap np cp, .slice Ak nk ck, .string val] 40)) m)
  clear hp hk hsz
  go_enter Try.func73, Try.ntmps73
  by_cases hE : val.toList = []
  · obtain rfl := empty_str val hE
    clear hE
    by_cases hk1 : kind = 1
    · obtain rfl := hk1
      by_cases hz : nk = 0
      · obtain rfl := hz
        go_wp2
        go_quiet (fail)
        go_wp2
        go_ret
        exact ⟨ret_b (by simp [kindOk, hasVal, LP.out, LK.out]), (BW _).out⟩
      · have hd : decide ((nk : Int) = 0) = false := decide_eq_false (by omega)
        have hd0 : ((nk : Int) == 0) = false := hd
        go_wp2
        go_quiet (fail)
        go_wp2
        go_ret
        exact ⟨ret_b (by simp [kindOk, hasVal, LP.out, LK.out, hz]), (BW _).out⟩
    · by_cases hk2 : kind = 2
      · obtain rfl := hk2
        by_cases hz : np = 0
        · obtain rfl := hz
          go_wp2
          go_quiet (fail)
          go_wp2
          go_ret
          exact ⟨ret_b (by simp [kindOk, hasVal, LP.out, LK.out]), (BW _).out⟩
        · have hd : decide ((0 : Int) < (np : Int)) = true := decide_eq_true (by omega)
          have hz' : 0 < np := by omega
          by_cases hz1 : nk = 1
          · obtain rfl := hz1
            obtain ⟨b, off, rfl, hbB, p0, p1⟩ := HK.out.at_ (k := 0) (by omega)
            rw [Nat.zero_mul, Nat.add_zero] at p0 p1
            have hbw : b < w.heap.size := hbB
            have hx : ∃ x, kids[0]?.getD (0, 0) = x := ⟨_, rfl⟩
            obtain ⟨x, hx⟩ := hx
            rw [hx] at p0 p1
            have HX : Hid (at0 kids = x.1) := by unfold at0; rw [hx]; rfl
            clear hx
            go_wp2
            go_quiet (fail)
            go_wp2
            go_ret
            exact ⟨ret_b (by simp [kindOk, hasVal, LP.out, LK.out, hz']; rw [HX.out]; rfl), (BW _).out⟩
          · have hd1 : decide ((nk : Int) = 1) = false := decide_eq_false (by omega)
            have hd2 : ((nk : Int) == 1) = false := hd1
            go_wp2
            go_quiet (fail)
            go_wp2
            go_ret
            exact ⟨ret_b (by simp [kindOk, hasVal, LP.out, LK.out, hz', hz1]), (BW _).out⟩
      · by_cases hk3 : kind = 3
        · obtain rfl := hk3
          by_cases hz : np = 0
          · obtain rfl := hz
            by_cases hm : 1 < nk
            · have hd : decide ((1 : Int) < (nk : Int)) = true := decide_eq_true (by omega)
              go_wp2
              go_quiet (fail)
              go_wp2
              go_ret
              exact ⟨ret_b (by simp [kindOk, hasVal, LP.out, LK.out]; omega), (BW _).out⟩
            · have hd : decide ((1 : Int) < (nk : Int)) = false := decide_eq_false (by omega)
              by_cases hz1 : nk = 1
              · obtain rfl := hz1
                go_wp2
                go_quiet (fail)
                go_wp2
                go_ret
                exact ⟨ret_b (by simp [kindOk, hasVal, LP.out, LK.out]), (BW _).out⟩
              · obtain rfl : nk = 0 := by omega
                go_wp2
                go_quiet (fail)
                go_wp2
                go_ret
                exact ⟨ret_b (by simp [kindOk, hasVal, LP.out, LK.out]), (BW _).out⟩
          · have hd : decide ((np : Int) = 0) = false := decide_eq_false (by omega)
            have hd0 : ((np : Int) == 0) = false := hd
            go_wp2
            go_quiet (fail)
            go_wp2
            go_ret
            exact ⟨ret_b (by simp [kindOk, hasVal, LP.out, LK.out, hz]), (BW _).out⟩
        · have d1 : decide (kind = 1) = false := decide_eq_false hk1
          have d2 : decide (kind = 2) = false := decide_eq_false hk2
          have d3 : decide (kind = 3) = false := decide_eq_false hk3
          go_wp2
          go_quiet (fail)
          go_wp2
          go_ret
          exact ⟨ret_b (by simp [kindOk, hasVal, LP.out, LK.out, hk1, hk2, hk3]), (BW _).out⟩
  · have hE2 : val.toList.isEmpty = false := by simpa using hE
    by_cases hk1 : kind = 1
    · obtain rfl := hk1
      by_cases hz : nk = 0
      · obtain rfl := hz
        go_wp2
        go_quiet (fail)
        go_wp2
        go_ret
        exact ⟨ret_b (by simp [kindOk, hasVal, LP.out, LK.out, hE2]), (BW _).out⟩
      · have hd : decide ((nk : Int) = 0) = false := decide_eq_false (by omega)
        have hd0 : ((nk : Int) == 0) = false := hd
        go_wp2
        go_quiet (fail)
        go_wp2
        go_ret
        exact ⟨ret_b (by simp [kindOk, hasVal, LP.out, LK.out, hE2, hz]), (BW _).out⟩
    · by_cases hk2 : kind = 2
      · obtain rfl := hk2
        by_cases hz : np = 0
        · obtain rfl := hz
          go_wp2
          go_quiet (fail)
          go_wp2
          go_ret
          exact ⟨ret_b (by simp [kindOk, hasVal, LP.out, LK.out, hE2]), (BW _).out⟩
        · have hd : decide ((0 : Int) < (np : Int)) = true := decide_eq_true (by omega)
          have hz' : 0 < np := by omega
          go_wp2
          go_quiet (fail)
          go_wp2
          go_ret
          exact ⟨ret_b (by simp [kindOk, hasVal, LP.out, LK.out, hE2]), (BW _).out⟩
      · by_cases hk3 : kind = 3
        · obtain rfl := hk3
          by_cases hz : np = 0
          · obtain rfl := hz
            by_cases hm : 1 < nk
            · have hd : decide ((1 : Int) < (nk : Int)) = true := decide_eq_true (by omega)
              go_wp2
              go_quiet (fail)
              go_wp2
              go_ret
              exact ⟨ret_b (by simp [kindOk, hasVal, LP.out, LK.out, hE2]; omega), (BW _).out⟩
            · have hd : decide ((1 : Int) < (nk : Int)) = false := decide_eq_false (by omega)
              by_cases hz1 : nk = 1
              · obtain rfl := hz1
                go_wp2
                go_quiet (fail)
                go_wp2
                go_ret
                exact ⟨ret_b (by simp [kindOk, hasVal, LP.out, LK.out, hE2]), (BW _).out⟩
              · obtain rfl : nk = 0 := by omega
                go_wp2
                go_quiet (fail)
                go_wp2
                go_ret
                exact ⟨ret_b (by simp [kindOk, hasVal, LP.out, LK.out, hE2]), (BW _).out⟩
          · have hd : decide ((np : Int) = 0) = false := decide_eq_false (by omega)
            have hd0 : ((np : Int) == 0) = false := hd
            go_wp2
            go_quiet (fail)
            go_wp2
            go_ret
            exact ⟨ret_b (by simp [kindOk, hasVal, LP.out, LK.out, hE2, hz]), (BW _).out⟩
        · have d1 : decide (kind = 1) = false := decide_eq_false hk1
          have d2 : decide (kind = 2) = false := decide_eq_false hk2
          have d3 : decide (kind = 3) = false := decide_eq_false hk3
          go_wp2
          go_quiet (fail)
          go_wp2
          go_ret
          exact ⟨ret_b (by simp [kindOk, hasVal, LP.out, LK.out, hE2, hk1, hk2, hk3]), (BW _).out⟩
end Go.Proofs.Ytjmlpekaehfeeaa
