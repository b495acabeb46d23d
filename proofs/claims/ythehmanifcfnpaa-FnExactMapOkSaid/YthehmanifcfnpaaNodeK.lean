/- What the model's NodeOk answers: for every node. -/
import Derived.Test.YthehmanifcfnpaaNodeS
namespace Go.Proofs.Ythehmanifcfnpaa
set_option maxRecDepth 20000
open Go.RowKit

/-- the value v is the node nd, its lists below block B. -/
def NodeIn (w : World) (B : Nat) (v : Value) (nd : MNode) : Prop :=
  ∃ Ap np cp Ak nk ck, v = .agg #[.int .i64 nd.kind, .slice Ap np cp, .slice Ak nk ck, .string nd.val] ∧ np ≤ 1048576 ∧ nk ≤ 1048576 ∧ nd.val.size ≤ 1048576 ∧ Ints w B Ap np nd.path ∧ Kids w B Ak nk nd.kids

theorem NodeIn.below {w w' : World} {B : Nat} {v : Value} {nd : MNode} (h : NodeIn w B v nd) (hb : Below B w w') : NodeIn w' B v nd := by
  obtain ⟨Ap, np, cp, Ak, nk, ck, rfl, h1, h2, h3, h4, h5⟩ := h
  exact ⟨Ap, np, cp, Ak, nk, ck, rfl, h1, h2, h3, h4.below hb, h5.below hb⟩
theorem NodeIn.more {w : World} {B B' : Nat} {v : Value} {nd : MNode} (h : NodeIn w B v nd) (hB : B ≤ B') : NodeIn w B' v nd := by
  obtain ⟨Ap, np, cp, Ak, nk, ck, rfl, h1, h2, h3, h4, h5⟩ := h
  exact ⟨Ap, np, cp, Ak, nk, ck, rfl, h1, h2, h3, h4.more hB, h5.more hB⟩

theorem empty_str (s : ByteArray) (h : s.toList = []) : s = { data := #[] } := by
  obtain ⟨⟨l⟩⟩ := s
  have e : (ByteArray.mk l.toArray).toList = l := ByteArray.toList_mk l
  have h' : (ByteArray.mk l.toArray).toList = [] := h
  rw [e] at h'
  rw [h']

set_option maxHeartbeats 1000000 in      -- one walk, the ways through four tests and a switch of three
theorem specNodeOk_any (v : Value) (nd : MNode) (B : Nat) (w : World) (hB : B ≤ w.heap.size) (hv : NodeIn w B v nd) :
    Calls Try.prog 64 #[v] w fun e w' => e = .returned (.bool (nodeOk nd)) ∧ Below w.heap.size w w' := by
  obtain ⟨Ap, np, cp, Ak, nk, ck, rfl, hnp, hnk, hsz, hp, hk⟩ := hv
  obtain ⟨kind, path, kids, val⟩ := nd
  have HP := Lib.hid (hp.more hB)
  have HK := Lib.hid (hk.more hB)
  have LP : Hid (path.length = np) := hp.1
  have LK : Hid (kids.length = nk) := hk.1
  have BW := fun m => Lib.hid (below_drewN ((Below.refl w.heap.size w).alloc (Nat.le_refl _) (.cells #[.int .i64 kind, .slice Ap np cp, .slice Ak nk ck, .string val] 77)) m)
  have SV := Lib.hid hsz
  clear hp hk hsz
  go_enter Try.func64, Try.ntmps64
  go_wp2_with fail
  refine (l3Path_any _ _ _ path _ _ (by omega) (HP.out.alloc (Nat.le_refl _) _)).mono ?_
  rintro e w' ⟨rfl, rfl⟩
  by_cases h1 : isPath path = true
  · rw [h1]
    go_wp2_with fail
    refine (l3Kids_any _ _ _ kids _ _ (by omega) (HK.out.alloc (Nat.le_refl _) _)).mono ?_
    rintro e w' ⟨rfl, m, rfl⟩
    by_cases h2 : kidsOk kids = true
    · rw [h2]
      by_cases hE : val.toList = []
      · obtain rfl := empty_str val hE
        clear hE
        by_cases hk1 : kind = 1
        · obtain rfl := hk1
          by_cases hz : nk = 0
          · obtain rfl := hz
            go_wp2
            go_ret
            exact ⟨ret_b (by simp [nodeOk, kindOk, hasVal, h1, h2, LK.out]), (BW _).out⟩
          · have hd : decide ((nk : Int) = 0) = false := decide_eq_false (by omega)
            go_wp2
            go_ret
            exact ⟨ret_b (by simp [nodeOk, kindOk, hasVal, h1, h2, LK.out, hz]), (BW _).out⟩
        · by_cases hk2 : kind = 2
          · obtain rfl := hk2
            by_cases hz : np = 0
            · obtain rfl := hz
              go_wp2
              go_ret
              exact ⟨ret_b (by simp [nodeOk, kindOk, hasVal, h1, h2, LP.out, LK.out]), (BW _).out⟩
            · have hd : decide ((0 : Int) < (np : Int)) = true := decide_eq_true (by omega)
              have hz' : 0 < np := by omega
              by_cases hz1 : nk = 1
              · obtain rfl := hz1
                obtain ⟨b, off, rfl, hbB, p0, p1⟩ := HK.out.at_ (k := 0) (by omega)
                rw [Nat.zero_mul, Nat.add_zero] at p0 p1
                have hbw : b < w.heap.size := hbB
                have hx : ∃ x, kids[0]?.getD (0, 0) = x := ⟨_, rfl⟩
                obtain ⟨x, hx⟩ := hx
                rw [hx] at p0 p1
                have HX : Hid (at0 kids = x.1) := by unfold at0; rw [hx]; rfl
                clear hx
                go_wp2
                go_ret
                exact ⟨ret_b (by simp [nodeOk, kindOk, hasVal, h1, h2, LP.out, LK.out, hz']; rw [HX.out]; rfl), (BW _).out⟩
              · have hd1 : decide ((nk : Int) = 1) = false := decide_eq_false (by omega)
                go_wp2
                go_ret
                exact ⟨ret_b (by simp [nodeOk, kindOk, hasVal, h1, h2, LP.out, LK.out, hz1, hz']), (BW _).out⟩
          · by_cases hk3 : kind = 3
            · obtain rfl := hk3
              by_cases hz : np = 0
              · obtain rfl := hz
                go_wp2
                go_ret
                exact ⟨ret_b (by simp [nodeOk, kindOk, hasVal, h1, h2, LP.out, LK.out]; omega), (BW _).out⟩
              · have hd : decide ((np : Int) = 0) = false := decide_eq_false (by omega)
                go_wp2
                go_ret
                exact ⟨ret_b (by simp [nodeOk, kindOk, hasVal, h1, h2, LP.out, LK.out, hz]), (BW _).out⟩
            · have d1 : decide (kind = 1) = false := decide_eq_false hk1
              have d2 : decide (kind = 2) = false := decide_eq_false hk2
              have d3 : decide (kind = 3) = false := decide_eq_false hk3
              go_wp2
              go_ret
              exact ⟨ret_b (by simp [nodeOk, kindOk, hasVal, h1, h2, hk1, hk2, hk3]), (BW _).out⟩
      · have hE2 : val.toList.isEmpty = false := by simpa using hE
        go_wp2_with fail
        refine (specValueOk_any val _ SV.out).mono ?_
        rintro e w' ⟨rfl, m2, rfl⟩
        by_cases h3 : valOk (sb val) = true
        · rw [h3]
          by_cases hk1 : kind = 1
          · obtain rfl := hk1
            by_cases hz : nk = 0
            · obtain rfl := hz
              go_wp2
              go_ret
              exact ⟨ret_b (by simp [nodeOk, kindOk, hasVal, h1, h2, LK.out, hE2, h3]), (BW _).out⟩
            · have hd : decide ((nk : Int) = 0) = false := decide_eq_false (by omega)
              go_wp2
              go_ret
              exact ⟨ret_b (by simp [nodeOk, kindOk, hasVal, h1, h2, LK.out, hE2, h3, hz]), (BW _).out⟩
          · by_cases hk2 : kind = 2
            · obtain rfl := hk2
              by_cases hz : np = 0
              · obtain rfl := hz
                go_wp2
                go_ret
                exact ⟨ret_b (by simp [nodeOk, kindOk, hasVal, h1, h2, LP.out, LK.out, hE2, h3]), (BW _).out⟩
              · have hd : decide ((0 : Int) < (np : Int)) = true := decide_eq_true (by omega)
                go_wp2
                go_ret
                exact ⟨ret_b (by simp [nodeOk, kindOk, hasVal, h1, h2, LP.out, LK.out, hE2, h3]), (BW _).out⟩
            · by_cases hk3 : kind = 3
              · obtain rfl := hk3
                by_cases hz : np = 0
                · obtain rfl := hz
                  go_wp2
                  go_ret
                  exact ⟨ret_b (by simp [nodeOk, kindOk, hasVal, h1, h2, LP.out, LK.out, hE2, h3]; omega), (BW _).out⟩
                · have hd : decide ((np : Int) = 0) = false := decide_eq_false (by omega)
                  go_wp2
                  go_ret
                  exact ⟨ret_b (by simp [nodeOk, kindOk, hasVal, h1, h2, LP.out, LK.out, hE2, h3, hz]), (BW _).out⟩
              · have d1 : decide (kind = 1) = false := decide_eq_false hk1
                have d2 : decide (kind = 2) = false := decide_eq_false hk2
                have d3 : decide (kind = 3) = false := decide_eq_false hk3
                go_wp2
                go_ret
                exact ⟨ret_b (by simp [nodeOk, kindOk, hasVal, h1, h2, hE2, h3, hk1, hk2, hk3]), (BW _).out⟩
        · have h3 : valOk (sb val) = false := by simpa using h3
          rw [h3]
          go_wp2
          go_ret
          exact ⟨ret_b (by simp [nodeOk, hasVal, hE2, h3]), (BW _).out⟩
    · have h2 : kidsOk kids = false := by simpa using h2
      rw [h2]
      go_wp2
      go_ret
      exact ⟨ret_b (by simp [nodeOk, h2]), (BW _).out⟩
  · have h1 : isPath path = false := by simpa using h1
    rw [h1]
    go_wp2
    go_ret
    exact ⟨ret_b (by simp [nodeOk, h1]), (BW 0).out⟩
end Go.Proofs.Ythehmanifcfnpaa
