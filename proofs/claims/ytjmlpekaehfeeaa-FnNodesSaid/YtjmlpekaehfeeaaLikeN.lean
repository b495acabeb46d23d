/- Two nodes that read alike are told alike. -/
import Derived.Test.YtjmlpekaehfeeaaNodeX
import Derived.Test.YtjmlpekaehfeeaaLikeI
namespace Go.Proofs.Ytjmlpekaehfeeaa
set_option maxRecDepth 20000
open Go.RowKit

theorem likeNode_yes (v v' : Value) (nd : MNode) (B B' : Nat) (w : World) (hB : B ≤ w.heap.size) (hB' : B' ≤ w.heap.size) (hv : NodeIn w B v nd) (hv' : NodeIn w B' v' nd) :
    Calls Try.prog 33 #[v, v'] w fun e w' => e = .returned (.bool true) ∧ Below w.heap.size w w' := by
  obtain ⟨Ap, np, cp, Ak, nk, ck, rfl, hnp, hnk, hsz, hp, hk⟩ := hv
  obtain ⟨Ap', np', cp', Ak', nk', ck', rfl, hnp', hnk', hsz', hp', hk'⟩ := hv'
  obtain ⟨kind, path, kids, val⟩ := nd
  have e1 : np' = np := hp'.1.symm.trans hp.1
  have e2 : nk' = nk := hk'.1.symm.trans hk.1
  obtain rfl := e1
  obtain rfl := e2
  have HP := Lib.hid (hp.more hB)
  have HK := Lib.hid (hk.more hB)
  have HP' := Lib.hid (hp'.more hB')
  have HK' := Lib.hid (hk'.more hB')
  clear hp hk hp' hk'
  obtain ⟨w3, hw3⟩ : ∃ w3, ((w.alloc (.cells #[.int .i64 kind, .slice Ap np' cp, .slice Ak nk' ck, .string val] 40)).alloc (.cells #[.int .i64 kind, .slice Ap' np' cp', .slice Ak' nk' ck', .string val] 40)) = w3 := ⟨_, rfl⟩
  have x0 : Box w3 w.heap.size _ _ := hw3 ▸ heap2_0 _ _ _
  have x1 : Box w3 (w.heap.size + 1) _ _ := hw3 ▸ heap2_1 _ _ _
  have s3 : w3.heap.size = w.heap.size + 2 := hw3 ▸ size2 _ _ _
  have b3 : Below w.heap.size w w3 := hw3 ▸ below2 _ _ _
  have X0 := Lib.hid x0
  have X1 := Lib.hid x1
  have B3 := Lib.hid b3
  have HW := Lib.hid hw3
  clear x0 x1 b3 hw3
  go_enter Try.func33, Try.ntmps33
  go_wp2_with fail
  rw [HW.out]
  refine (likeInts_yes _ _ _ _ _ path _ _ w3 (by omega) (HP.out.below B3.out) (HP'.out.below B3.out)).mono ?_
  rintro e w4 ⟨rfl, m, hm⟩
  have b4 : Below w3.heap.size w3 w4 := by rw [hm]; exact below_drewN (Below.refl _ _) m
  clear hm
  have X0 := Lib.hid (X0.out.below b4 (by omega))
  have X1 := Lib.hid (X1.out.below b4 (by omega))
  have B4 := Lib.hid (B3.out.trans (b4.mono (by omega)))
  have s4 := b4.size
  clear b4
  have q02 := X0.out.cell 2
  have q12 := X1.out.cell 2
  have q03 := X0.out.cell 3
  have q13 := X1.out.cell 3
  simp at q02 q12 q03 q13
  go_wp2
  clear q02 q12 q03 q13
  go_loopw [5] (fun i wr => ∃ k m : Nat, k ≤ nk' ∧ i = .int .i64 k ∧ wr = w4.drewN m) (fun i _ => nk' - (intOf i).toNat)
  case atStart => exact ⟨0, 0, Nat.zero_le _, rfl, rfl⟩
  case round =>
    obtain ⟨k, m, hk, rfl, hwr⟩ := hrel
    have X0 : Hid (Box wr w.heap.size _ _) := Lib.hid (by rw [hwr]; exact X0.out)
    have X1 : Hid (Box wr (w.heap.size + 1) _ _) := Lib.hid (by rw [hwr]; exact X1.out)
    have hk1 : Kids wr w.heap.size Ak nk' kids := by rw [hwr]; exact (HK.out.below B4.out).drewN m
    have hk2 : Kids wr w.heap.size Ak' nk' kids := by rw [hwr]; exact (HK'.out.below B4.out).drewN m
    have HWR := Lib.hid hwr
    clear hwr
    have q02 := X0.out.cell 2
    have q12 := X1.out.cell 2
    simp at q02 q12
    by_cases hlt : k < nk'
    · obtain ⟨b, off, rfl, hbB, h0, h1⟩ := hk1.at_ hlt
      obtain ⟨b', off', rfl, hbB', h0', h1'⟩ := hk2.at_ hlt
      generalize kids[k]?.getD (0, 0) = x at h0 h1 h0' h1'
      go_wp2
      go_quiet (fail)
      go_wp2
      go_roundw
      case rel => exact ⟨k + 1, _, by omega, by go_num, by rw [HWR.out, World.drewN_drewN]⟩
      case measure => simp [intOf]; omega
    · go_wp2
      go_ret
      exact ⟨rfl, by rw [HWR.out]; exact below_drewN B4.out m⟩
end Go.Proofs.Ytjmlpekaehfeeaa
