/- Several texts in one, in build order: NodeF, CellS, CellN, OpenNode, OpenCells, CellsX, CellsY, CellC, L1B, FrameS, FrameI, FrmA, FrmP. -/
import Derived.Test.YtepaikljiddiaaaPkB
import Derived.Deep.RegionLaw
import Derived.Deep.AppendLies
import Derived.BigRegion
import Derived.Deep.RegionHeld3
import Derived.ProofKit
import Derived.OpenShut
import Derived.ShutString
import Derived.ChangeOld
import Derived.Lib.SmallJoins
import Derived.Deep.SlicePairs
import Derived.Deep.DeepCutAuto
import Derived.Laws.CopyOwn
-- NodeF: What the model's NodeFrom reads of some bytes.
namespace Go.Proofs.Ytepaikljiddiaaa
set_option maxRecDepth 20000
open Go.RowKit

/-- the node that is none, as a value. -/
def node0V : Value := .agg #[.int .i64 0, .slice none 0 0, .slice none 0 0, .string { data := #[] }]
theorem node0_own (w : World) (base : Nat) : OwnN w base node0V node0 :=
  ⟨none, 0, 0, none, 0, 0, rfl, by omega, by omega, by decide, OwnI.nil _ _, OwnK.nil _ _, fun g hg => by simp [Value.ownBlock] at hg⟩
set_option maxHeartbeats 1600000 in
theorem specNodeFrom_any (A : Option Addr) (n c : Nat) (bs : List Int) (B : Nat) (w : World) (hn : n ≤ 1048576) (hc : n ≤ c) (hB : B ≤ w.heap.size) (hb : Byts w B A n bs) :
    Calls Try.prog 74 #[.slice A n c] w fun e w' => ∃ v nd b, e = .returned (.tuple #[v, .bool b]) ∧ OwnN w' w.heap.size v nd ∧ NodeRead bs nd b ∧ Below w.heap.size w w' := by
  have HB := Lib.hid (hb.more hB)
  have hlen : bs.length = n := hb.1
  have hr := hb.2.1
  clear hb
  obtain ⟨w1, hw1⟩ : ∃ w1, w.alloc (.cells #[.int .i64 0, .slice none 0 0, .slice none 0 0, .string { data := #[] }] 46) = w1 := ⟨_, rfl⟩
  have x1 : Box w1 w.heap.size _ _ := hw1 ▸ heap_alloc_new _ _
  have s1 : w1.heap.size = w.heap.size + 1 := hw1 ▸ by simp
  have b1 : Below w.heap.size w w1 := hw1 ▸ (Below.refl _ _).alloc (Nat.le_refl _) _
  have X1 := Lib.hid x1
  have B1 := Lib.hid b1
  have HW := Lib.hid hw1
  clear x1 b1 hw1
  by_cases h0 : n = 0
  · have q10 := X1.out.cell 0
    have q11 := X1.out.cell 1
    have q12 := X1.out.cell 2
    have q13 := X1.out.cell 3
    have f1 := X1.out.free
    simp at q10 q11 q12 q13
    subst h0
    go_enter Try.func74, Try.ntmps74
    go_wp2_with fail
    rw [HW.out]
    refine bodyPost_ret (v := .tuple #[node0V, .bool false]) (results_box2 Try.results74 _ _ w.heap.size _ _ _ _ rfl rfl X1.out Try.underlying46 rfl (by kernel_rfl)) rfl ?_
    exact ⟨_, node0, false, rfl, node0_own _ _, none_empty bs hlen, B1.out⟩
  obtain ⟨r1, e1, hp1⟩ : ∃ r1 e1, part bs ((1 : Nat) : Int) 1 = (r1, e1) := ⟨_, _, rfl⟩
  have g1 := part_range bs hr ((1 : Nat) : Int) 1
  obtain ⟨r2, e2, hp2⟩ : ∃ r2 e2, part bs e1 1 = (r2, e2) := ⟨_, _, rfl⟩
  have g2 := part_range bs hr e1 1
  obtain ⟨r3, e3, hp3⟩ : ∃ r3 e3, part bs e2 9 = (r3, e3) := ⟨_, _, rfl⟩
  have g3 := part_range bs hr e2 9
  rw [hp1] at g1
  rw [hp2] at g2
  rw [hp3] at g3
  have P1 := Lib.hid hp1
  have P2 := Lib.hid hp2
  have P3 := Lib.hid hp3
  have hd0 : decide ((n : Int) = 0) = false := decide_eq_false (by omega)
  simp only [hlen] at g1 g2 g3
  clear hp1 hp2 hp3
  go_enter Try.func74, Try.ntmps74
  go_wp2_with fail
  rw [HW.out]
  refine (l3Part_any A n c bs ((1 : Nat) : Int) 1 _ w1 hn hc (by omega) (by omega) (by omega) (HB.out.below B1.out)).mono ?_
  rintro e w2 ⟨A2, n2, c2, rfl, hc2, y2, b2⟩
  rw [P1.out] at y2 ⊢
  have Y2 := Lib.hid y2
  have X1 := Lib.hid (X1.out.below b2 (by omega))
  have B2 := Lib.hid (B1.out.trans (b2.mono (by omega)))
  have s2 := b2.size
  clear b2 y2
  go_wp2_with fail
  refine (l3Part_any A n c bs e1 1 _ w2 hn hc (by omega) (by omega) (by omega) (HB.out.below B2.out)).mono ?_
  rintro e w3 ⟨A3, n3, c3, rfl, hc3, y3, b3⟩
  rw [P2.out] at y3 ⊢
  have Y3 := Lib.hid y3
  have Y2 := Lib.hid (Y2.out.below (b3.mono (by omega)))
  have X1 := Lib.hid (X1.out.below b3 (by omega))
  have B3 := Lib.hid (B2.out.trans (b3.mono (by omega)))
  have s3 := b3.size
  clear b3 y3
  go_wp2_with fail
  refine (l3Part_any A n c bs e2 9 _ w3 hn hc (by omega) (by omega) (by omega) (HB.out.below B3.out)).mono ?_
  rintro e w4 ⟨A4, n4, c4, rfl, hc4, y4, b4⟩
  rw [P3.out] at y4 ⊢
  have Y4 := Lib.hid y4
  have Y3 := Lib.hid (Y3.out.below (b4.mono (by omega)))
  have Y2 := Lib.hid (Y2.out.below (b4.mono (by omega)))
  have X1 := Lib.hid (X1.out.below b4 (by omega))
  have B4 := Lib.hid (B3.out.trans (b4.mono (by omega)))
  have s4 := b4.size
  clear b4 y4
  by_cases hk : e3 = n
  · subst hk
    obtain ⟨bk, off, rfl, hbB, hc0⟩ := (HB.out.below B4.out).at_ (k := 0) (by omega)
    have hr0 := (HB.out.below B4.out).range 0
    rw [Nat.add_zero] at hc0
    have hcv : ∀ W, Below w4.heap.size w4 W → (convert 22 9 (.slice A3 n3 c3)).run Try.prog W = .ok (.string (strOfNums r2)) W := fun W hW => conv_bytes A3 n3 c3 r2 _ W (Y3.out.below (hW.mono (by omega)))
    generalize hb0 : bs[0]?.getD 0 = z0 at hc0 hr0
    have Z0 := Lib.hid hb0
    clear hb0
    have hc0' : ∀ W, Below w4.heap.size w4 W → W.cell? ⟨bk, off, none⟩ = some (.int .u8 z0) := fun W hW => (hW.cell (p := ⟨bk, off, none⟩) (by show bk < w4.heap.size; omega)).trans hc0
    clear hc0
    have hpos : (0 : Int) < (n : Int) := by omega
    have hia : ∀ W : World, (Instr.indexAt 22 (.slice (some ⟨bk, off, none⟩) n c) (.int .i64 0)).run Try.prog W = .ok (.pointer (some ⟨bk, off, none⟩)) W := fun W => by go_simp
    have hwz : IntKind.i64.wrap z0 = z0 := by rw [IntKind.wrap_i64]; omega
    go_wp2
    go_region_held3 (fun W => Below w4.heap.size w4 W) (first | exact (Below.refl _ _).drew | exact ((Below.refl _ _).alloc (Nat.le_refl _) _).drew | assumption)
      (first | (fail))
    clear hcv hc0' hia
    have x5 : Box (w4.alloc (.cells #[.int .i64 z0, .slice none 0 0, .slice none 0 0, .string (strOfNums r2)] 46)).drew w4.heap.size _ _ := heap_alloc_new _ _
    have b5 : Below w4.heap.size w4 (w4.alloc (.cells #[.int .i64 z0, .slice none 0 0, .slice none 0 0, .string (strOfNums r2)] 46)).drew := ((Below.refl _ _).alloc (Nat.le_refl _) _).drew
    have s5 : (w4.alloc (.cells #[.int .i64 z0, .slice none 0 0, .slice none 0 0, .string (strOfNums r2)] 46)).drew.heap.size = w4.heap.size + 1 := by simp
    generalize (w4.alloc (.cells #[.int .i64 z0, .slice none 0 0, .slice none 0 0, .string (strOfNums r2)] 46)).drew = w5 at x5 b5 s5
    have X5 := Lib.hid x5
    have B5 := Lib.hid b5
    clear x5 b5
    obtain ⟨i0, hi, hz0, hz1, hz2⟩ := info_parts Try.infoI
    obtain ⟨iK, hki, hk0, hk1, hk2⟩ := info_parts Try.infoK
    have HK := Lib.hid hki
    have HK0 := Lib.hid hk0
    have HK1 := Lib.hid hk1
    have HK2 := Lib.hid hk2
    clear hki hk0 hk1 hk2
    have HI := Lib.hid hi
    have HZ0 := Lib.hid hz0
    have HZ1 := Lib.hid hz1
    have HZ2 := Lib.hid hz2
    clear hi hz0 hz1 hz2
    have L2 : Hid (r1.length = n2) := Y2.out.1
    have L3 : Hid (r3.length = n4) := Y4.out.1
    have hn4 : n4 ≤ 1048576 := by have := part_le bs e2 9; rw [P3.out, hlen] at this; have := L3.out; simp only at *; omega
    have L4 : Hid (r2.length = n3) := Y3.out.1
    have hn3 : r2.length ≤ 1048576 := by have := part_le bs e1 1; rw [P2.out, hlen] at this; simp only at *; omega
    have hn2 : n2 ≤ 1048576 := by have := part_le bs ((1 : Nat) : Int) 1; rw [P1.out, hlen] at this; have := L2.out; simp only at *; omega
    go_wp2
    go_loopw [11] (fun x wr => ∃ k : Nat, ∃ Ap cp, k ≤ n2 ∧ x = .int .i64 k ∧ OwnI wr (w4.heap.size + 1) Ap k cp (r1.take k) ∧ Box wr w4.heap.size 46 #[.int .i64 z0, .slice Ap k cp, .slice none 0 0, .string (strOfNums r2)] ∧ Below w4.heap.size w4 wr) (fun x _ => n2 - (intOf x).toNat)
    case atStart => exact ⟨0, none, 0, Nat.zero_le _, rfl, OwnI.nil _ _, X5.out, B5.out⟩
    case round =>
      obtain ⟨k, Ap, cp, hk2, rfl, hown, hbox, hbr⟩ := hrel
      have MR := Lib.hid hown
      have XR := Lib.hid hbox
      have BR := Lib.hid hbr
      clear hown hbox hbr
      by_cases hlt : k < n2
      · obtain ⟨b, o, rfl, hbb, hc0⟩ := (Y2.out.below (BR.out.mono (by omega))).at_ hlt
        have hrr := (Y2.out.below (BR.out.mono (by omega))).range k
        have hst := take_step r1 k (by rw [L2.out]; exact hlt)
        generalize r1[k]?.getD 0 = z at hc0 hrr hst
        have HST := Lib.hid hst
        clear hst
        have q1 := XR.out.cell 1
        have f1 := XR.out.free 1
        simp at q1
        have hwz2 : IntKind.i64.wrap z = z := by rw [IntKind.wrap_i64]; omega
        go_wp2
        have HO : Hid (∀ W, Below wr.heap.size wr W → OwnI W (w4.heap.size + 1) Ap k cp (r1.take k)) := fun W hb => MR.out.below hb
        have lx := XR.out.lt
        have hk := L2.out
        go_region_law (first
          | (refine step_append_lies _ rfl _ _ 34 rfl (w4.heap.size + 1) 2 i0 (.int .i64 0) 1 8 Try.underlying34 HI.out HZ0.out HZ1.out HZ2.out rfl (by decide) (.slice Ap k cp) k ((r1.take k).map (Value.int .i64)) (by simp [Act.eval]) (HO.out _ (((Below.refl _ _).alloc (Nat.le_refl _) _).drew)) ⟨wr.heap.size, 0, none⟩ 1 1 ([z].map (Value.int .i64)) (by simp [Act.eval]) rfl (by
              intro j u hj
              match j, hj with
              | 0, hj => simp at hj; subst hj; simp [Addr.add]) (by intro u hu; simp at hu; subst hu; rfl) (by omega) (by unfold maxLen; omega) (by omega) (by simp; omega) _ rfl ?_
             intro g6 c6 w6 hown6 hgrow6 _ _
             have x6 : Box w6 w4.heap.size _ _ := ((hgrow6.block w4.heap.size (by simp; omega) (fun e => by have := (World.ownsRow.lt MR.out _ e.symm).1; omega)).trans (heap_alloc_old _ _ lx)).trans XR.out
             have q6 := x6.cell 1
             have f6 := x6.free 1
             simp at q6))
        all_goals
          have b6 : Below w4.heap.size w4 w6 := ((BR.out.alloc (by omega) _).drew).grown hgrow6 (by simp; omega) (fun g hg => by have := (World.ownsRow.lt MR.out g hg).1; omega)
          go_wp2
          go_roundw
          case rel =>
            refine ⟨k + 1, some ⟨g6, 0, none⟩, c6, by omega, by go_num, ?_, by simpa using x6.set_ 1 _, b6.trans (grown_below (grown_set w6 _ 1 _) b6.size (Nat.le_refl _))⟩
            rw [HST.out]
            unfold OwnI
            rw [List.map_append]
            exact own_touch hown6 (touch_set (S := fun x => x = w4.heap.size) w6 _ 1 _ rfl) (fun g hg e => by have := (World.ownsRow.lt hown6 g hg).1; omega)
          case measure => simp [intOf]; omega
      · obtain rfl : k = n2 := by omega
        have hst : r1.take k = r1 := List.take_of_length_le (by rw [L2.out]; exact Nat.le_refl _)
        have MP : Hid (OwnI wr (w4.heap.size + 1) Ap k cp r1) := by rw [← hst]; exact MR.out
        clear MR hst
        have hp3 := P3.out
        rw [← hlen] at hp3
        have hl4 := L3.out
        obtain ⟨q0, hq, hq3⟩ := parts_all bs r1 r2 r3 e1 e2 hr P1.out P2.out hp3 (by omega)
        have HQ := Lib.hid hq
        clear hq hp3
        go_wp2
        go_loopw [12] (fun x wr => ∃ q m : Nat, ∃ Ak ck, q ≤ q0 ∧ m = 9 * q ∧ x = .int .i64 m ∧ OwnK wr (w4.heap.size + 1) Ak q ck (kidsTo r3 q) ∧ OwnI wr (w4.heap.size + 1) Ap k cp r1 ∧ (∀ g, (Value.slice Ap k cp).ownBlock = some g → (Value.slice Ak q ck).ownBlock ≠ some g) ∧
          Box wr w4.heap.size 46 #[.int .i64 z0, .slice Ap k cp, .slice Ak q ck, .string (strOfNums r2)] ∧ Below w4.heap.size w4 wr ∧ ∀ i, i < q → chunkOk r3 i) (fun x _ => n4 - (intOf x).toNat)
        case atStart => exact ⟨0, 0, none, 0, Nat.zero_le _, rfl, rfl, OwnK.nil _ _, MP.out, by simp [Value.ownBlock], XR.out, BR.out, fun i hi => absurd hi (by omega)⟩
        case round =>
          obtain ⟨q, m, Ak, ck, hqq, hm, rfl, hown, howp, hdis, hbox, hbr, hchk⟩ := hrel
          have MK := Lib.hid hown
          have MP := Lib.hid howp
          have HD := Lib.hid hdis
          have XR := Lib.hid hbox
          have BR := Lib.hid hbr
          have HC := Lib.hid hchk
          clear hown howp hdis hbox hbr hchk
          have hmm : q < q0 → m + 9 ≤ n4 := fun h => by omega
          have hmm' : ¬ q < q0 → m = n4 := fun h => by omega
          have HM := Lib.hid hm
          clear hm
          by_cases hlt : q < q0
          · have hm9 := hmm hlt
            obtain ⟨b, o, rfl, hbb, hc0⟩ := (Y4.out.below (BR.out.mono (by omega))).at_ (k := m) (by omega)
            have hrr := Y4.out.range m
            have hlo : (0 : Int) ≤ (m : Int) + 1 := by omega
            have hhi : (m : Int) + 1 ≤ (m : Int) + 9 := by omega
            have hcap : (m : Int) + 9 ≤ (c4 : Int) := by omega
            have yb := (Y4.out.below (BR.out.mono (by omega))).part (m + 1) 8 (by omega)
            have h8 : ((r3.drop (m + 1)).take 8)[7]?.getD 0 = r3[m + 8]?.getD 0 := by rw [List.getElem?_take_of_lt (by omega), List.getElem?_drop]
            clear hmm hmm'
            by_cases h7 : r3[m + 8]?.getD 0 ≤ (127 : Int)
            · have hko : kidsTo r3 (q + 1) = kidsTo r3 q ++ [(r3[m]?.getD 0, leVal ((r3.drop (m + 1)).take 8))] := by rw [kidsTo_step]; unfold kidOf; rw [HM.out]
              have hco : chunkOk r3 q := by unfold chunkOk; rw [← HM.out]; exact h7
              generalize r3[m]?.getD 0 = z at hc0 hrr hko
              have hwz2 : IntKind.i64.wrap z = z := by rw [IntKind.wrap_i64]; omega
              go_wp2_with fail
              refine (specFrom_yes _ _ _ w.heap.size wr yb (by rw [h8]; exact h7)).mono ?_
              rintro e _ ⟨rfl, rfl⟩
              generalize leVal ((r3.drop (m + 1)).take 8) = nm at hko
              have HKO := Lib.hid hko
              have HCO := Lib.hid hco
              clear hko hco yb h8
              have q1 := XR.out.cell 2
              have f1 := XR.out.free 2
              simp at q1
              go_wp2_with fail
              have HO : Hid (∀ W, Below wr.heap.size wr W → OwnK W (w4.heap.size + 1) Ak q ck (kidsTo r3 q)) := fun W hb => MK.out.below hb
              have lx := XR.out.lt
              go_region_law (first
                | (refine step_append_lies _ rfl _ _ 44 rfl (w4.heap.size + 1) 111 iK (.agg #[.int .i64 0, .int .i64 0]) 2 16 Try.underlying44 HK.out HK0.out HK1.out HK2.out rfl (by decide) (.slice Ak q ck) q ((kv (kidsTo r3 q)).map (Value.int .i64)) (by simp [Act.eval]) (HO.out _ (((Below.refl _ _).alloc (Nat.le_refl _) _).drew)) ⟨wr.heap.size, 0, none⟩ 1 1 ([z, nm].map (Value.int .i64)) (by simp [Act.eval]) rfl (by
                    intro j u hj
                    match j, hj with
                    | 0, hj => simp at hj; subst hj; simp [Addr.add]
                    | 1, hj => simp at hj; subst hj; simp [Addr.add]) (by intro u hu; simp at hu; rcases hu with rfl | rfl <;> rfl) (by omega) (by unfold maxLen; omega) (by omega) (by simp; omega) _ rfl ?_
                   intro g6 c6 w6 hown6 hgrow6 hwh6 _
                   have x6 : Box w6 w4.heap.size _ _ := ((hgrow6.block w4.heap.size (by simp; omega) (fun e => by have := (World.ownsRow.lt MK.out _ e.symm).1; omega)).trans (heap_alloc_old _ _ lx)).trans XR.out
                   have q6 := x6.cell 2
                   have f6 := x6.free 2
                   simp at q6))
              all_goals
                have b6 : Below w4.heap.size w4 w6 := ((BR.out.alloc (by omega) _).drew).grown hgrow6 (by simp; omega) (fun g hg => by have := (World.ownsRow.lt MK.out g hg).1; omega)
                have m6 : OwnI w6 (w4.heap.size + 1) Ap k cp r1 := OwnI.touch (OwnI.touch MP.out (Touch.of_below ((Below.refl _ _).alloc (Nat.le_refl _) _).drew : Touch (fun _ => False) wr _) (fun _ _ h => h)) (Touch.of_grown hgrow6) (fun g hg e => HD.out g hg e.symm)
                go_wp2
                go_roundw
                case rel =>
                  refine ⟨q + 1, m + 9, some ⟨g6, 0, none⟩, c6, by omega, by have := HM.out; omega, by go_num, ?_, ?_, ?_, by simpa using x6.set_ 2 _, b6.trans (grown_below (grown_set w6 _ 2 _) b6.size (Nat.le_refl _)), fun i hi => ?_⟩
                  · rw [HKO.out]
                    unfold OwnK
                    rw [kv_append, List.map_append]
                    exact own_touch hown6 (touch_set (S := fun x => x = w4.heap.size) w6 _ 2 _ rfl) (fun g hg e => by have := (World.ownsRow.lt hown6 g hg).1; omega)
                  · exact m6.touch (touch_set (S := fun x => x = w4.heap.size) w6 _ 2 _ rfl) (fun g hg e => by have := (World.ownsRow.lt m6 g hg).1; omega)
                  · intro g hg h
                    have hgg := own_eq h.symm
                    subst hgg
                    rcases hwh6 with h1 | h1
                    · exact HD.out _ hg h1
                    · have := (World.ownsRow.lt MP.out _ hg).2
                      simp at h1
                      omega
                  · rcases Nat.lt_or_ge i q with h | h
                    · exact HC.out i h
                    · rw [show i = q by omega]; exact HCO.out
                case measure => simp [intOf]; omega
            · have hno := none_chunk P1.out P2.out (by rw [hlen]; exact P3.out) hq3 q hlt (by unfold chunkOk; rw [← HM.out]; exact h7)
              have HNO := Lib.hid hno
              clear hno
              have X1 := Lib.hid (X1.out.below (BR.out.mono (by omega : w.heap.size + 1 ≤ w4.heap.size)) (by omega))
              have q10 := X1.out.cell 0
              have q11 := X1.out.cell 1
              have q12 := X1.out.cell 2
              have q13 := X1.out.cell 3
              have f1 := X1.out.free
              simp at q10 q11 q12 q13
              go_wp2_with fail
              refine (specFrom_high _ _ _ w.heap.size wr yb (by rw [h8]; omega)).mono ?_
              rintro e _ ⟨rfl, rfl⟩
              go_wp2_with fail
              obtain ⟨hX, hb⟩ := set4 X1.out (.int .i64 0) (.slice none 0 0) (.slice none 0 0) (.string { data := #[] })
              refine bodyPost_ret (v := .tuple #[node0V, .bool false]) (results_box2 Try.results74 _ _ w.heap.size _ _ _ _ rfl rfl hX Try.underlying46 rfl (by kernel_rfl)) rfl ?_
              have b7 := B4.out.trans (BR.out.mono (by omega))
              exact ⟨_, node0, false, rfl, node0_own _ _, HNO.out, b7.trans (hb.below b7.size (fun k hk h => by omega))⟩
          · have hme := hmm' hlt
            obtain rfl : q = q0 := by omega
            have hv : Hid (OwnN wr (w4.heap.size + 1) (.agg #[.int .i64 z0, .slice Ap k cp, .slice Ak q ck, .string (strOfNums r2)]) (nodeOf bs r1 r2 r3 q)) :=
              ⟨Ap, k, cp, Ak, q, ck, by unfold nodeOf; rw [Z0.out], hn2, by omega, by unfold nodeOf; rw [strOfNums_size]; omega, MP.out, MK.out, HD.out⟩
            have X1 := Lib.hid (X1.out.below (BR.out.mono (by omega : w.heap.size + 1 ≤ w4.heap.size)) (by omega))
            have q20 := XR.out.cell 0
            have q21 := XR.out.cell 1
            have q22 := XR.out.cell 2
            have q23 := XR.out.cell 3
            have lx := XR.out.lt
            have l1 := X1.out.lt
            simp at q20 q21 q22 q23
            go_wp2_with fail
            refine (specNodeOk_any _ _ wr.heap.size wr (Nat.le_refl _) hv.out.node).mono ?_
            rintro e w7 ⟨rfl, b7⟩
            have V := Lib.hid (hv.out.below b7)
            have X1 := Lib.hid (X1.out.below b7 l1)
            have XR := Lib.hid (XR.out.below b7 lx)
            have B7 := Lib.hid ((B4.out.trans (BR.out.mono (by omega))).trans (b7.mono (by omega)))
            clear b7 q20 q21 q22 q23
            have q10 := X1.out.cell 0
            have q11 := X1.out.cell 1
            have q12 := X1.out.cell 2
            have q13 := X1.out.cell 3
            have f1 := X1.out.free
            have q20 := XR.out.cell 0
            have q21 := XR.out.cell 1
            have q22 := XR.out.cell 2
            have q23 := XR.out.cell 3
            simp at q10 q11 q12 q13 q20 q21 q22 q23
            by_cases hok : nodeOk (nodeOf bs r1 r2 r3 q) = true
            · rw [hok]
              go_wp2_with fail
              obtain ⟨hX, hb⟩ := set4 X1.out (.int .i64 z0) (.slice Ap k cp) (.slice Ak q ck) (.string (strOfNums r2))
              refine bodyPost_ret (v := .tuple #[.agg #[.int .i64 z0, .slice Ap k cp, .slice Ak q ck, .string (strOfNums r2)], .bool true]) (results_box2 Try.results74 _ _ w.heap.size _ _ _ _ rfl rfl hX Try.underlying46 rfl (by kernel_rfl)) rfl ?_
              exact ⟨_, nodeOf bs r1 r2 r3 q, true, rfl, (V.out.touch hb (fun g hg h => by have := (V.out.blk hg).1; omega)).base (by omega), yes_read bs r1 r2 r3 q hr HQ.out hq3 HC.out hok, B7.out.trans (hb.below B7.out.size (fun k hk h => by omega))⟩
            · have hok' : nodeOk (nodeOf bs r1 r2 r3 q) = false := by simpa using hok
              rw [hok']
              go_wp2_with fail
              obtain ⟨hX, hb⟩ := set4 X1.out (.int .i64 0) (.slice none 0 0) (.slice none 0 0) (.string { data := #[] })
              refine bodyPost_ret (v := .tuple #[node0V, .bool false]) (results_box2 Try.results74 _ _ w.heap.size _ _ _ _ rfl rfl hX Try.underlying46 rfl (by kernel_rfl)) rfl ?_
              exact ⟨_, node0, false, rfl, node0_own _ _, none_bad P1.out P2.out (by rw [hlen]; exact P3.out) hq3 hok', B7.out.trans (hb.below B7.out.size (fun k hk h => by omega))⟩
  · have q10 := X1.out.cell 0
    have q11 := X1.out.cell 1
    have q12 := X1.out.cell 2
    have q13 := X1.out.cell 3
    have f1 := X1.out.free
    simp at q10 q11 q12 q13
    go_wp2
    obtain ⟨hX, hb⟩ := set4 X1.out (.int .i64 0) (.slice none 0 0) (.slice none 0 0) (.string { data := #[] })
    refine bodyPost_ret (v := .tuple #[node0V, .bool false]) (results_box2 Try.results74 _ _ w.heap.size _ _ _ _ rfl rfl hX Try.underlying46 rfl (by kernel_rfl)) rfl ?_
    exact ⟨_, node0, false, rfl, node0_own _ _, none_end P1.out P2.out P3.out (by rw [hlen]; exact hk), B4.out.trans (hb.below B4.out.size (fun k hk h => by omega))⟩
end Go.Proofs.Ytepaikljiddiaaa

-- CellS: The model's CellsOk, and where it finds a name.
namespace Go.Proofs.Ytepaikljiddiaaa
set_option maxRecDepth 20000
set_option linter.unusedVariables false
set_option linter.unusedSimpArgs false
open Go.RowKit

theorem index_cell (b off n c j : Nat) (h : j < n) (W : World) : (Instr.indexAt 40 (.slice (some ⟨b, off, none⟩) n c) (.int .i64 (j : Int))).run Try.prog W = .ok (.pointer (some ⟨b, off + j * 2, none⟩)) W := by
  go_simp
theorem index_cell_pred (b off n c k : Nat) (h0 : 0 < k) (h : k - 1 < n) (W : World) : (Instr.indexAt 40 (.slice (some ⟨b, off, none⟩) n c) (.int .i64 ((k : Int) - 1))).run Try.prog W = .ok (.pointer (some ⟨b, off + (k - 1) * 2, none⟩)) W := by
  obtain ⟨j, hj⟩ : ∃ j, k - 1 = j := ⟨_, rfl⟩
  have e : (k : Int) - 1 = (j : Int) := by omega
  rw [e, hj]
  exact index_cell b off n c j (by omega) W

theorem l4Find_any (A : Option Addr) (n c : Nat) (cs : List (Int × List Int)) (m : Int) (B : Nat) (w : World) (hn : n ≤ 1048576) (hb : Cells w B A n cs) :
    Calls Try.prog 79 #[.slice A n c, .int .i64 m] w fun e w' => e = .returned (.int .i64 (if findC cs m < n then (findC cs m : Int) else -1)) ∧ w = w' := by
  have HB := Lib.hid hb
  have hlen := hb.1
  clear hb
  obtain ⟨R, hR⟩ : ∃ R : Int, (if findC cs m < n then (findC cs m : Int) else -1) = R := ⟨_, rfl⟩
  rw [hR]
  have HR := Lib.hid hR
  clear hR
  go_enter Try.func79, Try.ntmps79
  go_wp2
  go_loop [5] (fun i => ∃ k : Nat, k ≤ n ∧ i = .int .i64 k ∧ ∀ j, j < k → (cel cs j).1 ≠ m) (fun i => n - (intOf i).toNat)
  case atStart => exact ⟨0, Nat.zero_le _, rfl, fun j hj => absurd hj (by omega)⟩
  case round =>
    obtain ⟨k, hk, rfl, hno⟩ := hrel
    by_cases hlt : k < n
    · obtain ⟨b, off, Ai, ni, ci, rfl, hbB, h0, h1, _, _, hy⟩ := HB.out.at_ hlt
      have hx : ∃ x, (cel cs k).1 = x := ⟨_, rfl⟩
      obtain ⟨x, hx⟩ := hx
      rw [hx] at h0
      clear h1
      by_cases he : x = m
      · subst he
        have hf := Lib.hid (findC_at cs x k (by omega) hx hno)
        have hr : (k : Int) = R := by rw [← HR.out, hf.out, if_pos hlt]
        subst hr
        go_wp2
        go_ret
        exact ⟨rfl, rfl⟩
      · have hb0 : (x == m) = false := by simpa using he
        go_wp2
        go_round
        case rel =>
          refine ⟨k + 1, by omega, by go_num, fun j hj => ?_⟩
          rcases Nat.lt_or_ge j k with h | h
          · exact hno j h
          · rw [show j = k by omega, hx]; exact he
        case measure => simp [intOf]; omega
    · have hr : -1 = R := by rw [← HR.out, findC_none cs m (fun j hj => hno j (by omega)), if_neg (by omega)]
      subst hr
      clear HR
      go_wp2
      go_ret
      exact ⟨rfl, rfl⟩

theorem specCellsOk_any (A : Option Addr) (n c : Nat) (cs : List (Int × List Int)) (B : Nat) (w : World) (hn : n ≤ 1048576) (hm : ∀ i, (cel cs i).2.length ≤ 1048576) (hB : B ≤ w.heap.size) (hb : Cells w B A n cs) :
    Calls Try.prog 52 #[.slice A n c] w fun e w' => ∃ b, e = .returned (.bool b) ∧ (b = true ↔ Right cs) ∧ Below w.heap.size w w' := by
  have HB := Lib.hid (hb.more hB)
  have hlen := hb.1
  clear hb
  go_enter Try.func52, Try.ntmps52
  go_wp2
  go_loopw [3] (fun i wr => ∃ k : Nat, k ≤ n ∧ i = .int .i64 k ∧ (∀ j, j < k → CellAt cs j) ∧ Below w.heap.size w wr) (fun i _ => n - (intOf i).toNat)
  case atStart => exact ⟨0, Nat.zero_le _, rfl, fun j hj => absurd hj (by omega), Below.refl _ _⟩
  case round =>
    obtain ⟨k, hk, rfl, hgood, hbel⟩ := hrel
    have HK := Lib.hid (HB.out.below hbel)
    by_cases hlt : k < n
    · obtain ⟨b, off, Ai, ni, ci, rfl, hbB, h0, h1, hc, hA, hy⟩ := HK.out.at_ hlt
      obtain ⟨x, hx⟩ : ∃ x, cel cs k = x := ⟨_, rfl⟩
      have hnm := hm k
      have hni := hy.1
      have hs0 := hbel.size
      rw [hx] at h0 hy hni hnm
      have Y := Lib.hid hy
      have BR := Lib.hid hbel
      clear hy hbel
      have hle : ni ≤ 1048576 := by omega
      go_wp2_with fail
      refine (specNodeFrom_any Ai ni ci x.2 w.heap.size _ hle hc hs0 Y.out).mono ?_
      rintro e w1 ⟨v, nd, r, rfl, own, rd, b1⟩
      have hr := Lib.hid (IsNode.of rd)
      have HK1 := Lib.hid (HK.out.below (b1.mono hs0))
      have B1 := Lib.hid (BR.out.trans (b1.mono hs0))
      obtain ⟨Ap, np, cp, Ak, nk, ck, rfl, _⟩ := own
      clear rd h0 h1 b1
      obtain ⟨w2, hw2⟩ : ∃ w2, w1.alloc (.cells #[.int .i64 0, .slice none 0 0, .slice none 0 0, .string { data := #[] }] 46) = w2 := ⟨_, rfl⟩
      have x2 : Box w2 w1.heap.size _ _ := hw2 ▸ heap_alloc_new _ _
      have b2 : Below w1.heap.size w1 w2 := hw2 ▸ (Below.refl _ _).alloc (Nat.le_refl _) _
      have X2 := Lib.hid x2
      obtain ⟨w3, hw3⟩ : ∃ w3, (((w2.setCell ⟨w1.heap.size, 0, none⟩ (.int .i64 nd.kind)).setCell ⟨w1.heap.size, 1, none⟩ (.slice Ap np cp)).setCell ⟨w1.heap.size, 2, none⟩ (.slice Ak nk ck)).setCell ⟨w1.heap.size, 3, none⟩ (.string nd.val) = w3 := ⟨_, rfl⟩
      have t3 : Touch (fun b => b = w1.heap.size) w2 w3 := hw3 ▸ (set4 x2 _ _ _ _).2
      have hs1 := B1.out.size
      have b3 : Below w1.heap.size w1 w3 := b2.trans (t3.below b2.size (fun b hb e => by omega))
      have HK3 := Lib.hid (HK1.out.below (b3.mono hs1))
      have B3 := Lib.hid (B1.out.trans (b3.mono hs1))
      have q20 := X2.out.cell 0
      have q21 := X2.out.cell 1
      have q22 := X2.out.cell 2
      have q23 := X2.out.cell 3
      have f2 := X2.out.free
      simp at q20 q21 q22 q23
      clear b2 b3 t3 x2
      obtain ⟨_, _, Aj, nj, cj, e1, _, h0, h1, _, _, hy3⟩ := HK3.out.at_ hlt
      cases e1
      rw [hx] at h0 hy3
      have hnj := hy3.1
      have Y3 := Lib.hid hy3
      have hle2 : nj ≤ 9223372036854775807 := by omega
      clear hy3
      cases r with
      | false =>
        go_wp2
        go_quiet (fail)
        go_wp2
        go_ret
        exact ⟨false, rfl, iff_of_false (by simp) (fun hR => by
          have := (hR.2 k (by omega)).1
          rw [hx] at this
          exact absurd (hr.out.2 this) (by simp)), below_drewN B3.out _⟩
      | true =>
        have hNM : ∀ q, Calls Try.prog 42 #[.slice Aj nj cj] (w3.drewN q) fun e w' => e = .returned (.int .i64 (nameOf x.2)) ∧ w' = w3.drewN q :=
          fun q => (specName_any Aj nj cj x.2 w.heap.size (w3.drewN q) hle2 (Y3.out.drewN q)).mono fun e w' h => ⟨h.1, h.2.symm⟩
        have NM := Lib.hid hNM
        clear hNM
        by_cases hN : nameOf x.2 = x.1
        · have hb1 : (nameOf x.2 != x.1) = false := by simp [hN]
          by_cases hk0 : 0 < k
          · obtain ⟨_, _, _, _, _, e1, _, p0, _⟩ := HK3.out.at_ (k := k - 1) (by omega)
            cases e1
            obtain ⟨y, hy⟩ : ∃ y, cel cs (k - 1) = y := ⟨_, rfl⟩
            rw [hy] at p0
            have hia := index_cell_pred b off n c k hk0 (by omega)
            have hwk : IntKind.i64.wrap ((k : Int) - 1) = (k : Int) - 1 := by rw [IntKind.wrap_i64]; omega
            have hd : decide ((0 : Int) < (k : Int)) = true := decide_eq_true (by omega)
            by_cases hR : x.1 ≤ y.1
            · have hdR : decide (x.1 ≤ y.1) = true := decide_eq_true hR
              go_wp2
              go_quiet (first | (go_at_call 42; exact Calls.quiet_of_same (NM.out _)))
              go_wp2
              go_ret
              exact ⟨false, rfl, iff_of_false (by simp) (fun hR' => by
                have := (hR'.2 k (by omega)).2.2 hk0
                rw [hx, hy] at this
                omega), below_drewN B3.out _⟩
            · have hdR : decide (x.1 ≤ y.1) = false := decide_eq_false hR
              go_wp2
              go_quiet (first | (go_at_call 42; exact Calls.quiet_of_same (NM.out _)))
              go_wp2
              go_roundw
              case rel =>
                refine ⟨k + 1, by omega, by go_num, fun j hj => ?_, below_drewN B3.out _⟩
                rcases Nat.lt_or_ge j k with h | h
                · exact hgood j h
                · rw [show j = k by omega]
                  exact ⟨by rw [hx]; exact hr.out.1 (by trivial), by rw [hx]; exact hN, fun _ => by rw [hx, hy]; omega⟩
              case measure => simp [intOf]; omega
          · obtain rfl : k = 0 := by omega
            rw [Nat.zero_mul, Nat.add_zero] at h0 h1
            go_wp2
            go_quiet (first | (go_at_call 42; exact Calls.quiet_of_same (NM.out _)))
            go_wp2
            go_roundw
            case rel =>
              refine ⟨1, by omega, by go_num, fun j hj => ?_, below_drewN B3.out _⟩
              rw [show j = 0 by omega]
              exact ⟨by rw [hx]; exact hr.out.1 (by trivial), by rw [hx]; exact hN, fun h => absurd h (by omega)⟩
            case measure => simp [intOf]; omega
        · have hb1 : (nameOf x.2 != x.1) = true := by simp [hN]
          go_wp2
          go_quiet (first | (go_at_call 42; exact Calls.quiet_of_same (NM.out _)))
          go_wp2
          go_ret
          exact ⟨false, rfl, iff_of_false (by simp) (fun hR => by
            have := (hR.2 k (by omega)).2.1
            rw [hx] at this
            exact hN this), below_drewN B3.out _⟩
    · obtain rfl : k = n := by omega
      go_wp2
      go_ret
      refine ⟨_, rfl, ?_, hbel⟩
      constructor
      · intro h
        exact ⟨by have := of_decide_eq_true h; omega, fun i hi => hgood i (by omega)⟩
      · intro h
        have := h.1
        exact decide_eq_true (by omega)
end Go.Proofs.Ytepaikljiddiaaa

-- CellN: The model's node under a name, and NodeAt.
namespace Go.Proofs.Ytepaikljiddiaaa
set_option maxRecDepth 20000
set_option linter.unusedVariables false
set_option linter.unusedSimpArgs false
open Go.RowKit

end Go.Proofs.Ytepaikljiddiaaa

-- OpenNode: A node that came in as an argument: what is known of its value.
namespace Go.Proofs.Ytepaikljiddiaaa
set_option maxRecDepth 20000
open Go.RowKit Go.ChangeShapes Go.WideShapes Go.Joins Go.Deep

/-- the value v is a node nd that came in. -/
def NodeArg (w : World) (v : Value) (nd : MNode) : Prop :=
  ∃ Ap np cp Ak nk ck, v = .agg #[.int .i64 nd.kind, .slice Ap np cp, .slice Ak nk ck, .string nd.val] ∧ np ≤ maxLen ∧ nk ≤ maxLen ∧ nd.val.size ≤ maxLen ∧ Ints w w.heap.size Ap np nd.path ∧ Kids w w.heap.size Ak nk nd.kids

theorem row_of_trod {H : Type} {enc : TypeId × Value → H} {w : World} {k : IntKind} {t e : TypeId} {fuel : Nat} {v : Value} {x : DataW H × List MemPlace} (ht : Try.prog.underlying t = some (.slice e)) (he : Try.prog.underlying e = some (.int k)) (hc : Try.prog.cellsOf e = 1)
    (h : DataW.trod enc Try.prog w 0 (fun _ => true) true fuel t [v] = some x) : ∃ a len cap zs, v = .slice a len cap ∧ IsRow k w a len cap zs := by
  rcases open_ints ht he hc h with ⟨hcs, _⟩ | ⟨a, l, c, zs, hcs, _, hl, hm, hz, _, hcell, hwz⟩
  · simp at hcs
    exact ⟨none, 0, 0, [], hcs, .inl ⟨rfl, rfl, rfl, rfl⟩⟩
  · simp at hcs
    exact ⟨_, l, c, zs, hcs, .inr ⟨_, rfl, hl, hm, by simpa using hz, hcell, hwz⟩⟩

/-- the pairs of numbers that stand in a row, from a place on. -/
theorem kids_of_trod {H : Type} {enc : TypeId × Value → H} {w : World} {fuel : Nat} {v : Value} {x : DataW H × List MemPlace}
    (h : DataW.trod enc Try.prog w 0 (fun _ => true) true fuel 35 [v] = some x) : ∃ a len cap ks, v = .slice a len cap ∧ len ≤ maxLen ∧ Kids w w.heap.size a len ks := by
  rcases open_slice_pairs Try.underlying35 Try.underlying115 (by kernel_rfl) rfl rfl (by kernel_rfl) (by kernel_rfl) h with ⟨hcs, _⟩ | ⟨a, l, c, m, n, V0, V1, D0, D1, P0, P1, hcs, _, hl, hm, hmm, _, hc⟩
  · simp at hcs
    exact ⟨none, 0, 0, [], hcs, by unfold maxLen; omega, Kids.none_⟩
  · simp at hcs
    have hlm : l ≤ m := by rw [hmm]; simp; exact hl
    have each : ∀ i, i < l → ∃ z : Int × Int, w.cell? (a.add (i * 2)) = some (.int .i64 z.1) ∧ w.cell? (a.add (i * 2 + 1)) = some (.int .i64 z.2) := by
      intro i hi
      obtain ⟨h0, h1, t0, t1⟩ := hc i (by omega)
      obtain ⟨z0, e0, _⟩ := DataW.trod_int Try.underlying2 t0
      obtain ⟨z1, e1, _⟩ := DataW.trod_int Try.underlying2 t1
      simp at e0 e1
      exact ⟨(z0, z1), by rw [h0, e0], by rw [h1, e1]⟩
    obtain ⟨Z, hZ⟩ := choose_lt each
    refine ⟨some a, l, c, (List.range l).map Z, hcs, by omega, by simp, by rw [kv_len]; simp, fun hp => ?_⟩
    obtain ⟨b, off, spot⟩ := a
    have h0 := (hZ 0 (by omega)).1
    have hspot : spot = none := by simpa [Addr.add] using World.cell?_spot h0
    subst hspot
    refine ⟨b, off, rfl, by simpa [Addr.add] using block_lt_of_cell h0, fun i hi => ?_⟩
    have hadd : ∀ j, (Addr.add ⟨b, off, none⟩ j) = ⟨b, off + j, none⟩ := fun j => by unfold Addr.add; split <;> simp_all
    obtain ⟨q, hq | hq⟩ : ∃ q, i = q * 2 ∨ i = q * 2 + 1 := ⟨i / 2, by omega⟩
    · subst hq
      have := (hZ q (by omega)).1
      rw [hadd] at this
      rw [this]
      have e := kv_at0 ((List.range l).map Z) q
      simp [show q < l by omega] at e
      simp [e]
    · subst hq
      have := (hZ q (by omega)).2
      rw [hadd] at this
      rw [this]
      have e := kv_at1 ((List.range l).map Z) q
      simp [show q < l by omega] at e
      simp [e]

theorem open_node {H : Type} {enc : TypeId × Value → H} {w : World} {r : Reach} {b0 : Nat} {v : Value} {d : DataW H} {p : List MemPlace} (hv : Value.okWide Try.prog w r b0 37 v)
    (h : DataW.Trod enc Try.prog w 0 (fun _ => true) true 37 v d p) : ∃ nd, NodeArg w v nd := by
  obtain ⟨v0, v1, v2, v3, y0, y1, y2, y3, n, rfl, _, _, h0, h1, h2, h3⟩ := open_agg4 Try.underlying37 (by kernel_rfl) (by kernel_rfl) hv h
  obtain ⟨z, e0, _⟩ := DataW.trod_int Try.underlying2 h0
  obtain ⟨ap, np, cp, ps, rfl, hp⟩ := row_of_trod Try.underlying34 Try.underlying2 (by kernel_rfl) h1
  obtain ⟨ak, nk, ck, ks, rfl, hk1, hk2⟩ := kids_of_trod h2
  obtain ⟨s, e3, _, hs⟩ := DataW.trod_string Try.underlying9 h3
  simp at e0 e3
  subst e0 e3
  refine ⟨⟨z, ps.take np, ks, s⟩, ap, np, cp, ak, nk, ck, rfl, ?_, hk1, hs, hp.ints, hk2⟩
  rcases hp with ⟨_, h, _⟩ | ⟨_, _, hl, hm, _⟩
  · rw [h]; unfold maxLen; omega
  · omega
end Go.Proofs.Ytepaikljiddiaaa

-- OpenCells: Cells that came in as an argument: what is known of their value.
namespace Go.Proofs.Ytepaikljiddiaaa
set_option maxRecDepth 20000
set_option linter.unusedVariables false
set_option linter.unusedSimpArgs false
open Go.RowKit Go.ChangeShapes Go.WideShapes Go.Joins Go.Deep

/-- the value v is a slice of cells cs that came in. -/
def CellsArg (w : World) (v : Value) (cs : List (Int × List Int)) : Prop :=
  ∃ A n c, v = .slice A n c ∧ n ≤ maxLen ∧ Cells w w.heap.size A n cs ∧ ∀ i, (cel cs i).2.length ≤ maxLen

theorem cells_of_trod {H : Type} {enc : TypeId × Value → H} {w : World} {fuel : Nat} {v : Value} {x : DataW H × List MemPlace}
    (h : DataW.trod enc Try.prog w 0 (fun _ => true) true fuel 33 [v] = some x) : ∃ cs, CellsArg w v cs := by
  rcases open_slice_pairs Try.underlying33 Try.underlying73 (by kernel_rfl) rfl rfl (by kernel_rfl) (by kernel_rfl) h with ⟨hcs, _⟩ | ⟨a, l, c, m, n, V0, V1, D0, D1, P0, P1, hcs, _, hl, hm, hmm, _, hc⟩
  · simp at hcs
    exact ⟨[], none, 0, 0, hcs, by unfold maxLen; omega, Cells.none_, fun i => by simp [cel]⟩
  · simp at hcs
    have hlm : l ≤ m := by rw [hmm]; simp; exact hl
    have each : ∀ i, i < l → ∃ z : Int × List Int, w.cell? (a.add (i * 2)) = some (.int .i64 z.1) ∧ z.2.length ≤ maxLen ∧ ∃ Ai ni ci, w.cell? (a.add (i * 2 + 1)) = some (.slice Ai ni ci) ∧ ni ≤ ci ∧ (Ai = none → ci = 0) ∧ Byts w w.heap.size Ai ni z.2 := by
      intro i hi
      obtain ⟨h0, h1, t0, t1⟩ := hc i (by omega)
      obtain ⟨z0, e0, _⟩ := DataW.trod_int Try.underlying2 t0
      obtain ⟨Ai, ni, ci, zs, e1, hr⟩ := row_of_trod Try.underlying22 Try.underlying5 (by kernel_rfl) t1
      simp at e0
      refine ⟨(z0, zs.take ni), by rw [h0, e0], ?_, Ai, ni, ci, by rw [h1, e1], ?_, ?_, hr.byts⟩
      · rcases hr with ⟨_, rfl, _, _⟩ | ⟨_, _, h2, h3, _⟩
        · simp
        · simp; omega
      · rcases hr with ⟨_, rfl, rfl, _⟩ | ⟨_, _, h2, h3, _⟩
        · exact Nat.le_refl _
        · exact h2
      · rcases hr with ⟨_, _, rfl, _⟩ | ⟨_, e, h2, h3, _⟩
        · exact fun _ => rfl
        · intro e'; rw [e] at e'; cases e'
    obtain ⟨Z, hZ⟩ := choose_lt each
    refine ⟨(List.range l).map Z, some a, l, c, hcs, by omega, ⟨by simp, fun hp => ?_⟩, fun i => ?_⟩
    · obtain ⟨b, off, spot⟩ := a
      have h0 := (hZ 0 (by omega)).1
      have hspot : spot = none := by simpa [Addr.add] using World.cell?_spot h0
      subst hspot
      refine ⟨b, off, rfl, by simpa [Addr.add] using block_lt_of_cell h0, fun i hi => ?_⟩
      have hadd : ∀ j, (Addr.add ⟨b, off, none⟩ j) = ⟨b, off + j, none⟩ := fun j => by unfold Addr.add; split <;> simp_all
      obtain ⟨k0, _, Ai, ni, ci, k1, k2, k3, k4⟩ := hZ i hi
      rw [hadd] at k0 k1
      have e : cel ((List.range l).map Z) i = Z i := by simp [cel, hi]
      rw [e]
      exact ⟨k0, Ai, ni, ci, k1, k2, k3, k4⟩
    · by_cases hi : i < l
      · have e : cel ((List.range l).map Z) i = Z i := by simp [cel, hi]
        rw [e]
        exact (hZ i hi).2.1
      · have e : cel ((List.range l).map Z) i = (0, []) := by simp [cel, hi]
        rw [e]; simp

theorem open_cells {H : Type} {enc : TypeId × Value → H} {w : World} {r : Reach} {b0 : Nat} {v : Value} {d : DataW H} {p : List MemPlace} (_hv : Value.okWide Try.prog w r b0 33 v)
    (h : DataW.Trod enc Try.prog w 0 (fun _ => true) true 33 v d p) (hc : ∃ A n c, v = .slice A n c) : ∃ cs, CellsArg w v cs := by
  obtain ⟨A, n, c, rfl⟩ := hc
  obtain ⟨fuel, hf⟩ := h
  exact cells_of_trod (by simpa [Value.cells] using hf)
end Go.Proofs.Ytepaikljiddiaaa

-- CellsX: What the helpers of the exact laws do at slices of cells.
namespace Go.Proofs.Ytepaikljiddiaaa
set_option maxRecDepth 20000
set_option linter.unusedVariables false
set_option linter.unusedSimpArgs false
open Go.RowKit

/-- the size of some cells, as the laws count it. -/
def szC : List (Int × List Int) → Nat
  | [] => 0
  | c :: r => 1 + c.2.length + szC r
theorem szC_append (a b : List (Int × List Int)) : szC (a ++ b) = szC a + szC b := by
  induction a with
  | nil => simp [szC]
  | cons x r ih => simp [szC, ih]; omega
theorem szC_take (cs : List (Int × List Int)) (k : Nat) (h : k < cs.length) : szC (cs.take (k + 1)) = szC (cs.take k) + 1 + (cel cs k).2.length := by
  rw [cel_take cs k h, szC_append]; simp [szC]; omega
theorem szC_take_le (cs : List (Int × List Int)) (k : Nat) : szC (cs.take k) ≤ szC cs := by
  conv => rhs; rw [← List.take_append_drop k cs, szC_append]
  omega
theorem szC_len (cs : List (Int × List Int)) : cs.length ≤ szC cs := by
  induction cs with
  | nil => simp
  | cons x r ih => simp [szC]; omega
theorem szC_cel (cs : List (Int × List Int)) (k : Nat) (h : k < cs.length) : 1 + (cel cs k).2.length ≤ szC cs := by
  have h1 := szC_take cs k h
  have h2 := szC_take_le cs (k + 1)
  omega

/-- the cells as the marks from k0 on leave them. -/
def markC (k0 : Int) : List (Int × List Int) → List (Int × List Int)
  | [] => []
  | c :: r => (k0, marks (k0 + 1) c.2.length) :: markC (k0 + 1 + c.2.length) r
theorem markC_append (k0 : Int) (a b : List (Int × List Int)) : markC k0 (a ++ b) = markC k0 a ++ markC (k0 + szC a) b := by
  induction a generalizing k0 with
  | nil => simp [markC, szC]
  | cons x r ih =>
    have e : k0 + 1 + (x.2.length : Int) + (szC r : Int) = k0 + ((1 + x.2.length + szC r : Nat) : Int) := by push_cast; omega
    simp only [List.cons_append, markC, ih, szC, e]
theorem markC_len (k0 : Int) (cs : List (Int × List Int)) : (markC k0 cs).length = cs.length := by
  induction cs generalizing k0 with
  | nil => rfl
  | cons x r ih => simp [markC, ih]
theorem markC_sz (k0 : Int) (cs : List (Int × List Int)) : szC (markC k0 cs) = szC cs := by
  induction cs generalizing k0 with
  | nil => rfl
  | cons x r ih => simp [markC, szC, ih, marks_len]
theorem markC_cel (k0 : Int) (cs : List (Int × List Int)) (k : Nat) (h : k < cs.length) : cel (markC k0 cs) k = (k0 + szC (cs.take k), marks (k0 + szC (cs.take k) + 1) (cel cs k).2.length) := by
  have e : cs = cs.take k ++ cel cs k :: cs.drop (k + 1) := by
    conv => lhs; rw [← List.take_append_drop k cs, List.drop_eq_getElem_cons h]
    unfold cel; rw [List.getElem?_eq_getElem h]; rfl
  have hl : (markC k0 (cs.take k)).length = k := by rw [markC_len]; simp; omega
  conv => lhs; unfold cel; rw [e, markC_append]
  rw [List.getElem?_append_right (by omega), hl]
  simp [markC]
/-- the cells, marked as far as the k-th. -/
def markTo (k0 : Int) (cs : List (Int × List Int)) (k : Nat) : List (Int × List Int) := markC k0 (cs.take k) ++ cs.drop k
theorem markTo_len (k0 : Int) (cs : List (Int × List Int)) (k : Nat) : (markTo k0 cs k).length = cs.length := by
  unfold markTo; rw [List.length_append, markC_len]; simp; omega
theorem markTo_cel (k0 : Int) (cs : List (Int × List Int)) (k : Nat) (h : k < cs.length) : cel (markTo k0 cs k) k = cel cs k := by
  unfold markTo cel
  have hl : (markC k0 (cs.take k)).length = k := by rw [markC_len]; simp; omega
  rw [List.getElem?_append_right (by omega), hl]
  simp
theorem markTo_step (k0 : Int) (cs : List (Int × List Int)) (k : Nat) (h : k < cs.length) : (markTo k0 cs k).set k (k0 + szC (cs.take k), marks (k0 + szC (cs.take k) + 1) (cel cs k).2.length) = markTo k0 cs (k + 1) := by
  unfold markTo
  have hl : (markC k0 (cs.take k)).length = k := by rw [markC_len]; simp; omega
  have hc : cs[k] = cel cs k := by unfold cel; rw [List.getElem?_eq_getElem h]; rfl
  rw [cel_take cs k h, markC_append, List.set_append, if_neg (by omega), hl, List.drop_eq_getElem_cons h, Nat.sub_self, List.set_cons_zero, List.append_assoc]
  rfl
theorem markTo_all (k0 : Int) (cs : List (Int × List Int)) : markTo k0 cs cs.length = markC k0 cs := by
  unfold markTo; simp

theorem szCell_any (m : Int) (A : Option Addr) (n c left : Nat) (w : World) (hn : n ≤ maxLen) (hl : left ≤ 1048576) :
    Calls Try.prog 49 #[.agg #[.int .i64 m, .slice A n c], .int .i64 left] w fun e w' => e = .returned (.int .i64 (if n ≤ left then ((left - n : Nat) : Int) else -1)) ∧ Below w.heap.size w w' := by
  unfold maxLen at hn
  have b0 := Lib.hid ((Below.refl w.heap.size w).alloc (Nat.le_refl _) (.cells #[.int .i64 m, .slice A n c] 73))
  have szb : ∀ W : World, Calls Try.prog 73 #[.slice A n c, .int .i64 left] W fun e w' => e = .returned (.int .i64 (if n ≤ left then ((left - n : Nat) : Int) else -1)) ∧ W = w' := by
    intro W
    by_cases h : n ≤ left
    · rw [if_pos h]
      go_enter Try.func73, Try.ntmps73
      go_wp2
      go_ret
      exact ⟨ret_i64 (by omega), rfl⟩
    · rw [if_neg h]
      go_enter Try.func73, Try.ntmps73
      go_wp2
      go_ret
      exact ⟨rfl, rfl⟩
  have SZ := Lib.hid szb
  clear szb
  go_enter Try.func49, Try.ntmps49
  go_wp2_with fail
  refine (SZ.out _).mono ?_
  rintro e w' ⟨rfl, rfl⟩
  by_cases h : n ≤ left
  · rw [if_pos h]
    go_wp2
    go_ret
    exact ⟨rfl, b0.out⟩
  · rw [if_neg h]
    go_wp2
    go_ret
    exact ⟨rfl, b0.out⟩
theorem szCells_any (A : Option Addr) (n c : Nat) (cs : List (Int × List Int)) (w : World) (hn : n ≤ maxLen) (hm : ∀ i, (cel cs i).2.length ≤ maxLen) (hb : Cells w w.heap.size A n cs) :
    Calls Try.prog 17 #[.slice A n c, .int .i64 1048576] w fun e w' => e = .returned (.int .i64 (leftOf 1048576 (szC cs))) ∧ Below w.heap.size w w' := by
  have hlen : cs.length = n := hb.1
  have HB := Lib.hid hb
  clear hb
  unfold maxLen at hn
  by_cases hbig : 1048576 < n
  · have hr : leftOf 1048576 (szC cs) = -1 := if_neg (by have := szC_len cs; omega)
    rw [hr]
    go_enter Try.func17, Try.ntmps17
    go_wp2
    go_ret
    exact ⟨rfl, Below.refl _ _⟩
  · have hle : n ≤ 1048576 := by omega
    have hwr : IntKind.i64.wrap (1048576 - (n : Int)) = ((1048576 - n : Nat) : Int) := by rw [IntKind.wrap_i64]; omega
    have hd : decide ((((1048576 - n : Nat) : Int)) < 0) = false := decide_eq_false (by omega)
    go_enter Try.func17, Try.ntmps17
    go_wp2
    go_loopw [1, 5] (fun l i wr => ∃ k x : Nat, k ≤ n ∧ i = .int .i64 k ∧ l = .int .i64 x ∧ x + n + szC (cs.take k) = 1048576 + k ∧ Below w.heap.size w wr) (fun _ i _ => n - (intOf i).toNat)
    case atStart => exact ⟨0, 1048576 - n, Nat.zero_le _, rfl, by first | rfl | (simp; omega), by simp [szC]; omega, Below.refl _ _⟩
    case round =>
      obtain ⟨k, x, hk, rfl, rfl, hx, hbel⟩ := hrel
      by_cases hlt : k < n
      · obtain ⟨b, off, Ai, ni, ci, rfl, hbB, h0, h1, _, _, hby⟩ := (HB.out.below hbel).at_ hlt
        have hni : (cel cs k).2.length = ni := hby.1
        have hnm := hm k
        have hst := szC_take cs k (by omega)
        have hall := szC_take_le cs (k + 1)
        generalize (cel cs k).1 = m0 at h0
        have BR := Lib.hid hbel
        clear hbel hby
        go_wp2_with fail
        refine (szCell_any _ _ _ _ x _ (by omega) (by omega)).mono ?_
        rintro e w1 ⟨rfl, b1⟩
        have B1 := Lib.hid (BR.out.trans (b1.mono BR.out.size))
        clear b1 h0 h1
        by_cases hq : ni ≤ x
        · rw [if_pos hq]
          have hd2 : decide ((((x - ni : Nat) : Int)) < 0) = false := decide_eq_false (by omega)
          go_wp2
          go_roundw
          case rel => exact ⟨k + 1, x - ni, by omega, by go_num, rfl, by omega, B1.out⟩
          case measure => simp [intOf]; omega
        · rw [if_neg hq]
          go_wp2
          go_ret
          have hle3 : n ≤ k + 1 + szC (cs.drop (k + 1)) := by have := szC_len (cs.drop (k + 1)); simp at this; omega
          have hsum : szC cs = szC (cs.take (k + 1)) + szC (cs.drop (k + 1)) := by rw [← szC_append, List.take_append_drop]
          exact ⟨by rw [show leftOf 1048576 (szC cs) = -1 from if_neg (by omega)]; rfl, B1.out⟩
      · obtain rfl : k = n := by omega
        have hst : cs.take k = cs := List.take_of_length_le (by omega)
        rw [hst] at hx
        go_wp2
        go_ret
        exact ⟨by rw [show leftOf 1048576 (szC cs) = ((1048576 - szC cs : Nat) : Int) from if_pos (by omega)]; exact ret_i64 (by omega), hbel⟩
end Go.Proofs.Ytepaikljiddiaaa

-- CellsY: What the helpers of the exact laws do at slices of cells: copied, compared, marked, held against the marks.
namespace Go.Proofs.Ytepaikljiddiaaa
set_option maxRecDepth 20000
set_option linter.unusedVariables false
set_option linter.unusedSimpArgs false
open Go.RowKit

theorem toCell_any (m : Int) (A : Option Addr) (n c : Nat) (bs : List Int) (B : Nat) (w : World) (hn : n ≤ 1048576) (hB : B ≤ w.heap.size) (hb : Byts w B A n bs) :
    Calls Try.prog 57 #[.agg #[.int .i64 m, .slice A n c]] w fun e w' => ∃ A' n' c', e = .returned (.agg #[.int .i64 m, .slice A' n' c']) ∧ Mine w' w.heap.size A' n' c' bs ∧ Below w.heap.size w w' := by
  have hn' : n ≤ 140737488355328 := by omega
  have HP := Lib.hid (hb.more hB)
  have hlen := hb.1
  clear hb
  obtain ⟨w3, hw3⟩ : ∃ w3, (((w.alloc (.cells #[.int .i64 m, .slice A n c] 73)).alloc (.cells #[.int .i64 0, .slice none 0 0] 79)).alloc
    (.cells #[.int .i64 m, .slice none 0 0] 79)) = w3 := ⟨_, rfl⟩
  have x0 : Box w3 w.heap.size _ _ := hw3 ▸ heap3_0 _ _ _ _
  have x1 : Box w3 (w.heap.size + 1) _ _ := hw3 ▸ heap3_1 _ _ _ _
  have x2 : Box w3 (w.heap.size + 1 + 1) _ _ := hw3 ▸ heap3_2 _ _ _ _
  have s3 : w3.heap.size = w.heap.size + 3 := hw3 ▸ size3 _ _ _ _
  have b3 : Below w.heap.size w w3 := hw3 ▸ below3 _ _ _ _
  have X0 := Lib.hid x0
  have X1 := Lib.hid x1
  have X2 := Lib.hid x2
  have B3 := Lib.hid b3
  have HW := Lib.hid hw3
  clear x0 x1 x2 b3 hw3
  go_enter Try.func57, Try.ntmps57
  go_wp2_with fail
  rw [HW.out]
  refine (copy_own _ _ _ bs _ w3 hn' (by omega) (HP.out.below B3.out)).mono ?_
  rintro e w4 ⟨g4, rfl, hg4, r4, b4⟩
  have s4 := b4.size
  have l4 := r4.lt
  have R4 := Lib.hid r4
  have X1 := Lib.hid (X1.out.below b4 (by omega))
  have X2 := Lib.hid (X2.out.below b4 (by omega))
  have B4 := Lib.hid (B3.out.trans (b4.mono (by omega)))
  clear r4 b4
  have q10 := X1.out.cell 0
  have q11 := X1.out.cell 1
  have q20 := X2.out.cell 0
  have q21 := X2.out.cell 1
  have f1 := X1.out.free
  have f2 := X2.out.free
  simp at q10 q11 q20 q21
  go_wp2
  have hX := ((X1.out.other (g' := w.heap.size + 1 + 1) (by omega) 1 (.slice (some ⟨g4, 0, none⟩) n n)).set_ 0 (.int .i64 m)).set_ 1 (.slice (some ⟨g4, 0, none⟩) n n)
  have hS : Touch (fun k => w.heap.size ≤ k ∧ k < w.heap.size + 3) w4 _ :=
    ((touch_set w4 (w.heap.size + 1 + 1) 1 (.slice (some ⟨g4, 0, none⟩) n n) ⟨by omega, by omega⟩).trans (touch_set _ (w.heap.size + 1) 0 (.int .i64 m) ⟨by omega, by omega⟩)).trans (touch_set _ (w.heap.size + 1) 1 (.slice (some ⟨g4, 0, none⟩) n n) ⟨by omega, by omega⟩)
  refine bodyPost_ret (v := .agg #[.int .i64 m, .slice (some ⟨g4, 0, none⟩) n n]) (results_cell_row Try.results57 _ _ (w.heap.size + 1) _ _ _ _ rfl hX Try.underlying79 rfl (by kernel_rfl)) rfl ?_
  have hle := B4.out.size
  exact ⟨_, _, _, rfl, ((row_mine R4.out hlen hg4 (by unfold maxLen; omega)).touch hS (fun g hg h => by simp [Value.ownBlock] at hg; omega)).base (by omega), B4.out.trans (hS.below hle (fun k hk h => by omega))⟩

/-- the cells as far as they are filled. -/
def filledC (cs : List (Int × List Int)) (n k : Nat) : List (Int × List Int) := cs.take k ++ List.replicate (n - k) (0, [])
theorem filledC_len (cs : List (Int × List Int)) (n k : Nat) (hk : cs.length = n) (h : k ≤ n) : (filledC cs n k).length = n := by simp [filledC]; omega
theorem filledC_set (cs : List (Int × List Int)) (n k : Nat) (hz : cs.length = n) (hk : k < n) : (filledC cs n k).set k (cel cs k) = filledC cs n (k + 1) := by
  unfold filledC
  obtain ⟨m, hm⟩ : ∃ m, n - k = m + 1 := ⟨n - k - 1, by omega⟩
  have hm' : n - (k + 1) = m := by omega
  have hl : min k cs.length = k := by omega
  rw [hm, hm', cel_take cs k (by omega)]
  simp [List.replicate_succ, hl]
theorem filledC_all (cs : List (Int × List Int)) (n : Nat) (hz : cs.length = n) : filledC cs n n = cs := by
  unfold filledC
  rw [List.take_of_length_le (by omega)]; simp
def noSub : Sub := ⟨none, 0, 0, []⟩
theorem make_cells (n : Nat) (hn : n ≤ 4398046511104) (W : World) :
    (Instr.makeSlice 40 (.int .i64 (n : Int)) (.int .i64 (n : Int))).run Try.prog W = .ok (.slice (some ⟨W.heap.size, 0, none⟩) n n) (W.alloc (.cells (cvs n (List.replicate n (0, [])) fun _ => noSub).toArray 79)) := by
  obtain ⟨i0, hi, hz0, hz1, hz2⟩ := info_parts Try.infoC
  have hr := run_make (P := Try.prog) W 40 79 i0 (.agg #[.int .i64 0, .slice none 0 0]) Try.underlying40 hi hz0 .i64 .i64 n n (by omega) (by omega) (by rw [hz2]; omega) (by omega)
  simp only [Int.toNat_natCast] at hr
  rw [hr, hz1]
  have e : madeCells (Value.agg #[.int .i64 0, .slice none 0 0]).cells (n * 2) = (cvs n (List.replicate n (0, [])) fun _ => noSub).toArray := by
    apply Array.ext
    · simp [madeCells, cvs]
    · intro i h1 h2
      have hn : i < n * 2 := by simpa [madeCells] using h1
      have hd : i / 2 < n := by omega
      simp [madeCells, cvs, Value.cells, cf, cel, hd, Sub.v, noSub]
      rcases Nat.mod_two_eq_zero_or_one i with h | h <;> simp [h]
  rw [e]
theorem OwnC.of_made (w : World) (n : Nat) (hm : n ≤ maxLen) : OwnC (w.alloc (.cells (cvs n (List.replicate n (0, [])) fun _ => noSub).toArray 79)) w.heap.size (w.heap.size + 1) (some ⟨w.heap.size, 0, none⟩) n n (List.replicate n (0, [])) := by
  refine ⟨by simp, fun b h => by simp [Value.ownBlock] at h; omega, fun _ => noSub, ?_, ?_⟩
  · refine ⟨by simp [cvs], .inr ⟨w.heap.size, n, _, rfl, Nat.le_refl _, heap_alloc_new _ _, Nat.le_refl _, hm, by simp [cvs], List.take_of_length_le (by simp [cvs])⟩⟩
  · refine ⟨fun i hi => ?_, fun i j _ _ _ b h => by simp [Sub.v, noSub, Value.ownBlock] at h, fun i _ b h => by simp [Sub.v, noSub, Value.ownBlock] at h, fun i _ b h => by simp [Sub.v, noSub, Value.ownBlock] at h⟩
    have e : cel (List.replicate n ((0 : Int), ([] : List Int))) i = (0, []) := by simp [cel, hi]
    rw [e]
    exact Mine.nil _ _
/-- the call answered with cells of its own. -/
def GaveC (w : World) (cs : List (Int × List Int)) (e : Ending) (w' : World) : Prop := ∃ A n c, e = .returned (.slice A n c) ∧ OwnC w' w.heap.size w'.heap.size A n c cs ∧ Below w.heap.size w w'

theorem copyC_any (A : Option Addr) (n c : Nat) (cs : List (Int × List Int)) (B : Nat) (w : World) (hn : n ≤ 4398046511104) (hm : ∀ i, (cel cs i).2.length ≤ 1048576) (hB : B ≤ w.heap.size) (hb : Cells w B A n cs) :
    Calls Try.prog 20 #[.slice A n c] w (GaveC w cs) := by
  have HB := Lib.hid hb
  have hlen := hb.1
  clear hb
  have HM := Lib.hid (make_cells n hn)
  go_enter Try.func20, Try.ntmps20
  have hmk := HM.out
  go_wp2
  clear hmk
  have M0 := Lib.hid (OwnC.of_made w n (by unfold maxLen; omega))
  go_loopw [4] (fun i wr => ∃ k : Nat, k ≤ n ∧ i = .int .i64 k ∧ OwnC wr w.heap.size wr.heap.size (some ⟨w.heap.size, 0, none⟩) n n (filledC cs n k) ∧ Below w.heap.size w wr) (fun i _ => n - (intOf i).toNat)
  case atStart => exact ⟨0, Nat.zero_le _, rfl, by simpa [filledC] using M0.out, (Below.refl _ _).alloc (Nat.le_refl _) _⟩
  case round =>
    obtain ⟨k, hk, rfl, hm', hbel⟩ := hrel
    by_cases hlt : k < n
    · obtain ⟨b, off, Ai, ni, ci, rfl, hbB, h0, h1, _, _, hby⟩ := (HB.out.below (hbel.mono hB)).at_ hlt
      have hni : (cel cs k).2.length = ni := hby.1
      have hset := filledC_set cs n k hlen hlt
      have hnm := hm k
      have hs0 := hbel.size
      generalize cel cs k = x at h0 h1 hset hby hni hnm
      have HS := Lib.hid hset
      have HY := Lib.hid hby
      clear hset hby
      have MR := Lib.hid hm'
      have BR := Lib.hid hbel
      clear hm' hbel
      go_wp2_with fail
      refine (toCell_any _ _ _ _ x.2 B _ (by omega) (by omega) HY.out).mono ?_
      rintro e w1 ⟨A1, n1, c1, rfl, m1, b1⟩
      have o1 := MR.out.below b1
      have hc0 := o1.cell0 hlt
      obtain ⟨Aj, nj, cj, hc1, _, _, _⟩ := o1.cell1 hlt
      have hf0 := o1.free (k * 2)
      have hf1 := o1.free (k * 2 + 1)
      have hp := MR.out.put x.1 (Nat.le_refl _) b1 m1 hlt (Nat.le_refl _) hs0
      rw [show ((x.1, x.2) : Int × List Int) = x by rfl, HS.out] at hp
      have S1 := Lib.hid hp
      have B1 := Lib.hid (BR.out.trans (b1.mono BR.out.size))
      have Z1 := Lib.hid hs0
      clear hp b1 o1 m1 h0 h1 hs0
      go_wp2
      go_roundw
      case rel =>
        refine ⟨k + 1, by omega, by go_num, ?_, B1.out.trans (S1.out.2.below B1.out.size (fun b hb h => by omega))⟩
        simpa using S1.out.1
      case measure => simp [intOf]; omega
    · go_wp2
      go_ret
      obtain rfl : k = n := by omega
      rw [filledC_all cs k hlen] at hm'
      exact ⟨_, k, k, rfl, hm', hbel⟩
theorem eqCell_yes (m : Int) (A A' : Option Addr) (n c c' : Nat) (bs : List Int) (B B' : Nat) (w : World) (hn : n ≤ 1048576) (hB : B ≤ w.heap.size) (hB' : B' ≤ w.heap.size) (hb : Byts w B A n bs) (hb' : Byts w B' A' n bs) :
    Calls Try.prog 63 #[.agg #[.int .i64 m, .slice A n c], .agg #[.int .i64 m, .slice A' n c']] w fun e w' => e = .returned (.bool true) ∧ Below w.heap.size w w' := by
  have HP := Lib.hid (hb.more hB)
  have HP' := Lib.hid (hb'.more hB')
  clear hb hb'
  obtain ⟨w3, hw3⟩ : ∃ w3, ((w.alloc (.cells #[.int .i64 m, .slice A n c] 79)).alloc (.cells #[.int .i64 m, .slice A' n c'] 79)) = w3 := ⟨_, rfl⟩
  have s3 : w3.heap.size = w.heap.size + 2 := hw3 ▸ size2 _ _ _
  have b3 : Below w.heap.size w w3 := hw3 ▸ below2 _ _ _
  have B3 := Lib.hid b3
  have HW := Lib.hid hw3
  clear b3 hw3
  go_enter Try.func63, Try.ntmps63
  go_wp2_with fail
  rw [HW.out]
  refine (like_yes _ _ _ _ _ bs _ _ w3 (by omega) (HP.out.below B3.out) (HP'.out.below B3.out)).mono ?_
  rintro e w4 ⟨rfl, q, hq⟩
  have b4 : Below w3.heap.size w3 w4 := by rw [hq]; exact below_drewN (Below.refl _ _) q
  clear hq
  have B4 := Lib.hid (B3.out.trans (b4.mono (by omega)))
  clear b4
  go_wp2
  go_ret
  exact ⟨rfl, B4.out⟩
theorem likeC_yes (A A' : Option Addr) (n c c' : Nat) (cs : List (Int × List Int)) (B B' : Nat) (w : World) (hn : n ≤ 1048576) (hm : ∀ i, (cel cs i).2.length ≤ 1048576) (hB : B ≤ w.heap.size) (hB' : B' ≤ w.heap.size) (hb : Cells w B A n cs) (hb' : Cells w B' A' n cs) :
    Calls Try.prog 23 #[.slice A n c, .slice A' n c'] w fun e w' => e = .returned (.bool true) ∧ Below w.heap.size w w' := by
  have HB := Lib.hid (hb.more hB)
  have HB' := Lib.hid (hb'.more hB')
  clear hb hb'
  go_enter Try.func23, Try.ntmps23
  go_wp2
  go_loopw [5] (fun i wr => ∃ k : Nat, k ≤ n ∧ i = .int .i64 k ∧ Below w.heap.size w wr) (fun i _ => n - (intOf i).toNat)
  case atStart => exact ⟨0, Nat.zero_le _, rfl, Below.refl _ _⟩
  case round =>
    obtain ⟨k, hk, rfl, hbel⟩ := hrel
    by_cases hlt : k < n
    · obtain ⟨b, off, Ai, ni, ci, rfl, hbB, h0, h1, _, _, hy⟩ := (HB.out.below hbel).at_ hlt
      obtain ⟨b', off', Ai', ni', ci', rfl, hbB', h0', h1', _, _, hy'⟩ := (HB'.out.below hbel).at_ hlt
      have hnm := hm k
      have e1 : ni' = ni := hy'.1.symm.trans hy.1
      obtain rfl := e1
      have hl := hy.1
      generalize cel cs k = x at h0 h1 h0' h1' hy hy' hnm hl
      have Y := Lib.hid hy
      have Y' := Lib.hid hy'
      have BR := Lib.hid hbel
      clear hbel hy hy'
      go_wp2
      go_still_tail 8, (by kernel_rfl)
      change wpList _ _ _ _ _ wr.drew
      have BD := Lib.hid BR.out.drew
      have hsz := BR.out.size
      have Y := Lib.hid (Y.out.drewN 1)
      have Y' := Lib.hid (Y'.out.drewN 1)
      have e2 : wr.drewN 1 = wr.drew := rfl
      rw [e2] at Y Y'
      have hsz2 : wr.drew.heap.size = wr.heap.size := rfl
      generalize wr.drew = w2 at BD Y Y' hsz2
      clear h0 h1 h0' h1' e2
      go_wp2_with fail
      refine (eqCell_yes _ _ _ _ _ _ x.2 _ _ _ (by omega) (by omega) (by omega) Y.out Y'.out).mono ?_
      rintro e w3 ⟨rfl, b3⟩
      have B3 := Lib.hid (BD.out.trans (b3.mono BD.out.size))
      clear b3
      go_wp2
      go_roundw
      case rel => exact ⟨k + 1, by omega, by go_num, B3.out⟩
      case measure => simp [intOf]; omega
    · go_wp2
      go_ret
      exact ⟨rfl, hbel⟩

theorem markC_any (A : Option Addr) (n c lo hi : Nat) (cs : List (Int × List Int)) (k0 : Int) (w : World) (h0 : 0 ≤ k0) (h1 : k0 + szC cs ≤ 4611686018427387904) (hm : OwnC w lo hi A n c cs) :
    Calls Try.prog 25 #[.slice A n c, .int .i64 k0] w fun e w' => e = .returned (.int .i64 (k0 + szC cs)) ∧ OwnC w' lo hi A n c (markC k0 cs) ∧ Touch (fun b => lo ≤ b ∧ b < hi) w w' := by
  have hx := hm.len
  have hnb : n ≤ 4611686018427387904 := by have := szC_len cs; omega
  have HM := Lib.hid hm
  clear hm
  go_enter Try.func25, Try.ntmps25
  go_wp2
  go_loopw [1, 5] (fun q i wr => ∃ k : Nat, k ≤ n ∧ i = .int .i64 k ∧ q = .int .i64 (k0 + szC (cs.take k)) ∧ OwnC wr lo hi A n c (markTo k0 cs k) ∧ Touch (fun b => lo ≤ b ∧ b < hi) w wr) (fun _ i _ => n - (intOf i).toNat)
  case atStart => exact ⟨0, Nat.zero_le _, rfl, by simp [szC], by simpa [markTo, markC] using HM.out, Touch.of_below (Below.refl _ _)⟩
  case round =>
    obtain ⟨k, hk, rfl, rfl, hmr, htr⟩ := hrel
    by_cases hlt : k < n
    · obtain ⟨g, rfl, hbg, hgh, hlt'⟩ := hmr.form (by omega)
      have hc0 := hmr.cell0 hlt
      have hf0 := hmr.free (k * 2)
      have hs1 := hmr.setName (k0 + szC (cs.take k)) hlt
      have hst := szC_take cs k (by omega)
      have hall := szC_take_le cs (k + 1)
      rw [markTo_cel k0 cs k (by omega)] at hs1
      obtain ⟨Ai, ni, ci, hc1, hmi, hui, hin⟩ := hs1.inner hlt
      have hcc : cel ((markTo k0 cs k).set k (k0 + szC (cs.take k), (cel cs k).2)) k = (k0 + szC (cs.take k), (cel cs k).2) := by
        rw [cel_set _ _ _ _ (by rw [markTo_len]; omega), if_pos rfl]
      rw [hcc] at hmi hin
      have hni : (cel cs k).2.length = ni := hmi.len
      have hstep := markTo_step k0 cs k (by omega)
      have T1 := Lib.hid (htr.trans (touch_set (S := fun b => lo ≤ b ∧ b < hi) wr g (k * 2) (.int .i64 (k0 + szC (cs.take k))) ⟨hbg, hgh⟩))
      have MI := Lib.hid hmi
      have IN := Lib.hid hin
      have UI := Lib.hid hui
      have HST := Lib.hid hstep
      have HR := Lib.hid hst
      have HLN := Lib.hid hni
      have hk2 : k0 + szC (cs.take k) + 1 + ni ≤ 4611686018427387904 := by omega
      have hkp : 0 ≤ k0 + szC (cs.take k) + 1 := by omega
      have hfin : k0 + szC (cs.take k) + 1 + ni = k0 + szC (cs.take (k + 1)) := by omega
      have HF := Lib.hid hfin
      generalize hq : k0 + (szC (cs.take k) : Int) = q at *
      have HQ := Lib.hid hq
      clear hmr htr hs1 hmi hin hui hstep hst hfin hall hcc hq
      go_wp2_with fail
      refine (mark_any Ai ni ci lo _ (q + 1) _ hkp hk2 MI.out).mono ?_
      rintro e w1 ⟨rfl, m1, g1⟩
      have hc := IN.out _ _ m1 g1
      rw [List.set_set] at hc
      have hs2 := HST.out
      rw [HLN.out] at hs2
      rw [show (q, marks (q + 1) ni) = ((q, (cel cs k).2).1, marks (q + 1) ni) from rfl] at hs2
      rw [show ((q, (cel cs k).2).1, marks (q + 1) ni) = (q, marks (q + 1) ni) from rfl] at hs2
      have hc' : OwnC w1 lo hi (some ⟨g, 0, none⟩) n c (markTo k0 cs (k + 1)) := by rw [← hs2]; exact hc
      have O1 := Lib.hid hc'
      have T2 := Lib.hid (T1.out.trans ((Touch.of_grown g1).mono (fun b e => UI.out b e.symm)))
      clear hc m1 g1 hs2 hc' hc0 hc1 hf0
      go_wp2
      go_roundw
      case rel => exact ⟨k + 1, by omega, by go_num, by rw [← HF.out], O1.out, T2.out⟩
      case measure => simp [intOf]; omega
    · go_wp2
      go_ret
      obtain rfl : k = n := by omega
      subst hx
      rw [List.take_length, markTo_all] at *
      exact ⟨rfl, hmr, htr⟩
theorem heldC_yes (A : Option Addr) (n c : Nat) (B : Nat) (cs : List (Int × List Int)) (k0 : Int) (w : World) (h0 : 0 ≤ k0) (h1 : k0 + szC cs ≤ 4611686018427387904) (hb : Cells w B A n (markC k0 cs)) :
    Calls Try.prog 27 #[.slice A n c, .int .i64 k0] w fun e w' => e = .returned (.int .i64 (k0 + szC cs)) ∧ w = w' := by
  have HB := Lib.hid hb
  have hx : cs.length = n := (markC_len k0 cs).symm.trans hb.1
  have hnb : n ≤ 4611686018427387904 := by have := szC_len cs; omega
  clear hb
  go_enter Try.func27, Try.ntmps27
  go_wp2
  go_loop [1, 5] (fun q i => ∃ k : Nat, k ≤ n ∧ i = .int .i64 k ∧ q = .int .i64 (k0 + szC (cs.take k))) (fun _ i => n - (intOf i).toNat)
  case atStart => exact ⟨0, Nat.zero_le _, rfl, by simp [szC]⟩
  case round =>
    obtain ⟨k, hk, rfl, rfl⟩ := hrel
    by_cases hlt : k < n
    · obtain ⟨b, off, Ai, ni, ci, rfl, hbB, hc0, hc1, _, _, hy⟩ := HB.out.at_ hlt
      rw [markC_cel k0 cs k (by omega)] at hc0 hy
      have hst := szC_take cs k (by omega)
      have hall := szC_take_le cs (k + 1)
      have hni : (cel cs k).2.length = ni := (marks_len _ _).symm.trans hy.1
      rw [hni] at hy hst
      have hk2 : k0 + szC (cs.take k) + 1 + ni ≤ 4611686018427387904 := by omega
      have hkp : 0 ≤ k0 + szC (cs.take k) + 1 := by omega
      have hfin : k0 + szC (cs.take k) + 1 + ni = k0 + szC (cs.take (k + 1)) := by omega
      have HF := Lib.hid hfin
      have Y := Lib.hid hy
      clear hfin hall hst hy
      generalize hq : k0 + (szC (cs.take k) : Int) = q at *
      have hd : decide ((((k0 : Int) + ni)) < 0) = false := decide_eq_false (by omega)
      clear hq
      go_wp2_with fail
      refine (held_yes Ai ni ci B (q + 1) _ hkp hk2 Y.out).mono ?_
      rintro e w' ⟨rfl, rfl⟩
      have hd2 : decide ((q + 1 + (ni : Int)) < 0) = false := decide_eq_false (by omega)
      go_wp2
      go_round
      case rel => exact ⟨k + 1, by omega, by go_num, by rw [← HF.out]⟩
      case measure => simp [intOf]; omega
    · go_wp2
      go_ret
      obtain rfl : k = n := by omega
      subst hx
      rw [List.take_length]
      exact ⟨rfl, rfl⟩
end Go.Proofs.Ytepaikljiddiaaa

-- CellC: Cells that are put behind others; the model's copies of bytes and of cells.
namespace Go.Proofs.Ytepaikljiddiaaa
set_option maxRecDepth 20000
set_option linter.unusedVariables false
set_option linter.unusedSimpArgs false
open Go.RowKit

theorem Byts.row {w : World} {B n : Nat} {A : Option Addr} {zs : List Int} (h : Byts w B A n zs) (hn : 0 < n) :
    ∃ b off, A = some ⟨b, off, none⟩ ∧ b < B ∧ ∀ j u, (zs.map (Value.int .u8))[j]? = some u → w.cell? ((⟨b, off, none⟩ : Addr).add j) = some u := by
  obtain ⟨b, off, rfl, hb, hc⟩ := h.2.2 hn
  refine ⟨b, off, rfl, hb, fun j u hj => ?_⟩
  have hadd : (⟨b, off, none⟩ : Addr).add j = ⟨b, off + j, none⟩ := by unfold Addr.add; split <;> simp_all
  have hjl : j < zs.length := by
    rcases Nat.lt_or_ge j zs.length with h | h
    · exact h
    · rw [List.getElem?_eq_none (by simpa using h)] at hj; cases hj
  have hl := h.1
  rw [hadd, hc j (by omega)]
  rw [List.getElem?_map, List.getElem?_eq_getElem hjl] at hj
  simp only [Option.map_some, Option.some.injEq] at hj
  rw [← hj]
  simp [List.getElem?_eq_getElem hjl]

/-- cells that are put behind those that the call owns. -/
theorem OwnC.pushed {w w' : World} {lo hi hi' n c n' c' g cap : Nat} {A A' : Option Addr} {cs : List (Int × List Int)} {bs : List Int} {m : Int} {sl : Nat → Sub}
    (hl : cs.length = n) (hu : ∀ b, (Value.slice A n c).ownBlock = some b → b < hi) (hs : Subs w lo hi (Value.slice A n c).ownBlock n cs sl) (hx : Mine w lo A' n' c' bs)
    (hxb : ∀ b, (Value.slice A' n' c').ownBlock = some b → hi ≤ b)
    (hr : w'.ownsRow lo 79 2 (.slice (some ⟨g, 0, none⟩) (n + 1) cap) (n + 1) (cvs n cs sl ++ [.int .i64 m, .slice A' n' c'])) (hg : w.grownBy w' (Value.slice A n c).ownBlock)
    (hgo : (Value.slice A n c).ownBlock = some g ∨ g = w.heap.size) (hh : hi ≤ w.heap.size) (hi1 : w'.heap.size ≤ hi') : OwnC w' lo hi' (some ⟨g, 0, none⟩) (n + 1) cap (cs ++ [(m, bs)]) := by
  have hsz := hg.size
  have t := Touch.of_grown hg
  refine ⟨by simp [hl], fun b hb => ?_, fun i => if i = n then ⟨A', n', c', bs⟩ else sl i, ?_, ?_⟩
  · have := (World.ownsRow.lt hr b hb).2
    omega
  · rw [← cvs_append n cs sl ⟨A', n', c', bs⟩ m bs hl]; exact hr
  · have hlt : ∀ i, i < n → ∀ b, (sl i).v.ownBlock = some b → b < w.heap.size := fun i hi b hb => (World.ownsRow.lt (hs.mine i hi).1 b hb).2
    have hxl : ∀ b, (Value.slice A' n' c').ownBlock = some b → b < w.heap.size := fun b hb => (World.ownsRow.lt hx.1 b hb).2
    refine ⟨fun i hi => ?_, fun i j hi hj hij b => ?_, fun i hi b => ?_, fun i hi b => ?_⟩
    · rw [cel_append, hl]
      by_cases h : i = n
      · simp only [h, if_true]
        exact hx.touch t (fun b hb e => by have := hxb b hb; have := hu b e.symm; omega)
      · simp only [h, if_false]
        exact (hs.mine i (by omega)).touch t (fun b hb e => hs.other i (by omega) b hb e.symm)
    · by_cases h : i = n
      · have h2 : ¬ j = n := by omega
        simp only [h, h2, if_true, if_false]
        intro e1 e2
        have := hxb b e1
        have := hs.under j (by omega) b e2
        omega
      · by_cases h2 : j = n
        · simp only [h, h2, if_true, if_false]
          intro e1 e2
          have := hxb b e2
          have := hs.under i (by omega) b e1
          omega
        · simp only [h, h2, if_false]
          exact hs.apart i j (by omega) (by omega) hij b
    · have hown : (Value.slice (some (⟨g, 0, none⟩ : Addr)) (n + 1) cap).ownBlock = some g := by simp [Value.ownBlock]
      rw [hown]
      by_cases h : i = n
      · simp only [h, if_true]
        intro e1 e2
        cases e2
        have := hxb _ e1
        have := hxl _ e1
        rcases hgo with e | e
        · have := hu _ e; omega
        · omega
      · simp only [h, if_false]
        intro e1 e2
        cases e2
        rcases hgo with e | e
        · exact hs.other i (by omega) _ e1 e
        · have := hlt i (by omega) _ e1; omega
    · by_cases h : i = n
      · simp only [h, if_true]
        intro e1
        have := hxl b e1
        omega
      · simp only [h, if_false]
        intro e1
        have := hlt i (by omega) b e1
        omega

theorem l1Bytes_any (A : Option Addr) (n c : Nat) (bs : List Int) (B : Nat) (w : World) (h0 : 0 < n) (hn : n ≤ 1048576) (hB : B ≤ w.heap.size) (hb : Byts w B A n bs) :
    Calls Try.prog 43 #[.slice A n c] w fun e w' => ∃ A' n' c', e = .returned (.slice A' n' c') ∧ Mine w' w.heap.size A' n' c' bs ∧ Below w.heap.size w w' := by
  have hlen := hb.1
  have hr := hb.2.1
  obtain ⟨b, off, rfl, hbB, hrow⟩ := (hb.alloc hB (.cells #[] 5)).row h0
  obtain ⟨i0, hi, hz0, hz1, hz2⟩ := info_parts Try.info5
  have HI := Lib.hid hi
  have HZ0 := Lib.hid hz0
  have HZ1 := Lib.hid hz1
  have HZ2 := Lib.hid hz2
  have HR := Lib.hid hrow
  have E0 := Lib.hid (Mine.empty w)
  have B0 := Lib.hid ((Below.refl w.heap.size w).alloc (Nat.le_refl _) (.cells #[] 5))
  clear hi hz0 hz1 hz2 hrow hb
  go_enter Try.func43, Try.ntmps43
  go_wp2_with (at_builtin; refine wpList_append_own _ rfl _ _ 22 rfl w.heap.size 5 i0 (.int .u8 0) 1 1 Try.underlying22 HI.out HZ0.out HZ1.out HZ2.out rfl (by decide) _ _ _ rfl E0.out.1 ⟨b, off, none⟩ n _ (bs.map (Value.int .u8)) rfl ?e0 ?e1 ?e2 ?e3 ?e4 ?e5 ?_)
  case e0 => rw [List.length_map, Nat.mul_one]; exact hlen
  case e1 => exact HR.out
  case e2 => intro u hu; obtain ⟨z, _, rfl⟩ := List.mem_map.1 hu; rfl
  case e3 => unfold maxLen; omega
  case e4 => omega
  case e5 => simp
  intro v1 w1 hown1 hgrow1 hnil1
  have hv : ∃ g c, v1 = .slice (some ⟨g, 0, none⟩) n c := by
    rcases hown1.2 with ⟨e, _⟩ | ⟨g, cap, cur, e, _⟩
    · exact absurd e hnil1
    · exact ⟨g, cap, e⟩
  obtain ⟨g1, c1, rfl⟩ := hv
  have hm1 := E0.out.app (ys := bs) hr (by simpa using hown1)
  have hb1 : Below w.heap.size w w1 := B0.out.grown hgrow1 (by simp) (fun g hg => (E0.out.1.lt g hg).1)
  go_wp2
  go_ret
  exact ⟨_, _, _, rfl, by simpa using hm1, hb1⟩
theorem OwnC.made0 (w : World) : OwnC (w.alloc (.cells #[] 79)) w.heap.size (w.heap.size + 1) (some ⟨w.heap.size, 0, none⟩) 0 0 [] := by
  have h := OwnC.of_made w 0 (by unfold maxLen; omega)
  simpa [cvs] using h

/-- .. and they lie in a block, also where there are none. -/
def GaveC1 (w : World) (cs : List (Int × List Int)) (e : Ending) (w' : World) : Prop := ∃ g n c, e = .returned (.slice (some ⟨g, 0, none⟩) n c) ∧ OwnC w' w.heap.size w'.heap.size (some ⟨g, 0, none⟩) n c cs ∧ Below w.heap.size w w'
theorem l4Copy_any (A : Option Addr) (n c : Nat) (cs : List (Int × List Int)) (B : Nat) (w : World) (hn : n ≤ 1048576) (hm : ∀ i, (cel cs i).2.length ≤ 1048576) (hp : ∀ i, i < n → 0 < (cel cs i).2.length) (hB : B ≤ w.heap.size) (hb : Cells w B A n cs) :
    Calls Try.prog 53 #[.slice A n c] w (GaveC1 w cs) := by
  have HB := Lib.hid (hb.more hB)
  have hlen := hb.1
  clear hb
  obtain ⟨i0, hi, hz0, hz1, hz2⟩ := info_parts Try.infoC
  have HI := Lib.hid hi
  have HZ0 := Lib.hid hz0
  have HZ1 := Lib.hid hz1
  have HZ2 := Lib.hid hz2
  clear hi hz0 hz1 hz2
  go_enter Try.func53, Try.ntmps53
  go_wp2
  go_loopw [3, 4] (fun o i wr => ∃ (k : Nat) (go : Nat) (co : Nat), k ≤ n ∧ i = .int .i64 k ∧ o = .slice (some ⟨go, 0, none⟩) k co ∧ OwnC wr w.heap.size wr.heap.size (some ⟨go, 0, none⟩) k co (cs.take k) ∧ Below w.heap.size w wr) (fun _ i _ => n - (intOf i).toNat)
  case atStart => exact ⟨0, w.heap.size, 0, Nat.zero_le _, rfl, rfl, by simpa using OwnC.made0 w, (Below.refl _ _).alloc (Nat.le_refl _) _⟩
  case round =>
    obtain ⟨k, go, co, hk, rfl, rfl, hown, hbel⟩ := hrel
    by_cases hlt : k < n
    · obtain ⟨b, off, Ai, ni, ci, rfl, hbB, h0, h1, _, _, hy⟩ := (HB.out.below hbel).at_ hlt
      obtain ⟨x, hx⟩ : ∃ x, cel cs k = x := ⟨_, rfl⟩
      have hnm := hm k
      have hpk := hp k hlt
      have hst := cel_take cs k (by omega)
      rw [hx] at h0 hy hnm hpk hst
      have hni := hy.1
      have Y := Lib.hid hy
      have HST := Lib.hid hst
      have OR := Lib.hid hown
      have BR := Lib.hid hbel
      have hs0 := hbel.size
      clear hy hown hbel hst
      go_wp2
      go_region_law (first
        | (refine step_append_lies _ rfl _ _ 40 rfl w.heap.size 79 i0 (.agg #[.int .i64 0, .slice none 0 0]) 2 32 Try.underlying40 HI.out HZ0.out HZ1.out HZ2.out rfl (by decide) (.slice (some ⟨go, 0, none⟩) k co) k (cvs k (cs.take k) sl) (by simp [Act.eval]) hrow ⟨w1.heap.size, 0, none⟩ 1 1 [.int .i64 x.1, .slice A1 n1 c1] (by simp [Act.eval]) rfl (by
              intro j u hj
              match j, hj with
              | 0, hj => simp at hj; subst hj; simp [Addr.add]
              | 1, hj => simp at hj; subst hj; simp [Addr.add]) (by intro u hu; simp at hu; rcases hu with rfl | rfl <;> rfl) (by omega) (by unfold maxLen; omega) (by omega) (by simp; omega) _ rfl ?_
           intro g6 c6 w6 hown6 hgrow6 hwh6 hlt6
           have h6 := OwnC.pushed hl hu hsub mx hxb hown6 hgrow6 hwh6 hhi (Nat.le_refl _)
           have b6 := B1.out.grown hgrow6 (by simp; omega) (fun g hg => (hrow.lt g hg).1))
        | (go_simp
           refine (l1Bytes_any Ai ni ci x.2 w.heap.size wr.drew (by omega) (by omega) hs0 Y.out.drew).mono ?_
           rintro e w1 ⟨A1, n1, c1, rfl, m1, b1⟩
           have hs1 : wr.heap.size ≤ w1.heap.size := b1.size
           have HK1 := HB.out.below ((BR.out.drew).trans (b1.mono hs0))
           obtain ⟨_, _, _, _, _, e1, _, h0, _⟩ := HK1.at_ hlt
           cases e1
           rw [hx] at h0
           have ba : Below w1.heap.size w1 (w1.alloc (.cells #[.int .i64 x.1, .slice A1 n1 c1] 79)) := (Below.refl _ _).alloc (Nat.le_refl _) _
           obtain ⟨hl, hu, sl, hrow, hsub⟩ := ((OR.out.below (below_drewN (Below.refl _ _) 1)).below b1).below (ba.mono hs1)
           have mx := (m1.below ba).base hs0
           have hxb : ∀ b, (Value.slice A1 n1 c1).ownBlock = some b → wr.heap.size ≤ b := fun b hb => (m1.1.lt b hb).1
           have B1 := Lib.hid ((BR.out.drew.trans (b1.mono hs0)).trans (ba.mono (Nat.le_trans hs0 hs1)))
           have hhi : wr.heap.size ≤ (w1.alloc (.cells #[.int .i64 x.1, .slice A1 n1 c1] 79)).heap.size := by simp; omega))
      all_goals
        rw [show ((x.1, x.2) : Int × List Int) = x from rfl, ← HST.out] at h6
        have H6 := Lib.hid h6
        have B6 := Lib.hid b6
        clear h6 b6 hown6 hgrow6 hwh6 hrow hsub mx hxb
        go_wp2
        go_roundw
        case rel => exact ⟨k + 1, _, _, by omega, by go_num, rfl, H6.out, B6.out⟩
        case measure => simp [intOf]; omega
    · obtain rfl : k = n := by omega
      rw [List.take_of_length_le (by omega)] at hown
      go_wp2
      go_ret
      exact ⟨_, _, _, rfl, hown, hbel⟩
end Go.Proofs.Ytepaikljiddiaaa

-- L1B: The model's copy of some bytes, of no bytes too.
namespace Go.Proofs.Ytepaikljiddiaaa
set_option maxRecDepth 20000
set_option linter.unusedVariables false
set_option linter.unusedSimpArgs false
open Go.RowKit

theorem l1Bytes_all (A : Option Addr) (n c : Nat) (bs : List Int) (B : Nat) (w : World) (hn : n ≤ 1048576) (hA : A = none → c = 0) (hB : B ≤ w.heap.size) (hb : Byts w B A n bs) :
    Calls Try.prog 43 #[.slice A n c] w fun e w' => ∃ A' n' c', e = .returned (.slice A' n' c') ∧ Mine w' w.heap.size A' n' c' bs ∧ Below w.heap.size w w' := by
  by_cases h0 : 0 < n
  · exact l1Bytes_any A n c bs B w h0 hn hB hb
  · obtain rfl : n = 0 := by omega
    have hlen := hb.1
    obtain rfl : bs = [] := List.eq_nil_of_length_eq_zero hlen
    obtain ⟨i0, hi, hz0, hz1, hz2⟩ := info_parts Try.info5
    have HI := Lib.hid hi
    have HZ0 := Lib.hid hz0
    have HZ1 := Lib.hid hz1
    have HZ2 := Lib.hid hz2
    have E0 := Lib.hid (Mine.empty w)
    have B0 := Lib.hid ((Below.refl w.heap.size w).alloc (Nat.le_refl _) (.cells #[] 5))
    clear hi hz0 hz1 hz2 hb
    cases A with
    | none =>
      obtain rfl : c = 0 := hA rfl
      go_enter Try.func43, Try.ntmps43
      go_wp2
      go_ret
      exact ⟨_, _, _, rfl, E0.out, B0.out⟩
    | some a =>
      go_enter Try.func43, Try.ntmps43
      go_wp2_with (at_builtin; refine wpList_append_own _ rfl _ _ 22 rfl w.heap.size 5 i0 (.int .u8 0) 1 1 Try.underlying22 HI.out HZ0.out HZ1.out HZ2.out rfl (by decide) _ _ _ rfl E0.out.1 a 0 _ ([] : List Value) rfl ?e0 ?e1 ?e2 ?e3 ?e4 ?e5 ?_)
      case e0 => rfl
      case e1 => intro j u hj; simp at hj
      case e2 => intro u hu; cases hu
      case e3 => unfold maxLen; omega
      case e4 => omega
      case e5 => simp
      intro v1 w1 hown1 hgrow1 hnil1
      obtain ⟨g1, c1, rfl⟩ : ∃ g c, v1 = .slice (some ⟨g, 0, none⟩) 0 c := by
        rcases hown1.2 with ⟨e, _⟩ | ⟨g, cap, cur, e, _⟩
        · exact absurd e hnil1
        · exact ⟨g, cap, e⟩
      have hm1 : Mine w1 w.heap.size (some ⟨g1, 0, none⟩) 0 c1 [] := ⟨by simpa using hown1, by simp⟩
      have hb1 : Below w.heap.size w w1 := B0.out.grown hgrow1 (by simp) (fun g hg => (E0.out.1.lt g hg).1)
      go_wp2
      go_ret
      exact ⟨_, _, _, rfl, hm1, hb1⟩
end Go.Proofs.Ytepaikljiddiaaa

-- FrameS: The model's Framed.
namespace Go.Proofs.Ytepaikljiddiaaa
set_option maxRecDepth 20000
set_option linter.unusedVariables false
set_option linter.unusedSimpArgs false
open Go.RowKit

theorem l11Two_any (n : Nat) (w : World) (hn : n ≤ 65535) :
    Calls Try.prog 47 #[.int .i64 n] w fun e w' => e = .returned (.slice (some ⟨w.heap.size, 0, none⟩) 2 2) ∧ Mine w' w.heap.size (some ⟨w.heap.size, 0, none⟩) 2 2 (two n) ∧ Below w.heap.size w w' := by
  have m0 := Lib.hid (Mine.of_alloc w w.heap.size (two n) 2 (Nat.le_refl _) rfl (by unfold maxLen; omega) (by simp [two]; omega))
  have b0 := Lib.hid ((Below.refl w.heap.size w).alloc (Nat.le_refl _) (.cells (u8s (two n)) 5))
  go_enter Try.func47, Try.ntmps47
  go_wp2
  go_ret
  exact ⟨rfl, m0.out, b0.out⟩

theorem specFramed_any (A : Option Addr) (n c : Nat) (bs : List Int) (B : Nat) (w : World) (hn : n ≤ 1048576) (hA : A = none → c = 0) (hB : B ≤ w.heap.size) (hb : Byts w B A n bs) :
    Calls Try.prog 14 #[.slice A n c] w fun e w' => ∃ A' n' c', e = .returned (.slice A' n' c') ∧ Mine w' w.heap.size A' n' c' (framed bs) ∧ Below w.heap.size w w' := by
  have HB := Lib.hid (hb.more hB)
  have hlen := hb.1
  have hrg := hb.2.1
  clear hb
  by_cases hbig : 65535 < n
  · have hf : framed bs = [] := if_pos (by omega)
    have hd : decide ((65535 : Int) < (n : Int)) = true := decide_eq_true (by omega)
    have E0 := Lib.hid (Mine.empty w)
    have B0 := Lib.hid ((Below.refl w.heap.size w).alloc (Nat.le_refl _) (.cells #[] 5))
    rw [hf]
    go_enter Try.func14, Try.ntmps14
    go_wp2
    go_ret
    exact ⟨_, 0, 0, rfl, E0.out, B0.out⟩
  · have hf : framed bs = (two (n : Int) ++ nameBytes (nameOf bs)) ++ bs := by unfold framed; rw [if_neg (by omega), hlen]
    have hd : decide ((65535 : Int) < (n : Int)) = false := decide_eq_false (by omega)
    rw [hf]
    go_enter Try.func14, Try.ntmps14
    go_wp2_with fail
    refine (l11Two_any n w (by omega)).mono ?_
    rintro e w1 ⟨rfl, m1, b1⟩
    have M1 := Lib.hid m1
    have B1 := Lib.hid b1
    have hs1 : w.heap.size ≤ w1.heap.size := b1.size
    clear m1 b1
    go_wp2_with fail
    refine (specName_any A n c bs _ w1 (by omega) (HB.out.below B1.out)).mono ?_
    rintro e w' ⟨rfl, rfl⟩
    go_wp2_with fail
    refine (specBytes_some (nameOf bs) w1).mono ?_
    rintro e w2 ⟨g2, n2, c2, rfl, m2, b2⟩
    have hl2 := m2.len
    have hn2 := nameBytes_len8 (nameOf bs)
    have hs2 : w1.heap.size ≤ w2.heap.size := b2.size
    have M1 := Lib.hid (M1.out.below b2)
    have B2 := Lib.hid (B1.out.trans (b2.mono hs1))
    have M2 := Lib.hid m2
    clear m2 b2
    obtain ⟨i0, hi, hz0, hz1, hz2⟩ := info_parts Try.info5
    have HI := Lib.hid hi
    have HZ0 := Lib.hid hz0
    have HZ1 := Lib.hid hz1
    have HZ2 := Lib.hid hz2
    clear hi hz0 hz1 hz2
    go_wp2_with (at_builtin; refine wpList_append_own _ rfl _ _ 22 rfl w.heap.size 5 i0 (.int .u8 0) 1 1 Try.underlying22 HI.out HZ0.out HZ1.out HZ2.out rfl (by decide) _ _ _ rfl M1.out.1 ⟨g2, 0, none⟩ n2 _ ((nameBytes (nameOf bs)).map (Value.int .u8)) rfl ?h0 ?h1 ?h2 ?h3 ?h4 ?h5 ?_)
    case h0 => rw [List.length_map, Nat.mul_one]; exact hl2
    case h1 =>
      intro j u hj
      have hjl : j < n2 := by
        rcases Nat.lt_or_ge j n2 with h | h
        · exact h
        · rw [List.getElem?_eq_none (by simp; omega)] at hj; cases hj
      have hc := M2.out.cell hjl
      have e : (⟨g2, 0, none⟩ : Addr).add j = ⟨g2, j, none⟩ := by unfold Addr.add; split <;> simp_all
      rw [e, hc]
      simp [show j < (nameBytes (nameOf bs)).length by omega] at hj ⊢
      exact hj
    case h2 => intro u hu; obtain ⟨z, _, rfl⟩ := List.mem_map.1 hu; rfl
    case h3 => unfold maxLen; omega
    case h4 => omega
    case h5 => first | omega | (simp; omega)
    intro v3 w3 hown3 hgrow3 hnil3
    obtain ⟨g3, c3, rfl⟩ : ∃ g c, v3 = .slice (some ⟨g, 0, none⟩) (2 + n2) c := by
      rcases hown3.2 with ⟨e, _⟩ | ⟨g, cap, cur, e, _⟩
      · exact absurd e hnil3
      · exact ⟨g, cap, e⟩
    have hnb : ∀ z ∈ nameBytes (nameOf bs), 0 ≤ z ∧ z ≤ 255 := M2.out.2
    have m3 := M1.out.app hnb hown3
    have b3 := B2.out.grown hgrow3 (by omega) (fun g hg => (World.ownsRow.lt M1.out.1 g hg).1)
    have M3 := Lib.hid m3
    have B3 := Lib.hid b3
    have hs3 : w.heap.size ≤ w3.heap.size := b3.size
    clear hown3 hgrow3 hnil3 m3 b3 M1 M2 hnb
    cases A with
    | none =>
      obtain rfl : c = 0 := hA rfl
      obtain rfl : n = 0 := by
        rcases Nat.eq_zero_or_pos n with h | h
        · exact h
        · obtain ⟨b, off, e, _⟩ := HB.out.2.2 h; cases e
      obtain rfl : bs = [] := List.eq_nil_of_length_eq_zero hlen
      have hc3 := mine_cap M3.out
      go_wp2
      go_ret
      exact ⟨_, _, _, rfl, by simpa using M3.out, B3.out⟩
    | some a =>
      have hrow : ∀ j u, (bs.map (Value.int .u8))[j]? = some u → w3.cell? (a.add j) = some u := by
        intro j u hj
        have h0 : 0 < n := by
          rcases Nat.eq_zero_or_pos n with h | h
          · rw [List.getElem?_eq_none (by simp; omega)] at hj; cases hj
          · exact h
        obtain ⟨b, off, e, hbB, hrow⟩ := (HB.out.below B3.out).row h0
        cases e
        exact hrow j u hj
      have HROW := Lib.hid hrow
      clear hrow
      go_wp2_with (at_builtin; refine wpList_append_own _ rfl _ _ 22 rfl w.heap.size 5 i0 (.int .u8 0) 1 1 Try.underlying22 HI.out HZ0.out HZ1.out HZ2.out rfl (by decide) _ _ _ rfl M3.out.1 a n _ (bs.map (Value.int .u8)) rfl ?k0 ?k1 ?k2 ?k3 ?k4 ?k5 ?_)
      case k0 => rw [List.length_map, Nat.mul_one]; exact hlen
      case k1 => exact HROW.out
      case k2 => intro u hu; obtain ⟨z, _, rfl⟩ := List.mem_map.1 hu; rfl
      case k3 => unfold maxLen; omega
      case k4 => omega
      case k5 => first | omega | (simp; omega)
      intro v4 w4 hown4 hgrow4 hnil4
      obtain ⟨g4, c4, rfl⟩ : ∃ g c, v4 = .slice (some ⟨g, 0, none⟩) (2 + n2 + n) c := by
        rcases hown4.2 with ⟨e, _⟩ | ⟨g, cap, cur, e, _⟩
        · exact absurd e hnil4
        · exact ⟨g, cap, e⟩
      have m4 := M3.out.app hrg hown4
      have b4 := B3.out.grown hgrow4 (by omega) (fun g hg => (World.ownsRow.lt M3.out.1 g hg).1)
      have M4 := Lib.hid m4
      have B4 := Lib.hid b4
      clear hown4 hgrow4 hnil4 m4 b4
      go_wp2
      go_ret
      exact ⟨_, _, _, rfl, M4.out, B4.out⟩
end Go.Proofs.Ytepaikljiddiaaa

-- FrameI: The model's FramesIn.
namespace Go.Proofs.Ytepaikljiddiaaa
set_option maxRecDepth 20000
set_option linter.unusedVariables false
set_option linter.unusedSimpArgs false
open Go.RowKit

theorem ofTwo_eq (b : List Int) (h : ∀ z ∈ b, 0 ≤ z ∧ z ≤ 255) (i : Nat) : (ofTwo b i : Int) = b[i]?.getD 0 + 256 * b[i + 1]?.getD 0 ∧ ofTwo b i ≤ 65535 := by
  have h1 := mem_at b h i
  have h2 := mem_at b h (i + 1)
  unfold ofTwo
  omega
theorem l11Of_any (A : Option Addr) (n c : Nat) (bs : List Int) (i : Nat) (B : Nat) (w : World) (hn : n ≤ 1048576) (hi : i + 1 < n) (hb : Byts w B A n bs) :
    Calls Try.prog 40 #[.slice A n c, .int .i64 i] w fun e w' => e = .returned (.int .i64 (ofTwo bs i)) ∧ ∃ q, w' = w.drewN q := by
  obtain ⟨b, off, rfl, hbB, h0⟩ := hb.at_ (k := i) (by omega)
  obtain ⟨b', off', e', _, h1⟩ := hb.at_ (k := i + 1) hi
  cases e'
  obtain ⟨he, hle⟩ := ofTwo_eq bs hb.2.1 i
  have r0 := hb.range i
  have r1 := hb.range (i + 1)
  generalize bs[i]?.getD 0 = x at *
  generalize bs[i + 1]?.getD 0 = y at *
  have HE := Lib.hid he
  clear hb he
  go_enter Try.func40, Try.ntmps40
  go_wp2
  go_quiet (fail)
  go_wp2
  go_ret
  exact ⟨ret_i64 (by rw [HE.out]), _, rfl⟩

theorem Byts.part2 {w : World} {B b off n : Nat} {bs : List Int} (h : Byts w B (some ⟨b, off, none⟩) n bs) (i m off' : Nat) (hi : i + m ≤ n) (ho : 0 < m → off' = off + i) : Byts w B (some ⟨b, off', none⟩) m ((bs.drop i).take m) := by
  have hl := h.1
  refine ⟨by rw [List.length_take, List.length_drop]; omega, fun z hz => h.2.1 z (List.mem_of_mem_drop (List.mem_of_mem_take hz)), fun hp => ?_⟩
  obtain ⟨b', o, e, hb, hc⟩ := h.2.2 (by omega)
  cases e
  have e1 := ho hp
  subst e1
  refine ⟨b, off + i, rfl, hb, fun j hj => ?_⟩
  have h1 := hc (i + j) (by omega)
  rw [Nat.add_assoc, h1]
  simp [List.getD_eq_getElem?_getD, List.getElem?_take_of_lt hj, List.getElem?_drop]
/-- the call answered with the bodies and with where they end. -/
def GaveFrames (bs : List Int) (w : World) (e : Ending) (w' : World) : Prop :=
  ∃ A' n' c', e = .returned (.tuple #[.slice A' n' c', .int .i64 ((framesAt bs 0).2 : Int)]) ∧ OwnBs w' w.heap.size w'.heap.size A' n' c' (framesAt bs 0).1 ∧ Below w.heap.size w w'

set_option maxHeartbeats 1600000 in
theorem specFramesIn_any (A : Option Addr) (n c : Nat) (bs : List Int) (B : Nat) (w : World) (hn : n ≤ 1048576) (hc : n ≤ c) (hA : A = none → c = 0) (hB : B ≤ w.heap.size) (hb : Byts w B A n bs) :
    Calls Try.prog 10 #[.slice A n c] w (GaveFrames bs w) := by
  have HB := Lib.hid (hb.more hB)
  have hlen := hb.1
  have hrg := hb.2.1
  clear hb
  obtain ⟨i0, hi, hz0, hz1, hz2⟩ := info_parts Try.infoBs
  have HI := Lib.hid hi
  have HZ0 := Lib.hid hz0
  have HZ1 := Lib.hid hz1
  have HZ2 := Lib.hid hz2
  clear hi hz0 hz1 hz2
  go_enter Try.func10, Try.ntmps10
  go_wp2
  go_loopw [4, 5] (fun s i wr => ∃ (k go q co : Nat) (done : List (List Int)), k ≤ n ∧ q ≤ k ∧ i = .int .i64 k ∧ s = .slice (some ⟨go, 0, none⟩) q co ∧ OwnBs wr w.heap.size wr.heap.size (some ⟨go, 0, none⟩) q co done ∧ Below w.heap.size w wr ∧ framesAt bs 0 = (done ++ (framesAt bs k).1, (framesAt bs k).2)) (fun _ i _ => n - (intOf i).toNat)
  case atStart => exact ⟨0, w.heap.size, 0, 0, [], Nat.zero_le _, Nat.zero_le _, rfl, rfl, (OwnBs.made0 w).more (by simp), (Below.refl _ _).alloc (Nat.le_refl _) _, rfl⟩
  case round =>
    obtain ⟨k, go, q, co, done, hk, hqk, rfl, rfl, oq, hbel, hfr⟩ := hrel
    have OQ := Lib.hid oq
    have BR := Lib.hid hbel
    have FR := Lib.hid hfr
    have hsr : w.heap.size ≤ wr.heap.size := hbel.size
    have hdl : done.length = q := oq.len
    have hstop := Lib.hid (fun (hno : ¬ frameAt bs k) (w' : World) (b : Below wr.heap.size wr w') => (show GaveFrames bs w (.returned (.tuple #[.slice (some ⟨go, 0, none⟩) q co, .int .i64 k])) w' from by
      have h := hfr
      rw [framesAt_no bs k hno, List.append_nil] at h
      refine ⟨_, q, co, by rw [h], ?_, hbel.trans (b.mono hsr)⟩
      rw [h]
      exact (oq.below b).more b.size))
    clear oq hbel hfr
    by_cases hfit : k + 10 ≤ n
    case neg =>
      have hd : decide ((k : Int) + 10 ≤ (n : Int)) = false := decide_eq_false (by omega)
      have hno : ¬ frameAt bs k := fun h => by have := h.1; omega
      have HE := Lib.hid (hstop.out hno _ (Below.refl _ _))
      clear hno
      go_wp2
      go_ret2
      exact HE.out
    have hd : decide ((k : Int) + 10 ≤ (n : Int)) = true := decide_eq_true (by omega)
    have Y := Lib.hid (HB.out.below BR.out)
    go_wp2_with fail
    refine (l11Of_any A n c bs k _ wr hn (by omega) Y.out).mono ?_
    rintro e w1 ⟨rfl, qd, hw1⟩
    have b1 : Below wr.heap.size wr w1 := by rw [hw1]; exact below_drewN (Below.refl _ _) qd
    clear hw1
    obtain ⟨m, hm⟩ : ∃ m, ofTwo bs k = m := ⟨_, rfl⟩
    have hm65 := (ofTwo_eq bs hrg k).2
    rw [hm] at hm65 ⊢
    have HM := Lib.hid hm
    have B1 := Lib.hid b1
    have s1 : wr.heap.size ≤ w1.heap.size := b1.size
    clear hm b1
    by_cases hfit2 : k + 10 + m ≤ n
    case neg =>
      have hd2 : decide ((n : Int) < (k : Int) + 10 + (m : Int)) = true := decide_eq_true (by omega)
      have hno : ¬ frameAt bs k := fun h => by have := h.1; rw [HM.out] at this; omega
      have HE := Lib.hid (hstop.out hno _ B1.out)
      clear hno
      go_wp2
      go_ret2
      exact HE.out
    have hd2 : decide ((n : Int) < (k : Int) + 10 + (m : Int)) = false := decide_eq_false (by omega)
    have hc2 : ¬ c = k + 2 := by omega
    have hbd : ∀ z ∈ bodyAt bs k, 0 ≤ z ∧ z ≤ 255 := fun z hz => hrg z (List.mem_of_mem_drop (List.mem_of_mem_take hz))
    obtain ⟨bA, offA, rfl, hbA, _⟩ := Y.out.at_ (k := 0) (by omega)
    have Y1 := Lib.hid (Y.out.below (B1.out.mono hsr))
    have y8 : Byts w1 w.heap.size (some ⟨bA, offA + (k + 2), none⟩) 8 (eightAt bs k) := Y1.out.part2 (k + 2) 8 _ (by omega) (fun _ => rfl)
    have Y8 := Lib.hid y8
    have HB9 := Lib.hid (B1.out)
    clear y8
    rcases (show c = k + 10 ∨ ¬ c = k + 10 by omega) with hck | hck
    case inl =>
      obtain rfl := hck
      have yb : Byts w1 w.heap.size (some ⟨bA, offA, none⟩) m (bodyAt bs k) := by unfold bodyAt; rw [HM.out]; exact Y1.out.part2 (k + 10) m _ (by omega) (fun h => by omega)
      have YB := Lib.hid yb
      clear yb
      go_wp2_with fail
      by_cases h7 : (eightAt bs k)[7]?.getD 0 ≤ 127
      case neg =>
        refine (specFrom_high _ _ (eightAt bs k) _ w1 Y8.out (by omega)).mono ?_
        rintro e w' ⟨rfl, rfl⟩
        have HE := Lib.hid (hstop.out (fun h => h7 h.2.1) _ B1.out)
        go_wp2
        go_ret2
        exact HE.out
      case pos =>
        refine (specFrom_yes _ _ (eightAt bs k) _ w1 Y8.out h7).mono ?_
        rintro e w' ⟨rfl, rfl⟩
        go_wp2_with fail
        refine (specName_any _ _ _ (bodyAt bs k) _ w1 (by omega) YB.out).mono ?_
        rintro e w' ⟨rfl, rfl⟩
        by_cases heq : leVal (eightAt bs k) = nameOf (bodyAt bs k)
        case neg =>
          have hne : (leVal (eightAt bs k) != nameOf (bodyAt bs k)) = true := by simpa using heq
          have HE := Lib.hid (hstop.out (fun h => heq h.2.2) _ B1.out)
          clear heq
          go_wp2
          go_ret2
          exact HE.out
        case pos =>
          have hne : (leVal (eightAt bs k) != nameOf (bodyAt bs k)) = false := by simpa using heq
          have hyes : frameAt bs k := ⟨by rw [HM.out]; omega, h7, heq⟩
          have hfr2 : framesAt bs 0 = ((done ++ [bodyAt bs k]) ++ (framesAt bs (k + 10 + m)).1, (framesAt bs (k + 10 + m)).2) := by
            have h := FR.out
            rw [framesAt_yes bs k hyes, HM.out] at h
            rw [h, List.append_assoc]; rfl
          have FR2 := Lib.hid hfr2
          have HOW := Lib.hid hstop
          clear heq hyes hfr2
          have hsw : w.heap.size ≤ w1.heap.size := by omega
          have hlb : (bodyAt bs k).length = m := YB.out.1
          have OQ := Lib.hid ((OQ.out.below B1.out).more s1)
          go_wp2_with fail
          refine (l1Bytes_all _ m _ (bodyAt bs k) w.heap.size w1 (by omega) (fun h => by cases h) hsw YB.out).mono ?_
          rintro e w5 ⟨A5, n5, c5, rfl, m5, b5⟩
          have hs5 : w1.heap.size ≤ w5.heap.size := b5.size
          have ba : Below w5.heap.size w5 (w5.alloc (.cells #[.slice A5 n5 c5] 22)) := (Below.refl _ _).alloc (Nat.le_refl _) _
          obtain ⟨hl, hu, sl, hrow, hsub⟩ := (OQ.out.below b5).below (ba.mono hs5)
          have mx := (m5.below ba).base hsw
          have hxb : ∀ b, (Value.slice A5 n5 c5).ownBlock = some b → w1.heap.size ≤ b := fun b hb => (m5.1.lt b hb).1
          have B5 := Lib.hid ((BR.out.trans (B1.out.mono hsr)).trans ((b5.mono hsw).trans (ba.mono (by omega))))
          have hhi : w1.heap.size ≤ (w5.alloc (.cells #[.slice A5 n5 c5] 22)).heap.size := by simp; omega
          go_wp2_with (at_builtin; go_loud (refine wpList_append_lies _ rfl _ _ 25 rfl w.heap.size 22 i0 (.slice none 0 0) 1 24 Try.underlying25 HI.out HZ0.out HZ1.out HZ2.out rfl (by decide) (.slice (some ⟨go, 0, none⟩) q co) q (bvs q sl) (by simp [Act.eval]) hrow ⟨w5.heap.size, 0, none⟩ 1 1 [.slice A5 n5 c5] (by simp [Act.eval]) rfl (by intro j u hj; match j, hj with | 0, hj => (simp at hj; subst hj; simp [Addr.add])) (by intro u hu; simp at hu; subst hu; rfl) (by omega) (by unfold maxLen; omega) (by omega) (by simp; omega) _ rfl ?_))
          intro g6 c6 w6 hown6 hgrow6 hwh6 hlt6
          have h6 := OwnBs.pushed hl hu hsub mx hxb hown6 hgrow6 (by simpa using hwh6) hhi (Nat.le_refl _)
          have H6 := Lib.hid h6
          have B6 := Lib.hid (B5.out.grown hgrow6 (by simp; omega) (fun g hg => (World.ownsRow.lt hrow g hg).1))
          clear hown6 hgrow6 hwh6 h6 hrow hsub mx hxb hu hl ba hstop
          go_wp2
          go_roundw
          case rel => exact ⟨k + 10 + m, g6, q + 1, c6, done ++ [bodyAt bs k], by omega, by omega, by go_num, rfl, H6.out, B6.out, FR2.out⟩
          case measure => simp [intOf]; omega
    case inr =>
      have yb : Byts w1 w.heap.size (some ⟨bA, offA + (k + 10), none⟩) m (bodyAt bs k) := by unfold bodyAt; rw [HM.out]; exact Y1.out.part2 (k + 10) m _ (by omega) (fun h => rfl)
      have YB := Lib.hid yb
      clear yb
      go_wp2_with fail
      by_cases h7 : (eightAt bs k)[7]?.getD 0 ≤ 127
      case neg =>
        refine (specFrom_high _ _ (eightAt bs k) _ w1 Y8.out (by omega)).mono ?_
        rintro e w' ⟨rfl, rfl⟩
        have HE := Lib.hid (hstop.out (fun h => h7 h.2.1) _ B1.out)
        go_wp2
        go_ret2
        exact HE.out
      case pos =>
        refine (specFrom_yes _ _ (eightAt bs k) _ w1 Y8.out h7).mono ?_
        rintro e w' ⟨rfl, rfl⟩
        go_wp2_with fail
        refine (specName_any _ _ _ (bodyAt bs k) _ w1 (by omega) YB.out).mono ?_
        rintro e w' ⟨rfl, rfl⟩
        by_cases heq : leVal (eightAt bs k) = nameOf (bodyAt bs k)
        case neg =>
          have hne : (leVal (eightAt bs k) != nameOf (bodyAt bs k)) = true := by simpa using heq
          have HE := Lib.hid (hstop.out (fun h => heq h.2.2) _ B1.out)
          clear heq
          go_wp2
          go_ret2
          exact HE.out
        case pos =>
          have hne : (leVal (eightAt bs k) != nameOf (bodyAt bs k)) = false := by simpa using heq
          have hyes : frameAt bs k := ⟨by rw [HM.out]; omega, h7, heq⟩
          have hfr2 : framesAt bs 0 = ((done ++ [bodyAt bs k]) ++ (framesAt bs (k + 10 + m)).1, (framesAt bs (k + 10 + m)).2) := by
            have h := FR.out
            rw [framesAt_yes bs k hyes, HM.out] at h
            rw [h, List.append_assoc]; rfl
          have FR2 := Lib.hid hfr2
          have HOW := Lib.hid hstop
          clear heq hyes hfr2
          have hsw : w.heap.size ≤ w1.heap.size := by omega
          have hlb : (bodyAt bs k).length = m := YB.out.1
          have OQ := Lib.hid ((OQ.out.below B1.out).more s1)
          go_wp2_with fail
          refine (l1Bytes_all _ m _ (bodyAt bs k) w.heap.size w1 (by omega) (fun h => by cases h) hsw YB.out).mono ?_
          rintro e w5 ⟨A5, n5, c5, rfl, m5, b5⟩
          have hs5 : w1.heap.size ≤ w5.heap.size := b5.size
          have ba : Below w5.heap.size w5 (w5.alloc (.cells #[.slice A5 n5 c5] 22)) := (Below.refl _ _).alloc (Nat.le_refl _) _
          obtain ⟨hl, hu, sl, hrow, hsub⟩ := (OQ.out.below b5).below (ba.mono hs5)
          have mx := (m5.below ba).base hsw
          have hxb : ∀ b, (Value.slice A5 n5 c5).ownBlock = some b → w1.heap.size ≤ b := fun b hb => (m5.1.lt b hb).1
          have B5 := Lib.hid ((BR.out.trans (B1.out.mono hsr)).trans ((b5.mono hsw).trans (ba.mono (by omega))))
          have hhi : w1.heap.size ≤ (w5.alloc (.cells #[.slice A5 n5 c5] 22)).heap.size := by simp; omega
          go_wp2_with (at_builtin; go_loud (refine wpList_append_lies _ rfl _ _ 25 rfl w.heap.size 22 i0 (.slice none 0 0) 1 24 Try.underlying25 HI.out HZ0.out HZ1.out HZ2.out rfl (by decide) (.slice (some ⟨go, 0, none⟩) q co) q (bvs q sl) (by simp [Act.eval]) hrow ⟨w5.heap.size, 0, none⟩ 1 1 [.slice A5 n5 c5] (by simp [Act.eval]) rfl (by intro j u hj; match j, hj with | 0, hj => (simp at hj; subst hj; simp [Addr.add])) (by intro u hu; simp at hu; subst hu; rfl) (by omega) (by unfold maxLen; omega) (by omega) (by simp; omega) _ rfl ?_))
          intro g6 c6 w6 hown6 hgrow6 hwh6 hlt6
          have h6 := OwnBs.pushed hl hu hsub mx hxb hown6 hgrow6 (by simpa using hwh6) hhi (Nat.le_refl _)
          have H6 := Lib.hid h6
          have B6 := Lib.hid (B5.out.grown hgrow6 (by simp; omega) (fun g hg => (World.ownsRow.lt hrow g hg).1))
          clear hown6 hgrow6 hwh6 h6 hrow hsub mx hxb hu hl ba hstop
          go_wp2
          go_roundw
          case rel => exact ⟨k + 10 + m, g6, q + 1, c6, done ++ [bodyAt bs k], by omega, by omega, by go_num, rfl, H6.out, B6.out, FR2.out⟩
          case measure => simp [intOf]; omega
end Go.Proofs.Ytepaikljiddiaaa

-- FrmA: The program's frames: a number in two bytes; the body of the frame at the beginning.
namespace Go.Proofs.Ytepaikljiddiaaa
set_option maxRecDepth 20000
set_option linter.unusedVariables false
set_option linter.unusedSimpArgs false
open Go.RowKit

theorem countBytes_any (n : Nat) (w : World) (hn : n ≤ 65535) :
    Calls Try.prog 44 #[.int .i64 n] w fun e w' => e = .returned (.slice (some ⟨w.heap.size, 0, none⟩) 2 2) ∧ Mine w' w.heap.size (some ⟨w.heap.size, 0, none⟩) 2 2 (two n) ∧ Below w.heap.size w w' := by
  have m0 := Lib.hid (Mine.of_alloc w w.heap.size (two n) 2 (Nat.le_refl _) rfl (by unfold maxLen; omega) (by simp [two]; omega))
  have b0 := Lib.hid ((Below.refl w.heap.size w).alloc (Nat.le_refl _) (.cells (u8s (two n)) 5))
  go_enter Try.func44, Try.ntmps44
  go_wp2
  go_ret
  exact ⟨rfl, m0.out, b0.out⟩

theorem countFrom_any (A : Option Addr) (n c : Nat) (bs : List Int) (B : Nat) (w : World) (hn : n ≤ 1048576) (hi : 1 < n) (hb : Byts w B A n bs) :
    Calls Try.prog 69 #[.slice A n c] w fun e w' => e = .returned (.int .i64 (ofTwo bs 0)) ∧ ∃ q, w' = w.drewN q := by
  obtain ⟨b, off, rfl, hbB, h0⟩ := hb.at_ (k := 0) (by omega)
  obtain ⟨b', off', e', _, h1⟩ := hb.at_ (k := 1) hi
  cases e'
  obtain ⟨he, hle⟩ := ofTwo_eq bs hb.2.1 0
  have r0 := hb.range 0
  have r1 := hb.range 1
  simp only [Nat.zero_add, Nat.add_zero] at *
  generalize bs[0]?.getD 0 = x at *
  generalize bs[1]?.getD 0 = y at *
  have ho := Lib.hid (show bits .or .i64 x (y * 256) = x + 256 * y from by
    have h := or_step x y 1 (by omega) (by omega) (by omega)
    rw [show wrap64 (y * 2 ^ (8 * 1)) = y * 256 by unfold wrap64; omega, show wrap64 (x + y * 2 ^ (8 * 1)) = x + 256 * y by unfold wrap64; omega] at h
    exact h)
  have HE := Lib.hid he
  clear hb he
  go_enter Try.func69, Try.ntmps69
  go_wp2
  go_quiet (fail)
  go_wp2
  go_ret
  exact ⟨ret_i64 (by rw [HE.out, ho.out]), _, rfl⟩

/-- the call told the body of the frame at the beginning, or that there is none. -/
def FirstIs (bs : List Int) (w : World) (e : Ending) (w' : World) : Prop :=
  (∃ q, w' = w.drewN q) ∧ ((¬ frameAt bs 0 ∧ e = .returned (.tuple #[.slice none 0 0, .bool false])) ∨
    (frameAt bs 0 ∧ ∃ A' B', e = .returned (.tuple #[.slice A' (ofTwo bs 0) (ofTwo bs 0), .bool true]) ∧ B' ≤ w.heap.size ∧ Byts w B' A' (ofTwo bs 0) (bodyAt bs 0)))

set_option maxHeartbeats 1600000 in
theorem firstBody_any (A : Option Addr) (n c : Nat) (bs : List Int) (B : Nat) (w : World) (hn : n ≤ 1048576) (hc : n ≤ c) (hB : B ≤ w.heap.size) (hb : Byts w B A n bs) :
    Calls Try.prog 39 #[.slice A n c] w (FirstIs bs w) := by
  have HB := Lib.hid hb
  have hlen := hb.1
  have hrg := hb.2.1
  clear hb
  by_cases hfit : n < 10
  · have hd : decide ((n : Int) < 10) = true := decide_eq_true (by omega)
    have hno : ¬ frameAt bs 0 := fun h => by have := h.1; omega
    have HE := Lib.hid (show FirstIs bs w (.returned (.tuple #[.slice none 0 0, .bool false])) w from ⟨⟨0, rfl⟩, .inl ⟨hno, rfl⟩⟩)
    clear hno
    go_enter Try.func39, Try.ntmps39
    go_wp2
    go_ret2
    exact HE.out
  have hd : decide ((n : Int) < 10) = false := decide_eq_false (by omega)
  obtain ⟨m, hm⟩ : ∃ m, ofTwo bs 0 = m := ⟨_, rfl⟩
  have hm65 := (ofTwo_eq bs hrg 0).2
  rw [hm] at hm65
  have HM := Lib.hid hm
  clear hm
  go_enter Try.func39, Try.ntmps39
  go_wp2_with fail
  refine (countFrom_any A n c bs B w hn (by omega) HB.out).mono ?_
  rintro e w1 ⟨rfl, q, hw1⟩
  rw [HM.out]
  by_cases hfit2 : 10 + m ≤ n
  case neg =>
    have hd2 : decide ((n : Int) < 10 + (m : Int)) = true := decide_eq_true (by omega)
    have hno : ¬ frameAt bs 0 := fun h => by have := h.1; rw [HM.out] at this; omega
    have HE := Lib.hid (show FirstIs bs w (.returned (.tuple #[.slice none 0 0, .bool false])) w1 from ⟨⟨q, hw1⟩, .inl ⟨hno, rfl⟩⟩)
    clear hno hw1
    go_wp2
    go_ret2
    exact HE.out
  have hd2 : decide ((n : Int) < 10 + (m : Int)) = false := decide_eq_false (by omega)
  have HW := Lib.hid hw1
  clear hw1
  have hc2 : ¬ c = 2 := by omega
  obtain ⟨bA, offA, rfl, hbA, _⟩ := HB.out.at_ (k := 0) (by omega)
  have B1 := Lib.hid (show Byts w1 B (some ⟨bA, offA, none⟩) n bs from HW.out ▸ HB.out.drewN q)
  have y8 : Byts w1 B (some ⟨bA, offA + 2, none⟩) 8 (eightAt bs 0) := B1.out.part2 2 8 _ (by omega) (fun _ => rfl)
  have Y8 := Lib.hid y8
  clear y8
  have YB := Lib.hid (show ∀ o', (0 < m → o' = offA + 10) → Byts w1 B (some ⟨bA, o', none⟩) m (bodyAt bs 0) from fun o' ho => by unfold bodyAt; rw [HM.out]; exact B1.out.part2 10 m _ (by omega) ho)
  have hno := Lib.hid (show ¬ frameAt bs 0 → FirstIs bs w (.returned (.tuple #[.slice none 0 0, .bool false])) w1 from fun h => ⟨⟨q, HW.out⟩, .inl ⟨h, rfl⟩⟩)
  have hyes := Lib.hid (show frameAt bs 0 → ∀ o', (0 < m → o' = offA + 10) → FirstIs bs w (.returned (.tuple #[.slice (some ⟨bA, o', none⟩) m m, .bool true])) w1 from fun h o' ho => ⟨⟨q, HW.out⟩, .inr ⟨h, _, B, by rw [HM.out], hB, by rw [HM.out]; exact (by have h := YB.out o' ho; rw [HW.out] at h; exact h)⟩⟩)
  rcases Nat.eq_zero_or_pos m with h0 | h0
  case inl =>
    subst h0
    go_wp2_with fail
    by_cases h7 : (eightAt bs 0)[7]?.getD 0 ≤ 127
    case neg =>
      refine (from_high _ _ (eightAt bs 0) _ w1 Y8.out (by omega)).mono ?_
      rintro e w' ⟨rfl, rfl⟩
      have HE := Lib.hid (hno.out (fun h => h7 h.2.1))
      go_wp2
      go_ret2
      exact HE.out
    case pos =>
      refine (from_yes _ _ (eightAt bs 0) _ w1 Y8.out h7).mono ?_
      rintro e w' ⟨rfl, rfl⟩
      go_wp2_with fail
      refine (name_any _ _ _ (bodyAt bs 0) _ w1 (by omega) (YB.out _ (fun h => by omega))).mono ?_
      rintro e w' ⟨rfl, rfl⟩
      by_cases heq : leVal (eightAt bs 0) = nameOf (bodyAt bs 0)
      case neg =>
        have hne : (leVal (eightAt bs 0) != nameOf (bodyAt bs 0)) = true := by simpa using heq
        have HE := Lib.hid (hno.out (fun h => heq h.2.2))
        clear heq
        go_wp2
        go_ret2
        exact HE.out
      case pos =>
        have hne : (leVal (eightAt bs 0) != nameOf (bodyAt bs 0)) = false := by simpa using heq
        have HE := Lib.hid (hyes.out ⟨by rw [HM.out]; omega, h7, heq⟩)
        clear heq
        go_wp2
        go_ret2
        exact HE.out _ (fun h => by omega)
  case inr =>
    have hm0 : ¬ m = 0 := by omega
    go_wp2_with fail
    by_cases h7 : (eightAt bs 0)[7]?.getD 0 ≤ 127
    case neg =>
      refine (from_high _ _ (eightAt bs 0) _ w1 Y8.out (by omega)).mono ?_
      rintro e w' ⟨rfl, rfl⟩
      have HE := Lib.hid (hno.out (fun h => h7 h.2.1))
      go_wp2
      go_ret2
      exact HE.out
    case pos =>
      refine (from_yes _ _ (eightAt bs 0) _ w1 Y8.out h7).mono ?_
      rintro e w' ⟨rfl, rfl⟩
      go_wp2_with fail
      refine (name_any _ _ _ (bodyAt bs 0) _ w1 (by omega) (YB.out _ (fun h => rfl))).mono ?_
      rintro e w' ⟨rfl, rfl⟩
      by_cases heq : leVal (eightAt bs 0) = nameOf (bodyAt bs 0)
      case neg =>
        have hne : (leVal (eightAt bs 0) != nameOf (bodyAt bs 0)) = true := by simpa using heq
        have HE := Lib.hid (hno.out (fun h => heq h.2.2))
        clear heq
        go_wp2
        go_ret2
        exact HE.out
      case pos =>
        have hne : (leVal (eightAt bs 0) != nameOf (bodyAt bs 0)) = false := by simpa using heq
        have HE := Lib.hid (hyes.out ⟨by rw [HM.out]; omega, h7, heq⟩)
        clear heq
        go_wp2
        go_ret2
        exact HE.out _ (fun h => rfl)
end Go.Proofs.Ytepaikljiddiaaa

-- FrmP: The program's Framed and FramesIn.
namespace Go.Proofs.Ytepaikljiddiaaa
set_option maxRecDepth 20000
set_option linter.unusedVariables false
set_option linter.unusedSimpArgs false
open Go.RowKit

theorem nl8 (zs : List Int) : (nameBytes (nameOf zs)).length = 8 := by
  have h := nameOf_bd zs
  exact (back_of_bytes (nameOf zs) (by omega)).2.1
theorem size_u8 : (Try.prog.info? 5).map (·.size) = some 1 := by
  obtain ⟨i0, hi, hz0, hz1, hz2⟩ := info_parts Try.info5
  rw [hi]; simp [hz1]
theorem make_zero (n : Nat) (hn : n ≤ 140737488355328) (W : World) :
    (Instr.makeSlice 22 (.int .i64 (n : Int)) (.int .i64 (n : Int))).run Try.prog W = .ok (.slice (some ⟨W.heap.size, 0, none⟩) n n) (W.alloc (.cells (List.replicate n (Value.int .u8 0)).toArray 5)) := by
  have h := make_bytes [] n hn W
  rw [h]
  simp [filled, u8s]
/-- the cells of bytes that are read: what a copy takes. -/
theorem Byts.source {w : World} {B n : Nat} {A : Option Addr} {zs : List Int} (h : Byts w B A n zs) (hp : 0 < (zs.map (Value.int .u8)).length) :
    ∃ ad, A = some ad ∧ ∀ j v, (zs.map (Value.int .u8))[j]? = some v → w.cell? (ad.add j) = some v := by
  rw [List.length_map] at hp
  obtain ⟨b, off, e, _, hrow⟩ := h.row (by have := h.1; omega)
  exact ⟨_, e, hrow⟩
theorem one_u8 (zs : List Int) : ∀ v ∈ zs.map (Value.int .u8), v.oneCell' = true := by
  intro u hu; obtain ⟨z, _, rfl⟩ := List.mem_map.1 hu; rfl

set_option maxHeartbeats 1600000 in
theorem implFramed_any (A : Option Addr) (n c : Nat) (bs : List Int) (B : Nat) (w : World) (hn : n ≤ 1048576) (hcap : n ≤ c) (hA : A = none → c = 0) (hB : B ≤ w.heap.size) (hb : Byts w B A n bs) :
    Calls Try.prog 13 #[.slice A n c] w fun e w' => ∃ A' n' c', e = .returned (.slice A' n' c') ∧ Mine w' w.heap.size A' n' c' (framed bs) ∧ Below w.heap.size w w' := by
  have HB := Lib.hid (hb.more hB)
  have hlen := hb.1
  have hrg := hb.2.1
  clear hb
  by_cases hbig : 65535 < n
  · have hf : framed bs = [] := if_pos (by omega)
    have hd : decide ((65535 : Int) < (n : Int)) = true := decide_eq_true (by omega)
    rw [hf]
    go_enter Try.func13, Try.ntmps13
    go_wp2
    go_ret
    exact ⟨none, 0, 0, rfl, Mine.nil _ _, Below.refl _ _⟩
  have hf : framed bs = (two (n : Int) ++ nameBytes (nameOf bs)) ++ bs := by unfold framed; rw [if_neg (by omega), hlen]
  have hd : decide ((65535 : Int) < (n : Int)) = false := decide_eq_false (by omega)
  have hfl : (framed bs).length = 10 + n := by rw [hf]; have := nl8 bs; simp [two]; omega
  have HFB := Lib.hid (framed_bd bs hrg)
  obtain ⟨w1, hw1⟩ : ∃ w1, w.alloc (.cells (List.replicate (10 + n) (Value.int .u8 0)).toArray 5) = w1 := ⟨_, rfl⟩
  obtain ⟨Z, hZ⟩ : ∃ Z : List Value, Z = List.replicate (10 + n) (Value.int .u8 0) := ⟨_, rfl⟩
  have hZl : Z.length = 10 + n := by rw [hZ]; simp
  obtain ⟨X1, hX1⟩ : ∃ X1 : List Value, X1 = (two (n : Int)).map (Value.int .u8) := ⟨_, rfl⟩
  obtain ⟨X2, hX2⟩ : ∃ X2 : List Value, X2 = (nameBytes (nameOf bs)).map (Value.int .u8) := ⟨_, rfl⟩
  obtain ⟨X3, hX3⟩ : ∃ X3 : List Value, X3 = bs.map (Value.int .u8) := ⟨_, rfl⟩
  have l1 : X1.length = 2 := by rw [hX1]; rfl
  have l2 : X2.length = 8 := by rw [hX2, List.length_map]; exact nl8 bs
  have l3 : X3.length = n := by rw [hX3, List.length_map]; exact hlen
  have hall : (splice (splice (splice Z 0 X1) 2 X2) 10 X3).toArray = u8s (framed bs) := by
    rw [splice_splice_splice Z X1 X2 X3 2 8 l1 l2 (by omega), hf, hX1, hX2, hX3]
    simp [u8s]
  have g1 : w1.heap[w.heap.size]? = some (.cells Z.toArray 5 (0, 0)) := by rw [← hw1, hZ]; exact heap_alloc_new _ _
  have b1 : Below w.heap.size w w1 := hw1 ▸ (Below.refl _ _).alloc (Nat.le_refl _) _
  have s1 : w1.heap.size = w.heap.size + 1 := by rw [← hw1]; simp
  have hmk : (Instr.makeSlice 22 (.int .i64 (10 + (n : Int))) (.int .i64 (10 + (n : Int)))).run Try.prog w = .ok (.slice (some ⟨w.heap.size, 0, none⟩) (10 + n) (10 + n)) w1 := by
    have h := make_zero (10 + n) (by omega) w
    rw [hw1] at h
    rw [show (10 + (n : Int)) = ((10 + n : Nat) : Int) by omega]
    exact h
  have HMK := Lib.hid hmk
  have G1 := Lib.hid g1
  have B1 := Lib.hid b1
  have HAL := Lib.hid hall
  have HX1 := Lib.hid hX1
  have HX2 := Lib.hid hX2
  have HX3 := Lib.hid hX3
  have SZ := Lib.hid size_u8
  have L3 := Lib.hid l3
  have HF := Lib.hid hf
  have FL := Lib.hid hfl
  clear hmk g1 b1 hall hX1 hX2 hX3 hw1 hZ l3 hf hfl
  have ht : (10 + (n : Int)).toNat = 10 + n := by omega
  have hn2 : ¬ 10 + n = 2 := by omega
  go_enter Try.func13, Try.ntmps13
  have hmk := HMK.out
  go_wp2_with fail
  clear hmk
  refine (countBytes_any n w1 (by omega)).mono ?_
  rintro e w2 ⟨rfl, m2, b2⟩
  have s2 : w1.heap.size ≤ w2.heap.size := b2.size
  have g2 : w2.heap[w.heap.size]? = some (.cells Z.toArray 5 (0, 0)) := (b2.block _ (by omega)).trans G1.out
  have B2 := Lib.hid (B1.out.trans (b2.mono (by omega)))
  have M2 := Lib.hid m2
  have G2 := Lib.hid g2
  clear m2 b2 g2
  go_wp2_with (with_reducible refine wpList_copy_splice (o := ⟨some 15, _, _, _, _, _⟩) rfl _ _ 22 22 rfl 5 Try.underlying22 SZ.out (some ⟨w.heap.size, 0, none⟩) (some ⟨w1.heap.size, 0, none⟩) (10 + n) (10 + n) 2 2 (by simp [Act.eval, Act.put]) (by simp [Act.eval, Act.put]) w.heap.size 0 Z 5 G2.out X1 (by rw [l1]; simp only [Nat.min_def]; split <;> omega) (fun hp => ⟨rfl, by rw [HX1.out] at hp ⊢; exact M2.out.byts.source hp⟩) (by omega) (by rw [HX1.out]; exact one_u8 _) w.heap.size w B2.out (Nat.le_refl _) ?_)
  intro w3 hg3 hb3
  have G3 := Lib.hid hg3.out
  have B3 := Lib.hid hb3
  have s3 : w.heap.size < w3.heap.size := (Array.getElem?_eq_some_iff.1 hg3.out).1
  have Y3 := Lib.hid (HB.out.below hb3)
  clear hg3 hb3 M2 G2
  have hi2 : (2 : Int) ≤ 10 + (n : Int) := by omega
  have KN := Lib.hid (fun q => name_any A n c bs _ (w3.drewN q) (by omega) (Y3.out.drewN q))
  have KB := Lib.hid (show ∀ q, Calls Try.prog 45 #[.int .i64 (nameOf bs)] (w3.drewN q) (fun e w5 => ∃ A5 c5, e = .returned (.slice A5 8 c5) ∧ Mine w5 w3.heap.size A5 8 c5 (nameBytes (nameOf bs)) ∧ w5.heap[w.heap.size]? = some (.cells (splice Z 0 X1).toArray 5 (0, 0)) ∧ Below w.heap.size w w5) from fun q => by
    refine (bytes_any (nameOf bs) (w3.drewN q)).mono ?_
    rintro e w5 ⟨A5, n5, c5, rfl, m5, b5⟩
    have hl5 : n5 = 8 := by rw [← m5.len]; exact nl8 bs
    subst hl5
    have b5' : Below w3.heap.size w3 w5 := (below_drewN (Below.refl _ _) q).trans b5
    exact ⟨A5, c5, rfl, m5, (b5'.block _ s3).trans G3.out, B3.out.trans (b5'.mono (by omega))⟩)
  go_wp2_with fail
  go_region_law (first
    | (refine step_copy_splice rfl _ _ 22 22 rfl 5 Try.underlying22 SZ.out (some ⟨w.heap.size, 2, none⟩) A5 (10 + n - 2) (10 + n - 2) 8 c5 (by simp [Act.eval, Act.put]) (by simp [Act.eval, Act.put]) w.heap.size 2 (splice Z 0 X1) 5 g5 X2 (by rw [l2]; simp only [Nat.min_def]; split <;> omega) (fun hp => ⟨rfl, by rw [HX2.out] at hp ⊢; exact m5.byts.source hp⟩) (by rw [length_splice _ _ _ (by omega)]; omega) (by rw [HX2.out]; exact one_u8 _) w.heap.size w b5 (Nat.le_refl _) ?_
       intro w6 hg6 hb6)
    | (go_simp
       refine (KN.out _).mono ?_
       rintro e w4 ⟨rfl, rfl⟩)
    | (go_simp
       refine (KB.out _).mono ?_
       rintro e w5 ⟨A5, c5, rfl, m5, g5, b5⟩))
  have G6 := Lib.hid hg6.out
  have B6 := Lib.hid hb6
  have s6 : w.heap.size < w6.heap.size := (Array.getElem?_eq_some_iff.1 hg6.out).1
  have Y6 := Lib.hid (HB.out.below hb6)
  clear hg6 hb6 m5 g5 b5 KN KB
  have hi10 : (10 : Int) ≤ 10 + (n : Int) := by omega
  obtain ⟨o6, ho6, hon⟩ : ∃ o6, (if n = 0 then (some ⟨w.heap.size, 0, none⟩ : Option Addr) else some ⟨w.heap.size, 10, none⟩) = some ⟨w.heap.size, o6, none⟩ ∧ (0 < n → o6 = 10) := by
    by_cases h : n = 0
    · exact ⟨0, if_pos h, fun h2 => by omega⟩
    · exact ⟨10, if_neg h, fun _ => rfl⟩
  have HON := Lib.hid hon
  clear hon
  have hz1 : (splice Z 0 X1).length = 10 + n := by rw [length_splice _ _ _ (by omega)]; exact hZl
  have hz2 : (splice (splice Z 0 X1) 2 X2).length = 10 + n := by rw [length_splice _ _ _ (by omega)]; exact hz1
  have hfit : 10 + X3.length ≤ (splice (splice Z 0 X1) 2 X2).length := by have := L3.out; omega
  clear hz1 hz2
  go_wp2_with (with_reducible refine wpList_copy_splice (o := ⟨some 25, _, _, _, _, _⟩) rfl _ _ 22 22 rfl 5 Try.underlying22 SZ.out (some ⟨w.heap.size, o6, none⟩) A n n n c (by simp [Act.eval, Act.put]) (by simp [Act.eval, Act.put]) w.heap.size 10 (splice (splice Z 0 X1) 2 X2) 5 G6.out X3 (by rw [L3.out]; simp only [Nat.min_def]; split <;> omega) (fun hp => ⟨by rw [HON.out (by have := L3.out; omega)], by rw [HX3.out] at hp ⊢; exact Y6.out.source hp⟩) hfit (by rw [HX3.out]; exact one_u8 _) w.heap.size w B6.out (Nat.le_refl _) ?_)
  intro w7 hg7 hb7
  have m7 := row_mine (base := w.heap.size) (show Row w7 w.heap.size (framed bs) from ⟨by rw [← HAL.out]; exact hg7.out, HFB.out⟩) FL.out (Nat.le_refl _) (by unfold maxLen; omega)
  have M7 := Lib.hid m7
  have B7 := Lib.hid hb7
  clear hg7 hb7 m7
  go_wp2
  go_ret
  exact ⟨_, _, _, rfl, M7.out, B7.out⟩

theorem implFramesIn_none (A : Option Addr) (c : Nat) (w : World) (hA : A = none → c = 0) :
    Calls Try.prog 9 #[.slice A 0 c] w (GaveFrames [] w) := by
  have hno : ¬ frameAt [] 0 := fun h => by have := h.1; simp at this
  have hfr : framesAt [] 0 = ([], 0) := framesAt_no [] 0 hno
  have HE := Lib.hid (fun q => show GaveFrames [] w (.returned (.tuple #[.slice none 0 0, .int .i64 0])) (w.drewN q) from by
    refine ⟨none, 0, 0, by rw [hfr]; rfl, by rw [hfr]; exact OwnBs.nil _ _ _, below_drewN (Below.refl _ _) q⟩)
  have HC := Lib.hid (fun A' c' => firstBody_any A' 0 c' [] 0 w (by omega) (by omega) (by omega) (by
    refine ⟨rfl, by simp, fun h => by omega⟩))
  clear hfr
  go_enter Try.func9, Try.ntmps9
  go_wp2
  go_loopw [4, 5] (fun s i wr => s = .slice none 0 0 ∧ i = .int .i64 0 ∧ wr = w) (fun _ i _ => 0)
  case atStart => exact ⟨rfl, rfl, rfl⟩
  case round =>
    obtain ⟨rfl, rfl, rfl⟩ := hrel
    cases A with
    | none =>
      obtain rfl : c = 0 := hA rfl
      go_wp2_with fail
      refine (HC.out _ _).mono ?_
      rintro e w1 ⟨⟨q, rfl⟩, ⟨_, rfl⟩ | ⟨h, _⟩⟩
      · go_wp2
        go_ret2
        exact HE.out q
      · exact absurd h hno
    | some a =>
      rcases Nat.eq_zero_or_pos c with h | h
      · subst h
        go_wp2_with fail
        refine (HC.out _ _).mono ?_
        rintro e w1 ⟨⟨q, rfl⟩, ⟨_, rfl⟩ | ⟨h, _⟩⟩
        · go_wp2
          go_ret2
          exact HE.out q
        · exact absurd h hno
      · have hc0 : ¬ c = 0 := by omega
        go_wp2_with fail
        refine (HC.out _ _).mono ?_
        rintro e w1 ⟨⟨q, rfl⟩, ⟨_, rfl⟩ | ⟨h, _⟩⟩
        · go_wp2
          go_ret2
          exact HE.out q
        · exact absurd h hno

theorem ofTwo_drop (bs : List Int) (k : Nat) : ofTwo (bs.drop k) 0 = ofTwo bs k := by
  unfold ofTwo
  simp [List.getElem?_drop]
theorem eightAt_drop (bs : List Int) (k : Nat) : eightAt (bs.drop k) 0 = eightAt bs k := by
  unfold eightAt
  rw [List.drop_drop]
theorem bodyAt_drop (bs : List Int) (k : Nat) : bodyAt (bs.drop k) 0 = bodyAt bs k := by
  unfold bodyAt
  rw [List.drop_drop, ofTwo_drop]
theorem frameAt_drop (bs : List Int) (k : Nat) (h : k ≤ bs.length) : frameAt (bs.drop k) 0 ↔ frameAt bs k := by
  unfold frameAt
  rw [eightAt_drop, bodyAt_drop, ofTwo_drop, List.length_drop]
  constructor
  · rintro ⟨h1, h2⟩; exact ⟨by omega, h2⟩
  · rintro ⟨h1, h2⟩; exact ⟨by omega, h2⟩

set_option maxHeartbeats 1600000 in
theorem implFramesIn_any (A : Option Addr) (n c : Nat) (bs : List Int) (B : Nat) (w : World) (hn : n ≤ 1048576) (hcap : n ≤ c) (hA : A = none → c = 0) (hB : B ≤ w.heap.size) (hb : Byts w B A n bs) :
    Calls Try.prog 9 #[.slice A n c] w (GaveFrames bs w) := by
  have hlen := hb.1
  rcases Nat.eq_zero_or_pos n with h0 | h0
  · subst h0
    obtain rfl : bs = [] := List.eq_nil_of_length_eq_zero hlen
    exact implFramesIn_none A c w hA
  obtain ⟨bA, offA, rfl, hbA, _⟩ := hb.at_ (k := 0) h0
  have HB := Lib.hid (hb.more hB)
  have hrg := hb.2.1
  clear hb hA
  obtain ⟨i0, hi, hz0, hz1, hz2⟩ := info_parts Try.infoBs
  have HI := Lib.hid hi
  have HZ0 := Lib.hid hz0
  have HZ1 := Lib.hid hz1
  have HZ2 := Lib.hid hz2
  have SZ := Lib.hid size_u8
  clear hi hz0 hz1 hz2
  go_enter Try.func9, Try.ntmps9
  go_wp2
  go_loopw [4, 5] (fun s i wr => ∃ (k q co : Nat) (Ab : Option Addr) (done : List (List Int)), k ≤ n ∧ q ≤ k ∧ i = .int .i64 k ∧ s = .slice Ab q co ∧ OwnBs wr w.heap.size wr.heap.size Ab q co done ∧ Below w.heap.size w wr ∧ framesAt bs 0 = (done ++ (framesAt bs k).1, (framesAt bs k).2)) (fun _ i _ => n - (intOf i).toNat)
  case atStart => exact ⟨0, 0, 0, none, [], Nat.zero_le _, Nat.zero_le _, rfl, rfl, OwnBs.nil _ _ _, Below.refl _ _, rfl⟩
  case round =>
    obtain ⟨k, q, co, Ab, done, hk, hqk, rfl, rfl, oq, hbel, hfr⟩ := hrel
    have OQ := Lib.hid oq
    have BR := Lib.hid hbel
    have FR := Lib.hid hfr
    have hsr : w.heap.size ≤ wr.heap.size := hbel.size
    have hdl : done.length = q := oq.len
    have hstop := Lib.hid (fun (hno : ¬ frameAt bs k) (w' : World) (b : Below wr.heap.size wr w') => (show GaveFrames bs w (.returned (.tuple #[.slice Ab q co, .int .i64 k])) w' from by
      have h := hfr
      rw [framesAt_no bs k hno, List.append_nil] at h
      refine ⟨_, q, co, by rw [h], ?_, hbel.trans (b.mono hsr)⟩
      rw [h]
      exact (oq.below b).more b.size))
    clear oq hbel hfr
    have Y := Lib.hid (HB.out.below BR.out)
    have hi0 : (0 : Int) ≤ (k : Int) := by omega
    have hi1 : (k : Int) ≤ (n : Int) := by omega
    have hkt : (k : Int).toNat = k := by omega
    obtain ⟨o', ho', hok⟩ : ∃ o', (if c = k then (some ⟨bA, offA, none⟩ : Option Addr) else some ⟨bA, offA + k, none⟩) = some ⟨bA, o', none⟩ ∧ (k < n → o' = offA + k) := by
      by_cases h : c = k
      · exact ⟨offA, if_pos h, fun h2 => by omega⟩
      · exact ⟨offA + k, if_neg h, fun _ => rfl⟩
    have YD := Lib.hid (show Byts wr w.heap.size (some ⟨bA, o', none⟩) (n - k) (bs.drop k) from by
      have h := Y.out.part2 k (n - k) o' (by omega) (fun h => hok (by omega))
      rw [List.take_of_length_le (by simp; omega)] at h
      exact h)
    clear hok
    go_wp2_with fail
    refine (firstBody_any _ (n - k) (c - k) (bs.drop k) _ wr (by omega) (by omega) hsr YD.out).mono ?_
    have hFD := frameAt_drop bs k (by omega)
    rintro e w1 ⟨⟨qd, hw1⟩, ⟨hno, rfl⟩ | ⟨hyes, A', B', rfl, hB', yb⟩⟩
    · have HE := Lib.hid (hstop.out (fun h => hno (hFD.2 h)) w1 (hw1 ▸ below_drewN (Below.refl _ _) qd))
      clear hno hw1
      go_wp2
      go_ret2
      exact HE.out
    rw [hFD] at hyes
    rw [ofTwo_drop, bodyAt_drop] at yb
    rw [ofTwo_drop]
    have b1 : Below wr.heap.size wr w1 := by rw [hw1]; exact below_drewN (Below.refl _ _) qd
    have yb1 : Byts w1 w1.heap.size A' (ofTwo bs k) (bodyAt bs k) := by rw [hw1]; exact (yb.drewN qd).more hB'
    have s1 : wr.heap.size ≤ w1.heap.size := b1.size
    obtain ⟨m, hm⟩ : ∃ m, ofTwo bs k = m := ⟨_, rfl⟩
    have hm65 := (ofTwo_eq bs hrg k).2
    have hfit := hyes.1
    have hfr2 : framesAt bs 0 = ((done ++ [bodyAt bs k]) ++ (framesAt bs (k + (10 + m))).1, (framesAt bs (k + (10 + m))).2) := by
      have h := FR.out
      rw [framesAt_yes bs k hyes, hm] at h
      rw [h, List.append_assoc, ← Nat.add_assoc]; rfl
    rw [hm] at yb1 hm65 hfit ⊢
    have FR2 := Lib.hid hfr2
    have B1 := Lib.hid b1
    have YB := Lib.hid yb1
    clear hfr2 b1 yb1 yb hyes hFD hw1 hB' hm hstop
    have hlb : (bodyAt bs k).length = m := YB.out.1
    obtain ⟨X, hX⟩ : ∃ X : List Value, X = (bodyAt bs k).map (Value.int .u8) := ⟨_, rfl⟩
    have lX : X.length = m := by rw [hX, List.length_map]; exact hlb
    obtain ⟨Z, hZ⟩ : ∃ Z : List Value, Z = List.replicate m (Value.int .u8 0) := ⟨_, rfl⟩
    have lZ : Z.length = m := by rw [hZ]; simp
    obtain ⟨w2, hw2⟩ : ∃ w2, w1.alloc (.cells (List.replicate m (Value.int .u8 0)).toArray 5) = w2 := ⟨_, rfl⟩
    have hmk : (Instr.makeSlice 22 (.int .i64 (m : Int)) (.int .i64 (m : Int))).run Try.prog w1 = .ok (.slice (some ⟨w1.heap.size, 0, none⟩) m m) w2 := by
      have h := make_zero m (by omega) w1
      rw [hw2] at h
      exact h
    have g2 : w2.heap[w1.heap.size]? = some (.cells Z.toArray 5 (0, 0)) := by rw [← hw2, hZ]; exact heap_alloc_new _ _
    have b2 : Below w1.heap.size w1 w2 := hw2 ▸ (Below.refl _ _).alloc (Nat.le_refl _) _
    have G2 := Lib.hid g2
    have B2 := Lib.hid b2
    have Y2 := Lib.hid (YB.out.below b2)
    have HX := Lib.hid hX
    clear g2 b2 hw2 hX hZ
    go_wp2_with (with_reducible refine wpList_copy_splice (o := ⟨some 25, _, _, _, _, _⟩) rfl _ _ 22 22 rfl 5 Try.underlying22 SZ.out (some ⟨w1.heap.size, 0, none⟩) A' m m m m (by simp [Act.eval, Act.put]) (by simp [Act.eval, Act.put]) w1.heap.size 0 Z 5 G2.out X (by rw [lX]; simp only [Nat.min_def]; split <;> omega) (fun hp => ⟨rfl, by rw [HX.out] at hp ⊢; exact Y2.out.source hp⟩) (by omega) (by rw [HX.out]; exact one_u8 _) w1.heap.size w1 B2.out (Nat.le_refl _) ?_)
    intro w5 hg5 hb5
    have hrow5 : w5.heap[w1.heap.size]? = some (.cells (u8s (bodyAt bs k)) 5 (0, 0)) := by
      have h := hg5.out
      rw [show splice Z 0 X = X by unfold splice; rw [List.drop_eq_nil_of_le (by omega)]; simp, HX.out] at h
      exact h
    have m5 := row_mine (base := w1.heap.size) (show Row w5 w1.heap.size (bodyAt bs k) from ⟨hrow5, fun z hz => hrg z (List.mem_of_mem_drop (List.mem_of_mem_take hz))⟩) hlb (Nat.le_refl _) (by unfold maxLen; omega)
    have hs5 : w1.heap.size ≤ w5.heap.size := hb5.size
    have hsw : w.heap.size ≤ w1.heap.size := by omega
    have ba : Below w5.heap.size w5 (w5.alloc (.cells #[.slice (some ⟨w1.heap.size, 0, none⟩) m m] 22)) := (Below.refl _ _).alloc (Nat.le_refl _) _
    obtain ⟨hl, hu, sl, hrow, hsub⟩ := (((OQ.out.below B1.out).more s1).below hb5).below (ba.mono hs5)
    have mx := (m5.below ba).base hsw
    have hxb : ∀ b, (Value.slice (some ⟨w1.heap.size, 0, none⟩) m m).ownBlock = some b → w1.heap.size ≤ b := fun b hb => (m5.1.lt b hb).1
    have B5 := Lib.hid ((BR.out.trans (B1.out.mono hsr)).trans ((hb5.mono hsw).trans (ba.mono (by omega))))
    have hhi : w1.heap.size ≤ (w5.alloc (.cells #[.slice (some ⟨w1.heap.size, 0, none⟩) m m] 22)).heap.size := by simp; omega
    clear hrow5 m5 hg5 G2 B2 Y2 lX lZ hmk
    have hp1 : (0 : Int) ≤ (k : Int) + (10 + (m : Int)) := by omega
    go_wp2_with (at_builtin; go_loud (refine wpList_append_lies _ rfl _ _ 25 rfl w.heap.size 22 i0 (.slice none 0 0) 1 24 Try.underlying25 HI.out HZ0.out HZ1.out HZ2.out rfl (by decide) (.slice Ab q co) q (bvs q sl) (by simp [Act.eval]) hrow ⟨w5.heap.size, 0, none⟩ 1 1 [.slice (some ⟨w1.heap.size, 0, none⟩) m m] (by simp [Act.eval]) rfl (by intro j u hj; match j, hj with | 0, hj => (simp at hj; subst hj; simp [Addr.add])) (by intro u hu; simp at hu; subst hu; rfl) (by omega) (by unfold maxLen; omega) (by omega) (by simp; omega) _ rfl ?_))
    intro g6 c6 w6 hown6 hgrow6 hwh6 hlt6
    have h6 := OwnBs.pushed hl hu hsub mx hxb hown6 hgrow6 (by simpa using hwh6) hhi (Nat.le_refl _)
    have H6 := Lib.hid h6
    have B6 := Lib.hid (B5.out.grown hgrow6 (by simp; omega) (fun g hg => (World.ownsRow.lt hrow g hg).1))
    clear hown6 hgrow6 hwh6 h6 hrow hsub mx hxb hu hl ba
    go_wp2
    go_roundw
    case rel => exact ⟨k + (10 + m), q + 1, c6, _, done ++ [bodyAt bs k], by omega, by omega, by go_num, rfl, H6.out, B6.out, FR2.out⟩
    case measure => simp [intOf]; omega
end Go.Proofs.Ytepaikljiddiaaa
