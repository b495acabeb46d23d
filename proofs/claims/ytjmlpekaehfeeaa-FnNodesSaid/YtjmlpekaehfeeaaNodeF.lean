/- What the model's NodeFrom reads of some bytes. -/
import Derived.Test.YtjmlpekaehfeeaaNodeR
import Derived.Test.YtjmlpekaehfeeaaNodeX
import Derived.Test.YtjmlpekaehfeeaaNodeB
import Derived.Test.YtjmlpekaehfeeaaConv
import Derived.Deep.RegionLaw
import Derived.Deep.AppendLies
import Derived.BigRegion
import Derived.Deep.RegionHeld3
namespace Go.Proofs.Ytjmlpekaehfeeaa
set_option maxRecDepth 20000
open Go.RowKit

/-- the node that is none, as a value. -/
def node0V : Value := .agg #[.int .i64 0, .slice none 0 0, .slice none 0 0, .string { data := #[] }]
theorem node0_own (w : World) (base : Nat) : OwnN w base node0V node0 :=
  ⟨none, 0, 0, none, 0, 0, rfl, by omega, by omega, by decide, OwnI.nil _ _, OwnK.nil _ _, fun g hg => by simp [Value.ownBlock] at hg⟩
set_option maxHeartbeats 1600000 in
theorem specNodeFrom_any (A : Option Addr) (n c : Nat) (bs : List Int) (B : Nat) (w : World) (hn : n ≤ 1048576) (hc : n ≤ c) (hB : B ≤ w.heap.size) (hb : Byts w B A n bs) :
    Calls Try.prog 29 #[.slice A n c] w fun e w' => ∃ v nd b, e = .returned (.tuple #[v, .bool b]) ∧ OwnN w' w.heap.size v nd ∧ NodeRead bs nd b ∧ Below w.heap.size w w' := by
  have HB := Lib.hid (hb.more hB)
  have hlen : bs.length = n := hb.1
  have hr := hb.2.1
  clear hb
  obtain ⟨w1, hw1⟩ : ∃ w1, w.alloc (.cells #[.int .i64 0, .slice none 0 0, .slice none 0 0, .string { data := #[] }] 40) = w1 := ⟨_, rfl⟩
  have x1 : Box w1 w.heap.size _ _ := hw1 ▸ heap_alloc_new _ _
  have s1 : w1.heap.size = w.heap.size + 1 := hw1 ▸ by simp
  have b1 : Below w.heap.size w w1 := hw1 ▸ (Below.refl _ _).alloc (Nat.le_refl _) _
  have X1 := Lib.hid x1
  have B1 := Lib.hid b1
  have HW := Lib.hid hw1
  clear x1 b1 hw1
  by_cases h0 : n = 0
  · have q10 := X1.out.cell 0
    have q11 := X1.out.cell 1
    have q12 := X1.out.cell 2
    have q13 := X1.out.cell 3
    have f1 := X1.out.free
    simp at q10 q11 q12 q13
    subst h0
    go_enter Try.func29, Try.ntmps29
    go_wp2_with fail
    rw [HW.out]
    refine bodyPost_ret (v := .tuple #[node0V, .bool false]) (results_box2 Try.results29 _ _ w.heap.size _ _ _ _ rfl rfl X1.out Try.underlying40 rfl (by kernel_rfl)) rfl ?_
    exact ⟨_, node0, false, rfl, node0_own _ _, none_empty bs hlen, B1.out⟩
  obtain ⟨r1, e1, hp1⟩ : ∃ r1 e1, part bs ((1 : Nat) : Int) 1 = (r1, e1) := ⟨_, _, rfl⟩
  have g1 := part_range bs hr ((1 : Nat) : Int) 1
  obtain ⟨r2, e2, hp2⟩ : ∃ r2 e2, part bs e1 1 = (r2, e2) := ⟨_, _, rfl⟩
  have g2 := part_range bs hr e1 1
  obtain ⟨r3, e3, hp3⟩ : ∃ r3 e3, part bs e2 9 = (r3, e3) := ⟨_, _, rfl⟩
  have g3 := part_range bs hr e2 9
  rw [hp1] at g1
  rw [hp2] at g2
  rw [hp3] at g3
  have P1 := Lib.hid hp1
  have P2 := Lib.hid hp2
  have P3 := Lib.hid hp3
  have hd0 : decide ((n : Int) = 0) = false := decide_eq_false (by omega)
  simp only [hlen] at g1 g2 g3
  clear hp1 hp2 hp3
  go_enter Try.func29, Try.ntmps29
  go_wp2_with fail
  rw [HW.out]
  refine (l3Part_any A n c bs ((1 : Nat) : Int) 1 _ w1 hn hc (by omega) (by omega) (by omega) (HB.out.below B1.out)).mono ?_
  rintro e w2 ⟨A2, n2, c2, rfl, hc2, y2, b2⟩
  rw [P1.out] at y2 ⊢
  have Y2 := Lib.hid y2
  have X1 := Lib.hid (X1.out.below b2 (by omega))
  have B2 := Lib.hid (B1.out.trans (b2.mono (by omega)))
  have s2 := b2.size
  clear b2 y2
  go_wp2_with fail
  refine (l3Part_any A n c bs e1 1 _ w2 hn hc (by omega) (by omega) (by omega) (HB.out.below B2.out)).mono ?_
  rintro e w3 ⟨A3, n3, c3, rfl, hc3, y3, b3⟩
  rw [P2.out] at y3 ⊢
  have Y3 := Lib.hid y3
  have Y2 := Lib.hid (Y2.out.below (b3.mono (by omega)))
  have X1 := Lib.hid (X1.out.below b3 (by omega))
  have B3 := Lib.hid (B2.out.trans (b3.mono (by omega)))
  have s3 := b3.size
  clear b3 y3
  go_wp2_with fail
  refine (l3Part_any A n c bs e2 9 _ w3 hn hc (by omega) (by omega) (by omega) (HB.out.below B3.out)).mono ?_
  rintro e w4 ⟨A4, n4, c4, rfl, hc4, y4, b4⟩
  rw [P3.out] at y4 ⊢
  have Y4 := Lib.hid y4
  have Y3 := Lib.hid (Y3.out.below (b4.mono (by omega)))
  have Y2 := Lib.hid (Y2.out.below (b4.mono (by omega)))
  have X1 := Lib.hid (X1.out.below b4 (by omega))
  have B4 := Lib.hid (B3.out.trans (b4.mono (by omega)))
  have s4 := b4.size
  clear b4 y4
  by_cases hk : e3 = n
  · subst hk
    obtain ⟨bk, off, rfl, hbB, hc0⟩ := (HB.out.below B4.out).at_ (k := 0) (by omega)
    have hr0 := (HB.out.below B4.out).range 0
    rw [Nat.add_zero] at hc0
    have hcv : ∀ W, Below w4.heap.size w4 W → (convert 22 9 (.slice A3 n3 c3)).run Try.prog W = .ok (.string (strOfNums r2)) W := fun W hW => conv_bytes A3 n3 c3 r2 _ W (Y3.out.below (hW.mono (by omega)))
    generalize hb0 : bs[0]?.getD 0 = z0 at hc0 hr0
    have Z0 := Lib.hid hb0
    clear hb0
    have hc0' : ∀ W, Below w4.heap.size w4 W → W.cell? ⟨bk, off, none⟩ = some (.int .u8 z0) := fun W hW => (hW.cell (p := ⟨bk, off, none⟩) (by show bk < w4.heap.size; omega)).trans hc0
    clear hc0
    have hpos : (0 : Int) < (n : Int) := by omega
    have hia : ∀ W : World, (Instr.indexAt 22 (.slice (some ⟨bk, off, none⟩) n c) (.int .i64 0)).run Try.prog W = .ok (.pointer (some ⟨bk, off, none⟩)) W := fun W => by go_simp
    have hwz : IntKind.i64.wrap z0 = z0 := by rw [IntKind.wrap_i64]; omega
    go_wp2
    go_region_held3 (fun W => Below w4.heap.size w4 W) (first | exact (Below.refl _ _).drew | exact ((Below.refl _ _).alloc (Nat.le_refl _) _).drew | assumption)
      (first | (fail))
    clear hcv hc0' hia
    have x5 : Box (w4.alloc (.cells #[.int .i64 z0, .slice none 0 0, .slice none 0 0, .string (strOfNums r2)] 40)).drew w4.heap.size _ _ := heap_alloc_new _ _
    have b5 : Below w4.heap.size w4 (w4.alloc (.cells #[.int .i64 z0, .slice none 0 0, .slice none 0 0, .string (strOfNums r2)] 40)).drew := ((Below.refl _ _).alloc (Nat.le_refl _) _).drew
    have s5 : (w4.alloc (.cells #[.int .i64 z0, .slice none 0 0, .slice none 0 0, .string (strOfNums r2)] 40)).drew.heap.size = w4.heap.size + 1 := by simp
    generalize (w4.alloc (.cells #[.int .i64 z0, .slice none 0 0, .slice none 0 0, .string (strOfNums r2)] 40)).drew = w5 at x5 b5 s5
    have X5 := Lib.hid x5
    have B5 := Lib.hid b5
    clear x5 b5
    obtain ⟨i0, hi, hz0, hz1, hz2⟩ := info_parts Try.infoI
    obtain ⟨iK, hki, hk0, hk1, hk2⟩ := info_parts Try.infoK
    have HK := Lib.hid hki
    have HK0 := Lib.hid hk0
    have HK1 := Lib.hid hk1
    have HK2 := Lib.hid hk2
    clear hki hk0 hk1 hk2
    have HI := Lib.hid hi
    have HZ0 := Lib.hid hz0
    have HZ1 := Lib.hid hz1
    have HZ2 := Lib.hid hz2
    clear hi hz0 hz1 hz2
    have L2 : Hid (r1.length = n2) := Y2.out.1
    have L3 : Hid (r3.length = n4) := Y4.out.1
    have hn4 : n4 ≤ 1048576 := by have := part_le bs e2 9; rw [P3.out, hlen] at this; have := L3.out; simp only at *; omega
    have L4 : Hid (r2.length = n3) := Y3.out.1
    have hn3 : r2.length ≤ 1048576 := by have := part_le bs e1 1; rw [P2.out, hlen] at this; simp only at *; omega
    have hn2 : n2 ≤ 1048576 := by have := part_le bs ((1 : Nat) : Int) 1; rw [P1.out, hlen] at this; have := L2.out; simp only at *; omega
    go_wp2
    go_loopw [11] (fun x wr => ∃ k : Nat, ∃ Ap cp, k ≤ n2 ∧ x = .int .i64 k ∧ OwnI wr (w4.heap.size + 1) Ap k cp (r1.take k) ∧ Box wr w4.heap.size 40 #[.int .i64 z0, .slice Ap k cp, .slice none 0 0, .string (strOfNums r2)] ∧ Below w4.heap.size w4 wr) (fun x _ => n2 - (intOf x).toNat)
    case atStart => exact ⟨0, none, 0, Nat.zero_le _, rfl, OwnI.nil _ _, X5.out, B5.out⟩
    case round =>
      obtain ⟨k, Ap, cp, hk2, rfl, hown, hbox, hbr⟩ := hrel
      have MR := Lib.hid hown
      have XR := Lib.hid hbox
      have BR := Lib.hid hbr
      clear hown hbox hbr
      by_cases hlt : k < n2
      · obtain ⟨b, o, rfl, hbb, hc0⟩ := (Y2.out.below (BR.out.mono (by omega))).at_ hlt
        have hrr := (Y2.out.below (BR.out.mono (by omega))).range k
        have hst := take_step r1 k (by rw [L2.out]; exact hlt)
        generalize r1[k]?.getD 0 = z at hc0 hrr hst
        have HST := Lib.hid hst
        clear hst
        have q1 := XR.out.cell 1
        have f1 := XR.out.free 1
        simp at q1
        have hwz2 : IntKind.i64.wrap z = z := by rw [IntKind.wrap_i64]; omega
        go_wp2
        have HO : Hid (∀ W, Below wr.heap.size wr W → OwnI W (w4.heap.size + 1) Ap k cp (r1.take k)) := fun W hb => MR.out.below hb
        have lx := XR.out.lt
        have hk := L2.out
        go_region_law (first
          | (refine step_append_lies _ rfl _ _ 25 rfl (w4.heap.size + 1) 2 i0 (.int .i64 0) 1 8 Try.underlying25 HI.out HZ0.out HZ1.out HZ2.out rfl (by decide) (.slice Ap k cp) k ((r1.take k).map (Value.int .i64)) (by simp [Act.eval]) (HO.out _ (((Below.refl _ _).alloc (Nat.le_refl _) _).drew)) ⟨wr.heap.size, 0, none⟩ 1 1 ([z].map (Value.int .i64)) (by simp [Act.eval]) rfl (by
              intro j u hj
              match j, hj with
              | 0, hj => simp at hj; subst hj; simp [Addr.add]) (by intro u hu; simp at hu; subst hu; rfl) (by omega) (by unfold maxLen; omega) (by omega) (by simp; omega) _ rfl ?_
             intro g6 c6 w6 hown6 hgrow6 _ _
             have x6 : Box w6 w4.heap.size _ _ := ((hgrow6.block w4.heap.size (by simp; omega) (fun e => by have := (World.ownsRow.lt MR.out _ e.symm).1; omega)).trans (heap_alloc_old _ _ lx)).trans XR.out
             have q6 := x6.cell 1
             have f6 := x6.free 1
             simp at q6))
        all_goals
          have b6 : Below w4.heap.size w4 w6 := ((BR.out.alloc (by omega) _).drew).grown hgrow6 (by simp; omega) (fun g hg => by have := (World.ownsRow.lt MR.out g hg).1; omega)
          go_wp2
          go_roundw
          case rel =>
            refine ⟨k + 1, some ⟨g6, 0, none⟩, c6, by omega, by go_num, ?_, by simpa using x6.set_ 1 _, b6.trans (grown_below (grown_set w6 _ 1 _) b6.size (Nat.le_refl _))⟩
            rw [HST.out]
            unfold OwnI
            rw [List.map_append]
            exact own_touch hown6 (touch_set (S := fun x => x = w4.heap.size) w6 _ 1 _ rfl) (fun g hg e => by have := (World.ownsRow.lt hown6 g hg).1; omega)
          case measure => simp [intOf]; omega
      · obtain rfl : k = n2 := by omega
        have hst : r1.take k = r1 := List.take_of_length_le (by rw [L2.out]; exact Nat.le_refl _)
        have MP : Hid (OwnI wr (w4.heap.size + 1) Ap k cp r1) := by rw [← hst]; exact MR.out
        clear MR hst
        have hp3 := P3.out
        rw [← hlen] at hp3
        have hl4 := L3.out
        obtain ⟨q0, hq, hq3⟩ := parts_all bs r1 r2 r3 e1 e2 hr P1.out P2.out hp3 (by omega)
        have HQ := Lib.hid hq
        clear hq hp3
        go_wp2
        go_loopw [12] (fun x wr => ∃ q m : Nat, ∃ Ak ck, q ≤ q0 ∧ m = 9 * q ∧ x = .int .i64 m ∧ OwnK wr (w4.heap.size + 1) Ak q ck (kidsTo r3 q) ∧ OwnI wr (w4.heap.size + 1) Ap k cp r1 ∧ (∀ g, (Value.slice Ap k cp).ownBlock = some g → (Value.slice Ak q ck).ownBlock ≠ some g) ∧
          Box wr w4.heap.size 40 #[.int .i64 z0, .slice Ap k cp, .slice Ak q ck, .string (strOfNums r2)] ∧ Below w4.heap.size w4 wr ∧ ∀ i, i < q → chunkOk r3 i) (fun x _ => n4 - (intOf x).toNat)
        case atStart => exact ⟨0, 0, none, 0, Nat.zero_le _, rfl, rfl, OwnK.nil _ _, MP.out, by simp [Value.ownBlock], XR.out, BR.out, fun i hi => absurd hi (by omega)⟩
        case round =>
          obtain ⟨q, m, Ak, ck, hqq, hm, rfl, hown, howp, hdis, hbox, hbr, hchk⟩ := hrel
          have MK := Lib.hid hown
          have MP := Lib.hid howp
          have HD := Lib.hid hdis
          have XR := Lib.hid hbox
          have BR := Lib.hid hbr
          have HC := Lib.hid hchk
          clear hown howp hdis hbox hbr hchk
          have hmm : q < q0 → m + 9 ≤ n4 := fun h => by omega
          have hmm' : ¬ q < q0 → m = n4 := fun h => by omega
          have HM := Lib.hid hm
          clear hm
          by_cases hlt : q < q0
          · have hm9 := hmm hlt
            obtain ⟨b, o, rfl, hbb, hc0⟩ := (Y4.out.below (BR.out.mono (by omega))).at_ (k := m) (by omega)
            have hrr := Y4.out.range m
            have hlo : (0 : Int) ≤ (m : Int) + 1 := by omega
            have hhi : (m : Int) + 1 ≤ (m : Int) + 9 := by omega
            have hcap : (m : Int) + 9 ≤ (c4 : Int) := by omega
            have yb := (Y4.out.below (BR.out.mono (by omega))).part (m + 1) 8 (by omega)
            have h8 : ((r3.drop (m + 1)).take 8)[7]?.getD 0 = r3[m + 8]?.getD 0 := by rw [List.getElem?_take_of_lt (by omega), List.getElem?_drop]
            clear hmm hmm'
            by_cases h7 : r3[m + 8]?.getD 0 ≤ (127 : Int)
            · have hko : kidsTo r3 (q + 1) = kidsTo r3 q ++ [(r3[m]?.getD 0, leVal ((r3.drop (m + 1)).take 8))] := by rw [kidsTo_step]; unfold kidOf; rw [HM.out]
              have hco : chunkOk r3 q := by unfold chunkOk; rw [← HM.out]; exact h7
              generalize r3[m]?.getD 0 = z at hc0 hrr hko
              have hwz2 : IntKind.i64.wrap z = z := by rw [IntKind.wrap_i64]; omega
              go_wp2_with fail
              refine (specFrom_yes _ _ _ w.heap.size wr yb (by rw [h8]; exact h7)).mono ?_
              rintro e _ ⟨rfl, rfl⟩
              generalize leVal ((r3.drop (m + 1)).take 8) = nm at hko
              have HKO := Lib.hid hko
              have HCO := Lib.hid hco
              clear hko hco yb h8
              have q1 := XR.out.cell 2
              have f1 := XR.out.free 2
              simp at q1
              go_wp2_with fail
              have HO : Hid (∀ W, Below wr.heap.size wr W → OwnK W (w4.heap.size + 1) Ak q ck (kidsTo r3 q)) := fun W hb => MK.out.below hb
              have lx := XR.out.lt
              go_region_law (first
                | (refine step_append_lies _ rfl _ _ 38 rfl (w4.heap.size + 1) 79 iK (.agg #[.int .i64 0, .int .i64 0]) 2 16 Try.underlying38 HK.out HK0.out HK1.out HK2.out rfl (by decide) (.slice Ak q ck) q ((kv (kidsTo r3 q)).map (Value.int .i64)) (by simp [Act.eval]) (HO.out _ (((Below.refl _ _).alloc (Nat.le_refl _) _).drew)) ⟨wr.heap.size, 0, none⟩ 1 1 ([z, nm].map (Value.int .i64)) (by simp [Act.eval]) rfl (by
                    intro j u hj
                    match j, hj with
                    | 0, hj => simp at hj; subst hj; simp [Addr.add]
                    | 1, hj => simp at hj; subst hj; simp [Addr.add]) (by intro u hu; simp at hu; rcases hu with rfl | rfl <;> rfl) (by omega) (by unfold maxLen; omega) (by omega) (by simp; omega) _ rfl ?_
                   intro g6 c6 w6 hown6 hgrow6 hwh6 _
                   have x6 : Box w6 w4.heap.size _ _ := ((hgrow6.block w4.heap.size (by simp; omega) (fun e => by have := (World.ownsRow.lt MK.out _ e.symm).1; omega)).trans (heap_alloc_old _ _ lx)).trans XR.out
                   have q6 := x6.cell 2
                   have f6 := x6.free 2
                   simp at q6))
              all_goals
                have b6 : Below w4.heap.size w4 w6 := ((BR.out.alloc (by omega) _).drew).grown hgrow6 (by simp; omega) (fun g hg => by have := (World.ownsRow.lt MK.out g hg).1; omega)
                have m6 : OwnI w6 (w4.heap.size + 1) Ap k cp r1 := OwnI.touch (OwnI.touch MP.out (Touch.of_below ((Below.refl _ _).alloc (Nat.le_refl _) _).drew : Touch (fun _ => False) wr _) (fun _ _ h => h)) (Touch.of_grown hgrow6) (fun g hg e => HD.out g hg e.symm)
                go_wp2
                go_roundw
                case rel =>
                  refine ⟨q + 1, m + 9, some ⟨g6, 0, none⟩, c6, by omega, by have := HM.out; omega, by go_num, ?_, ?_, ?_, by simpa using x6.set_ 2 _, b6.trans (grown_below (grown_set w6 _ 2 _) b6.size (Nat.le_refl _)), fun i hi => ?_⟩
                  · rw [HKO.out]
                    unfold OwnK
                    rw [kv_append, List.map_append]
                    exact own_touch hown6 (touch_set (S := fun x => x = w4.heap.size) w6 _ 2 _ rfl) (fun g hg e => by have := (World.ownsRow.lt hown6 g hg).1; omega)
                  · exact m6.touch (touch_set (S := fun x => x = w4.heap.size) w6 _ 2 _ rfl) (fun g hg e => by have := (World.ownsRow.lt m6 g hg).1; omega)
                  · intro g hg h
                    have hgg := own_eq h.symm
                    subst hgg
                    rcases hwh6 with h1 | h1
                    · exact HD.out _ hg h1
                    · have := (World.ownsRow.lt MP.out _ hg).2
                      simp at h1
                      omega
                  · rcases Nat.lt_or_ge i q with h | h
                    · exact HC.out i h
                    · rw [show i = q by omega]; exact HCO.out
                case measure => simp [intOf]; omega
            · have hno := none_chunk P1.out P2.out (by rw [hlen]; exact P3.out) hq3 q hlt (by unfold chunkOk; rw [← HM.out]; exact h7)
              have HNO := Lib.hid hno
              clear hno
              have X1 := Lib.hid (X1.out.below (BR.out.mono (by omega : w.heap.size + 1 ≤ w4.heap.size)) (by omega))
              have q10 := X1.out.cell 0
              have q11 := X1.out.cell 1
              have q12 := X1.out.cell 2
              have q13 := X1.out.cell 3
              have f1 := X1.out.free
              simp at q10 q11 q12 q13
              go_wp2_with fail
              refine (specFrom_high _ _ _ w.heap.size wr yb (by rw [h8]; omega)).mono ?_
              rintro e _ ⟨rfl, rfl⟩
              go_wp2_with fail
              obtain ⟨hX, hb⟩ := set4 X1.out (.int .i64 0) (.slice none 0 0) (.slice none 0 0) (.string { data := #[] })
              refine bodyPost_ret (v := .tuple #[node0V, .bool false]) (results_box2 Try.results29 _ _ w.heap.size _ _ _ _ rfl rfl hX Try.underlying40 rfl (by kernel_rfl)) rfl ?_
              have b7 := B4.out.trans (BR.out.mono (by omega))
              exact ⟨_, node0, false, rfl, node0_own _ _, HNO.out, b7.trans (hb.below b7.size (fun k hk h => by omega))⟩
          · have hme := hmm' hlt
            obtain rfl : q = q0 := by omega
            have hv : Hid (OwnN wr (w4.heap.size + 1) (.agg #[.int .i64 z0, .slice Ap k cp, .slice Ak q ck, .string (strOfNums r2)]) (nodeOf bs r1 r2 r3 q)) :=
              ⟨Ap, k, cp, Ak, q, ck, by unfold nodeOf; rw [Z0.out], hn2, by omega, by unfold nodeOf; rw [strOfNums_size]; omega, MP.out, MK.out, HD.out⟩
            have X1 := Lib.hid (X1.out.below (BR.out.mono (by omega : w.heap.size + 1 ≤ w4.heap.size)) (by omega))
            have q20 := XR.out.cell 0
            have q21 := XR.out.cell 1
            have q22 := XR.out.cell 2
            have q23 := XR.out.cell 3
            have lx := XR.out.lt
            have l1 := X1.out.lt
            simp at q20 q21 q22 q23
            go_wp2_with fail
            refine (specNodeOk_any _ _ wr.heap.size wr (Nat.le_refl _) hv.out.node).mono ?_
            rintro e w7 ⟨rfl, b7⟩
            have V := Lib.hid (hv.out.below b7)
            have X1 := Lib.hid (X1.out.below b7 l1)
            have XR := Lib.hid (XR.out.below b7 lx)
            have B7 := Lib.hid ((B4.out.trans (BR.out.mono (by omega))).trans (b7.mono (by omega)))
            clear b7 q20 q21 q22 q23
            have q10 := X1.out.cell 0
            have q11 := X1.out.cell 1
            have q12 := X1.out.cell 2
            have q13 := X1.out.cell 3
            have f1 := X1.out.free
            have q20 := XR.out.cell 0
            have q21 := XR.out.cell 1
            have q22 := XR.out.cell 2
            have q23 := XR.out.cell 3
            simp at q10 q11 q12 q13 q20 q21 q22 q23
            by_cases hok : nodeOk (nodeOf bs r1 r2 r3 q) = true
            · rw [hok]
              go_wp2_with fail
              obtain ⟨hX, hb⟩ := set4 X1.out (.int .i64 z0) (.slice Ap k cp) (.slice Ak q ck) (.string (strOfNums r2))
              refine bodyPost_ret (v := .tuple #[.agg #[.int .i64 z0, .slice Ap k cp, .slice Ak q ck, .string (strOfNums r2)], .bool true]) (results_box2 Try.results29 _ _ w.heap.size _ _ _ _ rfl rfl hX Try.underlying40 rfl (by kernel_rfl)) rfl ?_
              exact ⟨_, nodeOf bs r1 r2 r3 q, true, rfl, (V.out.touch hb (fun g hg h => by have := (V.out.blk hg).1; omega)).base (by omega), yes_read bs r1 r2 r3 q hr HQ.out hq3 HC.out hok, B7.out.trans (hb.below B7.out.size (fun k hk h => by omega))⟩
            · have hok' : nodeOk (nodeOf bs r1 r2 r3 q) = false := by simpa using hok
              rw [hok']
              go_wp2_with fail
              obtain ⟨hX, hb⟩ := set4 X1.out (.int .i64 0) (.slice none 0 0) (.slice none 0 0) (.string { data := #[] })
              refine bodyPost_ret (v := .tuple #[node0V, .bool false]) (results_box2 Try.results29 _ _ w.heap.size _ _ _ _ rfl rfl hX Try.underlying40 rfl (by kernel_rfl)) rfl ?_
              exact ⟨_, node0, false, rfl, node0_own _ _, none_bad P1.out P2.out (by rw [hlen]; exact P3.out) hq3 hok', B7.out.trans (hb.below B7.out.size (fun k hk h => by omega))⟩
  · have q10 := X1.out.cell 0
    have q11 := X1.out.cell 1
    have q12 := X1.out.cell 2
    have q13 := X1.out.cell 3
    have f1 := X1.out.free
    simp at q10 q11 q12 q13
    go_wp2
    obtain ⟨hX, hb⟩ := set4 X1.out (.int .i64 0) (.slice none 0 0) (.slice none 0 0) (.string { data := #[] })
    refine bodyPost_ret (v := .tuple #[node0V, .bool false]) (results_box2 Try.results29 _ _ w.heap.size _ _ _ _ rfl rfl hX Try.underlying40 rfl (by kernel_rfl)) rfl ?_
    exact ⟨_, node0, false, rfl, node0_own _ _, none_end P1.out P2.out P3.out (by rw [hlen]; exact hk), B4.out.trans (hb.below B4.out.size (fun k hk h => by omega))⟩
end Go.Proofs.Ytjmlpekaehfeeaa
