/- Several texts in one, in build order: FrameI, FrmA, ChgM, ChgF, ChAll. -/
import Derived.Test.YtigdcmfmaehjfaaGreatPkL
import Derived.Deep.RegionLaw
import Derived.Deep.DeepCutAuto
import Derived.StillTailTactics
-- FrameI: The model's FramesIn.
namespace Go.Proofs.YtigdcmfmaehjfaaGreat
set_option maxRecDepth 20000
set_option linter.unusedVariables false
set_option linter.unusedSimpArgs false
open Go.RowKit

theorem ofTwo_eq (b : List Int) (h : ∀ z ∈ b, 0 ≤ z ∧ z ≤ 255) (i : Nat) : (ofTwo b i : Int) = b[i]?.getD 0 + 256 * b[i + 1]?.getD 0 ∧ ofTwo b i ≤ 65535 := by
  have h1 := mem_at b h i
  have h2 := mem_at b h (i + 1)
  unfold ofTwo
  omega
theorem Byts.part2 {w : World} {B b off n : Nat} {bs : List Int} (h : Byts w B (some ⟨b, off, none⟩) n bs) (i m off' : Nat) (hi : i + m ≤ n) (ho : 0 < m → off' = off + i) : Byts w B (some ⟨b, off', none⟩) m ((bs.drop i).take m) := by
  have hl := h.1
  refine ⟨by rw [List.length_take, List.length_drop]; omega, fun z hz => h.2.1 z (List.mem_of_mem_drop (List.mem_of_mem_take hz)), fun hp => ?_⟩
  obtain ⟨b', o, e, hb, hc⟩ := h.2.2 (by omega)
  cases e
  have e1 := ho hp
  subst e1
  refine ⟨b, off + i, rfl, hb, fun j hj => ?_⟩
  have h1 := hc (i + j) (by omega)
  rw [Nat.add_assoc, h1]
  simp [List.getD_eq_getElem?_getD, List.getElem?_take_of_lt hj, List.getElem?_drop]
/-- the call answered with the bodies and with where they end. -/
def GaveFrames (bs : List Int) (w : World) (e : Ending) (w' : World) : Prop :=
  ∃ A' n' c', e = .returned (.tuple #[.slice A' n' c', .int .i64 ((framesAt bs 0).2 : Int)]) ∧ OwnBs w' w.heap.size w'.heap.size A' n' c' (framesAt bs 0).1 ∧ Below w.heap.size w w'

end Go.Proofs.YtigdcmfmaehjfaaGreat

-- FrmA: The program's frames: a number in two bytes; the body of the frame at the beginning.
namespace Go.Proofs.YtigdcmfmaehjfaaGreat
set_option maxRecDepth 20000
set_option linter.unusedVariables false
set_option linter.unusedSimpArgs false
open Go.RowKit

theorem countBytes_any (n : Nat) (w : World) (hn : n ≤ 65535) :
    Calls Tryz.prog 211 #[.int .i64 n] w fun e w' => e = .returned (.slice (some ⟨w.heap.size, 0, none⟩) 2 2) ∧ Mine w' w.heap.size (some ⟨w.heap.size, 0, none⟩) 2 2 (two n) ∧ Below w.heap.size w w' := by
  have m0 := Lib.hid (Mine.of_alloc w w.heap.size (two n) 2 (Nat.le_refl _) rfl (by unfold maxLen; omega) (by simp [two]; omega))
  have b0 := Lib.hid ((Below.refl w.heap.size w).alloc (Nat.le_refl _) (.cells (u8s (two n)) 5))
  go_enter Tryz.func211, Tryz.ntmps211
  go_wp2
  go_ret
  exact ⟨rfl, m0.out, b0.out⟩

theorem countFrom_any (A : Option Addr) (n c : Nat) (bs : List Int) (B : Nat) (w : World) (hn : n ≤ 1048576) (hi : 1 < n) (hb : Byts w B A n bs) :
    Calls Tryz.prog 234 #[.slice A n c] w fun e w' => e = .returned (.int .i64 (ofTwo bs 0)) ∧ ∃ q, w' = w.drewN q := by
  obtain ⟨b, off, rfl, hbB, h0⟩ := hb.at_ (k := 0) (by omega)
  obtain ⟨b', off', e', _, h1⟩ := hb.at_ (k := 1) hi
  cases e'
  obtain ⟨he, hle⟩ := ofTwo_eq bs hb.2.1 0
  have r0 := hb.range 0
  have r1 := hb.range 1
  simp only [Nat.zero_add, Nat.add_zero] at *
  generalize bs[0]?.getD 0 = x at *
  generalize bs[1]?.getD 0 = y at *
  have ho := Lib.hid (show bits .or .i64 x (y * 256) = x + 256 * y from by
    have h := or_step x y 1 (by omega) (by omega) (by omega)
    rw [show wrap64 (y * 2 ^ (8 * 1)) = y * 256 by unfold wrap64; omega, show wrap64 (x + y * 2 ^ (8 * 1)) = x + 256 * y by unfold wrap64; omega] at h
    exact h)
  have HE := Lib.hid he
  clear hb he
  go_enter Tryz.func234, Tryz.ntmps234
  go_wp2
  go_quiet (fail)
  go_wp2
  go_ret
  exact ⟨ret_i64 (by rw [HE.out, ho.out]), _, rfl⟩

/-- the call told the body of the frame at the beginning, or that there is none. -/
def FirstIs (bs : List Int) (w : World) (e : Ending) (w' : World) : Prop :=
  (∃ q, w' = w.drewN q) ∧ ((¬ frameAt bs 0 ∧ e = .returned (.tuple #[.slice none 0 0, .bool false])) ∨
    (frameAt bs 0 ∧ ∃ A' B', e = .returned (.tuple #[.slice A' (ofTwo bs 0) (ofTwo bs 0), .bool true]) ∧ B' ≤ w.heap.size ∧ Byts w B' A' (ofTwo bs 0) (bodyAt bs 0)))

end Go.Proofs.YtigdcmfmaehjfaaGreat

-- ChgM: Plain facts on changes in bytes. No statement of the program is proved here.
namespace Go.Proofs.YtigdcmfmaehjfaaGreat
set_option maxRecDepth 20000
set_option linter.unusedVariables false
set_option linter.unusedSimpArgs false
open Go.RowKit

/-- the bytes of a change. -/
def chgBytes (x : MChg) : List Int := (x.kind % 256) :: (if x.kind = 1 then two (x.bytes.length : Int) ++ x.bytes else nameBytes x.name)
theorem raw_len (nd : MNode) (h : nodeOk nd = true) : (rawBytes nd).length ≤ 168 := by
  obtain ⟨h1, h2, h3, h4⟩ := nodeOk_parts nd h
  have hp : nd.path.length ≤ 8 := by unfold isPath at h1; simp at h1; omega
  have hk := kidsOk_len nd.kids h2
  have hb := kidBytes_len nd.kids
  have hv : (sb nd.val).length ≤ 12 := by rw [sb_len]; exact nodeOk_val nd h
  unfold rawBytes
  simp only [List.length_append, List.length_cons, List.length_nil, List.length_map]
  omega
theorem read_len {bs : List Int} {nd : MNode} (h : NodeRead bs nd true) : bs.length ≤ 168 := by
  rcases h with ⟨_, h, _, rfl⟩ | ⟨h, _⟩
  · rw [show nodeBytes nd = rawBytes nd from if_pos h]
    exact raw_len nd h
  · cases h
theorem read_pos {bs : List Int} {nd : MNode} (h : NodeRead bs nd true) : 0 < bs.length := by
  rcases h with ⟨_, h, _, rfl⟩ | ⟨h, _⟩
  · rw [show nodeBytes nd = rawBytes nd from if_pos h]
    unfold rawBytes
    simp only [List.length_append, List.length_cons, List.length_nil]
    omega
  · cases h
theorem ok_pos {x : MChg} (h : ChgOk x) (hk : x.kind = 1) : 0 < x.bytes.length := by
  rcases h with ⟨h, _⟩ | ⟨_, ⟨nd, h⟩, _⟩
  · exact absurd hk h
  · exact read_pos h
theorem ok_len {x : MChg} (h : ChgOk x) : x.bytes.length ≤ 168 := by
  rcases h with ⟨_, _, _, _, h⟩ | ⟨_, ⟨nd, h⟩, _⟩
  · rw [h]; simp
  · exact read_len h
theorem chg_len {x : MChg} (h : ChgOk x) : (chgBytes x).length ≤ 180 := by
  have h1 := ok_len h
  have h2 := nameBytes_len8 x.name
  unfold chgBytes
  split
  · simp only [List.length_cons, List.length_append, two, List.length_nil]; omega
  · simp only [List.length_cons]; omega
/-- what the bytes of some changes are, and whether there are any. -/
def ChangesIs (cs : List MChg) (l : List Int) (r : Bool) : Prop :=
  ((cs.length ≤ 200 ∧ ∀ i, i < cs.length → ChgOk (cx cs i)) ∧ l = two (cs.length : Int) ++ cs.flatMap chgBytes ∧ r = true) ∨ (¬ (cs.length ≤ 200 ∧ ∀ i, i < cs.length → ChgOk (cx cs i)) ∧ l = [] ∧ r = false)
theorem ChangesIs.one {cs : List MChg} {l l' : List Int} {r r' : Bool} (h : ChangesIs cs l r) (h' : ChangesIs cs l' r') : l = l' ∧ r = r' := by
  rcases h with ⟨h1, rfl, rfl⟩ | ⟨h1, rfl, rfl⟩ <;> rcases h' with ⟨k1, rfl, rfl⟩ | ⟨k1, rfl, rfl⟩
  · exact ⟨rfl, rfl⟩
  · exact absurd h1 k1
  · exact absurd k1 h1
  · exact ⟨rfl, rfl⟩
theorem flatG_len (cs : List MChg) : (∀ i, i < cs.length → ChgOk (cx cs i)) → (cs.flatMap chgBytes).length ≤ cs.length * 180 := by
  induction cs with
  | nil => intro _; simp
  | cons x r ih =>
    intro h
    have h0 := chg_len (h 0 (by simp))
    have h1 := ih (fun i hi => by have := h (i + 1) (by simp; omega); exact this)
    simp only [List.flatMap_cons, List.length_append, List.length_cons]
    have : (chgBytes x).length ≤ 180 := h0
    omega
theorem ChangesIs.len {cs : List MChg} {l : List Int} {r : Bool} (h : ChangesIs cs l r) : l.length ≤ 36002 := by
  rcases h with ⟨⟨h1, h2⟩, rfl, _⟩ | ⟨_, rfl, _⟩
  · have := flatG_len cs h2
    simp only [List.length_append, two, List.length_cons, List.length_nil]
    omega
  · simp
theorem flat_step (cs : List MChg) (k : Nat) (h : k < cs.length) : (cs.take (k + 1)).flatMap chgBytes = (cs.take k).flatMap chgBytes ++ chgBytes (cx cs k) := by
  rw [cx_take cs k h, List.flatMap_append]; simp
end Go.Proofs.YtigdcmfmaehjfaaGreat

-- ChgF: The program's forms of changes: what each part of a form answers; the program's ChangeOk.
namespace Go.Proofs.YtigdcmfmaehjfaaGreat
set_option maxRecDepth 100000
set_option linter.unusedVariables false
set_option linter.unusedSimpArgs false
open Go.RowKit

theorem formOf_no (k : Int) (h : ¬ (1 ≤ k ∧ k ≤ 11)) (w : World) :
    Calls Tryz.prog 123 #[.int .i64 k] w fun e w' => e = .returned (.tuple #[form0, .bool false]) ∧ Below w.heap.size w w' := by
  obtain ⟨w1, hw1⟩ : ∃ w1, w.alloc (.cells #[.nilFunc, .nilFunc, .nilFunc] 168) = w1 := ⟨_, rfl⟩
  have x1 : Box w1 w.heap.size 168 #[.nilFunc, .nilFunc, .nilFunc] := hw1 ▸ heap_alloc_new _ _
  have b1 : Below w.heap.size w w1 := hw1 ▸ (Below.refl _ _).alloc (Nat.le_refl _) _
  have E := Lib.hid (form_end2 w w1 _ _ _ _ .nilFunc .nilFunc .nilFunc x1 b1)
  have p0 := x1.cell 0
  have p1 := x1.cell 1
  have p2 := x1.cell 2
  have g := x1.free
  simp at p0 p1 p2
  clear x1 b1
  by_cases h1 : k < 1
  · have d1 : decide (k < 1) = true := decide_eq_true h1
    clear h h1
    go_enter Tryz.func123, Tryz.ntmps123
    go_wp2
    refine bodyPost_ret (v := .tuple #[form0, .bool false]) (results_box2 Tryz.results123 _ _ w.heap.size _ _ _ _ rfl rfl E.out.1 Tryz.underlying168 rfl (by kernel_rfl)) rfl ?_
    exact ⟨rfl, E.out.2⟩
  · have d1 : decide (k < 1) = false := decide_eq_false h1
    have d2 : decide (11 < k) = true := decide_eq_true (by omega)
    clear h h1
    go_enter Tryz.func123, Tryz.ntmps123
    go_wp2
    refine bodyPost_ret (v := .tuple #[form0, .bool false]) (results_box2 Tryz.results123 _ _ w.heap.size _ _ _ _ rfl rfl E.out.1 Tryz.underlying168 rfl (by kernel_rfl)) rfl ?_
    exact ⟨rfl, E.out.2⟩

theorem hasNoBytes_any (k m : Int) (A : Option Addr) (n c : Nat) (w : World) :
    Calls Tryz.prog 162 #[.agg #[.int .i64 k, .int .i64 m, .slice A n c]] w fun e w' => e = .returned (.bool (decide (n = 0))) ∧ Below w.heap.size w w' := by
  have b1 := Lib.hid ((Below.refl w.heap.size w).alloc (Nat.le_refl _) (.cells #[.int .i64 k, .int .i64 m, .slice A n c] 75))
  by_cases h : n = 0
  · subst h
    go_enter Tryz.func162, Tryz.ntmps162
    go_wp2
    go_ret
    exact ⟨rfl, b1.out⟩
  · have d1 : decide ((n : Int) = 0) = false := decide_eq_false (by omega)
    have d2 : ((n : Int) == 0) = false := by simpa using h
    have d3 := Lib.hid (decide_eq_false h)
    clear h
    go_enter Tryz.func162, Tryz.ntmps162
    go_wp2
    go_ret
    exact ⟨by rw [d3.out]; first | rfl | (rw [d2]; rfl) | (rw [d1]; rfl), b1.out⟩

theorem nameShown_any (k m : Int) (A : Option Addr) (n c : Nat) (w : World) :
    Calls Tryz.prog 163 #[.agg #[.int .i64 k, .int .i64 m, .slice A n c]] w fun e w' => ∃ A' n' c', e = .returned (.slice A' n' c') ∧ Mine w' w.heap.size A' n' c' (nameBytes m) ∧ Below w.heap.size w w' := by
  obtain ⟨w1, hw1⟩ : ∃ w1, w.alloc (.cells #[.int .i64 k, .int .i64 m, .slice A n c] 75) = w1 := ⟨_, rfl⟩
  have x1 : Box w1 w.heap.size _ _ := hw1 ▸ heap_alloc_new _ _
  have b1 := Lib.hid (show Below w.heap.size w w1 from hw1 ▸ (Below.refl _ _).alloc (Nat.le_refl _) _)
  have q1 := x1.cell 1
  simp at q1
  clear x1
  go_enter Tryz.func163, Tryz.ntmps163
  go_wp2_with fail
  refine (bytes_any m w1).mono ?_
  rintro e w2 ⟨A', n', c', rfl, m2, b2⟩
  have M2 := Lib.hid m2
  have B2 := Lib.hid b2
  clear m2 b2
  go_wp2
  go_ret
  exact ⟨_, _, _, rfl, M2.out.base b1.out.size, b1.out.trans (B2.out.mono b1.out.size)⟩

theorem hasNode_any (k m : Int) (A : Option Addr) (n c : Nat) (bs : List Int) (B : Nat) (w : World) (hn : n ≤ 1048576) (hc : n ≤ c) (hA : A = none → c = 0) (hB : B ≤ w.heap.size) (hb : Byts w B A n bs) :
    Calls Tryz.prog 165 #[.agg #[.int .i64 k, .int .i64 m, .slice A n c]] w fun e w' => ∃ r, e = .returned (.bool r) ∧ (r = true ↔ (IsNode bs ∧ nameOf bs = m)) ∧ Below w.heap.size w w' := by
  obtain ⟨w1, hw1⟩ : ∃ w1, w.alloc (.cells #[.int .i64 k, .int .i64 m, .slice A n c] 75) = w1 := ⟨_, rfl⟩
  have x1 : Box w1 w.heap.size _ _ := hw1 ▸ heap_alloc_new _ _
  have b1 := Lib.hid (show Below w.heap.size w w1 from hw1 ▸ (Below.refl _ _).alloc (Nat.le_refl _) _)
  have HB := Lib.hid ((hb.more hB).below b1.out)
  have s1 := b1.out.size
  have q1 := x1.cell 1
  have q2 := x1.cell 2
  simp at q1 q2
  clear x1 hb
  go_enter Tryz.func165, Tryz.ntmps165
  go_wp2_with fail
  refine (named_any m A n c bs w.heap.size w1 hn hc hA s1 HB.out).mono ?_
  rintro e w2 ⟨v, nd, r, rfl, own, b2, hcase⟩
  have B2 := Lib.hid (b1.out.trans (b2.mono s1))
  obtain ⟨Ap, np, cp, Ak, nk, ck, rfl, _⟩ := own
  have HC := Lib.hid (show r = true ↔ (IsNode bs ∧ nameOf bs = m) from by
    rcases hcase with ⟨h1, h2, h3⟩ | ⟨h1, h2⟩
    · exact iff_of_true h1 ⟨(IsNode.of h2).1 rfl, h3⟩
    · exact iff_of_false (by rw [h1]; simp) h2)
  have B3 := Lib.hid (B2.out.trans (((Below.refl w2.heap.size w2).alloc (Nat.le_refl _) (.cells #[.int .i64 nd.kind, .slice Ap np cp, .slice Ak nk ck, .string nd.val] 96)).mono B2.out.size))
  clear hcase b2 q1 q2
  go_wp2
  go_ret
  exact ⟨r, rfl, HC.out, B3.out⟩

set_option maxHeartbeats 1600000 in
theorem implChangeOk_any (x : MChg) (A : Option Addr) (n c : Nat) (B : Nat) (w : World) (hn : n ≤ 1048576) (hc : n ≤ c) (hA : A = none → c = 0) (hB : B ≤ w.heap.size) (hb : Byts w B A n x.bytes) :
    Calls Tryz.prog 82 #[.agg #[.int .i64 x.kind, .int .i64 x.name, .slice A n c]] w fun e w' => ∃ r, e = .returned (.bool r) ∧ (r = true ↔ ChgOk x) ∧ Below w.heap.size w w' := by
  have hlen := hb.1
  obtain ⟨w1, hw1⟩ : ∃ w1, w.alloc (.cells #[.int .i64 x.kind, .int .i64 x.name, .slice A n c] 75) = w1 := ⟨_, rfl⟩
  have x1 : Box w1 w.heap.size _ _ := hw1 ▸ heap_alloc_new _ _
  have B1 := Lib.hid (show Below w.heap.size w w1 from hw1 ▸ (Below.refl _ _).alloc (Nat.le_refl _) _)
  have HB := Lib.hid ((hb.more hB).below B1.out)
  have s1 := B1.out.size
  have l1 : w.heap.size < w1.heap.size := x1.lt
  have X1 := Lib.hid x1
  have q0 := x1.cell 0
  simp at q0
  clear x1 hb
  by_cases hk : 1 ≤ x.kind ∧ x.kind ≤ 11
  case neg =>
    have hno := Lib.hid (show ¬ ChgOk x from fun h => by
      rcases h with ⟨_, h1, h2, _⟩ | ⟨h, _⟩
      · exact hk ⟨by omega, h2⟩
      · exact hk ⟨by omega, by omega⟩)
    have FO := Lib.hid (formOf_no x.kind hk)
    clear hk
    go_enter Tryz.func82, Tryz.ntmps82
    go_wp2_with fail
    refine (FO.out w1).mono ?_
    rintro e w2 ⟨rfl, b2⟩
    have B2 := Lib.hid (B1.out.trans (b2.mono s1))
    have B3 := Lib.hid (B2.out.alloc B2.out.size (.cells #[.nilFunc, .nilFunc, .nilFunc] 168))
    clear b2 q0
    unfold form0
    go_wp2
    go_ret
    exact ⟨false, rfl, iff_of_false (by simp) hno.out, B3.out⟩
  case pos =>
    by_cases hk1 : x.kind = 1
    · have HK := Lib.hid hk1
      have FO := Lib.hid (formOf_cell x.kind hk1)
      clear hk hk1
      go_enter Tryz.func82, Tryz.ntmps82
      go_wp2_with fail
      refine (FO.out w1).mono ?_
      rintro e w2 ⟨rfl, b2⟩
      have s2 := b2.size
      have B2 := Lib.hid (B1.out.trans (b2.mono s1))
      have X2 := Lib.hid (X1.out.below b2 l1)
      have Y2 := Lib.hid (HB.out.below (b2.mono s1))
      obtain ⟨w3, hw3⟩ : ∃ w3, w2.alloc (.cells #[.func (.func 165) #[] #[], .func (.func 166) #[] #[], .func (.func 167) #[] #[]] 168) = w3 := ⟨_, rfl⟩
      have b3 : Below w2.heap.size w2 w3 := hw3 ▸ (Below.refl _ _).alloc (Nat.le_refl _) _
      have F3 := Lib.hid (show Box w3 w2.heap.size _ _ from hw3 ▸ heap_alloc_new _ _)
      have B3 := Lib.hid (B2.out.trans (b3.mono (by omega)))
      have X3 := Lib.hid (X2.out.below b3 (by omega))
      have Y3 := Lib.hid (Y2.out.below (b3.mono (by omega)))
      have s3 : w2.heap.size ≤ w3.heap.size := b3.size
      have p0 := X3.out.cell 0
      have p1 := X3.out.cell 1
      have p2 := X3.out.cell 2
      have f0 := F3.out.cell 0
      simp at p0 p1 p2 f0
      clear b2 q0 b3
      unfold formC
      by_cases h0 : 0 ≤ x.name
      · have d0 : decide (0 ≤ x.name) = true := decide_eq_true h0
        clear h0
        go_wp2_with fail
        refine (hasNode_any x.kind x.name A n c x.bytes w.heap.size w3 hn hc hA B3.out.size Y3.out).mono ?_
        rintro e w4 ⟨r, rfl, hr, b4⟩
        have B4 := Lib.hid (B3.out.trans (b4.mono B3.out.size))
        have HR := Lib.hid hr
        clear hr b4
        go_wp2
        go_ret
        refine ⟨r, rfl, ?_, B4.out⟩
        refine HR.out.trans ⟨fun h => .inr ⟨HK.out, h.1, h.2.symm⟩, fun h => ?_⟩
        rcases h with ⟨h, _⟩ | ⟨_, h1, h2⟩
        · exact absurd HK.out h
        · exact ⟨h1, h2.symm⟩
      · have d0 : decide (0 ≤ x.name) = false := decide_eq_false h0
        have hno := Lib.hid (show ¬ ChgOk x from fun h => by
          rcases h with ⟨h, _⟩ | ⟨_, _, h2⟩
          · exact h HK.out
          · have := nameOf_bd x.bytes
            omega)
        clear h0
        go_wp2
        go_ret
        exact ⟨false, rfl, iff_of_false (by simp) hno.out, B3.out⟩
    · have HK := Lib.hid (show ¬ x.kind = 1 ∧ 2 ≤ x.kind ∧ x.kind ≤ 11 from ⟨hk1, by omega, by omega⟩)
      have FO := Lib.hid (formOf_name x.kind (by omega) (by omega))
      clear hk hk1
      go_enter Tryz.func82, Tryz.ntmps82
      go_wp2_with fail
      refine (FO.out w1).mono ?_
      rintro e w2 ⟨rfl, b2⟩
      have s2 := b2.size
      have B2 := Lib.hid (B1.out.trans (b2.mono s1))
      have X2 := Lib.hid (X1.out.below b2 l1)
      have Y2 := Lib.hid (HB.out.below (b2.mono s1))
      obtain ⟨w3, hw3⟩ : ∃ w3, w2.alloc (.cells #[.func (.func 162) #[] #[], .func (.func 163) #[] #[], .func (.func 164) #[] #[]] 168) = w3 := ⟨_, rfl⟩
      have b3 : Below w2.heap.size w2 w3 := hw3 ▸ (Below.refl _ _).alloc (Nat.le_refl _) _
      have F3 := Lib.hid (show Box w3 w2.heap.size _ _ from hw3 ▸ heap_alloc_new _ _)
      have B3 := Lib.hid (B2.out.trans (b3.mono (by omega)))
      have X3 := Lib.hid (X2.out.below b3 (by omega))
      have Y3 := Lib.hid (Y2.out.below (b3.mono (by omega)))
      have s3 : w2.heap.size ≤ w3.heap.size := b3.size
      have p0 := X3.out.cell 0
      have p1 := X3.out.cell 1
      have p2 := X3.out.cell 2
      have f0 := F3.out.cell 0
      simp at p0 p1 p2 f0
      clear b2 q0 b3
      unfold formN
      by_cases h0 : 0 ≤ x.name
      · have d0 : decide (0 ≤ x.name) = true := decide_eq_true h0
        have H0 := Lib.hid h0
        clear h0
        go_wp2_with fail
        refine (hasNoBytes_any x.kind x.name A n c w3).mono ?_
        rintro e w4 ⟨rfl, b4⟩
        have B4 := Lib.hid (B3.out.trans (b4.mono B3.out.size))
        have HL := Lib.hid hlen
        clear b4
        obtain ⟨r, hr⟩ : ∃ r, decide (n = 0) = r := ⟨_, rfl⟩
        have HR := Lib.hid hr
        rw [hr]
        clear hr
        go_wp2
        go_ret
        refine ⟨r, rfl, ?_, B4.out⟩
        rw [← HR.out, decide_eq_true_iff]
        refine ⟨fun h => .inl ⟨HK.out.1, HK.out.2.1, HK.out.2.2, H0.out, List.eq_nil_of_length_eq_zero (by have := HL.out; omega)⟩, fun h => ?_⟩
        rcases h with ⟨_, _, _, _, h⟩ | ⟨h, _⟩
        · have := HL.out; rw [h] at this; simpa using this.symm
        · exact absurd h HK.out.1
      · have d0 : decide (0 ≤ x.name) = false := decide_eq_false h0
        have hno := Lib.hid (show ¬ ChgOk x from fun h => by
          rcases h with ⟨_, _, _, h, _⟩ | ⟨h, _⟩
          · exact h0 h
          · exact HK.out.1 h)
        clear h0
        go_wp2
        go_ret
        exact ⟨false, rfl, iff_of_false (by simp) hno.out, B3.out⟩
end Go.Proofs.YtigdcmfmaehjfaaGreat

-- ChAll: The program does all changes to a base: its changeAll, its ChangedAll.
namespace Go.Proofs.YtigdcmfmaehjfaaGreat
set_option maxRecDepth 100000
set_option linter.unusedVariables false
set_option linter.unusedSimpArgs false
open Go.RowKit

/-- when the changes can be done. -/
def CanAll (b : MBase) (l : List MChg) : Prop := l.length ≤ 200 ∧ (∀ x, x ∈ l → ChgOk x) ∧ BaseGood (l.foldl changeOne b)
theorem cx_all {l : List MChg} (h : ∀ j, j < l.length → ChgOk (cx l j)) : ∀ x, x ∈ l → ChgOk x := by
  intro x hx
  obtain ⟨i, hi, rfl⟩ := List.mem_iff_getElem.1 hx
  have := h i hi
  unfold cx at this
  rwa [List.getElem?_eq_getElem hi] at this
theorem cx_mem (l : List MChg) (k : Nat) (hk : k < l.length) : cx l k ∈ l := by
  unfold cx
  rw [List.getElem?_eq_getElem hk]
  exact List.getElem_mem hk
set_option maxHeartbeats 8000000 in
theorem changeAll_any (p lo : Nat) (L : OLay) (ps : List (Int × NV)) (b : MBase) (A : Option Addr) (n c : Nat) (l : List MChg) (B : Nat) (w : World) (h : OB w p lo L ps b) (good : BaseGood b) (mid : MidOk 0 b) (hn : n ≤ 1048576) (hcap : n ≤ c) (hl : ∀ i, (cx l i).bytes.length ≤ 1048576) (hlo : lo ≤ w.heap.size) (hB : B ≤ w.heap.size) (hpB : B ≤ p) (hLB : ∀ g, L.blk ps g → B ≤ g) (hc : Chs w B A n l) :
    Calls Tryz.prog 50 #[.pointer (some ⟨p, 0, none⟩), .slice A n c] w fun e w' => SaysB e (CanAll b l) ∧ (CanAll b l → ∃ L' ps', OB w' p lo L' ps' (l.foldl changeOne b)) ∧ Touch (fun g => g = p ∨ L.blk ps g) w w' := by
  have HO := Lib.hid h
  have GD := Lib.hid good
  have HL := Lib.hid hl
  have HC := Lib.hid hc
  have hlc := hc.1
  have hp := h.box.lt
  have BL := Lib.hid (fun g (hg : L.blk ps g) => (h.own.blk_lt hg).2)
  have TB := Lib.hid (fun W (t : Touch (fun g => g = p ∨ L.blk ps g) w W) => (t.below hB (fun k hk e => e.elim (fun e => by omega) (fun e => by have := hLB k e; omega)) : Below B w W))
  have MID := Lib.hid mid
  have EA := Lib.hid good.1.cells.each
  clear h good hl hc mid
  go_enter Tryz.func50, Tryz.ntmps50
  by_cases h200 : 200 < n
  · have hd : decide ((200 : Int) < (n : Int)) = true := decide_eq_true (by omega)
    go_wp2
    go_ret
    exact ⟨SaysB.f (fun h => by have := h.1; omega), (fun h => absurd h.1 (by omega)), Touch.of_below (Below.refl _ _)⟩
  have hd : decide ((200 : Int) < (n : Int)) = false := decide_eq_false (by omega)
  go_wp2
  go_loopw [12] (fun s12 wr => ∃ (k : Nat) (L' : OLay) (ps' : List (Int × NV)), k ≤ n ∧ s12 = .int .i64 k ∧ OB wr p lo L' ps' ((l.take k).foldl changeOne b) ∧ MidOk k ((l.take k).foldl changeOne b) ∧ EachOk ((l.take k).foldl changeOne b).cells ∧ (∀ j, j < k → ChgOk (cx l j)) ∧ Touch (fun g => g = p ∨ L.blk ps g) w wr ∧ ∀ g, L'.blk ps' g → L.blk ps g ∨ w.heap.size ≤ g) (fun s12 _ => n - (intOf s12).toNat)
  case atStart => exact ⟨0, L, ps, Nat.zero_le _, rfl, HO.out, MID.out, EA.out, fun j hj => absurd hj (Nat.not_lt_zero _), Touch.of_below (Below.refl _ _), fun g hg => .inl hg⟩
  case round =>
    obtain ⟨k, L', ps', hk, rfl, hob, hmid, hea, hok, htc, hfr⟩ := hrel
    have hsr := htc.size
    have FT := Lib.hid (fun hlt => foldl_take b l k hlt)
    obtain ⟨y, hy⟩ : ∃ y, (l.take k).foldl changeOne b = y := ⟨_, rfl⟩
    rw [hy] at hob hmid hea FT
    have YE := Lib.hid hy
    have OBR := Lib.hid hob
    have MD := Lib.hid hmid
    have EO := Lib.hid hea
    have OK := Lib.hid hok
    have TR := Lib.hid htc
    have FR := Lib.hid hfr
    have HCR := Lib.hid (HC.out.below (TB.out wr htc))
    clear hob hmid hea hok htc hfr hy
    by_cases hlt : k < n
    · obtain ⟨bb, boff, Ai, ni, ci, hAe, hbB, h0, h1, h2, hnc, hAn, hyb⟩ := HCR.out.at_ hlt
      subst hAe
      have hni := hyb.1
      have hft := FT.out (by omega)
      have hnm := HL.out k
      have hmx := cx_mem l k (by omega)
      obtain ⟨x, hx⟩ : ∃ x, cx l k = x := ⟨_, rfl⟩
      rw [hx] at h0 h1 hyb hft hnm hni hmx
      have HX := Lib.hid hx
      have HY := Lib.hid hyb
      have FT := Lib.hid hft
      have MX := Lib.hid hmx
      have NI := Lib.hid (show ni ≤ 1048576 by omega)
      clear hx hft hyb hni hmx
      obtain ⟨w5, hw5⟩ : ∃ w5, wr.alloc (.cells #[.int .i64 x.kind, .int .i64 x.name, .slice Ai ni ci] 75) = w5 := ⟨_, rfl⟩
      have b5 : Below wr.heap.size wr w5 := hw5 ▸ (Below.refl _ _).alloc (Nat.le_refl _) _
      have X5 := Lib.hid (show Box w5 wr.heap.size 75 #[.int .i64 x.kind, .int .i64 x.name, .slice Ai ni ci] from hw5 ▸ heap_alloc_new _ _)
      have s5 : w5.heap.size = wr.heap.size + 1 := hw5 ▸ by simp
      have S5 := Lib.hid s5
      have B5 := Lib.hid b5
      have q0 := X5.out.cell 0
      have q1 := X5.out.cell 1
      have q2 := X5.out.cell 2
      simp at q0 q1 q2
      clear b5 s5
      go_wp2_with fail
      clear hw5
      refine (implChangeOk_any x Ai ni ci B w5 NI.out hnc hAn (by have := S5.out; omega) (HY.out.below (B5.out.mono (by omega)))).mono ?_
      rintro e w6 ⟨r, rfl, hr, b6⟩
      have HR := Lib.hid hr
      have B6 := Lib.hid (B5.out.trans (b6.mono (by have := S5.out; omega)))
      have X6 := Lib.hid (X5.out.below b6 (by have := S5.out; omega))
      clear hr b6 q0 q1 q2 h0 h1 h2
      cases r with
      | false =>
        go_wp2
        go_ret
        have hno : ¬ CanAll b l := fun h => absurd (HR.out.2 (h.2.1 x MX.out)) (by simp)
        exact ⟨SaysB.f hno, fun h => absurd h hno, TR.out.trans (Touch.of_below B6.out)⟩
      | true =>
        have hcx := HR.out.1 (by trivial)
        have CX := Lib.hid hcx
        have q0 := X6.out.cell 0
        have q1 := X6.out.cell 1
        have q2 := X6.out.cell 2
        simp at q0 q1 q2
        have hB6 := B6.out.size
        clear hcx HR
        go_wp2_with fail
        refine (change_any p lo L' ps' y x Ai ni ci k B w6 (OBR.out.below B6.out) MD.out (by omega) CX.out NI.out hnc hAn (by omega) (by omega) (HY.out.below (B6.out.mono (by omega)))).mono ?_
        rintro e w7 ⟨rfl, L7, ps7, ob7, t7, f7⟩
        have T7 := Lib.hid (show Touch (fun g => g = p ∨ L.blk ps g) w w7 from by
          refine ⟨t7.os.trans (B6.out.os.trans TR.out.os), t7.tape.trans (B6.out.tape.trans TR.out.tape), t7.output.trans (B6.out.output.trans TR.out.output), by have := t7.size; omega, fun g hg hS => ?_⟩
          refine (t7.block g (by omega) (fun e => ?_)).trans ((B6.out.block g (by omega)).trans (TR.out.block g hg hS))
          rcases e with e | e
          · exact hS (.inl e)
          · exact (FR.out g e).elim (fun h1 => hS (.inr h1)) (fun h1 => by omega))
        have O7 := Lib.hid ob7
        have F7 := Lib.hid (show ∀ g, L7.blk ps7 g → L.blk ps g ∨ w.heap.size ≤ g from fun g hg => (f7 g hg).elim (FR.out g) (fun h1 => .inr (by omega)))
        clear ob7 t7 f7 q0 q1 q2
        go_wp2
        go_roundw
        case measure => simp [intOf]; omega
        case rel =>
          refine ⟨k + 1, L7, ps7, by omega, by go_num, FT.out ▸ O7.out, FT.out ▸ MD.out.step hnm, FT.out ▸ EO.out.step CX.out, fun j hj => ?_, T7.out, F7.out⟩
          by_cases e : j = k
          · subst e; rw [HX.out]; exact CX.out
          · exact OK.out j (by omega)
    · obtain rfl : k = n := by omega
      have hye := YE.out
      rw [List.take_of_length_le (by omega)] at hye
      have YE := Lib.hid hye
      have SO := Lib.hid (EO.out.sound MD.out.cells)
      have AL := Lib.hid (cx_all (l := l) (fun j hj => OK.out j (by omega)))
      clear hye
      go_wp2_with fail
      refine (right_any p lo L' ps' y wr OBR.out.inn SO.out).mono ?_
      rintro e w6 ⟨hs, b6⟩
      have hiff : BaseGood y ↔ CanAll b l := by
        rw [← YE.out]
        exact ⟨fun h => ⟨by omega, AL.out, h⟩, fun h => h.2.2⟩
      have SB := Lib.hid (show SaysB e (CanAll b l) from by obtain ⟨r, he, hr⟩ := hs; exact ⟨r, he, hr.trans hiff⟩)
      have B6 := Lib.hid b6
      obtain ⟨r, rfl, _⟩ := hs
      clear b6
      go_wp2
      go_ret
      exact ⟨SB.out, fun _ => ⟨L', ps', YE.out ▸ OBR.out.below B6.out⟩, TR.out.trans (Touch.of_below B6.out)⟩
/-- the result box stands through all of it. -/
theorem res_box {w w' : World} {r : Nat} {S : Nat → Prop} {t : TypeId} {cs : Array Value} (h : Box w r t cs) (u : Touch S w w') (hS : ¬ S r) : Box w' r t cs := (u.block r h.lt hS).trans h
set_option maxHeartbeats 8000000 in
theorem implChangedAll_any (L : BLay) (b : MBase) (A : Option Addr) (n c : Nat) (l : List MChg) (B : Nat) (w : World) (fit : BaseFit L b) (hB : B ≤ w.heap.size) (hb : BaseIn w B L b) (hn : n ≤ 1048576) (hcap : n ≤ c) (hz : A = none → c = 0) (hl : ∀ i, (cx l i).bytes.length ≤ 1048576) (hc : Chs w B A n l) :
    Calls Tryz.prog 21 #[L.v b, .slice A n c] w (GaveAll b l w) := by
  have FIT := Lib.hid fit
  obtain ⟨w1, hw1⟩ : ∃ w1, (w.alloc (.cells #[.slice L.A L.n L.c, .int .i64 b.head, .slice L.Ap L.np L.cp, .int .i64 b.phase, .slice L.Ag L.ng L.cg, .slice L.Ab L.nb L.cb, .int .i64 b.cursor] 30)).alloc (.cells #[.slice none 0 0, .int .i64 0, .slice none 0 0, .int .i64 0, .slice none 0 0, .slice none 0 0, .int .i64 0] 30) = w1 := ⟨_, rfl⟩
  have x1 : Box w1 w.heap.size 30 #[.slice L.A L.n L.c, .int .i64 b.head, .slice L.Ap L.np L.cp, .int .i64 b.phase, .slice L.Ag L.ng L.cg, .slice L.Ab L.nb L.cb, .int .i64 b.cursor] := hw1 ▸ heap2_0 _ _ _
  have r1 : Box w1 (w.heap.size + 1) 30 #[.slice none 0 0, .int .i64 0, .slice none 0 0, .int .i64 0, .slice none 0 0, .slice none 0 0, .int .i64 0] := hw1 ▸ heap2_1 _ _ _
  have b1 : Below w.heap.size w w1 := hw1 ▸ below2 _ _ _
  have s1 : w1.heap.size = w.heap.size + 2 := hw1 ▸ size2 _ _ _
  have q0 := x1.cell 0
  have q1 := x1.cell 1
  have q2 := x1.cell 2
  have q3 := x1.cell 3
  have q4 := x1.cell 4
  have q5 := x1.cell 5
  have q6 := x1.cell 6
  simp at q0 q1 q2 q3 q4 q5 q6
  have R1 := Lib.hid r1
  have B1 := Lib.hid b1
  have S1 := Lib.hid s1
  have HB := Lib.hid ((hb.more hB).below b1)
  have HC := Lib.hid ((hc.more hB).below b1)
  have HL := Lib.hid hl
  clear x1 r1 b1 s1 hb fit hc hl
  unfold BLay.v
  go_enter Tryz.func21, Tryz.ntmps21
  go_wp2_with fail
  refine (opened_any L b w.heap.size w1 FIT.out (by have := S1.out; omega) HB.out).mono ?_
  rintro e w2 ⟨OL, k, b0, r, rfl, b2, hor⟩
  have OR := Lib.hid hor
  have B2 := Lib.hid b2
  have s2 := b2.size
  clear hor b2 q0 q1 q2 q3 q4 q5 q6 hw1
  unfold OLay.cells
  obtain ⟨w3, hw3⟩ : ∃ w3, w2.alloc (.cells #[.slice OL.R.Ak k OL.R.ck, .slice OL.R.Av k OL.R.cv, .int .i64 b0.head, .slice OL.Ap OL.np OL.cp, .int .i64 b0.phase, .slice OL.Ag OL.ng OL.cg, .slice OL.Ab OL.nb OL.cb, .int .i64 b0.cursor] 66) = w3 := ⟨_, rfl⟩
  have X3 := Lib.hid (show Box w3 w2.heap.size 66 (OL.cells k b0) from hw3 ▸ heap_alloc_new _ _)
  have b3 : Below w2.heap.size w2 w3 := hw3 ▸ (Below.refl _ _).alloc (Nat.le_refl _) _
  have s3 : w3.heap.size = w2.heap.size + 1 := hw3 ▸ by simp
  have B23 := Lib.hid b3
  have B3 := Lib.hid (B2.out.trans (b3.mono s2))
  have R3 := Lib.hid (R1.out.below B3.out (by have := S1.out; omega))
  have S3 := Lib.hid s3
  have S2 := Lib.hid s2
  clear b3 s3 s2
  cases r with
  | false =>
    have NG := Lib.hid (OR.out.elim (fun h => by simp at h) (fun h => h.2) : ¬ BaseGood b)
    have r0 := R3.out.cell 0
    have r1 := R3.out.cell 1
    have r2 := R3.out.cell 2
    have r3 := R3.out.cell 3
    have r4 := R3.out.cell 4
    have r5 := R3.out.cell 5
    have r6 := R3.out.cell 6
    have rf := R3.out.free
    simp at r0 r1 r2 r3 r4 r5 r6
    have Z7 := Lib.hid (set7 R3.out (.slice none 0 0) (.int .i64 0) (.slice none 0 0) (.int .i64 0) (.slice none 0 0) (.slice none 0 0) (.int .i64 0))
    go_wp2
    clear hw3
    refine bodyPost_ret (v := .tuple #[.agg #[.slice none 0 0, .int .i64 0, .slice none 0 0, .int .i64 0, .slice none 0 0, .slice none 0 0, .int .i64 0], .bool false]) (results_box2 Tryz.results21 _ _ (w.heap.size + 1) _ _ _ _ rfl rfl Z7.out.1 Tryz.underlying30 rfl (by kernel_rfl)) rfl ?_
    have h1 := S1.out
    have h2 := S2.out
    have h3 := S3.out
    exact ⟨⟨none, 0, 0, none, 0, 0, none, 0, 0, none, 0, 0⟩, ⟨[], 0, [], 0, [], [], 0⟩, false, rfl, .inr (.inr ⟨NG.out, rfl, rfl⟩), ⟨OwnC.nil _ _ _, OwnI.nil _ _, OwnI.nil _ _, OwnI.nil _ _, (fun g hg => by simp [Value.ownBlock] at hg), (fun g hg => by simp [Value.ownBlock] at hg), (fun g hg => by simp [Value.ownBlock] at hg)⟩,
      B1.out.trans ((B3.out.mono (by omega)).trans (Z7.out.2.below (by omega) (fun k hk e => by omega)))⟩
  | true =>
    obtain ⟨_, hg, hb0, ps, lo, hk, hlo1, hlo2, how⟩ : true = true ∧ BaseGood b ∧ b0 = b ∧ ∃ ps lo, k = ps.length ∧ w1.heap.size ≤ lo ∧ lo ≤ w2.heap.size ∧ OwnO w2 lo OL ps b := OR.out.elim id (fun h => by simp at h)
    subst hb0
    subst hk
    have GD := Lib.hid hg
    have BL2 := Lib.hid (fun g (hg : OL.blk ps g) => how.blk_lt hg)
    have ob3 : OB w3 w2.heap.size lo OL ps b0 := ⟨how.below B23.out, X3.out, fun e => by have := (how.blk_lt e).2; omega⟩
    have O3 := Lib.hid ob3
    have HLO1 := Lib.hid hlo1
    have HLO2 := Lib.hid hlo2
    clear how hg OR ob3 hlo1 hlo2
    go_wp2_with fail
    clear hw3
    refine (closed_any w2.heap.size lo OL ps b0 w3 O3.out.inn).mono ?_
    rintro e w4 ⟨BLa, rfl, ok4, b4⟩
    have K4 := Lib.hid ok4
    have B4 := Lib.hid b4
    have S4 := Lib.hid b4.size
    clear ok4 b4
    unfold BLay.v
    obtain ⟨w5, hw5⟩ : ∃ w5, w4.alloc (.cells #[.slice BLa.A BLa.n BLa.c, .int .i64 b0.head, .slice BLa.Ap BLa.np BLa.cp, .int .i64 b0.phase, .slice BLa.Ag BLa.ng BLa.cg, .slice BLa.Ab BLa.nb BLa.cb, .int .i64 b0.cursor] 30) = w5 := ⟨_, rfl⟩
    have b5 : Below w4.heap.size w4 w5 := hw5 ▸ (Below.refl _ _).alloc (Nat.le_refl _) _
    have X5 := Lib.hid (show Box w5 w4.heap.size 30 #[.slice BLa.A BLa.n BLa.c, .int .i64 b0.head, .slice BLa.Ap BLa.np BLa.cp, .int .i64 b0.phase, .slice BLa.Ag BLa.ng BLa.cg, .slice BLa.Ab BLa.nb BLa.cb, .int .i64 b0.cursor] from hw5 ▸ heap_alloc_new _ _)
    have S5 := Lib.hid (show w5.heap.size = w4.heap.size + 1 from hw5 ▸ by simp)
    have B45 := Lib.hid b5
    have B5 := Lib.hid (B4.out.trans (b5.mono S4.out))
    have O5 := Lib.hid (O3.out.below B5.out)
    have K5 := Lib.hid (K4.out.below b5)
    have R5 := Lib.hid (R3.out.below B5.out (by have := S1.out; have := S2.out; have := S3.out; omega))
    have HC5 := Lib.hid (HC.out.below ((B3.out.mono (by have := S1.out; omega)).trans (B5.out.mono (by have := S1.out; have := S2.out; have := S3.out; omega))))
    clear b5
    go_wp2_with fail
    clear hw5
    refine (changeAll_any w2.heap.size lo OL ps b0 A n c l w.heap.size w5 O5.out GD.out (good_mid GD.out (SmallC.of FIT.out.cell)) hn hcap HL.out (by have := HLO2.out; have := S3.out; have := S4.out; have := S5.out; omega) (by have := S1.out; have := S2.out; have := S3.out; have := S4.out; have := S5.out; omega) (by have := S1.out; have := S2.out; omega) (fun g hg => by have := (BL2.out g hg).1; have := HLO1.out; have := S1.out; omega) HC5.out).mono ?_
    rintro e w6 ⟨hsays, hcan, t6⟩
    have T6 := Lib.hid t6
    have CAN := Lib.hid hcan
    have S6 := Lib.hid t6.size
    have R6 := Lib.hid (res_box R5.out t6 (fun e => by
      have := S1.out; have := S2.out
      rcases e with e | e
      · omega
      · have := (BL2.out _ e).1; have := HLO1.out; omega))
    have X6 := Lib.hid (res_box X5.out t6 (fun e => by
      have := S3.out; have := S4.out
      rcases e with e | e
      · omega
      · have := (BL2.out _ e).2; omega))
    have K6 := Lib.hid (K5.out.touch t6 (fun g h1 h2 e => by
      have := S3.out
      rcases e with e | e
      · omega
      · have := (BL2.out _ e).2; omega))
    have BW := Lib.hid (show Below w.heap.size w w6 from by
      have h1 := S1.out
      have h2 := S2.out
      have h3 := S3.out
      have h4 := S4.out
      have h5 := S5.out
      exact ((B1.out.trans (B3.out.mono (by omega))).trans (B5.out.mono (by omega))).trans (t6.below (by omega) (fun k hk e => by
        rcases e with e | e
        · omega
        · have := (BL2.out _ e).1; have := HLO1.out; omega)))
    have r0 := R6.out.cell 0
    have r1 := R6.out.cell 1
    have r2 := R6.out.cell 2
    have r3 := R6.out.cell 3
    have r4 := R6.out.cell 4
    have r5 := R6.out.cell 5
    have r6 := R6.out.cell 6
    have rf := R6.out.free
    simp at r0 r1 r2 r3 r4 r5 r6
    obtain ⟨r2', rfl, hr2⟩ := hsays
    have HR2 := Lib.hid hr2
    clear t6 hcan hr2
    cases r2' with
    | false =>
      have NC := Lib.hid (fun h => absurd (HR2.out.2 h) (by simp) : ¬ CanAll b0 l)
      have x0 := X6.out.cell 0
      have x1 := X6.out.cell 1
      have x2 := X6.out.cell 2
      have x3 := X6.out.cell 3
      have x4 := X6.out.cell 4
      have x5 := X6.out.cell 5
      have x6 := X6.out.cell 6
      simp at x0 x1 x2 x3 x4 x5 x6
      have Z7 := Lib.hid (set7 R6.out (.slice BLa.A BLa.n BLa.c) (.int .i64 b0.head) (.slice BLa.Ap BLa.np BLa.cp) (.int .i64 b0.phase) (.slice BLa.Ag BLa.ng BLa.cg) (.slice BLa.Ab BLa.nb BLa.cb) (.int .i64 b0.cursor))
      go_wp2
      refine bodyPost_ret (v := .tuple #[.agg #[.slice BLa.A BLa.n BLa.c, .int .i64 b0.head, .slice BLa.Ap BLa.np BLa.cp, .int .i64 b0.phase, .slice BLa.Ag BLa.ng BLa.cg, .slice BLa.Ab BLa.nb BLa.cb, .int .i64 b0.cursor], .bool false]) (results_box2 Tryz.results21 _ _ (w.heap.size + 1) _ _ _ _ rfl rfl Z7.out.1 Tryz.underlying30 rfl (by kernel_rfl)) rfl ?_
      have h1 := S1.out
      have h2 := S2.out
      have h3 := S3.out
      have h4 := S4.out
      have h5 := S5.out
      have h6 := S6.out
      exact ⟨BLa, b0, false, rfl, .inr (.inl ⟨GD.out, NC.out, rfl, rfl⟩), (K6.out.touch Z7.out.2 (fun g h1' h2' e => by omega)).base (by omega), BW.out.trans (Z7.out.2.below (by omega) (fun k hk e => by omega))⟩
    | true =>
      have hcan := HR2.out.1 (by trivial)
      obtain ⟨L6, ps6, ob6⟩ := CAN.out hcan
      have O6 := Lib.hid ob6
      have CA := Lib.hid hcan
      clear hcan ob6 r0 r1 r2 r3 r4 r5 r6 rf
      obtain ⟨yb, hyb⟩ : ∃ yb, l.foldl changeOne b0 = yb := ⟨_, rfl⟩
      have YB := Lib.hid hyb
      rw [hyb] at O6
      clear hyb
      go_wp2_with fail
      refine (closed_any w2.heap.size lo L6 ps6 yb w6 O6.out.inn).mono ?_
      rintro e w7 ⟨BLb, rfl, ok7, b7⟩
      have K7 := Lib.hid ok7
      have B7 := Lib.hid b7
      have S7 := Lib.hid b7.size
      have R7 := Lib.hid (R6.out.below b7 (by have := S1.out; have := S2.out; have := S3.out; have := S4.out; have := S5.out; have := S6.out; omega))
      clear ok7 b7
      have r0 := R7.out.cell 0
      have r1 := R7.out.cell 1
      have r2 := R7.out.cell 2
      have r3 := R7.out.cell 3
      have r4 := R7.out.cell 4
      have r5 := R7.out.cell 5
      have r6 := R7.out.cell 6
      have rf := R7.out.free
      simp at r0 r1 r2 r3 r4 r5 r6
      unfold BLay.v
      have Z7 := Lib.hid (set7 R7.out (.slice BLb.A BLb.n BLb.c) (.int .i64 yb.head) (.slice BLb.Ap BLb.np BLb.cp) (.int .i64 yb.phase) (.slice BLb.Ag BLb.ng BLb.cg) (.slice BLb.Ab BLb.nb BLb.cb) (.int .i64 yb.cursor))
      go_wp2
      refine bodyPost_ret (v := .tuple #[.agg #[.slice BLb.A BLb.n BLb.c, .int .i64 yb.head, .slice BLb.Ap BLb.np BLb.cp, .int .i64 yb.phase, .slice BLb.Ag BLb.ng BLb.cg, .slice BLb.Ab BLb.nb BLb.cb, .int .i64 yb.cursor], .bool true]) (results_box2 Tryz.results21 _ _ (w.heap.size + 1) _ _ _ _ rfl rfl Z7.out.1 Tryz.underlying30 rfl (by kernel_rfl)) rfl ?_
      have h1 := S1.out
      have h2 := S2.out
      have h3 := S3.out
      have h4 := S4.out
      have h5 := S5.out
      have h6 := S6.out
      have h7 := S7.out
      exact ⟨BLb, yb, true, rfl, .inl ⟨GD.out, CA.out.1, CA.out.2.1, CA.out.2.2, YB.out.symm, rfl⟩, (K7.out.touch Z7.out.2 (fun g h1' h2' e => by omega)).base (by omega), (BW.out.trans (B7.out.mono (by omega))).trans (Z7.out.2.below (by omega) (fun k hk e => by omega))⟩
end Go.Proofs.YtigdcmfmaehjfaaGreat
