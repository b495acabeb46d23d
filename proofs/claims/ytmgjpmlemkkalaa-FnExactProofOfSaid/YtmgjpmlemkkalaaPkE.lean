/- Several texts in one, in build order: Below, Shape, StepAt, RowL, Srch, InsI, InsN, Sl, SlAt, SlPut, ReadM. -/
import Derived.Test.YtmgjpmlemkkalaaPkD
import Derived.Shelf.Spec.SlicesInsertGrow
import Derived.StillTailTactics
import Derived.Deep.RegionHeld3
-- Below: The program's ways down from a leaf, a stem, a fork: for all of them and all rests of a path.
namespace Go.Proofs.Ytmgjpmlemkkalaa
set_option maxRecDepth 20000
set_option linter.unusedVariables false
set_option linter.unusedSimpArgs false
open Go.RowKit

theorem leafBelow_any (Ap : Option Addr) (np cp : Nat) (val : ByteArray) (A : Option Addr) (n c : Nat) (w : World) :
    Calls Try.prog 131 #[.agg #[.slice Ap np cp, .string val], .slice A n c] w fun e w' => e = .returned (.tuple #[.int .i64 0, .slice none 0 0, .bool false]) ∧ Below w.heap.size w w' := by
  go_enter Try.func131, Try.ntmps131
  go_wp2
  go_ret3
  exact ⟨rfl, (Below.refl _ _).alloc (Nat.le_refl _) _⟩

theorem stemBelow_any (Ap : Option Addr) (np cp : Nat) (kid : Int) (path : List Int) (qb qo n c : Nat) (ps : List Int) (B B2 : Nat) (w : World) (hB : B ≤ w.heap.size) (hB2 : B2 ≤ w.heap.size) (hnp : np ≤ 1048576) (hn : n ≤ 1048576) (hc : n ≤ c) (hp : Ints w B Ap np path) (hq : Ints w B2 (some ⟨qb, qo, none⟩) n ps) :
    Calls Try.prog 132 #[.agg #[.slice Ap np cp, .int .i64 kid], .slice (some ⟨qb, qo, none⟩) n c] w fun e w' => ∃ r A' n' c' b, e = .returned (.tuple #[.int .i64 r, .slice A' n' c', .bool b]) ∧
      ((b = false ∧ com path ps < np) ∨ (b = true ∧ com path ps = np ∧ np ≤ n ∧ r = kid ∧ n' = n - np ∧ n' ≤ c' ∧ ∃ qo', A' = some ⟨qb, qo', none⟩ ∧ Ints w' B2 A' n' (ps.drop np))) ∧ Below w.heap.size w w' := by
  have HP := Lib.hid (hp.more hB)
  have HQ := Lib.hid (hq.more hB2)
  have HQ0 := Lib.hid hq
  have hlp := hp.1
  have hlq := hq.1
  clear hp hq
  obtain ⟨w1, hw1⟩ : ∃ w1, w.alloc (.cells #[.slice Ap np cp, .int .i64 kid] 142) = w1 := ⟨_, rfl⟩
  have b1 : Below w.heap.size w w1 := hw1 ▸ (Below.refl _ _).alloc (Nat.le_refl _) _
  have x1 : Box w1 w.heap.size 142 #[.slice Ap np cp, .int .i64 kid] := hw1 ▸ heap_alloc_new _ _
  have X1 := Lib.hid x1
  have B1 := Lib.hid b1
  have q0 := x1.cell 0
  have q1 := x1.cell 1
  simp at q0 q1
  clear x1 b1
  go_enter Try.func132, Try.ntmps132
  go_wp2_with fail
  refine (common_any Ap (some ⟨qb, qo, none⟩) np n cp c path ps w.heap.size w.heap.size w1 (by omega) (by omega) (HP.out.below B1.out) (HQ.out.below B1.out)).mono ?_
  rintro e w' ⟨rfl, q, rfl⟩
  obtain ⟨hle1, hle2⟩ := com_le path ps
  obtain ⟨cm, hcm⟩ : ∃ cm, com path ps = cm := ⟨_, rfl⟩
  rw [hcm] at hle1 hle2 ⊢
  by_cases hA : cm < np
  · have hd1 : decide ((cm : Int) < (np : Int)) = true := decide_eq_true (by omega)
    go_wp2
    go_ret3
    exact ⟨_, _, _, _, _, rfl, .inl ⟨rfl, by omega⟩, below_drewN B1.out q⟩
  · have hd1 : decide ((cm : Int) < (np : Int)) = false := decide_eq_false (by omega)
    have hnn : np ≤ n := by omega
    obtain ⟨qo', hof, hofk⟩ : ∃ qo', (if c = np then (some ⟨qb, qo, none⟩ : Option Addr) else some ⟨qb, qo + np, none⟩) = some ⟨qb, qo', none⟩ ∧ (np < n → qo' = qo + np) := by
      by_cases h : c = np
      · exact ⟨qo, if_pos h, fun h2 => by omega⟩
      · exact ⟨qo + np, if_neg h, fun _ => rfl⟩
    go_wp2
    go_quiet (fail)
    go_wp2
    go_ret3
    exact ⟨_, _, _, _, _, rfl, .inr ⟨rfl, by omega, hnn, rfl, rfl, by omega, qo', rfl, Ints.drops (HQ0.out.below ((below_drewN (below_drewN B1.out q) _).mono hB2)) np hnn qo' hofk⟩, below_drewN (below_drewN B1.out q) _⟩

theorem forkBelow_any (Ak : Option Addr) (nk ck : Nat) (val : ByteArray) (kids : List (Int × Int)) (qb qo n c : Nat) (ps : List Int) (B B2 : Nat) (w : World) (hB : B ≤ w.heap.size) (hB2 : B2 ≤ w.heap.size) (hnk : nk ≤ 1048576) (hn : n ≤ 1048576) (hc : n ≤ c) (hk : Kids w B Ak nk kids) (hq : Ints w B2 (some ⟨qb, qo, none⟩) n ps) :
    Calls Try.prog 134 #[.agg #[.slice Ak nk ck, .string val], .slice (some ⟨qb, qo, none⟩) n c] w fun e w' => ∃ r A' n' c' b, e = .returned (.tuple #[.int .i64 r, .slice A' n' c', .bool b]) ∧
      ((b = false ∧ (ps = [] ∨ ∀ j, j < nk → (kids[j]?.getD (0, 0)).1 ≠ ps[0]?.getD 0)) ∨ (b = true ∧ 0 < n ∧ (∃ k, k < nk ∧ r = (kids[k]?.getD (0, 0)).2 ∧ kidAt kids (ps[0]?.getD 0) = r) ∧ n' = n - 1 ∧ n' ≤ c' ∧ ∃ qo', A' = some ⟨qb, qo', none⟩ ∧ Ints w' B2 A' n' (ps.drop 1))) ∧ Below w.heap.size w w' := by
  have HK := Lib.hid (hk.more hB)
  have HQ := Lib.hid (hq.more hB2)
  have HQ0 := Lib.hid hq
  have hlk := hk.1
  have hlq := hq.1
  clear hk hq
  obtain ⟨w1, hw1⟩ : ∃ w1, w.alloc (.cells #[.slice Ak nk ck, .string val] 144) = w1 := ⟨_, rfl⟩
  have b1 : Below w.heap.size w w1 := hw1 ▸ (Below.refl _ _).alloc (Nat.le_refl _) _
  have x1 : Box w1 w.heap.size 144 #[.slice Ak nk ck, .string val] := hw1 ▸ heap_alloc_new _ _
  have X1 := Lib.hid x1
  have B1 := Lib.hid b1
  have q0 := x1.cell 0
  simp at q0
  clear x1 b1
  go_enter Try.func134, Try.ntmps134
  by_cases hz : n = 0
  · have hps : ps = [] := List.eq_nil_of_length_eq_zero (by omega)
    have hd : decide ((n : Int) = 0) = true := decide_eq_true (by omega)
    subst hz
    go_wp2
    go_ret3
    exact ⟨_, _, _, _, _, rfl, .inl ⟨rfl, .inl hps⟩, B1.out⟩
  · have hd : decide ((n : Int) = 0) = false := decide_eq_false (by omega)
    have hpos : 0 < n := by omega
    obtain ⟨a, ha⟩ : ∃ a, ps[0]?.getD 0 = a := ⟨_, rfl⟩
    obtain ⟨qo', hof, hofk⟩ : ∃ qo', (if c = 1 then (some ⟨qb, qo, none⟩ : Option Addr) else some ⟨qb, qo + 1, none⟩) = some ⟨qb, qo', none⟩ ∧ (1 < n → qo' = qo + 1) := by
      by_cases h : c = 1
      · exact ⟨qo, if_pos h, fun h2 => by omega⟩
      · exact ⟨qo + 1, if_neg h, fun _ => rfl⟩
    rw [ha]
    go_wp2
    go_loopw [15] (fun i wr => ∃ k : Nat, k ≤ nk ∧ i = .int .i64 k ∧ (∀ j, j < k → (kids[j]?.getD (0, 0)).1 ≠ a) ∧ Below w.heap.size w wr) (fun i _ => nk - (intOf i).toNat)
    case atStart => exact ⟨0, Nat.zero_le _, rfl, fun j hj => absurd hj (by omega), B1.out⟩
    case round =>
      obtain ⟨k, hkn, rfl, hno, hbel⟩ := hrel
      have BR := Lib.hid hbel
      have hs0 := hbel.size
      have NO := Lib.hid hno
      clear hbel hno q0
      by_cases hlt : k < nk
      · obtain ⟨b, off, rfl, hbB, h0, h1⟩ := (HK.out.below BR.out).at_ hlt
        obtain ⟨b', o', e', _, p0⟩ := (HQ.out.below BR.out).at_ (k := 0) hpos
        cases e'
        rw [Nat.add_zero, ha] at p0
        obtain ⟨x, hx⟩ : ∃ x, kids[k]?.getD (0, 0) = x := ⟨_, rfl⟩
        rw [hx] at h0 h1
        have HX := Lib.hid hx
        obtain ⟨w2, hw2⟩ : ∃ w2, wr.alloc (.cells #[.int .i64 x.1, .int .i64 x.2] 96) = w2 := ⟨_, rfl⟩
        have x2 : Box w2 wr.heap.size 96 #[.int .i64 x.1, .int .i64 x.2] := hw2 ▸ heap_alloc_new _ _
        have b2 : Below wr.heap.size wr w2 := hw2 ▸ (Below.refl _ _).alloc (Nat.le_refl _) _
        have B2 := Lib.hid (BR.out.trans (b2.mono hs0))
        have y0 := x2.cell 0
        have y1 := x2.cell 1
        simp at y0 y1
        have p2 := (b2.cell (p := ⟨qb, qo, none⟩) (by simp; omega)).trans p0
        clear x2 b2 hx
        by_cases he : x.1 = a
        · have hb0 : (x.1 == a) = true := by simpa using he
          have hr : kidAt kids a = x.2 := by rw [kidAt_at kids a k (by omega) (by rw [HX.out]; exact he) NO.out, HX.out]
          have HR := Lib.hid hr
          clear hr he
          go_wp2
          go_quiet (fail)
          go_wp2
          go_quiet (fail)
          go_wp2
          go_ret3
          exact ⟨_, _, _, _, _, rfl, .inr ⟨rfl, hpos, ⟨k, hlt, by rw [HX.out], HR.out⟩, rfl, by omega, qo', rfl, Ints.drops (HQ0.out.below ((below_drewN (below_drewN B2.out _) _).mono hB2)) 1 (by omega) qo' hofk⟩, below_drewN (below_drewN B2.out _) _⟩
        · have hb0 : (x.1 == a) = false := by simpa using he
          go_wp2
          go_quiet (fail)
          go_wp2
          go_roundw
          case rel =>
            refine ⟨k + 1, by omega, by go_num, fun j hj => ?_, below_drewN B2.out _⟩
            rcases Nat.lt_or_ge j k with h | h
            · exact NO.out j h
            · rw [show j = k by omega, HX.out]; exact he
          case measure => simp [intOf]; omega
      · go_wp2
        go_ret3
        exact ⟨_, _, _, _, _, rfl, .inl ⟨rfl, .inr (fun j hj => NO.out j (by omega))⟩, BR.out⟩
end Go.Proofs.Ytmgjpmlemkkalaa

-- Shape: What the program takes a node for, and the value with which a way ends at it.
namespace Go.Proofs.Ytmgjpmlemkkalaa
set_option maxRecDepth 20000
set_option linter.unusedVariables false
set_option linter.unusedSimpArgs false
open Go.RowKit

theorem shapeLeaf_any (nd : MNode) (Ap Ak : Option Addr) (np cp nk ck : Nat) (w : World) (h1 : nd.kind = 1) :
    Calls Try.prog 76 #[.agg #[.int .i64 nd.kind, .slice Ap np cp, .slice Ak nk ck, .string nd.val]] w fun e w' => e = .returned (.iface 140 (.agg #[.slice Ap np cp, .string nd.val])) ∧ Below w.heap.size w w' := by
  obtain ⟨w1, hw1⟩ : ∃ w1, w.alloc (.cells #[.int .i64 nd.kind, .slice Ap np cp, .slice Ak nk ck, .string nd.val] 35) = w1 := ⟨_, rfl⟩
  have x1 : Box w1 w.heap.size _ _ := hw1 ▸ heap_alloc_new _ _
  have b1 : Below w.heap.size w w1 := hw1 ▸ (Below.refl _ _).alloc (Nat.le_refl _) _
  have q0 := x1.cell 0
  have q1 := x1.cell 1
  have q2 := x1.cell 2
  have q3 := x1.cell 3
  simp at q0 q1 q2 q3
  go_enter Try.func76, Try.ntmps76
  have hb : (nd.kind == 1) = true := by simp [h1]
  clear h1
  go_wp2
  go_ret
  exact ⟨rfl, b1⟩
theorem shapeStem_any (nd : MNode) (Ap Ak : Option Addr) (np cp nk ck : Nat) (kid : Int) (w : World) (h1 : ¬ nd.kind = 1) (h2 : nd.kind = 2) (hnk : 0 < nk) (hk : OwnK w 0 Ak nk ck nd.kids) (hkid : (nd.kids[0]?.getD (0, 0)).2 = kid) :
    Calls Try.prog 76 #[.agg #[.int .i64 nd.kind, .slice Ap np cp, .slice Ak nk ck, .string nd.val]] w fun e w' => e = .returned (.iface 142 (.agg #[.slice Ap np cp, .int .i64 kid])) ∧ Below w.heap.size w w' := by
  obtain ⟨w1, hw1⟩ : ∃ w1, w.alloc (.cells #[.int .i64 nd.kind, .slice Ap np cp, .slice Ak nk ck, .string nd.val] 35) = w1 := ⟨_, rfl⟩
  have x1 : Box w1 w.heap.size _ _ := hw1 ▸ heap_alloc_new _ _
  have b1 : Below w.heap.size w w1 := hw1 ▸ (Below.refl _ _).alloc (Nat.le_refl _) _
  have q0 := x1.cell 0
  have q1 := x1.cell 1
  have q2 := x1.cell 2
  have q3 := x1.cell 3
  simp at q0 q1 q2 q3
  go_enter Try.func76, Try.ntmps76
  have hb : (nd.kind == 1) = false := by simp [h1]
  have hb2 : (nd.kind == 2) = true := by simp [h2]
  obtain ⟨gk, rfl, _, hgk⟩ := hk.form hnk
  have hc := (hk.below b1).cell1 (k := 0) hnk
  simp only [Nat.zero_mul, Nat.zero_add] at hc
  rw [hkid] at hc
  clear h1 h2 hk hkid
  go_wp2
  go_quiet (fail)
  go_wp2
  go_ret
  exact ⟨rfl, below_drewN b1 _⟩
theorem shapeFork_any (nd : MNode) (Ap Ak : Option Addr) (np cp nk ck : Nat) (w : World) (h1 : ¬ nd.kind = 1) (h2 : ¬ nd.kind = 2) :
    Calls Try.prog 76 #[.agg #[.int .i64 nd.kind, .slice Ap np cp, .slice Ak nk ck, .string nd.val]] w fun e w' => e = .returned (.iface 144 (.agg #[.slice Ak nk ck, .string nd.val])) ∧ Below w.heap.size w w' := by
  obtain ⟨w1, hw1⟩ : ∃ w1, w.alloc (.cells #[.int .i64 nd.kind, .slice Ap np cp, .slice Ak nk ck, .string nd.val] 35) = w1 := ⟨_, rfl⟩
  have x1 : Box w1 w.heap.size _ _ := hw1 ▸ heap_alloc_new _ _
  have b1 : Below w.heap.size w w1 := hw1 ▸ (Below.refl _ _).alloc (Nat.le_refl _) _
  have q0 := x1.cell 0
  have q1 := x1.cell 1
  have q2 := x1.cell 2
  have q3 := x1.cell 3
  simp at q0 q1 q2 q3
  go_enter Try.func76, Try.ntmps76
  have hb : (nd.kind == 1) = false := by simp [h1]
  have hb2 : (nd.kind == 2) = false := by simp [h2]
  clear h1 h2
  go_wp2
  go_ret
  exact ⟨rfl, b1⟩

/-- two rows of numbers, alike as far as they are looked at. -/
theorem slicesEqual_any (A A' : Option Addr) (n n' c c' : Nat) (xs ys : List Int) (B B' : Nat) (w : World) (hn : n ≤ 1048576) (hn' : n' ≤ 1048576) (hx : Ints w B A n xs) (hy : Ints w B' A' n' ys) :
    Calls Try.prog 96 #[.slice A n c, .slice A' n' c'] w fun e w' => e = .returned (.bool (decide (xs = ys))) ∧ ∃ m, w' = w.drewN m := by
  have HX := Lib.hid hx
  have HY := Lib.hid hy
  have hlx := hx.1
  have hly := hy.1
  clear hx hy
  go_enter Try.func96, Try.ntmps96
  by_cases hl : n = n'
  case neg =>
    have hd : (((n : Int)) != ((n' : Int))) = true := by simp; omega
    have hno : decide (xs = ys) = false := decide_eq_false (fun e => by subst e; omega)
    rw [hno]
    go_wp2
    go_ret
    exact ⟨rfl, 0, rfl⟩
  subst hl
  have hd : (((n : Int)) != ((n : Int))) = false := by simp
  obtain ⟨R, hR⟩ : ∃ R, decide (xs = ys) = R := ⟨_, rfl⟩
  rw [hR]
  have RR := Lib.hid hR
  clear hR
  go_wp2
  go_loopw [13] (fun i wr => ∃ k q : Nat, k ≤ n ∧ i = .int .i64 k ∧ (∀ j, j < k → xs[j]?.getD 0 = ys[j]?.getD 0) ∧ wr = w.drewN q) (fun i _ => n - (intOf i).toNat)
  case atStart => exact ⟨0, 0, Nat.zero_le _, rfl, fun j hj => absurd hj (by omega), rfl⟩
  case round =>
    obtain ⟨k, q, hk, rfl, hal, rfl⟩ := hrel
    by_cases hlt : k < n
    · obtain ⟨b, off, rfl, hbB, hc⟩ := HX.out.at_ (k := k) (by omega)
      obtain ⟨b', off', rfl, hbB', hc'⟩ := HY.out.at_ (k := k) (by omega)
      have AL := Lib.hid hal
      clear hal
      by_cases hq : xs[k]?.getD 0 = ys[k]?.getD 0
      · have hr : ((xs[k]?.getD 0) != (ys[k]?.getD 0)) = false := by simp [hq]
        have HQ := Lib.hid hq
        clear hq
        generalize xs[k]?.getD 0 = x at hc hr
        generalize ys[k]?.getD 0 = y at hc' hr
        go_wp2
        go_quiet (fail)
        go_wp2
        go_roundw
        case rel => exact ⟨k + 1, _, by omega, by go_num, fun j hj => by rcases Nat.lt_or_ge j k with h | h; exact AL.out j h; rw [show j = k by omega]; exact HQ.out, rfl⟩
        case measure => simp [intOf]; omega
      · have hr : ((xs[k]?.getD 0) != (ys[k]?.getD 0)) = true := by simpa using hq
        have hno : R = false := by rw [← RR.out]; exact decide_eq_false (fun e => hq (by rw [e]))
        subst hno
        clear RR hq
        generalize xs[k]?.getD 0 = x at hc hr
        generalize ys[k]?.getD 0 = y at hc' hr
        go_wp2
        go_quiet (fail)
        go_wp2
        go_ret
        exact ⟨rfl, _, World.drewN_drewN _ _ _⟩
    · have hyes : R = true := by
        rw [← RR.out]
        refine decide_eq_true (List.ext_getElem (by omega) fun i h1 h2 => ?_)
        have := hal i (by omega)
        rw [List.getElem?_eq_getElem h1, List.getElem?_eq_getElem h2] at this
        exact this
      subst hyes
      clear RR hal
      go_wp2
      go_ret
      exact ⟨rfl, _, rfl⟩

theorem as_leaf_leaf (xs : Value) (y : Value) (W : World) : (Instr.typeAssert (.iface 140 (.agg #[xs, y])) 110 140 true).run Try.prog W = .ok (.tuple #[.agg #[xs, y], .bool true]) W := by kernel_rfl
theorem as_stem_leaf (xs : Value) (y : Value) (W : World) : (Instr.typeAssert (.iface 142 (.agg #[xs, y])) 110 140 true).run Try.prog W = .ok (.tuple #[.agg #[.slice none 0 0, .string noStr], .bool false]) W := by kernel_rfl
theorem as_stem_fork (xs : Value) (y : Value) (W : World) : (Instr.typeAssert (.iface 142 (.agg #[xs, y])) 110 144 true).run Try.prog W = .ok (.tuple #[.agg #[.slice none 0 0, .string noStr], .bool false]) W := by kernel_rfl
theorem as_fork_leaf (xs : Value) (y : Value) (W : World) : (Instr.typeAssert (.iface 144 (.agg #[xs, y])) 110 140 true).run Try.prog W = .ok (.tuple #[.agg #[.slice none 0 0, .string noStr], .bool false]) W := by kernel_rfl
theorem as_fork_fork (xs : Value) (y : Value) (W : World) : (Instr.typeAssert (.iface 144 (.agg #[xs, y])) 110 144 true).run Try.prog W = .ok (.tuple #[.agg #[xs, y], .bool true]) W := by kernel_rfl
/-- the value with which a way ends at a leaf. -/
theorem valueLeaf_any (Ap : Option Addr) (np cp : Nat) (val : ByteArray) (path : List Int) (A : Option Addr) (n c : Nat) (ps : List Int) (B : Nat) (w : World) (hB : B ≤ w.heap.size) (hnp : np ≤ 1048576) (hn : n ≤ 1048576) (hp : Ints w B Ap np path) (hq : Ints w B A n ps) :
    Calls Try.prog 77 #[.iface 140 (.agg #[.slice Ap np cp, .string val]), .slice A n c] w fun e w' => e = .returned (.string (if path = ps then val else noStr)) ∧ Below w.heap.size w w' := by
  have HP := Lib.hid (hp.more hB)
  have HQ := Lib.hid (hq.more hB)
  clear hp hq
  have f1 := fun x y W => as_leaf_leaf x y W
  obtain ⟨V, hV⟩ : ∃ V, (if path = ps then val else noStr) = V := ⟨_, rfl⟩
  rw [hV]
  obtain ⟨w1, hw1⟩ : ∃ w1, w.alloc (.cells #[.slice Ap np cp, .string val] 140) = w1 := ⟨_, rfl⟩
  have x1 : Box w1 w.heap.size _ _ := hw1 ▸ heap_alloc_new _ _
  have b1 : Below w.heap.size w w1 := hw1 ▸ (Below.refl _ _).alloc (Nat.le_refl _) _
  have q0 := x1.cell 0
  have q1 := x1.cell 1
  simp at q0 q1
  go_enter Try.func77, Try.ntmps77
  go_wp2_with fail
  refine (slicesEqual_any Ap A np n cp c path ps w.heap.size w.heap.size w1 hnp hn (HP.out.below b1) (HQ.out.below b1)).mono ?_
  rintro e w' ⟨rfl, q, rfl⟩
  by_cases he : path = ps
  · have hd : decide (path = ps) = true := decide_eq_true he
    rw [if_pos he] at hV
    subst hV
    rw [hd]
    go_wp2
    go_ret
    exact ⟨rfl, below_drewN b1 q⟩
  · have hd : decide (path = ps) = false := decide_eq_false he
    rw [if_neg he] at hV
    subst hV
    rw [hd]
    go_wp2
    go_ret
    exact ⟨rfl, below_drewN b1 q⟩
theorem valueStem_any (Ap : Option Addr) (np cp : Nat) (kid : Int) (A : Option Addr) (n c : Nat) (w : World) :
    Calls Try.prog 77 #[.iface 142 (.agg #[.slice Ap np cp, .int .i64 kid]), .slice A n c] w fun e w' => e = .returned (.string noStr) ∧ Below w.heap.size w w' := by
  have f1 := fun x y W => as_stem_leaf x y W
  have f2 := fun x y W => as_stem_fork x y W
  unfold noStr at f1 f2
  go_enter Try.func77, Try.ntmps77
  go_wp2
  go_ret
  exact ⟨rfl, Below.refl _ _⟩
theorem valueFork_any (Ak : Option Addr) (nk ck : Nat) (val : ByteArray) (A : Option Addr) (n c : Nat) (w : World) (hn : n ≤ 1048576) :
    Calls Try.prog 77 #[.iface 144 (.agg #[.slice Ak nk ck, .string val]), .slice A n c] w fun e w' => e = .returned (.string (if n = 0 then val else noStr)) ∧ Below w.heap.size w w' := by
  have f1 := fun x y W => as_fork_leaf x y W
  have f2 := fun x y W => as_fork_fork x y W
  unfold noStr at f1
  by_cases hz : n = 0
  · subst hz
    go_enter Try.func77, Try.ntmps77
    go_wp2
    go_ret
    exact ⟨rfl, (Below.refl _ _).alloc (Nat.le_refl _) _⟩
  · have hd : decide ((n : Int) = 0) = false := decide_eq_false (by omega)
    rw [if_neg hz]
    go_enter Try.func77, Try.ntmps77
    go_wp2
    go_ret
    exact ⟨rfl, (Below.refl _ _).alloc (Nat.le_refl _) _⟩
end Go.Proofs.Ytmgjpmlemkkalaa

-- StepAt: Plain facts on what a node on the way says, by its kind. No statement of the program is proved here.
namespace Go.Proofs.Ytmgjpmlemkkalaa
set_option maxRecDepth 20000
set_option linter.unusedVariables false
set_option linter.unusedSimpArgs false
open Go.RowKit

theorem com_whole (a b : List Int) (h1 : com a b = a.length) (h2 : com a b = b.length) : a = b := by
  induction a generalizing b with
  | nil => cases b with
    | nil => rfl
    | cons y s => simp [com] at h2
  | cons x r ih =>
    cases b with
    | nil => simp [com] at h1
    | cons y s =>
      simp only [com] at h1 h2
      split at h1
      · rename_i e
        rw [if_pos e] at h2
        subst e
        simp at h1 h2
        rw [ih s (by omega) (by omega)]
      · simp at h1
theorem stepAt_leaf (nd : MNode) (ps : List Int) (h : nd.kind = 1) : stepAt nd ps = .inl (if nd.path = ps then (nd.val, 0) else (noStr, 1)) := by
  unfold stepAt
  obtain ⟨h1, h2⟩ := com_le nd.path ps
  by_cases e : nd.path = ps
  · rw [if_pos e, if_neg, if_pos h]
    rw [← e, com_self]
    rintro (h3 | ⟨_, h3⟩) <;> omega
  · rw [if_neg e, if_pos]
    by_cases h3 : com nd.path ps < nd.path.length
    · exact .inl h3
    · refine .inr ⟨h, ?_⟩
      rcases Nat.lt_or_ge (com nd.path ps) ps.length with h4 | h4
      · exact h4
      · exact absurd (com_whole nd.path ps (by omega) (by omega)) e
theorem stepAt_stem_no (nd : MNode) (ps : List Int) (h2 : com nd.path ps < nd.path.length) : stepAt nd ps = .inl (noStr, 1) := by
  unfold stepAt
  rw [if_pos (.inl h2)]
theorem stepAt_stem (nd : MNode) (ps : List Int) (h : nd.kind = 2) (h2 : com nd.path ps = nd.path.length) : stepAt nd ps = .inr ((nd.kids[0]?.getD (0, 0)).2, ps.drop nd.path.length) := by
  unfold stepAt
  rw [if_neg, if_neg (by omega), if_pos h, h2]
  rintro (h3 | ⟨h3, _⟩) <;> omega
theorem stepAt_fork (nd : MNode) (ps : List Int) (h1 : ¬ nd.kind = 1) (h2 : ¬ nd.kind = 2) (hp : nd.path = []) : stepAt nd ps = match ps with
    | [] => if hasVal nd then .inl (nd.val, 0) else .inl (noStr, 1)
    | a :: r => .inr (kidAt nd.kids a, r) := by
  have hc : com nd.path ps = 0 := by rw [hp]; simp [com]
  have hn : ¬ (com nd.path ps < nd.path.length ∨ (nd.kind = 1 ∧ com nd.path ps < ps.length)) := by
    rintro (h3 | ⟨h3, _⟩)
    · rw [hc, hp] at h3; simp at h3
    · exact h1 h3
  unfold stepAt
  rw [if_neg hn, if_neg h1, if_neg h2, hc, List.drop_zero]
  all_goals (cases ps <;> rfl)
theorem leaf_val (nd : MNode) (h : kindOk nd = true) (h1 : nd.kind = 1) : hasVal nd = true := by
  unfold kindOk at h
  rw [if_pos h1] at h
  simp only [Bool.and_eq_true] at h
  exact h.2
theorem stem_parts (nd : MNode) (h : kindOk nd = true) (h1 : ¬ nd.kind = 1) (h2 : nd.kind = 2) : 0 < nd.path.length ∧ nd.kids.length = 1 := by
  unfold kindOk at h
  rw [if_neg h1, if_pos h2] at h
  simp only [Bool.and_eq_true, decide_eq_true_eq] at h
  exact ⟨h.1.1.1, h.1.2⟩
theorem fork_path (nd : MNode) (h : kindOk nd = true) (h1 : ¬ nd.kind = 1) (h2 : ¬ nd.kind = 2) : nd.path = [] := by
  unfold kindOk at h
  rw [if_neg h1, if_neg h2] at h
  split at h
  · simp only [Bool.and_eq_true, decide_eq_true_eq] at h
    exact List.eq_nil_of_length_eq_zero h.1
  · cases h
theorem kid_pos (nd : MNode) (h : kidsOk nd.kids = true) (k : Nat) (hk : k < nd.kids.length) : (nd.kids[k]?.getD (0, 0)).2 ≠ 0 := by
  have := (kidsOk_at nd.kids h k hk).2.1
  omega
theorem hasVal_ne (nd : MNode) (h : hasVal nd = true) : nd.val ≠ noStr := by
  intro e
  unfold hasVal at h
  rw [e, show noStr.toList = [] from ByteArray.toList_mk []] at h
  simp at h
theorem hasVal_eq (nd : MNode) (h : hasVal nd = false) : nd.val = noStr := by
  unfold hasVal at h
  exact empty_str _ (by simpa using h)
theorem leaf_no (nd : MNode) (ps : List Int) (h1 : nd.kind = 1) (hk : kindOk nd = true) (hV : (if nd.path = ps then nd.val else noStr) = noStr) : stepAt nd ps = .inl (noStr, 1) := by
  rw [stepAt_leaf nd ps h1]
  by_cases e : nd.path = ps
  · rw [if_pos e] at hV
    exact absurd hV (hasVal_ne nd (leaf_val nd hk h1))
  · rw [if_neg e]
theorem leaf_yes (nd : MNode) (ps : List Int) (V : ByteArray) (h1 : nd.kind = 1) (hV : (if nd.path = ps then nd.val else noStr) = V) (he : ¬ V = noStr) : stepAt nd ps = .inl (V, 0) := by
  rw [stepAt_leaf nd ps h1]
  by_cases e : nd.path = ps
  · rw [if_pos e] at hV
    rw [if_pos e, hV]
  · rw [if_neg e] at hV
    exact absurd hV.symm he
theorem fork_no (nd : MNode) (h1 : ¬ nd.kind = 1) (h2 : ¬ nd.kind = 2) (hk : kindOk nd = true) (hV : nd.val = noStr) : stepAt nd [] = .inl (noStr, 1) := by
  rw [stepAt_fork nd [] h1 h2 (fork_path nd hk h1 h2)]
  have h : ¬ hasVal nd = true := fun h => hasVal_ne nd h hV
  simp [h]
theorem fork_yes (nd : MNode) (h1 : ¬ nd.kind = 1) (h2 : ¬ nd.kind = 2) (hk : kindOk nd = true) (hV : ¬ nd.val = noStr) : stepAt nd [] = .inl (nd.val, 0) := by
  rw [stepAt_fork nd [] h1 h2 (fork_path nd hk h1 h2)]
  have h : hasVal nd = true := by
    cases h : hasVal nd with
    | true => rfl
    | false => exact absurd (hasVal_eq nd h) hV
  simp [h]
theorem fork_on (nd : MNode) (ps : List Int) (h1 : ¬ nd.kind = 1) (h2 : ¬ nd.kind = 2) (hk : kindOk nd = true) (hp : 0 < ps.length) : stepAt nd ps = .inr (kidAt nd.kids (ps[0]?.getD 0), ps.drop 1) := by
  rw [stepAt_fork nd ps h1 h2 (fork_path nd hk h1 h2)]
  cases ps with
  | nil => simp at hp
  | cons a r => rfl
theorem str_ne (V : ByteArray) (he : ¬ V = noStr) : V.toList.isEmpty = false := by
  cases h : V.toList.isEmpty with
  | false => rfl
  | true => exact absurd (empty_str V (by simpa using h)) he
end Go.Proofs.Ytmgjpmlemkkalaa

-- RowL: Plain laws of rows of cells: what copying into one makes; rows put together. No statement of the program is proved here.
namespace Go.Proofs.Ytmgjpmlemkkalaa
set_option maxRecDepth 20000
set_option linter.unusedVariables false
set_option linter.unusedSimpArgs false
open Go.RowKit

/-- copy into a row, at elements of any size. -/
theorem run_copy_wide {P : Program} (w : World) (dT sT ty elem : TypeId) (size g o dLen dCap m : Nat) (a : Addr) (sLen sCap : Nat) (cur : Array Value) (t : TypeId) (cs : List Value)
    (hu : P.underlying dT = some (.slice elem)) (hs : (P.info? elem).map (·.size) = some size)
    (hg : w.heap[g]? = some (.cells cur t (0, 0))) (hm : m = Nat.min sLen dLen) (hn : cs.length = m * size)
    (hsrc : ∀ j v, cs[j]? = some v → w.cell? (a.add j) = some v) (hfit : o + cs.length ≤ cur.size) (h1 : ∀ v ∈ cs, v.oneCell' = true) :
    (Builtin.copy_ #[dT, sT] ty #[.slice (some ⟨g, o, none⟩) dLen dCap, .slice (some a) sLen sCap]).run P w =
      .ok (goInt m) (w.setRow g (cur.toList.take o ++ cs ++ cur.toList.drop (o + cs.length)).toArray) := by
  have hl := run_loadCells_list (P := P) w a cs hsrc
  have hst := run_storeCells_at P g o t cs 0 cur w hg (by simpa using hfit) h1
  cases hq : P.info? elem with
  | none => simp [hq] at hs
  | some i =>
    have hi : i.size = size := by simpa [hq] using hs
    simp [Builtin.copy_, run_underlying hu, Builtin.lenOf, Builtin.firstCells, sizeOf, typeInfo, hq, hi, ← hm, ← hn, hl, hst]

/-- a row with others put in at a place. -/
def putAt (xs us : List Value) (k : Nat) : List Value := xs.take k ++ us ++ xs.drop k
theorem putAt_len (xs us : List Value) (k : Nat) : (putAt xs us k).length = xs.length + us.length := by
  unfold putAt
  simp
  omega
theorem setRow_drew (w : World) (g : Nat) (cs : Array Value) : (w.setRow g cs).drew = w.drew.setRow g cs := rfl
theorem heap_setRow_other (w : World) (g k : Nat) (cs : Array Value) (h : k ≠ g) : (w.setRow g cs).heap[k]? = w.heap[k]? := setRow_other w g k cs h
theorem setRow_twice (w : World) (g : Nat) (a b : Array Value) : (w.setRow g a).setRow g b = w.setRow g b := setRow_setRow w g a b
/-- what two copies make of a row: first the tail moves up, then the new ones come in. -/
theorem shift_row (cur us xs : List Value) (k m : Nat) (hx : cur.take xs.length = xs) (hk : k ≤ xs.length) (hu : us.length = m) (hc : xs.length + m ≤ cur.length) :
    let c1 := cur.take (k + m) ++ xs.drop k ++ cur.drop (k + m + (xs.drop k).length)
    (c1.take k ++ us ++ c1.drop (k + us.length)).take (xs.length + m) = putAt xs us k ∧ (c1.take k ++ us ++ c1.drop (k + us.length)).length = cur.length := by
  intro c1
  have hl1 : c1.length = cur.length := by simp [c1]; omega
  have hxl : xs.length ≤ cur.length := by omega
  have hat : ∀ j, j < xs.length → cur[j]? = xs[j]? := fun j hj => by have := congrArg (·[j]?) hx; simp only [List.getElem?_take, if_pos hj] at this; exact this
  refine ⟨?_, by simp [hl1]; omega⟩
  apply List.ext_getElem?
  intro j
  unfold putAt
  by_cases hj : j < xs.length + m
  · rw [List.getElem?_take, if_pos hj]
    have hkc : min k cur.length = k := by omega
    by_cases h1 : j < k
    · have e1 : (c1.take k ++ us ++ c1.drop (k + us.length))[j]? = xs[j]? := by
        rw [List.append_assoc, List.getElem?_append_left (by simp [hl1]; omega), List.getElem?_take, if_pos h1]
        simp only [c1]
        rw [List.append_assoc, List.getElem?_append_left (by simp; omega), List.getElem?_take, if_pos (by omega)]
        exact hat j (by omega)
      rw [e1, List.append_assoc, List.getElem?_append_left (by simp; omega), List.getElem?_take, if_pos h1]
    · by_cases h2 : j < k + m
      · have e1 : (c1.take k ++ us ++ c1.drop (k + us.length))[j]? = us[j - k]? := by
          rw [List.append_assoc, List.getElem?_append_right (by simp [hl1]; omega), List.getElem?_append_left (by simp [hl1]; omega)]
          congr 1
          simp [hl1]; omega
        rw [e1, List.append_assoc, List.getElem?_append_right (by simp; omega), List.getElem?_append_left (by simp; omega)]
        congr 1
        simp; omega
      · have e1 : (c1.take k ++ us ++ c1.drop (k + us.length))[j]? = c1[j]? := by
          rw [List.append_assoc, List.getElem?_append_right (by simp [hl1]; omega), List.getElem?_append_right (by simp [hl1]; omega), List.getElem?_drop]
          congr 1
          simp [hl1]; omega
        rw [e1]
        simp only [c1]
        rw [List.append_assoc, List.getElem?_append_right (by simp; omega), List.getElem?_append_left (by simp; omega), List.getElem?_drop]
        rw [List.append_assoc (xs.take k), List.getElem?_append_right (by simp; omega), List.getElem?_append_right (by simp; omega), List.getElem?_drop]
        congr 1
        simp; omega
  · rw [List.getElem?_take, if_neg hj, List.getElem?_eq_none (by simp; omega)]
/-- a row that two copies fill. -/
theorem grow_row (xs us zs : List Value) (k m : Nat) (hk : k ≤ xs.length) (hu : us.length = m) (hz : xs.length - k + m ≤ zs.length) :
    let c0 := xs.take k ++ zs
    let c1 := c0.take k ++ us ++ c0.drop (k + us.length)
    (c1.take (k + m) ++ xs.drop k ++ c1.drop (k + m + (xs.drop k).length)).take (xs.length + m) = putAt xs us k ∧ (c1.take (k + m) ++ xs.drop k ++ c1.drop (k + m + (xs.drop k).length)).length = c0.length := by
  intro c0 c1
  have l0 : c0.length = k + zs.length := by simp [c0]; omega
  have l1 : c1.length = c0.length := by simp [c1, l0]; omega
  refine ⟨?_, by simp [l1, l0]; omega⟩
  apply List.ext_getElem?
  intro j
  unfold putAt
  by_cases hj : j < xs.length + m
  · rw [List.getElem?_take, if_pos hj]
    by_cases h1 : j < k + m
    · rw [List.append_assoc, List.getElem?_append_left (by simp [l1, l0]; omega), List.getElem?_take, if_pos h1, List.getElem?_append_left (by simp; omega)]
      have e0 : c0.take k = xs.take k := by
        simp only [c0]
        rw [List.take_append_of_le_length (by simp; omega), List.take_take, Nat.min_self]
      rw [e0]
      conv => rhs; rw [List.getElem?_append_left (by simp; omega)]
    · rw [List.append_assoc, List.getElem?_append_right (by simp [l1, l0]; omega), List.getElem?_append_left (by simp [l1, l0]; omega), List.getElem?_append_right (by simp; omega)]
      congr 1
      simp [l1, l0]; omega
  · rw [List.getElem?_take, if_neg hj, List.getElem?_eq_none (by simp; omega)]
theorem own_parts {w : World} {base size n cap g : Nat} {e : TypeId} {xs : List Value} (h : w.ownsRow base e size (.slice (some ⟨g, 0, none⟩) n cap) n xs) :
    ∃ cur, base ≤ g ∧ w.heap[g]? = some (.cells cur e (0, 0)) ∧ n ≤ cap ∧ cap ≤ maxLen ∧ cur.size = cap * size ∧ cur.toList.take (n * size) = xs := by
  rcases h.2 with ⟨h, _⟩ | ⟨g', cap', cur, hv, h1, h2, h3, h4, h5, h6⟩
  · cases h
  · cases hv
    exact ⟨cur, h1, h2, h3, h4, h5, h6⟩
theorem own_mk {w : World} {base size n cap g : Nat} {e : TypeId} {xs : List Value} (cur : Array Value) (hl : xs.length = n * size) (h1 : base ≤ g) (h2 : w.heap[g]? = some (.cells cur e (0, 0))) (h3 : n ≤ cap) (h4 : cap ≤ maxLen) (h5 : cur.size = cap * size) (h6 : cur.toList.take (n * size) = xs) :
    w.ownsRow base e size (.slice (some ⟨g, 0, none⟩) n cap) n xs := ⟨hl, .inr ⟨g, cap, cur, rfl, h1, h2, h3, h4, h5, h6⟩⟩
theorem own_cap {w : World} {base size n c : Nat} {A : Option Addr} {e : TypeId} {xs : List Value} (h : w.ownsRow base e size (.slice A n c) n xs) : n ≤ c ∧ c ≤ maxLen ∧ (A = none → c = 0) := by
  rcases h.2 with ⟨h, rfl⟩ | ⟨g', cap', cur, hv, h1, h2, h3, h4, h5, h6⟩
  · cases h; exact ⟨Nat.le_refl _, by unfold maxLen; omega, fun _ => rfl⟩
  · cases hv; exact ⟨h3, h4, fun h => by cases h⟩
theorem own_none {w : World} {base size n c : Nat} {A : Option Addr} {e : TypeId} {xs : List Value} (h : w.ownsRow base e size (.slice A n c) n xs) : (A = none ∧ n = 0 ∧ c = 0) ∨ ∃ g, A = some ⟨g, 0, none⟩ := by
  rcases h.2 with ⟨h, rfl⟩ | ⟨g', cap', cur, hv, _⟩
  · cases h; exact .inl ⟨rfl, rfl, rfl⟩
  · cases hv; exact .inr ⟨g', rfl⟩
theorem grown_setRow (w : World) (g : Nat) (cs : Array Value) : w.grownBy (w.setRow g cs) (some g) :=
  ⟨rfl, rfl, rfl, by simp, fun k _ hk => setRow_other w g k _ (fun e => hk (by rw [e]))⟩
end Go.Proofs.Ytmgjpmlemkkalaa

-- Srch: slices.BinarySearch at int64, as the program calls it; where a number belongs in a list that rises. No statement of the program is proved here.
namespace Go.Proofs.Ytmgjpmlemkkalaa
set_option maxRecDepth 100000
set_option linter.unusedVariables false
set_option linter.unusedSimpArgs false
open Go.RowKit

/-- how many of a list that rises are below a number: where it stands, or would. -/
def lowI (l : List Int) (m : Int) : Nat := l.findIdx fun x => decide (m ≤ x)
theorem lowI_le (l : List Int) (m : Int) : lowI l m ≤ l.length := List.findIdx_le_length
theorem lowI_below (l : List Int) (m : Int) (j : Nat) (h : j < lowI l m) : l[j]?.getD 0 < m := by
  have hl := lowI_le l m
  have h2 := List.not_of_lt_findIdx (show j < l.findIdx fun x => decide (m ≤ x) from h)
  rw [List.getElem?_eq_getElem (by omega)]
  simpa using h2
theorem lowI_above (l : List Int) (m : Int) (h : lowI l m < l.length) : m ≤ l[lowI l m]?.getD 0 := by
  have h2 := List.findIdx_getElem (w := show l.findIdx (fun x => decide (m ≤ x)) < l.length from h)
  have h2 : m ≤ l[lowI l m] := of_decide_eq_true h2
  rw [List.getElem?_eq_getElem h]
  exact h2
theorem lowI_at (l : List Int) (m : Int) (k : Nat) (hk : k ≤ l.length) (h0 : ∀ j, j < k → l[j]?.getD 0 < m) (h1 : k < l.length → m ≤ l[k]?.getD 0) : lowI l m = k := by
  have hle := lowI_le l m
  rcases Nat.lt_trichotomy (lowI l m) k with h | h | h
  · have h2 := lowI_above l m (by omega)
    have h3 := h0 _ h
    omega
  · exact h
  · have h2 := lowI_below l m k h
    have := h1 (by omega)
    omega
theorem riseI_le (l : List Int) (h : RiseI l) (i j : Nat) (hij : i ≤ j) (hj : j < l.length) : l[i]?.getD 0 ≤ l[j]?.getD 0 := by
  rcases Nat.lt_or_ge i j with h1 | h1
  · have := riseI_at l h i j h1 hj; omega
  · obtain rfl : i = j := by omega
    omega
/-- the number is there. -/
def hitI (l : List Int) (m : Int) : Bool := decide (lowI l m < l.length ∧ l[lowI l m]?.getD 0 = m)
theorem hitI_mem (l : List Int) (m : Int) (h : RiseI l) : hitI l m = true ↔ m ∈ l := by
  unfold hitI
  rw [decide_eq_true_iff]
  constructor
  · rintro ⟨h1, h2⟩
    rw [List.getElem?_eq_getElem h1] at h2
    have h2 : l[lowI l m] = m := h2
    rw [← h2]
    exact List.getElem_mem h1
  · intro hm
    obtain ⟨i, hi, e⟩ := List.mem_iff_getElem.1 hm
    have hk : lowI l m = i := lowI_at l m i (by omega) (fun j hj => by
      have := riseI_at l h j i hj hi
      rw [List.getElem?_eq_getElem hi] at this
      have e' : (some l[i]).getD 0 = m := e
      omega) (fun _ => by rw [List.getElem?_eq_getElem hi]; exact Int.le_of_eq e.symm)
    rw [hk]
    exact ⟨hi, by rw [List.getElem?_eq_getElem hi]; exact e⟩
theorem lowI_place (l : List Int) (m : Int) (h : m ∉ l) : lowI l m = placeI l m := by
  refine (placeI_at l m (lowI l m) (lowI_le l m) (fun j hj => by have := lowI_below l m j hj; omega) (fun hk => ?_)).symm
  have h1 := lowI_above l m hk
  rw [List.getElem?_eq_getElem hk] at h1 ⊢
  rcases Int.lt_or_eq_of_le h1 with h2 | h2
  · exact h2
  · have h2 : m = l[lowI l m] := h2
    exact absurd (h2 ▸ List.getElem_mem hk) h

theorem isNaNc_any (x : Int) (w : World) : Calls Try.prog 108 #[.int .i64 x] w fun e w' => e = .returned (.bool false) ∧ w' = w := by
  have mixed : Try.prog.follows .mixedOrders = true := by kernel_rfl
  go_enter Try.func108, Try.ntmps108
  go_wp2
  go_ret
  exact ⟨by simp, rfl⟩
theorem isNaNs_any (x : Int) (w : World) : Calls Try.prog 98 #[.int .i64 x] w fun e w' => e = .returned (.bool false) ∧ w' = w := by
  have mixed : Try.prog.follows .mixedOrders = true := by kernel_rfl
  go_enter Try.func98, Try.ntmps98
  go_wp2
  go_ret
  exact ⟨by simp, rfl⟩
theorem lessI_any (x y : Int) (w : World) : Calls Try.prog 97 #[.int .i64 x, .int .i64 y] w fun e w' => e = .returned (.bool (decide (x < y))) ∧ w' = w := by
  have mixed : Try.prog.follows .mixedOrders = true := by kernel_rfl
  go_enter Try.func97, Try.ntmps97
  go_wp2_with (go_at_call 108; refine (isNaNc_any _ _).mono ?_; rintro e w' ⟨rfl, rfl⟩)
  go_ret
  exact ⟨rfl, rfl⟩
set_option maxHeartbeats 4000000 in
theorem search_any (A : Option Addr) (n c : Nat) (l : List Int) (m : Int) (B : Nat) (w : World) (hn : n ≤ 1048576) (hb : Ints w B A n l) (hr : RiseI l) :
    Calls Try.prog 78 #[.slice A n c, .int .i64 m] w fun e w' => e = .returned (.tuple #[.int .i64 (lowI l m : Nat), .bool (hitI l m)]) ∧ ∃ q, w' = w.drewN q := by
  have mixed : Try.prog.follows .mixedOrders = true := by kernel_rfl
  have hlen := hb.1
  have HB := Lib.hid hb
  have HR := Lib.hid hr
  clear hb hr
  go_enter Try.func78, Try.ntmps78
  go_wp2
  go_loopw [7, 8] (fun s7 s8 wr => ∃ lo hi q : Nat, s7 = .int .i64 lo ∧ s8 = .int .i64 hi ∧ lo ≤ hi ∧ hi ≤ n ∧ wr = w.drewN q ∧ (∀ t, t < lo → l[t]?.getD 0 < m) ∧ (∀ t, hi ≤ t → t < n → m ≤ l[t]?.getD 0)) (fun s7 s8 _ => (intOf s8).toNat - (intOf s7).toNat)
  case atStart => exact ⟨0, n, 0, rfl, rfl, Nat.zero_le _, Nat.le_refl _, rfl, fun t ht => absurd ht (Nat.not_lt_zero _), fun t h1 h2 => by omega⟩
  case round =>
    obtain ⟨lo, hi, q, rfl, rfl, hlh, hin, hwq, h1, h2⟩ := hrel
    have H1 := Lib.hid h1
    have H2 := Lib.hid h2
    have HQ := Lib.hid hwq
    clear h1 h2
    by_cases hlt : lo < hi
    · obtain ⟨b, off, rfl, hbB, hcell⟩ := HB.out.2 (by omega)
      have cm : wr.cell? ⟨b, off + (lo + hi) / 2, none⟩ = some (.int .i64 (l[(lo + hi) / 2]?.getD 0)) := by rw [hwq]; exact hcell _ (by omega)
      clear hcell hwq
      obtain ⟨y, hy⟩ : ∃ y, l[(lo + hi) / 2]?.getD 0 = y := ⟨_, rfl⟩
      rw [hy] at cm
      have Y := Lib.hid hy
      clear hy
      by_cases hyx : y < m
      · go_wp2_with (go_at_call 97; refine (lessI_any _ _ _).mono ?_; rintro e w' ⟨rfl, rfl⟩)
        go_roundw
        case measure => simp [intOf]; omega
        case rel =>
          refine ⟨(lo + hi) / 2 + 1, hi, q, by go_num, rfl, by omega, hin, HQ.out, fun t ht => ?_, H2.out⟩
          have := riseI_le l HR.out t ((lo + hi) / 2) (by omega) (by omega)
          rw [Y.out] at this
          omega
      · go_wp2_with (go_at_call 97; refine (lessI_any _ _ _).mono ?_; rintro e w' ⟨rfl, rfl⟩)
        go_roundw
        case measure => simp [intOf]; omega
        case rel =>
          refine ⟨lo, (lo + hi) / 2, q, rfl, by go_num, by omega, by omega, HQ.out, H1.out, fun t h3 h4 => ?_⟩
          have := riseI_le l HR.out ((lo + hi) / 2) t h3 (by omega)
          rw [Y.out] at this
          omega
    · obtain rfl : lo = hi := by omega
      have hlow : lowI l m = lo := lowI_at l m lo (by omega) H1.out (fun h => H2.out lo (Nat.le_refl _) (by omega))
      have HL := Lib.hid hlow
      have hfin : hitI l m = decide (lo < n ∧ l[lo]?.getD 0 = m) := by unfold hitI; rw [hlow, hlen]
      have HF := Lib.hid hfin
      clear hlow hfin
      by_cases hn2 : lo < n
      · obtain ⟨b, off, rfl, hbB, hcell⟩ := HB.out.2 (by omega)
        have cm : wr.cell? ⟨b, off + lo, none⟩ = some (.int .i64 (l[lo]?.getD 0)) := by rw [hwq]; exact hcell _ (by omega)
        clear hcell hwq
        obtain ⟨y, hy⟩ : ∃ y, l[lo]?.getD 0 = y := ⟨_, rfl⟩
        rw [hy] at cm
        have Y := Lib.hid hy
        clear hy
        by_cases hyx : y = m
        · go_wp2_with (first | (go_at_call 97; refine (lessI_any _ _ _).mono ?_; rintro e w' ⟨rfl, rfl⟩) | (go_at_call 98; refine (isNaNs_any _ _).mono ?_; rintro e w' ⟨rfl, rfl⟩))
          go_ret2
          refine ⟨?_, q, HQ.out⟩
          rw [HL.out, HF.out, Y.out, decide_eq_true (show lo < n ∧ y = m from ⟨hn2, hyx⟩)]
          first | rfl | simp [*]
        · go_wp2_with (first | (go_at_call 97; refine (lessI_any _ _ _).mono ?_; rintro e w' ⟨rfl, rfl⟩) | (go_at_call 98; refine (isNaNs_any _ _).mono ?_; rintro e w' ⟨rfl, rfl⟩))
          go_ret2
          refine ⟨?_, q, HQ.out⟩
          rw [HL.out, HF.out, Y.out, decide_eq_false (show ¬ (lo < n ∧ y = m) from fun h => hyx h.2)]
          first | rfl | simp [*]
      · clear hwq
        go_wp2_with (first | (go_at_call 97; refine (lessI_any _ _ _).mono ?_; rintro e w' ⟨rfl, rfl⟩) | (go_at_call 98; refine (isNaNs_any _ _).mono ?_; rintro e w' ⟨rfl, rfl⟩))
        go_ret2
        refine ⟨?_, q, HQ.out⟩
        rw [HL.out, HF.out, decide_eq_false (show ¬ (lo < n ∧ l[lo]?.getD 0 = m) from fun h => hn2 h.1)]
        first | rfl | simp [*]
end Go.Proofs.Ytmgjpmlemkkalaa

-- InsI: slices.Insert of one element, as the program calls it, at one type of element. No statement of the program is proved here.
namespace Go.Proofs.Ytmgjpmlemkkalaa
set_option maxRecDepth 100000
set_option linter.unusedVariables false
set_option linter.unusedSimpArgs false
open Go.RowKit

theorem Try.infoInsI : (Try.prog.info? 2).map (fun i => (i.zero, i.size, i.bytes)) = some (some (.int .i64 0), 1, 8) := by kernel_rfl
theorem Try.sizeInsI : ∀ w, (Go.sizeOf 2).run Try.prog w = .ok 1 w := by
  intro w
  obtain ⟨i0, hi0, hz0, hz1, hz2⟩ := info_parts Try.infoInsI
  simp [sizeOf, typeInfo, hi0, hz1]
theorem Try.siInsI : (Try.prog.info? 2).map (·.size) = some 1 := by
  obtain ⟨i0, hi0, hz0, hz1, hz2⟩ := info_parts Try.infoInsI
  rw [hi0]; simp [hz1]
/-- what insertion of one element leaves. -/
def InsAtI (base n i : Nat) (v : Value) (xs us : List Value) (w : World) (e : Ending) (w' : World) : Prop :=
  ∃ g' c', e = .returned (.slice (some ⟨g', 0, none⟩) (n + 1) c') ∧ w'.ownsRow base 2 1 (.slice (some ⟨g', 0, none⟩) (n + 1) c') (n + 1) (putAt xs us (i * 1)) ∧ w.grownBy w' v.ownBlock ∧ (v.ownBlock = some g' ∨ w.heap.size ≤ g')
set_option maxHeartbeats 4000000 in
/-- there is no room, and the place is not the last. -/
theorem insI_grow (base n c i vb vc g : Nat) (xs us : List Value) (w : World) (hr : w.ownsRow base 2 1 (.slice (some ⟨g, 0, none⟩) n c) n xs) (hbase : base ≤ w.heap.size) (hi : i < n) (hn : n ≤ 1048576) (hc : c < n + 1)
    (hv : w.heap[vb]? = some (.cells us.toArray 2 (0, 0))) (hu : us.length = 1) (h1u : ∀ u ∈ us, u.oneCell' = true) (h1x : ∀ u ∈ xs, u.oneCell' = true) :
    Calls Try.prog 91 #[.slice (some ⟨g, 0, none⟩) n c, .int .i64 i, .slice (some ⟨vb, 0, none⟩) 1 vc] w fun e w' => InsAtI base n i (.slice (some ⟨g, 0, none⟩) n c) xs us w e w' := by
  obtain ⟨i0, hi0, hz0, hz1, hz2⟩ := info_parts Try.infoInsI
  obtain ⟨cur, hbg, hg, hnc, hcm, hcs, htk⟩ := own_parts hr
  have hxl := hr.1
  have hgw : g < w.heap.size := (Array.getElem?_eq_some_iff.1 hg).1
  have hvw : vb < w.heap.size := (Array.getElem?_eq_some_iff.1 hv).1
  obtain rfl : c = n := by omega
  have hold : (Builtin.firstCells i0.size i (.slice (some ⟨g, 0, none⟩) i c)).run Try.prog w.drew = .ok (xs.take (i * 1)).toArray w.drew := by
    rw [hz1]
    exact run_firstCells_some w.drew 1 i ⟨g, 0, none⟩ i c (xs.take (i * 1)) (by rw [List.length_take]; omega) (fun j v hj => by
      rw [Addr.add_lit, Nat.zero_add]
      rw [List.getElem?_take] at hj
      split at hj
      · exact (World.ownsRow.cellAt hr j (by omega)).trans hj
      · cases hj)
  obtain ⟨G, hG⟩ : ∃ G, G = grownCap w (c + 1) c 2 := ⟨_, rfl⟩
  have hGn : c + 1 ≤ G := by rw [hG]; exact grownCap_ge w _ _ _
  have hGm : G ≤ maxLen := by rw [hG]; exact grownCap_le_maxLen w (c + 1) c _ (by unfold maxLen; omega)
  obtain ⟨ZS, hZS⟩ : ∃ ZS : List Value, ZS = (Builtin.zeroCells (.int .i64 0 : Value).cells (c + 1 - i)).toList ++ (Builtin.zeroCells (.int .i64 0 : Value).cells (G - (c + 1))).toList := ⟨_, rfl⟩
  have hZl : ZS.length = (G - i) * 1 := by
    rw [hZS]
    simp [Builtin.zeroCells, Value.cells]
    omega
  obtain ⟨W1, hW1⟩ : ∃ W1, W1 = w.drew.alloc (.cells (xs.take (i * 1) ++ ZS).toArray 2) := ⟨_, rfl⟩
  have hrz : ∀ ty, (Builtin.append_ #[23, 3] ty #[.slice (some ⟨g, 0, none⟩) i c, .int .i64 ((c : Int) + 1 - (i : Int))]).run Try.prog w = .ok (.slice (some ⟨w.heap.size, 0, none⟩) (c + 1) G) W1 := fun ty => by
    have h := Lib.run_append_grow_zeros w 23 3 ty 2 i0 _ .i64 .i64 Try.underlying23 Try.underlying3 hi0 hz0 (some ⟨g, 0, none⟩) i c (xs.take (i * 1)) hold (c + 1 - i) (by omega) (by omega) (by omega) (by omega) (by rw [hz2]; omega)
      (by rw [hz2, show i + (c + 1 - i) = c + 1 by omega]; exact growslice_fits (by omega) (by omega))
    rw [show i + (c + 1 - i) = c + 1 by omega, ← hG, show (((c + 1 - i : Nat) : Nat) : Int) = (c : Int) + 1 - (i : Int) by omega] at h
    rw [h, hW1, hZS]
    congr 3
    apply Array.ext'
    simp
  have hg1 : W1.heap[w.heap.size]? = some (.cells (xs.take (i * 1) ++ ZS).toArray 2 (0, 0)) := by rw [hW1]; exact heap_alloc_new w.drew _
  have ho1 : ∀ k, k < w.heap.size → W1.heap[k]? = w.heap[k]? := fun k hk => by rw [hW1]; exact heap_alloc_old w.drew _ hk
  have hs1 : w.grownBy W1 (some w.heap.size) := ⟨by rw [hW1]; rfl, by rw [hW1]; rfl, by rw [hW1]; rfl, by rw [hW1]; simp, fun k hk _ => ho1 k hk⟩
  have lc0 : (xs.take (i * 1) ++ ZS).length = G * 1 := by simp [hZl]; omega
  obtain ⟨c1, hc1⟩ : ∃ c1 : List Value, c1 = (xs.take (i * 1) ++ ZS).take (i * 1) ++ us ++ (xs.take (i * 1) ++ ZS).drop (i * 1 + us.length) := ⟨_, rfl⟩
  have lc1 : c1.length = G * 1 := by rw [hc1]; simp [hZl]; omega
  obtain ⟨W2, hW2⟩ : ∃ W2, W2 = W1.setRow w.heap.size c1.toArray := ⟨_, rfl⟩
  have hcpA : ∀ ty dc, (Builtin.copy_ #[23, 23] ty #[.slice (some ⟨w.heap.size, i, none⟩) (c + 1 - i) dc, .slice (some ⟨vb, 0, none⟩) 1 vc]).run Try.prog W1 = .ok (goInt 1) W2 := fun ty dc => by
    have h := run_copy_wide (P := Try.prog) W1 23 23 ty 2 1 w.heap.size (i * 1) (c + 1 - i) dc 1 ⟨vb, 0, none⟩ 1 vc _ _ us Try.underlying23 Try.siInsI hg1 (by simp only [Nat.min_def]; split <;> omega) (by omega)
      (fun j v hj => by rw [Addr.add_lit, Nat.zero_add, cell_of_row W1 vb j us.toArray _ (0, 0) ((ho1 vb hvw).trans hv)]; simpa using hj) (by simp [hZl]; omega) h1u
    rw [hW2, hc1]
    simpa using h
  have hg2 : W2.heap[w.heap.size]? = some (.cells c1.toArray 2 (0, 0)) := by rw [hW2]; exact setRow_heap W1 _ _ _ _ _ hg1
  have ho2 : ∀ k, k < w.heap.size → W2.heap[k]? = w.heap[k]? := fun k hk => by rw [hW2, setRow_other W1 _ k _ (by omega)]; exact ho1 k hk
  obtain ⟨c2, hc2⟩ : ∃ c2 : List Value, c2 = c1.take (i * 1 + 1) ++ xs.drop (i * 1) ++ c1.drop (i * 1 + 1 + (xs.drop (i * 1)).length) := ⟨_, rfl⟩
  obtain ⟨W3, hW3⟩ : ∃ W3, W3 = W2.drew.setRow w.heap.size c2.toArray := ⟨_, rfl⟩
  have hcpB : ∀ ty dl dc sc, dl = c - i → (Builtin.copy_ #[23, 23] ty #[.slice (some ⟨w.heap.size, (i + 1), none⟩) dl dc, .slice (some ⟨g, i, none⟩) (c - i) sc]).run Try.prog W2.drew = .ok (goInt (c - i : Nat)) W3 := fun ty dl dc sc hdl => by
    subst hdl
    have h := run_copy_wide (P := Try.prog) W2.drew 23 23 ty 2 1 w.heap.size (i * 1 + 1) (c - i) dc (c - i) ⟨g, i * 1, none⟩ (c - i) sc _ _ (xs.drop (i * 1)) Try.underlying23 Try.siInsI hg2 (by simp only [Nat.min_def]; split <;> omega) (by simp; omega)
      (fun j v hj => by
        rw [Addr.add_lit]
        rw [List.getElem?_drop] at hj
        have hj' := (List.getElem?_eq_some_iff.1 hj).1
        rw [show W2.drew.cell? ⟨g, i * 1 + j, none⟩ = W2.cell? ⟨g, i * 1 + j, none⟩ from rfl, cell_of_row W2 g _ cur _ (0, 0) ((ho2 g hgw).trans hg)]
        rw [← cell_of_row w g _ cur _ (0, 0) hg]
        exact (World.ownsRow.cellAt hr _ (by omega)).trans hj) (by simp [lc1]; omega) (fun v hv => h1x v (List.mem_of_mem_drop hv))
    rw [hW3, hc2]
    simpa [Nat.add_mul] using h
  have hgr := grow_row xs us ZS (i * 1) 1 (by omega) hu (by rw [hZl]; omega)
  simp only [← hc1] at hgr
  rw [← hc2, lc0] at hgr
  have hfin : InsAtI base c i (.slice (some ⟨g, 0, none⟩) c c) xs us w (.returned (.slice (some ⟨w.heap.size, 0, none⟩) (c + 1) G)) W3 := by
    refine ⟨w.heap.size, G, rfl, own_mk c2.toArray (by rw [putAt_len]; omega) hbase (by rw [hW3]; exact setRow_heap W2.drew _ _ _ _ _ hg2) hGn hGm (by simpa using hgr.2) (by rw [show (c + 1) * 1 = xs.length + 1 by omega]; exact hgr.1), ?_, .inr (Nat.le_refl _)⟩
    refine ⟨by rw [hW3, hW2]; exact hs1.os, by rw [hW3, hW2]; exact hs1.tape, by rw [hW3, hW2]; exact hs1.output, by rw [hW3, hW2]; simpa using hs1.size, fun k hk _ => ?_⟩
    rw [hW3, setRow_other W2.drew _ k _ (by omega)]; exact ho2 k hk
  have HF := Lib.hid hfin
  have HA := Lib.hid hrz
  have HB := Lib.hid hcpA
  have HC := Lib.hid hcpB
  clear hfin hrz hcpA hcpB hgr hg1 ho1 hs1 hg2 ho2 hold hG hW1 hW2 hW3 hZS hc1 hc2 lc0 lc1 hZl htk hcs hr hz0
  unfold maxLen at hGm
  have mixed : Try.prog.follows .mixedOrders = true := by kernel_rfl
  have hz2' : ¬ ((i : Int) = (c : Int)) := by omega
  have hz3 : (c : Int) < (c : Int) + 1 := by omega
  have hw1 : IntKind.i64.wrap ((i : Int) + 1) = (i : Int) + 1 := by rw [IntKind.wrap_i64]; omega
  have htn : ((i : Int) + 1).toNat = i + 1 := by omega
  have hGi : ¬ (G = i) := by omega
  have hGim : ¬ (G = i + 1) := by omega
  have hci : ¬ (c = i) := by omega
  have hb1 : (0 : Int) ≤ (i : Int) + 1 := by omega
  have hin : i ≤ c := by omega
  have hb3 : (i : Int) ≤ (c : Int) := by omega
  go_enter Try.func91, Try.ntmps91
  go_wp2_with (first
    | (at_builtin; refine Lib.wpList_append_run _ rfl _ _ _ _ rfl _ _ rfl rfl _ _ (HA.out _) ?_)
    | (simp only [HB.out]))
  go_region_law_o (refine step_copy_runI rfl _ _ 23 23 rfl _ _ (by simp [Act.eval, Act.put]) (by simp [Act.eval, Act.put]) (HC.out _ (c - i) (G - (i + 1)) (c - i) rfl) ?_)
  go_wp2
  go_ret
  exact HF.out
set_option maxHeartbeats 4000000 in
/-- there is room, and the place is not the last. -/
theorem insI_room (base n c i vb vc g : Nat) (xs us : List Value) (w : World) (hr : w.ownsRow base 2 1 (.slice (some ⟨g, 0, none⟩) n c) n xs) (hbase : base ≤ w.heap.size) (hi : i < n) (hn : n ≤ 1048576) (hc : n + 1 ≤ c)
    (hv : w.heap[vb]? = some (.cells us.toArray 2 (0, 0))) (hu : us.length = 1) (h1u : ∀ u ∈ us, u.oneCell' = true) (h1x : ∀ u ∈ xs, u.oneCell' = true) (hne : g ≠ vb) :
    Calls Try.prog 91 #[.slice (some ⟨g, 0, none⟩) n c, .int .i64 i, .slice (some ⟨vb, 0, none⟩) 1 vc] w fun e w' => InsAtI base n i (.slice (some ⟨g, 0, none⟩) n c) xs us w e w' := by
  obtain ⟨cur, hbg, hg, hnc, hcm, hcs, htk⟩ := own_parts hr
  have hxl := hr.1
  have hgw : g < w.heap.size := (Array.getElem?_eq_some_iff.1 hg).1
  have hvw : vb < w.heap.size := (Array.getElem?_eq_some_iff.1 hv).1
  have hcl : cur.toList.length = c * 1 := by simpa using hcs
  have hov : ∀ lb cb, (callFunc 104 #[.slice (some ⟨vb, 0, none⟩) 1 vc, .slice (some ⟨g, (i + 1), none⟩) lb cb]).run Try.prog w = .ok (.value (.bool false)) w := fun lb cb => by
    rw [run_callFunc_extern Try.func104 (by kernel_rfl) (by kernel_rfl) (by kernel_rfl) (e := Extern.SlicesOverlaps.overlaps #[23, 23] #[4]) (by kernel_rfl),
      Lib.run_overlaps_apart w 23 4 2 Try.underlying23 1 Try.sizeInsI ⟨vb, 0, none⟩ ⟨g, (i + 1), none⟩ 1 vc lb cb (fun e => hne e.symm) 2 2 1 (c * 1) (by simp [World.shape?, hv, hu]) (by simp [World.shape?, hg, hcs]) (by omega) (frozen_of_row w vb 0 _ _ hv) (frozen_of_row w vb _ _ _ hv)]
    rfl
  obtain ⟨c1, hc1⟩ : ∃ c1 : List Value, c1 = cur.toList.take (i * 1 + 1) ++ xs.drop (i * 1) ++ cur.toList.drop (i * 1 + 1 + (xs.drop (i * 1)).length) := ⟨_, rfl⟩
  have lc1 : c1.length = c * 1 := by rw [hc1]; simp [hcs]; omega
  obtain ⟨W1, hW1⟩ : ∃ W1, W1 = w.drew.setRow g c1.toArray := ⟨_, rfl⟩
  have hcp1 : ∀ ty dl dc sc, dl = n - i → (Builtin.copy_ #[23, 23] ty #[.slice (some ⟨g, (i + 1), none⟩) dl dc, .slice (some ⟨g, i, none⟩) (n + 1 - i) sc]).run Try.prog w.drew = .ok (goInt (n - i : Nat)) W1 := fun ty dl dc sc hdl => by
    subst hdl
    have h := run_copy_wide (P := Try.prog) w.drew 23 23 ty 2 1 g (i * 1 + 1) (n - i) dc (n - i) ⟨g, i * 1, none⟩ (n + 1 - i) sc _ _ (xs.drop (i * 1)) Try.underlying23 Try.siInsI hg (by simp only [Nat.min_def]; split <;> omega) (by simp; omega)
      (fun j v hj => by
        rw [Addr.add_lit]
        rw [List.getElem?_drop] at hj
        have hj' := (List.getElem?_eq_some_iff.1 hj).1
        exact (World.ownsRow.cellAt hr _ (by omega)).trans hj) (by simp [hcs]; omega) (fun v hv => h1x v (List.mem_of_mem_drop hv))
    rw [hW1, hc1]
    simpa [Nat.add_mul] using h
  have hg1 : W1.heap[g]? = some (.cells c1.toArray 2 (0, 0)) := by rw [hW1]; exact setRow_heap w.drew _ _ _ _ _ hg
  have hv1 : W1.heap[vb]? = some (.cells us.toArray 2 (0, 0)) := by rw [hW1, setRow_other w.drew g vb _ (fun e => hne e.symm)]; exact hv
  obtain ⟨c2, hc2⟩ : ∃ c2 : List Value, c2 = c1.take (i * 1) ++ us ++ c1.drop (i * 1 + us.length) := ⟨_, rfl⟩
  obtain ⟨W2, hW2⟩ : ∃ W2, W2 = W1.setRow g c2.toArray := ⟨_, rfl⟩
  have hcp2 : ∀ ty dc, (Builtin.copy_ #[23, 23] ty #[.slice (some ⟨g, i, none⟩) (n + 1 - i) dc, .slice (some ⟨vb, 0, none⟩) 1 vc]).run Try.prog W1 = .ok (goInt 1) W2 := fun ty dc => by
    have h := run_copy_wide (P := Try.prog) W1 23 23 ty 2 1 g (i * 1) (n + 1 - i) dc 1 ⟨vb, 0, none⟩ 1 vc _ _ us Try.underlying23 Try.siInsI hg1 (by simp only [Nat.min_def]; split <;> omega) (by omega)
      (fun j v hj => by rw [Addr.add_lit, Nat.zero_add, cell_of_row W1 vb j us.toArray _ (0, 0) hv1]; simpa using hj) (by simp [lc1]; omega) h1u
    rw [hW2, hc2]
    simpa using h
  have hsr := shift_row cur.toList us xs (i * 1) 1 (by rw [hxl]; exact htk) (by omega) hu (by rw [hcl]; omega)
  simp only [← hc1] at hsr
  rw [← hc2, hcl] at hsr
  have hfin : InsAtI base n i (.slice (some ⟨g, 0, none⟩) n c) xs us w (.returned (.slice (some ⟨g, 0, none⟩) (n + 1) c)) W2 := by
    refine ⟨g, c, rfl, own_mk c2.toArray (by rw [putAt_len]; omega) hbg (by rw [hW2]; exact setRow_heap W1 _ _ _ _ _ hg1) hc hcm (by simpa using hsr.2) (by rw [show (n + 1) * 1 = xs.length + 1 by omega]; exact hsr.1), ?_, .inl rfl⟩
    refine ⟨by rw [hW2, hW1]; rfl, by rw [hW2, hW1]; rfl, by rw [hW2, hW1]; rfl, by rw [hW2, hW1]; simp, fun k hk hkg => ?_⟩
    have hkg : k ≠ g := fun e => hkg (by rw [e]; simp [Value.ownBlock])
    rw [hW2, setRow_other W1 _ k _ hkg, hW1, setRow_other w.drew _ k _ hkg]; rfl
  have HF := Lib.hid hfin
  have HA := Lib.hid hcp1
  have HB := Lib.hid hcp2
  unfold maxLen at hcm
  clear hfin hcp1 hcp2 hsr hg1 hv1 hW1 hW2 hc1 hc2 lc1 hcl htk hcs hr
  have mixed : Try.prog.follows .mixedOrders = true := by kernel_rfl
  have hz2' : ¬ ((i : Int) = (n : Int)) := by omega
  have hw1 : IntKind.i64.wrap ((i : Int) + 1) = (i : Int) + 1 := by rw [IntKind.wrap_i64]; omega
  have hb1 : (0 : Int) ≤ (i : Int) + 1 := by omega
  have hin : i ≤ n := by omega
  have htn : ((i : Int) + 1).toNat = i + 1 := by omega
  have hb2 : ¬ (c = i + 1) := by omega
  have hb3 : (i : Int) ≤ (n : Int) + 1 := by omega
  have hb4 : ¬ (c = i) := by omega
  go_enter Try.func91, Try.ntmps91
  go_wp2_with (simp only [hov])
  go_region_law_o (refine step_copy_runI rfl _ _ 23 23 rfl _ _ (by simp [Act.eval, Act.put]) (by simp [Act.eval, Act.put]) (HA.out _ (n - i) (c - (i + 1)) (c - i) rfl) ?_)
  go_wp2_with (simp only [HB.out])
  go_ret
  exact HF.out
set_option maxHeartbeats 4000000 in
/-- the place is the last. -/
theorem insI_end (base n c vb vc : Nat) (A : Option Addr) (xs us : List Value) (w : World) (hr : w.ownsRow base 2 1 (.slice A n c) n xs) (hbase : base ≤ w.heap.size) (hn : n ≤ 1048576)
    (hv : w.heap[vb]? = some (.cells us.toArray 2 (0, 0))) (hu : us.length = 1) (h1u : ∀ u ∈ us, u.oneCell' = true) :
    Calls Try.prog 91 #[.slice A n c, .int .i64 n, .slice (some ⟨vb, 0, none⟩) 1 vc] w fun e w' => InsAtI base n n (.slice A n c) xs us w e w' := by
  obtain ⟨i0, hi0, hz0, hz1, hz2⟩ := info_parts Try.infoInsI
  obtain ⟨hnc, hcm, hA⟩ := own_cap hr
  unfold maxLen at hcm
  have hxl := hr.1
  have hx : putAt xs us (n * 1) = xs ++ us := by unfold putAt; rw [List.take_of_length_le (by omega), List.drop_of_length_le (by omega), List.append_nil]
  unfold InsAtI
  rw [hx]
  have hnn : ((n : Int) == (n : Int)) = true := by simp
  clear hx
  go_enter Try.func91, Try.ntmps91
  rcases own_none hr with ⟨rfl, rfl, rfl⟩ | ⟨g, rfl⟩
  all_goals
    go_wp2_with (at_builtin; refine wpList_append_lies _ rfl _ _ 23 rfl base 2 i0 (.int .i64 0) 1 8 Try.underlying23 hi0 hz0 hz1 hz2 rfl (by decide) _ _ _ rfl hr ⟨vb, 0, none⟩ 1 vc us rfl (by omega) (fun j u hj => by rw [Addr.add_lit, Nat.zero_add, cell_of_row w vb j us.toArray _ (0, 0) hv]; simpa using hj) h1u (by omega) (by unfold maxLen; omega) (by omega) hbase _ rfl ?_)
    all_goals
      intro g' c' w1 hown hgrow hat hlt
      go_wp2
      go_ret
      refine ⟨g', c', rfl, hown, hgrow, ?_⟩
      rcases hat with h | h
      · exact .inl h
      · exact .inr (by omega)
theorem insI_any (base n c i vb vc : Nat) (A : Option Addr) (xs us : List Value) (w : World) (hr : w.ownsRow base 2 1 (.slice A n c) n xs) (hbase : base ≤ w.heap.size) (hi : i ≤ n) (hn : n ≤ 1048576)
    (hv : w.heap[vb]? = some (.cells us.toArray 2 (0, 0))) (hu : us.length = 1) (h1u : ∀ u ∈ us, u.oneCell' = true) (h1x : ∀ u ∈ xs, u.oneCell' = true) (hne : (Value.slice A n c).ownBlock ≠ some vb) :
    Calls Try.prog 91 #[.slice A n c, .int .i64 i, .slice (some ⟨vb, 0, none⟩) 1 vc] w fun e w' => InsAtI base n i (.slice A n c) xs us w e w' := by
  rcases Nat.lt_or_ge i n with h | h
  · rcases own_none hr with ⟨rfl, rfl, rfl⟩ | ⟨g, rfl⟩
    · omega
    · have hne : g ≠ vb := fun e => hne (by rw [e]; simp [Value.ownBlock])
      rcases Nat.lt_or_ge c (n + 1) with h1 | h1
      · exact insI_grow base n c i vb vc g xs us w hr hbase h hn h1 hv hu h1u h1x
      · exact insI_room base n c i vb vc g xs us w hr hbase h hn h1 hv hu h1u h1x hne
  · obtain rfl : i = n := by omega
    exact insI_end base i c vb vc A xs us w hr hbase hn hv hu h1u
end Go.Proofs.Ytmgjpmlemkkalaa

-- InsN: slices.Insert of one element, as the program calls it, at one type of element. No statement of the program is proved here.
namespace Go.Proofs.Ytmgjpmlemkkalaa
set_option maxRecDepth 100000
set_option linter.unusedVariables false
set_option linter.unusedSimpArgs false
open Go.RowKit

theorem Try.infoInsN : (Try.prog.info? 35).map (fun i => (i.zero, i.size, i.bytes)) = some (some (.agg #[.int .i64 0, .slice none 0 0, .slice none 0 0, .string ⟨#[]⟩]), 4, 72) := by kernel_rfl
theorem Try.sizeInsN : ∀ w, (Go.sizeOf 35).run Try.prog w = .ok 4 w := by
  intro w
  obtain ⟨i0, hi0, hz0, hz1, hz2⟩ := info_parts Try.infoInsN
  simp [sizeOf, typeInfo, hi0, hz1]
theorem Try.siInsN : (Try.prog.info? 35).map (·.size) = some 4 := by
  obtain ⟨i0, hi0, hz0, hz1, hz2⟩ := info_parts Try.infoInsN
  rw [hi0]; simp [hz1]
/-- what insertion of one element leaves. -/
def InsAtN (base n i : Nat) (v : Value) (xs us : List Value) (w : World) (e : Ending) (w' : World) : Prop :=
  ∃ g' c', e = .returned (.slice (some ⟨g', 0, none⟩) (n + 1) c') ∧ w'.ownsRow base 35 4 (.slice (some ⟨g', 0, none⟩) (n + 1) c') (n + 1) (putAt xs us (i * 4)) ∧ w.grownBy w' v.ownBlock ∧ (v.ownBlock = some g' ∨ w.heap.size ≤ g')
set_option maxHeartbeats 4000000 in
/-- there is no room, and the place is not the last. -/
theorem insN_grow (base n c i vb vc g : Nat) (xs us : List Value) (w : World) (hr : w.ownsRow base 35 4 (.slice (some ⟨g, 0, none⟩) n c) n xs) (hbase : base ≤ w.heap.size) (hi : i < n) (hn : n ≤ 1048576) (hc : c < n + 1)
    (hv : w.heap[vb]? = some (.cells us.toArray 35 (0, 0))) (hu : us.length = 4) (h1u : ∀ u ∈ us, u.oneCell' = true) (h1x : ∀ u ∈ xs, u.oneCell' = true) :
    Calls Try.prog 92 #[.slice (some ⟨g, 0, none⟩) n c, .int .i64 i, .slice (some ⟨vb, 0, none⟩) 1 vc] w fun e w' => InsAtN base n i (.slice (some ⟨g, 0, none⟩) n c) xs us w e w' := by
  obtain ⟨i0, hi0, hz0, hz1, hz2⟩ := info_parts Try.infoInsN
  obtain ⟨cur, hbg, hg, hnc, hcm, hcs, htk⟩ := own_parts hr
  have hxl := hr.1
  have hgw : g < w.heap.size := (Array.getElem?_eq_some_iff.1 hg).1
  have hvw : vb < w.heap.size := (Array.getElem?_eq_some_iff.1 hv).1
  obtain rfl : c = n := by omega
  have hold : (Builtin.firstCells i0.size i (.slice (some ⟨g, 0, none⟩) i c)).run Try.prog w.drew = .ok (xs.take (i * 4)).toArray w.drew := by
    rw [hz1]
    exact run_firstCells_some w.drew 4 i ⟨g, 0, none⟩ i c (xs.take (i * 4)) (by rw [List.length_take]; omega) (fun j v hj => by
      rw [Addr.add_lit, Nat.zero_add]
      rw [List.getElem?_take] at hj
      split at hj
      · exact (World.ownsRow.cellAt hr j (by omega)).trans hj
      · cases hj)
  obtain ⟨G, hG⟩ : ∃ G, G = grownCap w (c + 1) c 35 := ⟨_, rfl⟩
  have hGn : c + 1 ≤ G := by rw [hG]; exact grownCap_ge w _ _ _
  have hGm : G ≤ maxLen := by rw [hG]; exact grownCap_le_maxLen w (c + 1) c _ (by unfold maxLen; omega)
  obtain ⟨ZS, hZS⟩ : ∃ ZS : List Value, ZS = (Builtin.zeroCells (.agg #[.int .i64 0, .slice none 0 0, .slice none 0 0, .string ⟨#[]⟩] : Value).cells (c + 1 - i)).toList ++ (Builtin.zeroCells (.agg #[.int .i64 0, .slice none 0 0, .slice none 0 0, .string ⟨#[]⟩] : Value).cells (G - (c + 1))).toList := ⟨_, rfl⟩
  have hZl : ZS.length = (G - i) * 4 := by
    rw [hZS]
    simp [Builtin.zeroCells, Value.cells]
    omega
  obtain ⟨W1, hW1⟩ : ∃ W1, W1 = w.drew.alloc (.cells (xs.take (i * 4) ++ ZS).toArray 35) := ⟨_, rfl⟩
  have hrz : ∀ ty, (Builtin.append_ #[65, 3] ty #[.slice (some ⟨g, 0, none⟩) i c, .int .i64 ((c : Int) + 1 - (i : Int))]).run Try.prog w = .ok (.slice (some ⟨w.heap.size, 0, none⟩) (c + 1) G) W1 := fun ty => by
    have h := Lib.run_append_grow_zeros w 65 3 ty 35 i0 _ .i64 .i64 Try.underlying65 Try.underlying3 hi0 hz0 (some ⟨g, 0, none⟩) i c (xs.take (i * 4)) hold (c + 1 - i) (by omega) (by omega) (by omega) (by omega) (by rw [hz2]; omega)
      (by rw [hz2, show i + (c + 1 - i) = c + 1 by omega]; exact growslice_fits (by omega) (by omega))
    rw [show i + (c + 1 - i) = c + 1 by omega, ← hG, show (((c + 1 - i : Nat) : Nat) : Int) = (c : Int) + 1 - (i : Int) by omega] at h
    rw [h, hW1, hZS]
    congr 3
    apply Array.ext'
    simp
  have hg1 : W1.heap[w.heap.size]? = some (.cells (xs.take (i * 4) ++ ZS).toArray 35 (0, 0)) := by rw [hW1]; exact heap_alloc_new w.drew _
  have ho1 : ∀ k, k < w.heap.size → W1.heap[k]? = w.heap[k]? := fun k hk => by rw [hW1]; exact heap_alloc_old w.drew _ hk
  have hs1 : w.grownBy W1 (some w.heap.size) := ⟨by rw [hW1]; rfl, by rw [hW1]; rfl, by rw [hW1]; rfl, by rw [hW1]; simp, fun k hk _ => ho1 k hk⟩
  have lc0 : (xs.take (i * 4) ++ ZS).length = G * 4 := by simp [hZl]; omega
  obtain ⟨c1, hc1⟩ : ∃ c1 : List Value, c1 = (xs.take (i * 4) ++ ZS).take (i * 4) ++ us ++ (xs.take (i * 4) ++ ZS).drop (i * 4 + us.length) := ⟨_, rfl⟩
  have lc1 : c1.length = G * 4 := by rw [hc1]; simp [hZl]; omega
  obtain ⟨W2, hW2⟩ : ∃ W2, W2 = W1.setRow w.heap.size c1.toArray := ⟨_, rfl⟩
  have hcpA : ∀ ty dc, (Builtin.copy_ #[65, 65] ty #[.slice (some ⟨w.heap.size, i * 4, none⟩) (c + 1 - i) dc, .slice (some ⟨vb, 0, none⟩) 1 vc]).run Try.prog W1 = .ok (goInt 1) W2 := fun ty dc => by
    have h := run_copy_wide (P := Try.prog) W1 65 65 ty 35 4 w.heap.size (i * 4) (c + 1 - i) dc 1 ⟨vb, 0, none⟩ 1 vc _ _ us Try.underlying65 Try.siInsN hg1 (by simp only [Nat.min_def]; split <;> omega) (by omega)
      (fun j v hj => by rw [Addr.add_lit, Nat.zero_add, cell_of_row W1 vb j us.toArray _ (0, 0) ((ho1 vb hvw).trans hv)]; simpa using hj) (by simp [hZl]; omega) h1u
    rw [hW2, hc1]
    simpa using h
  have hg2 : W2.heap[w.heap.size]? = some (.cells c1.toArray 35 (0, 0)) := by rw [hW2]; exact setRow_heap W1 _ _ _ _ _ hg1
  have ho2 : ∀ k, k < w.heap.size → W2.heap[k]? = w.heap[k]? := fun k hk => by rw [hW2, setRow_other W1 _ k _ (by omega)]; exact ho1 k hk
  obtain ⟨c2, hc2⟩ : ∃ c2 : List Value, c2 = c1.take (i * 4 + 4) ++ xs.drop (i * 4) ++ c1.drop (i * 4 + 4 + (xs.drop (i * 4)).length) := ⟨_, rfl⟩
  obtain ⟨W3, hW3⟩ : ∃ W3, W3 = W2.drew.setRow w.heap.size c2.toArray := ⟨_, rfl⟩
  have hcpB : ∀ ty dl dc sc, dl = c - i → (Builtin.copy_ #[65, 65] ty #[.slice (some ⟨w.heap.size, (i + 1) * 4, none⟩) dl dc, .slice (some ⟨g, i * 4, none⟩) (c - i) sc]).run Try.prog W2.drew = .ok (goInt (c - i : Nat)) W3 := fun ty dl dc sc hdl => by
    subst hdl
    have h := run_copy_wide (P := Try.prog) W2.drew 65 65 ty 35 4 w.heap.size (i * 4 + 4) (c - i) dc (c - i) ⟨g, i * 4, none⟩ (c - i) sc _ _ (xs.drop (i * 4)) Try.underlying65 Try.siInsN hg2 (by simp only [Nat.min_def]; split <;> omega) (by simp; omega)
      (fun j v hj => by
        rw [Addr.add_lit]
        rw [List.getElem?_drop] at hj
        have hj' := (List.getElem?_eq_some_iff.1 hj).1
        rw [show W2.drew.cell? ⟨g, i * 4 + j, none⟩ = W2.cell? ⟨g, i * 4 + j, none⟩ from rfl, cell_of_row W2 g _ cur _ (0, 0) ((ho2 g hgw).trans hg)]
        rw [← cell_of_row w g _ cur _ (0, 0) hg]
        exact (World.ownsRow.cellAt hr _ (by omega)).trans hj) (by simp [lc1]; omega) (fun v hv => h1x v (List.mem_of_mem_drop hv))
    rw [hW3, hc2]
    simpa [Nat.add_mul] using h
  have hgr := grow_row xs us ZS (i * 4) 4 (by omega) hu (by rw [hZl]; omega)
  simp only [← hc1] at hgr
  rw [← hc2, lc0] at hgr
  have hfin : InsAtN base c i (.slice (some ⟨g, 0, none⟩) c c) xs us w (.returned (.slice (some ⟨w.heap.size, 0, none⟩) (c + 1) G)) W3 := by
    refine ⟨w.heap.size, G, rfl, own_mk c2.toArray (by rw [putAt_len]; omega) hbase (by rw [hW3]; exact setRow_heap W2.drew _ _ _ _ _ hg2) hGn hGm (by simpa using hgr.2) (by rw [show (c + 1) * 4 = xs.length + 4 by omega]; exact hgr.1), ?_, .inr (Nat.le_refl _)⟩
    refine ⟨by rw [hW3, hW2]; exact hs1.os, by rw [hW3, hW2]; exact hs1.tape, by rw [hW3, hW2]; exact hs1.output, by rw [hW3, hW2]; simpa using hs1.size, fun k hk _ => ?_⟩
    rw [hW3, setRow_other W2.drew _ k _ (by omega)]; exact ho2 k hk
  have HF := Lib.hid hfin
  have HA := Lib.hid hrz
  have HB := Lib.hid hcpA
  have HC := Lib.hid hcpB
  clear hfin hrz hcpA hcpB hgr hg1 ho1 hs1 hg2 ho2 hold hG hW1 hW2 hW3 hZS hc1 hc2 lc0 lc1 hZl htk hcs hr hz0
  unfold maxLen at hGm
  have mixed : Try.prog.follows .mixedOrders = true := by kernel_rfl
  have hz2' : ¬ ((i : Int) = (c : Int)) := by omega
  have hz3 : (c : Int) < (c : Int) + 1 := by omega
  have hw1 : IntKind.i64.wrap ((i : Int) + 1) = (i : Int) + 1 := by rw [IntKind.wrap_i64]; omega
  have htn : ((i : Int) + 1).toNat = i + 1 := by omega
  have hGi : ¬ (G = i) := by omega
  have hGim : ¬ (G = i + 1) := by omega
  have hci : ¬ (c = i) := by omega
  have hb1 : (0 : Int) ≤ (i : Int) + 1 := by omega
  have hin : i ≤ c := by omega
  have hb3 : (i : Int) ≤ (c : Int) := by omega
  go_enter Try.func92, Try.ntmps92
  go_wp2_with (first
    | (at_builtin; refine Lib.wpList_append_run _ rfl _ _ _ _ rfl _ _ rfl rfl _ _ (HA.out _) ?_)
    | (simp only [HB.out]))
  go_region_law_o (refine step_copy_runI rfl _ _ 65 65 rfl _ _ (by simp [Act.eval, Act.put]) (by simp [Act.eval, Act.put]) (HC.out _ (c - i) (G - (i + 1)) (c - i) rfl) ?_)
  go_wp2
  go_ret
  exact HF.out
set_option maxHeartbeats 4000000 in
/-- there is room, and the place is not the last. -/
theorem insN_room (base n c i vb vc g : Nat) (xs us : List Value) (w : World) (hr : w.ownsRow base 35 4 (.slice (some ⟨g, 0, none⟩) n c) n xs) (hbase : base ≤ w.heap.size) (hi : i < n) (hn : n ≤ 1048576) (hc : n + 1 ≤ c)
    (hv : w.heap[vb]? = some (.cells us.toArray 35 (0, 0))) (hu : us.length = 4) (h1u : ∀ u ∈ us, u.oneCell' = true) (h1x : ∀ u ∈ xs, u.oneCell' = true) (hne : g ≠ vb) :
    Calls Try.prog 92 #[.slice (some ⟨g, 0, none⟩) n c, .int .i64 i, .slice (some ⟨vb, 0, none⟩) 1 vc] w fun e w' => InsAtN base n i (.slice (some ⟨g, 0, none⟩) n c) xs us w e w' := by
  obtain ⟨cur, hbg, hg, hnc, hcm, hcs, htk⟩ := own_parts hr
  have hxl := hr.1
  have hgw : g < w.heap.size := (Array.getElem?_eq_some_iff.1 hg).1
  have hvw : vb < w.heap.size := (Array.getElem?_eq_some_iff.1 hv).1
  have hcl : cur.toList.length = c * 4 := by simpa using hcs
  have hov : ∀ lb cb, (callFunc 106 #[.slice (some ⟨vb, 0, none⟩) 1 vc, .slice (some ⟨g, (i + 1) * 4, none⟩) lb cb]).run Try.prog w = .ok (.value (.bool false)) w := fun lb cb => by
    rw [run_callFunc_extern Try.func106 (by kernel_rfl) (by kernel_rfl) (by kernel_rfl) (e := Extern.SlicesOverlaps.overlaps #[65, 65] #[4]) (by kernel_rfl),
      Lib.run_overlaps_apart w 65 4 35 Try.underlying65 4 Try.sizeInsN ⟨vb, 0, none⟩ ⟨g, (i + 1) * 4, none⟩ 1 vc lb cb (fun e => hne e.symm) 35 35 4 (c * 4) (by simp [World.shape?, hv, hu]) (by simp [World.shape?, hg, hcs]) (by omega) (frozen_of_row w vb 0 _ _ hv) (frozen_of_row w vb _ _ _ hv)]
    rfl
  obtain ⟨c1, hc1⟩ : ∃ c1 : List Value, c1 = cur.toList.take (i * 4 + 4) ++ xs.drop (i * 4) ++ cur.toList.drop (i * 4 + 4 + (xs.drop (i * 4)).length) := ⟨_, rfl⟩
  have lc1 : c1.length = c * 4 := by rw [hc1]; simp [hcs]; omega
  obtain ⟨W1, hW1⟩ : ∃ W1, W1 = w.drew.setRow g c1.toArray := ⟨_, rfl⟩
  have hcp1 : ∀ ty dl dc sc, dl = n - i → (Builtin.copy_ #[65, 65] ty #[.slice (some ⟨g, (i + 1) * 4, none⟩) dl dc, .slice (some ⟨g, i * 4, none⟩) (n + 1 - i) sc]).run Try.prog w.drew = .ok (goInt (n - i : Nat)) W1 := fun ty dl dc sc hdl => by
    subst hdl
    have h := run_copy_wide (P := Try.prog) w.drew 65 65 ty 35 4 g (i * 4 + 4) (n - i) dc (n - i) ⟨g, i * 4, none⟩ (n + 1 - i) sc _ _ (xs.drop (i * 4)) Try.underlying65 Try.siInsN hg (by simp only [Nat.min_def]; split <;> omega) (by simp; omega)
      (fun j v hj => by
        rw [Addr.add_lit]
        rw [List.getElem?_drop] at hj
        have hj' := (List.getElem?_eq_some_iff.1 hj).1
        exact (World.ownsRow.cellAt hr _ (by omega)).trans hj) (by simp [hcs]; omega) (fun v hv => h1x v (List.mem_of_mem_drop hv))
    rw [hW1, hc1]
    simpa [Nat.add_mul] using h
  have hg1 : W1.heap[g]? = some (.cells c1.toArray 35 (0, 0)) := by rw [hW1]; exact setRow_heap w.drew _ _ _ _ _ hg
  have hv1 : W1.heap[vb]? = some (.cells us.toArray 35 (0, 0)) := by rw [hW1, setRow_other w.drew g vb _ (fun e => hne e.symm)]; exact hv
  obtain ⟨c2, hc2⟩ : ∃ c2 : List Value, c2 = c1.take (i * 4) ++ us ++ c1.drop (i * 4 + us.length) := ⟨_, rfl⟩
  obtain ⟨W2, hW2⟩ : ∃ W2, W2 = W1.setRow g c2.toArray := ⟨_, rfl⟩
  have hcp2 : ∀ ty dc, (Builtin.copy_ #[65, 65] ty #[.slice (some ⟨g, i * 4, none⟩) (n + 1 - i) dc, .slice (some ⟨vb, 0, none⟩) 1 vc]).run Try.prog W1 = .ok (goInt 1) W2 := fun ty dc => by
    have h := run_copy_wide (P := Try.prog) W1 65 65 ty 35 4 g (i * 4) (n + 1 - i) dc 1 ⟨vb, 0, none⟩ 1 vc _ _ us Try.underlying65 Try.siInsN hg1 (by simp only [Nat.min_def]; split <;> omega) (by omega)
      (fun j v hj => by rw [Addr.add_lit, Nat.zero_add, cell_of_row W1 vb j us.toArray _ (0, 0) hv1]; simpa using hj) (by simp [lc1]; omega) h1u
    rw [hW2, hc2]
    simpa using h
  have hsr := shift_row cur.toList us xs (i * 4) 4 (by rw [hxl]; exact htk) (by omega) hu (by rw [hcl]; omega)
  simp only [← hc1] at hsr
  rw [← hc2, hcl] at hsr
  have hfin : InsAtN base n i (.slice (some ⟨g, 0, none⟩) n c) xs us w (.returned (.slice (some ⟨g, 0, none⟩) (n + 1) c)) W2 := by
    refine ⟨g, c, rfl, own_mk c2.toArray (by rw [putAt_len]; omega) hbg (by rw [hW2]; exact setRow_heap W1 _ _ _ _ _ hg1) hc hcm (by simpa using hsr.2) (by rw [show (n + 1) * 4 = xs.length + 4 by omega]; exact hsr.1), ?_, .inl rfl⟩
    refine ⟨by rw [hW2, hW1]; rfl, by rw [hW2, hW1]; rfl, by rw [hW2, hW1]; rfl, by rw [hW2, hW1]; simp, fun k hk hkg => ?_⟩
    have hkg : k ≠ g := fun e => hkg (by rw [e]; simp [Value.ownBlock])
    rw [hW2, setRow_other W1 _ k _ hkg, hW1, setRow_other w.drew _ k _ hkg]; rfl
  have HF := Lib.hid hfin
  have HA := Lib.hid hcp1
  have HB := Lib.hid hcp2
  unfold maxLen at hcm
  clear hfin hcp1 hcp2 hsr hg1 hv1 hW1 hW2 hc1 hc2 lc1 hcl htk hcs hr
  have mixed : Try.prog.follows .mixedOrders = true := by kernel_rfl
  have hz2' : ¬ ((i : Int) = (n : Int)) := by omega
  have hw1 : IntKind.i64.wrap ((i : Int) + 1) = (i : Int) + 1 := by rw [IntKind.wrap_i64]; omega
  have hb1 : (0 : Int) ≤ (i : Int) + 1 := by omega
  have hin : i ≤ n := by omega
  have htn : ((i : Int) + 1).toNat = i + 1 := by omega
  have hb2 : ¬ (c = i + 1) := by omega
  have hb3 : (i : Int) ≤ (n : Int) + 1 := by omega
  have hb4 : ¬ (c = i) := by omega
  go_enter Try.func92, Try.ntmps92
  go_wp2_with (simp only [hov])
  go_region_law_o (refine step_copy_runI rfl _ _ 65 65 rfl _ _ (by simp [Act.eval, Act.put]) (by simp [Act.eval, Act.put]) (HA.out _ (n - i) (c - (i + 1)) (c - i) rfl) ?_)
  go_wp2_with (simp only [HB.out])
  go_ret
  exact HF.out
set_option maxHeartbeats 4000000 in
/-- the place is the last. -/
theorem insN_end (base n c vb vc : Nat) (A : Option Addr) (xs us : List Value) (w : World) (hr : w.ownsRow base 35 4 (.slice A n c) n xs) (hbase : base ≤ w.heap.size) (hn : n ≤ 1048576)
    (hv : w.heap[vb]? = some (.cells us.toArray 35 (0, 0))) (hu : us.length = 4) (h1u : ∀ u ∈ us, u.oneCell' = true) :
    Calls Try.prog 92 #[.slice A n c, .int .i64 n, .slice (some ⟨vb, 0, none⟩) 1 vc] w fun e w' => InsAtN base n n (.slice A n c) xs us w e w' := by
  obtain ⟨i0, hi0, hz0, hz1, hz2⟩ := info_parts Try.infoInsN
  obtain ⟨hnc, hcm, hA⟩ := own_cap hr
  unfold maxLen at hcm
  have hxl := hr.1
  have hx : putAt xs us (n * 4) = xs ++ us := by unfold putAt; rw [List.take_of_length_le (by omega), List.drop_of_length_le (by omega), List.append_nil]
  unfold InsAtN
  rw [hx]
  have hnn : ((n : Int) == (n : Int)) = true := by simp
  clear hx
  go_enter Try.func92, Try.ntmps92
  rcases own_none hr with ⟨rfl, rfl, rfl⟩ | ⟨g, rfl⟩
  all_goals
    go_wp2_with (at_builtin; refine wpList_append_lies _ rfl _ _ 65 rfl base 35 i0 (.agg #[.int .i64 0, .slice none 0 0, .slice none 0 0, .string ⟨#[]⟩]) 4 72 Try.underlying65 hi0 hz0 hz1 hz2 rfl (by decide) _ _ _ rfl hr ⟨vb, 0, none⟩ 1 vc us rfl (by omega) (fun j u hj => by rw [Addr.add_lit, Nat.zero_add, cell_of_row w vb j us.toArray _ (0, 0) hv]; simpa using hj) h1u (by omega) (by unfold maxLen; omega) (by omega) hbase _ rfl ?_)
    all_goals
      intro g' c' w1 hown hgrow hat hlt
      go_wp2
      go_ret
      refine ⟨g', c', rfl, hown, hgrow, ?_⟩
      rcases hat with h | h
      · exact .inl h
      · exact .inr (by omega)
theorem insN_any (base n c i vb vc : Nat) (A : Option Addr) (xs us : List Value) (w : World) (hr : w.ownsRow base 35 4 (.slice A n c) n xs) (hbase : base ≤ w.heap.size) (hi : i ≤ n) (hn : n ≤ 1048576)
    (hv : w.heap[vb]? = some (.cells us.toArray 35 (0, 0))) (hu : us.length = 4) (h1u : ∀ u ∈ us, u.oneCell' = true) (h1x : ∀ u ∈ xs, u.oneCell' = true) (hne : (Value.slice A n c).ownBlock ≠ some vb) :
    Calls Try.prog 92 #[.slice A n c, .int .i64 i, .slice (some ⟨vb, 0, none⟩) 1 vc] w fun e w' => InsAtN base n i (.slice A n c) xs us w e w' := by
  rcases Nat.lt_or_ge i n with h | h
  · rcases own_none hr with ⟨rfl, rfl, rfl⟩ | ⟨g, rfl⟩
    · omega
    · have hne : g ≠ vb := fun e => hne (by rw [e]; simp [Value.ownBlock])
      rcases Nat.lt_or_ge c (n + 1) with h1 | h1
      · exact insN_grow base n c i vb vc g xs us w hr hbase h hn h1 hv hu h1u h1x
      · exact insN_room base n c i vb vc g xs us w hr hbase h hn h1 hv hu h1u h1x hne
  · obtain rfl : i = n := by omega
    exact insN_end base i c vb vc A xs us w hr hbase hn hv hu h1u
end Go.Proofs.Ytmgjpmlemkkalaa

-- Sl: A list of nodes by name, as it lies in memory: keys in one row, nodes in another. No statement of the program is proved here.
namespace Go.Proofs.Ytmgjpmlemkkalaa
set_option maxRecDepth 20000
set_option linter.unusedVariables false
set_option linter.unusedSimpArgs false
open Go.RowKit

/-- a node with the slices that hold its lists. -/
structure NV where
  Ap : Option Addr
  np : Nat
  cp : Nat
  Ak : Option Addr
  nk : Nat
  ck : Nat
  nd : MNode
def NV.cells (x : NV) : List Value := [.int .i64 x.nd.kind, .slice x.Ap x.np x.cp, .slice x.Ak x.nk x.ck, .string x.nd.val]
def NV.v (x : NV) : Value := .agg #[.int .i64 x.nd.kind, .slice x.Ap x.np x.cp, .slice x.Ak x.nk x.ck, .string x.nd.val]
def nv0 : NV := ⟨none, 0, 0, none, 0, 0, node0⟩
theorem NV.cells_len (x : NV) : x.cells.length = 4 := rfl
theorem NV.one (x : NV) : ∀ u ∈ x.cells, u.oneCell' = true := by
  intro u hu
  unfold NV.cells at hu
  simp at hu
  rcases hu with rfl | rfl | rfl | rfl <;> rfl
/-- block g holds some of the node's lists. -/
def NV.use (x : NV) (g : Nat) : Prop := (0 < x.np ∧ ∃ a, x.Ap = some a ∧ a.block = g) ∨ (0 < x.nk ∧ ∃ a, x.Ak = some a ∧ a.block = g)
theorem NV.of {w : World} {B : Nat} {v : Value} {nd : MNode} (h : NodeIn w B v nd) : ∃ x : NV, x.v = v ∧ x.nd = nd := by
  obtain ⟨Ap, np, cp, Ak, nk, ck, rfl, _⟩ := h
  exact ⟨⟨Ap, np, cp, Ak, nk, ck, nd⟩, rfl, rfl⟩
theorem Ints.use {w : World} {B n : Nat} {A : Option Addr} {xs : List Int} (h : Ints w B A n xs) (hn : 0 < n) (a : Addr) (ha : A = some a) : a.block < B := by
  obtain ⟨b, off, e, hb, _⟩ := h.2 hn
  rw [ha] at e; cases e; exact hb
theorem Kids.use {w : World} {B n : Nat} {A : Option Addr} {xs : List (Int × Int)} (h : Kids w B A n xs) (hn : 0 < n) (a : Addr) (ha : A = some a) : a.block < B := by
  obtain ⟨b, off, e, hb, _⟩ := h.at_ hn
  rw [ha] at e; cases e; exact hb
theorem NV.use_lt {w : World} {B : Nat} {x : NV} (h : NodeIn w B x.v x.nd) (g : Nat) (hg : x.use g) : g < B := by
  obtain ⟨Ap, np, cp, Ak, nk, ck, e, _, _, _, h1, h2⟩ := h
  unfold NV.v at e
  injection e with e
  simp at e
  obtain ⟨⟨e1, e2, e3⟩, e4, e5, e6⟩ := e
  rcases hg with ⟨hn, a, ha, rfl⟩ | ⟨hn, a, ha, rfl⟩
  · exact h1.use (by omega) a (e1 ▸ ha)
  · exact h2.use (by omega) a (e4 ▸ ha)

theorem Ints.touch {S : Nat → Prop} {w w' : World} {B n : Nat} {A : Option Addr} {xs : List Int} (h : Ints w B A n xs) (t : Touch S w w') (hB : B ≤ w.heap.size) (hn : 0 < n → ∀ a, A = some a → ¬ S a.block) : Ints w' B A n xs := by
  refine ⟨h.1, fun h0 => ?_⟩
  obtain ⟨b, off, e, hb, hc⟩ := h.2 h0
  refine ⟨b, off, e, hb, fun i hi => ?_⟩
  rw [World.cell?_of_block (t.block b (by omega) (hn h0 _ e))]
  exact hc i hi
theorem Kids.touch {S : Nat → Prop} {w w' : World} {B n : Nat} {A : Option Addr} {xs : List (Int × Int)} (h : Kids w B A n xs) (t : Touch S w w') (hB : B ≤ w.heap.size) (hn : 0 < n → ∀ a, A = some a → ¬ S a.block) : Kids w' B A n xs :=
  ⟨h.1, h.2.touch t hB (fun h0 => hn (by omega))⟩
theorem NV.touch {S : Nat → Prop} {w w' : World} {B : Nat} {x : NV} (h : NodeIn w B x.v x.nd) (t : Touch S w w') (hB : B ≤ w.heap.size) (hn : ∀ g, x.use g → ¬ S g) : NodeIn w' B x.v x.nd := by
  obtain ⟨Ap, np, cp, Ak, nk, ck, e, h1, h2, h3, h4, h5⟩ := h
  unfold NV.v at e
  injection e with e
  simp at e
  obtain ⟨⟨e1, e2, e3⟩, e4, e5, e6⟩ := e
  refine ⟨Ap, np, cp, Ak, nk, ck, by unfold NV.v; rw [e1, e2, e3, e4, e5, e6], h1, h2, h3, h4.touch t hB (fun h0 a ha => hn _ (.inl ⟨by omega, a, by rw [e1]; exact ha, rfl⟩)), h5.touch t hB (fun h0 a ha => hn _ (.inr ⟨by omega, a, by rw [e4]; exact ha, rfl⟩))⟩

/-- a list with one more put in at a place. -/
def insP {α : Type} (l : List α) (i : Nat) (q : α) : List α := l.take i ++ q :: l.drop i
theorem insP_len {α : Type} (l : List α) (i : Nat) (q : α) (h : i ≤ l.length) : (insP l i q).length = l.length + 1 := by unfold insP; simp; omega
theorem insP_mem {α : Type} (l : List α) (i : Nat) (q x : α) : x ∈ insP l i q ↔ x = q ∨ x ∈ l := by
  unfold insP
  conv => rhs; rw [← List.take_append_drop i l]
  simp only [List.mem_append, List.mem_cons]
  constructor
  · rintro (h | h | h)
    · exact .inr (.inl h)
    · exact .inl h
    · exact .inr (.inr h)
  · rintro (h | h | h)
    · exact .inr (.inl h)
    · exact .inl h
    · exact .inr (.inr h)
theorem insP_map {α β : Type} (f : α → β) (l : List α) (i : Nat) (q : α) : (insP l i q).map f = insP (l.map f) i (f q) := by unfold insP; simp [List.map_take, List.map_drop]
theorem insP_end {α : Type} (l : List α) (q : α) : insP l l.length q = l ++ [q] := by unfold insP; simp
theorem insP_low (l : List Int) (m : Int) (h : m ∉ l) : insP l (lowI l m) m = insI l m := by unfold insP insI; rw [lowI_place l m h]
theorem flat_take {α : Type} (f : α → List Value) (c : Nat) (hf : ∀ x, (f x).length = c) (l : List α) (i : Nat) : (l.flatMap f).take (i * c) = (l.take i).flatMap f := by
  induction l generalizing i with
  | nil => simp
  | cons x l ih =>
    cases i with
    | zero => simp
    | succ i =>
      rw [List.flatMap_cons, List.take_succ_cons, List.flatMap_cons, List.take_append, hf x, List.take_of_length_le (by rw [hf x, Nat.succ_mul]; omega), show (i + 1) * c - c = i * c by rw [Nat.succ_mul]; omega, ih i]
theorem flat_drop {α : Type} (f : α → List Value) (c : Nat) (hf : ∀ x, (f x).length = c) (l : List α) (i : Nat) : (l.flatMap f).drop (i * c) = (l.drop i).flatMap f := by
  induction l generalizing i with
  | nil => simp
  | cons x l ih =>
    cases i with
    | zero => simp
    | succ i =>
      rw [List.flatMap_cons, List.drop_succ_cons, List.drop_append, hf x, List.drop_of_length_le (by rw [hf x, Nat.succ_mul]; omega), show (i + 1) * c - c = i * c by rw [Nat.succ_mul]; omega, ih i, List.nil_append]
theorem flat_len {α : Type} (f : α → List Value) (c : Nat) (hf : ∀ x, (f x).length = c) (l : List α) : (l.flatMap f).length = l.length * c := by
  induction l with
  | nil => simp
  | cons x l ih => rw [List.flatMap_cons, List.length_append, ih, hf x, List.length_cons, Nat.succ_mul]; omega
theorem flat_put {α : Type} (f : α → List Value) (c : Nat) (hf : ∀ x, (f x).length = c) (l : List α) (i : Nat) (q : α) : putAt (l.flatMap f) (f q) (i * c) = (insP l i q).flatMap f := by
  unfold putAt insP
  rw [flat_take f c hf, flat_drop f c hf, List.flatMap_append, List.flatMap_cons, List.append_assoc]
theorem flat_at {α : Type} (f : α → List Value) (c : Nat) (hf : ∀ x, (f x).length = c) (l : List α) (i k : Nat) (hk : k < c) (hi : i < l.length) : (l.flatMap f)[i * c + k]? = (f l[i])[k]? := by
  have h1 : ((l.flatMap f).drop (i * c))[k]? = (l.flatMap f)[i * c + k]? := by rw [List.getElem?_drop]
  rw [← h1, flat_drop f c hf, List.drop_eq_getElem_cons hi, List.flatMap_cons, List.getElem?_append_left (by rw [hf]; exact hk)]

def nvs (ps : List (Int × NV)) : List Value := ps.flatMap fun p => p.2.cells
theorem nvs_len (ps : List (Int × NV)) : (nvs ps).length = ps.length * 4 := flat_len _ 4 (fun x => rfl) ps
theorem nvs_put (ps : List (Int × NV)) (i : Nat) (q : Int × NV) : putAt (nvs ps) q.2.cells (i * 4) = nvs (insP ps i q) := flat_put (fun p : Int × NV => p.2.cells) 4 (fun x => rfl) ps i q
theorem nvs_one (ps : List (Int × NV)) : ∀ u ∈ nvs ps, u.oneCell' = true := by
  intro u hu
  obtain ⟨p, _, h⟩ := List.mem_flatMap.1 hu
  exact p.2.one u h
theorem nvs_at (ps : List (Int × NV)) (i k : Nat) (hk : k < 4) (hi : i < ps.length) : (nvs ps)[i * 4 + k]? = ps[i].2.cells[k]? := flat_at (fun p : Int × NV => p.2.cells) 4 (fun x => rfl) ps i k hk hi
def kvs (ps : List (Int × NV)) : List Int := ps.map (·.1)
theorem kvs_put (ps : List (Int × NV)) (i : Nat) (q : Int × NV) : putAt ((kvs ps).map (Value.int .i64)) [.int .i64 q.1] (i * 1) = (kvs (insP ps i q)).map (Value.int .i64) := by
  unfold kvs putAt
  rw [insP_map, insP_map]
  unfold insP
  simp
theorem kvs_one (l : List Int) : ∀ u ∈ l.map (Value.int .i64), u.oneCell' = true := by
  intro u hu
  obtain ⟨x, _, rfl⟩ := List.mem_map.1 hu
  rfl

/-- the two rows of a list. -/
structure SR where
  Ak : Option Addr
  ck : Nat
  Av : Option Addr
  cv : Nat
def SR.kv (R : SR) (n : Nat) : Value := .slice R.Ak n R.ck
def SR.vv (R : SR) (n : Nat) : Value := .slice R.Av n R.cv
def SR.at_ (R : SR) (g : Nat) : Prop := (∃ a, R.Ak = some a ∧ a.block = g) ∨ (∃ a, R.Av = some a ∧ a.block = g)
def SR0 : SR := ⟨none, 0, none, 0⟩
/-- a list of nodes by name, in memory of the call's own from lo on. -/
structure SLN (w : World) (lo : Nat) (R : SR) (ps : List (Int × NV)) : Prop where
  keys : OwnI w lo R.Ak ps.length R.ck (kvs ps)
  vals : w.ownsRow lo 35 4 (.slice R.Av ps.length R.cv) ps.length (nvs ps)
  nodes : ∀ x ∈ ps, NodeIn w w.heap.size x.2.v x.2.nd
  apart : ∀ x ∈ ps, ∀ g, x.2.use g → ¬ R.at_ g
  rise : RiseI (kvs ps)
  len : ps.length ≤ 1000
theorem SLN.nil (w : World) (lo : Nat) : SLN w lo SR0 [] := ⟨OwnI.nil _ _, World.ownsRow_nil _ _ _ _, fun x hx => by simp at hx, fun x hx => by simp at hx, List.Pairwise.nil, by simp⟩
theorem SLN.lt {w : World} {lo : Nat} {R : SR} {ps : List (Int × NV)} (h : SLN w lo R ps) (g : Nat) (hg : R.at_ g) : lo ≤ g ∧ g < w.heap.size := by
  rcases hg with ⟨a, ha, rfl⟩ | ⟨a, ha, rfl⟩
  · exact h.keys.lt _ (by rw [ha]; rfl)
  · exact h.vals.lt _ (by rw [ha]; rfl)
theorem SLN.touch {S : Nat → Prop} {w w' : World} {lo : Nat} {R : SR} {ps : List (Int × NV)} (h : SLN w lo R ps) (t : Touch S w w') (h1 : ∀ g, R.at_ g → ¬ S g) (h2 : ∀ x ∈ ps, ∀ g, x.2.use g → ¬ S g) : SLN w' lo R ps :=
  ⟨h.keys.touch t (fun g hg => h1 g (.inl (by cases e : R.Ak with | none => rw [e] at hg; simp [Value.ownBlock] at hg | some a => rw [e] at hg; exact ⟨a, rfl, by simpa [Value.ownBlock] using hg⟩))),
    own_touch h.vals t (fun g hg => h1 g (.inr (by cases e : R.Av with | none => rw [e] at hg; simp [Value.ownBlock] at hg | some a => rw [e] at hg; exact ⟨a, rfl, by simpa [Value.ownBlock] using hg⟩))),
    fun x hx => (NV.touch (h.nodes x hx) t (Nat.le_refl _) (h2 x hx)).more t.size, h.apart, h.rise, h.len⟩
theorem SLN.below {w w' : World} {lo : Nat} {R : SR} {ps : List (Int × NV)} (h : SLN w lo R ps) (hb : Below w.heap.size w w') : SLN w' lo R ps :=
  h.touch (S := fun _ => False) (Touch.of_below hb) (fun _ _ h => h) (fun _ _ _ _ h => h)
end Go.Proofs.Ytmgjpmlemkkalaa

-- SlAt: What the list of nodes answers under a name.
namespace Go.Proofs.Ytmgjpmlemkkalaa
set_option maxRecDepth 20000
set_option linter.unusedVariables false
set_option linter.unusedSimpArgs false
open Go.RowKit

/-- what stands under a name in the list. -/
def AtIs (ps : List (Int × NV)) (m : Int) (x : NV) (b : Bool) : Prop :=
  (hitI (kvs ps) m = true ∧ b = true ∧ ∃ h : lowI (kvs ps) m < ps.length, ps[lowI (kvs ps) m] = (m, x)) ∨ (hitI (kvs ps) m = false ∧ b = false ∧ x = nv0)
theorem kvs_at (ps : List (Int × NV)) (i : Nat) (h : i < ps.length) : (kvs ps)[i]?.getD 0 = ps[i].1 := by unfold kvs; simp [h]
theorem kvs_len (ps : List (Int × NV)) : (kvs ps).length = ps.length := by simp [kvs]
theorem hit_parts (ps : List (Int × NV)) (m : Int) (h : hitI (kvs ps) m = true) : ∃ h : lowI (kvs ps) m < ps.length, ps[lowI (kvs ps) m].1 = m := by
  unfold hitI at h
  obtain ⟨h1, h2⟩ := of_decide_eq_true h
  rw [kvs_len] at h1
  exact ⟨h1, by rw [kvs_at ps _ h1] at h2; exact h2⟩
theorem SLN.row {w : World} {lo : Nat} {R : SR} {ps : List (Int × NV)} (h : SLN w lo R ps) (hn : 0 < ps.length) : ∃ g, R.Av = some ⟨g, 0, none⟩ ∧ lo ≤ g ∧ g < w.heap.size := by
  obtain ⟨g, cap, hv, h1, h2⟩ := World.ownsRow.form h.vals hn
  injection hv with hA
  exact ⟨g, hA, h1, h2⟩
set_option maxHeartbeats 1000000 in
theorem at_box {T : TypeId} {zs : Array Value} (p lo : Nat) (R : SR) (ps : List (Int × NV)) (m : Int) (w : World) (hx : Box w p T zs) (hz0 : zs[0]? = some (R.kv ps.length)) (hz1 : zs[1]? = some (R.vv ps.length)) (h : SLN w lo R ps) :
    Calls Try.prog 50 #[.pointer (some ⟨p, 0, none⟩), .int .i64 m] w fun e w' => ∃ x b, e = .returned (.tuple #[x.v, .bool b]) ∧ AtIs ps m x b ∧ Below w.heap.size w w' := by
  have hlen := h.len
  obtain ⟨w1, hw1⟩ : ∃ w1, w.alloc (.cells #[.int .i64 0, .slice none 0 0, .slice none 0 0, .string { data := #[] }] 35) = w1 := ⟨_, rfl⟩
  have x1 : Box w1 w.heap.size _ _ := hw1 ▸ heap_alloc_new _ _
  have s1 : w1.heap.size = w.heap.size + 1 := hw1 ▸ by simp
  have b1 : Below w.heap.size w w1 := hw1 ▸ (Below.refl _ _).alloc (Nat.le_refl _) _
  have hp := hx.lt
  have X1 := Lib.hid x1
  have B1 := Lib.hid b1
  have P1 := Lib.hid (hx.below b1 hp)
  have HS := Lib.hid (h.below b1)
  clear x1 b1 hx h
  have q0 := (P1.out.cell 0).trans hz0
  have q1 := (P1.out.cell 1).trans hz1
  have Z0 := Lib.hid hz0
  have Z1 := Lib.hid hz1
  clear hz0 hz1
  unfold SR.kv at q0
  unfold SR.vv at q1
  go_enter Try.func50, Try.ntmps50
  go_wp2_with fail
  refine (search_any R.Ak ps.length R.ck (kvs ps) m w1.heap.size w1 (by omega) HS.out.keys.ints HS.out.rise).mono ?_
  rintro e w2 ⟨rfl, nq, hq⟩
  have b2 : Below w1.heap.size w1 w2 := by rw [hq]; exact below_drewN (Below.refl _ _) nq
  have X2 := Lib.hid (X1.out.below b2 (by omega))
  have P2 := Lib.hid (P1.out.below b2 (by omega))
  have S2 := Lib.hid (HS.out.below b2)
  have B2 := Lib.hid (B1.out.trans (b2.mono (by omega)))
  have hs2 : w2.heap.size = w.heap.size + 1 := by rw [hq]; simpa using s1
  clear hq b2 hw1 q0 q1
  have q0 := (P2.out.cell 0).trans Z0.out
  have q1 := (P2.out.cell 1).trans Z1.out
  unfold SR.kv at q0
  unfold SR.vv at q1
  have q20 := X2.out.cell 0
  have q21 := X2.out.cell 1
  have q22 := X2.out.cell 2
  have q23 := X2.out.cell 3
  have f2 := X2.out.free
  simp at q20 q21 q22 q23
  obtain ⟨ht, hht⟩ : ∃ ht, hitI (kvs ps) m = ht := ⟨_, rfl⟩
  have HT := Lib.hid hht
  rw [hht]
  clear hht
  cases ht with
  | true =>
    obtain ⟨hk, he⟩ := hit_parts ps m HT.out
    obtain ⟨x, hx⟩ : ∃ x, ps[lowI (kvs ps) m].2 = x := ⟨_, rfl⟩
    have HX := Lib.hid (show ps[lowI (kvs ps) m] = (m, x) from Prod.ext he hx)
    obtain ⟨g, hg, _, hgl⟩ := S2.out.row (by omega)
    have hv := S2.out.vals
    rw [hg] at hv q1
    have hc : ∀ k, k < 4 → w2.cell? ⟨g, lowI (kvs ps) m * 4 + k, none⟩ = x.cells[k]? := fun k hk4 => by
      rw [World.ownsRow.cellAt hv _ (by omega), nvs_at ps _ k hk4 hk, hx]
    have c0 := hc 0 (by omega)
    have c1 := hc 1 (by omega)
    have c2 := hc 2 (by omega)
    have c3 := hc 3 (by omega)
    unfold NV.cells at c0 c1 c2 c3
    simp at c0 c1 c2 c3
    clear hc hv hg he hx
    obtain ⟨i, hi⟩ : ∃ i, lowI (kvs ps) m = i := ⟨_, rfl⟩
    have HI := Lib.hid hi
    rw [hi] at c0 c1 c2 c3 hk ⊢
    clear hi
    obtain ⟨Ap, np, cp, Ak, nk, ck, nd⟩ := x
    simp only at c0 c1 c2 c3
    have s4 := set4 X2.out (.int .i64 nd.kind) (.slice Ap np cp) (.slice Ak nk ck) (.string nd.val)
    have S4 := Lib.hid s4
    clear s4
    go_wp2
    refine bodyPost_ret (v := .tuple #[.agg #[.int .i64 nd.kind, .slice Ap np cp, .slice Ak nk ck, .string nd.val], .bool true]) (results_box2 Try.results50 _ _ w.heap.size _ _ _ _ rfl rfl S4.out.1 Try.underlying35 rfl (by kernel_rfl)) rfl ?_
    exact ⟨⟨Ap, np, cp, Ak, nk, ck, nd⟩, true, rfl, .inl ⟨HT.out, rfl, by rw [HI.out]; exact hk, by simpa [HI.out] using HX.out⟩, B2.out.trans (S4.out.2.below (by omega) (fun k hk e => by omega))⟩
  | false =>
    obtain ⟨i, hi⟩ : ∃ i, lowI (kvs ps) m = i := ⟨_, rfl⟩
    rw [hi]
    clear hi
    obtain ⟨w3, hw3⟩ : ∃ w3, w2.alloc (.cells #[.int .i64 0, .slice none 0 0, .slice none 0 0, .string { data := #[] }] 35) = w3 := ⟨_, rfl⟩
    have X3 := Lib.hid (show Box w3 w.heap.size 35 _ from X2.out.below (hw3 ▸ (Below.refl w2.heap.size w2).alloc (Nat.le_refl _) _) (by omega))
    have y3 : Box w3 w2.heap.size 35 #[.int .i64 0, .slice none 0 0, .slice none 0 0, .string { data := #[] }] := hw3 ▸ heap_alloc_new _ _
    rw [hs2] at y3
    have Y3 := Lib.hid y3
    have B3 := Lib.hid (B2.out.trans ((show Below w2.heap.size w2 w3 from hw3 ▸ (Below.refl w2.heap.size w2).alloc (Nat.le_refl _) _).mono (by omega)))
    clear q0 q1 q20 q21 q22 q23 f2 y3
    have q20 := X3.out.cell 0
    have q21 := X3.out.cell 1
    have q22 := X3.out.cell 2
    have q23 := X3.out.cell 3
    have f2 := X3.out.free
    have y20 := Y3.out.cell 0
    have y21 := Y3.out.cell 1
    have y22 := Y3.out.cell 2
    have y23 := Y3.out.cell 3
    simp at q20 q21 q22 q23 y20 y21 y22 y23
    have s4 := set4 X3.out (.int .i64 0) (.slice none 0 0) (.slice none 0 0) (.string { data := #[] })
    have S4 := Lib.hid s4
    clear s4
    go_wp2
    refine bodyPost_ret (v := .tuple #[.agg #[.int .i64 0, .slice none 0 0, .slice none 0 0, .string { data := #[] }], .bool false]) (results_box2 Try.results50 _ _ w.heap.size _ _ _ _ rfl rfl S4.out.1 Try.underlying35 rfl (by kernel_rfl)) rfl ?_
    exact ⟨nv0, false, rfl, .inr ⟨HT.out, rfl, rfl⟩, B3.out.trans (S4.out.2.below (by have := B3.out.size; omega) (fun k hk e => by omega))⟩
theorem at_any (p lo : Nat) (R : SR) (ps : List (Int × NV)) (m : Int) (w : World) (hx : Box w p 67 #[R.kv ps.length, R.vv ps.length]) (h : SLN w lo R ps) :
    Calls Try.prog 50 #[.pointer (some ⟨p, 0, none⟩), .int .i64 m] w fun e w' => ∃ x b, e = .returned (.tuple #[x.v, .bool b]) ∧ AtIs ps m x b ∧ Below w.heap.size w w' := at_box p lo R ps m w hx rfl rfl h
end Go.Proofs.Ytmgjpmlemkkalaa

-- SlPut: Putting a node into the list under a name.
namespace Go.Proofs.Ytmgjpmlemkkalaa
set_option maxRecDepth 100000
set_option linter.unusedVariables false
set_option linter.unusedSimpArgs false
open Go.RowKit

theorem kvs_not (ps : List (Int × NV)) (m : Int) (h : RiseI (kvs ps)) (ht : hitI (kvs ps) m = false) : m ∉ kvs ps := fun hm => by
  rw [(hitI_mem _ _ h).2 hm] at ht; cases ht
theorem own_box_ne {w : World} {lo p size n : Nat} {e t : TypeId} {cs : Array Value} {v : Value} {xs : List Value} (h : w.ownsRow lo e size v n xs) (hb : Box w p t cs) (hne : t ≠ e) : v.ownBlock ≠ some p := fun hv => by
  rcases h.2 with ⟨rfl, _⟩ | ⟨g, cap, cur, rfl, _, hg, _⟩
  · simp [Value.ownBlock] at hv
  · simp [Value.ownBlock] at hv
    subst hv
    rw [show w.heap[g]? = _ from hb] at hg
    cases hg
    exact hne rfl
theorem own_own_ne {w : World} {lo lo' size size' n n' : Nat} {e e' : TypeId} {v v' : Value} {xs xs' : List Value} (h : w.ownsRow lo e size v n xs) (h' : w.ownsRow lo' e' size' v' n' xs') (hne : e ≠ e') (g : Nat) (hv : v.ownBlock = some g) : v'.ownBlock ≠ some g := fun hv' => by
  rcases h.2 with ⟨rfl, _⟩ | ⟨g1, cap, cur, rfl, _, hg, _⟩
  · simp [Value.ownBlock] at hv
  · rcases h'.2 with ⟨rfl, _⟩ | ⟨g2, cap2, cur2, rfl, _, hg2, _⟩
    · simp [Value.ownBlock] at hv'
    · simp [Value.ownBlock] at hv hv'
      subst hv
      subst hv'
      rw [hg] at hg2
      cases hg2
      exact hne rfl
theorem SR.kvAt (R : SR) (n g : Nat) (h : (R.kv n).ownBlock = some g) : R.at_ g := by
  unfold SR.kv at h
  cases e : R.Ak with
  | none => rw [e] at h; simp [Value.ownBlock] at h
  | some a => rw [e] at h; exact .inl ⟨a, e, by simpa [Value.ownBlock] using h⟩
theorem SR.vvAt (R : SR) (n g : Nat) (h : (R.vv n).ownBlock = some g) : R.at_ g := by
  unfold SR.vv at h
  cases e : R.Av with
  | none => rw [e] at h; simp [Value.ownBlock] at h
  | some a => rw [e] at h; exact .inr ⟨a, e, by simpa [Value.ownBlock] using h⟩
/-- the rows behind a putting: those of before, or new ones. -/
def SR.from_ (R' R : SR) (B : Nat) : Prop := ∀ g, R'.at_ g → R.at_ g ∨ B ≤ g
theorem lowI_len (ps : List (Int × NV)) (m : Int) : lowI (kvs ps) m ≤ ps.length := by have := lowI_le (kvs ps) m; rw [kvs_len] at this; exact this
/-- what a putting leaves, once both rows are made. -/
theorem put_fin (p lo : Nat) (R : SR) (ps : List (Int × NV)) (m : Int) (x : NV) (w w5 w6 : World) (h : SLN w lo R ps) (hp : p < w.heap.size)
    (hn : NodeIn w w.heap.size x.v x.nd) (hu : ∀ g, x.use g → ¬ R.at_ g) (hup : ∀ g, x.use g → g ≠ p) (hpp : ∀ y ∈ ps, ∀ g, y.2.use g → g ≠ p) (hl : ps.length < 1000) (ht : hitI (kvs ps) m = false)
    (g4 c4 g6 c6 : Nat) (T5 : Touch (fun g => g = p ∨ R.at_ g) w w5)
    (P5 : Box w5 p 67 #[.slice (some ⟨g4, 0, none⟩) (ps.length + 1) c4, R.vv ps.length])
    (K5 : OwnI w5 lo (some ⟨g4, 0, none⟩) (ps.length + 1) c4 (kvs (insP ps (lowI (kvs ps) m) (m, x)))) (G4 : R.at_ g4 ∨ w.heap.size ≤ g4)
    (V5 : w5.ownsRow lo 35 4 (R.vv ps.length) ps.length (nvs ps))
    (t6 : Touch (fun g => (R.vv ps.length).ownBlock = some g) w5 w6)
    (o6 : w6.ownsRow lo 35 4 (.slice (some ⟨g6, 0, none⟩) (ps.length + 1) c6) (ps.length + 1) (nvs (insP ps (lowI (kvs ps) m) (m, x)))) (G6 : R.at_ g6 ∨ w.heap.size ≤ g6) :
    Box w6 p 67 #[.slice (some ⟨g4, 0, none⟩) (ps.length + 1) c4, R.vv ps.length] ∧
    ∃ R', Box (w6.setCell ⟨p, 1, none⟩ (.slice (some ⟨g6, 0, none⟩) (ps.length + 1) c6)) p 67 #[R'.kv (ps.length + 1), R'.vv (ps.length + 1)] ∧
      SLN (w6.setCell ⟨p, 1, none⟩ (.slice (some ⟨g6, 0, none⟩) (ps.length + 1) c6)) lo R' (insP ps (lowI (kvs ps) m) (m, x)) ∧ R'.from_ R w.heap.size ∧ Touch (fun g => g = p ∨ R.at_ g) w (w6.setCell ⟨p, 1, none⟩ (.slice (some ⟨g6, 0, none⟩) (ps.length + 1) c6)) := by
  have hvp : (R.vv ps.length).ownBlock ≠ some p := own_box_ne V5 P5 (by decide)
  have s5 := T5.size
  have P6 : Box w6 p 67 #[.slice (some ⟨g4, 0, none⟩) (ps.length + 1) c4, R.vv ps.length] := (t6.block p (by omega) (fun e => hvp e)).trans P5
  have K6 := K5.touch t6 (fun g hg e => own_own_ne K5 V5 (by decide) g hg e)
  have g4p : g4 ≠ p := fun e => own_box_ne K6 P6 (by decide) (by rw [e]; rfl)
  have g6p : g6 ≠ p := fun e => own_box_ne o6 P6 (by decide) (by rw [e]; rfl)
  obtain ⟨w7, hw7⟩ : ∃ w7, w6.setCell ⟨p, 1, none⟩ (.slice (some ⟨g6, 0, none⟩) (ps.length + 1) c6) = w7 := ⟨_, rfl⟩
  have t7 : Touch (fun g => g = p) w6 w7 := by rw [← hw7]; exact touch_set w6 p 1 _ rfl
  have P7 : Box w7 p 67 #[.slice (some ⟨g4, 0, none⟩) (ps.length + 1) c4, .slice (some ⟨g6, 0, none⟩) (ps.length + 1) c6] := by rw [← hw7]; exact P6.set_ 1 _
  have K7 := K6.touch t7 (fun g hg e => g4p (by have e2 : g4 = g := (by simpa [Value.ownBlock] using hg); omega))
  have O7 := own_touch o6 t7 (fun g hg e => g6p (by have e2 : g6 = g := (by simpa [Value.ownBlock] using hg); omega))
  rw [hw7]
  have T7 : Touch (fun g => g = p ∨ R.at_ g) w w7 := (T5.trans (t6.mono (fun k hk => .inr (R.vvAt _ _ hk)))).trans (t7.mono (fun k hk => .inl hk))
  have hfrom : (⟨some ⟨g4, 0, none⟩, c4, some ⟨g6, 0, none⟩, c6⟩ : SR).from_ R w.heap.size := fun g hg => by
    rcases hg with ⟨a, ha, e⟩ | ⟨a, ha, e⟩
    · cases ha; subst e; exact G4
    · cases ha; subst e; exact G6
  have hli := lowI_len ps m
  have hln : (insP ps (lowI (kvs ps) m) (m, x)).length = ps.length + 1 := insP_len _ _ _ hli
  have hnode : ∀ y ∈ insP ps (lowI (kvs ps) m) (m, x), NodeIn w w.heap.size y.2.v y.2.nd ∧ (∀ g, y.2.use g → ¬ (g = p ∨ R.at_ g)) := fun y hy => by
    rcases (insP_mem _ _ _ _).1 hy with rfl | hy
    · exact ⟨hn, fun g hg e => e.elim (hup g hg) (hu g hg)⟩
    · exact ⟨h.nodes y hy, fun g hg e => e.elim (hpp y hy g hg) (h.apart y hy g hg)⟩
  refine ⟨P6, ⟨some ⟨g4, 0, none⟩, c4, some ⟨g6, 0, none⟩, c6⟩, P7, ⟨by rw [hln]; exact K7, by rw [hln]; exact O7, fun y hy => ?_, fun y hy g hg e => ?_, ?_, by omega⟩, hfrom, T7⟩
  · exact (NV.touch (hnode y hy).1 T7 (Nat.le_refl _) (hnode y hy).2).more T7.size
  · rcases hfrom g e with e | e
    · exact (hnode y hy).2 g hg (.inr e)
    · have := NV.use_lt (hnode y hy).1 g hg
      omega
  · have hm := kvs_not ps m h.rise ht
    have e : kvs (insP ps (lowI (kvs ps) m) (m, x)) = insI (kvs ps) m := by rw [← insP_low _ _ hm]; exact insP_map _ _ _ _
    rw [e]
    exact insI_rise _ _ h.rise hm
set_option maxHeartbeats 2000000 in
theorem put_any (p lo : Nat) (R : SR) (ps : List (Int × NV)) (m : Int) (x : NV) (w : World) (hx : Box w p 67 #[R.kv ps.length, R.vv ps.length]) (h : SLN w lo R ps) (hlo : lo ≤ w.heap.size)
    (hn : NodeIn w w.heap.size x.v x.nd) (hu : ∀ g, x.use g → ¬ R.at_ g) (hup : ∀ g, x.use g → g ≠ p) (hpp : ∀ y ∈ ps, ∀ g, y.2.use g → g ≠ p) (hl : ps.length < 1000) :
    Calls Try.prog 67 #[.pointer (some ⟨p, 0, none⟩), .int .i64 m, x.v] w fun e w' =>
      (hitI (kvs ps) m = true ∧ e = .returned (.bool false) ∧ Below w.heap.size w w') ∨
      (hitI (kvs ps) m = false ∧ e = .returned (.bool true) ∧ ∃ R', Box w' p 67 #[R'.kv (ps.length + 1), R'.vv (ps.length + 1)] ∧ SLN w' lo R' (insP ps (lowI (kvs ps) m) (m, x)) ∧ R'.from_ R w.heap.size ∧ Touch (fun g => g = p ∨ R.at_ g) w w') := by
  have mixed : Try.prog.follows .mixedOrders = true := by kernel_rfl
  have hlen := h.len
  obtain ⟨Ap, np, cp, Ak, nk, ck, nd⟩ := x
  obtain ⟨w1, hw1⟩ : ∃ w1, w.alloc (.cells #[.int .i64 nd.kind, .slice Ap np cp, .slice Ak nk ck, .string nd.val] 35) = w1 := ⟨_, rfl⟩
  have x1 : Box w1 w.heap.size _ _ := hw1 ▸ heap_alloc_new _ _
  have s1 : w1.heap.size = w.heap.size + 1 := hw1 ▸ by simp
  have b1 : Below w.heap.size w w1 := hw1 ▸ (Below.refl _ _).alloc (Nat.le_refl _) _
  have hp := hx.lt
  have X1 := Lib.hid x1
  have B1 := Lib.hid b1
  have P1 := Lib.hid (hx.below b1 hp)
  have HS := Lib.hid (h.below b1)
  have H0 := Lib.hid h
  have N0 := Lib.hid hn
  have HN := Lib.hid (hn.below b1)
  have HRL := Lib.hid (fun g hg => (h.lt g hg).2)
  clear x1 b1 hx h hn
  have q0 := P1.out.cell 0
  have q1 := P1.out.cell 1
  unfold SR.kv at q0
  unfold SR.vv at q1
  simp at q0 q1
  unfold NV.v
  go_enter Try.func67, Try.ntmps67
  go_wp2_with fail
  refine (search_any R.Ak ps.length R.ck (kvs ps) m w1.heap.size w1 (by omega) HS.out.keys.ints HS.out.rise).mono ?_
  rintro e w2 ⟨rfl, nq, hq⟩
  have b2 : Below w1.heap.size w1 w2 := by rw [hq]; exact below_drewN (Below.refl _ _) nq
  have X2 := Lib.hid (X1.out.below b2 (by omega))
  have P2 := Lib.hid (P1.out.below b2 (by omega))
  have S2 := Lib.hid (HS.out.below b2)
  have N2 := Lib.hid (HN.out.below (b2.mono (by omega)))
  have B2 := Lib.hid (B1.out.trans (b2.mono (by omega)))
  have hs2 : w2.heap.size = w.heap.size + 1 := by rw [hq]; simpa using s1
  clear hq b2 hw1 q0 q1
  have q0 := P2.out.cell 0
  have q1 := P2.out.cell 1
  have p0 := P2.out.free
  unfold SR.kv at q0
  unfold SR.vv at q1
  simp at q0 q1
  obtain ⟨ht, hht⟩ : ∃ ht, hitI (kvs ps) m = ht := ⟨_, rfl⟩
  have HT := Lib.hid hht
  rw [hht]
  clear hht
  obtain ⟨i, hi⟩ : ∃ i, lowI (kvs ps) m = i := ⟨_, rfl⟩
  have hil : i ≤ ps.length := by rw [← hi]; exact lowI_len ps m
  have HI := Lib.hid hi
  rw [hi]
  clear hi
  cases ht with
  | true =>
    go_wp2
    go_ret
    exact .inl ⟨HT.out, rfl, B2.out⟩
  | false =>
    -- the key's own block
    obtain ⟨w3, hw3⟩ : ∃ w3, w2.alloc (.cells #[.int .i64 m] 2) = w3 := ⟨_, rfl⟩
    have b3 : Below w2.heap.size w2 w3 := hw3 ▸ (Below.refl w2.heap.size w2).alloc (Nat.le_refl _) _
    have y3 : Box w3 w2.heap.size 2 #[.int .i64 m] := hw3 ▸ heap_alloc_new _ _
    have s3 : w3.heap.size = w.heap.size + 2 := by rw [← hw3]; simp [hs2]
    rw [hs2] at y3
    have X3 := Lib.hid (X2.out.below b3 (by omega))
    have P3 := Lib.hid (P2.out.below b3 (by omega))
    have S3 := Lib.hid (S2.out.below b3)
    have N3 := Lib.hid (N2.out.below (b3.mono (by omega)))
    have B3 := Lib.hid (B2.out.trans (b3.mono (by omega)))
    have Y3 := Lib.hid y3
    clear b3 y3
    go_wp2_with fail
    refine (insI_any lo ps.length R.ck i (w.heap.size + 1) _ R.Ak ((kvs ps).map (Value.int .i64)) [.int .i64 m] w3 S3.out.keys (by omega) hil (by omega) Y3.out rfl (by intro u hu; simp at hu; subst hu; rfl) (kvs_one _) (fun e => by have := (S2.out.keys.lt _ e).2; omega)).mono ?_
    rintro e w4 ⟨g4, c4, rfl, o4, gr4, at4⟩
    rw [show ([.int .i64 m] : List Value) = [.int .i64 ((m, (⟨Ap, np, cp, Ak, nk, ck, nd⟩ : NV)) : Int × NV).1] from rfl, kvs_put] at o4
    have gk4 := gr4
    have gr4 : Touch (fun g => R.at_ g) w3 w4 := (Touch.of_grown gr4).mono (fun k hk => R.kvAt _ _ hk.symm)
    have kp : (R.kv ps.length).ownBlock ≠ some p := own_box_ne S3.out.keys P3.out (by decide)
    have np_ : ¬ R.at_ p := fun h => by
      rcases h with ⟨a, ha, e⟩ | ⟨a, ha, e⟩
      · exact kp (by unfold SR.kv; rw [ha, ← e]; rfl)
      · exact own_box_ne S3.out.vals P3.out (by decide) (by rw [ha, ← e]; rfl)
    have s4 : w3.heap.size ≤ w4.heap.size := gr4.size
    have P4 := Lib.hid (show Box w4 p _ _ from (gr4.block p (by omega) np_).trans P3.out)
    have X4 := Lib.hid (show Box w4 w.heap.size _ _ from (gr4.block _ (by omega) (fun h => by have := HRL.out _ h; omega)).trans X3.out)
    have V4 := Lib.hid (own_touch S3.out.vals (S := fun g => (R.kv ps.length).ownBlock = some g) ((Touch.of_grown (show w3.grownBy w4 (R.kv ps.length).ownBlock from gk4)).mono (fun k hk => hk.symm)) (fun g hg hk => own_own_ne S3.out.keys S3.out.vals (by decide) g hk hg))
    have V4p : (R.vv ps.length).ownBlock ≠ some p := own_box_ne V4.out P4.out (by decide)
    have K4 := Lib.hid (show OwnI w4 lo (some ⟨g4, 0, none⟩) (ps.length + 1) c4 _ from o4)
    have g4p : g4 ≠ p := fun e => own_box_ne o4 P4.out (by decide) (by rw [e]; rfl)
    have G4 := Lib.hid at4
    clear o4 gk4 at4 q0 q1 p0
    have f4 := P4.out.free
    have q4 := P4.out.cell 0
    simp at q4
    obtain ⟨w5, hw5⟩ : ∃ w5, w4.setCell ⟨p, 0, none⟩ (.slice (some ⟨g4, 0, none⟩) (ps.length + 1) c4) = w5 := ⟨_, rfl⟩
    have t5 : Touch (fun g => g = p) w4 w5 := by rw [← hw5]; exact touch_set w4 p 0 _ rfl
    have s5 : w5.heap.size = w4.heap.size := by rw [← hw5]; simp
    have P5 := Lib.hid (show Box w5 p _ #[.slice (some ⟨g4, 0, none⟩) (ps.length + 1) c4, R.vv ps.length] from by rw [← hw5]; exact P4.out.set_ 0 _)
    have X5 := Lib.hid (show Box w5 w.heap.size _ _ from (t5.block _ (by omega) (by omega)).trans X4.out)
    have V5 := Lib.hid (own_touch V4.out t5 (fun g hg hk => V4p (by rw [← hk]; exact hg)))
    have K5 := Lib.hid (K4.out.touch t5 (fun g hg hk => g4p (by have e : g4 = g := (by simpa [Value.ownBlock] using hg); omega)))
    go_wp2_with fail
    clear f4 q4
    have q1 := P5.out.cell 1
    have f1 := P5.out.free
    have x0 := X5.out.cell 0
    have x1 := X5.out.cell 1
    have x2 := X5.out.cell 2
    have x3 := X5.out.cell 3
    unfold SR.vv at q1
    simp at q1 x0 x1 x2 x3
    have V6 := Lib.hid (show (w5.alloc (.cells #[.int .i64 nd.kind, .slice Ap np cp, .slice Ak nk ck, .string nd.val] 35)).drew.ownsRow lo 35 4 (.slice R.Av ps.length R.cv) ps.length (nvs ps) from V5.out.alloc _)
    have Y6 := Lib.hid (show (w5.alloc (.cells #[.int .i64 nd.kind, .slice Ap np cp, .slice Ak nk ck, .string nd.val] 35)).drew.heap[w4.heap.size]? = some (.cells ([.int .i64 nd.kind, .slice Ap np cp, .slice Ak nk ck, .string nd.val] : List Value).toArray 35 (0, 0)) from by rw [← s5]; exact heap_alloc_new w5 _)
    have Z6 := Lib.hid (show (w5.alloc (.cells #[.int .i64 nd.kind, .slice Ap np cp, .slice Ak nk ck, .string nd.val] 35)).drew.heap.size = w4.heap.size + 1 from by rw [← s5]; simp)
    have VB := Lib.hid (fun g hg => (V5.out.lt g hg).2)
    have T5 := Lib.hid (show Touch (fun g => g = p ∨ R.at_ g) w w5 from ((Touch.of_below B3.out).trans (gr4.mono (fun k hk => .inr hk))).trans (t5.mono (fun k hk => .inl hk)))
    clear gr4 t5
    have hp4 : p < w4.heap.size := by omega
    have hp5 : p < w5.heap.size := by omega
    have hpn : ¬ (p = w4.heap.size) := by omega
    go_region_law (first
      | (go_simp
         refine (insN_any lo ps.length R.cv i w4.heap.size _ R.Av (nvs ps) [.int .i64 nd.kind, .slice Ap np cp, .slice Ak nk ck, .string nd.val] _ V6.out (by rw [Z6.out]; omega) hil (by omega) Y6.out rfl (fun u hu => (⟨Ap, np, cp, Ak, nk, ck, nd⟩ : NV).one u hu) (nvs_one _) (fun e => by have := VB.out _ e; omega)).mono ?_
         rintro e w6 ⟨g6, c6, rfl, o6, gr6, at6⟩
         rw [show ([.int .i64 nd.kind, .slice Ap np cp, .slice Ak nk ck, .string nd.val] : List Value) = ((m, (⟨Ap, np, cp, Ak, nk, ck, nd⟩ : NV)) : Int × NV).2.cells from rfl, nvs_put, ← HI.out] at o6
         have PF := put_fin p lo R ps m ⟨Ap, np, cp, Ak, nk, ck, nd⟩ w w5 w6 H0.out hp N0.out hu hup hpp hl HT.out g4 c4 g6 c6 T5.out P5.out (by rw [HI.out]; exact K5.out) (G4.out.elim (fun e => .inl (R.kvAt _ _ e)) (fun e => .inr (by omega))) V5.out
           ((Touch.of_below (below_drewN (((Below.refl w5.heap.size w5).alloc (Nat.le_refl _) _)) 1)).trans ((Touch.of_grown gr6).mono (fun k hk => hk.symm))) o6 (at6.elim (fun e => .inl (R.vvAt _ _ e)) (fun e => .inr (by rw [Z6.out] at e; omega)))
         have q6 := PF.1.cell 1
         have f6 := PF.1.free 1
         simp at q6))
    all_goals
      have PF := Lib.hid PF.2
      clear q1 f1 x0 x1 x2 x3 q6 f6 o6 gr6 at6
      go_wp2
      go_ret
      exact .inr ⟨HT.out, rfl, PF.out⟩
end Go.Proofs.Ytmgjpmlemkkalaa

-- ReadM: Plain facts on the reading of a node as the program does it: number by number, until there are too few.
namespace Go.Proofs.Ytmgjpmlemkkalaa
set_option maxRecDepth 20000
open Go.RowKit

/-- the next number, of what is left; none: there were too few. -/
def rNum : Option (List Int) → Int × Option (List Int)
  | some (y :: r) => (y, some r)
  | _ => (0, none)
def rByt (c : Nat) : Option (List Int) → List Int × Option (List Int)
  | some ys => if c ≤ ys.length then (ys.take c, some (ys.drop c)) else ([], none)
  | none => ([], none)
def nm8 (zs : List Int) : Int := if zs.length = 8 ∧ zs[7]?.getD 0 ≤ 127 then leVal zs else 0
def rKid (st : Option (List Int)) : (Int × Int) × Option (List Int) := (((rNum st).1, nm8 (rByt 8 (rNum st).2).1), (rByt 8 (rNum st).2).2)
def rKids : Nat → Option (List Int) → List (Int × Int) × Option (List Int)
  | 0, st => ([], st)
  | q + 1, st => ((rKids q st).1 ++ [(rKid (rKids q st).2).1], (rKid (rKids q st).2).2)
def rPart (st : Option (List Int)) : List Int × Option (List Int) := rByt (rNum st).1.toNat (rNum st).2
def rAll (st : Option (List Int)) : List (Int × Int) × Option (List Int) := rKids (rNum st).1.toNat (rNum st).2
def rNode (st : Option (List Int)) : MNode × Option (List Int) :=
  (⟨(rNum st).1, (rPart (rNum st).2).1, (rAll (rPart (rPart (rNum st).2).2).2).1, strOfNums (rPart (rPart (rNum st).2).2).1⟩, (rAll (rPart (rPart (rNum st).2).2).2).2)

/-- every number that is left is a byte. -/
def Bs (st : Option (List Int)) : Prop := ∀ ys, st = some ys → ∀ z ∈ ys, 0 ≤ z ∧ z ≤ 255
theorem rNum_bs {st} (h : Bs st) : Bs (rNum st).2 ∧ 0 ≤ (rNum st).1 ∧ (rNum st).1 ≤ 255 := by
  rcases st with _ | _ | ⟨y, r⟩
  · exact ⟨fun ys e => (by cases e), by decide, by decide⟩
  · exact ⟨fun ys e => (by cases e), by decide, by decide⟩
  · refine ⟨fun ys e z hz => ?_, h _ rfl y (by simp)⟩
    cases e
    exact h _ rfl z (by simp [hz])
theorem rByt_bs {st} (c : Nat) (h : Bs st) : Bs (rByt c st).2 ∧ ∀ z ∈ (rByt c st).1, 0 ≤ z ∧ z ≤ 255 := by
  rcases st with _ | ys
  · exact ⟨fun ys e => (by cases e), by simp [rByt]⟩
  · unfold rByt
    simp only
    split
    · refine ⟨fun r e z hz => ?_, fun z hz => h _ rfl z (List.mem_of_mem_take hz)⟩
      cases e
      exact h _ rfl z (List.mem_of_mem_drop hz)
    · exact ⟨fun ys e => (by cases e), by simp⟩
theorem rPart_bs {st} (h : Bs st) : Bs (rPart st).2 ∧ ∀ z ∈ (rPart st).1, 0 ≤ z ∧ z ≤ 255 := rByt_bs _ (rNum_bs h).1
theorem rKid_bs {st} (h : Bs st) : Bs (rKid st).2 := (rByt_bs 8 (rNum_bs h).1).1
theorem rKids_bs {st} (q : Nat) (h : Bs st) : Bs (rKids q st).2 := by
  induction q with
  | zero => exact h
  | succ q ih => exact rKid_bs ih
theorem rByt_len {st} (c : Nat) : (rByt c st).1.length ≤ c := by
  rcases st with _ | ys
  · simp [rByt]
  · unfold rByt
    simp only
    split
    · simp; omega
    · simp
theorem rPart_len {st} (h : Bs st) : (rPart st).1.length ≤ 255 := by
  have h1 := rByt_len (st := (rNum st).2) (rNum st).1.toNat
  have h2 := (rNum_bs h).2
  unfold rPart
  omega
theorem rKids_len (q : Nat) {st} : (rKids q st).1.length = q := by
  induction q with
  | zero => rfl
  | succ q ih => simp [rKids, ih]

/-! what was read stands there -/
theorem rNum_back {st a r} (h : rNum st = (a, some r)) : st = some (a :: r) := by
  rcases st with _ | _ | ⟨y, q⟩
  · cases h
  · cases h
  · cases h; rfl
theorem rByt_back {st c xs r} (h : rByt c st = (xs, some r)) : st = some (xs ++ r) ∧ xs.length = c := by
  rcases st with _ | ys
  · cases h
  · unfold rByt at h
    simp only at h
    split at h
    · cases h
      exact ⟨by rw [List.take_append_drop], by simp; omega⟩
    · cases h
theorem rPart_back {st xs r} (hb : Bs st) (h : rPart st = (xs, some r)) : st = some ((xs.length : Int) :: (xs ++ r)) := by
  obtain ⟨h1, h2⟩ := rByt_back h
  have hp := (rNum_bs hb).2
  rw [rNum_back (st := st) (a := (rNum st).1) (r := xs ++ r) (Prod.ext rfl h1)]
  rw [h2]
  congr 2
  omega
theorem rKid_back {st k r} (hb : Bs st) (h : rKid st = (k, some r)) (hk : 1 ≤ k.2) : st = some (kidBytes k ++ r) ∧ k.2 ≤ 9223372036854775807 := by
  have e1 : k = ((rNum st).1, nm8 (rByt 8 (rNum st).2).1) := (congrArg Prod.fst h).symm
  have e2 : (rByt 8 (rNum st).2).2 = some r := congrArg Prod.snd h
  obtain ⟨h1, h2⟩ := rByt_back (st := (rNum st).2) (c := 8) (xs := (rByt 8 (rNum st).2).1) (r := r) (Prod.ext rfl e2)
  have hr := (rByt_bs 8 (rNum_bs hb).1).2
  have hn := (rNum_bs hb).2
  generalize (rByt 8 (rNum st).2).1 = xs at h1 h2 hr e1
  have h3 := rNum_back (st := st) (a := (rNum st).1) (r := xs ++ r) (Prod.ext rfl h1)
  subst e1
  simp only at hk ⊢
  unfold nm8 at hk ⊢
  split at hk
  · rename_i hc
    rw [if_pos hc]
    refine ⟨?_, (leW_yes xs hr h2 hc.2).2.2⟩
    refine h3.trans ?_
    unfold kidBytes
    simp only
    rw [bytes_of_back xs hr h2 hc.2, Int.emod_eq_of_lt hn.1 (by omega)]
    rfl
  · omega
theorem rKids_back {st r} (q : Nat) (hb : Bs st) (h : (rKids q st).2 = some r) (hk : ∀ k ∈ (rKids q st).1, 1 ≤ k.2) : st = some ((rKids q st).1.flatMap kidBytes ++ r) ∧ ∀ k ∈ (rKids q st).1, k.2 ≤ 9223372036854775807 := by
  induction q generalizing r with
  | zero => exact ⟨by simpa [rKids] using h, by simp [rKids]⟩
  | succ q ih =>
    have h0 : (rKid (rKids q st).2).2 = some r := h
    obtain ⟨h1, h2⟩ := rKid_back (rKids_bs q hb) (k := (rKid (rKids q st).2).1) (r := r) (Prod.ext rfl h0) (hk _ (by simp [rKids]))
    obtain ⟨h3, h4⟩ := ih h1 (fun k hm => hk k (by simp [rKids, hm]))
    refine ⟨?_, fun k hm => ?_⟩
    · conv => lhs; rw [h3]
      simp [rKids]
    · simp only [rKids, List.mem_append, List.mem_singleton] at hm
      rcases hm with hm | rfl
      · exact h4 k hm
      · exact h2
theorem rNode_back {bs} (hb : Bs (some bs)) (h : (rNode (some bs)).2 = some []) (ok : nodeOk (rNode (some bs)).1 = true) : NodeRead bs (rNode (some bs)).1 true := by
  have b1 := (rNum_bs hb)
  have b2 := rPart_bs b1.1
  have b3 := rPart_bs b2.1
  have b4 := rNum_bs b3.1
  have hks := (nodeOk_parts _ ok).2.1
  have hk1 : ∀ k ∈ (rNode (some bs)).1.kids, 1 ≤ k.2 := fun k hk => (kidsOk_mem _ hks k hk).2
  obtain ⟨k1, k2⟩ := rKids_back (r := []) (rNum (rPart (rPart (rNum (some bs)).2).2).2).1.toNat b4.1 h hk1
  have kl := rKids_len (rNum (rPart (rPart (rNum (some bs)).2).2).2).1.toNat (st := (rNum (rPart (rPart (rNum (some bs)).2).2).2).2)
  refine .inl ⟨rfl, ok, k2, ?_⟩
  unfold nodeBytes
  rw [if_pos ok]
  unfold rNode rawBytes
  simp only
  have e3 := rNum_back (st := (rPart (rPart (rNum (some bs)).2).2).2) (Prod.ext rfl k1)
  have e2 := rPart_back (st := (rPart (rNum (some bs)).2).2) b2.1 (Prod.ext rfl e3)
  have e1 := rPart_back (st := (rNum (some bs)).2) b1.1 (Prod.ext rfl e2)
  have e0 := rNum_back (st := some bs) (Prod.ext rfl e1)
  have l1 := rPart_len b1.1
  have l2 := rPart_len b2.1
  have hm : (rPart (rNum (some bs)).2).1.map (· % 256) = (rPart (rNum (some bs)).2).1 := by
    conv => rhs; rw [← List.map_id (rPart (rNum (some bs)).2).1]
    apply List.map_congr_left
    intro z hz
    have := b2.2 z hz
    simp; omega
  injection e0 with e0
  rw [hm, sb_str _ b3.2, strOfNums_size]
  have d0 : (rNum (some bs)).1 % 256 = (rNum (some bs)).1 := by omega
  have d1 : ((rPart (rNum (some bs)).2).1.length : Int) % 256 = (rPart (rNum (some bs)).2).1.length := by omega
  have d2 : ((rPart (rPart (rNum (some bs)).2).2).1.length : Int) % 256 = (rPart (rPart (rNum (some bs)).2).2).1.length := by omega
  have d3 : ((rAll (rPart (rPart (rNum (some bs)).2).2).2).1.length : Int) % 256 = (rNum (rPart (rPart (rNum (some bs)).2).2).2).1 := by
    unfold rAll
    rw [kl]; omega
  rw [d0, d1, d2, d3]
  conv => rhs; rw [e0]
  simp [rAll]

/-! what is written is read -/
theorem rByt_of (xs r : List Int) : rByt xs.length (some (xs ++ r)) = (xs, some r) := by simp [rByt]
theorem rPart_of (xs r : List Int) : rPart (some ((xs.length : Int) :: (xs ++ r))) = (xs, some r) := by
  show rByt ((xs.length : Int)).toNat (some (xs ++ r)) = _
  rw [Int.toNat_natCast]; exact rByt_of xs r
theorem rKid_of (k : Int × Int) (r : List Int) (h0 : 0 ≤ k.1 ∧ k.1 ≤ 15) (h1 : 1 ≤ k.2 ∧ k.2 ≤ 9223372036854775807) : rKid (some (kidBytes k ++ r)) = (k, some r) := by
  obtain ⟨hb1, hb2, hb3⟩ := back_of_bytes k.2 (by omega)
  have e : rByt 8 (some (nameBytes k.2 ++ r)) = (nameBytes k.2, some r) := by
    have := rByt_of (nameBytes k.2) r
    rwa [hb2] at this
  have en : rNum (some (kidBytes k ++ r)) = (k.1, some (nameBytes k.2 ++ r)) := by
    unfold kidBytes
    show (k.1 % 256, some (nameBytes k.2 ++ r)) = _
    rw [Int.emod_eq_of_lt h0.1 (by omega)]
  unfold rKid
  rw [en]
  simp only
  rw [e]
  simp only
  have : nm8 (nameBytes k.2) = k.2 := by
    unfold nm8
    rw [if_pos ⟨hb2, hb3⟩]; exact hb1
  rw [this]
theorem rKids_of (ks : List (Int × Int)) (r : List Int) (h : ∀ k ∈ ks, (0 ≤ k.1 ∧ k.1 ≤ 15) ∧ (1 ≤ k.2 ∧ k.2 ≤ 9223372036854775807)) (m : Nat) (hm : m ≤ ks.length) :
    rKids m (some (ks.flatMap kidBytes ++ r)) = (ks.take m, some ((ks.drop m).flatMap kidBytes ++ r)) := by
  induction m with
  | zero => simp [rKids]
  | succ m ih =>
    have hlt : m < ks.length := by omega
    unfold rKids
    rw [ih (by omega)]
    simp only
    rw [List.drop_eq_getElem_cons hlt, List.flatMap_cons, List.append_assoc]
    have hx := h ks[m] (List.getElem_mem hlt)
    rw [rKid_of ks[m] _ hx.1 hx.2, List.take_succ_eq_append_getElem hlt]
theorem rNode_of (nd : MNode) (bs : List Int) (h : nodeOk nd = true) (hw : NodeWf nd) (he : nodeBytes nd = bs) : rNode (some bs) = (nd, some []) := by
  have pa := (isPath_iff _).1 (nodeOk_parts nd h).1
  have ka := nodeOk_kind nd h
  have va := nodeOk_val nd h
  have ca := (nodeOk_parts nd h).2.1
  have na := kidsOk_len _ ca
  have hsb := sb_len nd.val
  have hbs : bs = nd.kind :: (nd.path.length : Int) :: (nd.path ++ (((sb nd.val).length : Int) :: (sb nd.val ++ ((nd.kids.length : Int) :: (nd.kids.flatMap kidBytes ++ []))))) := by
    rw [← he]
    unfold nodeBytes
    rw [if_pos h]
    unfold rawBytes
    rw [map_mod nd.path pa.2]
    have d0 : nd.kind % 256 = nd.kind := by omega
    have d1 : (nd.path.length : Int) % 256 = nd.path.length := by omega
    have d2 : (nd.val.size : Int) % 256 = nd.val.size := by omega
    have d3 : (nd.kids.length : Int) % 256 = nd.kids.length := by omega
    rw [d0, d1, d2, d3, hsb]
    simp
  have e0 : rNum (some bs) = (nd.kind, some ((nd.path.length : Int) :: (nd.path ++ (((sb nd.val).length : Int) :: (sb nd.val ++ ((nd.kids.length : Int) :: (nd.kids.flatMap kidBytes ++ []))))))) := by rw [hbs]; rfl
  have e1 := rPart_of nd.path (((sb nd.val).length : Int) :: (sb nd.val ++ ((nd.kids.length : Int) :: (nd.kids.flatMap kidBytes ++ []))))
  have e2 := rPart_of (sb nd.val) ((nd.kids.length : Int) :: (nd.kids.flatMap kidBytes ++ []))
  have e3 : rAll (some ((nd.kids.length : Int) :: (nd.kids.flatMap kidBytes ++ []))) = (nd.kids, some []) := by
    show rKids ((nd.kids.length : Int)).toNat (some (nd.kids.flatMap kidBytes ++ [])) = _
    rw [Int.toNat_natCast, rKids_of nd.kids [] (fun k hk => ⟨(kidsOk_mem _ ca k hk).1, (kidsOk_mem _ ca k hk).2, hw k hk⟩) _ (Nat.le_refl _)]
    simp
  unfold rNode
  rw [e0]
  simp only
  rw [e1]
  simp only
  rw [e2]
  simp only
  rw [e3, str_sb]
theorem rNode_none {bs} (h : ¬ ((rNode (some bs)).2 = some [] ∧ nodeOk (rNode (some bs)).1 = true)) : NodeRead bs node0 false :=
  .inr ⟨rfl, rfl, fun nd h1 h2 h3 => h (by rw [rNode_of nd bs h1 h2 h3]; exact ⟨rfl, h1⟩)⟩
end Go.Proofs.Ytmgjpmlemkkalaa
