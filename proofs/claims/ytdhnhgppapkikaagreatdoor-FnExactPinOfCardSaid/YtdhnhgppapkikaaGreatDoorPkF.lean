/- Several texts in one, in build order: BaseO, ChOne, PinS, PinO, RowL, Srch, RightM, InsI, InsN, Sl, SlAt, Rises. -/
import Derived.Test.YtdhnhgppapkikaaGreatDoorPkE
import Derived.Shelf.Spec.SlicesInsertGrow
-- BaseO: The model's BaseOk and KeptBy.
namespace Go.Proofs.YtdhnhgppapkikaaGreatDoor
set_option maxRecDepth 20000
set_option linter.unusedVariables false
set_option linter.unusedSimpArgs false
open Go.RowKit

set_option maxHeartbeats 1600000 in
theorem specBaseOk_any (L : BLay) (b : MBase) (B : Nat) (w : World) (fit : BaseFit L b) (hB : B ≤ w.heap.size) (hb : BaseIn w B L b) :
    Calls Tryz.prog 27 #[L.v b] w fun e w' => ∃ r, e = .returned (.bool r) ∧ (r = true ↔ BaseGood b) ∧ Below w.heap.size w w' := by
  have FIT := Lib.hid fit
  have HB0 := Lib.hid (hb.more hB)
  have hlen := hb.cells.1
  have hlp := hb.pins.1
  have hlg := hb.grey.1
  have hlb := hb.black.1
  have hsum := fit.sum
  obtain ⟨w1, hw1⟩ : ∃ w1, w.alloc (.cells #[.slice L.A L.n L.c, .int .i64 b.head, .slice L.Ap L.np L.cp, .int .i64 b.phase, .slice L.Ag L.ng L.cg, .slice L.Ab L.nb L.cb, .int .i64 b.cursor] 27) = w1 := ⟨_, rfl⟩
  have x1 : Box w1 w.heap.size _ _ := hw1 ▸ heap_alloc_new _ _
  have b1 : Below w.heap.size w w1 := hw1 ▸ (Below.refl _ _).alloc (Nat.le_refl _) _
  have X1 := Lib.hid x1
  have B1 := Lib.hid b1
  have HB := Lib.hid (HB0.out.below b1)
  have s1 : w.heap.size ≤ w1.heap.size := b1.size
  have hxl : w.heap.size < w1.heap.size := x1.lt
  have hcell : ∀ W, Below w1.heap.size w1 W → ∀ k, W.cell? ⟨w.heap.size, k, none⟩ = (#[.slice L.A L.n L.c, .int .i64 b.head, .slice L.Ap L.np L.cp, .int .i64 b.phase, .slice L.Ag L.ng L.cg, .slice L.Ab L.nb L.cb, .int .i64 b.cursor] : Array Value)[k]? := fun W hW k => (X1.out.below hW hxl).cell k
  have CE := Lib.hid hcell
  have hff : ∀ W, Below w1.heap.size w1 W → ¬ BaseGood b → ∃ r, (Ending.returned (.bool false) : Ending) = .returned (.bool r) ∧ (r = true ↔ BaseGood b) ∧ Below w.heap.size w W := fun W hW h => ⟨false, rfl, iff_of_false (by simp) h, B1.out.trans (hW.mono s1)⟩
  have FF := Lib.hid hff
  have htt : ∀ W, Below w1.heap.size w1 W → BaseGood b → ∃ r, (Ending.returned (.bool true) : Ending) = .returned (.bool r) ∧ (r = true ↔ BaseGood b) ∧ Below w.heap.size w W := fun W hW h => ⟨true, rfl, iff_of_true rfl h, B1.out.trans (hW.mono s1)⟩
  have TT := Lib.hid htt
  have q0 : w1.cell? ⟨w.heap.size, 0, none⟩ = some (.slice L.A L.n L.c) := by simpa using hcell w1 (Below.refl _ _) 0
  clear x1 b1 HB0 hff hcell htt hb fit
  unfold BLay.v
  go_enter Tryz.func27, Tryz.ntmps27
  go_wp2_with fail
  refine (specCellsOk_any L.A L.n L.c b.cells w.heap.size w1 (by omega) FIT.out.cell s1 HB.out.cells).mono ?_
  rintro e w2 ⟨r, rfl, hr, b2⟩
  have HR := Lib.hid hr
  have B2 := Lib.hid b2
  clear hr b2 q0
  cases r with
  | false =>
    go_wp2
    go_ret
    exact FF.out _ B2.out (fun h => absurd (HR.out.2 h.1.cells) (by simp))
  | true =>
    have RT := Lib.hid (HR.out.1 (by trivial))
    clear HR
    have q1 : w2.cell? ⟨w.heap.size, 1, none⟩ = some (.int .i64 b.head) := by simpa using CE.out w2 B2.out 1
    have q2 : w2.cell? ⟨w.heap.size, 2, none⟩ = some (.slice L.Ap L.np L.cp) := by simpa using CE.out w2 B2.out 2
    by_cases hh : b.head < 0
    · have hd : decide (b.head < 0) = true := decide_eq_true hh
      have HH := Lib.hid hh
      clear hh
      go_wp2
      go_ret
      exact FF.out _ B2.out (fun h => by have := h.1.head; have := HH.out; omega)
    have hd : decide (b.head < 0) = false := decide_eq_false hh
    have HH := Lib.hid hh
    clear hh
    have s2 : w1.heap.size ≤ w2.heap.size := B2.out.size
    have HB2 := Lib.hid (HB.out.below (B2.out.mono s1))
    go_wp2_with fail
    refine (l13Rising_any L.Ap L.np L.cp b.pins w.heap.size w2 (by omega) (by omega) HB2.out.pins).mono ?_
    rintro e w3 ⟨r, rfl, hr, b3⟩
    have HR := Lib.hid hr
    have B3 := Lib.hid (B2.out.trans (b3.mono s2))
    clear hr b3 q1 q2
    cases r with
    | false =>
      go_wp2
      go_ret
      exact FF.out _ B3.out (fun h => absurd (HR.out.2 h.1.rise) (by simp))
    | true =>
      have RP := Lib.hid (HR.out.1 (by trivial))
      clear HR
      have q2 : w3.cell? ⟨w.heap.size, 2, none⟩ = some (.slice L.Ap L.np L.cp) := by simpa using CE.out w3 B3.out 2
      have q5 : w3.cell? ⟨w.heap.size, 5, none⟩ = some (.slice L.Ab L.nb L.cb) := by simpa using CE.out w3 B3.out 5
      have s3 : w1.heap.size ≤ w3.heap.size := B3.out.size
      have HB3 := Lib.hid (HB.out.below (B3.out.mono s1))
      have hpos := Lib.hid (rise_pos _ RP.out)
      by_cases h6 : 6 < L.np
      · have hd1 : decide (0 < L.np) = true := decide_eq_true (by omega)
        have hd6 : decide (6 < L.np) = true := decide_eq_true h6
        have hno : ¬ BaseGood b := fun h => by have := h.1.few; omega
        have NO := Lib.hid hno
        clear hno
        obtain ⟨bb, boff, hbe, hbB, h0⟩ := HB3.out.pins.at_ (k := 0) (by omega)
        obtain ⟨x, hx⟩ : ∃ x, b.pins[0]?.getD 0 = x := ⟨_, rfl⟩
        rw [hx, Nat.add_zero] at h0
        rw [hbe] at q2
        have HBE := Lib.hid hbe
        have HX := Lib.hid hx
        clear hbe hx
        by_cases hlt : x < 1
        · have hdx : decide (x < 1) = true := decide_eq_true hlt
          go_wp2
          go_ret
          exact FF.out _ B3.out NO.out
        · have hdx : decide (x < 1) = false := decide_eq_false hlt
          clear hlt
          go_wp2
          go_ret
          first
          | exact FF.out _ B3.out NO.out
          | exact .inl ⟨rfl, NO.out, B1.out.trans (B3.out.mono s1)⟩
      have hd6 : decide (6 < L.np) = false := decide_eq_false h6
      rcases Nat.eq_zero_or_pos L.np with hp0 | hp0
      focus
        have hd1 : decide (0 < L.np) = false := decide_eq_false (by omega)
        have PP : Hid (∀ x, x ∈ b.pins → 1 ≤ x) := Lib.hid (fun x hx => by rw [List.eq_nil_of_length_eq_zero (hlp.trans hp0)] at hx; simp at hx)
        have HP0 := Lib.hid hp0
        clear hp0
        go_wp2_with fail
      rotate_left
      focus
        have hd1 : decide (0 < L.np) = true := decide_eq_true hp0
        obtain ⟨bb, boff, hbe, hbB, h0⟩ := HB3.out.pins.at_ (k := 0) (by omega)
        obtain ⟨x, hx⟩ : ∃ x, b.pins[0]?.getD 0 = x := ⟨_, rfl⟩
        rw [hx, Nat.add_zero] at h0
        rw [hbe] at q2
        have HBE := Lib.hid hbe
        have HX := Lib.hid hx
        clear hbe hx
        by_cases hlt : x < 1
        · have hdx : decide (x < 1) = true := decide_eq_true hlt
          go_wp2
          go_ret
          exact FF.out _ B3.out (fun h => by
            have h1 := hpos.out.1 h.1.pos (by omega)
            rw [HX.out] at h1
            omega)
        have hdx : decide (x < 1) = false := decide_eq_false hlt
        have PP : Hid (∀ x, x ∈ b.pins → 1 ≤ x) := Lib.hid (hpos.out.2 (fun _ => by rw [HX.out]; omega))
        have HP0 := Lib.hid hp0
        clear hp0
        go_wp2_with fail
      all_goals
        refine (l13Rising_any L.Ab L.nb L.cb b.black w.heap.size w3 (by omega) (by omega) HB3.out.black).mono ?_
        rintro e w4 ⟨r, rfl, hr, b4⟩
        have HR := Lib.hid hr
        have B4 := Lib.hid (B3.out.trans (b4.mono s3))
        clear hr b4 q2 q5
        cases r with
        | false =>
          go_wp2
          go_ret
          exact FF.out _ B4.out (fun h => absurd (HR.out.2 h.1.black) (by simp))
        | true =>
          have RB := Lib.hid (HR.out.1 (by trivial))
          clear HR
          have s4 : w1.heap.size ≤ w4.heap.size := B4.out.size
          have HB4 := Lib.hid (HB.out.below (B4.out.mono s1))
          have hc : ∀ k W, Below w4.heap.size w4 W → W.cell? ⟨w.heap.size, k, none⟩ = (#[.slice L.A L.n L.c, .int .i64 b.head, .slice L.Ap L.np L.cp, .int .i64 b.phase, .slice L.Ag L.ng L.cg, .slice L.Ab L.nb L.cb, .int .i64 b.cursor] : Array Value)[k]? := fun k W h => CE.out W (B4.out.trans (h.mono s4)) k
          have hc0 : ∀ W, Below w4.heap.size w4 W → W.cell? ⟨w.heap.size, 0, none⟩ = some (.slice L.A L.n L.c) := fun W h => by simpa using hc 0 W h
          have hc1 : ∀ W, Below w4.heap.size w4 W → W.cell? ⟨w.heap.size, 1, none⟩ = some (.int .i64 b.head) := fun W h => by simpa using hc 1 W h
          have hc2 : ∀ W, Below w4.heap.size w4 W → W.cell? ⟨w.heap.size, 2, none⟩ = some (.slice L.Ap L.np L.cp) := fun W h => by simpa using hc 2 W h
          have hc3 : ∀ W, Below w4.heap.size w4 W → W.cell? ⟨w.heap.size, 3, none⟩ = some (.int .i64 b.phase) := fun W h => by simpa using hc 3 W h
          have hc4 : ∀ W, Below w4.heap.size w4 W → W.cell? ⟨w.heap.size, 4, none⟩ = some (.slice L.Ag L.ng L.cg) := fun W h => by simpa using hc 4 W h
          have hc5 : ∀ W, Below w4.heap.size w4 W → W.cell? ⟨w.heap.size, 5, none⟩ = some (.slice L.Ab L.nb L.cb) := fun W h => by simpa using hc 5 W h
          have hc6 : ∀ W, Below w4.heap.size w4 W → W.cell? ⟨w.heap.size, 6, none⟩ = some (.int .i64 b.cursor) := fun W h => by simpa using hc 6 W h
          have hKP : ∀ W, Below w4.heap.size w4 W → Calls Tryz.prog 52 #[.agg #[.slice L.A L.n L.c, .int .i64 b.head, .slice L.Ap L.np L.cp, .int .i64 b.phase, .slice L.Ag L.ng L.cg, .slice L.Ab L.nb L.cb, .int .i64 b.cursor]] W
              fun e w' => ∃ g n c, e = .returned (.slice (some ⟨g, 0, none⟩) n c) ∧ OwnI w' W.heap.size (some ⟨g, 0, none⟩) n c (keptOf b) ∧ Below W.heap.size W w' :=
            fun W h => l13Kept_any L b w.heap.size W (by omega) (by have := h.size; omega) FIT.out.zp RP.out (HB4.out.below (h.mono (by omega))).pins
          have hRE : ∀ W, Below w4.heap.size w4 W → ∀ g n c, Ints W W.heap.size (some ⟨g, 0, none⟩) n (keptOf b) → Calls Tryz.prog 58 #[.slice L.A L.n L.c, .slice (some ⟨g, 0, none⟩) n c] W
              fun e w' => ∃ g n' c' l b', e = .returned (.tuple #[.slice (some ⟨g, 0, none⟩) n' c', .bool b']) ∧ Going b.cells (keptOf b) l [] b' ∧ OwnI w' W.heap.size (some ⟨g, 0, none⟩) n' c' l ∧ Below W.heap.size W w' :=
            fun W h g n c hi => l4Reach_any L.A L.n L.c b.cells (some ⟨g, 0, none⟩) n c (keptOf b) W.heap.size W FIT.out.cell RT.out (by have := keptOf_len b; omega) (fun h => by cases h) (Nat.le_refl _) ((HB4.out.below (h.mono (by omega))).cells.more (by have := h.size; omega)) hi
          have KP := Lib.hid hKP
          have RE := Lib.hid hRE
          clear hKP hRE hc
          go_wp2
          go_region_held3 (fun W => Below w4.heap.size w4 W) (first | exact (Below.refl _ _).drew | assumption)
            (first | (go_at_call 52
                      refine (KP.out _ (by assumption)).mono ?_
                      rintro e w5 ⟨g5, n5, c5, rfl, o5, b5⟩
                      have h5 := (by assumption : Below w4.heap.size w4 _).trans (b5.mono (by assumption : Below w4.heap.size w4 _).size))
                   | (go_at_call 58
                      refine (RE.out _ (by assumption) _ _ _ o5.ints).mono ?_
                      rintro e w6 ⟨g6, n6, c6, l6, r6, rfl, hgo, o6, b6⟩
                      have h6 := (by assumption : Below w4.heap.size w4 _).trans (b6.mono (by assumption : Below w4.heap.size w4 _).size)))
          have WH := Lib.hid hgo.whole_
          have B6 := Lib.hid (B4.out.trans (h6.mono s4))
          clear hgo h6 h5 b5 b6 o5 o6 hc0 hc1 hc2 hc3 hc4 hc5 hc6
          have s6 : w1.heap.size ≤ w6.heap.size := B6.out.size
          have HB6 := Lib.hid (HB.out.below (B6.out.mono s1))
          have q0 : w6.cell? ⟨w.heap.size, 0, none⟩ = some (.slice L.A L.n L.c) := by simpa using CE.out w6 B6.out 0
          have q1 : w6.cell? ⟨w.heap.size, 1, none⟩ = some (.int .i64 b.head) := by simpa using CE.out w6 B6.out 1
          have q2 : w6.cell? ⟨w.heap.size, 2, none⟩ = some (.slice L.Ap L.np L.cp) := by simpa using CE.out w6 B6.out 2
          have q3 : w6.cell? ⟨w.heap.size, 3, none⟩ = some (.int .i64 b.phase) := by simpa using CE.out w6 B6.out 3
          have q4 : w6.cell? ⟨w.heap.size, 4, none⟩ = some (.slice L.Ag L.ng L.cg) := by simpa using CE.out w6 B6.out 4
          have q5 : w6.cell? ⟨w.heap.size, 5, none⟩ = some (.slice L.Ab L.nb L.cb) := by simpa using CE.out w6 B6.out 5
          have q6 : w6.cell? ⟨w.heap.size, 6, none⟩ = some (.int .i64 b.cursor) := by simpa using CE.out w6 B6.out 6
          cases r6 with
          | false =>
            go_wp2
            go_ret
            exact FF.out _ B6.out (fun h => absurd (WH.out.2 h.1.whole) (by simp))
          | true =>
            have hpre : PreOk b := ⟨RT.out, by have := HH.out; omega, RP.out, PP.out, by omega, RB.out, WH.out.1 (by trivial)⟩
            have PRE := Lib.hid hpre
            clear hpre WH
            by_cases hp0 : b.phase = 0
            · have hb0 : (b.phase == 0) = true := by simp [hp0]
              have hb1 : (b.phase == 1) = false := by simp [hp0]
              have hb2 : (b.phase == 2) = false := by simp [hp0]
              have P0 := Lib.hid hp0
              clear hp0
              have hone : BaseGood b ↔ L.ng = 0 ∧ L.nb = 0 ∧ b.cursor = 0 := by
                constructor
                · rintro ⟨_, ⟨_, h1, h2, h3⟩ | ⟨h, _⟩ | ⟨h, _⟩⟩
                  · exact ⟨by rw [← hlg, h1]; rfl, by rw [← hlb, h2]; rfl, h3⟩
                  · rw [P0.out] at h; omega
                  · rw [P0.out] at h; omega
                · rintro ⟨h1, h2, h3⟩
                  exact ⟨PRE.out, .inl ⟨P0.out, List.eq_nil_of_length_eq_zero (by omega), List.eq_nil_of_length_eq_zero (by omega), h3⟩⟩
              have ONE := Lib.hid hone
              clear hone
              by_cases h1 : L.ng = 0
              case neg =>
                have hd : decide ((L.ng : Int) = 0) = false := decide_eq_false (by omega)
                have hd' : ((L.ng : Int) == 0) = false := by simpa using h1
                have hd'' : (L.ng == 0) = false := by simpa using h1
                have H1 := Lib.hid h1
                clear h1
                go_wp2
                go_ret
                exact FF.out _ B6.out (fun h => H1.out (ONE.out.1 h).1)
              case pos =>
                have hd : decide ((L.ng : Int) = 0) = true := decide_eq_true (by omega)
                have hd' : ((L.ng : Int) == 0) = true := by simpa using h1
                have hd'' : (L.ng == 0) = true := by simpa using h1
                have H1 := Lib.hid h1
                clear h1
                by_cases h2 : L.nb = 0
                case neg =>
                  have he : decide ((L.nb : Int) = 0) = false := decide_eq_false (by omega)
                  have he' : ((L.nb : Int) == 0) = false := by simpa using h2
                  have he'' : (L.nb == 0) = false := by simpa using h2
                  have H2 := Lib.hid h2
                  clear h2
                  go_wp2
                  go_ret
                  exact FF.out _ B6.out (fun h => H2.out (ONE.out.1 h).2.1)
                case pos =>
                  have he : decide ((L.nb : Int) = 0) = true := decide_eq_true (by omega)
                  have he' : ((L.nb : Int) == 0) = true := by simpa using h2
                  have he'' : (L.nb == 0) = true := by simpa using h2
                  have H2 := Lib.hid h2
                  clear h2
                  by_cases h3 : b.cursor = 0
                  · have hf : (b.cursor == 0) = true := by simpa using h3
                    have H3 := Lib.hid h3
                    clear h3
                    go_wp2
                    go_ret
                    exact TT.out _ B6.out (ONE.out.2 ⟨H1.out, H2.out, H3.out⟩)
                  · have hf : (b.cursor == 0) = false := by simpa using h3
                    have H3 := Lib.hid h3
                    clear h3
                    go_wp2
                    go_ret
                    exact FF.out _ B6.out (fun h => H3.out (ONE.out.1 h).2.2)
            · have hb0 : (b.phase == 0) = false := by simpa using hp0
              have P0 := Lib.hid hp0
              clear hp0
              by_cases hp1 : b.phase = 1
              · have hb1 : (b.phase == 1) = true := by simp [hp1]
                have P1 := Lib.hid hp1
                clear hp1
                go_wp2_with fail
                refine (l13Mark_any L b w.heap.size w6 FIT.out (by omega) HB6.out RT.out RP.out (by omega)).mono ?_
                rintro e w7 ⟨r, rfl, hr, b7⟩
                have HR := Lib.hid hr
                have B7 := Lib.hid (B6.out.trans (b7.mono s6))
                clear hr b7
                go_wp2
                go_ret
                refine ⟨r, rfl, ⟨fun h => ⟨PRE.out, .inr (.inl ⟨P1.out, HR.out.1 h⟩)⟩, ?_⟩, B1.out.trans (B7.out.mono s1)⟩
                rintro ⟨_, ⟨h, _⟩ | ⟨_, h⟩ | ⟨h, _⟩⟩
                · exact absurd h P0.out
                · exact HR.out.2 h
                · have := P1.out; omega
              · have hb1 : (b.phase == 1) = false := by simpa using hp1
                have P1 := Lib.hid hp1
                clear hp1
                by_cases hp2 : b.phase = 2
                · have hb2 : (b.phase == 2) = true := by simp [hp2]
                  have P2 := Lib.hid hp2
                  clear hp2
                  go_wp2_with fail
                  refine (l13Sweep_any L b w.heap.size w6 FIT.out (by omega) HB6.out RT.out RP.out RB.out (by omega)).mono ?_
                  rintro e w7 ⟨r, rfl, hr, b7⟩
                  have HR := Lib.hid hr
                  have B7 := Lib.hid (B6.out.trans (b7.mono s6))
                  clear hr b7
                  go_wp2
                  go_ret
                  refine ⟨r, rfl, ⟨fun h => ⟨PRE.out, .inr (.inr ⟨P2.out, HR.out.1 h⟩)⟩, ?_⟩, B1.out.trans (B7.out.mono s1)⟩
                  rintro ⟨_, ⟨h, _⟩ | ⟨h, _⟩ | ⟨_, h⟩⟩
                  · exact absurd h P0.out
                  · exact absurd h P1.out
                  · exact HR.out.2 h
                · have hb2 : (b.phase == 2) = false := by simpa using hp2
                  have P2 := Lib.hid hp2
                  clear hp2
                  go_wp2
                  go_ret
                  exact FF.out _ B6.out (fun h => by
                    rcases h.2 with ⟨h, _⟩ | ⟨h, _⟩ | ⟨h, _⟩
                    · exact P0.out h
                    · exact P1.out h
                    · exact P2.out h)
/-- the names that a right base keeps; none where it is not right. -/
def KeptIs (b : MBase) (l : List Int) : Prop := (BaseGood b ∧ l = keptOf b) ∨ (¬ BaseGood b ∧ l = [])
theorem KeptIs.one {b : MBase} {l l' : List Int} (h : KeptIs b l) (h' : KeptIs b l') : l = l' := by
  rcases h with ⟨a, rfl⟩ | ⟨a, rfl⟩ <;> rcases h' with ⟨a', rfl⟩ | ⟨a', rfl⟩
  · rfl
  · exact absurd a a'
  · exact absurd a' a
  · rfl
theorem keptBy_bd {b : MBase} {l : List Int} {P : Prop} (h : KeptIs b l) (_ : P) : l.length ≤ 7 := by
  rcases h with ⟨a, rfl⟩ | ⟨_, rfl⟩
  · have := keptOf_len b
    have := a.1.few
    omega
  · simp
def GaveKept (w : World) (b : MBase) (e : Ending) (w' : World) : Prop := ∃ A n c l, e = .returned (.slice A n c) ∧ KeptIs b l ∧ OwnI w' w.heap.size A n c l ∧ Below w.heap.size w w'
end Go.Proofs.YtdhnhgppapkikaaGreatDoor

-- ChOne: Changes without bytes: one of them; a list of them. No statement of the program is proved here.
namespace Go.Proofs.YtdhnhgppapkikaaGreatDoor
set_option maxRecDepth 20000
set_option linter.unusedVariables false
set_option linter.unusedSimpArgs false
open Go.RowKit

/-- a change without bytes. -/
def ch1 (k m : Int) : MChg := ⟨k, m, []⟩
/-- an answer of a base: this where it is right, else that. -/
def AnsIs (b : MBase) (good bad : List MChg × Int) (l : List MChg) (k : Int) : Prop := (BaseGood b ∧ l = good.1 ∧ k = good.2) ∨ (¬ BaseGood b ∧ l = bad.1 ∧ k = bad.2)
theorem AnsIs.one {b : MBase} {good bad : List MChg × Int} {l l' : List MChg} {k k' : Int} (h : AnsIs b good bad l k) (h' : AnsIs b good bad l' k') : l = l' ∧ k = k' := by
  rcases h with ⟨a, rfl, rfl⟩ | ⟨a, rfl, rfl⟩ <;> rcases h' with ⟨a', rfl, rfl⟩ | ⟨a', rfl, rfl⟩
  · exact ⟨rfl, rfl⟩
  · exact absurd a a'
  · exact absurd a' a
  · exact ⟨rfl, rfl⟩
def GaveAns (b : MBase) (good bad : List MChg × Int) (w : World) (e : Ending) (w' : World) : Prop :=
  ∃ A n c l k, e = .returned (.tuple #[.slice A n c, .int .i64 k]) ∧ AnsIs b good bad l k ∧ OwnCh w' w.heap.size w'.heap.size A n c l ∧ Below w.heap.size w w'
/-- one change without bytes, in a block of its own. -/
theorem OwnCh.lit1 (w : World) (k m : Int) : OwnCh (w.alloc (.cells #[.int .i64 k, .int .i64 m, .slice none 0 0] 54)) w.heap.size (w.heap.size + 1) (some ⟨w.heap.size, 0, none⟩) 1 1 [ch1 k m] := by
  refine ⟨rfl, fun b h => by simp [Value.ownBlock] at h; omega, fun _ => ⟨none, 0, 0, []⟩, ?_, fun i hi => ?_, fun i j hi hj hij => by omega, fun i hi b h => by simp [Sub.v, Value.ownBlock] at h, fun i hi b h => by simp [Sub.v, Value.ownBlock] at h⟩
  · exact World.ownsRow_lit w #[.int .i64 k, .int .i64 m, .slice none 0 0] 1 (Nat.le_refl _) (by unfold maxLen; omega) rfl
  · have e : i = 0 := by omega
    subst e
    exact Mine.nil _ _
/-- one more change without bytes. -/
theorem OwnCh.pushed1 {w w' : World} {lo hi hi' n c g cap : Nat} {A : Option Addr} {cs : List MChg} {k m : Int} {sl : Nat → Sub}
    (hl : cs.length = n) (hu : ∀ b, (Value.slice A n c).ownBlock = some b → b < hi) (hs : SubH w lo hi (Value.slice A n c).ownBlock n cs sl)
    (hr : w'.ownsRow lo 54 3 (.slice (some ⟨g, 0, none⟩) (n + 1) cap) (n + 1) (hvs n cs sl ++ [.int .i64 k, .int .i64 m, .slice none 0 0])) (hg : w.grownBy w' (Value.slice A n c).ownBlock)
    (hgo : (Value.slice A n c).ownBlock = some g ∨ g = w.heap.size) (hh : hi ≤ w.heap.size) (hi1 : w'.heap.size ≤ hi') : OwnCh w' lo hi' (some ⟨g, 0, none⟩) (n + 1) cap (cs ++ [ch1 k m]) :=
  OwnCh.pushed (x := ch1 k m) hl hu hs (Mine.nil _ _) (fun b h => by simp [Value.ownBlock] at h) hr hg hgo hh hi1
theorem ch1_bd (l : List MChg) (h : ∀ x, x ∈ l → x.bytes = []) (i : Nat) : (cx l i).bytes.length ≤ 1048576 := by
  unfold cx
  rcases Nat.lt_or_ge i l.length with hi | hi
  · rw [List.getElem?_eq_getElem hi]
    have := h _ (List.getElem_mem hi)
    simp only [Option.getD_some]
    rw [this]; simp
  · rw [List.getElem?_eq_none hi]; simp [chg0]
end Go.Proofs.YtdhnhgppapkikaaGreatDoor

-- PinS: The model's PinOf and UnpinOf.
namespace Go.Proofs.YtdhnhgppapkikaaGreatDoor
set_option maxRecDepth 20000
set_option linter.unusedVariables false
set_option linter.unusedSimpArgs false
open Go.RowKit

/-- a pin of a right base: the change, and the code. -/
def pinOf (b : MBase) (root : Int) : List MChg × Int := if ¬ root ∈ keptOf b then ([], 2) else if root ∈ b.pins then ([], 4) else if 6 ≤ b.pins.length then ([], 3) else ([ch1 4 root], 0)
def unpinOf (b : MBase) (root : Int) : List MChg × Int := if ¬ root ∈ b.pins then ([], 5) else ([ch1 5 root], 0)
def PinIs (b : MBase) (root : Int) (l : List MChg) (k : Int) : Prop := AnsIs b (pinOf b root) ([], 1) l k
def UnpinIs (b : MBase) (root : Int) (l : List MChg) (k : Int) : Prop := AnsIs b (unpinOf b root) ([], 1) l k
theorem PinIs.one {b : MBase} {root : Int} {l l' : List MChg} {k k' : Int} (h : PinIs b root l k) (h' : PinIs b root l' k') : l = l' ∧ k = k' := AnsIs.one h h'
theorem UnpinIs.one {b : MBase} {root : Int} {l l' : List MChg} {k k' : Int} (h : UnpinIs b root l k) (h' : UnpinIs b root l' k') : l = l' ∧ k = k' := AnsIs.one h h'
theorem pinOf_bd {b : MBase} {root : Int} {l : List MChg} {k : Int} {P : Prop} (h : PinIs b root l k) (_ : P) : l.length ≤ 1048576 ∧ ∀ i, (cx l i).bytes.length ≤ 1048576 := by
  have key : l = [] ∨ l = [ch1 4 root] := by
    rcases h with ⟨_, rfl, _⟩ | ⟨_, rfl, _⟩
    · unfold pinOf
      split
      · exact .inl rfl
      split
      · exact .inl rfl
      split
      · exact .inl rfl
      · exact .inr rfl
    · exact .inl rfl
  rcases key with rfl | rfl
  · exact ⟨by simp, ch1_bd _ (by simp)⟩
  · exact ⟨by simp, ch1_bd _ (by simp [ch1])⟩
theorem unpinOf_bd {b : MBase} {root : Int} {l : List MChg} {k : Int} {P : Prop} (h : UnpinIs b root l k) (_ : P) : l.length ≤ 1048576 ∧ ∀ i, (cx l i).bytes.length ≤ 1048576 := by
  have key : l = [] ∨ l = [ch1 5 root] := by
    rcases h with ⟨_, rfl, _⟩ | ⟨_, rfl, _⟩
    · unfold unpinOf
      split
      · exact .inl rfl
      · exact .inr rfl
    · exact .inl rfl
  rcases key with rfl | rfl
  · exact ⟨by simp, ch1_bd _ (by simp)⟩
  · exact ⟨by simp, ch1_bd _ (by simp [ch1])⟩
def GavePin (b : MBase) (root : Int) (w : World) (e : Ending) (w' : World) : Prop :=
  ∃ A n c l k, e = .returned (.tuple #[.slice A n c, .int .i64 k]) ∧ PinIs b root l k ∧ OwnCh w' w.heap.size w'.heap.size A n c l ∧ Below w.heap.size w w'
def GaveUnpin (b : MBase) (root : Int) (w : World) (e : Ending) (w' : World) : Prop :=
  ∃ A n c l k, e = .returned (.tuple #[.slice A n c, .int .i64 k]) ∧ UnpinIs b root l k ∧ OwnCh w' w.heap.size w'.heap.size A n c l ∧ Below w.heap.size w w'
theorem GavePin.none_ {b : MBase} {root k : Int} {w W : World} (h : PinIs b root [] k) (hW : Below w.heap.size w W) : GavePin b root w (.returned (.tuple #[.slice (some ⟨W.heap.size, 0, none⟩) 0 0, .int .i64 k])) (W.alloc (.cells #[] 54)) :=
  ⟨_, 0, 0, [], k, rfl, h, ((OwnCh.made0 W).base hW.size).more (by simp), hW.alloc hW.size _⟩

set_option maxHeartbeats 1600000 in
theorem l14Unpin_any (L : BLay) (b : MBase) (root : Int) (B : Nat) (w : World) (fit : BaseFit L b) (hB : B ≤ w.heap.size) (hb : BaseIn w B L b) (good : BaseGood b) :
    Calls Tryz.prog 30 #[L.v b, .int .i64 root] w (GaveUnpin b root w) := by
  have FIT := Lib.hid fit
  have HB0 := Lib.hid (hb.more hB)
  have hsum := fit.sum
  obtain ⟨w1, hw1⟩ : ∃ w1, w.alloc (.cells #[.slice L.A L.n L.c, .int .i64 b.head, .slice L.Ap L.np L.cp, .int .i64 b.phase, .slice L.Ag L.ng L.cg, .slice L.Ab L.nb L.cb, .int .i64 b.cursor] 27) = w1 := ⟨_, rfl⟩
  have x1 : Box w1 w.heap.size _ _ := hw1 ▸ heap_alloc_new _ _
  have b1 : Below w.heap.size w w1 := hw1 ▸ (Below.refl _ _).alloc (Nat.le_refl _) _
  have B1 := Lib.hid b1
  have HB := Lib.hid (HB0.out.below b1)
  have s1 : w.heap.size ≤ w1.heap.size := b1.size
  have q2 : w1.cell? ⟨w.heap.size, 2, none⟩ = some (.slice L.Ap L.np L.cp) := by simpa using x1.cell 2
  have GD := Lib.hid good
  clear x1 b1 HB0 hb fit good
  unfold BLay.v
  go_enter Tryz.func30, Tryz.ntmps30
  go_wp2_with fail
  refine (l4In_any L.Ap L.np L.cp b.pins root w.heap.size w1 (by omega) HB.out.pins).mono ?_
  rintro e w' ⟨rfl, rfl⟩
  by_cases hin : root ∈ b.pins
  · rw [decide_eq_true hin]
    have hy := Lib.hid (show UnpinIs b root [ch1 5 root] 0 from .inl ⟨GD.out, by unfold unpinOf; rw [if_neg (by simpa using hin)], by unfold unpinOf; rw [if_neg (by simpa using hin)]⟩)
    clear hin
    go_wp2
    go_ret2
    exact ⟨_, 1, 1, _, 0, rfl, hy.out, ((OwnCh.lit1 w1 5 root).base s1).more (by simp), B1.out.alloc s1 _⟩
  · rw [decide_eq_false hin]
    have hy := Lib.hid (show UnpinIs b root [] 5 from .inl ⟨GD.out, by unfold unpinOf; rw [if_pos hin], by unfold unpinOf; rw [if_pos hin]⟩)
    clear hin
    go_wp2
    go_ret2
    exact ⟨_, 0, 0, _, 5, rfl, hy.out, ((OwnCh.made0 w1).base s1).more (by simp), B1.out.alloc s1 _⟩
set_option maxHeartbeats 1600000 in
theorem l14Pin_any (L : BLay) (b : MBase) (root : Int) (B : Nat) (w : World) (fit : BaseFit L b) (hB : B ≤ w.heap.size) (hb : BaseIn w B L b) (good : BaseGood b) :
    Calls Tryz.prog 28 #[L.v b, .int .i64 root] w (GavePin b root w) := by
  have FIT := Lib.hid fit
  have HB0 := Lib.hid (hb.more hB)
  have hsum := fit.sum
  have hlp := hb.pins.1
  have hfew := good.1.few
  obtain ⟨w1, hw1⟩ : ∃ w1, (w.alloc (.cells #[.slice L.A L.n L.c, .int .i64 b.head, .slice L.Ap L.np L.cp, .int .i64 b.phase, .slice L.Ag L.ng L.cg, .slice L.Ab L.nb L.cb, .int .i64 b.cursor] 27)).alloc (.cells #[] 54) = w1 := ⟨_, rfl⟩
  have x1 : Box w1 w.heap.size _ _ := hw1 ▸ heap2_0 _ _ _
  have b1 : Below w.heap.size w w1 := hw1 ▸ below2 _ _ _
  have o1 : OwnCh w1 w.heap.size w1.heap.size (some ⟨w.heap.size + 1, 0, none⟩) 0 0 [] := by
    have h := OwnCh.made0 (w.alloc (.cells #[.slice L.A L.n L.c, .int .i64 b.head, .slice L.Ap L.np L.cp, .int .i64 b.phase, .slice L.Ag L.ng L.cg, .slice L.Ab L.nb L.cb, .int .i64 b.cursor] 27))
    rw [hw1] at h
    have h2 := (h.base (lo' := w.heap.size) (by simp)).more (hi' := w1.heap.size) (by rw [← hw1]; simp)
    simpa using h2
  have X1 := Lib.hid x1
  have B1 := Lib.hid b1
  have O1 := Lib.hid o1
  have HB := Lib.hid (HB0.out.below b1)
  have s1 : w1.heap.size = w.heap.size + 2 := hw1 ▸ size2 _ _ _
  have hxl : w.heap.size < w1.heap.size := by omega
  have hcell : ∀ W, Below w1.heap.size w1 W → ∀ k, W.cell? ⟨w.heap.size, k, none⟩ = (#[.slice L.A L.n L.c, .int .i64 b.head, .slice L.Ap L.np L.cp, .int .i64 b.phase, .slice L.Ag L.ng L.cg, .slice L.Ab L.nb L.cb, .int .i64 b.cursor] : Array Value)[k]? := fun W hW k => (X1.out.below hW hxl).cell k
  have CE := Lib.hid hcell
  have q0 : w1.cell? ⟨w.heap.size, 0, none⟩ = some (.slice L.A L.n L.c) := by simpa using hcell w1 (Below.refl _ _) 0
  have q1 : w1.cell? ⟨w.heap.size, 1, none⟩ = some (.int .i64 b.head) := by simpa using hcell w1 (Below.refl _ _) 1
  have q2 : w1.cell? ⟨w.heap.size, 2, none⟩ = some (.slice L.Ap L.np L.cp) := by simpa using hcell w1 (Below.refl _ _) 2
  have q3 : w1.cell? ⟨w.heap.size, 3, none⟩ = some (.int .i64 b.phase) := by simpa using hcell w1 (Below.refl _ _) 3
  have q4 : w1.cell? ⟨w.heap.size, 4, none⟩ = some (.slice L.Ag L.ng L.cg) := by simpa using hcell w1 (Below.refl _ _) 4
  have q5 : w1.cell? ⟨w.heap.size, 5, none⟩ = some (.slice L.Ab L.nb L.cb) := by simpa using hcell w1 (Below.refl _ _) 5
  have q6 : w1.cell? ⟨w.heap.size, 6, none⟩ = some (.int .i64 b.cursor) := by simpa using hcell w1 (Below.refl _ _) 6
  have GD := Lib.hid good
  obtain ⟨i0, hi, hz0, hz1, hz2⟩ := info_parts Tryz.infoCh
  have HI := Lib.hid hi
  have HZ0 := Lib.hid hz0
  have HZ1 := Lib.hid hz1
  have HZ2 := Lib.hid hz2
  clear x1 b1 o1 HB0 hcell hb fit good hi hz0 hz1 hz2
  unfold BLay.v
  go_enter Tryz.func28, Tryz.ntmps28
  go_wp2_with fail
  refine (l13Kept_any L b w.heap.size w1 (by omega) (by omega) FIT.out.zp GD.out.1.rise HB.out.pins).mono ?_
  rintro e w2 ⟨g2, n2, c2, rfl, o2, b2⟩
  have hl2 := o2.len
  have hk2 := keptOf_len b
  have O2 := Lib.hid o2
  have B2 := Lib.hid b2
  have s2 : w1.heap.size ≤ w2.heap.size := b2.size
  clear o2 b2 q0 q1 q2 q3 q4 q5 q6
  go_wp2_with fail
  refine (l4In_any _ n2 c2 (keptOf b) root w2.heap.size w2 (by omega) O2.out.ints).mono ?_
  rintro e w' ⟨rfl, rfl⟩
  have q2 : w2.cell? ⟨w.heap.size, 2, none⟩ = some (.slice L.Ap L.np L.cp) := by simpa using CE.out w2 B2.out 2
  have fin : ∀ k, PinIs b root [] k → GavePin b root w (.returned (.tuple #[.slice (some ⟨w.heap.size + 1, 0, none⟩) 0 0, .int .i64 k])) w2 := fun k h =>
    ⟨_, 0, 0, [], k, rfl, h, (O1.out.below B2.out).more s2, B1.out.trans (B2.out.mono (by omega))⟩
  have FIN := Lib.hid fin
  clear fin
  by_cases hkp : root ∈ keptOf b
  case neg =>
    rw [decide_eq_false hkp]
    have hy := Lib.hid (FIN.out 2 (.inl ⟨GD.out, by unfold pinOf; rw [if_pos hkp], by unfold pinOf; rw [if_pos hkp]⟩))
    clear hkp
    go_wp2
    go_ret2
    exact hy.out
  rw [decide_eq_true hkp]
  have HK := Lib.hid hkp
  clear hkp
  go_wp2_with fail
  refine (l4In_any L.Ap L.np L.cp b.pins root w.heap.size w2 (by omega) (HB.out.below (B2.out.mono (by omega))).pins).mono ?_
  rintro e w' ⟨rfl, rfl⟩
  by_cases hin : root ∈ b.pins
  · rw [decide_eq_true hin]
    have hy := Lib.hid (FIN.out 4 (.inl ⟨GD.out, by unfold pinOf; rw [if_neg (by simpa using HK.out), if_pos hin], by unfold pinOf; rw [if_neg (by simpa using HK.out), if_pos hin]⟩))
    clear hin
    go_wp2
    go_ret2
    exact hy.out
  rw [decide_eq_false hin]
  have HIN := Lib.hid hin
  clear hin
  by_cases h6 : 6 ≤ L.np
  · have hd : decide ((6 : Int) ≤ (L.np : Int)) = true := decide_eq_true (by omega)
    have hp : pinOf b root = ([], 3) := by unfold pinOf; rw [if_neg (by simpa using HK.out), if_neg HIN.out, if_pos (by omega)]
    have hy := Lib.hid (FIN.out 3 (.inl ⟨GD.out, by rw [hp], by rw [hp]⟩))
    clear h6 hp
    go_wp2
    go_ret2
    exact hy.out
  have hd : decide ((6 : Int) ≤ (L.np : Int)) = false := decide_eq_false (by omega)
  have hp : pinOf b root = ([ch1 4 root], 0) := by unfold pinOf; rw [if_neg (by simpa using HK.out), if_neg HIN.out, if_neg (by omega)]
  have HP := Lib.hid (show PinIs b root [ch1 4 root] 0 from .inl ⟨GD.out, by rw [hp], by rw [hp]⟩)
  have o3 := O1.out.below B2.out
  have ba : Below w2.heap.size w2 (w2.alloc (.cells #[.int .i64 4, .int .i64 root, .slice none 0 0] 54)) := (Below.refl _ _).alloc (Nat.le_refl _) _
  obtain ⟨hl, hu, sl, hrow, hsub⟩ := o3.below (ba.mono s2)
  have hhi : w1.heap.size ≤ (w2.alloc (.cells #[.int .i64 4, .int .i64 root, .slice none 0 0] 54)).heap.size := by simp; omega
  have BA := Lib.hid (B1.out.trans ((B2.out.trans (ba.mono s2)).mono (by omega)))
  clear hp o3 ba h6
  go_wp2_with (at_builtin; go_loud (refine wpList_append_lies _ rfl _ _ 30 rfl w.heap.size 54 i0 (.agg #[.int .i64 0, .int .i64 0, .slice none 0 0]) 3 40 Tryz.underlying30 HI.out HZ0.out HZ1.out HZ2.out rfl (by decide) (.slice (some ⟨w.heap.size + 1, 0, none⟩) 0 0) 0 (hvs 0 [] sl) (by simp [Act.eval]) hrow ⟨w2.heap.size, 0, none⟩ 1 1 [.int .i64 4, .int .i64 root, .slice none 0 0] (by simp [Act.eval]) rfl (by intro j u hj; match j, hj with | 0, hj => (simp at hj; subst hj; simp [Addr.add]) | 1, hj => (simp at hj; subst hj; simp [Addr.add]) | 2, hj => (simp at hj; subst hj; simp [Addr.add])) (by intro u hu; simp at hu; rcases hu with rfl | rfl | rfl <;> rfl) (by omega) (by unfold maxLen; omega) (by omega) (by simp; omega) _ rfl ?_))
  intro g6 c6 w6 hown6 hgrow6 hwh6 hlt6
  have h6 := OwnCh.pushed1 hl hu hsub hown6 hgrow6 (hwh6.elim .inl (fun h => .inr (by simp; omega))) hhi (Nat.le_refl _)
  have H6 := Lib.hid h6
  have B7 := Lib.hid (BA.out.grown hgrow6 (by simp; omega) (fun g hg => (World.ownsRow.lt hrow g hg).1))
  clear hown6 hgrow6 hwh6 h6 hrow hsub hu hl
  go_wp2
  go_ret2
  exact ⟨_, _, _, _, 0, rfl, HP.out, H6.out, B7.out⟩
end Go.Proofs.YtdhnhgppapkikaaGreatDoor

-- PinO: The model's PinOf and UnpinOf: whole.
namespace Go.Proofs.YtdhnhgppapkikaaGreatDoor
set_option maxRecDepth 20000
set_option linter.unusedVariables false
set_option linter.unusedSimpArgs false
open Go.RowKit

set_option maxHeartbeats 1600000 in
theorem specPinOf_any (L : BLay) (b : MBase) (root : Int) (B : Nat) (w : World) (fit : BaseFit L b) (hB : B ≤ w.heap.size) (hb : BaseIn w B L b) :
    Calls Tryz.prog 9 #[L.v b, .int .i64 root] w (GavePin b root w) := by
  have FIT := Lib.hid fit
  have HB0 := Lib.hid (hb.more hB)
  have hsum := fit.sum
  obtain ⟨w1, hw1⟩ : ∃ w1, w.alloc (.cells #[.slice L.A L.n L.c, .int .i64 b.head, .slice L.Ap L.np L.cp, .int .i64 b.phase, .slice L.Ag L.ng L.cg, .slice L.Ab L.nb L.cb, .int .i64 b.cursor] 27) = w1 := ⟨_, rfl⟩
  have x1 : Box w1 w.heap.size _ _ := hw1 ▸ heap_alloc_new _ _
  have b1 : Below w.heap.size w w1 := hw1 ▸ (Below.refl _ _).alloc (Nat.le_refl _) _
  have X1 := Lib.hid x1
  have B1 := Lib.hid b1
  have HB := Lib.hid (HB0.out.below b1)
  have s1 : w.heap.size ≤ w1.heap.size := b1.size
  have hxl : w.heap.size < w1.heap.size := x1.lt
  have hcell : ∀ W, Below w1.heap.size w1 W → ∀ k, W.cell? ⟨w.heap.size, k, none⟩ = (#[.slice L.A L.n L.c, .int .i64 b.head, .slice L.Ap L.np L.cp, .int .i64 b.phase, .slice L.Ag L.ng L.cg, .slice L.Ab L.nb L.cb, .int .i64 b.cursor] : Array Value)[k]? := fun W hW k => (X1.out.below hW hxl).cell k
  have CE := Lib.hid hcell
  have q0 : w1.cell? ⟨w.heap.size, 0, none⟩ = some (.slice L.A L.n L.c) := by simpa using hcell w1 (Below.refl _ _) 0
  have q1 : w1.cell? ⟨w.heap.size, 1, none⟩ = some (.int .i64 b.head) := by simpa using hcell w1 (Below.refl _ _) 1
  have q2 : w1.cell? ⟨w.heap.size, 2, none⟩ = some (.slice L.Ap L.np L.cp) := by simpa using hcell w1 (Below.refl _ _) 2
  have q3 : w1.cell? ⟨w.heap.size, 3, none⟩ = some (.int .i64 b.phase) := by simpa using hcell w1 (Below.refl _ _) 3
  have q4 : w1.cell? ⟨w.heap.size, 4, none⟩ = some (.slice L.Ag L.ng L.cg) := by simpa using hcell w1 (Below.refl _ _) 4
  have q5 : w1.cell? ⟨w.heap.size, 5, none⟩ = some (.slice L.Ab L.nb L.cb) := by simpa using hcell w1 (Below.refl _ _) 5
  have q6 : w1.cell? ⟨w.heap.size, 6, none⟩ = some (.int .i64 b.cursor) := by simpa using hcell w1 (Below.refl _ _) 6
  clear x1 b1 HB0 hcell hb fit
  unfold BLay.v
  go_enter Tryz.func9, Tryz.ntmps9
  go_wp2_with fail
  refine (specBaseOk_any L b w.heap.size w1 FIT.out s1 HB.out).mono ?_
  rintro e w2 ⟨r, rfl, hr, b2⟩
  have HR := Lib.hid hr
  have B2 := Lib.hid b2
  have s2 : w1.heap.size ≤ w2.heap.size := b2.size
  have HB2 := Lib.hid (HB.out.below (b2.mono s1))
  have BW := Lib.hid (B1.out.trans (b2.mono s1))
  clear hr b2 q0 q1 q2 q3 q4 q5 q6
  have q0 : w2.cell? ⟨w.heap.size, 0, none⟩ = some (.slice L.A L.n L.c) := by simpa using CE.out w2 B2.out 0
  have q1 : w2.cell? ⟨w.heap.size, 1, none⟩ = some (.int .i64 b.head) := by simpa using CE.out w2 B2.out 1
  have q2 : w2.cell? ⟨w.heap.size, 2, none⟩ = some (.slice L.Ap L.np L.cp) := by simpa using CE.out w2 B2.out 2
  have q3 : w2.cell? ⟨w.heap.size, 3, none⟩ = some (.int .i64 b.phase) := by simpa using CE.out w2 B2.out 3
  have q4 : w2.cell? ⟨w.heap.size, 4, none⟩ = some (.slice L.Ag L.ng L.cg) := by simpa using CE.out w2 B2.out 4
  have q5 : w2.cell? ⟨w.heap.size, 5, none⟩ = some (.slice L.Ab L.nb L.cb) := by simpa using CE.out w2 B2.out 5
  have q6 : w2.cell? ⟨w.heap.size, 6, none⟩ = some (.int .i64 b.cursor) := by simpa using CE.out w2 B2.out 6
  cases r with
  | false =>
    have NO := Lib.hid (fun h => absurd (HR.out.2 h) (by simp) : ¬ BaseGood b)
    go_wp2
    go_ret2
    exact ⟨_, 0, 0, [], 1, rfl, .inr ⟨NO.out, rfl, rfl⟩, ((OwnCh.made0 w2).base (by omega)).more (by simp), BW.out.alloc (by omega) _⟩
  | true =>
    have GB := Lib.hid (HR.out.1 (by trivial))
    go_wp2_with fail
    refine (l14Pin_any L b root w.heap.size w2 FIT.out (by omega) HB2.out GB.out).mono ?_
    rintro e w3 ⟨A3, n3, c3, l, k, rfl, hp, o3, b3⟩
    have HP := Lib.hid hp
    have O3 := Lib.hid o3
    have B3 := Lib.hid (BW.out.trans (b3.mono (by omega)))
    clear hp o3 b3
    go_wp2
    go_ret2
    exact ⟨_, _, _, _, _, rfl, HP.out, O3.out.base (by omega), B3.out⟩

set_option maxHeartbeats 1600000 in
theorem specUnpinOf_any (L : BLay) (b : MBase) (root : Int) (B : Nat) (w : World) (fit : BaseFit L b) (hB : B ≤ w.heap.size) (hb : BaseIn w B L b) :
    Calls Tryz.prog 11 #[L.v b, .int .i64 root] w (GaveUnpin b root w) := by
  have FIT := Lib.hid fit
  have HB0 := Lib.hid (hb.more hB)
  have hsum := fit.sum
  obtain ⟨w1, hw1⟩ : ∃ w1, w.alloc (.cells #[.slice L.A L.n L.c, .int .i64 b.head, .slice L.Ap L.np L.cp, .int .i64 b.phase, .slice L.Ag L.ng L.cg, .slice L.Ab L.nb L.cb, .int .i64 b.cursor] 27) = w1 := ⟨_, rfl⟩
  have x1 : Box w1 w.heap.size _ _ := hw1 ▸ heap_alloc_new _ _
  have b1 : Below w.heap.size w w1 := hw1 ▸ (Below.refl _ _).alloc (Nat.le_refl _) _
  have X1 := Lib.hid x1
  have B1 := Lib.hid b1
  have HB := Lib.hid (HB0.out.below b1)
  have s1 : w.heap.size ≤ w1.heap.size := b1.size
  have hxl : w.heap.size < w1.heap.size := x1.lt
  have hcell : ∀ W, Below w1.heap.size w1 W → ∀ k, W.cell? ⟨w.heap.size, k, none⟩ = (#[.slice L.A L.n L.c, .int .i64 b.head, .slice L.Ap L.np L.cp, .int .i64 b.phase, .slice L.Ag L.ng L.cg, .slice L.Ab L.nb L.cb, .int .i64 b.cursor] : Array Value)[k]? := fun W hW k => (X1.out.below hW hxl).cell k
  have CE := Lib.hid hcell
  have q0 : w1.cell? ⟨w.heap.size, 0, none⟩ = some (.slice L.A L.n L.c) := by simpa using hcell w1 (Below.refl _ _) 0
  have q1 : w1.cell? ⟨w.heap.size, 1, none⟩ = some (.int .i64 b.head) := by simpa using hcell w1 (Below.refl _ _) 1
  have q2 : w1.cell? ⟨w.heap.size, 2, none⟩ = some (.slice L.Ap L.np L.cp) := by simpa using hcell w1 (Below.refl _ _) 2
  have q3 : w1.cell? ⟨w.heap.size, 3, none⟩ = some (.int .i64 b.phase) := by simpa using hcell w1 (Below.refl _ _) 3
  have q4 : w1.cell? ⟨w.heap.size, 4, none⟩ = some (.slice L.Ag L.ng L.cg) := by simpa using hcell w1 (Below.refl _ _) 4
  have q5 : w1.cell? ⟨w.heap.size, 5, none⟩ = some (.slice L.Ab L.nb L.cb) := by simpa using hcell w1 (Below.refl _ _) 5
  have q6 : w1.cell? ⟨w.heap.size, 6, none⟩ = some (.int .i64 b.cursor) := by simpa using hcell w1 (Below.refl _ _) 6
  clear x1 b1 HB0 hcell hb fit
  unfold BLay.v
  go_enter Tryz.func11, Tryz.ntmps11
  go_wp2_with fail
  refine (specBaseOk_any L b w.heap.size w1 FIT.out s1 HB.out).mono ?_
  rintro e w2 ⟨r, rfl, hr, b2⟩
  have HR := Lib.hid hr
  have B2 := Lib.hid b2
  have s2 : w1.heap.size ≤ w2.heap.size := b2.size
  have HB2 := Lib.hid (HB.out.below (b2.mono s1))
  have BW := Lib.hid (B1.out.trans (b2.mono s1))
  clear hr b2 q0 q1 q2 q3 q4 q5 q6
  have q0 : w2.cell? ⟨w.heap.size, 0, none⟩ = some (.slice L.A L.n L.c) := by simpa using CE.out w2 B2.out 0
  have q1 : w2.cell? ⟨w.heap.size, 1, none⟩ = some (.int .i64 b.head) := by simpa using CE.out w2 B2.out 1
  have q2 : w2.cell? ⟨w.heap.size, 2, none⟩ = some (.slice L.Ap L.np L.cp) := by simpa using CE.out w2 B2.out 2
  have q3 : w2.cell? ⟨w.heap.size, 3, none⟩ = some (.int .i64 b.phase) := by simpa using CE.out w2 B2.out 3
  have q4 : w2.cell? ⟨w.heap.size, 4, none⟩ = some (.slice L.Ag L.ng L.cg) := by simpa using CE.out w2 B2.out 4
  have q5 : w2.cell? ⟨w.heap.size, 5, none⟩ = some (.slice L.Ab L.nb L.cb) := by simpa using CE.out w2 B2.out 5
  have q6 : w2.cell? ⟨w.heap.size, 6, none⟩ = some (.int .i64 b.cursor) := by simpa using CE.out w2 B2.out 6
  cases r with
  | false =>
    have NO := Lib.hid (fun h => absurd (HR.out.2 h) (by simp) : ¬ BaseGood b)
    go_wp2
    go_ret2
    exact ⟨_, 0, 0, [], 1, rfl, .inr ⟨NO.out, rfl, rfl⟩, ((OwnCh.made0 w2).base (by omega)).more (by simp), BW.out.alloc (by omega) _⟩
  | true =>
    have GB := Lib.hid (HR.out.1 (by trivial))
    go_wp2_with fail
    refine (l14Unpin_any L b root w.heap.size w2 FIT.out (by omega) HB2.out GB.out).mono ?_
    rintro e w3 ⟨A3, n3, c3, l, k, rfl, hp, o3, b3⟩
    have HP := Lib.hid hp
    have O3 := Lib.hid o3
    have B3 := Lib.hid (BW.out.trans (b3.mono (by omega)))
    clear hp o3 b3
    go_wp2
    go_ret2
    exact ⟨_, _, _, _, _, rfl, HP.out, O3.out.base (by omega), B3.out⟩

end Go.Proofs.YtdhnhgppapkikaaGreatDoor

-- RowL: Plain laws of rows of cells: what copying into one makes; rows put together. No statement of the program is proved here.
namespace Go.Proofs.YtdhnhgppapkikaaGreatDoor
set_option maxRecDepth 20000
set_option linter.unusedVariables false
set_option linter.unusedSimpArgs false
open Go.RowKit

/-- copy into a row, at elements of any size. -/
theorem run_copy_wide {P : Program} (w : World) (dT sT ty elem : TypeId) (size g o dLen dCap m : Nat) (a : Addr) (sLen sCap : Nat) (cur : Array Value) (t : TypeId) (cs : List Value)
    (hu : P.underlying dT = some (.slice elem)) (hs : (P.info? elem).map (·.size) = some size)
    (hg : w.heap[g]? = some (.cells cur t (0, 0))) (hm : m = Nat.min sLen dLen) (hn : cs.length = m * size)
    (hsrc : ∀ j v, cs[j]? = some v → w.cell? (a.add j) = some v) (hfit : o + cs.length ≤ cur.size) (h1 : ∀ v ∈ cs, v.oneCell' = true) :
    (Builtin.copy_ #[dT, sT] ty #[.slice (some ⟨g, o, none⟩) dLen dCap, .slice (some a) sLen sCap]).run P w =
      .ok (goInt m) (w.setRow g (cur.toList.take o ++ cs ++ cur.toList.drop (o + cs.length)).toArray) := by
  have hl := run_loadCells_list (P := P) w a cs hsrc
  have hst := run_storeCells_at P g o t cs 0 cur w hg (by simpa using hfit) h1
  cases hq : P.info? elem with
  | none => simp [hq] at hs
  | some i =>
    have hi : i.size = size := by simpa [hq] using hs
    simp [Builtin.copy_, run_underlying hu, Builtin.lenOf, Builtin.firstCells, sizeOf, typeInfo, hq, hi, ← hm, ← hn, hl, hst]

/-- a row with others put in at a place. -/
def putAt (xs us : List Value) (k : Nat) : List Value := xs.take k ++ us ++ xs.drop k
theorem putAt_len (xs us : List Value) (k : Nat) : (putAt xs us k).length = xs.length + us.length := by
  unfold putAt
  simp
  omega
theorem setRow_drew (w : World) (g : Nat) (cs : Array Value) : (w.setRow g cs).drew = w.drew.setRow g cs := rfl
theorem heap_setRow_other (w : World) (g k : Nat) (cs : Array Value) (h : k ≠ g) : (w.setRow g cs).heap[k]? = w.heap[k]? := setRow_other w g k cs h
theorem setRow_twice (w : World) (g : Nat) (a b : Array Value) : (w.setRow g a).setRow g b = w.setRow g b := setRow_setRow w g a b
/-- what two copies make of a row: first the tail moves up, then the new ones come in. -/
theorem shift_row (cur us xs : List Value) (k m : Nat) (hx : cur.take xs.length = xs) (hk : k ≤ xs.length) (hu : us.length = m) (hc : xs.length + m ≤ cur.length) :
    let c1 := cur.take (k + m) ++ xs.drop k ++ cur.drop (k + m + (xs.drop k).length)
    (c1.take k ++ us ++ c1.drop (k + us.length)).take (xs.length + m) = putAt xs us k ∧ (c1.take k ++ us ++ c1.drop (k + us.length)).length = cur.length := by
  intro c1
  have hl1 : c1.length = cur.length := by simp [c1]; omega
  have hxl : xs.length ≤ cur.length := by omega
  have hat : ∀ j, j < xs.length → cur[j]? = xs[j]? := fun j hj => by have := congrArg (·[j]?) hx; simp only [List.getElem?_take, if_pos hj] at this; exact this
  refine ⟨?_, by simp [hl1]; omega⟩
  apply List.ext_getElem?
  intro j
  unfold putAt
  by_cases hj : j < xs.length + m
  · rw [List.getElem?_take, if_pos hj]
    have hkc : min k cur.length = k := by omega
    by_cases h1 : j < k
    · have e1 : (c1.take k ++ us ++ c1.drop (k + us.length))[j]? = xs[j]? := by
        rw [List.append_assoc, List.getElem?_append_left (by simp [hl1]; omega), List.getElem?_take, if_pos h1]
        simp only [c1]
        rw [List.append_assoc, List.getElem?_append_left (by simp; omega), List.getElem?_take, if_pos (by omega)]
        exact hat j (by omega)
      rw [e1, List.append_assoc, List.getElem?_append_left (by simp; omega), List.getElem?_take, if_pos h1]
    · by_cases h2 : j < k + m
      · have e1 : (c1.take k ++ us ++ c1.drop (k + us.length))[j]? = us[j - k]? := by
          rw [List.append_assoc, List.getElem?_append_right (by simp [hl1]; omega), List.getElem?_append_left (by simp [hl1]; omega)]
          congr 1
          simp [hl1]; omega
        rw [e1, List.append_assoc, List.getElem?_append_right (by simp; omega), List.getElem?_append_left (by simp; omega)]
        congr 1
        simp; omega
      · have e1 : (c1.take k ++ us ++ c1.drop (k + us.length))[j]? = c1[j]? := by
          rw [List.append_assoc, List.getElem?_append_right (by simp [hl1]; omega), List.getElem?_append_right (by simp [hl1]; omega), List.getElem?_drop]
          congr 1
          simp [hl1]; omega
        rw [e1]
        simp only [c1]
        rw [List.append_assoc, List.getElem?_append_right (by simp; omega), List.getElem?_append_left (by simp; omega), List.getElem?_drop]
        rw [List.append_assoc (xs.take k), List.getElem?_append_right (by simp; omega), List.getElem?_append_right (by simp; omega), List.getElem?_drop]
        congr 1
        simp; omega
  · rw [List.getElem?_take, if_neg hj, List.getElem?_eq_none (by simp; omega)]
/-- a row that two copies fill. -/
theorem grow_row (xs us zs : List Value) (k m : Nat) (hk : k ≤ xs.length) (hu : us.length = m) (hz : xs.length - k + m ≤ zs.length) :
    let c0 := xs.take k ++ zs
    let c1 := c0.take k ++ us ++ c0.drop (k + us.length)
    (c1.take (k + m) ++ xs.drop k ++ c1.drop (k + m + (xs.drop k).length)).take (xs.length + m) = putAt xs us k ∧ (c1.take (k + m) ++ xs.drop k ++ c1.drop (k + m + (xs.drop k).length)).length = c0.length := by
  intro c0 c1
  have l0 : c0.length = k + zs.length := by simp [c0]; omega
  have l1 : c1.length = c0.length := by simp [c1, l0]; omega
  refine ⟨?_, by simp [l1, l0]; omega⟩
  apply List.ext_getElem?
  intro j
  unfold putAt
  by_cases hj : j < xs.length + m
  · rw [List.getElem?_take, if_pos hj]
    by_cases h1 : j < k + m
    · rw [List.append_assoc, List.getElem?_append_left (by simp [l1, l0]; omega), List.getElem?_take, if_pos h1, List.getElem?_append_left (by simp; omega)]
      have e0 : c0.take k = xs.take k := by
        simp only [c0]
        rw [List.take_append_of_le_length (by simp; omega), List.take_take, Nat.min_self]
      rw [e0]
      conv => rhs; rw [List.getElem?_append_left (by simp; omega)]
    · rw [List.append_assoc, List.getElem?_append_right (by simp [l1, l0]; omega), List.getElem?_append_left (by simp [l1, l0]; omega), List.getElem?_append_right (by simp; omega)]
      congr 1
      simp [l1, l0]; omega
  · rw [List.getElem?_take, if_neg hj, List.getElem?_eq_none (by simp; omega)]
theorem own_parts {w : World} {base size n cap g : Nat} {e : TypeId} {xs : List Value} (h : w.ownsRow base e size (.slice (some ⟨g, 0, none⟩) n cap) n xs) :
    ∃ cur, base ≤ g ∧ w.heap[g]? = some (.cells cur e (0, 0)) ∧ n ≤ cap ∧ cap ≤ maxLen ∧ cur.size = cap * size ∧ cur.toList.take (n * size) = xs := by
  rcases h.2 with ⟨h, _⟩ | ⟨g', cap', cur, hv, h1, h2, h3, h4, h5, h6⟩
  · cases h
  · cases hv
    exact ⟨cur, h1, h2, h3, h4, h5, h6⟩
theorem own_mk {w : World} {base size n cap g : Nat} {e : TypeId} {xs : List Value} (cur : Array Value) (hl : xs.length = n * size) (h1 : base ≤ g) (h2 : w.heap[g]? = some (.cells cur e (0, 0))) (h3 : n ≤ cap) (h4 : cap ≤ maxLen) (h5 : cur.size = cap * size) (h6 : cur.toList.take (n * size) = xs) :
    w.ownsRow base e size (.slice (some ⟨g, 0, none⟩) n cap) n xs := ⟨hl, .inr ⟨g, cap, cur, rfl, h1, h2, h3, h4, h5, h6⟩⟩
theorem own_cap {w : World} {base size n c : Nat} {A : Option Addr} {e : TypeId} {xs : List Value} (h : w.ownsRow base e size (.slice A n c) n xs) : n ≤ c ∧ c ≤ maxLen ∧ (A = none → c = 0) := by
  rcases h.2 with ⟨h, rfl⟩ | ⟨g', cap', cur, hv, h1, h2, h3, h4, h5, h6⟩
  · cases h; exact ⟨Nat.le_refl _, by unfold maxLen; omega, fun _ => rfl⟩
  · cases hv; exact ⟨h3, h4, fun h => by cases h⟩
theorem own_none {w : World} {base size n c : Nat} {A : Option Addr} {e : TypeId} {xs : List Value} (h : w.ownsRow base e size (.slice A n c) n xs) : (A = none ∧ n = 0 ∧ c = 0) ∨ ∃ g, A = some ⟨g, 0, none⟩ := by
  rcases h.2 with ⟨h, rfl⟩ | ⟨g', cap', cur, hv, _⟩
  · cases h; exact .inl ⟨rfl, rfl, rfl⟩
  · cases hv; exact .inr ⟨g', rfl⟩
theorem grown_setRow (w : World) (g : Nat) (cs : Array Value) : w.grownBy (w.setRow g cs) (some g) :=
  ⟨rfl, rfl, rfl, by simp, fun k _ hk => setRow_other w g k _ (fun e => hk (by rw [e]))⟩
end Go.Proofs.YtdhnhgppapkikaaGreatDoor

-- Srch: slices.BinarySearch at int64, as the program calls it; where a number belongs in a list that rises. No statement of the program is proved here.
namespace Go.Proofs.YtdhnhgppapkikaaGreatDoor
set_option maxRecDepth 100000
set_option linter.unusedVariables false
set_option linter.unusedSimpArgs false
open Go.RowKit

/-- how many of a list that rises are below a number: where it stands, or would. -/
def lowI (l : List Int) (m : Int) : Nat := l.findIdx fun x => decide (m ≤ x)
theorem lowI_le (l : List Int) (m : Int) : lowI l m ≤ l.length := List.findIdx_le_length
theorem lowI_below (l : List Int) (m : Int) (j : Nat) (h : j < lowI l m) : l[j]?.getD 0 < m := by
  have hl := lowI_le l m
  have h2 := List.not_of_lt_findIdx (show j < l.findIdx fun x => decide (m ≤ x) from h)
  rw [List.getElem?_eq_getElem (by omega)]
  simpa using h2
theorem lowI_above (l : List Int) (m : Int) (h : lowI l m < l.length) : m ≤ l[lowI l m]?.getD 0 := by
  have h2 := List.findIdx_getElem (w := show l.findIdx (fun x => decide (m ≤ x)) < l.length from h)
  have h2 : m ≤ l[lowI l m] := of_decide_eq_true h2
  rw [List.getElem?_eq_getElem h]
  exact h2
theorem lowI_at (l : List Int) (m : Int) (k : Nat) (hk : k ≤ l.length) (h0 : ∀ j, j < k → l[j]?.getD 0 < m) (h1 : k < l.length → m ≤ l[k]?.getD 0) : lowI l m = k := by
  have hle := lowI_le l m
  rcases Nat.lt_trichotomy (lowI l m) k with h | h | h
  · have h2 := lowI_above l m (by omega)
    have h3 := h0 _ h
    omega
  · exact h
  · have h2 := lowI_below l m k h
    have := h1 (by omega)
    omega
theorem riseI_le (l : List Int) (h : RiseI l) (i j : Nat) (hij : i ≤ j) (hj : j < l.length) : l[i]?.getD 0 ≤ l[j]?.getD 0 := by
  rcases Nat.lt_or_ge i j with h1 | h1
  · have := riseI_at l h i j h1 hj; omega
  · obtain rfl : i = j := by omega
    omega
/-- the number is there. -/
def hitI (l : List Int) (m : Int) : Bool := decide (lowI l m < l.length ∧ l[lowI l m]?.getD 0 = m)
theorem hitI_mem (l : List Int) (m : Int) (h : RiseI l) : hitI l m = true ↔ m ∈ l := by
  unfold hitI
  rw [decide_eq_true_iff]
  constructor
  · rintro ⟨h1, h2⟩
    rw [List.getElem?_eq_getElem h1] at h2
    have h2 : l[lowI l m] = m := h2
    rw [← h2]
    exact List.getElem_mem h1
  · intro hm
    obtain ⟨i, hi, e⟩ := List.mem_iff_getElem.1 hm
    have hk : lowI l m = i := lowI_at l m i (by omega) (fun j hj => by
      have := riseI_at l h j i hj hi
      rw [List.getElem?_eq_getElem hi] at this
      have e' : (some l[i]).getD 0 = m := e
      omega) (fun _ => by rw [List.getElem?_eq_getElem hi]; exact Int.le_of_eq e.symm)
    rw [hk]
    exact ⟨hi, by rw [List.getElem?_eq_getElem hi]; exact e⟩
theorem lowI_place (l : List Int) (m : Int) (h : m ∉ l) : lowI l m = placeI l m := by
  refine (placeI_at l m (lowI l m) (lowI_le l m) (fun j hj => by have := lowI_below l m j hj; omega) (fun hk => ?_)).symm
  have h1 := lowI_above l m hk
  rw [List.getElem?_eq_getElem hk] at h1 ⊢
  rcases Int.lt_or_eq_of_le h1 with h2 | h2
  · exact h2
  · have h2 : m = l[lowI l m] := h2
    exact absurd (h2 ▸ List.getElem_mem hk) h

theorem isNaNc_any (x : Int) (w : World) : Calls Tryz.prog 199 #[.int .i64 x] w fun e w' => e = .returned (.bool false) ∧ w' = w := by
  have mixed : Tryz.prog.follows .mixedOrders = true := by kernel_rfl
  go_enter Tryz.func199, Tryz.ntmps199
  go_wp2
  go_ret
  exact ⟨by simp, rfl⟩
theorem isNaNs_any (x : Int) (w : World) : Calls Tryz.prog 161 #[.int .i64 x] w fun e w' => e = .returned (.bool false) ∧ w' = w := by
  have mixed : Tryz.prog.follows .mixedOrders = true := by kernel_rfl
  go_enter Tryz.func161, Tryz.ntmps161
  go_wp2
  go_ret
  exact ⟨by simp, rfl⟩
theorem lessI_any (x y : Int) (w : World) : Calls Tryz.prog 160 #[.int .i64 x, .int .i64 y] w fun e w' => e = .returned (.bool (decide (x < y))) ∧ w' = w := by
  have mixed : Tryz.prog.follows .mixedOrders = true := by kernel_rfl
  go_enter Tryz.func160, Tryz.ntmps160
  go_wp2_with (go_at_call 199; refine (isNaNc_any _ _).mono ?_; rintro e w' ⟨rfl, rfl⟩)
  go_ret
  exact ⟨rfl, rfl⟩
set_option maxHeartbeats 4000000 in
theorem search_any (A : Option Addr) (n c : Nat) (l : List Int) (m : Int) (B : Nat) (w : World) (hn : n ≤ 1048576) (hb : Ints w B A n l) (hr : RiseI l) :
    Calls Tryz.prog 114 #[.slice A n c, .int .i64 m] w fun e w' => e = .returned (.tuple #[.int .i64 (lowI l m : Nat), .bool (hitI l m)]) ∧ ∃ q, w' = w.drewN q := by
  have mixed : Tryz.prog.follows .mixedOrders = true := by kernel_rfl
  have hlen := hb.1
  have HB := Lib.hid hb
  have HR := Lib.hid hr
  clear hb hr
  go_enter Tryz.func114, Tryz.ntmps114
  go_wp2
  go_loopw [7, 8] (fun s7 s8 wr => ∃ lo hi q : Nat, s7 = .int .i64 lo ∧ s8 = .int .i64 hi ∧ lo ≤ hi ∧ hi ≤ n ∧ wr = w.drewN q ∧ (∀ t, t < lo → l[t]?.getD 0 < m) ∧ (∀ t, hi ≤ t → t < n → m ≤ l[t]?.getD 0)) (fun s7 s8 _ => (intOf s8).toNat - (intOf s7).toNat)
  case atStart => exact ⟨0, n, 0, rfl, rfl, Nat.zero_le _, Nat.le_refl _, rfl, fun t ht => absurd ht (Nat.not_lt_zero _), fun t h1 h2 => by omega⟩
  case round =>
    obtain ⟨lo, hi, q, rfl, rfl, hlh, hin, hwq, h1, h2⟩ := hrel
    have H1 := Lib.hid h1
    have H2 := Lib.hid h2
    have HQ := Lib.hid hwq
    clear h1 h2
    by_cases hlt : lo < hi
    · obtain ⟨b, off, rfl, hbB, hcell⟩ := HB.out.2 (by omega)
      have cm : wr.cell? ⟨b, off + (lo + hi) / 2, none⟩ = some (.int .i64 (l[(lo + hi) / 2]?.getD 0)) := by rw [hwq]; exact hcell _ (by omega)
      clear hcell hwq
      obtain ⟨y, hy⟩ : ∃ y, l[(lo + hi) / 2]?.getD 0 = y := ⟨_, rfl⟩
      rw [hy] at cm
      have Y := Lib.hid hy
      clear hy
      by_cases hyx : y < m
      · go_wp2_with (go_at_call 160; refine (lessI_any _ _ _).mono ?_; rintro e w' ⟨rfl, rfl⟩)
        go_roundw
        case measure => simp [intOf]; omega
        case rel =>
          refine ⟨(lo + hi) / 2 + 1, hi, q, by go_num, rfl, by omega, hin, HQ.out, fun t ht => ?_, H2.out⟩
          have := riseI_le l HR.out t ((lo + hi) / 2) (by omega) (by omega)
          rw [Y.out] at this
          omega
      · go_wp2_with (go_at_call 160; refine (lessI_any _ _ _).mono ?_; rintro e w' ⟨rfl, rfl⟩)
        go_roundw
        case measure => simp [intOf]; omega
        case rel =>
          refine ⟨lo, (lo + hi) / 2, q, rfl, by go_num, by omega, by omega, HQ.out, H1.out, fun t h3 h4 => ?_⟩
          have := riseI_le l HR.out ((lo + hi) / 2) t h3 (by omega)
          rw [Y.out] at this
          omega
    · obtain rfl : lo = hi := by omega
      have hlow : lowI l m = lo := lowI_at l m lo (by omega) H1.out (fun h => H2.out lo (Nat.le_refl _) (by omega))
      have HL := Lib.hid hlow
      have hfin : hitI l m = decide (lo < n ∧ l[lo]?.getD 0 = m) := by unfold hitI; rw [hlow, hlen]
      have HF := Lib.hid hfin
      clear hlow hfin
      by_cases hn2 : lo < n
      · obtain ⟨b, off, rfl, hbB, hcell⟩ := HB.out.2 (by omega)
        have cm : wr.cell? ⟨b, off + lo, none⟩ = some (.int .i64 (l[lo]?.getD 0)) := by rw [hwq]; exact hcell _ (by omega)
        clear hcell hwq
        obtain ⟨y, hy⟩ : ∃ y, l[lo]?.getD 0 = y := ⟨_, rfl⟩
        rw [hy] at cm
        have Y := Lib.hid hy
        clear hy
        by_cases hyx : y = m
        · go_wp2_with (first | (go_at_call 160; refine (lessI_any _ _ _).mono ?_; rintro e w' ⟨rfl, rfl⟩) | (go_at_call 161; refine (isNaNs_any _ _).mono ?_; rintro e w' ⟨rfl, rfl⟩))
          go_ret2
          refine ⟨?_, q, HQ.out⟩
          rw [HL.out, HF.out, Y.out, decide_eq_true (show lo < n ∧ y = m from ⟨hn2, hyx⟩)]
          first | rfl | simp [*]
        · go_wp2_with (first | (go_at_call 160; refine (lessI_any _ _ _).mono ?_; rintro e w' ⟨rfl, rfl⟩) | (go_at_call 161; refine (isNaNs_any _ _).mono ?_; rintro e w' ⟨rfl, rfl⟩))
          go_ret2
          refine ⟨?_, q, HQ.out⟩
          rw [HL.out, HF.out, Y.out, decide_eq_false (show ¬ (lo < n ∧ y = m) from fun h => hyx h.2)]
          first | rfl | simp [*]
      · clear hwq
        go_wp2_with (first | (go_at_call 160; refine (lessI_any _ _ _).mono ?_; rintro e w' ⟨rfl, rfl⟩) | (go_at_call 161; refine (isNaNs_any _ _).mono ?_; rintro e w' ⟨rfl, rfl⟩))
        go_ret2
        refine ⟨?_, q, HQ.out⟩
        rw [HL.out, HF.out, decide_eq_false (show ¬ (lo < n ∧ l[lo]?.getD 0 = m) from fun h => hn2 h.1)]
        first | rfl | simp [*]
end Go.Proofs.YtdhnhgppapkikaaGreatDoor

-- RightM: Plain facts on what the program asks of a base: whether names rise, whether it is right. No statement of the program is proved here.
namespace Go.Proofs.YtdhnhgppapkikaaGreatDoor
set_option maxRecDepth 20000
set_option linter.unusedVariables false
set_option linter.unusedSimpArgs false
open Go.RowKit

/-- it answers whether P holds. -/
def SaysB (e : Ending) (P : Prop) : Prop := ∃ r, e = .returned (.bool r) ∧ (r = true ↔ P)
theorem SaysB.t {P : Prop} (h : P) : SaysB (.returned (.bool true)) P := ⟨true, rfl, iff_of_true rfl h⟩
theorem SaysB.f {P : Prop} (h : ¬ P) : SaysB (.returned (.bool false)) P := ⟨false, rfl, iff_of_false (by simp) h⟩
/-- the one ahead of the k-th. -/
def lastI (l : List Int) (k : Nat) : Int := if k = 0 then 0 else l[k - 1]?.getD 0
/-- each above 0 and above the one ahead of it. -/
def Rises (l : List Int) : Prop := RiseI l ∧ ∀ x, x ∈ l → 1 ≤ x
theorem Rises.take {l : List Int} (h : Rises l) (k : Nat) : Rises (l.take k) := ⟨h.1.sublist (List.take_sublist k l), fun x hx => h.2 x (List.mem_of_mem_take hx)⟩
theorem rises_nil : Rises [] := ⟨List.Pairwise.nil, fun x hx => by cases hx⟩
theorem lastI_succ (l : List Int) (k : Nat) : lastI l (k + 1) = l[k]?.getD 0 := by simp [lastI]
theorem rises_step (l : List Int) (k : Nat) (hk : k < l.length) : Rises (l.take (k + 1)) ↔ Rises (l.take k) ∧ lastI l k < l[k]?.getD 0 := by
  have e : l.take (k + 1) = l.take k ++ [l[k]] := List.take_succ_eq_append_getElem hk
  have ek : l[k]?.getD 0 = l[k] := by rw [List.getElem?_eq_getElem hk]; rfl
  constructor
  · intro h
    have ht : Rises (l.take k) := by
      have := h.take k
      rwa [List.take_take, Nat.min_eq_left (by omega)] at this
    refine ⟨ht, ?_⟩
    rw [ek]
    have hx : 1 ≤ l[k] := h.2 _ (e ▸ List.mem_append.2 (.inr (List.mem_singleton.2 rfl)))
    rcases Nat.eq_zero_or_pos k with h0 | h0
    · subst h0; unfold lastI; simp; omega
    · unfold lastI
      rw [if_neg (by omega)]
      have h1 := h.1
      rw [e] at h1
      refine (List.pairwise_append.1 h1).2.2 _ ?_ _ (by simp)
      rw [List.getElem?_eq_getElem (by omega)]
      exact List.mem_take_iff_getElem.2 ⟨k - 1, by omega, rfl⟩
  · rintro ⟨h, hl⟩
    rw [ek] at hl
    have hall : ∀ a, a ∈ l.take k → 1 ≤ lastI l k ∧ a ≤ lastI l k := by
      intro a ha
      have h1 := h.2 a ha
      obtain ⟨i, hi, rfl⟩ := List.mem_iff_getElem.1 ha
      have hik : i < k := by simp at hi; omega
      have hle := riseI_le (l.take k) h.1 i (k - 1) (by omega) (by simp; omega)
      have e1 : (l.take k)[i]?.getD 0 = (l.take k)[i] := by rw [List.getElem?_eq_getElem hi]; rfl
      have e2 : (l.take k)[k - 1]?.getD 0 = lastI l k := by
        unfold lastI
        rw [if_neg (by omega), List.getElem?_take, if_pos (by omega)]
      rw [e1, e2] at hle
      exact ⟨by omega, hle⟩
    have hpos : 1 ≤ l[k] := by
      rcases Nat.eq_zero_or_pos k with h0 | h0
      · subst h0; unfold lastI at hl; simp at hl; omega
      · have := (hall l[0] (List.mem_take_iff_getElem.2 ⟨0, by omega, rfl⟩)).1
        omega
    rw [e]
    refine ⟨List.pairwise_append.2 ⟨h.1, by simp, fun a ha b hb => ?_⟩, fun x hx => ?_⟩
    · simp at hb; subst hb
      have := (hall a ha).2
      omega
    · rcases List.mem_append.1 hx with hx | hx
      · exact h.2 x hx
      · simp at hx; subst hx; exact hpos
theorem rises_no {l : List Int} {k : Nat} (hk : k < l.length) (h : ¬ lastI l k < l[k]?.getD 0) : ¬ Rises l := fun hr => h ((rises_step l k hk).1 (hr.take (k + 1))).2

theorem sort_perm (l : List Int) : (l.mergeSort fun x y => decide (x ≤ y)).Perm l := List.mergeSort_perm _ _
theorem sort_pair (l : List Int) : (l.mergeSort fun x y => decide (x ≤ y)).Pairwise (fun x y => x ≤ y) := by
  have h := List.pairwise_mergeSort (le := fun x y : Int => decide (x ≤ y)) (fun a b c h1 h2 => by simp at *; omega) (fun a b => by simp; omega) l
  exact h.imp (fun h => by simpa using h)
theorem rises_sort (l : List Int) : Rises (l.mergeSort fun x y => decide (x ≤ y)) ↔ l.Nodup ∧ ∀ x, x ∈ l → 1 ≤ x := by
  have hp := sort_perm l
  constructor
  · rintro ⟨h1, h2⟩
    exact ⟨hp.nodup_iff.1 (riseI_nodup _ h1), fun x hx => h2 x (hp.mem_iff.2 hx)⟩
  · rintro ⟨h1, h2⟩
    refine ⟨?_, fun x hx => h2 x (hp.mem_iff.1 hx)⟩
    have hn := hp.nodup_iff.2 h1
    have hs := sort_pair l
    unfold RiseI
    refine (List.Pairwise.and hs hn).imp ?_
    rintro a b ⟨h1, h2⟩
    omega

/-- the cells are right, but that there may be too many. -/
def Sound (cs : List (Int × List Int)) : Prop := ∀ i, i < cs.length → CellAt cs i
theorem sound_right (cs : List (Int × List Int)) : Right cs ↔ cs.length ≤ 80 ∧ Sound cs := Iff.rfl
theorem Right.named {cs : List (Int × List Int)} (h : Right cs) {x : Int} (hx : findC cs x < cs.length) : 1 ≤ x := by
  have h1 := (h.2 _ hx).2.1
  rw [findC_is cs x hx] at h1
  rw [← h1]
  exact (nameOf_bd _).1
theorem good_black {b : MBase} (h : BaseGood b) : Rises b.black ∧ Named b.cells b.black := by
  have hn : Named b.cells b.black := by
    rcases h.2 with ⟨_, _, e, _⟩ | ⟨_, hm⟩ | ⟨_, hs⟩
    · rw [e]; intro x hx; cases hx
    · intro x hx; exact hm.names x (List.mem_append.2 (.inr hx))
    · exact hs.names
  exact ⟨⟨h.1.black, fun x hx => h.1.cells.named (hn x hx)⟩, hn⟩
theorem good_pins {b : MBase} (h : BaseGood b) : Rises b.pins := ⟨h.1.rise, h.1.pos⟩
/-- once the plain things are known, it hangs on the phase. -/
theorem pre_ok {b : MBase} (hc : Right b.cells) (h6 : b.pins.length ≤ 6) (hp : Rises b.pins) (hb : Rises b.black) (hw : Whole b.cells (keptOf b)) : PreOk b := by
  refine ⟨hc, ?_, hp.1, hp.2, h6, hb.1, hw⟩
  rcases Int.lt_or_le b.head 0 with h | h
  · have h1 := hc.named (hw b.head (Reached.root ((keptOf_mem b b.head).2 (.inr ⟨rfl, by omega⟩)) (by omega)))
    omega
  · exact h
theorem good_whole {b : MBase} (h : BaseGood b) : Whole b.cells (keptOf b) := h.1.whole
/-- what is asked while it marks. -/
theorem mark_iff {b : MBase} (hc : Right b.cells) (hb : Rises b.black) (hbn : Named b.cells b.black) :
    MarkOk b ↔ ((Named b.cells b.grey ∧ b.grey.Nodup ∧ Whole b.cells b.grey ∧ ∀ x, x ∈ b.grey → x ∉ b.black) ∧ ((∀ y k, y ∈ b.black → KidOf b.cells y k → k ∈ b.grey ∨ k ∈ b.black) ∧ ∀ x, x ∈ keptOf b → x ∈ b.grey ∨ x ∈ b.black) ∧ b.cursor = 0) := by
  constructor
  · intro h
    have ha := List.nodup_append.1 h.apart
    exact ⟨⟨fun x hx => h.names x (List.mem_append.2 (.inl hx)), ha.1, h.whole, fun x hx hx2 => ha.2.2 x hx x hx2 rfl⟩, ⟨fun y k hy hk => List.mem_append.1 (h.kids y k hy hk), fun x hx => List.mem_append.1 (h.kept x hx)⟩, h.cursor⟩
  · rintro ⟨⟨h1, h2, h3, h4⟩, ⟨h5, h6⟩, h7⟩
    exact ⟨fun x hx => (List.mem_append.1 hx).elim (h1 x) (hbn x), List.nodup_append.2 ⟨h2, riseI_nodup _ hb.1, fun a ha b hb e => h4 a ha (e ▸ hb)⟩, h7, h3, fun x hx => List.mem_append.2 (h6 x hx), fun y k hy hk => List.mem_append.2 (h5 y k hy hk)⟩
/-- what is asked while it sweeps. -/
theorem sweep_iff {b : MBase} (hbn : Named b.cells b.black) (l : List Int) (hl : ∀ x, x ∈ l ↔ Reached b.cells (keptOf b) x) :
    SweepOk b ↔ (b.grey = [] ∧ (∀ x, x ∈ l → x ∈ b.black) ∧ 0 ≤ b.cursor) :=
  ⟨fun h => ⟨h.grey, fun x hx => h.all x ((hl x).1 hx), h.cursor⟩, fun ⟨h1, h2, h3⟩ => ⟨h1, h3, hbn, fun x hx => h2 x ((hl x).2 hx)⟩⟩
end Go.Proofs.YtdhnhgppapkikaaGreatDoor

-- InsI: slices.Insert of one element, as the program calls it, at one type of element. No statement of the program is proved here.
namespace Go.Proofs.YtdhnhgppapkikaaGreatDoor
set_option maxRecDepth 100000
set_option linter.unusedVariables false
set_option linter.unusedSimpArgs false
open Go.RowKit

theorem Tryz.infoInsI : (Tryz.prog.info? 2).map (fun i => (i.zero, i.size, i.bytes)) = some (some (.int .i64 0), 1, 8) := by kernel_rfl
theorem Tryz.sizeInsI : ∀ w, (Go.sizeOf 2).run Tryz.prog w = .ok 1 w := by
  intro w
  obtain ⟨i0, hi0, hz0, hz1, hz2⟩ := info_parts Tryz.infoInsI
  simp [sizeOf, typeInfo, hi0, hz1]
theorem Tryz.siInsI : (Tryz.prog.info? 2).map (·.size) = some 1 := by
  obtain ⟨i0, hi0, hz0, hz1, hz2⟩ := info_parts Tryz.infoInsI
  rw [hi0]; simp [hz1]
/-- what insertion of one element leaves. -/
def InsAtI (base n i : Nat) (v : Value) (xs us : List Value) (w : World) (e : Ending) (w' : World) : Prop :=
  ∃ g' c', e = .returned (.slice (some ⟨g', 0, none⟩) (n + 1) c') ∧ w'.ownsRow base 2 1 (.slice (some ⟨g', 0, none⟩) (n + 1) c') (n + 1) (putAt xs us (i * 1)) ∧ w.grownBy w' v.ownBlock ∧ (v.ownBlock = some g' ∨ w.heap.size ≤ g')
set_option maxHeartbeats 4000000 in
/-- there is no room, and the place is not the last. -/
theorem insI_grow (base n c i vb vc g : Nat) (xs us : List Value) (w : World) (hr : w.ownsRow base 2 1 (.slice (some ⟨g, 0, none⟩) n c) n xs) (hbase : base ≤ w.heap.size) (hi : i < n) (hn : n ≤ 1048576) (hc : c < n + 1)
    (hv : w.heap[vb]? = some (.cells us.toArray 2 (0, 0))) (hu : us.length = 1) (h1u : ∀ u ∈ us, u.oneCell' = true) (h1x : ∀ u ∈ xs, u.oneCell' = true) :
    Calls Tryz.prog 115 #[.slice (some ⟨g, 0, none⟩) n c, .int .i64 i, .slice (some ⟨vb, 0, none⟩) 1 vc] w fun e w' => InsAtI base n i (.slice (some ⟨g, 0, none⟩) n c) xs us w e w' := by
  obtain ⟨i0, hi0, hz0, hz1, hz2⟩ := info_parts Tryz.infoInsI
  obtain ⟨cur, hbg, hg, hnc, hcm, hcs, htk⟩ := own_parts hr
  have hxl := hr.1
  have hgw : g < w.heap.size := (Array.getElem?_eq_some_iff.1 hg).1
  have hvw : vb < w.heap.size := (Array.getElem?_eq_some_iff.1 hv).1
  obtain rfl : c = n := by omega
  have hold : (Builtin.firstCells i0.size i (.slice (some ⟨g, 0, none⟩) i c)).run Tryz.prog w.drew = .ok (xs.take (i * 1)).toArray w.drew := by
    rw [hz1]
    exact run_firstCells_some w.drew 1 i ⟨g, 0, none⟩ i c (xs.take (i * 1)) (by rw [List.length_take]; omega) (fun j v hj => by
      rw [Addr.add_lit, Nat.zero_add]
      rw [List.getElem?_take] at hj
      split at hj
      · exact (World.ownsRow.cellAt hr j (by omega)).trans hj
      · cases hj)
  obtain ⟨G, hG⟩ : ∃ G, G = grownCap w (c + 1) c 2 := ⟨_, rfl⟩
  have hGn : c + 1 ≤ G := by rw [hG]; exact grownCap_ge w _ _ _
  have hGm : G ≤ maxLen := by rw [hG]; exact grownCap_le_maxLen w (c + 1) c _ (by unfold maxLen; omega)
  obtain ⟨ZS, hZS⟩ : ∃ ZS : List Value, ZS = (Builtin.zeroCells (.int .i64 0 : Value).cells (c + 1 - i)).toList ++ (Builtin.zeroCells (.int .i64 0 : Value).cells (G - (c + 1))).toList := ⟨_, rfl⟩
  have hZl : ZS.length = (G - i) * 1 := by
    rw [hZS]
    simp [Builtin.zeroCells, Value.cells]
    omega
  obtain ⟨W1, hW1⟩ : ∃ W1, W1 = w.drew.alloc (.cells (xs.take (i * 1) ++ ZS).toArray 2) := ⟨_, rfl⟩
  have hrz : ∀ ty, (Builtin.append_ #[25, 3] ty #[.slice (some ⟨g, 0, none⟩) i c, .int .i64 ((c : Int) + 1 - (i : Int))]).run Tryz.prog w = .ok (.slice (some ⟨w.heap.size, 0, none⟩) (c + 1) G) W1 := fun ty => by
    have h := Lib.run_append_grow_zeros w 25 3 ty 2 i0 _ .i64 .i64 Tryz.underlying25 Tryz.underlying3 hi0 hz0 (some ⟨g, 0, none⟩) i c (xs.take (i * 1)) hold (c + 1 - i) (by omega) (by omega) (by omega) (by omega) (by rw [hz2]; omega)
      (by rw [hz2, show i + (c + 1 - i) = c + 1 by omega]; exact growslice_fits (by omega) (by omega))
    rw [show i + (c + 1 - i) = c + 1 by omega, ← hG, show (((c + 1 - i : Nat) : Nat) : Int) = (c : Int) + 1 - (i : Int) by omega] at h
    rw [h, hW1, hZS]
    congr 3
    apply Array.ext'
    simp
  have hg1 : W1.heap[w.heap.size]? = some (.cells (xs.take (i * 1) ++ ZS).toArray 2 (0, 0)) := by rw [hW1]; exact heap_alloc_new w.drew _
  have ho1 : ∀ k, k < w.heap.size → W1.heap[k]? = w.heap[k]? := fun k hk => by rw [hW1]; exact heap_alloc_old w.drew _ hk
  have hs1 : w.grownBy W1 (some w.heap.size) := ⟨by rw [hW1]; rfl, by rw [hW1]; rfl, by rw [hW1]; rfl, by rw [hW1]; simp, fun k hk _ => ho1 k hk⟩
  have lc0 : (xs.take (i * 1) ++ ZS).length = G * 1 := by simp [hZl]; omega
  obtain ⟨c1, hc1⟩ : ∃ c1 : List Value, c1 = (xs.take (i * 1) ++ ZS).take (i * 1) ++ us ++ (xs.take (i * 1) ++ ZS).drop (i * 1 + us.length) := ⟨_, rfl⟩
  have lc1 : c1.length = G * 1 := by rw [hc1]; simp [hZl]; omega
  obtain ⟨W2, hW2⟩ : ∃ W2, W2 = W1.setRow w.heap.size c1.toArray := ⟨_, rfl⟩
  have hcpA : ∀ ty dc, (Builtin.copy_ #[25, 25] ty #[.slice (some ⟨w.heap.size, i, none⟩) (c + 1 - i) dc, .slice (some ⟨vb, 0, none⟩) 1 vc]).run Tryz.prog W1 = .ok (goInt 1) W2 := fun ty dc => by
    have h := run_copy_wide (P := Tryz.prog) W1 25 25 ty 2 1 w.heap.size (i * 1) (c + 1 - i) dc 1 ⟨vb, 0, none⟩ 1 vc _ _ us Tryz.underlying25 Tryz.siInsI hg1 (by simp only [Nat.min_def]; split <;> omega) (by omega)
      (fun j v hj => by rw [Addr.add_lit, Nat.zero_add, cell_of_row W1 vb j us.toArray _ (0, 0) ((ho1 vb hvw).trans hv)]; simpa using hj) (by simp [hZl]; omega) h1u
    rw [hW2, hc1]
    simpa using h
  have hg2 : W2.heap[w.heap.size]? = some (.cells c1.toArray 2 (0, 0)) := by rw [hW2]; exact setRow_heap W1 _ _ _ _ _ hg1
  have ho2 : ∀ k, k < w.heap.size → W2.heap[k]? = w.heap[k]? := fun k hk => by rw [hW2, setRow_other W1 _ k _ (by omega)]; exact ho1 k hk
  obtain ⟨c2, hc2⟩ : ∃ c2 : List Value, c2 = c1.take (i * 1 + 1) ++ xs.drop (i * 1) ++ c1.drop (i * 1 + 1 + (xs.drop (i * 1)).length) := ⟨_, rfl⟩
  obtain ⟨W3, hW3⟩ : ∃ W3, W3 = W2.drew.setRow w.heap.size c2.toArray := ⟨_, rfl⟩
  have hcpB : ∀ ty dl dc sc, dl = c - i → (Builtin.copy_ #[25, 25] ty #[.slice (some ⟨w.heap.size, (i + 1), none⟩) dl dc, .slice (some ⟨g, i, none⟩) (c - i) sc]).run Tryz.prog W2.drew = .ok (goInt (c - i : Nat)) W3 := fun ty dl dc sc hdl => by
    subst hdl
    have h := run_copy_wide (P := Tryz.prog) W2.drew 25 25 ty 2 1 w.heap.size (i * 1 + 1) (c - i) dc (c - i) ⟨g, i * 1, none⟩ (c - i) sc _ _ (xs.drop (i * 1)) Tryz.underlying25 Tryz.siInsI hg2 (by simp only [Nat.min_def]; split <;> omega) (by simp; omega)
      (fun j v hj => by
        rw [Addr.add_lit]
        rw [List.getElem?_drop] at hj
        have hj' := (List.getElem?_eq_some_iff.1 hj).1
        rw [show W2.drew.cell? ⟨g, i * 1 + j, none⟩ = W2.cell? ⟨g, i * 1 + j, none⟩ from rfl, cell_of_row W2 g _ cur _ (0, 0) ((ho2 g hgw).trans hg)]
        rw [← cell_of_row w g _ cur _ (0, 0) hg]
        exact (World.ownsRow.cellAt hr _ (by omega)).trans hj) (by simp [lc1]; omega) (fun v hv => h1x v (List.mem_of_mem_drop hv))
    rw [hW3, hc2]
    simpa [Nat.add_mul] using h
  have hgr := grow_row xs us ZS (i * 1) 1 (by omega) hu (by rw [hZl]; omega)
  simp only [← hc1] at hgr
  rw [← hc2, lc0] at hgr
  have hfin : InsAtI base c i (.slice (some ⟨g, 0, none⟩) c c) xs us w (.returned (.slice (some ⟨w.heap.size, 0, none⟩) (c + 1) G)) W3 := by
    refine ⟨w.heap.size, G, rfl, own_mk c2.toArray (by rw [putAt_len]; omega) hbase (by rw [hW3]; exact setRow_heap W2.drew _ _ _ _ _ hg2) hGn hGm (by simpa using hgr.2) (by rw [show (c + 1) * 1 = xs.length + 1 by omega]; exact hgr.1), ?_, .inr (Nat.le_refl _)⟩
    refine ⟨by rw [hW3, hW2]; exact hs1.os, by rw [hW3, hW2]; exact hs1.tape, by rw [hW3, hW2]; exact hs1.output, by rw [hW3, hW2]; simpa using hs1.size, fun k hk _ => ?_⟩
    rw [hW3, setRow_other W2.drew _ k _ (by omega)]; exact ho2 k hk
  have HF := Lib.hid hfin
  have HA := Lib.hid hrz
  have HB := Lib.hid hcpA
  have HC := Lib.hid hcpB
  clear hfin hrz hcpA hcpB hgr hg1 ho1 hs1 hg2 ho2 hold hG hW1 hW2 hW3 hZS hc1 hc2 lc0 lc1 hZl htk hcs hr hz0
  unfold maxLen at hGm
  have mixed : Tryz.prog.follows .mixedOrders = true := by kernel_rfl
  have hz2' : ¬ ((i : Int) = (c : Int)) := by omega
  have hz3 : (c : Int) < (c : Int) + 1 := by omega
  have hw1 : IntKind.i64.wrap ((i : Int) + 1) = (i : Int) + 1 := by rw [IntKind.wrap_i64]; omega
  have htn : ((i : Int) + 1).toNat = i + 1 := by omega
  have hGi : ¬ (G = i) := by omega
  have hGim : ¬ (G = i + 1) := by omega
  have hci : ¬ (c = i) := by omega
  have hb1 : (0 : Int) ≤ (i : Int) + 1 := by omega
  have hin : i ≤ c := by omega
  have hb3 : (i : Int) ≤ (c : Int) := by omega
  go_enter Tryz.func115, Tryz.ntmps115
  go_wp2_with (first
    | (at_builtin; refine Lib.wpList_append_run _ rfl _ _ _ _ rfl _ _ rfl rfl _ _ (HA.out _) ?_)
    | (simp only [HB.out]))
  go_region_law_o (refine step_copy_runI rfl _ _ 25 25 rfl _ _ (by simp [Act.eval, Act.put]) (by simp [Act.eval, Act.put]) (HC.out _ (c - i) (G - (i + 1)) (c - i) rfl) ?_)
  go_wp2
  go_ret
  exact HF.out
set_option maxHeartbeats 4000000 in
/-- there is room, and the place is not the last. -/
theorem insI_room (base n c i vb vc g : Nat) (xs us : List Value) (w : World) (hr : w.ownsRow base 2 1 (.slice (some ⟨g, 0, none⟩) n c) n xs) (hbase : base ≤ w.heap.size) (hi : i < n) (hn : n ≤ 1048576) (hc : n + 1 ≤ c)
    (hv : w.heap[vb]? = some (.cells us.toArray 2 (0, 0))) (hu : us.length = 1) (h1u : ∀ u ∈ us, u.oneCell' = true) (h1x : ∀ u ∈ xs, u.oneCell' = true) (hne : g ≠ vb) :
    Calls Tryz.prog 115 #[.slice (some ⟨g, 0, none⟩) n c, .int .i64 i, .slice (some ⟨vb, 0, none⟩) 1 vc] w fun e w' => InsAtI base n i (.slice (some ⟨g, 0, none⟩) n c) xs us w e w' := by
  obtain ⟨cur, hbg, hg, hnc, hcm, hcs, htk⟩ := own_parts hr
  have hxl := hr.1
  have hgw : g < w.heap.size := (Array.getElem?_eq_some_iff.1 hg).1
  have hvw : vb < w.heap.size := (Array.getElem?_eq_some_iff.1 hv).1
  have hcl : cur.toList.length = c * 1 := by simpa using hcs
  have hov : ∀ lb cb, (callFunc 162 #[.slice (some ⟨vb, 0, none⟩) 1 vc, .slice (some ⟨g, (i + 1), none⟩) lb cb]).run Tryz.prog w = .ok (.value (.bool false)) w := fun lb cb => by
    rw [run_callFunc_extern Tryz.func162 (by kernel_rfl) (by kernel_rfl) (by kernel_rfl) (e := Extern.SlicesOverlaps.overlaps #[25, 25] #[4]) (by kernel_rfl),
      Lib.run_overlaps_apart w 25 4 2 Tryz.underlying25 1 Tryz.sizeInsI ⟨vb, 0, none⟩ ⟨g, (i + 1), none⟩ 1 vc lb cb (fun e => hne e.symm) 2 2 1 (c * 1) (by simp [World.shape?, hv, hu]) (by simp [World.shape?, hg, hcs]) (by omega) (frozen_of_row w vb 0 _ _ hv) (frozen_of_row w vb _ _ _ hv)]
    rfl
  obtain ⟨c1, hc1⟩ : ∃ c1 : List Value, c1 = cur.toList.take (i * 1 + 1) ++ xs.drop (i * 1) ++ cur.toList.drop (i * 1 + 1 + (xs.drop (i * 1)).length) := ⟨_, rfl⟩
  have lc1 : c1.length = c * 1 := by rw [hc1]; simp [hcs]; omega
  obtain ⟨W1, hW1⟩ : ∃ W1, W1 = w.drew.setRow g c1.toArray := ⟨_, rfl⟩
  have hcp1 : ∀ ty dl dc sc, dl = n - i → (Builtin.copy_ #[25, 25] ty #[.slice (some ⟨g, (i + 1), none⟩) dl dc, .slice (some ⟨g, i, none⟩) (n + 1 - i) sc]).run Tryz.prog w.drew = .ok (goInt (n - i : Nat)) W1 := fun ty dl dc sc hdl => by
    subst hdl
    have h := run_copy_wide (P := Tryz.prog) w.drew 25 25 ty 2 1 g (i * 1 + 1) (n - i) dc (n - i) ⟨g, i * 1, none⟩ (n + 1 - i) sc _ _ (xs.drop (i * 1)) Tryz.underlying25 Tryz.siInsI hg (by simp only [Nat.min_def]; split <;> omega) (by simp; omega)
      (fun j v hj => by
        rw [Addr.add_lit]
        rw [List.getElem?_drop] at hj
        have hj' := (List.getElem?_eq_some_iff.1 hj).1
        exact (World.ownsRow.cellAt hr _ (by omega)).trans hj) (by simp [hcs]; omega) (fun v hv => h1x v (List.mem_of_mem_drop hv))
    rw [hW1, hc1]
    simpa [Nat.add_mul] using h
  have hg1 : W1.heap[g]? = some (.cells c1.toArray 2 (0, 0)) := by rw [hW1]; exact setRow_heap w.drew _ _ _ _ _ hg
  have hv1 : W1.heap[vb]? = some (.cells us.toArray 2 (0, 0)) := by rw [hW1, setRow_other w.drew g vb _ (fun e => hne e.symm)]; exact hv
  obtain ⟨c2, hc2⟩ : ∃ c2 : List Value, c2 = c1.take (i * 1) ++ us ++ c1.drop (i * 1 + us.length) := ⟨_, rfl⟩
  obtain ⟨W2, hW2⟩ : ∃ W2, W2 = W1.setRow g c2.toArray := ⟨_, rfl⟩
  have hcp2 : ∀ ty dc, (Builtin.copy_ #[25, 25] ty #[.slice (some ⟨g, i, none⟩) (n + 1 - i) dc, .slice (some ⟨vb, 0, none⟩) 1 vc]).run Tryz.prog W1 = .ok (goInt 1) W2 := fun ty dc => by
    have h := run_copy_wide (P := Tryz.prog) W1 25 25 ty 2 1 g (i * 1) (n + 1 - i) dc 1 ⟨vb, 0, none⟩ 1 vc _ _ us Tryz.underlying25 Tryz.siInsI hg1 (by simp only [Nat.min_def]; split <;> omega) (by omega)
      (fun j v hj => by rw [Addr.add_lit, Nat.zero_add, cell_of_row W1 vb j us.toArray _ (0, 0) hv1]; simpa using hj) (by simp [lc1]; omega) h1u
    rw [hW2, hc2]
    simpa using h
  have hsr := shift_row cur.toList us xs (i * 1) 1 (by rw [hxl]; exact htk) (by omega) hu (by rw [hcl]; omega)
  simp only [← hc1] at hsr
  rw [← hc2, hcl] at hsr
  have hfin : InsAtI base n i (.slice (some ⟨g, 0, none⟩) n c) xs us w (.returned (.slice (some ⟨g, 0, none⟩) (n + 1) c)) W2 := by
    refine ⟨g, c, rfl, own_mk c2.toArray (by rw [putAt_len]; omega) hbg (by rw [hW2]; exact setRow_heap W1 _ _ _ _ _ hg1) hc hcm (by simpa using hsr.2) (by rw [show (n + 1) * 1 = xs.length + 1 by omega]; exact hsr.1), ?_, .inl rfl⟩
    refine ⟨by rw [hW2, hW1]; rfl, by rw [hW2, hW1]; rfl, by rw [hW2, hW1]; rfl, by rw [hW2, hW1]; simp, fun k hk hkg => ?_⟩
    have hkg : k ≠ g := fun e => hkg (by rw [e]; simp [Value.ownBlock])
    rw [hW2, setRow_other W1 _ k _ hkg, hW1, setRow_other w.drew _ k _ hkg]; rfl
  have HF := Lib.hid hfin
  have HA := Lib.hid hcp1
  have HB := Lib.hid hcp2
  unfold maxLen at hcm
  clear hfin hcp1 hcp2 hsr hg1 hv1 hW1 hW2 hc1 hc2 lc1 hcl htk hcs hr
  have mixed : Tryz.prog.follows .mixedOrders = true := by kernel_rfl
  have hz2' : ¬ ((i : Int) = (n : Int)) := by omega
  have hw1 : IntKind.i64.wrap ((i : Int) + 1) = (i : Int) + 1 := by rw [IntKind.wrap_i64]; omega
  have hb1 : (0 : Int) ≤ (i : Int) + 1 := by omega
  have hin : i ≤ n := by omega
  have htn : ((i : Int) + 1).toNat = i + 1 := by omega
  have hb2 : ¬ (c = i + 1) := by omega
  have hb3 : (i : Int) ≤ (n : Int) + 1 := by omega
  have hb4 : ¬ (c = i) := by omega
  go_enter Tryz.func115, Tryz.ntmps115
  go_wp2_with (simp only [hov])
  go_region_law_o (refine step_copy_runI rfl _ _ 25 25 rfl _ _ (by simp [Act.eval, Act.put]) (by simp [Act.eval, Act.put]) (HA.out _ (n - i) (c - (i + 1)) (c - i) rfl) ?_)
  go_wp2_with (simp only [HB.out])
  go_ret
  exact HF.out
set_option maxHeartbeats 4000000 in
/-- the place is the last. -/
theorem insI_end (base n c vb vc : Nat) (A : Option Addr) (xs us : List Value) (w : World) (hr : w.ownsRow base 2 1 (.slice A n c) n xs) (hbase : base ≤ w.heap.size) (hn : n ≤ 1048576)
    (hv : w.heap[vb]? = some (.cells us.toArray 2 (0, 0))) (hu : us.length = 1) (h1u : ∀ u ∈ us, u.oneCell' = true) :
    Calls Tryz.prog 115 #[.slice A n c, .int .i64 n, .slice (some ⟨vb, 0, none⟩) 1 vc] w fun e w' => InsAtI base n n (.slice A n c) xs us w e w' := by
  obtain ⟨i0, hi0, hz0, hz1, hz2⟩ := info_parts Tryz.infoInsI
  obtain ⟨hnc, hcm, hA⟩ := own_cap hr
  unfold maxLen at hcm
  have hxl := hr.1
  have hx : putAt xs us (n * 1) = xs ++ us := by unfold putAt; rw [List.take_of_length_le (by omega), List.drop_of_length_le (by omega), List.append_nil]
  unfold InsAtI
  rw [hx]
  have hnn : ((n : Int) == (n : Int)) = true := by simp
  clear hx
  go_enter Tryz.func115, Tryz.ntmps115
  rcases own_none hr with ⟨rfl, rfl, rfl⟩ | ⟨g, rfl⟩
  all_goals
    go_wp2_with (at_builtin; refine wpList_append_lies _ rfl _ _ 25 rfl base 2 i0 (.int .i64 0) 1 8 Tryz.underlying25 hi0 hz0 hz1 hz2 rfl (by decide) _ _ _ rfl hr ⟨vb, 0, none⟩ 1 vc us rfl (by omega) (fun j u hj => by rw [Addr.add_lit, Nat.zero_add, cell_of_row w vb j us.toArray _ (0, 0) hv]; simpa using hj) h1u (by omega) (by unfold maxLen; omega) (by omega) hbase _ rfl ?_)
    all_goals
      intro g' c' w1 hown hgrow hat hlt
      go_wp2
      go_ret
      refine ⟨g', c', rfl, hown, hgrow, ?_⟩
      rcases hat with h | h
      · exact .inl h
      · exact .inr (by omega)
theorem insI_any (base n c i vb vc : Nat) (A : Option Addr) (xs us : List Value) (w : World) (hr : w.ownsRow base 2 1 (.slice A n c) n xs) (hbase : base ≤ w.heap.size) (hi : i ≤ n) (hn : n ≤ 1048576)
    (hv : w.heap[vb]? = some (.cells us.toArray 2 (0, 0))) (hu : us.length = 1) (h1u : ∀ u ∈ us, u.oneCell' = true) (h1x : ∀ u ∈ xs, u.oneCell' = true) (hne : (Value.slice A n c).ownBlock ≠ some vb) :
    Calls Tryz.prog 115 #[.slice A n c, .int .i64 i, .slice (some ⟨vb, 0, none⟩) 1 vc] w fun e w' => InsAtI base n i (.slice A n c) xs us w e w' := by
  rcases Nat.lt_or_ge i n with h | h
  · rcases own_none hr with ⟨rfl, rfl, rfl⟩ | ⟨g, rfl⟩
    · omega
    · have hne : g ≠ vb := fun e => hne (by rw [e]; simp [Value.ownBlock])
      rcases Nat.lt_or_ge c (n + 1) with h1 | h1
      · exact insI_grow base n c i vb vc g xs us w hr hbase h hn h1 hv hu h1u h1x
      · exact insI_room base n c i vb vc g xs us w hr hbase h hn h1 hv hu h1u h1x hne
  · obtain rfl : i = n := by omega
    exact insI_end base i c vb vc A xs us w hr hbase hn hv hu h1u
end Go.Proofs.YtdhnhgppapkikaaGreatDoor

-- InsN: slices.Insert of one element, as the program calls it, at one type of element. No statement of the program is proved here.
namespace Go.Proofs.YtdhnhgppapkikaaGreatDoor
set_option maxRecDepth 100000
set_option linter.unusedVariables false
set_option linter.unusedSimpArgs false
open Go.RowKit

theorem Tryz.infoInsN : (Tryz.prog.info? 134).map (fun i => (i.zero, i.size, i.bytes)) = some (some (.agg #[.int .i64 0, .slice none 0 0, .slice none 0 0, .string ⟨#[]⟩]), 4, 72) := by kernel_rfl
theorem Tryz.sizeInsN : ∀ w, (Go.sizeOf 134).run Tryz.prog w = .ok 4 w := by
  intro w
  obtain ⟨i0, hi0, hz0, hz1, hz2⟩ := info_parts Tryz.infoInsN
  simp [sizeOf, typeInfo, hi0, hz1]
theorem Tryz.siInsN : (Tryz.prog.info? 134).map (·.size) = some 4 := by
  obtain ⟨i0, hi0, hz0, hz1, hz2⟩ := info_parts Tryz.infoInsN
  rw [hi0]; simp [hz1]
/-- what insertion of one element leaves. -/
def InsAtN (base n i : Nat) (v : Value) (xs us : List Value) (w : World) (e : Ending) (w' : World) : Prop :=
  ∃ g' c', e = .returned (.slice (some ⟨g', 0, none⟩) (n + 1) c') ∧ w'.ownsRow base 134 4 (.slice (some ⟨g', 0, none⟩) (n + 1) c') (n + 1) (putAt xs us (i * 4)) ∧ w.grownBy w' v.ownBlock ∧ (v.ownBlock = some g' ∨ w.heap.size ≤ g')
set_option maxHeartbeats 4000000 in
/-- there is no room, and the place is not the last. -/
theorem insN_grow (base n c i vb vc g : Nat) (xs us : List Value) (w : World) (hr : w.ownsRow base 134 4 (.slice (some ⟨g, 0, none⟩) n c) n xs) (hbase : base ≤ w.heap.size) (hi : i < n) (hn : n ≤ 1048576) (hc : c < n + 1)
    (hv : w.heap[vb]? = some (.cells us.toArray 134 (0, 0))) (hu : us.length = 4) (h1u : ∀ u ∈ us, u.oneCell' = true) (h1x : ∀ u ∈ xs, u.oneCell' = true) :
    Calls Tryz.prog 124 #[.slice (some ⟨g, 0, none⟩) n c, .int .i64 i, .slice (some ⟨vb, 0, none⟩) 1 vc] w fun e w' => InsAtN base n i (.slice (some ⟨g, 0, none⟩) n c) xs us w e w' := by
  obtain ⟨i0, hi0, hz0, hz1, hz2⟩ := info_parts Tryz.infoInsN
  obtain ⟨cur, hbg, hg, hnc, hcm, hcs, htk⟩ := own_parts hr
  have hxl := hr.1
  have hgw : g < w.heap.size := (Array.getElem?_eq_some_iff.1 hg).1
  have hvw : vb < w.heap.size := (Array.getElem?_eq_some_iff.1 hv).1
  obtain rfl : c = n := by omega
  have hold : (Builtin.firstCells i0.size i (.slice (some ⟨g, 0, none⟩) i c)).run Tryz.prog w.drew = .ok (xs.take (i * 4)).toArray w.drew := by
    rw [hz1]
    exact run_firstCells_some w.drew 4 i ⟨g, 0, none⟩ i c (xs.take (i * 4)) (by rw [List.length_take]; omega) (fun j v hj => by
      rw [Addr.add_lit, Nat.zero_add]
      rw [List.getElem?_take] at hj
      split at hj
      · exact (World.ownsRow.cellAt hr j (by omega)).trans hj
      · cases hj)
  obtain ⟨G, hG⟩ : ∃ G, G = grownCap w (c + 1) c 134 := ⟨_, rfl⟩
  have hGn : c + 1 ≤ G := by rw [hG]; exact grownCap_ge w _ _ _
  have hGm : G ≤ maxLen := by rw [hG]; exact grownCap_le_maxLen w (c + 1) c _ (by unfold maxLen; omega)
  obtain ⟨ZS, hZS⟩ : ∃ ZS : List Value, ZS = (Builtin.zeroCells (.agg #[.int .i64 0, .slice none 0 0, .slice none 0 0, .string ⟨#[]⟩] : Value).cells (c + 1 - i)).toList ++ (Builtin.zeroCells (.agg #[.int .i64 0, .slice none 0 0, .slice none 0 0, .string ⟨#[]⟩] : Value).cells (G - (c + 1))).toList := ⟨_, rfl⟩
  have hZl : ZS.length = (G - i) * 4 := by
    rw [hZS]
    simp [Builtin.zeroCells, Value.cells]
    omega
  obtain ⟨W1, hW1⟩ : ∃ W1, W1 = w.drew.alloc (.cells (xs.take (i * 4) ++ ZS).toArray 134) := ⟨_, rfl⟩
  have hrz : ∀ ty, (Builtin.append_ #[57, 3] ty #[.slice (some ⟨g, 0, none⟩) i c, .int .i64 ((c : Int) + 1 - (i : Int))]).run Tryz.prog w = .ok (.slice (some ⟨w.heap.size, 0, none⟩) (c + 1) G) W1 := fun ty => by
    have h := Lib.run_append_grow_zeros w 57 3 ty 134 i0 _ .i64 .i64 Tryz.underlying57 Tryz.underlying3 hi0 hz0 (some ⟨g, 0, none⟩) i c (xs.take (i * 4)) hold (c + 1 - i) (by omega) (by omega) (by omega) (by omega) (by rw [hz2]; omega)
      (by rw [hz2, show i + (c + 1 - i) = c + 1 by omega]; exact growslice_fits (by omega) (by omega))
    rw [show i + (c + 1 - i) = c + 1 by omega, ← hG, show (((c + 1 - i : Nat) : Nat) : Int) = (c : Int) + 1 - (i : Int) by omega] at h
    rw [h, hW1, hZS]
    congr 3
    apply Array.ext'
    simp
  have hg1 : W1.heap[w.heap.size]? = some (.cells (xs.take (i * 4) ++ ZS).toArray 134 (0, 0)) := by rw [hW1]; exact heap_alloc_new w.drew _
  have ho1 : ∀ k, k < w.heap.size → W1.heap[k]? = w.heap[k]? := fun k hk => by rw [hW1]; exact heap_alloc_old w.drew _ hk
  have hs1 : w.grownBy W1 (some w.heap.size) := ⟨by rw [hW1]; rfl, by rw [hW1]; rfl, by rw [hW1]; rfl, by rw [hW1]; simp, fun k hk _ => ho1 k hk⟩
  have lc0 : (xs.take (i * 4) ++ ZS).length = G * 4 := by simp [hZl]; omega
  obtain ⟨c1, hc1⟩ : ∃ c1 : List Value, c1 = (xs.take (i * 4) ++ ZS).take (i * 4) ++ us ++ (xs.take (i * 4) ++ ZS).drop (i * 4 + us.length) := ⟨_, rfl⟩
  have lc1 : c1.length = G * 4 := by rw [hc1]; simp [hZl]; omega
  obtain ⟨W2, hW2⟩ : ∃ W2, W2 = W1.setRow w.heap.size c1.toArray := ⟨_, rfl⟩
  have hcpA : ∀ ty dc, (Builtin.copy_ #[57, 57] ty #[.slice (some ⟨w.heap.size, i * 4, none⟩) (c + 1 - i) dc, .slice (some ⟨vb, 0, none⟩) 1 vc]).run Tryz.prog W1 = .ok (goInt 1) W2 := fun ty dc => by
    have h := run_copy_wide (P := Tryz.prog) W1 57 57 ty 134 4 w.heap.size (i * 4) (c + 1 - i) dc 1 ⟨vb, 0, none⟩ 1 vc _ _ us Tryz.underlying57 Tryz.siInsN hg1 (by simp only [Nat.min_def]; split <;> omega) (by omega)
      (fun j v hj => by rw [Addr.add_lit, Nat.zero_add, cell_of_row W1 vb j us.toArray _ (0, 0) ((ho1 vb hvw).trans hv)]; simpa using hj) (by simp [hZl]; omega) h1u
    rw [hW2, hc1]
    simpa using h
  have hg2 : W2.heap[w.heap.size]? = some (.cells c1.toArray 134 (0, 0)) := by rw [hW2]; exact setRow_heap W1 _ _ _ _ _ hg1
  have ho2 : ∀ k, k < w.heap.size → W2.heap[k]? = w.heap[k]? := fun k hk => by rw [hW2, setRow_other W1 _ k _ (by omega)]; exact ho1 k hk
  obtain ⟨c2, hc2⟩ : ∃ c2 : List Value, c2 = c1.take (i * 4 + 4) ++ xs.drop (i * 4) ++ c1.drop (i * 4 + 4 + (xs.drop (i * 4)).length) := ⟨_, rfl⟩
  obtain ⟨W3, hW3⟩ : ∃ W3, W3 = W2.drew.setRow w.heap.size c2.toArray := ⟨_, rfl⟩
  have hcpB : ∀ ty dl dc sc, dl = c - i → (Builtin.copy_ #[57, 57] ty #[.slice (some ⟨w.heap.size, (i + 1) * 4, none⟩) dl dc, .slice (some ⟨g, i * 4, none⟩) (c - i) sc]).run Tryz.prog W2.drew = .ok (goInt (c - i : Nat)) W3 := fun ty dl dc sc hdl => by
    subst hdl
    have h := run_copy_wide (P := Tryz.prog) W2.drew 57 57 ty 134 4 w.heap.size (i * 4 + 4) (c - i) dc (c - i) ⟨g, i * 4, none⟩ (c - i) sc _ _ (xs.drop (i * 4)) Tryz.underlying57 Tryz.siInsN hg2 (by simp only [Nat.min_def]; split <;> omega) (by simp; omega)
      (fun j v hj => by
        rw [Addr.add_lit]
        rw [List.getElem?_drop] at hj
        have hj' := (List.getElem?_eq_some_iff.1 hj).1
        rw [show W2.drew.cell? ⟨g, i * 4 + j, none⟩ = W2.cell? ⟨g, i * 4 + j, none⟩ from rfl, cell_of_row W2 g _ cur _ (0, 0) ((ho2 g hgw).trans hg)]
        rw [← cell_of_row w g _ cur _ (0, 0) hg]
        exact (World.ownsRow.cellAt hr _ (by omega)).trans hj) (by simp [lc1]; omega) (fun v hv => h1x v (List.mem_of_mem_drop hv))
    rw [hW3, hc2]
    simpa [Nat.add_mul] using h
  have hgr := grow_row xs us ZS (i * 4) 4 (by omega) hu (by rw [hZl]; omega)
  simp only [← hc1] at hgr
  rw [← hc2, lc0] at hgr
  have hfin : InsAtN base c i (.slice (some ⟨g, 0, none⟩) c c) xs us w (.returned (.slice (some ⟨w.heap.size, 0, none⟩) (c + 1) G)) W3 := by
    refine ⟨w.heap.size, G, rfl, own_mk c2.toArray (by rw [putAt_len]; omega) hbase (by rw [hW3]; exact setRow_heap W2.drew _ _ _ _ _ hg2) hGn hGm (by simpa using hgr.2) (by rw [show (c + 1) * 4 = xs.length + 4 by omega]; exact hgr.1), ?_, .inr (Nat.le_refl _)⟩
    refine ⟨by rw [hW3, hW2]; exact hs1.os, by rw [hW3, hW2]; exact hs1.tape, by rw [hW3, hW2]; exact hs1.output, by rw [hW3, hW2]; simpa using hs1.size, fun k hk _ => ?_⟩
    rw [hW3, setRow_other W2.drew _ k _ (by omega)]; exact ho2 k hk
  have HF := Lib.hid hfin
  have HA := Lib.hid hrz
  have HB := Lib.hid hcpA
  have HC := Lib.hid hcpB
  clear hfin hrz hcpA hcpB hgr hg1 ho1 hs1 hg2 ho2 hold hG hW1 hW2 hW3 hZS hc1 hc2 lc0 lc1 hZl htk hcs hr hz0
  unfold maxLen at hGm
  have mixed : Tryz.prog.follows .mixedOrders = true := by kernel_rfl
  have hz2' : ¬ ((i : Int) = (c : Int)) := by omega
  have hz3 : (c : Int) < (c : Int) + 1 := by omega
  have hw1 : IntKind.i64.wrap ((i : Int) + 1) = (i : Int) + 1 := by rw [IntKind.wrap_i64]; omega
  have htn : ((i : Int) + 1).toNat = i + 1 := by omega
  have hGi : ¬ (G = i) := by omega
  have hGim : ¬ (G = i + 1) := by omega
  have hci : ¬ (c = i) := by omega
  have hb1 : (0 : Int) ≤ (i : Int) + 1 := by omega
  have hin : i ≤ c := by omega
  have hb3 : (i : Int) ≤ (c : Int) := by omega
  go_enter Tryz.func124, Tryz.ntmps124
  go_wp2_with (first
    | (at_builtin; refine Lib.wpList_append_run _ rfl _ _ _ _ rfl _ _ rfl rfl _ _ (HA.out _) ?_)
    | (simp only [HB.out]))
  go_region_law_o (refine step_copy_runI rfl _ _ 57 57 rfl _ _ (by simp [Act.eval, Act.put]) (by simp [Act.eval, Act.put]) (HC.out _ (c - i) (G - (i + 1)) (c - i) rfl) ?_)
  go_wp2
  go_ret
  exact HF.out
set_option maxHeartbeats 4000000 in
/-- there is room, and the place is not the last. -/
theorem insN_room (base n c i vb vc g : Nat) (xs us : List Value) (w : World) (hr : w.ownsRow base 134 4 (.slice (some ⟨g, 0, none⟩) n c) n xs) (hbase : base ≤ w.heap.size) (hi : i < n) (hn : n ≤ 1048576) (hc : n + 1 ≤ c)
    (hv : w.heap[vb]? = some (.cells us.toArray 134 (0, 0))) (hu : us.length = 4) (h1u : ∀ u ∈ us, u.oneCell' = true) (h1x : ∀ u ∈ xs, u.oneCell' = true) (hne : g ≠ vb) :
    Calls Tryz.prog 124 #[.slice (some ⟨g, 0, none⟩) n c, .int .i64 i, .slice (some ⟨vb, 0, none⟩) 1 vc] w fun e w' => InsAtN base n i (.slice (some ⟨g, 0, none⟩) n c) xs us w e w' := by
  obtain ⟨cur, hbg, hg, hnc, hcm, hcs, htk⟩ := own_parts hr
  have hxl := hr.1
  have hgw : g < w.heap.size := (Array.getElem?_eq_some_iff.1 hg).1
  have hvw : vb < w.heap.size := (Array.getElem?_eq_some_iff.1 hv).1
  have hcl : cur.toList.length = c * 4 := by simpa using hcs
  have hov : ∀ lb cb, (callFunc 169 #[.slice (some ⟨vb, 0, none⟩) 1 vc, .slice (some ⟨g, (i + 1) * 4, none⟩) lb cb]).run Tryz.prog w = .ok (.value (.bool false)) w := fun lb cb => by
    rw [run_callFunc_extern Tryz.func169 (by kernel_rfl) (by kernel_rfl) (by kernel_rfl) (e := Extern.SlicesOverlaps.overlaps #[57, 57] #[4]) (by kernel_rfl),
      Lib.run_overlaps_apart w 57 4 134 Tryz.underlying57 4 Tryz.sizeInsN ⟨vb, 0, none⟩ ⟨g, (i + 1) * 4, none⟩ 1 vc lb cb (fun e => hne e.symm) 134 134 4 (c * 4) (by simp [World.shape?, hv, hu]) (by simp [World.shape?, hg, hcs]) (by omega) (frozen_of_row w vb 0 _ _ hv) (frozen_of_row w vb _ _ _ hv)]
    rfl
  obtain ⟨c1, hc1⟩ : ∃ c1 : List Value, c1 = cur.toList.take (i * 4 + 4) ++ xs.drop (i * 4) ++ cur.toList.drop (i * 4 + 4 + (xs.drop (i * 4)).length) := ⟨_, rfl⟩
  have lc1 : c1.length = c * 4 := by rw [hc1]; simp [hcs]; omega
  obtain ⟨W1, hW1⟩ : ∃ W1, W1 = w.drew.setRow g c1.toArray := ⟨_, rfl⟩
  have hcp1 : ∀ ty dl dc sc, dl = n - i → (Builtin.copy_ #[57, 57] ty #[.slice (some ⟨g, (i + 1) * 4, none⟩) dl dc, .slice (some ⟨g, i * 4, none⟩) (n + 1 - i) sc]).run Tryz.prog w.drew = .ok (goInt (n - i : Nat)) W1 := fun ty dl dc sc hdl => by
    subst hdl
    have h := run_copy_wide (P := Tryz.prog) w.drew 57 57 ty 134 4 g (i * 4 + 4) (n - i) dc (n - i) ⟨g, i * 4, none⟩ (n + 1 - i) sc _ _ (xs.drop (i * 4)) Tryz.underlying57 Tryz.siInsN hg (by simp only [Nat.min_def]; split <;> omega) (by simp; omega)
      (fun j v hj => by
        rw [Addr.add_lit]
        rw [List.getElem?_drop] at hj
        have hj' := (List.getElem?_eq_some_iff.1 hj).1
        exact (World.ownsRow.cellAt hr _ (by omega)).trans hj) (by simp [hcs]; omega) (fun v hv => h1x v (List.mem_of_mem_drop hv))
    rw [hW1, hc1]
    simpa [Nat.add_mul] using h
  have hg1 : W1.heap[g]? = some (.cells c1.toArray 134 (0, 0)) := by rw [hW1]; exact setRow_heap w.drew _ _ _ _ _ hg
  have hv1 : W1.heap[vb]? = some (.cells us.toArray 134 (0, 0)) := by rw [hW1, setRow_other w.drew g vb _ (fun e => hne e.symm)]; exact hv
  obtain ⟨c2, hc2⟩ : ∃ c2 : List Value, c2 = c1.take (i * 4) ++ us ++ c1.drop (i * 4 + us.length) := ⟨_, rfl⟩
  obtain ⟨W2, hW2⟩ : ∃ W2, W2 = W1.setRow g c2.toArray := ⟨_, rfl⟩
  have hcp2 : ∀ ty dc, (Builtin.copy_ #[57, 57] ty #[.slice (some ⟨g, i * 4, none⟩) (n + 1 - i) dc, .slice (some ⟨vb, 0, none⟩) 1 vc]).run Tryz.prog W1 = .ok (goInt 1) W2 := fun ty dc => by
    have h := run_copy_wide (P := Tryz.prog) W1 57 57 ty 134 4 g (i * 4) (n + 1 - i) dc 1 ⟨vb, 0, none⟩ 1 vc _ _ us Tryz.underlying57 Tryz.siInsN hg1 (by simp only [Nat.min_def]; split <;> omega) (by omega)
      (fun j v hj => by rw [Addr.add_lit, Nat.zero_add, cell_of_row W1 vb j us.toArray _ (0, 0) hv1]; simpa using hj) (by simp [lc1]; omega) h1u
    rw [hW2, hc2]
    simpa using h
  have hsr := shift_row cur.toList us xs (i * 4) 4 (by rw [hxl]; exact htk) (by omega) hu (by rw [hcl]; omega)
  simp only [← hc1] at hsr
  rw [← hc2, hcl] at hsr
  have hfin : InsAtN base n i (.slice (some ⟨g, 0, none⟩) n c) xs us w (.returned (.slice (some ⟨g, 0, none⟩) (n + 1) c)) W2 := by
    refine ⟨g, c, rfl, own_mk c2.toArray (by rw [putAt_len]; omega) hbg (by rw [hW2]; exact setRow_heap W1 _ _ _ _ _ hg1) hc hcm (by simpa using hsr.2) (by rw [show (n + 1) * 4 = xs.length + 4 by omega]; exact hsr.1), ?_, .inl rfl⟩
    refine ⟨by rw [hW2, hW1]; rfl, by rw [hW2, hW1]; rfl, by rw [hW2, hW1]; rfl, by rw [hW2, hW1]; simp, fun k hk hkg => ?_⟩
    have hkg : k ≠ g := fun e => hkg (by rw [e]; simp [Value.ownBlock])
    rw [hW2, setRow_other W1 _ k _ hkg, hW1, setRow_other w.drew _ k _ hkg]; rfl
  have HF := Lib.hid hfin
  have HA := Lib.hid hcp1
  have HB := Lib.hid hcp2
  unfold maxLen at hcm
  clear hfin hcp1 hcp2 hsr hg1 hv1 hW1 hW2 hc1 hc2 lc1 hcl htk hcs hr
  have mixed : Tryz.prog.follows .mixedOrders = true := by kernel_rfl
  have hz2' : ¬ ((i : Int) = (n : Int)) := by omega
  have hw1 : IntKind.i64.wrap ((i : Int) + 1) = (i : Int) + 1 := by rw [IntKind.wrap_i64]; omega
  have hb1 : (0 : Int) ≤ (i : Int) + 1 := by omega
  have hin : i ≤ n := by omega
  have htn : ((i : Int) + 1).toNat = i + 1 := by omega
  have hb2 : ¬ (c = i + 1) := by omega
  have hb3 : (i : Int) ≤ (n : Int) + 1 := by omega
  have hb4 : ¬ (c = i) := by omega
  go_enter Tryz.func124, Tryz.ntmps124
  go_wp2_with (simp only [hov])
  go_region_law_o (refine step_copy_runI rfl _ _ 57 57 rfl _ _ (by simp [Act.eval, Act.put]) (by simp [Act.eval, Act.put]) (HA.out _ (n - i) (c - (i + 1)) (c - i) rfl) ?_)
  go_wp2_with (simp only [HB.out])
  go_ret
  exact HF.out
set_option maxHeartbeats 4000000 in
/-- the place is the last. -/
theorem insN_end (base n c vb vc : Nat) (A : Option Addr) (xs us : List Value) (w : World) (hr : w.ownsRow base 134 4 (.slice A n c) n xs) (hbase : base ≤ w.heap.size) (hn : n ≤ 1048576)
    (hv : w.heap[vb]? = some (.cells us.toArray 134 (0, 0))) (hu : us.length = 4) (h1u : ∀ u ∈ us, u.oneCell' = true) :
    Calls Tryz.prog 124 #[.slice A n c, .int .i64 n, .slice (some ⟨vb, 0, none⟩) 1 vc] w fun e w' => InsAtN base n n (.slice A n c) xs us w e w' := by
  obtain ⟨i0, hi0, hz0, hz1, hz2⟩ := info_parts Tryz.infoInsN
  obtain ⟨hnc, hcm, hA⟩ := own_cap hr
  unfold maxLen at hcm
  have hxl := hr.1
  have hx : putAt xs us (n * 4) = xs ++ us := by unfold putAt; rw [List.take_of_length_le (by omega), List.drop_of_length_le (by omega), List.append_nil]
  unfold InsAtN
  rw [hx]
  have hnn : ((n : Int) == (n : Int)) = true := by simp
  clear hx
  go_enter Tryz.func124, Tryz.ntmps124
  rcases own_none hr with ⟨rfl, rfl, rfl⟩ | ⟨g, rfl⟩
  all_goals
    go_wp2_with (at_builtin; refine wpList_append_lies _ rfl _ _ 57 rfl base 134 i0 (.agg #[.int .i64 0, .slice none 0 0, .slice none 0 0, .string ⟨#[]⟩]) 4 72 Tryz.underlying57 hi0 hz0 hz1 hz2 rfl (by decide) _ _ _ rfl hr ⟨vb, 0, none⟩ 1 vc us rfl (by omega) (fun j u hj => by rw [Addr.add_lit, Nat.zero_add, cell_of_row w vb j us.toArray _ (0, 0) hv]; simpa using hj) h1u (by omega) (by unfold maxLen; omega) (by omega) hbase _ rfl ?_)
    all_goals
      intro g' c' w1 hown hgrow hat hlt
      go_wp2
      go_ret
      refine ⟨g', c', rfl, hown, hgrow, ?_⟩
      rcases hat with h | h
      · exact .inl h
      · exact .inr (by omega)
theorem insN_any (base n c i vb vc : Nat) (A : Option Addr) (xs us : List Value) (w : World) (hr : w.ownsRow base 134 4 (.slice A n c) n xs) (hbase : base ≤ w.heap.size) (hi : i ≤ n) (hn : n ≤ 1048576)
    (hv : w.heap[vb]? = some (.cells us.toArray 134 (0, 0))) (hu : us.length = 4) (h1u : ∀ u ∈ us, u.oneCell' = true) (h1x : ∀ u ∈ xs, u.oneCell' = true) (hne : (Value.slice A n c).ownBlock ≠ some vb) :
    Calls Tryz.prog 124 #[.slice A n c, .int .i64 i, .slice (some ⟨vb, 0, none⟩) 1 vc] w fun e w' => InsAtN base n i (.slice A n c) xs us w e w' := by
  rcases Nat.lt_or_ge i n with h | h
  · rcases own_none hr with ⟨rfl, rfl, rfl⟩ | ⟨g, rfl⟩
    · omega
    · have hne : g ≠ vb := fun e => hne (by rw [e]; simp [Value.ownBlock])
      rcases Nat.lt_or_ge c (n + 1) with h1 | h1
      · exact insN_grow base n c i vb vc g xs us w hr hbase h hn h1 hv hu h1u h1x
      · exact insN_room base n c i vb vc g xs us w hr hbase h hn h1 hv hu h1u h1x hne
  · obtain rfl : i = n := by omega
    exact insN_end base i c vb vc A xs us w hr hbase hn hv hu h1u
end Go.Proofs.YtdhnhgppapkikaaGreatDoor

-- Sl: A list of nodes by name, as it lies in memory: keys in one row, nodes in another. No statement of the program is proved here.
namespace Go.Proofs.YtdhnhgppapkikaaGreatDoor
set_option maxRecDepth 20000
set_option linter.unusedVariables false
set_option linter.unusedSimpArgs false
open Go.RowKit

/-- a node with the slices that hold its lists. -/
structure NV where
  Ap : Option Addr
  np : Nat
  cp : Nat
  Ak : Option Addr
  nk : Nat
  ck : Nat
  nd : MNode
def NV.cells (x : NV) : List Value := [.int .i64 x.nd.kind, .slice x.Ap x.np x.cp, .slice x.Ak x.nk x.ck, .string x.nd.val]
def NV.v (x : NV) : Value := .agg #[.int .i64 x.nd.kind, .slice x.Ap x.np x.cp, .slice x.Ak x.nk x.ck, .string x.nd.val]
def nv0 : NV := ⟨none, 0, 0, none, 0, 0, node0⟩
theorem NV.cells_len (x : NV) : x.cells.length = 4 := rfl
theorem NV.one (x : NV) : ∀ u ∈ x.cells, u.oneCell' = true := by
  intro u hu
  unfold NV.cells at hu
  simp at hu
  rcases hu with rfl | rfl | rfl | rfl <;> rfl
/-- block g holds some of the node's lists. -/
def NV.use (x : NV) (g : Nat) : Prop := (0 < x.np ∧ ∃ a, x.Ap = some a ∧ a.block = g) ∨ (0 < x.nk ∧ ∃ a, x.Ak = some a ∧ a.block = g)
theorem NV.of {w : World} {B : Nat} {v : Value} {nd : MNode} (h : NodeIn w B v nd) : ∃ x : NV, x.v = v ∧ x.nd = nd := by
  obtain ⟨Ap, np, cp, Ak, nk, ck, rfl, _⟩ := h
  exact ⟨⟨Ap, np, cp, Ak, nk, ck, nd⟩, rfl, rfl⟩
theorem Ints.use {w : World} {B n : Nat} {A : Option Addr} {xs : List Int} (h : Ints w B A n xs) (hn : 0 < n) (a : Addr) (ha : A = some a) : a.block < B := by
  obtain ⟨b, off, e, hb, _⟩ := h.2 hn
  rw [ha] at e; cases e; exact hb
theorem Kids.use {w : World} {B n : Nat} {A : Option Addr} {xs : List (Int × Int)} (h : Kids w B A n xs) (hn : 0 < n) (a : Addr) (ha : A = some a) : a.block < B := by
  obtain ⟨b, off, e, hb, _⟩ := h.at_ hn
  rw [ha] at e; cases e; exact hb
theorem NV.use_lt {w : World} {B : Nat} {x : NV} (h : NodeIn w B x.v x.nd) (g : Nat) (hg : x.use g) : g < B := by
  obtain ⟨Ap, np, cp, Ak, nk, ck, e, _, _, _, h1, h2⟩ := h
  unfold NV.v at e
  injection e with e
  simp at e
  obtain ⟨⟨e1, e2, e3⟩, e4, e5, e6⟩ := e
  rcases hg with ⟨hn, a, ha, rfl⟩ | ⟨hn, a, ha, rfl⟩
  · exact h1.use (by omega) a (e1 ▸ ha)
  · exact h2.use (by omega) a (e4 ▸ ha)

theorem Ints.touch {S : Nat → Prop} {w w' : World} {B n : Nat} {A : Option Addr} {xs : List Int} (h : Ints w B A n xs) (t : Touch S w w') (hB : B ≤ w.heap.size) (hn : 0 < n → ∀ a, A = some a → ¬ S a.block) : Ints w' B A n xs := by
  refine ⟨h.1, fun h0 => ?_⟩
  obtain ⟨b, off, e, hb, hc⟩ := h.2 h0
  refine ⟨b, off, e, hb, fun i hi => ?_⟩
  rw [World.cell?_of_block (t.block b (by omega) (hn h0 _ e))]
  exact hc i hi
theorem Kids.touch {S : Nat → Prop} {w w' : World} {B n : Nat} {A : Option Addr} {xs : List (Int × Int)} (h : Kids w B A n xs) (t : Touch S w w') (hB : B ≤ w.heap.size) (hn : 0 < n → ∀ a, A = some a → ¬ S a.block) : Kids w' B A n xs :=
  ⟨h.1, h.2.touch t hB (fun h0 => hn (by omega))⟩
theorem NV.touch {S : Nat → Prop} {w w' : World} {B : Nat} {x : NV} (h : NodeIn w B x.v x.nd) (t : Touch S w w') (hB : B ≤ w.heap.size) (hn : ∀ g, x.use g → ¬ S g) : NodeIn w' B x.v x.nd := by
  obtain ⟨Ap, np, cp, Ak, nk, ck, e, h1, h2, h3, h4, h5⟩ := h
  unfold NV.v at e
  injection e with e
  simp at e
  obtain ⟨⟨e1, e2, e3⟩, e4, e5, e6⟩ := e
  refine ⟨Ap, np, cp, Ak, nk, ck, by unfold NV.v; rw [e1, e2, e3, e4, e5, e6], h1, h2, h3, h4.touch t hB (fun h0 a ha => hn _ (.inl ⟨by omega, a, by rw [e1]; exact ha, rfl⟩)), h5.touch t hB (fun h0 a ha => hn _ (.inr ⟨by omega, a, by rw [e4]; exact ha, rfl⟩))⟩

/-- a list with one more put in at a place. -/
def insP {α : Type} (l : List α) (i : Nat) (q : α) : List α := l.take i ++ q :: l.drop i
theorem insP_len {α : Type} (l : List α) (i : Nat) (q : α) (h : i ≤ l.length) : (insP l i q).length = l.length + 1 := by unfold insP; simp; omega
theorem insP_mem {α : Type} (l : List α) (i : Nat) (q x : α) : x ∈ insP l i q ↔ x = q ∨ x ∈ l := by
  unfold insP
  conv => rhs; rw [← List.take_append_drop i l]
  simp only [List.mem_append, List.mem_cons]
  constructor
  · rintro (h | h | h)
    · exact .inr (.inl h)
    · exact .inl h
    · exact .inr (.inr h)
  · rintro (h | h | h)
    · exact .inr (.inl h)
    · exact .inl h
    · exact .inr (.inr h)
theorem insP_map {α β : Type} (f : α → β) (l : List α) (i : Nat) (q : α) : (insP l i q).map f = insP (l.map f) i (f q) := by unfold insP; simp [List.map_take, List.map_drop]
theorem insP_end {α : Type} (l : List α) (q : α) : insP l l.length q = l ++ [q] := by unfold insP; simp
theorem insP_low (l : List Int) (m : Int) (h : m ∉ l) : insP l (lowI l m) m = insI l m := by unfold insP insI; rw [lowI_place l m h]
theorem flat_take {α : Type} (f : α → List Value) (c : Nat) (hf : ∀ x, (f x).length = c) (l : List α) (i : Nat) : (l.flatMap f).take (i * c) = (l.take i).flatMap f := by
  induction l generalizing i with
  | nil => simp
  | cons x l ih =>
    cases i with
    | zero => simp
    | succ i =>
      rw [List.flatMap_cons, List.take_succ_cons, List.flatMap_cons, List.take_append, hf x, List.take_of_length_le (by rw [hf x, Nat.succ_mul]; omega), show (i + 1) * c - c = i * c by rw [Nat.succ_mul]; omega, ih i]
theorem flat_drop {α : Type} (f : α → List Value) (c : Nat) (hf : ∀ x, (f x).length = c) (l : List α) (i : Nat) : (l.flatMap f).drop (i * c) = (l.drop i).flatMap f := by
  induction l generalizing i with
  | nil => simp
  | cons x l ih =>
    cases i with
    | zero => simp
    | succ i =>
      rw [List.flatMap_cons, List.drop_succ_cons, List.drop_append, hf x, List.drop_of_length_le (by rw [hf x, Nat.succ_mul]; omega), show (i + 1) * c - c = i * c by rw [Nat.succ_mul]; omega, ih i, List.nil_append]
theorem flat_len {α : Type} (f : α → List Value) (c : Nat) (hf : ∀ x, (f x).length = c) (l : List α) : (l.flatMap f).length = l.length * c := by
  induction l with
  | nil => simp
  | cons x l ih => rw [List.flatMap_cons, List.length_append, ih, hf x, List.length_cons, Nat.succ_mul]; omega
theorem flat_put {α : Type} (f : α → List Value) (c : Nat) (hf : ∀ x, (f x).length = c) (l : List α) (i : Nat) (q : α) : putAt (l.flatMap f) (f q) (i * c) = (insP l i q).flatMap f := by
  unfold putAt insP
  rw [flat_take f c hf, flat_drop f c hf, List.flatMap_append, List.flatMap_cons, List.append_assoc]
theorem flat_at {α : Type} (f : α → List Value) (c : Nat) (hf : ∀ x, (f x).length = c) (l : List α) (i k : Nat) (hk : k < c) (hi : i < l.length) : (l.flatMap f)[i * c + k]? = (f l[i])[k]? := by
  have h1 : ((l.flatMap f).drop (i * c))[k]? = (l.flatMap f)[i * c + k]? := by rw [List.getElem?_drop]
  rw [← h1, flat_drop f c hf, List.drop_eq_getElem_cons hi, List.flatMap_cons, List.getElem?_append_left (by rw [hf]; exact hk)]

def nvs (ps : List (Int × NV)) : List Value := ps.flatMap fun p => p.2.cells
theorem nvs_len (ps : List (Int × NV)) : (nvs ps).length = ps.length * 4 := flat_len _ 4 (fun x => rfl) ps
theorem nvs_put (ps : List (Int × NV)) (i : Nat) (q : Int × NV) : putAt (nvs ps) q.2.cells (i * 4) = nvs (insP ps i q) := flat_put (fun p : Int × NV => p.2.cells) 4 (fun x => rfl) ps i q
theorem nvs_one (ps : List (Int × NV)) : ∀ u ∈ nvs ps, u.oneCell' = true := by
  intro u hu
  obtain ⟨p, _, h⟩ := List.mem_flatMap.1 hu
  exact p.2.one u h
theorem nvs_at (ps : List (Int × NV)) (i k : Nat) (hk : k < 4) (hi : i < ps.length) : (nvs ps)[i * 4 + k]? = ps[i].2.cells[k]? := flat_at (fun p : Int × NV => p.2.cells) 4 (fun x => rfl) ps i k hk hi
def kvs (ps : List (Int × NV)) : List Int := ps.map (·.1)
theorem kvs_put (ps : List (Int × NV)) (i : Nat) (q : Int × NV) : putAt ((kvs ps).map (Value.int .i64)) [.int .i64 q.1] (i * 1) = (kvs (insP ps i q)).map (Value.int .i64) := by
  unfold kvs putAt
  rw [insP_map, insP_map]
  unfold insP
  simp
theorem kvs_one (l : List Int) : ∀ u ∈ l.map (Value.int .i64), u.oneCell' = true := by
  intro u hu
  obtain ⟨x, _, rfl⟩ := List.mem_map.1 hu
  rfl

/-- the two rows of a list. -/
structure SR where
  Ak : Option Addr
  ck : Nat
  Av : Option Addr
  cv : Nat
def SR.kv (R : SR) (n : Nat) : Value := .slice R.Ak n R.ck
def SR.vv (R : SR) (n : Nat) : Value := .slice R.Av n R.cv
def SR.at_ (R : SR) (g : Nat) : Prop := (∃ a, R.Ak = some a ∧ a.block = g) ∨ (∃ a, R.Av = some a ∧ a.block = g)
def SR0 : SR := ⟨none, 0, none, 0⟩
/-- a list of nodes by name, in memory of the call's own from lo on. -/
structure SLN (w : World) (lo : Nat) (R : SR) (ps : List (Int × NV)) : Prop where
  keys : OwnI w lo R.Ak ps.length R.ck (kvs ps)
  vals : w.ownsRow lo 134 4 (.slice R.Av ps.length R.cv) ps.length (nvs ps)
  nodes : ∀ x ∈ ps, NodeIn w w.heap.size x.2.v x.2.nd
  apart : ∀ x ∈ ps, ∀ g, x.2.use g → ¬ R.at_ g
  rise : RiseI (kvs ps)
  len : ps.length ≤ 1000
theorem SLN.nil (w : World) (lo : Nat) : SLN w lo SR0 [] := ⟨OwnI.nil _ _, World.ownsRow_nil _ _ _ _, fun x hx => by simp at hx, fun x hx => by simp at hx, List.Pairwise.nil, by simp⟩
theorem SLN.lt {w : World} {lo : Nat} {R : SR} {ps : List (Int × NV)} (h : SLN w lo R ps) (g : Nat) (hg : R.at_ g) : lo ≤ g ∧ g < w.heap.size := by
  rcases hg with ⟨a, ha, rfl⟩ | ⟨a, ha, rfl⟩
  · exact h.keys.lt _ (by rw [ha]; rfl)
  · exact h.vals.lt _ (by rw [ha]; rfl)
theorem SLN.touch {S : Nat → Prop} {w w' : World} {lo : Nat} {R : SR} {ps : List (Int × NV)} (h : SLN w lo R ps) (t : Touch S w w') (h1 : ∀ g, R.at_ g → ¬ S g) (h2 : ∀ x ∈ ps, ∀ g, x.2.use g → ¬ S g) : SLN w' lo R ps :=
  ⟨h.keys.touch t (fun g hg => h1 g (.inl (by cases e : R.Ak with | none => rw [e] at hg; simp [Value.ownBlock] at hg | some a => rw [e] at hg; exact ⟨a, rfl, by simpa [Value.ownBlock] using hg⟩))),
    own_touch h.vals t (fun g hg => h1 g (.inr (by cases e : R.Av with | none => rw [e] at hg; simp [Value.ownBlock] at hg | some a => rw [e] at hg; exact ⟨a, rfl, by simpa [Value.ownBlock] using hg⟩))),
    fun x hx => (NV.touch (h.nodes x hx) t (Nat.le_refl _) (h2 x hx)).more t.size, h.apart, h.rise, h.len⟩
theorem SLN.below {w w' : World} {lo : Nat} {R : SR} {ps : List (Int × NV)} (h : SLN w lo R ps) (hb : Below w.heap.size w w') : SLN w' lo R ps :=
  h.touch (S := fun _ => False) (Touch.of_below hb) (fun _ _ h => h) (fun _ _ _ _ h => h)
end Go.Proofs.YtdhnhgppapkikaaGreatDoor

-- SlAt: What the list of nodes answers under a name.
namespace Go.Proofs.YtdhnhgppapkikaaGreatDoor
set_option maxRecDepth 20000
set_option linter.unusedVariables false
set_option linter.unusedSimpArgs false
open Go.RowKit

/-- what stands under a name in the list. -/
def AtIs (ps : List (Int × NV)) (m : Int) (x : NV) (b : Bool) : Prop :=
  (hitI (kvs ps) m = true ∧ b = true ∧ ∃ h : lowI (kvs ps) m < ps.length, ps[lowI (kvs ps) m] = (m, x)) ∨ (hitI (kvs ps) m = false ∧ b = false ∧ x = nv0)
theorem kvs_at (ps : List (Int × NV)) (i : Nat) (h : i < ps.length) : (kvs ps)[i]?.getD 0 = ps[i].1 := by unfold kvs; simp [h]
theorem kvs_len (ps : List (Int × NV)) : (kvs ps).length = ps.length := by simp [kvs]
theorem hit_parts (ps : List (Int × NV)) (m : Int) (h : hitI (kvs ps) m = true) : ∃ h : lowI (kvs ps) m < ps.length, ps[lowI (kvs ps) m].1 = m := by
  unfold hitI at h
  obtain ⟨h1, h2⟩ := of_decide_eq_true h
  rw [kvs_len] at h1
  exact ⟨h1, by rw [kvs_at ps _ h1] at h2; exact h2⟩
theorem SLN.row {w : World} {lo : Nat} {R : SR} {ps : List (Int × NV)} (h : SLN w lo R ps) (hn : 0 < ps.length) : ∃ g, R.Av = some ⟨g, 0, none⟩ ∧ lo ≤ g ∧ g < w.heap.size := by
  obtain ⟨g, cap, hv, h1, h2⟩ := World.ownsRow.form h.vals hn
  injection hv with hA
  exact ⟨g, hA, h1, h2⟩
set_option maxHeartbeats 1000000 in
theorem at_box {T : TypeId} {zs : Array Value} (p lo : Nat) (R : SR) (ps : List (Int × NV)) (m : Int) (w : World) (hx : Box w p T zs) (hz0 : zs[0]? = some (R.kv ps.length)) (hz1 : zs[1]? = some (R.vv ps.length)) (h : SLN w lo R ps) :
    Calls Tryz.prog 125 #[.pointer (some ⟨p, 0, none⟩), .int .i64 m] w fun e w' => ∃ x b, e = .returned (.tuple #[x.v, .bool b]) ∧ AtIs ps m x b ∧ Below w.heap.size w w' := by
  have hlen := h.len
  obtain ⟨w1, hw1⟩ : ∃ w1, w.alloc (.cells #[.int .i64 0, .slice none 0 0, .slice none 0 0, .string { data := #[] }] 134) = w1 := ⟨_, rfl⟩
  have x1 : Box w1 w.heap.size _ _ := hw1 ▸ heap_alloc_new _ _
  have s1 : w1.heap.size = w.heap.size + 1 := hw1 ▸ by simp
  have b1 : Below w.heap.size w w1 := hw1 ▸ (Below.refl _ _).alloc (Nat.le_refl _) _
  have hp := hx.lt
  have X1 := Lib.hid x1
  have B1 := Lib.hid b1
  have P1 := Lib.hid (hx.below b1 hp)
  have HS := Lib.hid (h.below b1)
  clear x1 b1 hx h
  have q0 := (P1.out.cell 0).trans hz0
  have q1 := (P1.out.cell 1).trans hz1
  have Z0 := Lib.hid hz0
  have Z1 := Lib.hid hz1
  clear hz0 hz1
  unfold SR.kv at q0
  unfold SR.vv at q1
  go_enter Tryz.func125, Tryz.ntmps125
  go_wp2_with fail
  refine (search_any R.Ak ps.length R.ck (kvs ps) m w1.heap.size w1 (by omega) HS.out.keys.ints HS.out.rise).mono ?_
  rintro e w2 ⟨rfl, nq, hq⟩
  have b2 : Below w1.heap.size w1 w2 := by rw [hq]; exact below_drewN (Below.refl _ _) nq
  have X2 := Lib.hid (X1.out.below b2 (by omega))
  have P2 := Lib.hid (P1.out.below b2 (by omega))
  have S2 := Lib.hid (HS.out.below b2)
  have B2 := Lib.hid (B1.out.trans (b2.mono (by omega)))
  have hs2 : w2.heap.size = w.heap.size + 1 := by rw [hq]; simpa using s1
  clear hq b2 hw1 q0 q1
  have q0 := (P2.out.cell 0).trans Z0.out
  have q1 := (P2.out.cell 1).trans Z1.out
  unfold SR.kv at q0
  unfold SR.vv at q1
  have q20 := X2.out.cell 0
  have q21 := X2.out.cell 1
  have q22 := X2.out.cell 2
  have q23 := X2.out.cell 3
  have f2 := X2.out.free
  simp at q20 q21 q22 q23
  obtain ⟨ht, hht⟩ : ∃ ht, hitI (kvs ps) m = ht := ⟨_, rfl⟩
  have HT := Lib.hid hht
  rw [hht]
  clear hht
  cases ht with
  | true =>
    obtain ⟨hk, he⟩ := hit_parts ps m HT.out
    obtain ⟨x, hx⟩ : ∃ x, ps[lowI (kvs ps) m].2 = x := ⟨_, rfl⟩
    have HX := Lib.hid (show ps[lowI (kvs ps) m] = (m, x) from Prod.ext he hx)
    obtain ⟨g, hg, _, hgl⟩ := S2.out.row (by omega)
    have hv := S2.out.vals
    rw [hg] at hv q1
    have hc : ∀ k, k < 4 → w2.cell? ⟨g, lowI (kvs ps) m * 4 + k, none⟩ = x.cells[k]? := fun k hk4 => by
      rw [World.ownsRow.cellAt hv _ (by omega), nvs_at ps _ k hk4 hk, hx]
    have c0 := hc 0 (by omega)
    have c1 := hc 1 (by omega)
    have c2 := hc 2 (by omega)
    have c3 := hc 3 (by omega)
    unfold NV.cells at c0 c1 c2 c3
    simp at c0 c1 c2 c3
    clear hc hv hg he hx
    obtain ⟨i, hi⟩ : ∃ i, lowI (kvs ps) m = i := ⟨_, rfl⟩
    have HI := Lib.hid hi
    rw [hi] at c0 c1 c2 c3 hk ⊢
    clear hi
    obtain ⟨Ap, np, cp, Ak, nk, ck, nd⟩ := x
    simp only at c0 c1 c2 c3
    have s4 := set4 X2.out (.int .i64 nd.kind) (.slice Ap np cp) (.slice Ak nk ck) (.string nd.val)
    have S4 := Lib.hid s4
    clear s4
    go_wp2
    refine bodyPost_ret (v := .tuple #[.agg #[.int .i64 nd.kind, .slice Ap np cp, .slice Ak nk ck, .string nd.val], .bool true]) (results_box2 Tryz.results125 _ _ w.heap.size _ _ _ _ rfl rfl S4.out.1 Tryz.underlying134 rfl (by kernel_rfl)) rfl ?_
    exact ⟨⟨Ap, np, cp, Ak, nk, ck, nd⟩, true, rfl, .inl ⟨HT.out, rfl, by rw [HI.out]; exact hk, by simpa [HI.out] using HX.out⟩, B2.out.trans (S4.out.2.below (by omega) (fun k hk e => by omega))⟩
  | false =>
    obtain ⟨i, hi⟩ : ∃ i, lowI (kvs ps) m = i := ⟨_, rfl⟩
    rw [hi]
    clear hi
    obtain ⟨w3, hw3⟩ : ∃ w3, w2.alloc (.cells #[.int .i64 0, .slice none 0 0, .slice none 0 0, .string { data := #[] }] 134) = w3 := ⟨_, rfl⟩
    have X3 := Lib.hid (show Box w3 w.heap.size 134 _ from X2.out.below (hw3 ▸ (Below.refl w2.heap.size w2).alloc (Nat.le_refl _) _) (by omega))
    have y3 : Box w3 w2.heap.size 134 #[.int .i64 0, .slice none 0 0, .slice none 0 0, .string { data := #[] }] := hw3 ▸ heap_alloc_new _ _
    rw [hs2] at y3
    have Y3 := Lib.hid y3
    have B3 := Lib.hid (B2.out.trans ((show Below w2.heap.size w2 w3 from hw3 ▸ (Below.refl w2.heap.size w2).alloc (Nat.le_refl _) _).mono (by omega)))
    clear q0 q1 q20 q21 q22 q23 f2 y3
    have q20 := X3.out.cell 0
    have q21 := X3.out.cell 1
    have q22 := X3.out.cell 2
    have q23 := X3.out.cell 3
    have f2 := X3.out.free
    have y20 := Y3.out.cell 0
    have y21 := Y3.out.cell 1
    have y22 := Y3.out.cell 2
    have y23 := Y3.out.cell 3
    simp at q20 q21 q22 q23 y20 y21 y22 y23
    have s4 := set4 X3.out (.int .i64 0) (.slice none 0 0) (.slice none 0 0) (.string { data := #[] })
    have S4 := Lib.hid s4
    clear s4
    go_wp2
    refine bodyPost_ret (v := .tuple #[.agg #[.int .i64 0, .slice none 0 0, .slice none 0 0, .string { data := #[] }], .bool false]) (results_box2 Tryz.results125 _ _ w.heap.size _ _ _ _ rfl rfl S4.out.1 Tryz.underlying134 rfl (by kernel_rfl)) rfl ?_
    exact ⟨nv0, false, rfl, .inr ⟨HT.out, rfl, rfl⟩, B3.out.trans (S4.out.2.below (by have := B3.out.size; omega) (fun k hk e => by omega))⟩
theorem at_any (p lo : Nat) (R : SR) (ps : List (Int × NV)) (m : Int) (w : World) (hx : Box w p 59 #[R.kv ps.length, R.vv ps.length]) (h : SLN w lo R ps) :
    Calls Tryz.prog 125 #[.pointer (some ⟨p, 0, none⟩), .int .i64 m] w fun e w' => ∃ x b, e = .returned (.tuple #[x.v, .bool b]) ∧ AtIs ps m x b ∧ Below w.heap.size w w' := at_box p lo R ps m w hx rfl rfl h
end Go.Proofs.YtdhnhgppapkikaaGreatDoor

-- Rises: The program's rises: each name above 0 and above the one ahead of it.
namespace Go.Proofs.YtdhnhgppapkikaaGreatDoor
set_option maxRecDepth 100000
set_option linter.unusedVariables false
set_option linter.unusedSimpArgs false
open Go.RowKit

set_option maxHeartbeats 1600000 in
theorem rises_any (A : Option Addr) (n c : Nat) (l : List Int) (B : Nat) (w : World) (hn : n ≤ 1048576) (hb : Ints w B A n l) :
    Calls Tryz.prog 91 #[.slice A n c] w fun e w' => SaysB e (Rises l) ∧ ∃ q, w' = w.drewN q := by
  have mixed : Tryz.prog.follows .mixedOrders = true := by kernel_rfl
  have hlen := hb.1
  have HB := Lib.hid hb
  clear hb
  go_enter Tryz.func91, Tryz.ntmps91
  go_wp2
  go_loopw [3, 8] (fun s3 s8 wr => ∃ k q : Nat, k ≤ n ∧ s8 = .int .i64 k ∧ s3 = .int .i64 (lastI l k) ∧ wr = w.drewN q ∧ Rises (l.take k)) (fun _ s8 _ => n - (intOf s8).toNat)
  case atStart => exact ⟨0, 0, Nat.zero_le _, rfl, by simp [lastI], rfl, by simpa using rises_nil⟩
  case round =>
    obtain ⟨k, q, hk, rfl, rfl, hwq, h1⟩ := hrel
    have H1 := Lib.hid h1
    have HQ := Lib.hid hwq
    clear h1
    by_cases hlt : k < n
    · obtain ⟨b, off, rfl, hbB, hcell⟩ := HB.out.2 (by omega)
      have cm : wr.cell? ⟨b, off + k, none⟩ = some (.int .i64 (l[k]?.getD 0)) := by rw [hwq]; exact hcell _ hlt
      clear hcell hwq
      have hst := rises_step l k (by omega)
      have hno := rises_no (l := l) (k := k) (by omega)
      have hl1 := lastI_succ l k
      obtain ⟨y, hy⟩ : ∃ y, l[k]?.getD 0 = y := ⟨_, rfl⟩
      obtain ⟨z, hz⟩ : ∃ z, lastI l k = z := ⟨_, rfl⟩
      rw [hy] at cm hst hno hl1
      rw [hz] at hst hno ⊢
      have ST := Lib.hid hst
      have NO := Lib.hid hno
      have L1 := Lib.hid hl1
      clear hy hz hst hno hl1
      by_cases hyx : y ≤ z
      · have hd : decide (y ≤ z) = true := decide_eq_true hyx
        have HYX := Lib.hid hyx
        clear hyx
        go_wp2
        go_ret
        exact ⟨SaysB.f (NO.out (by have := HYX.out; omega)), q, (by first | rfl | exact HQ.out)⟩
      · have hd : decide (y ≤ z) = false := decide_eq_false hyx
        have HYX := Lib.hid hyx
        clear hyx
        go_wp2
        go_roundw
        case measure => simp [intOf]; omega
        case rel => exact ⟨k + 1, q, by omega, by go_num, by rw [L1.out], (by first | rfl | exact HQ.out), ST.out.2 ⟨H1.out, by have := HYX.out; omega⟩⟩
    · obtain rfl : k = n := by omega
      have h2 := H1.out
      rw [List.take_of_length_le (by omega)] at h2
      have H2 := Lib.hid h2
      clear h2
      go_wp2
      go_ret
      exact ⟨SaysB.t H2.out, q, (by first | rfl | exact HQ.out)⟩
end Go.Proofs.YtdhnhgppapkikaaGreatDoor
