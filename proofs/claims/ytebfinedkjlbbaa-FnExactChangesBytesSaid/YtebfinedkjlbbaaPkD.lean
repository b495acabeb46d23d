/- Several texts in one, in build order: Chg, Form, ReadM, ReadP, PathK, NodeP, Allows, NodeQ, ReadK, Named, StepA, CellN, CellC. -/
import Derived.Test.YtebfinedkjlbbaaPkC
import Derived.Laws.EntriesVeiled
import Derived.Deep.WholeRow
import Derived.Deep.AppendLies
import Derived.Deep.RegionLaw
-- Chg: A change: what it is, when it is one; one that came in; what the laws' helpers and the model's ChangeOk do with it.
namespace Go.Proofs.Ytebfinedkjlbbaa
set_option maxRecDepth 20000
set_option linter.unusedVariables false
set_option linter.unusedSimpArgs false
open Go.RowKit Go.ChangeShapes Go.WideShapes Go.Joins Go.Deep

/-- a change. -/
structure MChg where
  kind : Int
  name : Int
  bytes : List Int
/-- the change is right. -/
def ChgOk (x : MChg) : Prop := (¬ x.kind = 1 ∧ 2 ≤ x.kind ∧ x.kind ≤ 11 ∧ 0 ≤ x.name ∧ x.bytes = []) ∨ (x.kind = 1 ∧ (∃ nd, NodeRead x.bytes nd true) ∧ x.name = nameOf x.bytes)
/-- the value of a change whose bytes lie so. -/
def chgV (x : MChg) (A : Option Addr) (n c : Nat) : Value := .agg #[.int .i64 x.kind, .int .i64 x.name, .slice A n c]
/-- the value v is a change x that came in. -/
def ChgArg (w : World) (v : Value) (x : MChg) : Prop :=
  ∃ A n c, v = .agg #[.int .i64 x.kind, .int .i64 x.name, .slice A n c] ∧ n ≤ maxLen ∧ n ≤ c ∧ (A = none → c = 0) ∧ Byts w w.heap.size A n x.bytes
theorem open_chg {H : Type} {enc : TypeId × Value → H} {w : World} {r : Reach} {b0 : Nat} {v : Value} {d : DataW H} {p : List MemPlace} (hv : Value.okWide Try.prog w r b0 41 v)
    (h : DataW.Trod enc Try.prog w 0 (fun _ => true) true 41 v d p) : ∃ x, ChgArg w v x := by
  obtain ⟨v0, v1, v2, y0, y1, y2, n, rfl, _, _, h0, h1, h2⟩ := open_agg3 Try.underlying41 (by kernel_rfl) (by kernel_rfl) hv h
  obtain ⟨z, e0, _⟩ := DataW.trod_int Try.underlying2 h0
  obtain ⟨m, e1, _⟩ := DataW.trod_int Try.underlying2 h1
  obtain ⟨A, n', c, zs, rfl, hr⟩ := row_of_trod Try.underlying22 Try.underlying5 (by kernel_rfl) h2
  simp at e0 e1
  subst e0 e1
  refine ⟨⟨z, m, zs.take n'⟩, A, n', c, rfl, ?_, ?_, ?_, hr.byts⟩
  · rcases hr with ⟨_, h, _⟩ | ⟨_, _, hl, hm, _⟩
    · rw [h]; unfold maxLen; omega
    · omega
  · rcases hr with ⟨_, rfl, rfl, _⟩ | ⟨_, _, h2, h3, _⟩
    · exact Nat.le_refl _
    · exact h2
  · rcases hr with ⟨_, _, rfl, _⟩ | ⟨_, e, h2, h3, _⟩
    · exact fun _ => rfl
    · intro e'; rw [e] at e'; cases e'

theorem szChange_any (x : MChg) (A : Option Addr) (n c left : Nat) (w : World) (hn : n ≤ maxLen) (hl : left ≤ 1048576) :
    Calls Try.prog 30 #[.agg #[.int .i64 x.kind, .int .i64 x.name, .slice A n c], .int .i64 left] w fun e w' => e = .returned (.int .i64 (if n ≤ left then ((left - n : Nat) : Int) else -1)) ∧ Below w.heap.size w w' := by
  unfold maxLen at hn
  have b0 := Lib.hid ((Below.refl w.heap.size w).alloc (Nat.le_refl _) (.cells #[.int .i64 x.kind, .int .i64 x.name, .slice A n c] 41))
  have szb : ∀ W : World, Calls Try.prog 86 #[.slice A n c, .int .i64 left] W fun e w' => e = .returned (.int .i64 (if n ≤ left then ((left - n : Nat) : Int) else -1)) ∧ W = w' := by
    intro W
    by_cases h : n ≤ left
    · rw [if_pos h]
      go_enter Try.func86, Try.ntmps86
      go_wp2
      go_ret
      exact ⟨ret_i64 (by omega), rfl⟩
    · rw [if_neg h]
      go_enter Try.func86, Try.ntmps86
      go_wp2
      go_ret
      exact ⟨rfl, rfl⟩
  have SZ := Lib.hid szb
  clear szb
  go_enter Try.func30, Try.ntmps30
  go_wp2_with fail
  refine (SZ.out _).mono ?_
  rintro e w' ⟨rfl, rfl⟩
  by_cases h : n ≤ left
  · rw [if_pos h]
    go_wp2
    go_ret
    exact ⟨rfl, b0.out⟩
  · rw [if_neg h]
    go_wp2
    go_ret
    exact ⟨rfl, b0.out⟩

theorem l1In_chg (x : Int) (w : World) :
    Calls Try.prog 87 #[.int .i64 x, .int .i64 2, .int .i64 11] w fun e w' => e = .returned (.bool (decide (2 ≤ x ∧ x ≤ 11))) ∧ w' = w := by
  go_enter Try.func87, Try.ntmps87
  by_cases h : 2 ≤ x
  · go_wp2
    go_ret
    exact ⟨ret_b (decide_eq_decide.2 (by omega)), rfl⟩
  · go_wp2
    go_ret
    exact ⟨ret_b (by simp; omega), rfl⟩

theorem specChangeOk_any (x : MChg) (A : Option Addr) (n c : Nat) (B : Nat) (w : World) (hn : n ≤ 1048576) (hc : n ≤ c) (hB : B ≤ w.heap.size) (hb : Byts w B A n x.bytes) :
    Calls Try.prog 31 #[.agg #[.int .i64 x.kind, .int .i64 x.name, .slice A n c]] w fun e w' => ∃ r, e = .returned (.bool r) ∧ (r = true ↔ ChgOk x) ∧ Below w.heap.size w w' := by
  have hlen := hb.1
  obtain ⟨w1, hw1⟩ : ∃ w1, w.alloc (.cells #[.int .i64 x.kind, .int .i64 x.name, .slice A n c] 44) = w1 := ⟨_, rfl⟩
  have x1 : Box w1 w.heap.size _ _ := hw1 ▸ heap_alloc_new _ _
  have b1 : Below w.heap.size w w1 := hw1 ▸ (Below.refl _ _).alloc (Nat.le_refl _) _
  have X1 := Lib.hid x1
  have B1 := Lib.hid b1
  have HB := Lib.hid ((hb.more hB).below b1)
  have HW := Lib.hid hw1
  have q0 := x1.cell 0
  have q1 := x1.cell 1
  have q2 := x1.cell 2
  simp at q0 q1 q2
  have s1 : w.heap.size ≤ w1.heap.size := b1.size
  clear x1 b1 hb
  by_cases hk : x.kind = 1
  · have hb1 : (x.kind != 1) = false := by simp [hk]
    have HK := Lib.hid hk
    clear hk
    go_enter Try.func31, Try.ntmps31
    go_wp2_with fail
    refine (specNodeFrom_any A n c x.bytes _ w1 hn hc s1 HB.out).mono ?_
    rintro e w2 ⟨v, nd, b, rfl, own, rd, b2⟩
    obtain ⟨Ap, np, cp, Ak, nk, ck, rfl, _⟩ := own
    obtain ⟨w3, hw3⟩ : ∃ w3, w2.alloc (.cells #[.int .i64 nd.kind, .slice Ap np cp, .slice Ak nk ck, .string nd.val] 26) = w3 := ⟨_, rfl⟩
    have b2 : Below w1.heap.size w1 w3 := b2.trans (hw3 ▸ (Below.refl w2.heap.size w2).alloc (Nat.le_refl _) _ |>.mono b2.size)
    have B2 := Lib.hid (B1.out.trans (b2.mono s1))
    have X2 := X1.out.below b2 X1.out.lt
    have HB2 := Lib.hid (HB.out.below (b2.mono s1))
    have RD := Lib.hid rd
    have nm := fun k => (specName_any A n c x.bytes w.heap.size (w3.drewN k) (by omega) (HB2.out.drewN k)).mono (fun e w' (h : _ ∧ _) => And.intro h.1 h.2.symm)
    have NM := Lib.hid nm
    clear q0 q1 q2 b2 rd nm
    have q0 := X2.cell 0
    have q1 := X2.cell 1
    have q2 := X2.cell 2
    simp at q0 q1 q2
    clear X2
    cases b with
    | false =>
      have hno : ¬ ChgOk x := fun h => by
        rcases h with ⟨h, _⟩ | ⟨_, ⟨nd', h⟩, _⟩
        · exact h HK.out
        · have := (RD.out.one h).2; cases this
      have HN := Lib.hid hno
      clear hno
      go_wp2
      go_quiet (first | (go_at_call 88; exact Calls.quiet_of_same (NM.out _)))
      go_wp2
      go_ret
      exact ⟨false, rfl, iff_of_false (by simp) HN.out, below_drewN B2.out _⟩
    | true =>
      by_cases he : x.name = nameOf x.bytes
      · have hb2 : (x.name == nameOf x.bytes) = true := by simpa using he
        have hyes : ChgOk x := .inr ⟨HK.out, ⟨nd, RD.out⟩, he⟩
        have HY := Lib.hid hyes
        clear hyes he
        go_wp2
        go_quiet (first | (go_at_call 88; exact Calls.quiet_of_same (NM.out _)))
        go_wp2
        go_ret
        exact ⟨true, rfl, iff_of_true rfl HY.out, below_drewN B2.out _⟩
      · have hb2 : (x.name == nameOf x.bytes) = false := by simpa using he
        have hno : ¬ ChgOk x := fun h => by
          rcases h with ⟨h, _⟩ | ⟨_, _, h⟩
          · exact h HK.out
          · exact he h
        have HN := Lib.hid hno
        clear hno he
        go_wp2
        go_quiet (first | (go_at_call 88; exact Calls.quiet_of_same (NM.out _)))
        go_wp2
        go_ret
        exact ⟨false, rfl, iff_of_false (by simp) HN.out, below_drewN B2.out _⟩
  · have hb1 : (x.kind != 1) = true := by simpa using hk
    have LI := Lib.hid fun W => l1In_chg x.kind W
    have hiff : ChgOk x ↔ ((2 ≤ x.kind ∧ x.kind ≤ 11) ∧ 0 ≤ x.name ∧ n = 0) := by
      constructor
      · rintro (⟨_, h1, h2, h3, h4⟩ | ⟨h, _⟩)
        · exact ⟨⟨h1, h2⟩, h3, by rw [← hlen, h4]; rfl⟩
        · exact absurd h hk
      · rintro ⟨⟨h1, h2⟩, h3, h4⟩
        exact .inl ⟨hk, h1, h2, h3, List.eq_nil_of_length_eq_zero (by omega)⟩
    have HF := Lib.hid hiff
    clear hiff hk
    have ff : ∀ W, Below w.heap.size w W → ¬ ((2 ≤ x.kind ∧ x.kind ≤ 11) ∧ 0 ≤ x.name ∧ n = 0) → ∃ r, (Ending.returned (.bool false) : Ending) = .returned (.bool r) ∧ (r = true ↔ ChgOk x) ∧ Below w.heap.size w W := fun W hW h => ⟨false, rfl, iff_of_false (by simp) (fun h' => h (HF.out.1 h')), hW⟩
    have FF := Lib.hid ff
    clear ff
    by_cases h1 : 2 ≤ x.kind ∧ x.kind ≤ 11
    case neg =>
      rw [decide_eq_false h1] at LI
      have H1 := Lib.hid h1
      clear h1
      go_enter Try.func31, Try.ntmps31
      go_wp2_with fail
      refine (LI.out _).mono ?_
      rintro e w' ⟨rfl, hw'⟩
      rw [hw']
      clear hw' w'
      go_wp2
      go_ret
      exact FF.out _ B1.out (fun h => H1.out h.1)
    case pos =>
      rw [decide_eq_true h1] at LI
      have H1 := Lib.hid h1
      clear h1
      by_cases h2 : 0 ≤ x.name
      case neg =>
        have hd0 : decide (0 ≤ x.name) = false := decide_eq_false h2
        have H2 := Lib.hid h2
        clear h2
        go_enter Try.func31, Try.ntmps31
        go_wp2_with fail
        refine (LI.out _).mono ?_
        rintro e w' ⟨rfl, hw'⟩
        rw [hw']
        clear hw' w'
        go_wp2
        go_ret
        exact FF.out _ B1.out (fun h => by have := H2.out; have := h.2.1; omega)
      case pos =>
        have hd0 : decide (0 ≤ x.name) = true := decide_eq_true h2
        have H2 := Lib.hid h2
        clear h2
        by_cases hz : n = 0
        · obtain rfl := hz
          have hyes := Lib.hid (HF.out.2 ⟨H1.out, H2.out, rfl⟩)
          go_enter Try.func31, Try.ntmps31
          go_wp2_with fail
          refine (LI.out _).mono ?_
          rintro e w' ⟨rfl, hw'⟩
          rw [hw']
          clear hw' w'
          go_wp2
          go_ret
          exact ⟨true, rfl, iff_of_true rfl hyes.out, B1.out⟩
        · have hd : decide ((n : Int) = 0) = false := decide_eq_false (by omega)
          have hd' : ((n : Int) == 0) = false := by simpa using hz
          have HZ := Lib.hid hz
          go_enter Try.func31, Try.ntmps31
          go_wp2_with fail
          refine (LI.out _).mono ?_
          rintro e w' ⟨rfl, hw'⟩
          rw [hw']
          clear hw' w'
          go_wp2
          go_ret
          first | exact FF.out _ B1.out (fun h => HZ.out h.2.2) | (refine ⟨_, rfl, ?_, B1.out⟩; simp [hz]; exact fun h => HZ.out (HF.out.1 h).2.2)
theorem toChange_any (x : MChg) (A : Option Addr) (n c : Nat) (B : Nat) (w : World) (hn : n ≤ 1048576) (hB : B ≤ w.heap.size) (hb : Byts w B A n x.bytes) :
    Calls Try.prog 32 #[.agg #[.int .i64 x.kind, .int .i64 x.name, .slice A n c]] w fun e w' => ∃ A' n' c', e = .returned (.agg #[.int .i64 x.kind, .int .i64 x.name, .slice A' n' c']) ∧ Mine w' w.heap.size A' n' c' x.bytes ∧ Below w.heap.size w w' := by
  obtain ⟨k, m, bs⟩ := x
  have hn' : n ≤ 140737488355328 := by omega
  have HP := Lib.hid (hb.more hB)
  have hlen := hb.1
  clear hb
  obtain ⟨w3, hw3⟩ : ∃ w3, (((w.alloc (.cells #[.int .i64 k, .int .i64 m, .slice A n c] 41)).alloc (.cells #[.int .i64 0, .int .i64 0, .slice none 0 0] 44)).alloc
    (.cells #[.int .i64 k, .int .i64 m, .slice none 0 0] 44)) = w3 := ⟨_, rfl⟩
  have x0 : Box w3 w.heap.size _ _ := hw3 ▸ heap3_0 _ _ _ _
  have x1 : Box w3 (w.heap.size + 1) _ _ := hw3 ▸ heap3_1 _ _ _ _
  have x2 : Box w3 (w.heap.size + 1 + 1) _ _ := hw3 ▸ heap3_2 _ _ _ _
  have s3 : w3.heap.size = w.heap.size + 3 := hw3 ▸ size3 _ _ _ _
  have b3 : Below w.heap.size w w3 := hw3 ▸ below3 _ _ _ _
  have X0 := Lib.hid x0
  have X1 := Lib.hid x1
  have X2 := Lib.hid x2
  have B3 := Lib.hid b3
  have HW := Lib.hid hw3
  clear x0 x1 x2 b3 hw3
  go_enter Try.func32, Try.ntmps32
  go_wp2_with fail
  rw [HW.out]
  refine (copy_own _ _ _ bs _ w3 hn' (by omega) (HP.out.below B3.out)).mono ?_
  rintro e w4 ⟨g4, rfl, hg4, r4, b4⟩
  have s4 := b4.size
  have l4 := r4.lt
  have R4 := Lib.hid r4
  have X1 := Lib.hid (X1.out.below b4 (by omega))
  have X2 := Lib.hid (X2.out.below b4 (by omega))
  have B4 := Lib.hid (B3.out.trans (b4.mono (by omega)))
  clear r4 b4
  have q10 := X1.out.cell 0
  have q11 := X1.out.cell 1
  have q12 := X1.out.cell 2
  have q20 := X2.out.cell 0
  have q21 := X2.out.cell 1
  have q22 := X2.out.cell 2
  have f1 := X1.out.free
  have f2 := X2.out.free
  simp at q10 q11 q12 q20 q21 q22
  go_wp2
  have hX := (((X1.out.other (g' := w.heap.size + 1 + 1) (by omega) 2 (.slice (some ⟨g4, 0, none⟩) n n)).set_ 0 (.int .i64 k)).set_ 1 (.int .i64 m)).set_ 2 (.slice (some ⟨g4, 0, none⟩) n n)
  have hS : Touch (fun k => w.heap.size ≤ k ∧ k < w.heap.size + 3) w4 _ :=
    (((touch_set w4 (w.heap.size + 1 + 1) 2 (.slice (some ⟨g4, 0, none⟩) n n) ⟨by omega, by omega⟩).trans (touch_set _ (w.heap.size + 1) 0 (.int .i64 k) ⟨by omega, by omega⟩)).trans (touch_set _ (w.heap.size + 1) 1 (.int .i64 m) ⟨by omega, by omega⟩)).trans (touch_set _ (w.heap.size + 1) 2 (.slice (some ⟨g4, 0, none⟩) n n) ⟨by omega, by omega⟩)
  refine bodyPost_ret (v := .agg #[.int .i64 k, .int .i64 m, .slice (some ⟨g4, 0, none⟩) n n]) (results_cell_row Try.results32 _ _ (w.heap.size + 1) _ _ _ _ rfl hX Try.underlying44 rfl (by kernel_rfl)) rfl ?_
  have hle := B4.out.size
  exact ⟨_, _, _, rfl, ((row_mine R4.out hlen hg4 (by unfold maxLen; omega)).touch hS (fun g hg h => by simp [Value.ownBlock] at hg; omega)).base (by omega), B4.out.trans (hS.below hle (fun k hk h => by omega))⟩
theorem eqChange_yes (x : MChg) (A A' : Option Addr) (n c c' : Nat) (B B' : Nat) (w : World) (hn : n ≤ 1048576) (hB : B ≤ w.heap.size) (hB' : B' ≤ w.heap.size) (hb : Byts w B A n x.bytes) (hb' : Byts w B' A' n x.bytes) :
    Calls Try.prog 34 #[.agg #[.int .i64 x.kind, .int .i64 x.name, .slice A n c], .agg #[.int .i64 x.kind, .int .i64 x.name, .slice A' n c']] w fun e w' => e = .returned (.bool true) ∧ Below w.heap.size w w' := by
  obtain ⟨k, m, bs⟩ := x
  have HP := Lib.hid (hb.more hB)
  have HP' := Lib.hid (hb'.more hB')
  clear hb hb'
  obtain ⟨w3, hw3⟩ : ∃ w3, ((w.alloc (.cells #[.int .i64 k, .int .i64 m, .slice A n c] 44)).alloc (.cells #[.int .i64 k, .int .i64 m, .slice A' n c'] 44)) = w3 := ⟨_, rfl⟩
  have s3 : w3.heap.size = w.heap.size + 2 := hw3 ▸ size2 _ _ _
  have b3 : Below w.heap.size w w3 := hw3 ▸ below2 _ _ _
  have B3 := Lib.hid b3
  have HW := Lib.hid hw3
  clear b3 hw3
  go_enter Try.func34, Try.ntmps34
  go_wp2_with fail
  rw [HW.out]
  refine (like_yes _ _ _ _ _ bs _ _ w3 (by omega) (HP.out.below B3.out) (HP'.out.below B3.out)).mono ?_
  rintro e w4 ⟨rfl, q, hq⟩
  have b4 : Below w3.heap.size w3 w4 := by rw [hq]; exact below_drewN (Below.refl _ _) q
  clear hq
  have B4 := Lib.hid (B3.out.trans (b4.mono (by omega)))
  clear b4
  go_wp2
  go_ret
  exact ⟨rfl, B4.out⟩
end Go.Proofs.Ytebfinedkjlbbaa

-- Form: The program's table of the kinds of changes: what formOf answers.
namespace Go.Proofs.Ytebfinedkjlbbaa
set_option maxRecDepth 100000
set_option linter.unusedVariables false
set_option linter.unusedSimpArgs false
open Go.RowKit

/-- the forms of a change, as values: none, that of a ChCell, that of a change with a name only. -/
def form0 : Value := .agg #[.nilFunc, .nilFunc, .nilFunc]
def formC : Value := .agg #[.func (.func 124) #[] #[], .func (.func 125) #[] #[], .func (.func 126) #[] #[]]
def formN : Value := .agg #[.func (.func 121) #[] #[], .func (.func 122) #[] #[], .func (.func 123) #[] #[]]
/-- the form of a kind. -/
def formFor (k : Int) : Value := if 1 ≤ k ∧ k ≤ 11 then (if k = 1 then formC else formN) else form0

theorem form_mid (w w2 w3 : World) (t : TypeId) (n0 n1 n2 m0 a0 a1 a2 : Value) (x2 : Box w2 w.heap.size t #[n0, n1, n2]) (y2 : Box w2 (w.heap.size + 1) t #[n0, n1, n2]) (hs : w2.heap.size = w.heap.size + 2) (hb : Below w.heap.size w w2)
    (hw : ((w2.setCell ⟨w.heap.size + 1, 0, none⟩ a0).setCell ⟨w.heap.size + 1, 1, none⟩ a1).setCell ⟨w.heap.size + 1, 2, none⟩ a2 = w3) :
    Box w3 w.heap.size t #[n0, n1, n2] ∧ Box w3 (w.heap.size + 1) t #[a0, a1, a2] ∧ w3.heap.size = w.heap.size + 2 ∧ Below w.heap.size w w3 := by
  subst hw
  have h1 := ((x2.other (g' := w.heap.size + 1) (by omega) 0 a0).other (g' := w.heap.size + 1) (by omega) 1 a1).other (g' := w.heap.size + 1) (by omega) 2 a2
  have h2 := ((y2.set_ 0 a0).set_ 1 a1).set_ 2 a2
  have t1 := (((touch_set (S := fun x => w.heap.size ≤ x) w2 (w.heap.size + 1) 0 a0 (Nat.le_succ _)).trans (touch_set _ (w.heap.size + 1) 1 a1 (Nat.le_succ _))).trans (touch_set _ (w.heap.size + 1) 2 a2 (Nat.le_succ _)))
  exact ⟨h1, by simpa using h2, by simpa using hs, hb.trans (t1.below (by omega) (fun k hk h => by omega))⟩
theorem form_end2 (w w4 : World) (t : TypeId) (n0 n1 n2 b0 b1 b2 : Value) (x4 : Box w4 w.heap.size t #[n0, n1, n2]) (hb : Below w.heap.size w w4) :
    Box (((w4.setCell ⟨w.heap.size, 0, none⟩ b0).setCell ⟨w.heap.size, 1, none⟩ b1).setCell ⟨w.heap.size, 2, none⟩ b2) w.heap.size t #[b0, b1, b2] ∧
      Below w.heap.size w (((w4.setCell ⟨w.heap.size, 0, none⟩ b0).setCell ⟨w.heap.size, 1, none⟩ b1).setCell ⟨w.heap.size, 2, none⟩ b2) := by
  have h3 := ((x4.set_ 0 b0).set_ 1 b1).set_ 2 b2
  have t2 := (((touch_set (S := fun x => w.heap.size ≤ x) w4 w.heap.size 0 b0 (Nat.le_refl _)).trans (touch_set _ w.heap.size 1 b1 (Nat.le_refl _))).trans (touch_set _ w.heap.size 2 b2 (Nat.le_refl _)))
  exact ⟨by simpa using h3, hb.trans (t2.below hb.size (fun k hk h => by omega))⟩

set_option maxHeartbeats 4000000 in
theorem formOf_cell (k : Int) (h1 : k = 1) (w : World) :
    Calls Try.prog 89 #[.int .i64 k] w fun e w' => e = .returned (.tuple #[formC, .bool true]) ∧ Below w.heap.size w w' := by
  have d1 : decide (k < 1) = false := decide_eq_false (by omega)
  have d2 : decide (11 < k) = false := decide_eq_false (by omega)
  have d3 : decide (k < 0) = false := decide_eq_false (by omega)
  have d4 : ¬ k < 0 := by omega
  have l0 : (#[.nilFunc, .nilFunc, .nilFunc, .func (.func 124) #[] #[], .func (.func 125) #[] #[], .func (.func 126) #[] #[], .func (.func 121) #[] #[], .func (.func 122) #[] #[], .func (.func 123) #[] #[], .func (.func 121) #[] #[], .func (.func 122) #[] #[], .func (.func 123) #[] #[], .func (.func 121) #[] #[], .func (.func 122) #[] #[], .func (.func 123) #[] #[], .func (.func 121) #[] #[], .func (.func 122) #[] #[], .func (.func 123) #[] #[], .func (.func 121) #[] #[], .func (.func 122) #[] #[], .func (.func 123) #[] #[], .func (.func 121) #[] #[], .func (.func 122) #[] #[], .func (.func 123) #[] #[], .func (.func 121) #[] #[], .func (.func 122) #[] #[], .func (.func 123) #[] #[], .func (.func 121) #[] #[], .func (.func 122) #[] #[], .func (.func 123) #[] #[], .func (.func 121) #[] #[], .func (.func 122) #[] #[], .func (.func 123) #[] #[], .func (.func 121) #[] #[], .func (.func 122) #[] #[], .func (.func 123) #[] #[]] : Array Value)[k.toNat * 3]? = some (.func (.func 124) #[] #[]) := by
    subst h1; rfl
  have l1 : (#[.nilFunc, .nilFunc, .nilFunc, .func (.func 124) #[] #[], .func (.func 125) #[] #[], .func (.func 126) #[] #[], .func (.func 121) #[] #[], .func (.func 122) #[] #[], .func (.func 123) #[] #[], .func (.func 121) #[] #[], .func (.func 122) #[] #[], .func (.func 123) #[] #[], .func (.func 121) #[] #[], .func (.func 122) #[] #[], .func (.func 123) #[] #[], .func (.func 121) #[] #[], .func (.func 122) #[] #[], .func (.func 123) #[] #[], .func (.func 121) #[] #[], .func (.func 122) #[] #[], .func (.func 123) #[] #[], .func (.func 121) #[] #[], .func (.func 122) #[] #[], .func (.func 123) #[] #[], .func (.func 121) #[] #[], .func (.func 122) #[] #[], .func (.func 123) #[] #[], .func (.func 121) #[] #[], .func (.func 122) #[] #[], .func (.func 123) #[] #[], .func (.func 121) #[] #[], .func (.func 122) #[] #[], .func (.func 123) #[] #[], .func (.func 121) #[] #[], .func (.func 122) #[] #[], .func (.func 123) #[] #[]] : Array Value)[k.toNat * 3 + 1]? = some (.func (.func 125) #[] #[]) := by
    subst h1; rfl
  have l2 : (#[.nilFunc, .nilFunc, .nilFunc, .func (.func 124) #[] #[], .func (.func 125) #[] #[], .func (.func 126) #[] #[], .func (.func 121) #[] #[], .func (.func 122) #[] #[], .func (.func 123) #[] #[], .func (.func 121) #[] #[], .func (.func 122) #[] #[], .func (.func 123) #[] #[], .func (.func 121) #[] #[], .func (.func 122) #[] #[], .func (.func 123) #[] #[], .func (.func 121) #[] #[], .func (.func 122) #[] #[], .func (.func 123) #[] #[], .func (.func 121) #[] #[], .func (.func 122) #[] #[], .func (.func 123) #[] #[], .func (.func 121) #[] #[], .func (.func 122) #[] #[], .func (.func 123) #[] #[], .func (.func 121) #[] #[], .func (.func 122) #[] #[], .func (.func 123) #[] #[], .func (.func 121) #[] #[], .func (.func 122) #[] #[], .func (.func 123) #[] #[], .func (.func 121) #[] #[], .func (.func 122) #[] #[], .func (.func 123) #[] #[], .func (.func 121) #[] #[], .func (.func 122) #[] #[], .func (.func 123) #[] #[]] : Array Value)[k.toNat * 3 + 2]? = some (.func (.func 126) #[] #[]) := by
    subst h1; rfl
  have h1a : 1 ≤ k := by omega
  have h1b : k ≤ 11 := by omega
  clear h1
  obtain ⟨w2, hw2⟩ : ∃ w2, (w.alloc (.cells #[.nilFunc, .nilFunc, .nilFunc] 110)).alloc (.cells #[.nilFunc, .nilFunc, .nilFunc] 110) = w2 := ⟨_, rfl⟩
  have x2 : Box w2 w.heap.size 110 #[.nilFunc, .nilFunc, .nilFunc] := hw2 ▸ heap2_0 _ _ _
  have y2 : Box w2 (w.heap.size + 1) 110 #[.nilFunc, .nilFunc, .nilFunc] := hw2 ▸ heap2_1 _ _ _
  have s2 : w2.heap.size = w.heap.size + 2 := hw2 ▸ size2 _ _ _
  have b2 : Below w.heap.size w w2 := hw2 ▸ below2 _ _ _
  obtain ⟨w3, hw3⟩ : ∃ w3, ((w2.setCell ⟨w.heap.size + 1, 0, none⟩ (.func (.func 121) #[] #[])).setCell ⟨w.heap.size + 1, 1, none⟩ (.func (.func 122) #[] #[])).setCell ⟨w.heap.size + 1, 2, none⟩ (.func (.func 123) #[] #[]) = w3 := ⟨_, rfl⟩
  obtain ⟨x3, y3, s3, b3⟩ := form_mid w w2 w3 _ _ _ _ .nilFunc _ _ _ x2 y2 s2 b2 hw3
  obtain ⟨AR, hAR⟩ : ∃ AR : Array Value, #[.nilFunc, .nilFunc, .nilFunc, .func (.func 124) #[] #[], .func (.func 125) #[] #[], .func (.func 126) #[] #[], .func (.func 121) #[] #[], .func (.func 122) #[] #[], .func (.func 123) #[] #[], .func (.func 121) #[] #[], .func (.func 122) #[] #[], .func (.func 123) #[] #[], .func (.func 121) #[] #[], .func (.func 122) #[] #[], .func (.func 123) #[] #[], .func (.func 121) #[] #[], .func (.func 122) #[] #[], .func (.func 123) #[] #[], .func (.func 121) #[] #[], .func (.func 122) #[] #[], .func (.func 123) #[] #[], .func (.func 121) #[] #[], .func (.func 122) #[] #[], .func (.func 123) #[] #[], .func (.func 121) #[] #[], .func (.func 122) #[] #[], .func (.func 123) #[] #[], .func (.func 121) #[] #[], .func (.func 122) #[] #[], .func (.func 123) #[] #[], .func (.func 121) #[] #[], .func (.func 122) #[] #[], .func (.func 123) #[] #[], .func (.func 121) #[] #[], .func (.func 122) #[] #[], .func (.func 123) #[] #[]] = AR := ⟨_, rfl⟩
  have hsz : AR.size = 36 := by rw [← hAR]; rfl
  have hall : AR.all (·.oneCell') = true := by rw [← hAR]; kernel_rfl
  obtain ⟨w4, hw4⟩ : ∃ w4, w3.alloc (.cells AR 147) = w4 := ⟨_, rfl⟩
  have x4 : Box w4 w.heap.size 110 #[.nilFunc, .nilFunc, .nilFunc] := hw4 ▸ x3.below ((Below.refl _ _).alloc (Nat.le_refl _) _) x3.lt
  have b4 : Below w.heap.size w w4 := hw4 ▸ b3.alloc b3.size _
  have hst : (storeCells ⟨w3.heap.size, 0, none⟩ AR.toList 0).run Try.prog (w3.alloc (.cells #[.nilFunc, .nilFunc, .nilFunc, .nilFunc, .nilFunc, .nilFunc, .nilFunc, .nilFunc, .nilFunc, .nilFunc, .nilFunc, .nilFunc, .nilFunc, .nilFunc, .nilFunc, .nilFunc, .nilFunc, .nilFunc, .nilFunc, .nilFunc, .nilFunc, .nilFunc, .nilFunc, .nilFunc, .nilFunc, .nilFunc, .nilFunc, .nilFunc, .nilFunc, .nilFunc, .nilFunc, .nilFunc, .nilFunc, .nilFunc, .nilFunc, .nilFunc] 147)) = .ok () w4 := hw4 ▸ run_storeCells_new (P := Try.prog) w3 147 #[.nilFunc, .nilFunc, .nilFunc, .nilFunc, .nilFunc, .nilFunc, .nilFunc, .nilFunc, .nilFunc, .nilFunc, .nilFunc, .nilFunc, .nilFunc, .nilFunc, .nilFunc, .nilFunc, .nilFunc, .nilFunc, .nilFunc, .nilFunc, .nilFunc, .nilFunc, .nilFunc, .nilFunc, .nilFunc, .nilFunc, .nilFunc, .nilFunc, .nilFunc, .nilFunc, .nilFunc, .nilFunc, .nilFunc, .nilFunc, .nilFunc, .nilFunc] AR (by rw [hsz]; kernel_rfl) (by rw [hsz]; rfl) hall
  have z4 : ∀ j v, AR[j]? = some v → w4.cell? ⟨w3.heap.size, j, none⟩ = some v := fun j v h => by
    rw [← hw4, cell_of_row _ _ j _ _ _ (heap_alloc_last w3 _)]
    exact h
  have k0 := z4 (k.toNat * 3) _ (by rw [← hAR]; exact l0)
  have k1 := z4 (k.toNat * 3 + 1) _ (by rw [← hAR]; exact l1)
  have k2 := z4 (k.toNat * 3 + 2) _ (by rw [← hAR]; exact l2)
  have E := form_end2 w w4 _ _ _ _ (.func (.func 124) #[] #[]) (.func (.func 125) #[] #[]) (.func (.func 126) #[] #[]) x4 b4
  have HE := Lib.hid E
  have q0 := y2.cell 0
  have q1 := y2.cell 1
  have q2 := y2.cell 2
  have f := y2.free
  have r0 := y3.cell 0
  have r1 := y3.cell 1
  have r2 := y3.cell 2
  have p0 := x4.cell 0
  have p1 := x4.cell 1
  have p2 := x4.cell 2
  have g := x4.free
  simp at q0 q1 q2 r0 r1 r2 p0 p1 p2
  have hlt3 : w.heap.size < w3.heap.size := by omega
  clear x2 y2 s2 b2 x3 y3 s3 b3 x4 b4 z4 hall E l0 l1 l2
  go_enter Try.func89, Try.ntmps89
  go_wp2
  refine bodyPost_ret (v := .tuple #[formC, .bool true]) (results_box2 Try.results89 _ _ w.heap.size _ _ _ _ rfl rfl HE.out.1 Try.underlying110 rfl (by kernel_rfl)) rfl ?_
  exact ⟨rfl, HE.out.2⟩
set_option maxHeartbeats 4000000 in
theorem formOf_name (k : Int) (h1 : 2 ≤ k) (h2 : k ≤ 11) (w : World) :
    Calls Try.prog 89 #[.int .i64 k] w fun e w' => e = .returned (.tuple #[formN, .bool true]) ∧ Below w.heap.size w w' := by
  have d1 : decide (k < 1) = false := decide_eq_false (by omega)
  have d2 : decide (11 < k) = false := decide_eq_false (by omega)
  have d3 : decide (k < 0) = false := decide_eq_false (by omega)
  have d4 : ¬ k < 0 := by omega
  have l0 : (#[.nilFunc, .nilFunc, .nilFunc, .func (.func 124) #[] #[], .func (.func 125) #[] #[], .func (.func 126) #[] #[], .func (.func 121) #[] #[], .func (.func 122) #[] #[], .func (.func 123) #[] #[], .func (.func 121) #[] #[], .func (.func 122) #[] #[], .func (.func 123) #[] #[], .func (.func 121) #[] #[], .func (.func 122) #[] #[], .func (.func 123) #[] #[], .func (.func 121) #[] #[], .func (.func 122) #[] #[], .func (.func 123) #[] #[], .func (.func 121) #[] #[], .func (.func 122) #[] #[], .func (.func 123) #[] #[], .func (.func 121) #[] #[], .func (.func 122) #[] #[], .func (.func 123) #[] #[], .func (.func 121) #[] #[], .func (.func 122) #[] #[], .func (.func 123) #[] #[], .func (.func 121) #[] #[], .func (.func 122) #[] #[], .func (.func 123) #[] #[], .func (.func 121) #[] #[], .func (.func 122) #[] #[], .func (.func 123) #[] #[], .func (.func 121) #[] #[], .func (.func 122) #[] #[], .func (.func 123) #[] #[]] : Array Value)[k.toNat * 3]? = some (.func (.func 121) #[] #[]) := by
    rcases (show k = 2 ∨ k = 3 ∨ k = 4 ∨ k = 5 ∨ k = 6 ∨ k = 7 ∨ k = 8 ∨ k = 9 ∨ k = 10 ∨ k = 11 by omega) with h | h | h | h | h | h | h | h | h | h <;> (subst h; rfl)
  have l1 : (#[.nilFunc, .nilFunc, .nilFunc, .func (.func 124) #[] #[], .func (.func 125) #[] #[], .func (.func 126) #[] #[], .func (.func 121) #[] #[], .func (.func 122) #[] #[], .func (.func 123) #[] #[], .func (.func 121) #[] #[], .func (.func 122) #[] #[], .func (.func 123) #[] #[], .func (.func 121) #[] #[], .func (.func 122) #[] #[], .func (.func 123) #[] #[], .func (.func 121) #[] #[], .func (.func 122) #[] #[], .func (.func 123) #[] #[], .func (.func 121) #[] #[], .func (.func 122) #[] #[], .func (.func 123) #[] #[], .func (.func 121) #[] #[], .func (.func 122) #[] #[], .func (.func 123) #[] #[], .func (.func 121) #[] #[], .func (.func 122) #[] #[], .func (.func 123) #[] #[], .func (.func 121) #[] #[], .func (.func 122) #[] #[], .func (.func 123) #[] #[], .func (.func 121) #[] #[], .func (.func 122) #[] #[], .func (.func 123) #[] #[], .func (.func 121) #[] #[], .func (.func 122) #[] #[], .func (.func 123) #[] #[]] : Array Value)[k.toNat * 3 + 1]? = some (.func (.func 122) #[] #[]) := by
    rcases (show k = 2 ∨ k = 3 ∨ k = 4 ∨ k = 5 ∨ k = 6 ∨ k = 7 ∨ k = 8 ∨ k = 9 ∨ k = 10 ∨ k = 11 by omega) with h | h | h | h | h | h | h | h | h | h <;> (subst h; rfl)
  have l2 : (#[.nilFunc, .nilFunc, .nilFunc, .func (.func 124) #[] #[], .func (.func 125) #[] #[], .func (.func 126) #[] #[], .func (.func 121) #[] #[], .func (.func 122) #[] #[], .func (.func 123) #[] #[], .func (.func 121) #[] #[], .func (.func 122) #[] #[], .func (.func 123) #[] #[], .func (.func 121) #[] #[], .func (.func 122) #[] #[], .func (.func 123) #[] #[], .func (.func 121) #[] #[], .func (.func 122) #[] #[], .func (.func 123) #[] #[], .func (.func 121) #[] #[], .func (.func 122) #[] #[], .func (.func 123) #[] #[], .func (.func 121) #[] #[], .func (.func 122) #[] #[], .func (.func 123) #[] #[], .func (.func 121) #[] #[], .func (.func 122) #[] #[], .func (.func 123) #[] #[], .func (.func 121) #[] #[], .func (.func 122) #[] #[], .func (.func 123) #[] #[], .func (.func 121) #[] #[], .func (.func 122) #[] #[], .func (.func 123) #[] #[], .func (.func 121) #[] #[], .func (.func 122) #[] #[], .func (.func 123) #[] #[]] : Array Value)[k.toNat * 3 + 2]? = some (.func (.func 123) #[] #[]) := by
    rcases (show k = 2 ∨ k = 3 ∨ k = 4 ∨ k = 5 ∨ k = 6 ∨ k = 7 ∨ k = 8 ∨ k = 9 ∨ k = 10 ∨ k = 11 by omega) with h | h | h | h | h | h | h | h | h | h <;> (subst h; rfl)
  obtain ⟨w2, hw2⟩ : ∃ w2, (w.alloc (.cells #[.nilFunc, .nilFunc, .nilFunc] 110)).alloc (.cells #[.nilFunc, .nilFunc, .nilFunc] 110) = w2 := ⟨_, rfl⟩
  have x2 : Box w2 w.heap.size 110 #[.nilFunc, .nilFunc, .nilFunc] := hw2 ▸ heap2_0 _ _ _
  have y2 : Box w2 (w.heap.size + 1) 110 #[.nilFunc, .nilFunc, .nilFunc] := hw2 ▸ heap2_1 _ _ _
  have s2 : w2.heap.size = w.heap.size + 2 := hw2 ▸ size2 _ _ _
  have b2 : Below w.heap.size w w2 := hw2 ▸ below2 _ _ _
  obtain ⟨w3, hw3⟩ : ∃ w3, ((w2.setCell ⟨w.heap.size + 1, 0, none⟩ (.func (.func 121) #[] #[])).setCell ⟨w.heap.size + 1, 1, none⟩ (.func (.func 122) #[] #[])).setCell ⟨w.heap.size + 1, 2, none⟩ (.func (.func 123) #[] #[]) = w3 := ⟨_, rfl⟩
  obtain ⟨x3, y3, s3, b3⟩ := form_mid w w2 w3 _ _ _ _ .nilFunc _ _ _ x2 y2 s2 b2 hw3
  obtain ⟨AR, hAR⟩ : ∃ AR : Array Value, #[.nilFunc, .nilFunc, .nilFunc, .func (.func 124) #[] #[], .func (.func 125) #[] #[], .func (.func 126) #[] #[], .func (.func 121) #[] #[], .func (.func 122) #[] #[], .func (.func 123) #[] #[], .func (.func 121) #[] #[], .func (.func 122) #[] #[], .func (.func 123) #[] #[], .func (.func 121) #[] #[], .func (.func 122) #[] #[], .func (.func 123) #[] #[], .func (.func 121) #[] #[], .func (.func 122) #[] #[], .func (.func 123) #[] #[], .func (.func 121) #[] #[], .func (.func 122) #[] #[], .func (.func 123) #[] #[], .func (.func 121) #[] #[], .func (.func 122) #[] #[], .func (.func 123) #[] #[], .func (.func 121) #[] #[], .func (.func 122) #[] #[], .func (.func 123) #[] #[], .func (.func 121) #[] #[], .func (.func 122) #[] #[], .func (.func 123) #[] #[], .func (.func 121) #[] #[], .func (.func 122) #[] #[], .func (.func 123) #[] #[], .func (.func 121) #[] #[], .func (.func 122) #[] #[], .func (.func 123) #[] #[]] = AR := ⟨_, rfl⟩
  have hsz : AR.size = 36 := by rw [← hAR]; rfl
  have hall : AR.all (·.oneCell') = true := by rw [← hAR]; kernel_rfl
  obtain ⟨w4, hw4⟩ : ∃ w4, w3.alloc (.cells AR 147) = w4 := ⟨_, rfl⟩
  have x4 : Box w4 w.heap.size 110 #[.nilFunc, .nilFunc, .nilFunc] := hw4 ▸ x3.below ((Below.refl _ _).alloc (Nat.le_refl _) _) x3.lt
  have b4 : Below w.heap.size w w4 := hw4 ▸ b3.alloc b3.size _
  have hst : (storeCells ⟨w3.heap.size, 0, none⟩ AR.toList 0).run Try.prog (w3.alloc (.cells #[.nilFunc, .nilFunc, .nilFunc, .nilFunc, .nilFunc, .nilFunc, .nilFunc, .nilFunc, .nilFunc, .nilFunc, .nilFunc, .nilFunc, .nilFunc, .nilFunc, .nilFunc, .nilFunc, .nilFunc, .nilFunc, .nilFunc, .nilFunc, .nilFunc, .nilFunc, .nilFunc, .nilFunc, .nilFunc, .nilFunc, .nilFunc, .nilFunc, .nilFunc, .nilFunc, .nilFunc, .nilFunc, .nilFunc, .nilFunc, .nilFunc, .nilFunc] 147)) = .ok () w4 := hw4 ▸ run_storeCells_new (P := Try.prog) w3 147 #[.nilFunc, .nilFunc, .nilFunc, .nilFunc, .nilFunc, .nilFunc, .nilFunc, .nilFunc, .nilFunc, .nilFunc, .nilFunc, .nilFunc, .nilFunc, .nilFunc, .nilFunc, .nilFunc, .nilFunc, .nilFunc, .nilFunc, .nilFunc, .nilFunc, .nilFunc, .nilFunc, .nilFunc, .nilFunc, .nilFunc, .nilFunc, .nilFunc, .nilFunc, .nilFunc, .nilFunc, .nilFunc, .nilFunc, .nilFunc, .nilFunc, .nilFunc] AR (by rw [hsz]; kernel_rfl) (by rw [hsz]; rfl) hall
  have z4 : ∀ j v, AR[j]? = some v → w4.cell? ⟨w3.heap.size, j, none⟩ = some v := fun j v h => by
    rw [← hw4, cell_of_row _ _ j _ _ _ (heap_alloc_last w3 _)]
    exact h
  have k0 := z4 (k.toNat * 3) _ (by rw [← hAR]; exact l0)
  have k1 := z4 (k.toNat * 3 + 1) _ (by rw [← hAR]; exact l1)
  have k2 := z4 (k.toNat * 3 + 2) _ (by rw [← hAR]; exact l2)
  have E := form_end2 w w4 _ _ _ _ (.func (.func 121) #[] #[]) (.func (.func 122) #[] #[]) (.func (.func 123) #[] #[]) x4 b4
  have HE := Lib.hid E
  have q0 := y2.cell 0
  have q1 := y2.cell 1
  have q2 := y2.cell 2
  have f := y2.free
  have r0 := y3.cell 0
  have r1 := y3.cell 1
  have r2 := y3.cell 2
  have p0 := x4.cell 0
  have p1 := x4.cell 1
  have p2 := x4.cell 2
  have g := x4.free
  simp at q0 q1 q2 r0 r1 r2 p0 p1 p2
  have hlt3 : w.heap.size < w3.heap.size := by omega
  clear x2 y2 s2 b2 x3 y3 s3 b3 x4 b4 z4 hall E l0 l1 l2
  go_enter Try.func89, Try.ntmps89
  go_wp2
  refine bodyPost_ret (v := .tuple #[formN, .bool true]) (results_box2 Try.results89 _ _ w.heap.size _ _ _ _ rfl rfl HE.out.1 Try.underlying110 rfl (by kernel_rfl)) rfl ?_
  exact ⟨rfl, HE.out.2⟩
end Go.Proofs.Ytebfinedkjlbbaa

-- ReadM: Plain facts on the reading of a node as the program does it: number by number, until there are too few.
namespace Go.Proofs.Ytebfinedkjlbbaa
set_option maxRecDepth 20000
open Go.RowKit

/-- the next number, of what is left; none: there were too few. -/
def rNum : Option (List Int) → Int × Option (List Int)
  | some (y :: r) => (y, some r)
  | _ => (0, none)
def rByt (c : Nat) : Option (List Int) → List Int × Option (List Int)
  | some ys => if c ≤ ys.length then (ys.take c, some (ys.drop c)) else ([], none)
  | none => ([], none)
def nm8 (zs : List Int) : Int := if zs.length = 8 ∧ zs[7]?.getD 0 ≤ 127 then leVal zs else -1
def rKid (st : Option (List Int)) : (Int × Int) × Option (List Int) := (((rNum st).1, nm8 (rByt 8 (rNum st).2).1), (rByt 8 (rNum st).2).2)
def rKids : Nat → Option (List Int) → List (Int × Int) × Option (List Int)
  | 0, st => ([], st)
  | q + 1, st => ((rKids q st).1 ++ [(rKid (rKids q st).2).1], (rKid (rKids q st).2).2)
def rPart (st : Option (List Int)) : List Int × Option (List Int) := rByt (rNum st).1.toNat (rNum st).2
def rAll (st : Option (List Int)) : List (Int × Int) × Option (List Int) := rKids (rNum st).1.toNat (rNum st).2
def rNode (st : Option (List Int)) : MNode × Option (List Int) :=
  (⟨(rNum st).1, (rPart (rNum st).2).1, (rAll (rPart (rPart (rNum st).2).2).2).1, strOfNums (rPart (rPart (rNum st).2).2).1⟩, (rAll (rPart (rPart (rNum st).2).2).2).2)

/-- every number that is left is a byte. -/
def Bs (st : Option (List Int)) : Prop := ∀ ys, st = some ys → ∀ z ∈ ys, 0 ≤ z ∧ z ≤ 255
theorem rNum_bs {st} (h : Bs st) : Bs (rNum st).2 ∧ 0 ≤ (rNum st).1 ∧ (rNum st).1 ≤ 255 := by
  rcases st with _ | _ | ⟨y, r⟩
  · exact ⟨fun ys e => (by cases e), by decide, by decide⟩
  · exact ⟨fun ys e => (by cases e), by decide, by decide⟩
  · refine ⟨fun ys e z hz => ?_, h _ rfl y (by simp)⟩
    cases e
    exact h _ rfl z (by simp [hz])
theorem rByt_bs {st} (c : Nat) (h : Bs st) : Bs (rByt c st).2 ∧ ∀ z ∈ (rByt c st).1, 0 ≤ z ∧ z ≤ 255 := by
  rcases st with _ | ys
  · exact ⟨fun ys e => (by cases e), by simp [rByt]⟩
  · unfold rByt
    simp only
    split
    · refine ⟨fun r e z hz => ?_, fun z hz => h _ rfl z (List.mem_of_mem_take hz)⟩
      cases e
      exact h _ rfl z (List.mem_of_mem_drop hz)
    · exact ⟨fun ys e => (by cases e), by simp⟩
theorem rPart_bs {st} (h : Bs st) : Bs (rPart st).2 ∧ ∀ z ∈ (rPart st).1, 0 ≤ z ∧ z ≤ 255 := rByt_bs _ (rNum_bs h).1
theorem rKid_bs {st} (h : Bs st) : Bs (rKid st).2 := (rByt_bs 8 (rNum_bs h).1).1
theorem rKids_bs {st} (q : Nat) (h : Bs st) : Bs (rKids q st).2 := by
  induction q with
  | zero => exact h
  | succ q ih => exact rKid_bs ih
theorem rByt_len {st} (c : Nat) : (rByt c st).1.length ≤ c := by
  rcases st with _ | ys
  · simp [rByt]
  · unfold rByt
    simp only
    split
    · simp; omega
    · simp
theorem rPart_len {st} (h : Bs st) : (rPart st).1.length ≤ 255 := by
  have h1 := rByt_len (st := (rNum st).2) (rNum st).1.toNat
  have h2 := (rNum_bs h).2
  unfold rPart
  omega
theorem rKids_len (q : Nat) {st} : (rKids q st).1.length = q := by
  induction q with
  | zero => rfl
  | succ q ih => simp [rKids, ih]

/-! what was read stands there -/
theorem rNum_back {st a r} (h : rNum st = (a, some r)) : st = some (a :: r) := by
  rcases st with _ | _ | ⟨y, q⟩
  · cases h
  · cases h
  · cases h; rfl
theorem rByt_back {st c xs r} (h : rByt c st = (xs, some r)) : st = some (xs ++ r) ∧ xs.length = c := by
  rcases st with _ | ys
  · cases h
  · unfold rByt at h
    simp only at h
    split at h
    · cases h
      exact ⟨by rw [List.take_append_drop], by simp; omega⟩
    · cases h
theorem rPart_back {st xs r} (hb : Bs st) (h : rPart st = (xs, some r)) : st = some ((xs.length : Int) :: (xs ++ r)) := by
  obtain ⟨h1, h2⟩ := rByt_back h
  have hp := (rNum_bs hb).2
  rw [rNum_back (st := st) (a := (rNum st).1) (r := xs ++ r) (Prod.ext rfl h1)]
  rw [h2]
  congr 2
  omega
theorem rKid_back {st k r} (hb : Bs st) (h : rKid st = (k, some r)) (hk : 1 ≤ k.2) : st = some (kidBytes k ++ r) ∧ k.2 ≤ 9223372036854775807 := by
  have e1 : k = ((rNum st).1, nm8 (rByt 8 (rNum st).2).1) := (congrArg Prod.fst h).symm
  have e2 : (rByt 8 (rNum st).2).2 = some r := congrArg Prod.snd h
  obtain ⟨h1, h2⟩ := rByt_back (st := (rNum st).2) (c := 8) (xs := (rByt 8 (rNum st).2).1) (r := r) (Prod.ext rfl e2)
  have hr := (rByt_bs 8 (rNum_bs hb).1).2
  have hn := (rNum_bs hb).2
  generalize (rByt 8 (rNum st).2).1 = xs at h1 h2 hr e1
  have h3 := rNum_back (st := st) (a := (rNum st).1) (r := xs ++ r) (Prod.ext rfl h1)
  subst e1
  simp only at hk ⊢
  unfold nm8 at hk ⊢
  split at hk
  · rename_i hc
    rw [if_pos hc]
    refine ⟨?_, (leW_yes xs hr h2 hc.2).2.2⟩
    refine h3.trans ?_
    unfold kidBytes
    simp only
    rw [bytes_of_back xs hr h2 hc.2, Int.emod_eq_of_lt hn.1 (by omega)]
    rfl
  · omega
theorem rKids_back {st r} (q : Nat) (hb : Bs st) (h : (rKids q st).2 = some r) (hk : ∀ k ∈ (rKids q st).1, 1 ≤ k.2) : st = some ((rKids q st).1.flatMap kidBytes ++ r) ∧ ∀ k ∈ (rKids q st).1, k.2 ≤ 9223372036854775807 := by
  induction q generalizing r with
  | zero => exact ⟨by simpa [rKids] using h, by simp [rKids]⟩
  | succ q ih =>
    have h0 : (rKid (rKids q st).2).2 = some r := h
    obtain ⟨h1, h2⟩ := rKid_back (rKids_bs q hb) (k := (rKid (rKids q st).2).1) (r := r) (Prod.ext rfl h0) (hk _ (by simp [rKids]))
    obtain ⟨h3, h4⟩ := ih h1 (fun k hm => hk k (by simp [rKids, hm]))
    refine ⟨?_, fun k hm => ?_⟩
    · conv => lhs; rw [h3]
      simp [rKids]
    · simp only [rKids, List.mem_append, List.mem_singleton] at hm
      rcases hm with hm | rfl
      · exact h4 k hm
      · exact h2
theorem rNode_back {bs} (hb : Bs (some bs)) (h : (rNode (some bs)).2 = some []) (ok : nodeOk (rNode (some bs)).1 = true) : NodeRead bs (rNode (some bs)).1 true := by
  have b1 := (rNum_bs hb)
  have b2 := rPart_bs b1.1
  have b3 := rPart_bs b2.1
  have b4 := rNum_bs b3.1
  have hks := (nodeOk_parts _ ok).2.1
  have hk1 : ∀ k ∈ (rNode (some bs)).1.kids, 1 ≤ k.2 := fun k hk => (kidsOk_mem _ hks k hk).2
  obtain ⟨k1, k2⟩ := rKids_back (r := []) (rNum (rPart (rPart (rNum (some bs)).2).2).2).1.toNat b4.1 h hk1
  have kl := rKids_len (rNum (rPart (rPart (rNum (some bs)).2).2).2).1.toNat (st := (rNum (rPart (rPart (rNum (some bs)).2).2).2).2)
  refine .inl ⟨rfl, ok, k2, ?_⟩
  unfold nodeBytes
  rw [if_pos ok]
  unfold rNode rawBytes
  simp only
  have e3 := rNum_back (st := (rPart (rPart (rNum (some bs)).2).2).2) (Prod.ext rfl k1)
  have e2 := rPart_back (st := (rPart (rNum (some bs)).2).2) b2.1 (Prod.ext rfl e3)
  have e1 := rPart_back (st := (rNum (some bs)).2) b1.1 (Prod.ext rfl e2)
  have e0 := rNum_back (st := some bs) (Prod.ext rfl e1)
  have l1 := rPart_len b1.1
  have l2 := rPart_len b2.1
  have hm : (rPart (rNum (some bs)).2).1.map (· % 256) = (rPart (rNum (some bs)).2).1 := by
    conv => rhs; rw [← List.map_id (rPart (rNum (some bs)).2).1]
    apply List.map_congr_left
    intro z hz
    have := b2.2 z hz
    simp; omega
  injection e0 with e0
  rw [hm, sb_str _ b3.2, strOfNums_size]
  have d0 : (rNum (some bs)).1 % 256 = (rNum (some bs)).1 := by omega
  have d1 : ((rPart (rNum (some bs)).2).1.length : Int) % 256 = (rPart (rNum (some bs)).2).1.length := by omega
  have d2 : ((rPart (rPart (rNum (some bs)).2).2).1.length : Int) % 256 = (rPart (rPart (rNum (some bs)).2).2).1.length := by omega
  have d3 : ((rAll (rPart (rPart (rNum (some bs)).2).2).2).1.length : Int) % 256 = (rNum (rPart (rPart (rNum (some bs)).2).2).2).1 := by
    unfold rAll
    rw [kl]; omega
  rw [d0, d1, d2, d3]
  conv => rhs; rw [e0]
  simp [rAll]

/-! what is written is read -/
theorem rByt_of (xs r : List Int) : rByt xs.length (some (xs ++ r)) = (xs, some r) := by simp [rByt]
theorem rPart_of (xs r : List Int) : rPart (some ((xs.length : Int) :: (xs ++ r))) = (xs, some r) := by
  show rByt ((xs.length : Int)).toNat (some (xs ++ r)) = _
  rw [Int.toNat_natCast]; exact rByt_of xs r
theorem rKid_of (k : Int × Int) (r : List Int) (h0 : 0 ≤ k.1 ∧ k.1 ≤ 15) (h1 : 1 ≤ k.2 ∧ k.2 ≤ 9223372036854775807) : rKid (some (kidBytes k ++ r)) = (k, some r) := by
  obtain ⟨hb1, hb2, hb3⟩ := back_of_bytes k.2 (by omega)
  have e : rByt 8 (some (nameBytes k.2 ++ r)) = (nameBytes k.2, some r) := by
    have := rByt_of (nameBytes k.2) r
    rwa [hb2] at this
  have en : rNum (some (kidBytes k ++ r)) = (k.1, some (nameBytes k.2 ++ r)) := by
    unfold kidBytes
    show (k.1 % 256, some (nameBytes k.2 ++ r)) = _
    rw [Int.emod_eq_of_lt h0.1 (by omega)]
  unfold rKid
  rw [en]
  simp only
  rw [e]
  simp only
  have : nm8 (nameBytes k.2) = k.2 := by
    unfold nm8
    rw [if_pos ⟨hb2, hb3⟩]; exact hb1
  rw [this]
theorem rKids_of (ks : List (Int × Int)) (r : List Int) (h : ∀ k ∈ ks, (0 ≤ k.1 ∧ k.1 ≤ 15) ∧ (1 ≤ k.2 ∧ k.2 ≤ 9223372036854775807)) (m : Nat) (hm : m ≤ ks.length) :
    rKids m (some (ks.flatMap kidBytes ++ r)) = (ks.take m, some ((ks.drop m).flatMap kidBytes ++ r)) := by
  induction m with
  | zero => simp [rKids]
  | succ m ih =>
    have hlt : m < ks.length := by omega
    unfold rKids
    rw [ih (by omega)]
    simp only
    rw [List.drop_eq_getElem_cons hlt, List.flatMap_cons, List.append_assoc]
    have hx := h ks[m] (List.getElem_mem hlt)
    rw [rKid_of ks[m] _ hx.1 hx.2, List.take_succ_eq_append_getElem hlt]
theorem rNode_of (nd : MNode) (bs : List Int) (h : nodeOk nd = true) (hw : NodeWf nd) (he : nodeBytes nd = bs) : rNode (some bs) = (nd, some []) := by
  have pa := (isPath_iff _).1 (nodeOk_parts nd h).1
  have ka := nodeOk_kind nd h
  have va := nodeOk_val nd h
  have ca := (nodeOk_parts nd h).2.1
  have na := kidsOk_len _ ca
  have hsb := sb_len nd.val
  have hbs : bs = nd.kind :: (nd.path.length : Int) :: (nd.path ++ (((sb nd.val).length : Int) :: (sb nd.val ++ ((nd.kids.length : Int) :: (nd.kids.flatMap kidBytes ++ []))))) := by
    rw [← he]
    unfold nodeBytes
    rw [if_pos h]
    unfold rawBytes
    rw [map_mod nd.path pa.2]
    have d0 : nd.kind % 256 = nd.kind := by omega
    have d1 : (nd.path.length : Int) % 256 = nd.path.length := by omega
    have d2 : (nd.val.size : Int) % 256 = nd.val.size := by omega
    have d3 : (nd.kids.length : Int) % 256 = nd.kids.length := by omega
    rw [d0, d1, d2, d3, hsb]
    simp
  have e0 : rNum (some bs) = (nd.kind, some ((nd.path.length : Int) :: (nd.path ++ (((sb nd.val).length : Int) :: (sb nd.val ++ ((nd.kids.length : Int) :: (nd.kids.flatMap kidBytes ++ []))))))) := by rw [hbs]; rfl
  have e1 := rPart_of nd.path (((sb nd.val).length : Int) :: (sb nd.val ++ ((nd.kids.length : Int) :: (nd.kids.flatMap kidBytes ++ []))))
  have e2 := rPart_of (sb nd.val) ((nd.kids.length : Int) :: (nd.kids.flatMap kidBytes ++ []))
  have e3 : rAll (some ((nd.kids.length : Int) :: (nd.kids.flatMap kidBytes ++ []))) = (nd.kids, some []) := by
    show rKids ((nd.kids.length : Int)).toNat (some (nd.kids.flatMap kidBytes ++ [])) = _
    rw [Int.toNat_natCast, rKids_of nd.kids [] (fun k hk => ⟨(kidsOk_mem _ ca k hk).1, (kidsOk_mem _ ca k hk).2, hw k hk⟩) _ (Nat.le_refl _)]
    simp
  unfold rNode
  rw [e0]
  simp only
  rw [e1]
  simp only
  rw [e2]
  simp only
  rw [e3, str_sb]
theorem rNode_none {bs} (h : ¬ ((rNode (some bs)).2 = some [] ∧ nodeOk (rNode (some bs)).1 = true)) : NodeRead bs node0 false :=
  .inr ⟨rfl, rfl, fun nd h1 h2 h3 => h (by rw [rNode_of nd bs h1 h2 h3]; exact ⟨rfl, h1⟩)⟩
end Go.Proofs.Ytebfinedkjlbbaa

-- ReadP: The program's reader of the bytes of a node.
namespace Go.Proofs.Ytebfinedkjlbbaa
set_option maxRecDepth 20000
set_option linter.unusedSimpArgs false
set_option linter.unusedVariables false
open Go.RowKit

/-- the reader in block g: what is left, below block B; none: it was short. -/
def Rd (w : World) (B g : Nat) (st : Option (List Int)) : Prop :=
  ∃ A n c short, Box w g 82 #[.slice A n c, .bool short] ∧ n ≤ c ∧ n ≤ 1048576 ∧ (A = none → c = 0) ∧ Byts w B A n (st.getD []) ∧ short = st.isNone ∧ (st = none → A = none)
theorem Rd.lt {w : World} {B g : Nat} {st} (h : Rd w B g st) : g < w.heap.size := by
  obtain ⟨A, n, c, s, hx, _⟩ := h
  exact hx.lt
theorem Rd.touch {w w' : World} {B g : Nat} {st} {S : Nat → Prop} (h : Rd w B g st) (t : Touch S w w') (hB : B ≤ g) (hs : ∀ k, k ≤ g → ¬ S k) : Rd w' B g st := by
  have hl := h.lt
  obtain ⟨A, n, c, s, hx, h1, h2, h3, h4, h5⟩ := h
  exact ⟨A, n, c, s, (t.block g hl (hs g (Nat.le_refl _))).trans hx, h1, h2, h3, h4.below (t.below (by omega) (fun k hk => hs k (by omega))), h5⟩
theorem Rd.below {w w' : World} {B g : Nat} {st} (h : Rd w B g st) (b : Below w.heap.size w w') (hB : B ≤ g) : Rd w' B g st :=
  h.touch (Touch.of_below (S := fun _ => False) b) hB (fun _ _ h => h)
theorem Rd.bs {w : World} {B g : Nat} {st} (h : Rd w B g st) : Bs st := by
  obtain ⟨A, n, c, s, _, _, _, _, h4, _⟩ := h
  intro ys e
  subst e
  exact h4.2.1

theorem Byts.take_ {w : World} {B n k : Nat} {A : Option Addr} {ys : List Int} (h : Byts w B A n ys) (hk : k ≤ n) : Byts w B A k (ys.take k) := by
  refine ⟨by have := h.1; simp; omega, fun z hz => h.2.1 z (List.mem_of_mem_take hz), fun hp => ?_⟩
  obtain ⟨b, off, e, hb, hc⟩ := h.2.2 (by omega)
  refine ⟨b, off, e, hb, fun i hi => ?_⟩
  rw [hc i (by omega)]
  simp [hi]
theorem Byts.drop_ {w : World} {B n k : Nat} {A : Option Addr} {ys : List Int} (h : Byts w B A n ys) (hk : k ≤ n) : Byts w B (A.map fun x => x.add k) (n - k) (ys.drop k) := by
  refine ⟨by have := h.1; simp; omega, fun z hz => h.2.1 z (List.mem_of_mem_drop hz), fun hp => ?_⟩
  obtain ⟨b, off, rfl, hb, hc⟩ := h.2.2 (by omega)
  refine ⟨b, off + k, by simp [Addr.add], hb, fun i hi => ?_⟩
  have := hc (k + i) (by omega)
  rw [Nat.add_assoc, this]
  simp
theorem rByt_ok {st} (cnt : Nat) (h : cnt ≤ (st.getD ([] : List Int)).length) : (rByt cnt st).1 = (st.getD []).take cnt ∧ (rByt cnt st).2.getD [] = (st.getD []).drop cnt ∧ (rByt cnt st).2.isNone = st.isNone := by
  rcases st with _ | ys
  · simp [rByt]
  · have h' : cnt ≤ ys.length := h
    simp [rByt, h']
theorem rByt_few {st} (cnt : Nat) (h : (st.getD ([] : List Int)).length < cnt) : rByt cnt st = ([], none) := by
  rcases st with _ | ys
  · simp [rByt]
  · have h' : ¬ cnt ≤ ys.length := by simpa using h
    simp [rByt, h']
theorem none_of_isNone {st : Option (List Int)} (h : st.isNone = true) : st = none := by cases st <;> simp_all

theorem rbytes_any (g cnt B : Nat) (st : Option (List Int)) (w : World) (hB : B ≤ g) (hcn : cnt ≤ 1048576) (h : Rd w B g st) :
    Calls Try.prog 62 #[.pointer (some ⟨g, 0, none⟩), .int .i64 cnt] w fun e w' => ∃ A n c, e = .returned (.slice A n c) ∧ n ≤ c ∧ Byts w' B A n (rByt cnt st).1 ∧ Rd w' B g (rByt cnt st).2 ∧ Touch (fun k => k = g) w w' ∧ w'.heap.size = w.heap.size := by
  have hg := h.lt
  obtain ⟨A, n, c, short, hx, hc, hn, hA, hb, hs, hst⟩ := h
  have q0 := hx.cell 0
  have q1 := hx.cell 1
  have f0 := hx.free 0
  have f1 := hx.free 1
  simp at q0 q1
  have hlen := hb.1
  have HX := Lib.hid hx
  have HB := Lib.hid hb
  have HA := Lib.hid hA
  have HS := Lib.hid hs
  have HST := Lib.hid hst
  clear hx hb hA hs hst
  by_cases hlt : n < cnt
  · have hd : decide ((n : Int) < (cnt : Int)) = true := decide_eq_true (by omega)
    have hf := Lib.hid (rByt_few (st := st) cnt (by omega))
    go_enter Try.func62, Try.ntmps62
    go_wp2
    go_ret
    rw [hf.out]
    have hx2 := (HX.out.set_ 0 (.slice none 0 0)).set_ 1 (.bool true)
    exact ⟨none, 0, 0, rfl, Nat.le_refl _, Byts.none_, ⟨none, 0, 0, true, by simpa using hx2, Nat.le_refl _, by omega, fun _ => rfl, Byts.none_, rfl, fun _ => rfl⟩, (touch_set (S := fun k => k = g) w g 0 _ rfl).trans (touch_set _ g 1 _ rfl), by simp⟩
  · have hd : decide ((n : Int) < (cnt : Int)) = false := decide_eq_false (by omega)
    have h1 : (cnt : Int) ≤ (c : Int) := by omega
    have h2 : (cnt : Int) ≤ (n : Int) := by omega
    have hok := Lib.hid (rByt_ok (st := st) cnt (by omega))
    have hle : cnt ≤ n := by omega
    go_enter Try.func62, Try.ntmps62
    go_wp2
    · subst h
      obtain rfl : n = c := by omega
      go_ret
      obtain ⟨e1, e2, e3⟩ := hok.out
      have hx2 := HX.out.set_ 0 (.slice A (n - n) 0)
      have t := touch_set (S := fun k => k = g) w g 0 (.slice A (n - n) 0) rfl
      have hb2 : Below B w (w.setCell ⟨g, 0, none⟩ (.slice A (n - n) 0)) := t.below (by omega) (fun k hk e => by omega)
      have hdr : (st.getD []).drop n = [] := List.drop_eq_nil_of_le (by omega)
      refine ⟨A, n, n, rfl, Nat.le_refl _, by rw [e1]; exact (HB.out.take_ (Nat.le_refl _)).below hb2, ⟨A, 0, 0, short, by simpa using hx2, by omega, by omega, fun _ => rfl, by rw [e2, hdr]; exact Byts.empty_at, by rw [e3]; exact HS.out, fun h => HST.out (none_of_isNone (by rw [← e3, h]; rfl))⟩, by simpa using t, by simp⟩
    · go_ret
      obtain ⟨e1, e2, e3⟩ := hok.out
      have hx2 := HX.out.set_ 0 (.slice (A.map fun x => x.add cnt) (n - cnt) (c - cnt))
      have t := touch_set (S := fun k => k = g) w g 0 (.slice (A.map fun x => x.add cnt) (n - cnt) (c - cnt)) rfl
      have hb2 : Below B w (w.setCell ⟨g, 0, none⟩ (.slice (A.map fun x => x.add cnt) (n - cnt) (c - cnt))) := t.below (by omega) (fun k hk e => by omega)
      refine ⟨A, cnt, c, rfl, by omega, by rw [e1]; exact (HB.out.take_ hle).below hb2, ⟨_, n - cnt, c - cnt, short, by simpa using hx2, by omega, by omega, fun h => ?_, by rw [e2]; exact (HB.out.drop_ hle).below hb2, by rw [e3]; exact HS.out, fun h => by rw [HST.out (none_of_isNone (by rw [← e3, h]; rfl))]; rfl⟩, t, by simp⟩
      rcases A with _ | a
      · have := HA.out rfl
        omega
      · cases h

theorem rNum_few {st} (h : (rByt 1 st).2 = none) : rNum st = (0, none) := by
  rcases st with _ | _ | ⟨y, r⟩
  · rfl
  · rfl
  · simp [rByt] at h
theorem rNum_ok {st} (h : ¬ (rByt 1 st).2 = none) : (rByt 1 st).1 = [(rNum st).1] ∧ (rByt 1 st).2 = (rNum st).2 := by
  rcases st with _ | _ | ⟨y, r⟩
  · simp [rByt] at h
  · simp [rByt] at h
  · simp [rByt, rNum]

theorem rnumber_any (g B : Nat) (st : Option (List Int)) (w : World) (hB : B ≤ g) (h : Rd w B g st) :
    Calls Try.prog 60 #[.pointer (some ⟨g, 0, none⟩)] w fun e w' => e = .returned (.int .i64 (rNum st).1) ∧ Rd w' B g (rNum st).2 ∧ Touch (fun k => k = g) w w' ∧ w'.heap.size = w.heap.size := by
  have HR := Lib.hid h
  clear h
  go_enter Try.func60, Try.ntmps60
  go_wp2_with fail
  refine (rbytes_any g 1 B st w hB (by omega) HR.out).mono ?_
  rintro e w1 ⟨A, n, c, rfl, hnc, hb, hrd, ht, hsz⟩
  have HB := Lib.hid hb
  have HD := Lib.hid hrd
  have HT := Lib.hid ht
  obtain ⟨A', n', c', short, hx, _, _, _, _, hsh, _⟩ := hrd
  have q1 := hx.cell 1
  simp at q1
  clear hb ht hx
  by_cases hn : (rByt 1 st).2 = none
  · have e0 := Lib.hid (rNum_few hn)
    rw [hn] at hsh
    subst hsh
    rw [hn] at HD
    go_wp2
    go_ret
    rw [e0.out]
    exact ⟨rfl, HD.out, HT.out, hsz⟩
  · obtain ⟨e1, e2⟩ := rNum_ok hn
    have hsf : short = false := by
      rw [hsh]
      cases h : (rByt 1 st).2 with
      | none => exact absurd h hn
      | some _ => rfl
    subst hsf
    rw [e2] at HD
    have HB2 := HB.out
    rw [e1] at HB2
    obtain rfl : n = 1 := HB2.1.symm
    obtain ⟨b, off, rfl, hbB, hc0⟩ := HB2.at_ (k := 0) (by omega)
    have hr := HB2.range 0
    rw [Nat.add_zero] at hc0
    simp only [List.getElem?_cons_zero, Option.getD_some] at hc0 hr
    generalize hzz : (rNum st).1 = z at hc0 hr e1
    have HZ := Lib.hid hzz
    have hwz : IntKind.i64.wrap z = z := by rw [IntKind.wrap_i64]; omega
    clear e1 e2 hn hsh HB2 hzz
    go_wp2
    go_ret
    exact ⟨by rw [HZ.out]; rfl, HD.out, HT.out, hsz⟩

theorem Touch.grow {S T : Nat → Prop} {w w' w'' : World} (h : Touch S w w') (k : Touch T w' w'') (hT : ∀ k, k < w.heap.size → ¬ T k) : Touch S w w'' :=
  ⟨k.os.trans h.os, k.tape.trans h.tape, k.output.trans h.output, Nat.le_trans h.size k.size, fun i hi hs => (k.block i (Nat.lt_of_lt_of_le hi h.size) (hT i hi)).trans (h.block i hi hs)⟩

set_option maxHeartbeats 800000 in
theorem rpath_any (g B : Nat) (st : Option (List Int)) (w : World) (hB : B ≤ g) (h : Rd w B g st) :
    Calls Try.prog 61 #[.pointer (some ⟨g, 0, none⟩)] w fun e w' => ∃ A n c, e = .returned (.slice A n c) ∧ OwnI w' w.heap.size A n c (rPart st).1 ∧ Rd w' B g (rPart st).2 ∧ Touch (fun k => k = g) w w' := by
  have HR := Lib.hid h
  have hg := h.lt
  have hbs := rNum_bs h.bs
  have hpb := rPart_bs h.bs
  clear h
  obtain ⟨cnt, hcnt⟩ : ∃ cnt : Nat, (rNum st).1 = cnt := ⟨(rNum st).1.toNat, by omega⟩
  have hpart : rPart st = rByt cnt (rNum st).2 := by unfold rPart; rw [hcnt, Int.toNat_natCast]
  obtain ⟨xs, st2, hps⟩ : ∃ xs st2, rPart st = (xs, st2) := ⟨_, _, rfl⟩
  rw [hps] at hpart hpb ⊢
  go_enter Try.func61, Try.ntmps61
  go_wp2_with fail
  refine (rnumber_any g B st w hB HR.out).mono ?_
  rintro e w1 ⟨rfl, hrd, ht, hsz⟩
  have HD := Lib.hid hrd
  have HT := Lib.hid ht
  clear hrd ht
  rw [hcnt]
  go_wp2_with fail
  refine (rbytes_any g cnt B _ w1 hB (by omega) HD.out).mono ?_
  rintro e w2 ⟨A, n, c, rfl, hnc, hb, hrd, ht, hsz2⟩
  rw [← hpart] at hb hrd
  have HB := Lib.hid hb
  have HD := Lib.hid hrd
  have HT := Lib.hid (HT.out.trans ht)
  have hn : n ≤ 255 := by
    have h1 := rByt_len (st := (rNum st).2) cnt
    rw [← hpart] at h1
    have := hb.1
    simp only at h1 this
    omega
  have LN : Hid (xs.length = n) := hb.1
  clear hrd ht hb hpart hps
  obtain ⟨i0, hi, hz0, hz1, hz2⟩ := info_parts Try.infoI
  have HI := Lib.hid hi
  have HZ0 := Lib.hid hz0
  have HZ1 := Lib.hid hz1
  have HZ2 := Lib.hid hz2
  clear hi hz0 hz1 hz2
  go_wp2
  go_loopw [3, 11] (fun p i wr => ∃ k : Nat, ∃ Ap cp, k ≤ n ∧ i = .int .i64 k ∧ p = .slice Ap k cp ∧ OwnI wr w.heap.size Ap k cp (xs.take k) ∧ Rd wr B g st2 ∧ Touch (fun k => k = g) w wr ∧ Byts wr B A n xs) (fun _ i _ => n - (intOf i).toNat)
  case atStart => exact ⟨0, none, 0, Nat.zero_le _, rfl, rfl, OwnI.nil _ _, HD.out, HT.out, HB.out⟩
  case round =>
    obtain ⟨k, Ap, cp, hk, rfl, rfl, hown, hrd, ht, hby⟩ := hrel
    have MR := Lib.hid hown
    have RR := Lib.hid hrd
    have TR := Lib.hid ht
    have YR := Lib.hid hby
    have srw := ht.size
    clear hown hrd ht hby
    by_cases hlt : k < n
    · obtain ⟨b, o, rfl, hbb, hc0⟩ := YR.out.at_ hlt
      have hrr := YR.out.range k
      have hst := take_step xs k (by rw [LN.out]; exact hlt)
      generalize xs[k]?.getD 0 = z at hc0 hrr hst
      have HST := Lib.hid hst
      clear hst
      have hwz : IntKind.i64.wrap z = z := by rw [IntKind.wrap_i64]; omega
      go_wp2_with (at_builtin; refine wpList_append_lies _ rfl _ _ 23 rfl w.heap.size 2 i0 (.int .i64 0) 1 8 Try.underlying23 HI.out HZ0.out HZ1.out HZ2.out rfl (by decide) _ _ _ rfl (MR.out.alloc _) ⟨wr.heap.size, 0, none⟩ 1 1 ([z].map (Value.int .i64)) rfl ?a0 ?a1 ?a2 (by omega) ?a3 ?a4 ?a5 _ rfl ?_)
      case a0 => first | rfl | (simp; done)
      case a1 =>
        intro j u hj
        match j, hj with
        | 0, hj => simp at hj; subst hj; simp [Addr.add]
      case a2 => intro u hu; simp at hu; subst hu; rfl
      case a3 => unfold maxLen; omega
      case a4 => omega
      case a5 => simp; omega
      intro g2 c2 w2 hown2 hgrow2 _ _
      have t2 : Touch (fun j => some j = (Value.slice Ap k cp).ownBlock) wr w2 := (Touch.of_below ((Below.refl _ _).alloc (Nat.le_refl _) _)).trans (Touch.of_grown hgrow2)
      have hge : ∀ j, j < w.heap.size → ¬ some j = (Value.slice Ap k cp).ownBlock := fun j hj e => by have := (World.ownsRow.lt MR.out j e.symm).1; omega
      have R2 := Lib.hid (RR.out.touch t2 hB (fun j hj => hge j (by omega)))
      have Y2 := Lib.hid (YR.out.below (t2.below (by omega) (fun j hj => hge j (by omega))))
      have T2 := Lib.hid (TR.out.grow t2 hge)
      have M2 : OwnI w2 w.heap.size (some ⟨g2, 0, none⟩) (k + 1) c2 (xs.take (k + 1)) := by
        rw [HST.out]
        unfold OwnI
        rw [List.map_append]
        simpa using hown2
      have M2 := Lib.hid M2
      clear t2 hge hown2 hgrow2
      go_wp2
      go_roundw
      case rel => exact ⟨k + 1, _, _, by omega, by go_num, rfl, M2.out, R2.out, T2.out, Y2.out⟩
      case measure => simp [intOf]; omega
    · obtain rfl : k = n := by omega
      have hst : xs.take k = xs := List.take_of_length_le (by rw [LN.out]; exact Nat.le_refl _)
      rw [hst] at MR
      go_wp2
      go_ret
      exact ⟨_, _, _, rfl, MR.out, RR.out, TR.out⟩
end Go.Proofs.Ytebfinedkjlbbaa

-- PathK: What the program's KeyOf answers: for every list of numbers.
namespace Go.Proofs.Ytebfinedkjlbbaa
set_option maxRecDepth 20000
open Go.RowKit

theorem isWorth_any (x : Int) (w : World) :
    Calls Try.prog 120 #[.int .i64 x] w fun e w' => e = .returned (.bool (decide (0 ≤ x ∧ x ≤ 15))) ∧ w' = w := by
  go_enter Try.func120, Try.ntmps120
  by_cases h : 0 ≤ x
  · go_wp2
    go_ret
    exact ⟨ret_b (decide_eq_decide.2 (by omega)), rfl⟩
  · go_wp2
    go_ret
    exact ⟨ret_b (by simp; omega), rfl⟩

theorem keyOf_any (A : Option Addr) (n c : Nat) (ps : List Int) (B : Nat) (w : World) (hn : n ≤ 1048576) (hB : B ≤ w.heap.size) (hp : Ints w B A n ps) :
    Calls Try.prog 80 #[.slice A n c] w fun e w' => e = .returned (.string (strOfNums (keyOf ps))) ∧ Below w.heap.size w w' := by
  have HP := Lib.hid hp
  clear hp
  by_cases hl : 8 < n
  · have hr := Lib.hid (keyOf_long ps (by have := HP.out.1; omega))
    go_enter Try.func80, Try.ntmps80
    go_wp2
    go_ret
    exact ⟨by rw [hr.out]; rfl, Below.refl _ _⟩
  · have hL : (ps.map dig).length = n := by rw [List.length_map]; exact HP.out.1
    have HM := Lib.hid (make_bytes (ps.map dig) n (by omega))
    go_enter Try.func80, Try.ntmps80
    have hmk := HM.out
    go_wp2
    clear hmk
    go_loopw [14] (fun i wr => ∃ k : Nat, k ≤ n ∧ i = .int .i64 k ∧ (∀ z ∈ ps.take k, 0 ≤ z ∧ z ≤ 15) ∧ wr = w.alloc (.cells (filled (ps.map dig) n k) 5)) (fun i _ => n - (intOf i).toNat)
    case atStart => exact ⟨0, Nat.zero_le _, rfl, by simp, rfl⟩
    case round =>
      obtain ⟨k, hk, rfl, hgood, rfl⟩ := hrel
      by_cases hlt : k < n
      · obtain ⟨b, off, rfl, hbB, hc⟩ := HP.out.at_ hlt
        have hbw : b < w.heap.size := by omega
        generalize hz : ps[k]?.getD 0 = z at hc
        have hg : (filled (ps.map dig) n k)[k]? = some (.int .u8 0) := filled_at _ n k hL hlt
        by_cases hq : 0 ≤ z ∧ z ≤ 15
        · have hd : decide (0 ≤ z ∧ z ≤ 15) = true := decide_eq_true hq
          obtain ⟨hq0, hq1⟩ := hq
          have hz16 : z < 16 := by omega
          have hst := filled_set (ps.map dig) n k hL hlt
          rw [map_at dig ps k (by have := HP.out.1; omega), hz] at hst
          have HS := Lib.hid hst
          clear hst
          go_wp2_with fail
          refine (isWorth_any _ _).mono ?_
          rintro e w' ⟨rfl, rfl⟩
          rw [hd]
          go_wp2
          go_roundw
          case rel => exact ⟨k + 1, by omega, by go_num, path_step ps k (by have := HP.out.1; omega) hgood (by rw [hz]; omega), by rw [← HS.out, ← dig_lit z (by omega) (by omega) (by show z.toNat < 16; omega)]; rfl⟩
          case measure => simp [intOf]; omega
        · have hd : decide (0 ≤ z ∧ z ≤ 15) = false := decide_eq_false hq
          go_wp2_with fail
          refine (isWorth_any _ _).mono ?_
          rintro e w' ⟨rfl, rfl⟩
          rw [hd]
          go_wp2
          go_ret
          exact ⟨by rw [keyOf_bad ps k (by have := HP.out.1; omega) (by rw [hz]; exact hq)]; rfl, (Below.refl _ _).alloc (Nat.le_refl _) _⟩
      · obtain rfl : k = n := by omega
        have e : ps.take k = ps := List.take_of_length_le (by have := HP.out.1; omega)
        rw [e] at hgood
        rw [filled_all _ k hL]
        have hb := Byts.new (w := w.alloc (.cells (u8s (ps.map dig)) 5)) hL (fun y hy => by
          obtain ⟨p, hp, rfl⟩ := List.mem_map.1 hy
          have := dig_bd p (hgood p hp)
          omega) (heap_alloc_new _ _)
        have hcv := conv_bytes _ k k _ _ _ hb
        go_wp2
        go_ret
        exact ⟨by rw [keyOf_good ps (by have := HP.out.1; omega) hgood]; rfl, (Below.refl _ _).alloc (Nat.le_refl _) _⟩
end Go.Proofs.Ytebfinedkjlbbaa

-- NodeP: What the program's ValueOk and NodeOk answer, and their helpers: for every text, every node.
namespace Go.Proofs.Ytebfinedkjlbbaa
set_option maxRecDepth 20000
open Go.RowKit

theorem isValueByte_any (c : Int) (w : World) :
    Calls Try.prog 85 #[.int .u8 c] w fun e w' => e = .returned (.bool (okLetter c)) ∧ w' = w := by
  have hcls : (97 ≤ c ∧ c ≤ 122) ∨ (48 ≤ c ∧ c ≤ 57) ∨ c < 48 ∨ (57 < c ∧ c < 97) ∨ 122 < c := by omega
  go_enter Try.func85, Try.ntmps85
  rcases hcls with ⟨h1, h2⟩ | ⟨h1, h2⟩ | h1 | ⟨h1, h2⟩ | h1
  · have d1 : decide ((97 : Int) ≤ c) = true := decide_eq_true (by omega)
    have d2 : decide (c ≤ 122) = true := decide_eq_true (by omega)
    go_wp2
    go_ret
    exact ⟨ret_b (by unfold okLetter; exact (decide_eq_true (by omega)).symm), rfl⟩
  · have d1 : decide ((97 : Int) ≤ c) = false := decide_eq_false (by omega)
    have d3 : decide ((48 : Int) ≤ c) = true := decide_eq_true (by omega)
    have d4 : decide (c ≤ 57) = true := decide_eq_true (by omega)
    go_wp2
    go_ret
    exact ⟨ret_b (by unfold okLetter; exact (decide_eq_true (by omega)).symm), rfl⟩
  · have d1 : decide ((97 : Int) ≤ c) = false := decide_eq_false (by omega)
    have d3 : decide ((48 : Int) ≤ c) = false := decide_eq_false (by omega)
    go_wp2
    go_ret
    exact ⟨ret_b (by unfold okLetter; exact (decide_eq_false (by omega)).symm), rfl⟩
  · have d1 : decide ((97 : Int) ≤ c) = false := decide_eq_false (by omega)
    have d3 : decide ((48 : Int) ≤ c) = true := decide_eq_true (by omega)
    have d4 : decide (c ≤ 57) = false := decide_eq_false (by omega)
    go_wp2
    go_ret
    exact ⟨ret_b (by unfold okLetter; exact (decide_eq_false (by omega)).symm), rfl⟩
  · have d1 : decide ((97 : Int) ≤ c) = true := decide_eq_true (by omega)
    have d2 : decide (c ≤ 122) = false := decide_eq_false (by omega)
    have d3 : decide ((48 : Int) ≤ c) = true := decide_eq_true (by omega)
    have d4 : decide (c ≤ 57) = false := decide_eq_false (by omega)
    go_wp2
    go_ret
    exact ⟨ret_b (by unfold okLetter; exact (decide_eq_false (by omega)).symm), rfl⟩

theorem valOk_size (zs : List Int) (h : zs.length = 0 ∨ 12 < zs.length) : valOk zs = false := by
  unfold valOk
  rw [decide_eq_false (by omega), Bool.false_and]

theorem valueOk_any (s : ByteArray) (w : World) (hs : s.size ≤ 1048576) :
    Calls Try.prog 28 #[.string s] w fun e w' => e = .returned (.bool (valOk (sb s))) ∧ w' = w := by
  have hlen := sb_len s
  go_enter Try.func28, Try.ntmps28
  by_cases h0 : s.size = 0
  · have d1 : decide ((s.size : Int) = 0) = true := decide_eq_true (by omega)
    go_wp2
    go_ret
    exact ⟨by rw [valOk_size (sb s) (by omega)]; rfl, rfl⟩
  · have d1 : decide ((s.size : Int) = 0) = false := decide_eq_false (by omega)
    have d0 : ((s.size : Int) == 0) = false := d1
    by_cases h12 : 12 < s.size
    · have d2 : decide ((12 : Int) < (s.size : Int)) = true := decide_eq_true (by omega)
      go_wp2
      go_ret
      exact ⟨by rw [valOk_size (sb s) (by omega)]; rfl, rfl⟩
    · have d2 : decide ((12 : Int) < (s.size : Int)) = false := decide_eq_false (by omega)
      go_wp2
      go_loop [14] (fun i => ∃ k : Nat, k ≤ s.size ∧ i = .int .i64 k ∧ (∀ z ∈ (sb s).take k, okLetter z = true)) (fun i => s.size - (intOf i).toNat)
      case atStart => exact ⟨0, Nat.zero_le _, rfl, by simp⟩
      case round =>
        obtain ⟨k, hk, rfl, hgood⟩ := hrel
        by_cases hlt : k < s.size
        · have hat := sb_at s k hlt
          have HAT := Lib.hid hat
          clear hat
          by_cases hq : okLetter ((s[k]'hlt).toNat : Int) = true
          · go_wp2_with fail
            refine (isValueByte_any _ _).mono ?_
            rintro e w' ⟨rfl, rfl⟩
            rw [hq]
            go_wp2
            go_round
            case rel => exact ⟨k + 1, by omega, by go_num, letters_step (sb s) k (by omega) hgood (by rw [HAT.out]; exact hq)⟩
            case measure => simp [intOf]; omega
          · have hq : okLetter ((s[k]'hlt).toNat : Int) = false := by simpa using hq
            go_wp2_with fail
            refine (isValueByte_any _ _).mono ?_
            rintro e w' ⟨rfl, rfl⟩
            rw [hq]
            go_wp2
            go_ret
            exact ⟨by rw [valOk_bad (sb s) k (by omega) (by rw [HAT.out]; exact hq)]; rfl, rfl⟩
        · have e : (sb s).take k = sb s := List.take_of_length_le (by omega)
          rw [e] at hgood
          have HG := Lib.hid (valOk_good (sb s) hgood)
          go_wp2
          go_ret
          exact ⟨by rw [HG.out]; exact ret_b (by rw [hlen]; exact (decide_eq_true (by omega)).symm), rfl⟩

/-- where the kid ahead of the k-th stands. -/
def lastAt (ks : List (Int × Int)) (k : Nat) : Int := if k = 0 then -1 else (ks[k - 1]?.getD (0, 0)).1
theorem lastAt_succ (ks : List (Int × Int)) (k : Nat) : lastAt ks (k + 1) = (ks[k]?.getD (0, 0)).1 := by
  unfold lastAt; rw [if_neg (by omega), Nat.add_sub_cancel]
theorem kidAt_of (ks : List (Int × Int)) (k : Nat) (h1 : ¬ (ks[k]?.getD (0, 0)).1 ≤ lastAt ks k) (h2 : 0 ≤ (ks[k]?.getD (0, 0)).1 ∧ (ks[k]?.getD (0, 0)).1 ≤ 15) (h3 : ¬ (ks[k]?.getD (0, 0)).2 ≤ 0) : KidAt ks k := by
  refine ⟨h2, by omega, fun h0 => ?_⟩
  unfold lastAt at h1
  rw [if_neg (by omega)] at h1
  omega
theorem kidAt_not (ks : List (Int × Int)) (k : Nat) (h : (ks[k]?.getD (0, 0)).1 ≤ lastAt ks k ∨ ¬ (0 ≤ (ks[k]?.getD (0, 0)).1 ∧ (ks[k]?.getD (0, 0)).1 ≤ 15) ∨ (ks[k]?.getD (0, 0)).2 ≤ 0) : ¬ KidAt ks k := by
  rintro ⟨h2, h3, h4⟩
  rcases h with h | h | h
  · unfold lastAt at h
    by_cases h0 : k = 0
    · rw [if_pos h0] at h; omega
    · rw [if_neg h0] at h
      have := h4 (by omega)
      omega
  · exact h h2
  · omega

set_option maxHeartbeats 1000000 in
theorem kidsOkP_any (A : Option Addr) (n c : Nat) (ks : List (Int × Int)) (B : Nat) (w : World) (hB : B ≤ w.heap.size) (hn : n ≤ 9223372036854775807) (hb : Kids w B A n ks) :
    Calls Try.prog 81 #[.slice A n c] w fun e w' => e = .returned (.bool (kidsOk ks)) ∧ Below w.heap.size w w' := by
  have HB := Lib.hid (hb.more hB)
  have hlen := hb.1
  clear hb
  go_enter Try.func81, Try.ntmps81
  go_wp2
  go_loopw [3, 8] (fun l i wr => ∃ k : Nat, k ≤ n ∧ i = .int .i64 k ∧ l = .int .i64 (lastAt ks k) ∧ (∀ j, j < k → KidAt ks j) ∧ Below w.heap.size w wr) (fun _ i _ => n - (intOf i).toNat)
  case atStart => exact ⟨0, Nat.zero_le _, rfl, rfl, fun j hj => absurd hj (by omega), Below.refl _ _⟩
  case round =>
    obtain ⟨k, hk, rfl, rfl, hgood, hbel⟩ := hrel
    by_cases hlt : k < n
    · obtain ⟨b, off, rfl, hbB, h0, h1⟩ := (HB.out.below hbel).at_ hlt
      have hls := lastAt_succ ks k
      have hyes := kidAt_of ks k
      have hno := kidAt_not ks k
      generalize ks[k]?.getD (0, 0) = x at h0 h1 hls hyes hno
      generalize lastAt ks k = l at hyes hno ⊢
      have LS := Lib.hid hls
      have HY := Lib.hid hyes
      have HN := Lib.hid hno
      have hsz := hbel.size
      have b1 := Lib.hid (hbel.alloc hsz (.cells #[.int .i64 x.1, .int .i64 x.2] 80))
      clear hls hyes hno hbel
      by_cases hR : x.1 ≤ l
      · have d1 : decide (x.1 ≤ l) = true := decide_eq_true hR
        go_wp2
        go_ret
        exact ⟨by rw [kidsOk_bad ks k (by omega) (HN.out (.inl hR))]; rfl, b1.out⟩
      · have d1 : decide (x.1 ≤ l) = false := decide_eq_false hR
        by_cases hA : 0 ≤ x.1 ∧ x.1 ≤ 15
        · have d2 : decide (0 ≤ x.1 ∧ x.1 ≤ 15) = true := decide_eq_true hA
          by_cases hN : x.2 ≤ 0
          · have d3 : decide (x.2 ≤ 0) = true := decide_eq_true hN
            go_wp2_with fail
            refine (isWorth_any _ _).mono ?_
            rintro e w' ⟨rfl, rfl⟩
            rw [d2]
            go_wp2
            go_ret
            exact ⟨by rw [kidsOk_bad ks k (by omega) (HN.out (.inr (.inr hN)))]; rfl, b1.out⟩
          · have d3 : decide (x.2 ≤ 0) = false := decide_eq_false hN
            go_wp2_with fail
            refine (isWorth_any _ _).mono ?_
            rintro e w' ⟨rfl, rfl⟩
            rw [d2]
            go_wp2
            go_roundw
            case rel =>
              refine ⟨k + 1, by omega, by go_num, by rw [LS.out], fun j hj => ?_, b1.out⟩
              rcases Nat.lt_or_ge j k with h | h
              · exact hgood j h
              · rw [show j = k by omega]
                exact HY.out hR hA hN
            case measure => simp [intOf]; omega
        · have d2 : decide (0 ≤ x.1 ∧ x.1 ≤ 15) = false := decide_eq_false hA
          go_wp2_with fail
          refine (isWorth_any _ _).mono ?_
          rintro e w' ⟨rfl, rfl⟩
          rw [d2]
          go_wp2
          go_ret
          exact ⟨by rw [kidsOk_bad ks k (by omega) (HN.out (.inr (.inl hA)))]; rfl, b1.out⟩
    · go_wp2
      go_ret
      exact ⟨by rw [kidsOk_good ks (fun i hi => hgood i (by omega))]; rfl, hbel⟩
end Go.Proofs.Ytebfinedkjlbbaa

-- Allows: What the program's NodeOk answers, and the helper that asks whether a kind allows its parts: for every node.
namespace Go.Proofs.Ytebfinedkjlbbaa
set_option maxRecDepth 20000
set_option linter.unusedSimpArgs false
open Go.RowKit

set_option maxHeartbeats 1600000 in      -- one walk, the ways through a switch of three
theorem allows_any (v : Value) (nd : MNode) (B : Nat) (w : World) (hB : B ≤ w.heap.size) (hv : NodeIn w B v nd) :
    Calls Try.prog 82 #[.int .i64 nd.kind, v] w fun e w' => e = .returned (.bool (kindOk nd)) ∧ Below w.heap.size w w' := by
  obtain ⟨Ap, np, cp, Ak, nk, ck, rfl, hnp, hnk, hsz, hp, hk⟩ := hv
  obtain ⟨kind, path, kids, val⟩ := nd
  have HK := Lib.hid (hk.more hB)
  have LP : Hid (path.length = np) := hp.1
  have LK : Hid (kids.length = nk) := hk.1
  have BW := fun m => Lib.hid (below_drewN ((Below.refl w.heap.size w).alloc (Nat.le_refl _) (.cells #[.int .i64 kind, .slice Ap np cp, .slice Ak nk ck, .string val] 26)) m)
  clear hp hk hsz
  go_enter Try.func82, Try.ntmps82
  by_cases hE : val.toList = []
  · obtain rfl := empty_str val hE
    clear hE
    by_cases hk1 : kind = 1
    · obtain rfl := hk1
      by_cases hz : nk = 0
      · obtain rfl := hz
        go_wp2
        go_quiet (fail)
        go_wp2
        go_ret
        exact ⟨ret_b (by simp [kindOk, hasVal, LP.out, LK.out]), (BW _).out⟩
      · have hd : decide ((nk : Int) = 0) = false := decide_eq_false (by omega)
        have hd0 : ((nk : Int) == 0) = false := hd
        go_wp2
        go_quiet (fail)
        go_wp2
        go_ret
        exact ⟨ret_b (by simp [kindOk, hasVal, LP.out, LK.out, hz]), (BW _).out⟩
    · by_cases hk2 : kind = 2
      · obtain rfl := hk2
        by_cases hz : np = 0
        · obtain rfl := hz
          go_wp2
          go_quiet (fail)
          go_wp2
          go_ret
          exact ⟨ret_b (by simp [kindOk, hasVal, LP.out, LK.out]), (BW _).out⟩
        · have hd : decide ((0 : Int) < (np : Int)) = true := decide_eq_true (by omega)
          have hz' : 0 < np := by omega
          by_cases hz1 : nk = 1
          · obtain rfl := hz1
            obtain ⟨b, off, rfl, hbB, p0, p1⟩ := HK.out.at_ (k := 0) (by omega)
            rw [Nat.zero_mul, Nat.add_zero] at p0 p1
            have hbw : b < w.heap.size := hbB
            have hx : ∃ x, kids[0]?.getD (0, 0) = x := ⟨_, rfl⟩
            obtain ⟨x, hx⟩ := hx
            rw [hx] at p0 p1
            have HX : Hid (at0 kids = x.1) := by unfold at0; rw [hx]; rfl
            clear hx
            go_wp2
            go_quiet (fail)
            go_wp2
            go_ret
            exact ⟨ret_b (by simp [kindOk, hasVal, LP.out, LK.out, hz']; rw [HX.out]; rfl), (BW _).out⟩
          · have hd1 : decide ((nk : Int) = 1) = false := decide_eq_false (by omega)
            have hd2 : ((nk : Int) == 1) = false := hd1
            go_wp2
            go_quiet (fail)
            go_wp2
            go_ret
            exact ⟨ret_b (by simp [kindOk, hasVal, LP.out, LK.out, hz', hz1]), (BW _).out⟩
      · by_cases hk3 : kind = 3
        · obtain rfl := hk3
          by_cases hz : np = 0
          · obtain rfl := hz
            by_cases hm : 1 < nk
            · have hd : decide ((1 : Int) < (nk : Int)) = true := decide_eq_true (by omega)
              go_wp2
              go_quiet (fail)
              go_wp2
              go_ret
              exact ⟨ret_b (by simp [kindOk, hasVal, LP.out, LK.out]; omega), (BW _).out⟩
            · have hd : decide ((1 : Int) < (nk : Int)) = false := decide_eq_false (by omega)
              by_cases hz1 : nk = 1
              · obtain rfl := hz1
                go_wp2
                go_quiet (fail)
                go_wp2
                go_ret
                exact ⟨ret_b (by simp [kindOk, hasVal, LP.out, LK.out]), (BW _).out⟩
              · obtain rfl : nk = 0 := by omega
                go_wp2
                go_quiet (fail)
                go_wp2
                go_ret
                exact ⟨ret_b (by simp [kindOk, hasVal, LP.out, LK.out]), (BW _).out⟩
          · have hd : decide ((np : Int) = 0) = false := decide_eq_false (by omega)
            have hd0 : ((np : Int) == 0) = false := hd
            go_wp2
            go_quiet (fail)
            go_wp2
            go_ret
            exact ⟨ret_b (by simp [kindOk, hasVal, LP.out, LK.out, hz]), (BW _).out⟩
        · have d1 : decide (kind = 1) = false := decide_eq_false hk1
          have d2 : decide (kind = 2) = false := decide_eq_false hk2
          have d3 : decide (kind = 3) = false := decide_eq_false hk3
          go_wp2
          go_quiet (fail)
          go_wp2
          go_ret
          exact ⟨ret_b (by simp [kindOk, hasVal, LP.out, LK.out, hk1, hk2, hk3]), (BW _).out⟩
  · have hE2 : val.toList.isEmpty = false := by simpa using hE
    by_cases hk1 : kind = 1
    · obtain rfl := hk1
      by_cases hz : nk = 0
      · obtain rfl := hz
        go_wp2
        go_quiet (fail)
        go_wp2
        go_ret
        exact ⟨ret_b (by simp [kindOk, hasVal, LP.out, LK.out, hE2]), (BW _).out⟩
      · have hd : decide ((nk : Int) = 0) = false := decide_eq_false (by omega)
        have hd0 : ((nk : Int) == 0) = false := hd
        go_wp2
        go_quiet (fail)
        go_wp2
        go_ret
        exact ⟨ret_b (by simp [kindOk, hasVal, LP.out, LK.out, hE2, hz]), (BW _).out⟩
    · by_cases hk2 : kind = 2
      · obtain rfl := hk2
        by_cases hz : np = 0
        · obtain rfl := hz
          go_wp2
          go_quiet (fail)
          go_wp2
          go_ret
          exact ⟨ret_b (by simp [kindOk, hasVal, LP.out, LK.out, hE2]), (BW _).out⟩
        · have hd : decide ((0 : Int) < (np : Int)) = true := decide_eq_true (by omega)
          have hz' : 0 < np := by omega
          go_wp2
          go_quiet (fail)
          go_wp2
          go_ret
          exact ⟨ret_b (by simp [kindOk, hasVal, LP.out, LK.out, hE2]), (BW _).out⟩
      · by_cases hk3 : kind = 3
        · obtain rfl := hk3
          by_cases hz : np = 0
          · obtain rfl := hz
            by_cases hm : 1 < nk
            · have hd : decide ((1 : Int) < (nk : Int)) = true := decide_eq_true (by omega)
              go_wp2
              go_quiet (fail)
              go_wp2
              go_ret
              exact ⟨ret_b (by simp [kindOk, hasVal, LP.out, LK.out, hE2]; omega), (BW _).out⟩
            · have hd : decide ((1 : Int) < (nk : Int)) = false := decide_eq_false (by omega)
              by_cases hz1 : nk = 1
              · obtain rfl := hz1
                go_wp2
                go_quiet (fail)
                go_wp2
                go_ret
                exact ⟨ret_b (by simp [kindOk, hasVal, LP.out, LK.out, hE2]), (BW _).out⟩
              · obtain rfl : nk = 0 := by omega
                go_wp2
                go_quiet (fail)
                go_wp2
                go_ret
                exact ⟨ret_b (by simp [kindOk, hasVal, LP.out, LK.out, hE2]), (BW _).out⟩
          · have hd : decide ((np : Int) = 0) = false := decide_eq_false (by omega)
            have hd0 : ((np : Int) == 0) = false := hd
            go_wp2
            go_quiet (fail)
            go_wp2
            go_ret
            exact ⟨ret_b (by simp [kindOk, hasVal, LP.out, LK.out, hE2, hz]), (BW _).out⟩
        · have d1 : decide (kind = 1) = false := decide_eq_false hk1
          have d2 : decide (kind = 2) = false := decide_eq_false hk2
          have d3 : decide (kind = 3) = false := decide_eq_false hk3
          go_wp2
          go_quiet (fail)
          go_wp2
          go_ret
          exact ⟨ret_b (by simp [kindOk, hasVal, LP.out, LK.out, hE2, hk1, hk2, hk3]), (BW _).out⟩
end Go.Proofs.Ytebfinedkjlbbaa

-- NodeQ: What the program's NodeOk answers: for every node.
namespace Go.Proofs.Ytebfinedkjlbbaa
set_option maxRecDepth 20000
set_option linter.unusedSimpArgs false
open Go.RowKit

theorem key_no (ps : List Int) (h : isPath ps = false) : strOfNums (keyOf ps) = { data := #[] } := by
  unfold keyOf
  rw [if_neg (by rw [h]; decide)]
  rfl
theorem key_yes (ps : List Int) (h : isPath ps = true) (hn : 0 < ps.length) : (strOfNums (keyOf ps)).toList.isEmpty = false := by
  obtain ⟨h1, h2⟩ := (isPath_iff ps).1 h
  rw [keyOf_good ps h1 h2]
  rcases hb : (strOfNums (ps.map dig)).toList.isEmpty with _ | _
  · rfl
  · have e := empty_str _ (by simpa using hb)
    have hs := strOfNums_size (ps.map dig)
    rw [e, List.length_map] at hs
    have h0 : (ByteArray.mk #[]).size = 0 := rfl
    omega

set_option maxHeartbeats 1600000 in      -- one walk, the ways through four tests
theorem progNodeOk_any (v : Value) (nd : MNode) (B : Nat) (w : World) (hB : B ≤ w.heap.size) (hv : NodeIn w B v nd) :
    Calls Try.prog 26 #[v] w fun e w' => e = .returned (.bool (nodeOk nd)) ∧ Below w.heap.size w w' := by
  have HN : Hid (∀ W, Below w.heap.size w W → NodeIn W w.heap.size v nd) := fun W hW => (hv.more hB).below hW
  obtain ⟨Ap, np, cp, Ak, nk, ck, rfl, hnp, hnk, hsz, hp, hk⟩ := hv
  obtain ⟨kind, path, kids, val⟩ := nd
  have HP := Lib.hid (hp.more hB)
  have HK := Lib.hid (hk.more hB)
  have LP : Hid (path.length = np) := hp.1
  have LK : Hid (kids.length = nk) := hk.1
  have SV := Lib.hid hsz
  have b0 := (Below.refl w.heap.size w).alloc (Nat.le_refl _) (.cells #[.int .i64 kind, .slice Ap np cp, .slice Ak nk ck, .string val] 26)
  have xb : Box (w.alloc (.cells #[.int .i64 kind, .slice Ap np cp, .slice Ak nk ck, .string val] 26)) w.heap.size _ _ := heap_alloc_new _ _
  have XB := Lib.hid xb
  have B0 := Lib.hid b0
  clear hp hk hsz b0 xb
  go_enter Try.func26, Try.ntmps26
  have q0 := XB.out.cell 0
  have q1 := XB.out.cell 1
  have q2 := XB.out.cell 2
  have q3 := XB.out.cell 3
  simp at q0 q1 q2 q3
  by_cases h0 : np = 0
  · obtain rfl := h0
    have h1 : isPath path = true := by rw [List.eq_nil_of_length_eq_zero LP.out]; rfl
    by_cases hE : val.toList = []
    · obtain rfl := empty_str val hE
      clear hE
      go_wp2_with fail
      refine (kidsOkP_any _ _ _ kids _ _ B0.out.size (by omega) (HK.out.below B0.out)).mono ?_
      rintro e w3 ⟨rfl, b3⟩
      have XB := Lib.hid (XB.out.below b3 XB.out.lt)
      have B3 := Lib.hid (B0.out.trans (b3.mono B0.out.size))
      clear b3 q0 q1 q2 q3
      have q0 := XB.out.cell 0
      have q1 := XB.out.cell 1
      have q2 := XB.out.cell 2
      have q3 := XB.out.cell 3
      simp at q0 q1 q2 q3
      by_cases h2 : kidsOk kids = true
      · rw [h2]
        go_wp2_with fail
        refine (allows_any _ ⟨kind, path, kids, { data := #[] }⟩ _ _ (B3.out.size) (HN.out _ B3.out)).mono ?_
        rintro e w9 ⟨rfl, b9⟩
        go_wp2
        go_ret
        exact ⟨ret_b (by simp [nodeOk, hasVal, h1, h2]), B3.out.trans (b9.mono B3.out.size)⟩
      · have h2 : kidsOk kids = false := by simpa using h2
        rw [h2]
        go_wp2
        go_ret
        exact ⟨ret_b (by simp [nodeOk, hasVal, h1, h2]), B3.out⟩
    · have hE2 : val.toList.isEmpty = false := by simpa using hE
      go_wp2_with fail
      refine (valueOk_any val _ SV.out).mono ?_
      rintro e w' ⟨rfl, rfl⟩
      by_cases h3 : valOk (sb val) = true
      · rw [h3]
        go_wp2_with fail
        refine (kidsOkP_any _ _ _ kids _ _ B0.out.size (by omega) (HK.out.below B0.out)).mono ?_
        rintro e w3 ⟨rfl, b3⟩
        have XB := Lib.hid (XB.out.below b3 XB.out.lt)
        have B3 := Lib.hid (B0.out.trans (b3.mono B0.out.size))
        clear b3 q0 q1 q2 q3
        have q0 := XB.out.cell 0
        have q1 := XB.out.cell 1
        have q2 := XB.out.cell 2
        have q3 := XB.out.cell 3
        simp at q0 q1 q2 q3
        by_cases h2 : kidsOk kids = true
        · rw [h2]
          go_wp2_with fail
          refine (allows_any _ ⟨kind, path, kids, val⟩ _ _ (B3.out.size) (HN.out _ B3.out)).mono ?_
          rintro e w9 ⟨rfl, b9⟩
          go_wp2
          go_ret
          exact ⟨ret_b (by simp [nodeOk, hasVal, h1, hE2, h3, h2]), B3.out.trans (b9.mono B3.out.size)⟩
        · have h2 : kidsOk kids = false := by simpa using h2
          rw [h2]
          go_wp2
          go_ret
          exact ⟨ret_b (by simp [nodeOk, hasVal, h1, hE2, h3, h2]), B3.out⟩
      · have h3 : valOk (sb val) = false := by simpa using h3
        rw [h3]
        go_wp2
        go_ret
        exact ⟨ret_b (by simp [nodeOk, hasVal, h1, hE2, h3]), B0.out⟩
  · have d0 : decide ((np : Int) = 0) = false := decide_eq_false (by omega)
    have d1 : ((np : Int) == 0) = false := d0
    go_wp2_with fail
    refine (keyOf_any _ _ _ path _ _ hnp B0.out.size (HP.out.below B0.out)).mono ?_
    rintro e w1 ⟨rfl, b1⟩
    have XB := Lib.hid (XB.out.below b1 XB.out.lt)
    have B1 := Lib.hid (B0.out.trans (b1.mono B0.out.size))
    clear b1 q0 q1 q2 q3
    have q0 := XB.out.cell 0
    have q1 := XB.out.cell 1
    have q2 := XB.out.cell 2
    have q3 := XB.out.cell 3
    simp at q0 q1 q2 q3
    by_cases h1 : isPath path = true
    · have hy := key_yes path h1 (by have := LP.out; omega)
      generalize strOfNums (keyOf path) = s at hy ⊢
      by_cases hE : val.toList = []
      · obtain rfl := empty_str val hE
        clear hE
        go_wp2_with fail
        refine (kidsOkP_any _ _ _ kids _ _ B1.out.size (by omega) (HK.out.below B1.out)).mono ?_
        rintro e w3 ⟨rfl, b3⟩
        have XB := Lib.hid (XB.out.below b3 XB.out.lt)
        have B3 := Lib.hid (B1.out.trans (b3.mono B1.out.size))
        clear b3 q0 q1 q2 q3
        have q0 := XB.out.cell 0
        have q1 := XB.out.cell 1
        have q2 := XB.out.cell 2
        have q3 := XB.out.cell 3
        simp at q0 q1 q2 q3
        by_cases h2 : kidsOk kids = true
        · rw [h2]
          go_wp2_with fail
          refine (allows_any _ ⟨kind, path, kids, { data := #[] }⟩ _ _ (B3.out.size) (HN.out _ B3.out)).mono ?_
          rintro e w9 ⟨rfl, b9⟩
          go_wp2
          go_ret
          exact ⟨ret_b (by simp [nodeOk, hasVal, h1, h2]), B3.out.trans (b9.mono B3.out.size)⟩
        · have h2 : kidsOk kids = false := by simpa using h2
          rw [h2]
          go_wp2
          go_ret
          exact ⟨ret_b (by simp [nodeOk, hasVal, h1, h2]), B3.out⟩
      · have hE2 : val.toList.isEmpty = false := by simpa using hE
        go_wp2_with fail
        refine (valueOk_any val _ SV.out).mono ?_
        rintro e w' ⟨rfl, rfl⟩
        by_cases h3 : valOk (sb val) = true
        · rw [h3]
          go_wp2_with fail
          refine (kidsOkP_any _ _ _ kids _ _ B1.out.size (by omega) (HK.out.below B1.out)).mono ?_
          rintro e w3 ⟨rfl, b3⟩
          have XB := Lib.hid (XB.out.below b3 XB.out.lt)
          have B3 := Lib.hid (B1.out.trans (b3.mono B1.out.size))
          clear b3 q0 q1 q2 q3
          have q0 := XB.out.cell 0
          have q1 := XB.out.cell 1
          have q2 := XB.out.cell 2
          have q3 := XB.out.cell 3
          simp at q0 q1 q2 q3
          by_cases h2 : kidsOk kids = true
          · rw [h2]
            go_wp2_with fail
            refine (allows_any _ ⟨kind, path, kids, val⟩ _ _ (B3.out.size) (HN.out _ B3.out)).mono ?_
            rintro e w9 ⟨rfl, b9⟩
            go_wp2
            go_ret
            exact ⟨ret_b (by simp [nodeOk, hasVal, h1, hE2, h3, h2]), B3.out.trans (b9.mono B3.out.size)⟩
          · have h2 : kidsOk kids = false := by simpa using h2
            rw [h2]
            go_wp2
            go_ret
            exact ⟨ret_b (by simp [nodeOk, hasVal, h1, hE2, h3, h2]), B3.out⟩
        · have h3 : valOk (sb val) = false := by simpa using h3
          rw [h3]
          go_wp2
          go_ret
          exact ⟨ret_b (by simp [nodeOk, hasVal, h1, hE2, h3]), B1.out⟩
    · have h1 : isPath path = false := by simpa using h1
      rw [key_no path h1]
      go_wp2
      go_ret
      exact ⟨ret_b (by simp [nodeOk, hasVal, h1]), B1.out⟩
end Go.Proofs.Ytebfinedkjlbbaa

-- ReadK: The program's reader: the kids; and what the program's NodeFrom reads of some bytes.
namespace Go.Proofs.Ytebfinedkjlbbaa
set_option maxRecDepth 20000
set_option linter.unusedSimpArgs false
set_option linter.unusedVariables false
open Go.RowKit

theorem nm8_any (A : Option Addr) (n c B : Nat) (zs : List Int) (w : World) (hb : Byts w B A n zs) :
    Calls Try.prog 136 #[.slice A n c] w fun e w' => (e = .returned (.tuple #[.int .i64 (nm8 zs), .bool true]) ∨ (e = .returned (.tuple #[.int .i64 0, .bool false]) ∧ nm8 zs = -1)) ∧ w = w' := by
  have hl := hb.1
  by_cases h8 : n = 8
  · subst h8
    by_cases h7 : zs[7]?.getD 0 ≤ 127
    · refine (from_yes A c zs B w hb h7).mono ?_
      rintro e w' ⟨rfl, rfl⟩
      exact ⟨.inl (by unfold nm8; rw [if_pos ⟨hl, h7⟩]), rfl⟩
    · refine (from_high A c zs B w hb (by omega)).mono ?_
      rintro e w' ⟨rfl, rfl⟩
      exact ⟨.inr ⟨rfl, by unfold nm8; rw [if_neg (by omega)]⟩, rfl⟩
  · refine (from_no_len A n c w h8).mono ?_
    rintro e w' ⟨rfl, rfl⟩
    exact ⟨.inr ⟨rfl, by unfold nm8; rw [if_neg (by omega)]⟩, rfl⟩
theorem rname_any (g B : Nat) (st : Option (List Int)) (w : World) (hB : B ≤ g) (h : Rd w B g st) :
    Calls Try.prog 113 #[.pointer (some ⟨g, 0, none⟩)] w fun e w' => e = .returned (.int .i64 (nm8 (rByt 8 st).1)) ∧ Rd w' B g (rByt 8 st).2 ∧ Touch (fun k => k = g) w w' ∧ w'.heap.size = w.heap.size := by
  have HR := Lib.hid h
  clear h
  obtain ⟨xs, hxs⟩ : ∃ xs, (rByt 8 st).1 = xs := ⟨_, rfl⟩
  rw [hxs]
  have HX := Lib.hid hxs
  clear hxs
  go_enter Try.func113, Try.ntmps113
  go_wp2_with fail
  refine (rbytes_any g 8 B st w hB (by omega) HR.out).mono ?_
  rintro e w1 ⟨A, n, c, rfl, hnc, hb, hrd, ht, hsz⟩
  have HD := Lib.hid hrd
  have HT := Lib.hid ht
  have HS := Lib.hid hsz
  rw [HX.out] at hb
  clear hrd ht hsz
  go_wp2_with fail
  refine (nm8_any A n c B xs w1 hb).mono ?_
  rintro e w' ⟨(rfl | ⟨rfl, h⟩), rfl⟩
  · go_wp2
    go_ret
    refine ⟨?_, HD.out, HT.out, HS.out⟩
    rfl
  · have H := Lib.hid h
    clear h
    go_wp2
    go_ret
    refine ⟨?_, HD.out, HT.out, HS.out⟩
    rw [H.out]
    rfl

theorem Box.touch {w w' : World} {g : Nat} {t : TypeId} {cs : Array Value} {S : Nat → Prop} (h : Box w g t cs) (k : Touch S w w') (hn : ¬ S g) : Box w' g t cs := (k.block g h.lt hn).trans h

set_option maxHeartbeats 800000 in
theorem rkids_any (g B : Nat) (st : Option (List Int)) (w : World) (hB : B ≤ g) (h : Rd w B g st) :
    Calls Try.prog 63 #[.pointer (some ⟨g, 0, none⟩)] w fun e w' => ∃ A n c, e = .returned (.slice A n c) ∧ OwnK w' w.heap.size A n c (rAll st).1 ∧ Rd w' B g (rAll st).2 ∧ Touch (fun k => k = g) w w' := by
  have HR := Lib.hid h
  have hg := h.lt
  have hbs := rNum_bs h.bs
  clear h
  obtain ⟨cnt, hcnt⟩ : ∃ cnt : Nat, (rNum st).1 = cnt := ⟨(rNum st).1.toNat, by omega⟩
  have hall : rAll st = rKids cnt (rNum st).2 := by unfold rAll; rw [hcnt, Int.toNat_natCast]
  obtain ⟨st1, hst1⟩ : ∃ st1, (rNum st).2 = st1 := ⟨_, rfl⟩
  rw [hall, hst1]
  go_enter Try.func63, Try.ntmps63
  go_wp2_with fail
  refine (rnumber_any g B st w hB HR.out).mono ?_
  rintro e w1 ⟨rfl, hrd, ht, hsz⟩
  rw [hst1] at hrd
  have HD := Lib.hid hrd
  have HT := Lib.hid ht
  have hc255 : cnt ≤ 255 := by have := hbs.2; omega
  clear hrd ht hall hbs
  rw [hcnt]
  obtain ⟨iK, hki, hk0, hk1, hk2⟩ := info_parts Try.infoK
  have HK := Lib.hid hki
  have HK0 := Lib.hid hk0
  have HK1 := Lib.hid hk1
  have HK2 := Lib.hid hk2
  clear hki hk0 hk1 hk2 hcnt hst1
  go_wp2
  go_loopw [3, 7] (fun p i wr => ∃ q : Nat, ∃ Ak ck, q ≤ cnt ∧ i = .int .i64 q ∧ p = .slice Ak q ck ∧ OwnK wr w.heap.size Ak q ck (rKids q st1).1 ∧ Rd wr B g (rKids q st1).2 ∧ Touch (fun k => k = g) w wr) (fun _ i _ => cnt - (intOf i).toNat)
  case atStart => exact ⟨0, none, 0, Nat.zero_le _, rfl, rfl, OwnK.nil _ _, HD.out, HT.out⟩
  case round =>
    obtain ⟨q, Ak, ck, hq, rfl, rfl, hown, hrd, ht⟩ := hrel
    have MR := Lib.hid hown
    have RR := Lib.hid hrd
    have TR := Lib.hid ht
    have srw := ht.size
    clear hown hrd ht
    by_cases hlt : q < cnt
    · have hstep : rKids (q + 1) st1 = ((rKids q st1).1 ++ [(rKid (rKids q st1).2).1], (rKid (rKids q st1).2).2) := rfl
      unfold rKid at hstep
      have HST := Lib.hid hstep
      clear hstep
      generalize (rKids q st1).1 = ks at MR HST
      generalize (rKids q st1).2 = s at RR HST
      have hge : ∀ j, (Value.slice Ak q ck).ownBlock = some j → ¬ j = g := fun j hj e => by have := (World.ownsRow.lt MR.out j hj).1; omega
      go_wp2_with fail
      refine (rnumber_any g B s wr hB RR.out).mono ?_
      rintro e wa ⟨rfl, ra, ta, sa⟩
      have RA := Lib.hid ra
      have MA := Lib.hid (MR.out.touch ta hge)
      have TA := Lib.hid (TR.out.trans ta)
      clear ra ta
      generalize (rNum s).1 = a at HST ⊢
      generalize (rNum s).2 = s2 at HST RA
      go_wp2_with fail
      refine (rname_any g B s2 wa hB RA.out).mono ?_
      rintro e wb ⟨rfl, rb, tb, sb_⟩
      have RB := Lib.hid rb
      have MB := Lib.hid (MA.out.touch tb hge)
      have TB := Lib.hid (TA.out.trans tb)
      clear rb tb hge sa sb_
      generalize nm8 (rByt 8 s2).1 = m at HST ⊢
      generalize (rByt 8 s2).2 = s3 at HST RB
      have hszb : w.heap.size ≤ wb.heap.size := TB.out.size
      go_wp2_with (at_builtin; refine wpList_append_lies _ rfl _ _ 24 rfl w.heap.size 80 iK (.agg #[.int .i64 0, .int .i64 0]) 2 16 Try.underlying24 HK.out HK0.out HK1.out HK2.out rfl (by decide) _ _ _ rfl (MB.out.alloc _) ⟨wb.heap.size, 0, none⟩ 1 1 ([a, m].map (Value.int .i64)) rfl ?a0 ?a1 ?a2 (by omega) ?a3 ?a4 ?a5 _ rfl ?_)
      case a0 => first | rfl | (simp; done)
      case a1 =>
        intro j u hj
        match j, hj with
        | 0, hj => simp at hj; subst hj; simp [Addr.add]
        | 1, hj => simp at hj; subst hj; simp [Addr.add]
      case a2 => intro u hu; simp at hu; rcases hu with rfl | rfl <;> rfl
      case a3 => unfold maxLen; omega
      case a4 => omega
      case a5 => simp; omega
      intro g2 c2 w2 hown2 hgrow2 _ _
      have t2 : Touch (fun j => some j = (Value.slice Ak q ck).ownBlock) wb w2 := (Touch.of_below ((Below.refl _ _).alloc (Nat.le_refl _) _)).trans (Touch.of_grown hgrow2)
      have hge : ∀ j, j < w.heap.size → ¬ some j = (Value.slice Ak q ck).ownBlock := fun j hj e => by have := (World.ownsRow.lt MB.out j e.symm).1; omega
      have R2 := Lib.hid (RB.out.touch t2 hB (fun j hj => hge j (by omega)))
      have T2 := Lib.hid (TB.out.grow t2 hge)
      have M2 : OwnK w2 w.heap.size (some ⟨g2, 0, none⟩) (q + 1) c2 (ks ++ [(a, m)]) := by
        unfold OwnK
        rw [kv_append, List.map_append]
        exact hown2
      have M2 := Lib.hid M2
      clear t2 hge hown2 hgrow2
      go_wp2
      go_roundw
      case rel => exact ⟨q + 1, _, _, by omega, by go_num, rfl, by rw [HST.out]; exact M2.out, by rw [HST.out]; exact R2.out, T2.out⟩
      case measure => simp [intOf]; omega
    · obtain rfl : q = cnt := by omega
      go_wp2
      go_ret
      exact ⟨_, _, _, rfl, MR.out, RR.out, TR.out⟩

theorem rd_new {w : World} {B g : Nat} {A : Option Addr} {n c : Nat} {bs : List Int} (hx : Box w g 82 #[.slice A n c, .bool false]) (hc : n ≤ c) (hn : n ≤ 1048576) (hA : A = none → c = 0) (hb : Byts w B A n bs) : Rd w B g (some bs) :=
  ⟨A, n, c, false, hx, hc, hn, hA, hb, rfl, fun h => by cases h⟩

set_option maxHeartbeats 2000000 in
theorem implNodeFrom_any (A : Option Addr) (n c : Nat) (bs : List Int) (B : Nat) (w : World) (hn : n ≤ 1048576) (hc : n ≤ c) (hA : A = none → c = 0) (hB : B ≤ w.heap.size) (hb : Byts w B A n bs) :
    Calls Try.prog 12 #[.slice A n c] w fun e w' => ∃ v nd b, e = .returned (.tuple #[v, .bool b]) ∧ OwnN w' w.heap.size v nd ∧ NodeRead bs nd b ∧ Below w.heap.size w w' := by
  obtain ⟨r0, hr0⟩ : ∃ r0, w.heap.size = r0 := ⟨_, rfl⟩
  obtain ⟨w1, hw1⟩ : ∃ w1, (w.alloc (.cells #[.int .i64 0, .slice none 0 0, .slice none 0 0, .string { data := #[] }] 26)).alloc (.cells #[.slice A n c, .bool false] 82) = w1 := ⟨_, rfl⟩
  have x1 : Box w1 r0 26 #[.int .i64 0, .slice none 0 0, .slice none 0 0, .string { data := #[] }] := by rw [← hw1, ← hr0]; exact heap2_0 w _ _
  have y1 : Box w1 (r0 + 1) 82 #[.slice A n c, .bool false] := by rw [← hw1, ← hr0]; exact heap2_1 w _ _
  have s1 : w1.heap.size = r0 + 1 + 1 := by rw [← hw1, size2, hr0]
  have b1 : Below r0 w w1 := by rw [← hw1, ← hr0]; exact below2 w _ _
  have rd1 := rd_new (B := r0) y1 hc hn hA ((hb.more (by omega)).below b1)
  have X := Lib.hid x1
  have R := Lib.hid rd1
  have B1 := Lib.hid b1
  have HW := Lib.hid hw1
  have hbs : Bs (some bs) := rd1.bs
  have HBS := Lib.hid hbs
  clear x1 y1 b1 rd1 hw1 hb hA hc
  have hrn := rNum_bs hbs
  have hrp := rPart_bs hrn.1
  have hrv := rPart_bs hrp.1
  have l1 := rPart_len hrn.1
  have l2 := rPart_len hrp.1
  obtain ⟨kd, st1, h1⟩ : ∃ a s, rNum (some bs) = (a, s) := ⟨_, _, rfl⟩
  rw [h1] at hrp hrv l1 l2
  obtain ⟨ps, st2, h2⟩ : ∃ a s, rPart st1 = (a, s) := ⟨_, _, rfl⟩
  simp only [h2] at hrp hrv l1 l2
  obtain ⟨vs, st3, h3⟩ : ∃ a s, rPart st2 = (a, s) := ⟨_, _, rfl⟩
  simp only [h3] at hrv l2
  obtain ⟨ks, st4, h4⟩ : ∃ a s, rAll st3 = (a, s) := ⟨_, _, rfl⟩
  have hnode : rNode (some bs) = (⟨kd, ps, ks, strOfNums vs⟩, st4) := by
    unfold rNode
    simp only [h1, h2, h3, h4]
  have HN := Lib.hid hnode
  have lk : ks.length ≤ 255 := by
    have h5 := rKids_len (rNum st3).1.toNat (st := (rNum st3).2)
    have h6 := (rNum_bs hrv.1).2
    have h7 : (rAll st3).1.length = (rNum st3).1.toNat := h5
    rw [h4] at h7
    simp only at h7
    omega
  have H1 := Lib.hid h1
  have H2 := Lib.hid h2
  have H3 := Lib.hid h3
  have H4 := Lib.hid h4
  clear h1 h2 h3 h4 hnode hrn hrp hrv hbs
  go_enter Try.func12, Try.ntmps12
  go_wp2_with fail
  rw [HW.out]
  refine (rnumber_any (r0 + 1) r0 _ w1 (by omega) R.out).mono ?_
  rintro e w2 ⟨rfl, rd, t, s2⟩
  rw [H1.out] at rd ⊢
  have R := Lib.hid rd
  have X := Lib.hid (X.out.touch t (by omega))
  have T := Lib.hid (t.mono (T := fun k => r0 ≤ k) (fun k e => by omega))
  have B2 := Lib.hid (B1.out.trans (T.out.below (by omega) (fun k hk h => by omega)))
  clear rd t
  simp only
  have hs2 : w2.heap.size = r0 + 1 + 1 := by omega
  obtain ⟨m, hm⟩ : ∃ m, w2.heap.size = m := ⟨_, rfl⟩
  obtain ⟨w3, hw3⟩ : ∃ w3, w2.alloc (.cells #[.int .i64 kd, .slice none 0 0, .slice none 0 0, .string { data := #[] }] 26) = w3 := ⟨_, rfl⟩
  have z3 : Box w3 m 26 #[.int .i64 kd, .slice none 0 0, .slice none 0 0, .string { data := #[] }] := by rw [← hw3, ← hm]; exact heap_alloc_new _ _
  have s3 : w3.heap.size = m + 1 := by rw [← hw3, ← hm]; simp
  have b3 : Below w2.heap.size w2 w3 := by rw [← hw3]; exact (Below.refl _ _).alloc (Nat.le_refl _) _
  have R := Lib.hid (R.out.below b3 (by omega))
  have X := Lib.hid (X.out.below b3 (by omega))
  have Z := Lib.hid z3
  have B3 := Lib.hid (B2.out.trans (b3.mono (by omega)))
  have HW3 := Lib.hid hw3
  have hm2 : r0 + 1 < m := by omega
  clear z3 b3 hw3 s1 s2 hs2
  go_wp2_with fail
  rw [HW3.out]
  refine (rpath_any (r0 + 1) r0 _ w3 (by omega) R.out).mono ?_
  rintro e w4 ⟨Ap, np, cp, rfl, hown, rd, t⟩
  rw [H2.out] at rd hown
  rw [s3] at hown
  have hnp : ps.length = np := hown.len
  have R := Lib.hid rd
  have X := Lib.hid (X.out.touch t (by omega))
  have Z := Lib.hid (Z.out.touch t (by omega))
  have B4 := Lib.hid (B3.out.trans (t.below (by omega) (fun k hk h => by omega)))
  have P := Lib.hid hown
  have s4 := t.size
  clear hown rd t
  obtain ⟨w5, hw5⟩ : ∃ w5, w4.setCell ⟨m, 1, none⟩ (.slice Ap np cp) = w5 := ⟨_, rfl⟩
  have t5 : Touch (fun k => k = m) w4 w5 := by rw [← hw5]; exact touch_set w4 m 1 _ rfl
  have z5 : Box w5 m 26 #[.int .i64 kd, .slice Ap np cp, .slice none 0 0, .string { data := #[] }] := by rw [← hw5]; exact Z.out.set_ 1 _
  have HW5 := Lib.hid hw5
  clear hw5
  have q1 := Z.out.cell 1
  have f1 := Z.out.free 1
  simp at q1
  go_wp2_with fail
  rw [HW5.out]
  clear q1 f1
  have Z := Lib.hid z5
  have R := Lib.hid (R.out.touch t5 (by omega) (fun k hk e => by omega))
  have X := Lib.hid (X.out.touch t5 (by omega))
  have P := Lib.hid (P.out.touch t5 (fun j hj e => by have := (World.ownsRow.lt P.out j hj).1; omega))
  have B5 := Lib.hid (B4.out.trans (t5.below (by omega) (fun k hk h => by omega)))
  have s5 := t5.size
  clear t5 z5
  refine (rnumber_any (r0 + 1) r0 _ w5 (by omega) R.out).mono ?_
  rintro e w6 ⟨rfl, rd, t, s6⟩
  have hbs2 := rNum_bs (R.out.bs)
  obtain ⟨cv, hcv⟩ : ∃ cv : Nat, (rNum st2).1 = cv := ⟨(rNum st2).1.toNat, by omega⟩
  have hpart : rByt cv (rNum st2).2 = (vs, st3) := by rw [← H3.out]; unfold rPart; rw [hcv, Int.toNat_natCast]
  have hcv255 : cv ≤ 255 := by omega
  rw [hcv]
  have R := Lib.hid rd
  have X := Lib.hid (X.out.touch t (by omega))
  have Z := Lib.hid (Z.out.touch t (by omega))
  have P := Lib.hid (P.out.touch t (fun j hj e => by have := (World.ownsRow.lt P.out j hj).1; omega))
  have B6 := Lib.hid (B5.out.trans (t.below (by omega) (fun k hk h => by omega)))
  clear rd t hbs2
  have HPV := Lib.hid hpart
  clear hpart hcv
  go_wp2_with fail
  refine (rbytes_any (r0 + 1) cv r0 _ w6 (by omega) (by omega) R.out).mono ?_
  rintro e w7 ⟨Av, nv, cc, rfl, _, yb, rd, t, s7⟩
  rw [HPV.out] at yb rd
  have R := Lib.hid rd
  have X := Lib.hid (X.out.touch t (by omega))
  have Z := Lib.hid (Z.out.touch t (by omega))
  have P := Lib.hid (P.out.touch t (fun j hj e => by have := (World.ownsRow.lt P.out j hj).1; omega))
  have B7 := Lib.hid (B6.out.trans (t.below (by omega) (fun k hk h => by omega)))
  clear rd t
  have hconv := conv_bytes Av nv cc vs _ w7 yb
  have hvl : vs.length ≤ 255 := l2
  obtain ⟨w8, hw8⟩ : ∃ w8, w7.setCell ⟨m, 3, none⟩ (.string (strOfNums vs)) = w8 := ⟨_, rfl⟩
  have t8 : Touch (fun k => k = m) w7 w8 := by rw [← hw8]; exact touch_set w7 m 3 _ rfl
  have z8 : Box w8 m 26 #[.int .i64 kd, .slice Ap np cp, .slice none 0 0, .string (strOfNums vs)] := by rw [← hw8]; exact Z.out.set_ 3 _
  have HW8 := Lib.hid hw8
  clear hw8 yb
  have q3 := Z.out.cell 3
  have f3 := Z.out.free 3
  simp at q3
  go_wp2_with fail
  rw [HW8.out]
  clear q3 f3 hconv
  have Z := Lib.hid z8
  have R := Lib.hid (R.out.touch t8 (by omega) (fun k hk e => by omega))
  have X := Lib.hid (X.out.touch t8 (by omega))
  have P := Lib.hid (P.out.touch t8 (fun j hj e => by have := (World.ownsRow.lt P.out j hj).1; omega))
  have B8 := Lib.hid (B7.out.trans (t8.below (by omega) (fun k hk h => by omega)))
  have s8 := t8.size
  have PL := Lib.hid (fun j hj => (World.ownsRow.lt P.out j hj).2)
  have hm8 : m < w8.heap.size := z8.lt
  clear t8 z8
  refine (rkids_any (r0 + 1) r0 _ w8 (by omega) R.out).mono ?_
  rintro e w9 ⟨Ak, nk, ck, rfl, hown, rd, t⟩
  rw [H4.out] at rd hown
  have hnk : ks.length = nk := hown.len
  have R := Lib.hid rd
  have X := Lib.hid (X.out.touch t (by omega))
  have Z := Lib.hid (Z.out.touch t (by omega))
  have P := Lib.hid (P.out.touch t (fun j hj e => by have := (World.ownsRow.lt P.out j hj).1; omega))
  have K := Lib.hid hown
  have B9 := Lib.hid (B8.out.trans (t.below (by omega) (fun k hk h => by omega)))
  have s9 := B9.out.size
  clear rd t hown
  obtain ⟨w10, hw10⟩ : ∃ w10, w9.setCell ⟨m, 2, none⟩ (.slice Ak nk ck) = w10 := ⟨_, rfl⟩
  have t10 : Touch (fun k => k = m) w9 w10 := by rw [← hw10]; exact touch_set w9 m 2 _ rfl
  have z10 : Box w10 m 26 #[.int .i64 kd, .slice Ap np cp, .slice Ak nk ck, .string (strOfNums vs)] := by rw [← hw10]; exact Z.out.set_ 2 _
  have q2 := Z.out.cell 2
  have f2 := Z.out.free 2
  simp at q2
  have Z := Lib.hid z10
  have R := Lib.hid (R.out.touch t10 (by omega) (fun k hk e => by omega))
  have X := Lib.hid (X.out.touch t10 (by omega))
  have P := Lib.hid (P.out.touch t10 (fun j hj e => by have := (World.ownsRow.lt P.out j hj).1; omega))
  have K := Lib.hid (K.out.touch t10 (fun j hj e => by have := (World.ownsRow.lt K.out j hj).1; omega))
  have B10 := Lib.hid (B9.out.trans (t10.below (by omega) (fun k hk h => by omega)))
  have hv : Hid (OwnN w10 (m + 1) (.agg #[.int .i64 kd, .slice Ap np cp, .slice Ak nk ck, .string (strOfNums vs)]) ⟨kd, ps, ks, strOfNums vs⟩) :=
    ⟨Ap, np, cp, Ak, nk, ck, rfl, by omega, by omega, by rw [strOfNums_size]; omega, P.out, K.out.base (by omega), fun j hj e => by have := PL.out j hj; have := (World.ownsRow.lt K.out j e).1; omega⟩
  have hlen : kd = kd := rfl
  clear t10 z10 PL P K s4 s5 s6 s7 s8
  obtain ⟨Al, nl, cl, sh, hx, _, _, _, yl, hsh, _⟩ := R.out
  have g0 := hx.cell 0
  have g1 := hx.cell 1
  simp at g0 g1
  have hnl := yl.1
  have lz := Z.out.lt
  have lx := X.out.lt
  have hrz : ¬ r0 = m := by omega
  clear hx yl hlen
  rcases st4 with _ | ys
  · obtain rfl : sh = true := hsh
    have x0 := X.out.cell 0
    have x1 := X.out.cell 1
    have x2 := X.out.cell 2
    have x3 := X.out.cell 3
    simp at x0 x1 x2 x3
    have fx := X.out.free
    go_wp2
    obtain ⟨hX, hb⟩ := set4 X.out (.int .i64 0) (.slice none 0 0) (.slice none 0 0) (.string { data := #[] })
    refine bodyPost_ret (v := .tuple #[node0V, .bool false]) (results_box2 Try.results12 _ _ r0 _ _ _ _ rfl rfl hX Try.underlying26 rfl (by kernel_rfl)) rfl ?_
    refine ⟨_, node0, false, rfl, node0_own _ _, rNode_none (by rw [HN.out]; simp), ?_⟩
    rw [hr0]
    exact B10.out.trans (hb.below (by have := B10.out.size; omega) (fun k hk h => by omega))
  · obtain rfl : sh = false := hsh
    by_cases hys : ys = []
    · subst hys
      obtain rfl : nl = 0 := hnl.symm
      have z0 := Z.out.cell 0
      have z1 := Z.out.cell 1
      have z2 := Z.out.cell 2
      have z3 := Z.out.cell 3
      simp at z0 z1 z2 z3
      go_wp2_with fail
      refine (progNodeOk_any _ _ _ w10 (Nat.le_refl _) hv.out.node).mono ?_
      rintro e w11 ⟨rfl, b11⟩
      have V := Lib.hid (hv.out.below b11)
      have X := Lib.hid (X.out.below b11 lx)
      have Z := Lib.hid (Z.out.below b11 lz)
      have s10 := B10.out.size
      have B11 := Lib.hid (B10.out.trans (b11.mono (by omega)))
      have s11 := B11.out.size
      clear z0 z1 z2 z3 b11 hw10 q2 f2 g0 g1
      have z0 := Z.out.cell 0
      have z1 := Z.out.cell 1
      have z2 := Z.out.cell 2
      have z3 := Z.out.cell 3
      simp at z0 z1 z2 z3
      have x0 := X.out.cell 0
      have x1 := X.out.cell 1
      have x2 := X.out.cell 2
      have x3 := X.out.cell 3
      simp at x0 x1 x2 x3
      have fx := X.out.free
      by_cases hok : nodeOk ⟨kd, ps, ks, strOfNums vs⟩ = true
      · rw [hok]
        go_wp2_with fail
        obtain ⟨hX, hb⟩ := set4 X.out (.int .i64 kd) (.slice Ap np cp) (.slice Ak nk ck) (.string (strOfNums vs))
        refine bodyPost_ret (v := .tuple #[.agg #[.int .i64 kd, .slice Ap np cp, .slice Ak nk ck, .string (strOfNums vs)], .bool true]) (results_box2 Try.results12 _ _ r0 _ _ _ _ rfl rfl hX Try.underlying26 rfl (by kernel_rfl)) rfl ?_
        have hyes := rNode_back HBS.out (by rw [HN.out]) (by rw [HN.out]; exact hok)
        rw [HN.out] at hyes
        rw [hr0]
        exact ⟨_, _, true, rfl, (V.out.touch hb (fun g hg h => by have := (V.out.blk hg).1; omega)).base (by omega), hyes, B11.out.trans (hb.below (by omega) (fun k hk h => by omega))⟩
      · have hok' : nodeOk ⟨kd, ps, ks, strOfNums vs⟩ = false := by simpa using hok
        rw [hok']
        go_wp2_with fail
        obtain ⟨hX, hb⟩ := set4 X.out (.int .i64 0) (.slice none 0 0) (.slice none 0 0) (.string { data := #[] })
        refine bodyPost_ret (v := .tuple #[node0V, .bool false]) (results_box2 Try.results12 _ _ r0 _ _ _ _ rfl rfl hX Try.underlying26 rfl (by kernel_rfl)) rfl ?_
        rw [hr0]
        exact ⟨_, node0, false, rfl, node0_own _ _, rNode_none (by rw [HN.out]; simp [hok']), B11.out.trans (hb.below (by omega) (fun k hk h => by omega))⟩
    · have hpos : 0 < nl := by
        rcases ys with _ | ⟨y, r⟩
        · exact absurd rfl hys
        · have h0 : (y :: r).length = nl := hnl
          simp at h0; omega
      have hd : decide ((0 : Int) < (nl : Int)) = true := decide_eq_true (by omega)
      have x0 := X.out.cell 0
      have x1 := X.out.cell 1
      have x2 := X.out.cell 2
      have x3 := X.out.cell 3
      simp at x0 x1 x2 x3
      have fx := X.out.free
      go_wp2
      obtain ⟨hX, hb⟩ := set4 X.out (.int .i64 0) (.slice none 0 0) (.slice none 0 0) (.string { data := #[] })
      refine bodyPost_ret (v := .tuple #[node0V, .bool false]) (results_box2 Try.results12 _ _ r0 _ _ _ _ rfl rfl hX Try.underlying26 rfl (by kernel_rfl)) rfl ?_
      refine ⟨_, node0, false, rfl, node0_own _ _, rNode_none (by rw [HN.out]; simp [hys]), ?_⟩
      rw [hr0]
      exact B10.out.trans (hb.below (by have := B10.out.size; omega) (fun k hk h => by omega))
end Go.Proofs.Ytebfinedkjlbbaa

-- Named: The program's nodeNamed: the node of some bytes, where they are of one and have this name.
namespace Go.Proofs.Ytebfinedkjlbbaa
set_option maxRecDepth 100000
set_option linter.unusedVariables false
set_option linter.unusedSimpArgs false
open Go.RowKit

set_option maxHeartbeats 1000000 in
theorem named_any (m : Int) (A : Option Addr) (n c : Nat) (bs : List Int) (B : Nat) (w : World) (hn : n ≤ 1048576) (hc : n ≤ c) (hA : A = none → c = 0) (hB : B ≤ w.heap.size) (hb : Byts w B A n bs) :
    Calls Try.prog 131 #[.int .i64 m, .slice A n c] w fun e w' => ∃ v nd r, e = .returned (.tuple #[v, .bool r]) ∧ OwnN w' w.heap.size v nd ∧ Below w.heap.size w w' ∧ ((r = true ∧ NodeRead bs nd true ∧ nameOf bs = m) ∨ (r = false ∧ ¬ (IsNode bs ∧ nameOf bs = m))) := by
  obtain ⟨w1, hw1⟩ : ∃ w1, w.alloc (.cells #[.int .i64 0, .slice none 0 0, .slice none 0 0, .string { data := #[] }] 26) = w1 := ⟨_, rfl⟩
  have x1 : Box w1 w.heap.size 26 _ := hw1 ▸ heap_alloc_new _ _
  have b1 : Below w.heap.size w w1 := hw1 ▸ (Below.refl _ _).alloc (Nat.le_refl _) _
  have s1 : w1.heap.size = w.heap.size + 1 := hw1 ▸ by simp
  have X1 := Lib.hid x1
  have B1 := Lib.hid b1
  have HB := Lib.hid ((hb.more hB).below b1)
  clear x1 b1 hb
  go_enter Try.func131, Try.ntmps131
  go_wp2_with fail
  refine (implNodeFrom_any A n c bs w.heap.size w1 hn hc hA (by omega) HB.out).mono ?_
  rintro e w2 ⟨v, nd, r, rfl, own, rd, b2⟩
  have s2 := b2.size
  have O2 := Lib.hid own
  have RD := Lib.hid rd
  have B2 := Lib.hid (B1.out.trans (b2.mono (by omega)))
  have X2 := Lib.hid (X1.out.below b2 (by omega))
  have Y2 := Lib.hid (HB.out.below (b2.mono (by omega)))
  obtain ⟨Ap, np, cp, Ak, nk, ck, rfl, _⟩ := own
  clear rd b2 hw1
  obtain ⟨w3, hw3⟩ : ∃ w3, w2.alloc (.cells #[.int .i64 nd.kind, .slice Ap np cp, .slice Ak nk ck, .string nd.val] 26) = w3 := ⟨_, rfl⟩
  have b3 : Below w2.heap.size w2 w3 := hw3 ▸ (Below.refl _ _).alloc (Nat.le_refl _) _
  have N3 := Lib.hid (show Box w3 w2.heap.size 26 #[.int .i64 nd.kind, .slice Ap np cp, .slice Ak nk ck, .string nd.val] from hw3 ▸ heap_alloc_new _ _)
  have s3 : w3.heap.size = w2.heap.size + 1 := hw3 ▸ by simp
  have B3 := Lib.hid (B2.out.trans (b3.mono (by omega)))
  have X3 := Lib.hid (X2.out.below b3 (by omega))
  have O3 := Lib.hid (O2.out.below b3)
  have Y3 := Lib.hid (Y2.out.below (b3.mono (by omega)))
  have HY := Lib.hid (IsNode.of RD.out)
  have hNM : Calls Try.prog 133 #[.slice A n c] w3 fun e w' => e = .returned (.int .i64 (nameOf bs)) ∧ w' = w3 :=
    (name_any A n c bs w.heap.size w3 (by omega) Y3.out).mono fun e w' h => ⟨h.1, h.2.symm⟩
  have NM := Lib.hid hNM
  clear hNM b3 X2 B2 Y3 Y2 HB
  cases r with
  | false =>
    have hno := Lib.hid (show ¬ (IsNode bs ∧ nameOf bs = m) from fun h => absurd (HY.out.2 h.1) (by simp))
    have q0 := X3.out.cell 0
    have q1 := X3.out.cell 1
    have q2 := X3.out.cell 2
    have q3 := X3.out.cell 3
    have f0 := X3.out.free
    simp at q0 q1 q2 q3
    obtain ⟨hX, hb⟩ := set4 X3.out (.int .i64 0) (.slice none 0 0) (.slice none 0 0) (.string { data := #[] })
    have HX := Lib.hid hX
    have HB := Lib.hid hb
    clear hX hb
    go_wp2
    refine bodyPost_ret (v := .tuple #[node0V, .bool false]) (results_box2 Try.results131 _ _ w.heap.size _ _ _ _ rfl rfl HX.out Try.underlying26 rfl (by kernel_rfl)) rfl ?_
    exact ⟨_, node0, false, rfl, node0_own _ _, B3.out.trans (HB.out.below B3.out.size (fun k hk h => by omega)), .inr ⟨rfl, hno.out⟩⟩
  | true =>
    have hyes := HY.out.1 rfl
    have HYES := Lib.hid hyes
    clear hyes
    by_cases h1 : nameOf bs = m
    · have hb2 : (nameOf bs != m) = false := by simp [h1]
      have H1 := Lib.hid h1
      clear h1
      go_wp2_with fail
      refine (NM.out).mono ?_
      rintro e w' ⟨rfl, hw'⟩
      rw [hw']
      clear hw' w'
      clear hw3
      have hr0 : w.heap.size < w2.heap.size := by omega
      have q0 := X3.out.cell 0
      have q1 := X3.out.cell 1
      have q2 := X3.out.cell 2
      have q3 := X3.out.cell 3
      have f0 := X3.out.free
      have n0 := N3.out.cell 0
      have n1 := N3.out.cell 1
      have n2 := N3.out.cell 2
      have n3 := N3.out.cell 3
      simp at q0 q1 q2 q3 n0 n1 n2 n3
      obtain ⟨hX, hb⟩ := set4 X3.out (.int .i64 nd.kind) (.slice Ap np cp) (.slice Ak nk ck) (.string nd.val)
      have HX := Lib.hid hX
      have HB := Lib.hid hb
      clear hX hb
      go_wp2
      refine bodyPost_ret (v := .tuple #[.agg #[.int .i64 nd.kind, .slice Ap np cp, .slice Ak nk ck, .string nd.val], .bool true]) (results_box2 Try.results131 _ _ w.heap.size _ _ _ _ rfl rfl HX.out Try.underlying26 rfl (by kernel_rfl)) rfl ?_
      have O4 := O3.out
      refine ⟨_, nd, true, rfl, (O4.touch HB.out (fun g hg h => by have := (O3.out.blk hg).1; omega)).base (by omega), B3.out.trans (HB.out.below B3.out.size (fun k hk h => by omega)), .inl ⟨rfl, RD.out, H1.out⟩⟩
    · have hb2 : (nameOf bs != m) = true := by simp [h1]
      have H1 := Lib.hid h1
      clear h1
      go_wp2_with fail
      refine (NM.out).mono ?_
      rintro e w' ⟨rfl, hw'⟩
      rw [hw']
      clear hw' w'
      clear hw3
      have q0 := X3.out.cell 0
      have q1 := X3.out.cell 1
      have q2 := X3.out.cell 2
      have q3 := X3.out.cell 3
      have f0 := X3.out.free
      simp at q0 q1 q2 q3
      obtain ⟨hX, hb⟩ := set4 X3.out (.int .i64 0) (.slice none 0 0) (.slice none 0 0) (.string { data := #[] })
      have HX := Lib.hid hX
      have HB := Lib.hid hb
      clear hX hb
      go_wp2
      refine bodyPost_ret (v := .tuple #[node0V, .bool false]) (results_box2 Try.results131 _ _ w.heap.size _ _ _ _ rfl rfl HX.out Try.underlying26 rfl (by kernel_rfl)) rfl ?_
      exact ⟨_, node0, false, rfl, node0_own _ _, B3.out.trans (HB.out.below B3.out.size (fun k hk h => by omega)), .inr ⟨rfl, fun h => H1.out h.2⟩⟩
end Go.Proofs.Ytebfinedkjlbbaa

-- StepA: A step law: an append of a whole slice in a drawn region; no statement of the program is proved here.
namespace Go.Proofs.Ytebfinedkjlbbaa
set_option maxRecDepth 20000
open Go.RowKit

section
variable {P : Program}
/-- at a step of a region that draws: 'append(s, x...)' onto a row of the call's own; x may be empty. -/
theorem step_append_row {ops : Array Oper} {o : Oper} {a : Act} {w : World} {K : Act → World → Prop} {Q : Exit → Act → World → Prop} {E : Prop} (hgd : o.guard = none) (s x : Operand) (t : TypeId)
    (ho : o.op = .call { callee := .builtin .append, args := #[s, x], argTypes := #[t, t] })
    (base : Nat) (e : TypeId) (i : TypeInfo) (z : Value) (size bytes : Nat) (ht : P.underlying t = some (.slice e)) (hi : P.info? e = some i) (hz : i.zero = some z)
    (hsize : i.size = size) (hby : i.bytes = bytes) (hzs : z.cells.size = size) (hsz : 0 < size)
    (v : Value) (n : Nat) (xs : List Value) (hs : a.eval s = v) (hown : w.ownsRow base e size v n xs)
    (ad : Addr) (m c : Nat) (news : List Value) (hx : a.eval x = .slice (some ad) m c) (hl : news.length = m * size) (hnews : ∀ j u, news[j]? = some u → w.cell? (ad.add j) = some u) (h1 : ∀ u ∈ news, u.oneCell' = true)
    (h63 : n + m ≤ maxLen) (hbytes : (n + m) * bytes ≤ 140737488355328) (hbase : base ≤ w.heap.size)
    (h : ∀ v' w', w'.ownsRow base e size v' (n + m) (xs ++ news) → w.grownBy w' v.ownBlock → (v' = .slice none 0 0 ↔ v = .slice none 0 0 ∧ m = 0) → K (a.put o.dst v') w') :
    if Region.wanted o (yielded ops a.tmps) = true then Oper.wp P o a w K Q else E := by
  have hw : Region.wanted o (yielded ops a.tmps) = true := by simp [Region.wanted, hgd]
  rw [if_pos hw]
  obtain ⟨v', w', hr, h2, h3, h4, _⟩ := run_append_own_at (P := P) w base t o.type e i z size bytes ht hi hz hsize hby hzs hsz v n xs hown ad m c news hl hnews h1 h63 hbytes hbase
  unfold Oper.wp execOp
  simp only [ho, resolve, invoke, builtin, Sem.run_bind, Sem.run_pure, Result.andThen_ok, List.map_toArray, List.map_cons, List.map_nil, hs, hx, hr]
  exact h v' w' h2 h3 h4
end
end Go.Proofs.Ytebfinedkjlbbaa

-- CellN: The model's node under a name, and NodeAt.
namespace Go.Proofs.Ytebfinedkjlbbaa
set_option maxRecDepth 20000
set_option linter.unusedVariables false
set_option linter.unusedSimpArgs false
open Go.RowKit

end Go.Proofs.Ytebfinedkjlbbaa

-- CellC: Cells that are put behind others; the model's copies of bytes and of cells.
namespace Go.Proofs.Ytebfinedkjlbbaa
set_option maxRecDepth 20000
set_option linter.unusedVariables false
set_option linter.unusedSimpArgs false
open Go.RowKit

theorem Byts.row {w : World} {B n : Nat} {A : Option Addr} {zs : List Int} (h : Byts w B A n zs) (hn : 0 < n) :
    ∃ b off, A = some ⟨b, off, none⟩ ∧ b < B ∧ ∀ j u, (zs.map (Value.int .u8))[j]? = some u → w.cell? ((⟨b, off, none⟩ : Addr).add j) = some u := by
  obtain ⟨b, off, rfl, hb, hc⟩ := h.2.2 hn
  refine ⟨b, off, rfl, hb, fun j u hj => ?_⟩
  have hadd : (⟨b, off, none⟩ : Addr).add j = ⟨b, off + j, none⟩ := by unfold Addr.add; split <;> simp_all
  have hjl : j < zs.length := by
    rcases Nat.lt_or_ge j zs.length with h | h
    · exact h
    · rw [List.getElem?_eq_none (by simpa using h)] at hj; cases hj
  have hl := h.1
  rw [hadd, hc j (by omega)]
  rw [List.getElem?_map, List.getElem?_eq_getElem hjl] at hj
  simp only [Option.map_some, Option.some.injEq] at hj
  rw [← hj]
  simp [List.getElem?_eq_getElem hjl]

/-- cells that are put behind those that the call owns. -/
theorem OwnC.pushed {w w' : World} {lo hi hi' n c n' c' g cap : Nat} {A A' : Option Addr} {cs : List (Int × List Int)} {bs : List Int} {m : Int} {sl : Nat → Sub}
    (hl : cs.length = n) (hu : ∀ b, (Value.slice A n c).ownBlock = some b → b < hi) (hs : Subs w lo hi (Value.slice A n c).ownBlock n cs sl) (hx : Mine w lo A' n' c' bs)
    (hxb : ∀ b, (Value.slice A' n' c').ownBlock = some b → hi ≤ b)
    (hr : w'.ownsRow lo 123 2 (.slice (some ⟨g, 0, none⟩) (n + 1) cap) (n + 1) (cvs n cs sl ++ [.int .i64 m, .slice A' n' c'])) (hg : w.grownBy w' (Value.slice A n c).ownBlock)
    (hgo : (Value.slice A n c).ownBlock = some g ∨ g = w.heap.size) (hh : hi ≤ w.heap.size) (hi1 : w'.heap.size ≤ hi') : OwnC w' lo hi' (some ⟨g, 0, none⟩) (n + 1) cap (cs ++ [(m, bs)]) := by
  have hsz := hg.size
  have t := Touch.of_grown hg
  refine ⟨by simp [hl], fun b hb => ?_, fun i => if i = n then ⟨A', n', c', bs⟩ else sl i, ?_, ?_⟩
  · have := (World.ownsRow.lt hr b hb).2
    omega
  · rw [← cvs_append n cs sl ⟨A', n', c', bs⟩ m bs hl]; exact hr
  · have hlt : ∀ i, i < n → ∀ b, (sl i).v.ownBlock = some b → b < w.heap.size := fun i hi b hb => (World.ownsRow.lt (hs.mine i hi).1 b hb).2
    have hxl : ∀ b, (Value.slice A' n' c').ownBlock = some b → b < w.heap.size := fun b hb => (World.ownsRow.lt hx.1 b hb).2
    refine ⟨fun i hi => ?_, fun i j hi hj hij b => ?_, fun i hi b => ?_, fun i hi b => ?_⟩
    · rw [cel_append, hl]
      by_cases h : i = n
      · simp only [h, if_true]
        exact hx.touch t (fun b hb e => by have := hxb b hb; have := hu b e.symm; omega)
      · simp only [h, if_false]
        exact (hs.mine i (by omega)).touch t (fun b hb e => hs.other i (by omega) b hb e.symm)
    · by_cases h : i = n
      · have h2 : ¬ j = n := by omega
        simp only [h, h2, if_true, if_false]
        intro e1 e2
        have := hxb b e1
        have := hs.under j (by omega) b e2
        omega
      · by_cases h2 : j = n
        · simp only [h, h2, if_true, if_false]
          intro e1 e2
          have := hxb b e2
          have := hs.under i (by omega) b e1
          omega
        · simp only [h, h2, if_false]
          exact hs.apart i j (by omega) (by omega) hij b
    · have hown : (Value.slice (some (⟨g, 0, none⟩ : Addr)) (n + 1) cap).ownBlock = some g := by simp [Value.ownBlock]
      rw [hown]
      by_cases h : i = n
      · simp only [h, if_true]
        intro e1 e2
        cases e2
        have := hxb _ e1
        have := hxl _ e1
        rcases hgo with e | e
        · have := hu _ e; omega
        · omega
      · simp only [h, if_false]
        intro e1 e2
        cases e2
        rcases hgo with e | e
        · exact hs.other i (by omega) _ e1 e
        · have := hlt i (by omega) _ e1; omega
    · by_cases h : i = n
      · simp only [h, if_true]
        intro e1
        have := hxl b e1
        omega
      · simp only [h, if_false]
        intro e1
        have := hlt i (by omega) b e1
        omega

theorem l1Bytes_any (A : Option Addr) (n c : Nat) (bs : List Int) (B : Nat) (w : World) (h0 : 0 < n) (hn : n ≤ 1048576) (hB : B ≤ w.heap.size) (hb : Byts w B A n bs) :
    Calls Try.prog 127 #[.slice A n c] w fun e w' => ∃ A' n' c', e = .returned (.slice A' n' c') ∧ Mine w' w.heap.size A' n' c' bs ∧ Below w.heap.size w w' := by
  have hlen := hb.1
  have hr := hb.2.1
  obtain ⟨b, off, rfl, hbB, hrow⟩ := (hb.alloc hB (.cells #[] 5)).row h0
  obtain ⟨i0, hi, hz0, hz1, hz2⟩ := info_parts Try.info5
  have HI := Lib.hid hi
  have HZ0 := Lib.hid hz0
  have HZ1 := Lib.hid hz1
  have HZ2 := Lib.hid hz2
  have HR := Lib.hid hrow
  have E0 := Lib.hid (Mine.empty w)
  have B0 := Lib.hid ((Below.refl w.heap.size w).alloc (Nat.le_refl _) (.cells #[] 5))
  clear hi hz0 hz1 hz2 hrow hb
  go_enter Try.func127, Try.ntmps127
  go_wp2_with (at_builtin; refine wpList_append_own _ rfl _ _ 22 rfl w.heap.size 5 i0 (.int .u8 0) 1 1 Try.underlying22 HI.out HZ0.out HZ1.out HZ2.out rfl (by decide) _ _ _ rfl E0.out.1 ⟨b, off, none⟩ n _ (bs.map (Value.int .u8)) rfl ?e0 ?e1 ?e2 ?e3 ?e4 ?e5 ?_)
  case e0 => rw [List.length_map, Nat.mul_one]; exact hlen
  case e1 => exact HR.out
  case e2 => intro u hu; obtain ⟨z, _, rfl⟩ := List.mem_map.1 hu; rfl
  case e3 => unfold maxLen; omega
  case e4 => omega
  case e5 => simp
  intro v1 w1 hown1 hgrow1 hnil1
  have hv : ∃ g c, v1 = .slice (some ⟨g, 0, none⟩) n c := by
    rcases hown1.2 with ⟨e, _⟩ | ⟨g, cap, cur, e, _⟩
    · exact absurd e hnil1
    · exact ⟨g, cap, e⟩
  obtain ⟨g1, c1, rfl⟩ := hv
  have hm1 := E0.out.app (ys := bs) hr (by simpa using hown1)
  have hb1 : Below w.heap.size w w1 := B0.out.grown hgrow1 (by simp) (fun g hg => (E0.out.1.lt g hg).1)
  go_wp2
  go_ret
  exact ⟨_, _, _, rfl, by simpa using hm1, hb1⟩
theorem OwnC.made0 (w : World) : OwnC (w.alloc (.cells #[] 123)) w.heap.size (w.heap.size + 1) (some ⟨w.heap.size, 0, none⟩) 0 0 [] := by
  have h := OwnC.of_made w 0 (by unfold maxLen; omega)
  simpa [cvs] using h

/-- .. and they lie in a block, also where there are none. -/
def GaveC1 (w : World) (cs : List (Int × List Int)) (e : Ending) (w' : World) : Prop := ∃ g n c, e = .returned (.slice (some ⟨g, 0, none⟩) n c) ∧ OwnC w' w.heap.size w'.heap.size (some ⟨g, 0, none⟩) n c cs ∧ Below w.heap.size w w'
theorem l4Copy_any (A : Option Addr) (n c : Nat) (cs : List (Int × List Int)) (B : Nat) (w : World) (hn : n ≤ 1048576) (hm : ∀ i, (cel cs i).2.length ≤ 1048576) (hp : ∀ i, i < n → 0 < (cel cs i).2.length) (hB : B ≤ w.heap.size) (hb : Cells w B A n cs) :
    Calls Try.prog 103 #[.slice A n c] w (GaveC1 w cs) := by
  have HB := Lib.hid (hb.more hB)
  have hlen := hb.1
  clear hb
  obtain ⟨i0, hi, hz0, hz1, hz2⟩ := info_parts Try.infoC
  have HI := Lib.hid hi
  have HZ0 := Lib.hid hz0
  have HZ1 := Lib.hid hz1
  have HZ2 := Lib.hid hz2
  clear hi hz0 hz1 hz2
  go_enter Try.func103, Try.ntmps103
  go_wp2
  go_loopw [3, 4] (fun o i wr => ∃ (k : Nat) (go : Nat) (co : Nat), k ≤ n ∧ i = .int .i64 k ∧ o = .slice (some ⟨go, 0, none⟩) k co ∧ OwnC wr w.heap.size wr.heap.size (some ⟨go, 0, none⟩) k co (cs.take k) ∧ Below w.heap.size w wr) (fun _ i _ => n - (intOf i).toNat)
  case atStart => exact ⟨0, w.heap.size, 0, Nat.zero_le _, rfl, rfl, by simpa using OwnC.made0 w, (Below.refl _ _).alloc (Nat.le_refl _) _⟩
  case round =>
    obtain ⟨k, go, co, hk, rfl, rfl, hown, hbel⟩ := hrel
    by_cases hlt : k < n
    · obtain ⟨b, off, Ai, ni, ci, rfl, hbB, h0, h1, _, _, hy⟩ := (HB.out.below hbel).at_ hlt
      obtain ⟨x, hx⟩ : ∃ x, cel cs k = x := ⟨_, rfl⟩
      have hnm := hm k
      have hpk := hp k hlt
      have hst := cel_take cs k (by omega)
      rw [hx] at h0 hy hnm hpk hst
      have hni := hy.1
      have Y := Lib.hid hy
      have HST := Lib.hid hst
      have OR := Lib.hid hown
      have BR := Lib.hid hbel
      have hs0 := hbel.size
      clear hy hown hbel hst
      go_wp2
      go_region_law (first
        | (refine step_append_lies _ rfl _ _ 67 rfl w.heap.size 123 i0 (.agg #[.int .i64 0, .slice none 0 0]) 2 32 Try.underlying67 HI.out HZ0.out HZ1.out HZ2.out rfl (by decide) (.slice (some ⟨go, 0, none⟩) k co) k (cvs k (cs.take k) sl) (by simp [Act.eval]) hrow ⟨w1.heap.size, 0, none⟩ 1 1 [.int .i64 x.1, .slice A1 n1 c1] (by simp [Act.eval]) rfl (by
              intro j u hj
              match j, hj with
              | 0, hj => simp at hj; subst hj; simp [Addr.add]
              | 1, hj => simp at hj; subst hj; simp [Addr.add]) (by intro u hu; simp at hu; rcases hu with rfl | rfl <;> rfl) (by omega) (by unfold maxLen; omega) (by omega) (by simp; omega) _ rfl ?_
           intro g6 c6 w6 hown6 hgrow6 hwh6 hlt6
           have h6 := OwnC.pushed hl hu hsub mx hxb hown6 hgrow6 hwh6 hhi (Nat.le_refl _)
           have b6 := B1.out.grown hgrow6 (by simp; omega) (fun g hg => (hrow.lt g hg).1))
        | (go_simp
           refine (l1Bytes_any Ai ni ci x.2 w.heap.size wr.drew (by omega) (by omega) hs0 Y.out.drew).mono ?_
           rintro e w1 ⟨A1, n1, c1, rfl, m1, b1⟩
           have hs1 : wr.heap.size ≤ w1.heap.size := b1.size
           have HK1 := HB.out.below ((BR.out.drew).trans (b1.mono hs0))
           obtain ⟨_, _, _, _, _, e1, _, h0, _⟩ := HK1.at_ hlt
           cases e1
           rw [hx] at h0
           have ba : Below w1.heap.size w1 (w1.alloc (.cells #[.int .i64 x.1, .slice A1 n1 c1] 123)) := (Below.refl _ _).alloc (Nat.le_refl _) _
           obtain ⟨hl, hu, sl, hrow, hsub⟩ := ((OR.out.below (below_drewN (Below.refl _ _) 1)).below b1).below (ba.mono hs1)
           have mx := (m1.below ba).base hs0
           have hxb : ∀ b, (Value.slice A1 n1 c1).ownBlock = some b → wr.heap.size ≤ b := fun b hb => (m1.1.lt b hb).1
           have B1 := Lib.hid ((BR.out.drew.trans (b1.mono hs0)).trans (ba.mono (Nat.le_trans hs0 hs1)))
           have hhi : wr.heap.size ≤ (w1.alloc (.cells #[.int .i64 x.1, .slice A1 n1 c1] 123)).heap.size := by simp; omega))
      all_goals
        rw [show ((x.1, x.2) : Int × List Int) = x from rfl, ← HST.out] at h6
        have H6 := Lib.hid h6
        have B6 := Lib.hid b6
        clear h6 b6 hown6 hgrow6 hwh6 hrow hsub mx hxb
        go_wp2
        go_roundw
        case rel => exact ⟨k + 1, _, _, by omega, by go_num, rfl, H6.out, B6.out⟩
        case measure => simp [intOf]; omega
    · obtain rfl : k = n := by omega
      rw [List.take_of_length_le (by omega)] at hown
      go_wp2
      go_ret
      exact ⟨_, _, _, rfl, hown, hbel⟩
end Go.Proofs.Ytebfinedkjlbbaa
