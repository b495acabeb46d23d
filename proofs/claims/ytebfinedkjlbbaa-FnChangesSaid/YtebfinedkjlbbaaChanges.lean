/- At every code of bytes: changes that were drawn are written by the program as by the model and read back as they were; bytes that were drawn are read by the program as by the model, and what is read is written as it was; a drawn change is right for the one as for the other; codes longer than 4096 the law lets by. -/
import Derived.Test.YtebfinedkjlbbaaRows
import Derived.Test.YtebfinedkjlbbaaPkH
import Derived.WalkKit
import Derived.ProofKit
import Derived.OpenShut
import Derived.ShutString
import Derived.ChangeOld
import Derived.Below
import Derived.WalkSmall
import Derived.Outline
namespace Go.Proofs.Ytebfinedkjlbbaa.fnChanges
set_option maxRecDepth 20000
set_option linter.unusedSimpArgs false
set_option linter.unusedVariables false
open Go.ChangeShapes Go.WideShapes Go.ChangeAt Go.RowKit
open Go.ChangeMaps (open_string shut_string)
set_option linter.unusedVariables false

theorem own : ownKnob Try.prog.godebug = none := by kernel_rfl
theorem laidOut : laidOutB Try.prog = true := by kernel_rfl

theorem fits_name {cs : List MChg} (h : ∀ x ∈ cs, Fit (-1) 36 x) : ∀ x ∈ cs, x.name ≤ 9223372036854775807 := fun x hx => (h x hx).2.2
theorem cx_all {cs : List MChg} (h : ∀ i, i < cs.length → ChgOk (cx cs i)) : ∀ x ∈ cs, ChgOk x := by
  intro x hx
  obtain ⟨i, hi, rfl⟩ := List.mem_iff_getElem.1 hx
  have := h i hi
  unfold cx at this
  rw [List.getElem?_eq_getElem hi] at this
  exact this
theorem back_is {cs : List MChg} {l : List Int} {lb : List MChg} {rb : Bool} (hi : ChangesIs cs l true) (hf : ∀ x ∈ cs, Fit (-1) 36 x) (h : FromIs l lb rb) : rb = true ∧ lb = cs := by
  rcases hi with ⟨⟨h1, h2⟩, rfl, _⟩ | ⟨_, _, h⟩
  · have hall := fromAll_bytes cs h1 (fun x hx => ⟨cx_all h2 x hx, fits_name hf x hx⟩)
    obtain ⟨h3, h4⟩ := FromIs.one h (.inl ⟨hall, rfl⟩)
    exact ⟨h4, h3⟩
  · cases h
theorem again_is {fs : List Int} {l : List MChg} {la : List Int} {ra : Bool} (hb : ∀ z ∈ fs, 0 ≤ z ∧ z ≤ 255) (h : FromIs fs l true) (hi : ChangesIs l la ra) : ra = true ∧ la = fs := by
  rcases h with ⟨h, _⟩ | ⟨_, _, h⟩
  · obtain ⟨h1, h2, h3⟩ := bytes_fromAll hb h
    have h4 : ChangesIs l fs true := .inl ⟨⟨h1, fun i hi => by
      unfold cx
      rw [List.getElem?_eq_getElem hi]
      exact h2 _ (List.getElem_mem hi)⟩, h3, rfl⟩
    obtain ⟨h5, h6⟩ := ChangesIs.one hi h4
    exact ⟨h6, h5⟩
  · cases h
theorem from_short {fs : List Int} {l : List MChg} {r : Bool} (h : FromIs fs l r) (i : Nat) : (cx l i).bytes.length ≤ 1048576 := by
  have h1 := h.bd.2
  unfold cx
  by_cases hi : i < l.length
  · rw [List.getElem?_eq_getElem hi]
    have := ok_len (h1 _ (List.getElem_mem hi))
    show (l[i]).bytes.length ≤ _
    omega
  · rw [List.getElem?_eq_none (by omega)]
    simp [chg0]

set_option maxHeartbeats 4000000 in
theorem walk0 (A : Option Addr) (n c : Nat) (cs : List Int) (w : World) (hn : n ≤ 4096) (hb : Byts w w.heap.size A n cs) :
    Calls Try.prog 8 #[.slice A n c] w fun e w' => e = .returned (.bool true) ∧ Below w.heap.size w w' := by
  have HB := Lib.hid hb
  clear hb
  go_enter Try.func8, Try.ntmps8
  go_wp2_with fail
  refine (big_no _ _ _ _ hn).mono ?_
  rintro e w' ⟨rfl, rfl⟩
  go_wp2_with fail
  refine (drawChangesBytes_any _ _ _ cs _ hn HB.out).mono ?_
  rintro e w1 ⟨ds, A1, n1, c1, rfl, o1, hn1, hft, b1⟩
  have s1 : w.heap.size ≤ w1.heap.size := b1.size
  have O1 := Lib.hid o1
  have FT := Lib.hid hft
  have B1 := Lib.hid b1
  have hcap1 := o1.cap
  have hnil1 := Lib.hid o1.nilc
  have hln1 := o1.len
  have CSZ := Lib.hid (fun i => (by have := cx_fit hft i; omega : (cx ds i).bytes.length ≤ 1048576))
  clear o1 hft b1
  go_wp2_with fail
  refine (implChangesBytes_any A1 n1 c1 ds _ w1 (by omega) hcap1 hnil1.out CSZ.out (Nat.le_refl _) O1.out.chs).mono ?_
  rintro e w2 ⟨A2, n2, c2, l2, r2, rfl, i2, m2, b2⟩
  have s2 : w1.heap.size ≤ w2.heap.size := b2.size
  have I2 := Lib.hid i2
  have M2 := Lib.hid m2
  have P2 := Lib.hid (O1.out.below b2)
  have B2 := Lib.hid (B1.out.trans (b2.mono s1))
  have hl2 := m2.len
  have hle2 := i2.len
  have hcap2 := mine_cap m2
  have hnil2 := Lib.hid (mine_none m2)
  clear i2 m2 b2
  go_wp2_with fail
  refine (specChangesBytes_any A1 n1 c1 ds _ w2 (by omega) CSZ.out s2 P2.out.chs).mono ?_
  rintro e w3 ⟨A3, n3, c3, l3, r3, rfl, i3, m3, b3⟩
  obtain ⟨rfl, rfl⟩ := ChangesIs.one i3 I2.out
  have s3 : w2.heap.size ≤ w3.heap.size := b3.size
  have M3 := Lib.hid m3
  have M2 := Lib.hid (M2.out.below b3)
  have P3 := Lib.hid (P2.out.below (b3.mono s2))
  have B3 := Lib.hid (B2.out.trans (b3.mono (by omega)))
  have HB3 := Lib.hid ((HB.out.below B3.out).more B3.out.size)
  clear i3 m3 b3
  go_wp2_with fail
  refine (drawChangesFrom_any _ _ _ cs w3 hn HB3.out).mono ?_
  rintro e w4 ⟨A4, n4, c4, fs, hn4, rfl, hc4, hA4, y4, b4⟩
  have s4 : w3.heap.size ≤ w4.heap.size := b4.size
  have Y4 := Lib.hid y4
  have M2 := Lib.hid (M2.out.below b4)
  have M3 := Lib.hid (M3.out.below b4)
  have P4 := Lib.hid (P3.out.below (b4.mono (by omega)))
  have B4 := Lib.hid (B3.out.trans (b4.mono (by omega)))
  have hnil4 := Lib.hid hA4
  clear y4 b4 hA4
  go_wp2_with fail
  refine (implChangesFrom_any A4 n4 c4 fs _ w4 (by omega) hc4 hnil4.out (Nat.le_refl _) Y4.out).mono ?_
  rintro e w5 ⟨A5, n5, c5, l5, r5, rfl, i5, o5, b5⟩
  have s5 : w4.heap.size ≤ w5.heap.size := b5.size
  have I5 := Lib.hid i5
  have O5 := Lib.hid o5
  have Y5 := Lib.hid (Y4.out.below b5)
  have M2 := Lib.hid (M2.out.below b5)
  have M3 := Lib.hid (M3.out.below b5)
  have P5 := Lib.hid (P4.out.below (b5.mono (by omega)))
  have B5 := Lib.hid (B4.out.trans (b5.mono (by omega)))
  have hl5 := o5.len
  have hle5 := i5.bd.1
  have hcap5 := o5.cap
  have hnil5 := Lib.hid o5.nilc
  clear i5 o5 b5
  go_wp2_with fail
  refine (specChangesFrom_any A4 n4 c4 fs _ w5 (by omega) hc4 s5 Y5.out).mono ?_
  rintro e w6 ⟨A6, n6, c6, l6, r6, rfl, i6, o6, b6⟩
  obtain ⟨rfl, rfl⟩ := FromIs.one i6 I5.out
  have s6 : w5.heap.size ≤ w6.heap.size := b6.size
  have O6 := Lib.hid o6
  have hl6 := o6.len
  obtain rfl : n6 = n5 := by omega
  have O5 := Lib.hid (O5.out.below b6)
  have Y6 := Lib.hid (Y5.out.below (b6.mono s5))
  have M2 := Lib.hid (M2.out.below b6)
  have M3 := Lib.hid (M3.out.below b6)
  have P6 := Lib.hid (P5.out.below (b6.mono (by omega)))
  have B6 := Lib.hid (B5.out.trans (b6.mono (by omega)))
  have HB6 := Lib.hid ((HB.out.below B6.out).more B6.out.size)
  clear i6 o6 b6
  go_wp2_with fail
  refine (drawChangeOk_any _ _ _ cs w6 hn HB6.out).mono ?_
  rintro e w7 ⟨x, A7, n7, c7, rfl, m7, hfx, b7⟩
  have s7 : w6.heap.size ≤ w7.heap.size := b7.size
  have hl7 := m7.len
  have hx7 := hfx.1
  have hcap7 := mine_cap m7
  have hnil7 := Lib.hid (mine_none m7)
  obtain ⟨w8, hw8⟩ : ∃ w8, w7.alloc (.cells #[.int .i64 x.kind, .int .i64 x.name, .slice A7 n7 c7] 44) = w8 := ⟨_, rfl⟩
  obtain ⟨gx, hgx⟩ : ∃ gx, w7.heap.size = gx := ⟨_, rfl⟩
  have b8 : Below w7.heap.size w7 w8 := hw8 ▸ (Below.refl _ _).alloc (Nat.le_refl _) _
  have XB := Lib.hid (show Box w8 gx 44 #[.int .i64 x.kind, .int .i64 x.name, .slice A7 n7 c7] by rw [← hw8, ← hgx]; exact heap_alloc_new _ _)
  have b8' : Below w6.heap.size w6 w8 := b7.trans (b8.mono s7)
  have s8 : w7.heap.size ≤ w8.heap.size := b8.size
  have M7 := Lib.hid (m7.below b8)
  have O5 := Lib.hid (O5.out.below (b8'.mono s6))
  have O6 := Lib.hid (O6.out.below b8')
  have Y8 := Lib.hid (Y6.out.below (b8'.mono (by omega)))
  have M2 := Lib.hid (M2.out.below b8')
  have M3 := Lib.hid (M3.out.below b8')
  have P8 := Lib.hid (P6.out.below (b8'.mono (by omega)))
  have B8 := Lib.hid (B6.out.trans (b8'.mono (by omega)))
  have HW8 := Lib.hid hw8
  have lx := XB.out.lt
  clear b7 b8 b8' m7 hfx hw8
  go_wp2_with fail
  try rw [HW8.out]
  have hok2 : ∀ b : Bool, (b != b) = false := fun b => by simp
  have px0 : ∀ W, Below w8.heap.size w8 W → W.cell? ⟨gx, 0, none⟩ = some (.int .i64 x.kind) := fun W hW => (XB.out.below hW lx).cell 0
  have px1 : ∀ W, Below w8.heap.size w8 W → W.cell? ⟨gx, 1, none⟩ = some (.int .i64 x.name) := fun W hW => (XB.out.below hW lx).cell 1
  have px2 : ∀ W, Below w8.heap.size w8 W → W.cell? ⟨gx, 2, none⟩ = some (.slice A7 n7 c7) := fun W hW => (XB.out.below hW lx).cell 2
  have b88 : Below w8.heap.size w8 w8 := Below.refl _ _
  go_region_held3 (fun W => Below w8.heap.size w8 W) (first | exact (Below.refl _ _).drew | assumption)
    (first
      | (go_at_call 23
         refine (likeBytes_yes _ _ _ _ _ _ l3 _ _ _ (M2.out.below ‹Below w8.heap.size w8 _›).byts (M3.out.below ‹Below w8.heap.size w8 _›).byts).mono ?_
         rintro e w' ⟨rfl, rfl⟩)
      | (go_at_call 48
         refine (likeChanges_yes _ _ _ _ _ l6 w5.heap.size w6.heap.size _ (by omega) (by have := Below.size ‹Below w8.heap.size w8 _›; omega) (by have := Below.size ‹Below w8.heap.size w8 _›; omega) ((O5.out.below (Below.mono ‹Below w8.heap.size w8 _› (by omega))).chs) ((O6.out.below (Below.mono ‹Below w8.heap.size w8 _› (by omega))).chs)).mono ?_
         rintro e wb ⟨rfl, bb⟩
         have hb : Below w8.heap.size w8 wb := Below.trans (by assumption) (Below.mono bb (Below.size (B := w8.heap.size) (w := w8) (by assumption))))
      | (go_at_call 33
         refine (implChangeOk_any x A7 n7 c7 _ _ (by omega) hcap7 hnil7.out (Nat.le_refl _) (M7.out.below hb).byts).mono ?_
         rintro e wc ⟨ra, rfl, hra, bc⟩
         have hc : Below w8.heap.size w8 wc := Below.trans hb (Below.mono bc (Below.size hb)))
      | (go_at_call 31
         refine (specChangeOk_any x A7 n7 c7 _ _ (by omega) hcap7 (Nat.le_refl _) (M7.out.below hc).byts).mono ?_
         rintro e wd ⟨rb, rfl, hrb, bd⟩
         have hrr : rb = ra := by cases ra <;> cases rb <;> simp_all
         subst hrr
         have h10 : Below w8.heap.size w8 wd := Below.trans hc (Below.mono bd (Below.size hc))))
  have s10 : w8.heap.size ≤ wd.heap.size := h10.size
  have M2 := Lib.hid (M2.out.below h10)
  have O5 := Lib.hid (O5.out.below (h10.mono (by omega)))
  have YD := Lib.hid (Y8.out.below (h10.mono (by omega)))
  have PD := Lib.hid (P8.out.below (h10.mono (by omega)))
  have BD := Lib.hid (B8.out.trans (h10.mono (by omega)))
  have RG := Lib.hid Y8.out.2.1
  have FSH := Lib.hid (from_short I5.out)
  clear px0 px1 px2 XB M7 M3 O6 hb hc h10 hok2 Y8 P8 B8 HW8 hra hrb
  cases r3 with
  | false =>
    go_wp2_with fail
    refine (implChangesBytes_any A5 n6 c5 l6 _ wd (by omega) hcap5 hnil5.out FSH.out (show w5.heap.size ≤ wd.heap.size by omega) O5.out.chs).mono ?_
    rintro e we ⟨Ae, ne, ce, la, ra, rfl, ia, ma, be⟩
    have IA := Lib.hid ia
    have MA := Lib.hid ma
    have YE := Lib.hid (YD.out.below (be.mono (by omega)))
    have BE := Lib.hid (BD.out.trans (be.mono (by omega)))
    clear ia ma be
    cases r6 with
    | false =>
      go_wp2_with fail
      go_ret
      exact ⟨rfl, BE.out⟩
    | true =>
      obtain ⟨rfl, rfl⟩ := again_is RG.out I5.out IA.out
      go_wp2_with fail
      refine (likeBytes_yes _ _ _ _ _ _ la _ _ we MA.out.byts YE.out).mono ?_
      rintro e w' ⟨rfl, rfl⟩
      go_wp2_with fail
      go_ret
      exact ⟨rfl, BE.out⟩
  | true =>
    go_wp2_with fail
    refine (implChangesFrom_any A2 n2 c2 l3 _ wd (by omega) hcap2 hnil2.out (Nat.le_refl _) M2.out.byts).mono ?_
    rintro e wf ⟨Af, nf, cf, lb, rb, rfl, ib, ob, bf⟩
    obtain ⟨rfl, rfl⟩ := back_is I2.out FT.out ib
    have sf : wd.heap.size ≤ wf.heap.size := bf.size
    have OB := Lib.hid ob
    have hlb := ob.len
    have PF := Lib.hid (PD.out.below (bf.mono (by omega)))
    have O5 := Lib.hid (O5.out.below (bf.mono (by omega)))
    have YD := Lib.hid (YD.out.below (bf.mono (by omega)))
    have BD := Lib.hid (BD.out.trans (bf.mono (by omega)))
    obtain rfl : nf = n1 := by omega
    clear ib ob bf
    go_wp2_with fail
    refine (likeChanges_yes Af A1 nf cf c1 lb wf.heap.size w1.heap.size wf (by omega) (Nat.le_refl _) (by omega) OB.out.chs PF.out.chs).mono ?_
    rintro e wg ⟨rfl, bg⟩
    have sg : wf.heap.size ≤ wg.heap.size := bg.size
    have O5 := Lib.hid (O5.out.below (bg.mono (by omega)))
    have YD := Lib.hid (YD.out.below (bg.mono (by omega)))
    have BD := Lib.hid (BD.out.trans (bg.mono (by omega)))
    clear bg
    go_wp2_with fail
    refine (implChangesBytes_any A5 n6 c5 l6 _ wg (by omega) hcap5 hnil5.out FSH.out (show w5.heap.size ≤ wg.heap.size by omega) O5.out.chs).mono ?_
    rintro e we ⟨Ae, ne, ce, la, ra, rfl, ia, ma, be⟩
    have IA := Lib.hid ia
    have MA := Lib.hid ma
    have YE := Lib.hid (YD.out.below (be.mono (by omega)))
    have BE := Lib.hid (BD.out.trans (be.mono (by omega)))
    clear ia ma be
    cases r6 with
    | false =>
      go_wp2_with fail
      go_ret
      exact ⟨rfl, BE.out⟩
    | true =>
      obtain ⟨rfl, rfl⟩ := again_is RG.out I5.out IA.out
      go_wp2_with fail
      refine (likeBytes_yes _ _ _ _ _ _ la _ _ we MA.out.byts YE.out).mono ?_
      rintro e w' ⟨rfl, rfl⟩
      go_wp2_with fail
      go_ret
      exact ⟨rfl, BE.out⟩

theorem walk (a0 : Option Addr) (len0 cap0 : Nat) (z0 : List Int) (w : World) (w0 : IsRow .u8 w a0 len0 cap0 z0) :
    Calls Try.prog 8 #[.slice a0 len0 cap0] w fun e w' => e = .returned (.bool true) ∧ Below w.heap.size w w' := by
  have hle := w0.len_le
  by_cases hbig : 4096 < len0
  · clear w0
    go_enter Try.func8, Try.ntmps8
    go_wp2_with fail
    refine (big_yes _ _ _ _ hbig).mono ?_
    rintro e w' ⟨rfl, rfl⟩
    go_wp2
    go_ret
    exact ⟨rfl, Below.refl _ _⟩
  · exact walk0 a0 len0 cap0 _ w (by omega) w0.byts

/-! ### THE ROW's STEP: WRITTEN OUT: LEAVE IT -/
set_option maxRecDepth 100000 in
theorem lifted (os : Os) (started : os.Started) (H : Type) (enc : TypeId × Value → H) :
    ReturnsInHanded {} Try.checked os 8 .any (Rows.fnChangesSpec.pre6 enc Try.prog Try.f8 Rows.fnChangesRow.domain false) (Rows.fnChangesSpec.post enc Try.prog Try.f8 false true false false) := by
  refine returnsInHanded_of_change (C := Try.checked) own started (by kernel_rfl) Try.func8
    (ChangeSpec.witness6 (enc := enc) (C := Try.checked) false ⟨#[], #[.slice none 0 0], []⟩ 8 (by kernel_rfl) (by kernel_rfl) (by kernel_rfl) (by kernel_rfl)) ?_
  intro W base args ds gs before hval0 hW hcnd _
  have hval : ∀ (j : Nat) t v, Try.f8.params[j]? = some t → args[j]? = some v → Value.okWide Try.prog W .any base t v := hval0
  have hW' := hW
  obtain ⟨p, q, hA0, hV, rfl, hfz, hnd⟩ := hW
  have hA : DataW.TrodAll enc Try.prog W 0 (fun _ => true) true Try.f8.params.toList args.toList ds p := hA0
  rw [Try.params8] at hA hval
  obtain ⟨v0, vs0, d0, ds0, p0, q0, hargs, rfl, rfl, h0, r0⟩ := trodAll_cons hA
  obtain ⟨rfl, rfl, rfl⟩ := trodAll_nil r0
  obtain rfl : args = #[v0] := by cases args; simp_all
  obtain ⟨rfl, rfl⟩ := trodVars_none hV
  obtain ⟨a0, len0, cap0, rfl⟩ := okWide_slice Try.underlying22 (hval 0 22 v0 rfl rfl)
  have k0 := h0
  have lt0 : ∀ x ∈ p0, x.block < W.heap.size := by obtain ⟨m, hm⟩ := k0; exact DataW.trod_lt m _ _ _ hm
  obtain ⟨z0, w0⟩ : ∃ zs, IsRow .u8 W a0 len0 cap0 zs := by
    obtain ⟨fuel, hf⟩ := h0
    rcases open_ints Try.underlying22 Try.underlying5 (by kernel_rfl) hf with ⟨hcs, _⟩ | ⟨x, l, c, zs, hcs, _, hl, hm, hz, _, hcell, hwz⟩
    · simp [Value.cells] at hcs
      obtain ⟨rfl, rfl, rfl⟩ := hcs
      exact ⟨[], .inl ⟨rfl, rfl, rfl, rfl⟩⟩
    · simp [Value.cells] at hcs
      obtain ⟨rfl, rfl, rfl⟩ := hcs
      exact ⟨zs, .inr ⟨_, rfl, hl, hm, by simpa using hz, hcell, hwz⟩⟩
  clear hA0 hval0
  refine (walk a0 len0 cap0 z0 W w0).mono fun e W' ⟨he, bel⟩ => ?_
  subst he
  exact ⟨_, rfl, _, _, _, [], _, [], hW', trodAll_mk1 (shut_bool Try.underlying4 _), (trodAll_cons_mk (Below.trod laidOut (by kernel_rfl) (of_decide_eq_true (by kernel_rfl)) k0 bel lt0) trodAll_mk0), rfl, bel.frame _, fun h => by cases h⟩

theorem over : Rows.fnChangesRow.holds Try.pinned (OpenSpec.ofChange Rows.fnChangesSpec) :=
  OpenClaim.holds_of_wide 8 Try.f8 rfl rfl rfl rfl rfl rfl rfl ⟨rfl, rfl, rfl, rfl, rfl⟩ rfl rfl rfl rfl rfl (by kernel_rfl) Try.func8 (by kernel_rfl)
    (of_decide_eq_true (by kernel_rfl)) (by unfold Func.isWrapper; first | (rw [if_pos (by decide +kernel)]; kernel_rfl) | (rw [if_neg (by decide +kernel)]; exact ⟨rfl, rfl⟩))
    (fun os started H enc _ => lifted os started H enc)

/-- ████ THE STATEMENT ████ -/
theorem proved : Rows.FnChangesSaid := over
#print axioms proved
end Go.Proofs.Ytebfinedkjlbbaa.fnChanges
