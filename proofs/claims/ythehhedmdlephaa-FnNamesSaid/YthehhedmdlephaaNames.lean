/- At every code of bytes: what chapter 1 writes of a name is read as it, what is read is written as it was, the sums are the model's, and one other byte makes another name; codes longer than 4096 the law lets by. -/
import Derived.Test.YthehhedmdlephaaRows
import Derived.Test.YthehhedmdlephaaNameM
import Derived.Test.YthehhedmdlephaaOdd1
import Derived.Test.YthehhedmdlephaaLike
import Derived.WalkKit
import Derived.ProofKit
import Derived.OpenShut
import Derived.ShutString
import Derived.ChangeOld
import Derived.Below
import Derived.WalkSmall
import Derived.Outline
namespace Go.Proofs.Ythehhedmdlephaa.fnNames
open Go.ChangeShapes Go.WideShapes Go.ChangeAt Go.RowKit
open Go.ChangeMaps (open_string shut_string)
set_option linter.unusedVariables false

theorem own : ownKnob Try.prog.godebug = none := by kernel_rfl
theorem laidOut : laidOutB Try.prog = true := by kernel_rfl

/-- what is read of some bytes, by the program as by the model. -/
theorem both_from (fs : List Int) (n : Nat) (hr : ∀ z ∈ fs, 0 ≤ z ∧ z ≤ 255) (hl : fs.length = n) :
    ∃ (v : Int) (b : Bool),
      (∀ (A : Option Addr) (c B : Nat) (W : World), Byts W B A n fs → Calls Try.prog 12 #[.slice A n c] W fun e w' => e = .returned (.tuple #[.int .i64 v, .bool b]) ∧ W = w') ∧
      (∀ (A : Option Addr) (c B : Nat) (W : World), Byts W B A n fs → Calls Try.prog 13 #[.slice A n c] W fun e w' => e = .returned (.tuple #[.int .i64 v, .bool b]) ∧ W = w') ∧
      (b = true → nameBytes v = fs) := by
  by_cases h8 : n = 8
  · subst h8
    by_cases h7 : fs[7]?.getD 0 ≤ (127 : Int)
    · exact ⟨leVal fs, true, fun A c B W h => from_yes A c fs B W h h7, fun A c B W h => specFrom_yes A c fs B W h h7, fun _ => bytes_of_back fs hr hl h7⟩
    · exact ⟨0, false, fun A c B W h => from_high A c fs B W h (by omega), fun A c B W h => specFrom_high A c fs B W h (by omega), fun h => by cases h⟩
  · exact ⟨0, false, fun A c B W _ => from_no_len A n c W h8, fun A c B W _ => specFrom_no_len A n c W h8, fun h => by cases h⟩

theorem walk0 (A : Option Addr) (n c : Nat) (cs : List Int) (w : World) (hn : n ≤ 4096) (hb : Byts w w.heap.size A n cs) :
    Calls Try.prog 3 #[.slice A n c] w fun e w' => e = .returned (.bool true) ∧ Below w.heap.size w w' := by
  have HB := Lib.hid hb
  clear hb
  go_enter Try.func3, Try.ntmps3
  go_wp2_with fail
  refine (big_no _ _ _ _ hn).mono ?_
  rintro e w' ⟨rfl, rfl⟩
  go_wp2_with fail
  refine (drawNameOf_any _ _ _ cs _ hn HB.out).mono ?_
  rintro e w1 ⟨A1, n1, c1, zs, hn1, rfl, m1, b1⟩
  have M1 := Lib.hid m1
  have B1 := Lib.hid b1
  clear m1 b1
  go_wp2_with fail
  refine (name_any _ _ _ zs _ _ (by omega) M1.out.byts).mono ?_
  rintro e w' ⟨rfl, rfl⟩
  have hN := nameOf_bd zs
  go_wp2_with fail
  refine (drawNameBytes_any _ _ _ cs _ hn ((HB.out.below B1.out).more B1.out.size)).mono ?_
  rintro e w2 ⟨x, rfl, b2⟩
  have M2 := Lib.hid (M1.out.below b2)
  have B2 := Lib.hid (B1.out.trans (b2.mono B1.out.size))
  clear b2
  go_wp2_with fail
  refine (drawNameFrom_any _ _ _ cs _ hn ((HB.out.below B2.out).more B2.out.size)).mono ?_
  rintro e w3 ⟨A3, n3, c3, fs, hn3, rfl, m3, b3⟩
  have M3 := Lib.hid (M2.out.below b3)
  have F3 := Lib.hid m3
  have B3 := Lib.hid (B2.out.trans (b3.mono B2.out.size))
  clear m3 b3
  obtain ⟨v, b, hi, hs, hv⟩ := both_from fs n3 F3.out.2 F3.out.len
  have HI := Lib.hid hi
  have HS := Lib.hid hs
  have HV := Lib.hid hv
  clear hi hs hv
  go_wp2_with fail
  refine (HI.out _ _ _ _ F3.out.byts).mono ?_
  rintro e w' ⟨rfl, rfl⟩
  go_wp2_with fail
  refine (HS.out _ _ _ _ F3.out.byts).mono ?_
  rintro e w' ⟨rfl, rfl⟩
  go_wp2_with fail
  refine (specName_any _ _ _ zs _ _ (by omega) M3.out.byts).mono ?_
  rintro e w' ⟨rfl, rfl⟩
  go_wp2_with fail
  refine (bytes_any x _).mono ?_
  rintro e w4 ⟨A4, n4, c4, rfl, m4, b4⟩
  have X4 := Lib.hid m4
  have M4 := Lib.hid (M3.out.below b4)
  have F4 := Lib.hid (F3.out.below b4)
  have B4 := Lib.hid (B3.out.trans (b4.mono B3.out.size))
  clear m4 b4
  go_wp2_with fail
  refine (specBytes_any x _).mono ?_
  rintro e w5 ⟨A5, n5, c5, rfl, m5, b5⟩
  have X5 := Lib.hid m5
  have X45 := Lib.hid (X4.out.below b5)
  have M5 := Lib.hid (M4.out.below b5)
  have F5 := Lib.hid (F4.out.below b5)
  have B5 := Lib.hid (B4.out.trans (b5.mono B4.out.size))
  clear m5 b5
  go_wp2_with fail
  refine (likeBytes_yes _ _ _ _ _ _ _ _ _ _ X45.out.byts X5.out.byts).mono ?_
  rintro e w' ⟨rfl, rfl⟩
  have hback := back_of_bytes (nameOf zs) (by omega)
  have hfr : ∀ (A : Option Addr) (c B : Nat) (W : World), Byts W B A 8 (nameBytes (nameOf zs)) → Calls Try.prog 12 #[.slice A 8 c] W fun e w' => e = .returned (.tuple #[.int .i64 (nameOf zs), .bool true]) ∧ W = w' := by
    intro A c B W h
    have h1 := from_yes A c _ B W h hback.2.2
    rw [hback.1] at h1
    exact h1
  have HF := Lib.hid hfr
  have HL := Lib.hid hback.2.1
  clear hfr hback
  go_wp2_with fail
  refine (bytes_any (nameOf zs) _).mono ?_
  rintro e w6 ⟨A6, n6, c6, rfl, m6, b6⟩
  obtain rfl : n6 = 8 := by have := m6.len; have := HL.out; omega
  have M6 := Lib.hid (M5.out.below b6)
  have F6 := Lib.hid (F5.out.below b6)
  have N6 := Lib.hid m6
  have B6 := Lib.hid (B5.out.trans (b6.mono B5.out.size))
  clear m6 b6
  go_wp2_with fail
  refine (HF.out _ _ _ _ N6.out.byts).mono ?_
  rintro e w' ⟨rfl, rfl⟩
  have hne : ∀ k, k < n1 → nameOf (zs.set k ((zs[k]?.getD 0 + 1) % 256)) ≠ nameOf zs := fun k hk => nameOf_set zs M6.out.2 k (by have := M6.out.len; omega)
  have HN := Lib.hid hne
  obtain ⟨i0, hi, hz0, hz1, hz2⟩ := info_parts Try.info5
  have HI0 := Lib.hid hi
  have HZ0 := Lib.hid hz0
  have HZ1 := Lib.hid hz1
  have HZ2 := Lib.hid hz2
  clear hne hi hz0 hz1 hz2
  cases b
  · go_wp2_with fail
    have MZ := M6
    have BZ := B6
    go_loopw [13] (fun i wr => ∃ k : Nat, k ≤ n1 ∧ i = .int .i64 k ∧ Mine wr w.heap.size A1 n1 c1 zs ∧ Below w.heap.size w wr) (fun i _ => n1 - (intOf i).toNat)
    case atStart => exact ⟨0, Nat.zero_le _, rfl, MZ.out, BZ.out⟩
    case round =>
      obtain ⟨k, hk, rfl, hm, hbr⟩ := hrel
      have MR := Lib.hid hm
      have BR := Lib.hid hbr
      clear hm hbr
      by_cases hkn : k < n1
      · obtain ⟨gz, rfl, hgz, hgzl⟩ := MR.out.form (by omega)
        have hown := (Mine.empty wr).1
        have hsrc : ∀ j u, (zs.map (Value.int .u8))[j]? = some u → (wr.alloc (.cells #[] 5)).cell? ((⟨gz, 0, none⟩ : Addr).add j) = some u := World.ownsRow.cells (MR.out.1.alloc _) (g := gz) rfl
        have HSRC := Lib.hid hsrc
        clear hsrc
        go_wp2_with (at_builtin; refine wpList_append_own _ rfl _ _ 22 rfl wr.heap.size 5 i0 (.int .u8 0) 1 1 Try.underlying22 HI0.out HZ0.out HZ1.out HZ2.out rfl (by decide) _ _ _ rfl hown ⟨gz, 0, none⟩ n1 c1 (zs.map (Value.int .u8)) rfl (by have := MR.out.len; simp [this]) ?c1 ?c2 ?c3 ?c4 ?c5 ?_)
        case c1 => exact HSRC.out
        case c2 => exact ints_oneCell _ _
        case c3 => unfold maxLen; omega
        case c4 => omega
        case c5 => simp
        intro v' w8 hown' hgrow _
        have hform := hown'.form (by omega)
        have hbel : Below wr.heap.size wr w8 := ((Below.refl _ _).alloc (Nat.le_refl _) _).grown hgrow (by simp) (fun r hr => by simp [Value.ownBlock] at hr; omega)
        obtain ⟨gc, cap, rfl, hgc, hgcl⟩ := hform
        have hmc : Mine w8 wr.heap.size (some ⟨gc, 0, none⟩) n1 cap zs := ⟨hown', MR.out.2⟩
        have hcc := hmc.cell hkn
        have hfc := hmc.free k
        have hrg := MR.out.byts.range k
        have SC := Lib.hid (hmc.set_ k ((zs[k]?.getD 0 + 1) % 256) (by omega))
        have B8 := Lib.hid hbel
        have hnk := HN.out k hkn
        clear hown hown' hgrow hbel hmc
        go_wp2_with fail
        refine (name_any _ _ _ _ _ _ (by omega) SC.out.1.byts).mono ?_
        rintro e w' ⟨rfl, rfl⟩
        go_wp2
        go_roundw
        case rel => exact ⟨k + 1, by omega, by go_num, MR.out.below (B8.out.trans (grown_below SC.out.2 B8.out.size hgc)), BR.out.trans ((B8.out.trans (grown_below SC.out.2 B8.out.size hgc)).mono BR.out.size)⟩
        case measure => simp [intOf]; omega
      · go_wp2
        go_ret
        exact ⟨rfl, BR.out⟩
  · go_wp2_with fail
    refine (bytes_any v _).mono ?_
    rintro e w7 ⟨A7, n7, c7, rfl, m7, b7⟩
    rw [HV.out trivial] at m7
    have X7 := Lib.hid m7
    have M7 := Lib.hid (M6.out.below b7)
    have F7 := Lib.hid (F6.out.below b7)
    have B7 := Lib.hid (B6.out.trans (b7.mono B6.out.size))
    clear m7 b7
    go_wp2_with fail
    refine (likeBytes_yes _ _ _ _ _ _ _ _ _ _ X7.out.byts F7.out.byts).mono ?_
    rintro e w' ⟨rfl, rfl⟩
    go_wp2_with fail
    have MZ := M7
    have BZ := B7
    go_loopw [13] (fun i wr => ∃ k : Nat, k ≤ n1 ∧ i = .int .i64 k ∧ Mine wr w.heap.size A1 n1 c1 zs ∧ Below w.heap.size w wr) (fun i _ => n1 - (intOf i).toNat)
    case atStart => exact ⟨0, Nat.zero_le _, rfl, MZ.out, BZ.out⟩
    case round =>
      obtain ⟨k, hk, rfl, hm, hbr⟩ := hrel
      have MR := Lib.hid hm
      have BR := Lib.hid hbr
      clear hm hbr
      by_cases hkn : k < n1
      · obtain ⟨gz, rfl, hgz, hgzl⟩ := MR.out.form (by omega)
        have hown := (Mine.empty wr).1
        have hsrc : ∀ j u, (zs.map (Value.int .u8))[j]? = some u → (wr.alloc (.cells #[] 5)).cell? ((⟨gz, 0, none⟩ : Addr).add j) = some u := World.ownsRow.cells (MR.out.1.alloc _) (g := gz) rfl
        have HSRC := Lib.hid hsrc
        clear hsrc
        go_wp2_with (at_builtin; refine wpList_append_own _ rfl _ _ 22 rfl wr.heap.size 5 i0 (.int .u8 0) 1 1 Try.underlying22 HI0.out HZ0.out HZ1.out HZ2.out rfl (by decide) _ _ _ rfl hown ⟨gz, 0, none⟩ n1 c1 (zs.map (Value.int .u8)) rfl (by have := MR.out.len; simp [this]) ?d1 ?d2 ?d3 ?d4 ?d5 ?_)
        case d1 => exact HSRC.out
        case d2 => exact ints_oneCell _ _
        case d3 => unfold maxLen; omega
        case d4 => omega
        case d5 => simp
        intro v' w8 hown' hgrow _
        have hform := hown'.form (by omega)
        have hbel : Below wr.heap.size wr w8 := ((Below.refl _ _).alloc (Nat.le_refl _) _).grown hgrow (by simp) (fun r hr => by simp [Value.ownBlock] at hr; omega)
        obtain ⟨gc, cap, rfl, hgc, hgcl⟩ := hform
        have hmc : Mine w8 wr.heap.size (some ⟨gc, 0, none⟩) n1 cap zs := ⟨hown', MR.out.2⟩
        have hcc := hmc.cell hkn
        have hfc := hmc.free k
        have hrg := MR.out.byts.range k
        have SC := Lib.hid (hmc.set_ k ((zs[k]?.getD 0 + 1) % 256) (by omega))
        have B8 := Lib.hid hbel
        have hnk := HN.out k hkn
        clear hown hown' hgrow hbel hmc
        go_wp2_with fail
        refine (name_any _ _ _ _ _ _ (by omega) SC.out.1.byts).mono ?_
        rintro e w' ⟨rfl, rfl⟩
        go_wp2
        go_roundw
        case rel => exact ⟨k + 1, by omega, by go_num, MR.out.below (B8.out.trans (grown_below SC.out.2 B8.out.size hgc)), BR.out.trans ((B8.out.trans (grown_below SC.out.2 B8.out.size hgc)).mono BR.out.size)⟩
        case measure => simp [intOf]; omega
      · go_wp2
        go_ret
        exact ⟨rfl, BR.out⟩

theorem walk (a0 : Option Addr) (len0 cap0 : Nat) (z0 : List Int) (w : World) (w0 : IsRow .u8 w a0 len0 cap0 z0) :
    Calls Try.prog 3 #[.slice a0 len0 cap0] w fun e w' => e = .returned (.bool true) ∧ Below w.heap.size w w' := by
  have hle := w0.len_le
  by_cases hbig : 4096 < len0
  · clear w0
    go_enter Try.func3, Try.ntmps3
    go_wp2_with fail
    refine (big_yes _ _ _ _ hbig).mono ?_
    rintro e w' ⟨rfl, rfl⟩
    go_wp2
    go_ret
    exact ⟨rfl, Below.refl _ _⟩
  · exact walk0 a0 len0 cap0 _ w (by omega) w0.byts

/-! ### THE ROW's STEP: WRITTEN OUT: LEAVE IT -/
set_option maxRecDepth 100000 in
theorem lifted (os : Os) (started : os.Started) (H : Type) (enc : TypeId × Value → H) :
    ReturnsInHanded {} Try.checked os 3 .any (Rows.fnNamesSpec.pre6 enc Try.prog Try.f3 Rows.fnNamesRow.domain false) (Rows.fnNamesSpec.post enc Try.prog Try.f3 false true false false) := by
  refine returnsInHanded_of_change (C := Try.checked) own started (by kernel_rfl) Try.func3
    (ChangeSpec.witness6 (enc := enc) (C := Try.checked) false ⟨#[], #[.slice none 0 0], []⟩ 8 (by kernel_rfl) (by kernel_rfl) (by kernel_rfl) (by kernel_rfl)) ?_
  intro W base args ds gs before hval0 hW hcnd _
  have hval : ∀ (j : Nat) t v, Try.f3.params[j]? = some t → args[j]? = some v → Value.okWide Try.prog W .any base t v := hval0
  have hW' := hW
  obtain ⟨p, q, hA0, hV, rfl, hfz, hnd⟩ := hW
  have hA : DataW.TrodAll enc Try.prog W 0 (fun _ => true) true Try.f3.params.toList args.toList ds p := hA0
  rw [Try.params3] at hA hval
  obtain ⟨v0, vs0, d0, ds0, p0, q0, hargs, rfl, rfl, h0, r0⟩ := trodAll_cons hA
  obtain ⟨rfl, rfl, rfl⟩ := trodAll_nil r0
  obtain rfl : args = #[v0] := by cases args; simp_all
  obtain ⟨rfl, rfl⟩ := trodVars_none hV
  obtain ⟨a0, len0, cap0, rfl⟩ := okWide_slice Try.underlying22 (hval 0 22 v0 rfl rfl)
  have k0 := h0
  have lt0 : ∀ x ∈ p0, x.block < W.heap.size := by obtain ⟨m, hm⟩ := k0; exact DataW.trod_lt m _ _ _ hm
  obtain ⟨z0, w0⟩ : ∃ zs, IsRow .u8 W a0 len0 cap0 zs := by
    obtain ⟨fuel, hf⟩ := h0
    rcases open_ints Try.underlying22 Try.underlying5 (by kernel_rfl) hf with ⟨hcs, _⟩ | ⟨x, l, c, zs, hcs, _, hl, hm, hz, _, hcell, hwz⟩
    · simp [Value.cells] at hcs
      obtain ⟨rfl, rfl, rfl⟩ := hcs
      exact ⟨[], .inl ⟨rfl, rfl, rfl, rfl⟩⟩
    · simp [Value.cells] at hcs
      obtain ⟨rfl, rfl, rfl⟩ := hcs
      exact ⟨zs, .inr ⟨_, rfl, hl, hm, by simpa using hz, hcell, hwz⟩⟩
  clear hA0 hval0
  refine (walk a0 len0 cap0 z0 W w0).mono fun e W' ⟨he, bel⟩ => ?_
  subst he
  exact ⟨_, rfl, _, _, _, [], _, [], hW', trodAll_mk1 (shut_bool Try.underlying4 _), (trodAll_cons_mk (Below.trod laidOut (by kernel_rfl) (of_decide_eq_true (by kernel_rfl)) k0 bel lt0) trodAll_mk0), rfl, bel.frame _, fun h => by cases h⟩

theorem over : Rows.fnNamesRow.holds Try.pinned (OpenSpec.ofChange Rows.fnNamesSpec) :=
  OpenClaim.holds_of_wide 3 Try.f3 rfl rfl rfl rfl rfl rfl rfl ⟨rfl, rfl, rfl, rfl, rfl⟩ rfl rfl rfl rfl rfl (by kernel_rfl) Try.func3 (by kernel_rfl)
    (of_decide_eq_true (by kernel_rfl)) (by unfold Func.isWrapper; first | (rw [if_pos (by decide +kernel)]; kernel_rfl) | (rw [if_neg (by decide +kernel)]; exact ⟨rfl, rfl⟩))
    (fun os started H enc _ => lifted os started H enc)

/-- ████ THE STATEMENT ████ -/
theorem proved : Rows.FnNamesSaid := over
#print axioms proved
end Go.Proofs.Ythehhedmdlephaa.fnNames
